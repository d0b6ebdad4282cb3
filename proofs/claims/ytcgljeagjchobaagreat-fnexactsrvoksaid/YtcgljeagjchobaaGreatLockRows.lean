/-
  Whether a server is right: no program in sight.
  The first place where it holds: no program in sight.
  What slices.IndexFunc at things does, and slices.ContainsFunc.
  A lock in a box.
  Out of many choices a list.
  copy and append of elements of several cells.
  Rows of locks whose paths lie elsewhere.
-/
import Derived.Test.YtcgljeagjchobaaGreatGenSrv
import Derived.Test.YtcgljeagjchobaaGreatMathLocks
import Derived.Test.YtcgljeagjchobaaGreatTurn
import Derived.Test.YtcgljeagjchobaaGreatRows
import Derived.WalkKit
import Derived.Test.YtcgljeagjchobaaGreatRess
import Derived.Test.YtcgljeagjchobaaGreatLocks
import Derived.Below
import Derived.Deep.OwnRows
import Derived.Laws.CopyRow
import Derived.Laws.CopyOwn
import Derived.Lib.AppendZerosOnto
import Derived.Lib.Overlaps
import Derived.Laws.Externs
import Derived.Shelf.Spec.SlicesInsert
import Derived.Deep.RegionLaw
import Derived.Test.YtcgljeagjchobaaGreatGenBox
import Derived.Maps.AppendAt
import Derived.Laws.OwnMore
namespace Go.Proofs.YtcgljeagjchobaaGreat
open Go.RowKit M
set_option linter.unusedVariables false

/-- All versions are below the next one. -/
def versB (t : List Rs) (v : Int) : Bool := t.all fun r => decide (r.ve < v)
/-- All tokens were drawn. -/
def drewB (l : List Lk) (us : List Int) : Bool := l.all fun x => us.any (· == x.tk)
def ltI (a b : Int) : Bool := decide (a < b)
/-- Numbers 1 .. 9999, ascending. -/
def usedB (us : List Int) : Bool := us.all (fun n => inB n 1 9999) && ascB ltI us
def srvB (s : Sv) : Bool := treeB s.t && (versB s.t s.ver && (locksB s.l && (drewB s.l s.us && (inB s.now 0 9999999 && (inB s.ver 1 100000 && (decide (s.dr.length ≤ 20) && usedB s.us))))))

theorem all_to {α : Type} {P : α → Bool} {l : List α} {k : Nat} (h : ∀ j (hj : j < l.length), j < k → P l[j] = true) (hk : l.length ≤ k) : l.all P = true := by
  rw [List.all_eq_true]
  intro x hx
  obtain ⟨j, hj, rfl⟩ := List.mem_iff_getElem.1 hx
  exact h j hj (by omega)
theorem all_not {α : Type} {P : α → Bool} {l : List α} {k : Nat} (hk : k < l.length) (h : P l[k] = false) : l.all P = false := by
  rw [Bool.eq_false_iff]
  intro e
  rw [List.all_eq_true.1 e _ (List.getElem_mem hk)] at h
  cases h
theorem any_all {α : Type} (P : α → Bool) (l : List α) : l.any P = !(l.all fun x => !P x) := by
  induction l with
  | nil => rfl
  | cons x r ih => simp only [List.any_cons, List.all_cons, ih, Bool.not_and, Bool.not_not]
theorem usedB_to {l : List Int} (h : ∀ i (hi : i < l.length), inB l[i] 1 9999 = true ∧ (∀ h0 : 0 < i, l[i - 1] < l[i])) : usedB l = true := by
  unfold usedB
  rw [all_to (k := l.length) (fun j hj _ => (h j hj).1) (Nat.le_refl _), ascB_all ltI l (fun i hi => by have := (h (i + 1) hi).2 (Nat.succ_pos _); unfold ltI; exact decide_eq_true (by simpa using this))]
  rfl
theorem usedB_not {l : List Int} {i : Nat} (hi : i < l.length) (h : inB l[i] 1 9999 = false) : usedB l = false := by
  unfold usedB
  rw [all_not (P := fun n => inB n 1 9999) hi h]
  rfl
theorem usedB_asc {l : List Int} {i : Nat} (hi : i < l.length) (h0 : 0 < i) (h : ¬ l[i - 1] < l[i]) : usedB l = false := by
  unfold usedB
  have h1 : i - 1 + 1 = i := by omega
  rw [ascB_not ltI l (i - 1) (by omega) (by unfold ltI; exact decide_eq_false (by simp only [h1]; exact h)), Bool.and_false]
/-- Another order. -/
theorem srvB_spec (s : Sv) : srvB s = (versB s.t s.ver && (drewB s.l s.us && (usedB s.us && (treeB s.t && (locksB s.l && (inB s.now 0 9999999 && (inB s.ver 1 100000 && decide (s.dr.length ≤ 20)))))))) := by
  unfold srvB
  cases treeB s.t <;> cases versB s.t s.ver <;> cases locksB s.l <;> cases drewB s.l s.us <;> cases inB s.now 0 9999999 <;> cases inB s.ver 1 100000 <;> cases decide (s.dr.length ≤ 20) <;> cases usedB s.us <;> rfl
end Go.Proofs.YtcgljeagjchobaaGreat
namespace Go.Proofs.YtcgljeagjchobaaGreat
open Go.RowKit
set_option linter.unusedVariables false

/-- The first place, or -1. -/
def placeB {α : Type} (P : α → Bool) (l : List α) (z : Int) : Prop := (z = -1 ∧ l.any P = false) ∨ ∃ k : Nat, z = k ∧ ∃ hk : k < l.length, P l[k] = true ∧ ∀ j (hj : j < l.length), j < k → P l[j] = false
theorem any_none {α : Type} {P : α → Bool} {l : List α} (h : ∀ j (hj : j < l.length), P l[j] = false) : l.any P = false := by
  rw [Bool.eq_false_iff]
  intro e
  obtain ⟨x, hx, hp⟩ := List.any_eq_true.1 e
  obtain ⟨j, hj, rfl⟩ := List.mem_iff_getElem.1 hx
  rw [h j hj] at hp
  cases hp

theorem placeB_any {α : Type} {P : α → Bool} {l : List α} {z : Int} (h : placeB P l z) : decide (0 ≤ z) = l.any P := by
  rcases h with ⟨rfl, h⟩ | ⟨k, rfl, hk, h, _⟩
  · rw [h]; rfl
  · rw [decide_eq_true (by omega)]
    exact (List.any_eq_true.2 ⟨_, List.getElem_mem hk, h⟩).symm
theorem enter_fn {P : Program} {f : FuncId} {fn : Func} {c : Code} (hf : P.funcs[f]? = some fn) (hname : (fn.name == "runtime.NumGoroutine") = false) (hb : fn.body = some c) (args : Array Value) (w : World) : (callFunc f args).run P w = .ok (.enter f args) w := by
  have h1 : fn.name ≠ "runtime.NumGoroutine" := by simpa using hname
  simp [callFunc, hf, h1, hb]
end Go.Proofs.YtcgljeagjchobaaGreat
namespace Go.Proofs.YtcgljeagjchobaaGreat
open Go.RowKit M
set_option linter.unusedVariables false

set_option maxRecDepth 100000 in
set_option maxHeartbeats 4000000 in
theorem indexR_any (fn : Nat) (hE : ∀ args w, (callFunc fn args).run Tryz.prog w = .ok (.enter fn args) w) (cp : Array Value) (P : Rs → Bool) (a : Option Addr) (l : List Rs) (cap B : Nat) (w : World) (h : Rss w B a l) (hB : B ≤ w.heap.size) (hl : l.length ≤ 1048577)
    (hP : ∀ k (hk : k < l.length) pa pc qa qc W, Below w.heap.size w W → RsIn W B l[k] pa pc qa qc → Calls Tryz.prog fn (#[.agg #[.slice pa l[k].pa.length pc, .bool l[k].co, .string l[k].bo, .int .i64 l[k].ve, .slice qa l[k].ps.length qc]] ++ cp) W fun e w' => e = .returned (.bool (P l[k])) ∧ Below W.heap.size W w') :
    Calls Tryz.prog 105 #[.slice a l.length cap, .func (.func fn) #[] cp] w fun e w' => (∃ z : Int, e = .returned (.int .i64 z) ∧ placeB P l z) ∧ Below w.heap.size w w' := by
  have HH := hide h
  have HP := hide hP
  have HE := hide hE
  clear h hP hE
  go_enter Tryz.func105, Tryz.ntmps105
  go_wp2
  go_loopw [8] (fun i wr => ∃ k : Nat, k ≤ l.length ∧ i = .int .i64 k ∧ Hid (∀ j (hj : j < l.length), j < k → P l[j] = false) ∧ Below w.heap.size w wr) (fun i _ => l.length - (intOf i).toNat)
  case atStart => exact ⟨0, Nat.zero_le _, rfl, fun j _ hj => absurd hj (Nat.not_lt_zero _), Below.refl _ _⟩
  case round =>
    obtain ⟨k, hk, rfl, HN, hbe⟩ := hrel
    by_cases hlt : k < l.length
    · obtain ⟨b, o, rfl, hb, hc⟩ := (HH.out.below hbe hB) (by omega)
      obtain ⟨pa, pc, qa, qc, ⟨hc0, hc1, hc2, hc3, hc4⟩, hin⟩ := hc k hlt
      have HC := hide (HP.out k hlt pa pc qa qc wr hbe hin)
      obtain ⟨z, hz⟩ : ∃ z, P l[k] = z := ⟨_, rfl⟩
      rw [hz] at HC
      have HZ := hide hz
      clear hz hc hin
      go_wp2_with fail
      rw [HE.out, Oper.upon_enter]
      refine HC.out.mono ?_
      rintro e w1 ⟨rfl, b1⟩
      have c1 := hbe.trans (b1.mono hbe.size)
      clear b1 HC hc0 hc1 hc2 hc3 hc4
      cases z
      · go_wp2
        go_roundw
        case rel => exact ⟨k + 1, by omega, by go_num, fun j hj hjk => if e : j = k then by subst e; exact HZ.out else HN.out j hj (by omega), c1⟩
        case measure => simp [intOf]; omega
      · go_wp2
        go_ret
        exact ⟨⟨_, rfl, .inr ⟨k, rfl, hlt, HZ.out, HN.out⟩⟩, c1⟩
    · go_wp2
      go_ret
      exact ⟨⟨_, rfl, .inl ⟨rfl, any_none (fun j hj => HN.out j hj (by omega))⟩⟩, hbe⟩

end Go.Proofs.YtcgljeagjchobaaGreat
namespace Go.Proofs.YtcgljeagjchobaaGreat
open Go.RowKit M
set_option linter.unusedVariables false

def BoxL (w : World) (N : Nat) (r : Lk) (pa : Option Addr) (pc : Nat) : Prop :=
  N < w.heap.size ∧ w.cell? ⟨N, 0, none⟩ = some (.int .i64 r.tk) ∧ w.cell? ⟨N, 1, none⟩ = some (.slice pa r.pa.length pc) ∧ w.cell? ⟨N, 2, none⟩ = some (.bool r.de) ∧ w.cell? ⟨N, 3, none⟩ = some (.bool r.sh) ∧ w.cell? ⟨N, 4, none⟩ = some (.int .i64 r.un)
theorem BoxL.made (w : World) (r : Lk) (pa : Option Addr) (pc : Nat) (t : TypeId) : BoxL (w.alloc (Obj.cells #[.int .i64 r.tk, .slice pa r.pa.length pc, .bool r.de, .bool r.sh, .int .i64 r.un] t)) w.heap.size r pa pc := by
  refine ⟨by simp, ?_, ?_, ?_, ?_, ?_⟩ <;> simp [go_sem]
theorem BoxL.next {w w' : World} {N : Nat} {r : Lk} {pa : Option Addr} {pc : Nat} (h : BoxL w N r pa pc) (hb : Below w.heap.size w w') : BoxL w' N r pa pc := by
  obtain ⟨h0, h1⟩ := h
  refine ⟨Nat.lt_of_lt_of_le h0 hb.size, ?_⟩
  simp only [(bcellL hb).1 N _ h0]
  exact h1
theorem BoxL.alloc {w : World} {N : Nat} {r : Lk} {pa : Option Addr} {pc : Nat} (h : BoxL w N r pa pc) (o : Obj) : BoxL (w.alloc o) N r pa pc := h.next ((Below.refl _ _).alloc (Nat.le_refl _) o)
theorem BoxL.drew {w : World} {N : Nat} {r : Lk} {pa : Option Addr} {pc : Nat} (h : BoxL w N r pa pc) : BoxL w.drew N r pa pc := h.next (below_drewL (Below.refl _ _))
theorem keepL2 {w : World} {N M : Nat} {r s : Lk} {pa qa : Option Addr} {pc qc : Nat} (h : BoxL w N r pa pc) (k : BoxL w M s qa qc) :
    w.cell? ⟨N, 0, none⟩ = some (.int .i64 r.tk) ∧ w.cell? ⟨N, 1, none⟩ = some (.slice pa r.pa.length pc) ∧ w.cell? ⟨N, 2, none⟩ = some (.bool r.de) ∧ w.cell? ⟨N, 3, none⟩ = some (.bool r.sh) ∧ w.cell? ⟨N, 4, none⟩ = some (.int .i64 r.un) ∧ w.cell? ⟨M, 0, none⟩ = some (.int .i64 s.tk) ∧ w.cell? ⟨M, 1, none⟩ = some (.slice qa s.pa.length qc) ∧ w.cell? ⟨M, 2, none⟩ = some (.bool s.de) ∧ w.cell? ⟨M, 3, none⟩ = some (.bool s.sh) ∧ w.cell? ⟨M, 4, none⟩ = some (.int .i64 s.un) :=
  ⟨h.2.1, h.2.2.1, h.2.2.2.1, h.2.2.2.2.1, h.2.2.2.2.2, k.2.1, k.2.2.1, k.2.2.2.1, k.2.2.2.2.1, k.2.2.2.2.2⟩
theorem lkIn_row {w : World} {p C : Nat} {r : Lk} (h : RowS w p r.pa) (hC : p < C) (hl : r.pa.length ≤ maxLen) : LkIn w C r (some ⟨p, 0, none⟩) r.pa.length :=
  ⟨h.strs' hC, Nat.le_refl _, hl, fun e => by cases e⟩
end Go.Proofs.YtcgljeagjchobaaGreat
namespace Go.Proofs.YtcgljeagjchobaaGreat
open Go.RowKit

theorem pick_gen {α : Type} {p : Nat → α → Prop} : ∀ {len : Nat}, (∀ i, i < len → ∃ q, p i q) → ∃ hs : List α, hs.length = len ∧ ∀ j (hj : j < hs.length), p j hs[j] := by
  intro len
  induction len with
  | zero => intro _; exact ⟨[], rfl, fun j hj => absurd hj (Nat.not_lt_zero _)⟩
  | succ k ih =>
    intro each
    obtain ⟨hs, hlen, hq⟩ := ih (fun i hi => each i (by omega))
    obtain ⟨q, hqk⟩ := each k (by omega)
    refine ⟨hs ++ [q], by simp [hlen], fun j hj => ?_⟩
    by_cases e : j < hs.length
    · rw [List.getElem_append_left e]; exact hq j e
    · have : j = k := by simp [hlen] at hj; omega
      subst this
      rw [List.getElem_append_right (by omega)]
      simp only [hlen, Nat.sub_self, List.getElem_cons_zero]
      exact hqk
theorem add_pick (b o j : Nat) : (⟨b, o, none⟩ : Addr).add j = ⟨b, o + j, none⟩ := by unfold Addr.add; split <;> simp_all
end Go.Proofs.YtcgljeagjchobaaGreat
namespace Go.Proofs.YtcgljeagjchobaaGreat
open Go.RowKit
set_option linter.unusedVariables false

theorem run_copy_rowK {P : Program} (w : World) (k : Nat) (dT sT ty elem : TypeId) (g o dLen dCap : Nat) (a : Addr) (sLen sCap : Nat) (cur : Array Value) (t : TypeId) (cs : List Value)
    (hu : P.underlying dT = some (.slice elem)) (hs : (P.info? elem).map (·.size) = some k)
    (hg : w.heap[g]? = some (.cells cur t (0, 0))) (hn : cs.length = Nat.min sLen dLen * k)
    (hsrc : ∀ j v, cs[j]? = some v → w.cell? (a.add j) = some v) (hfit : o + cs.length ≤ cur.size) (h1 : ∀ v ∈ cs, v.oneCell' = true) :
    (Builtin.copy_ #[dT, sT] ty #[.slice (some ⟨g, o, none⟩) dLen dCap, .slice (some a) sLen sCap]).run P w =
      .ok (goInt (Nat.min sLen dLen)) (w.setRow g (cur.toList.take o ++ cs ++ cur.toList.drop (o + cs.length)).toArray) := by
  have hl := run_loadCells_list (P := P) w a cs hsrc
  have hst := run_storeCells_at P g o t cs 0 cur w hg (by simpa using hfit) h1
  cases hq : P.info? elem with
  | none => simp [hq] at hs
  | some i =>
    have hi : i.size = k := by simpa [hq] using hs
    have hn' : Nat.min sLen dLen * k = cs.length := hn.symm
    simp only [Nat.min_def] at hn'
    simp [Builtin.copy_, run_underlying hu, Builtin.lenOf, Builtin.firstCells, sizeOf, typeInfo, hq, hi, Nat.min_def, hn', hl, hst]

theorem run_copy_noneK {P : Program} (w : World) (k : Nat) (dT sT ty elem : TypeId) (d a : Option Addr) (dLen dCap sLen sCap : Nat) (hu : P.underlying dT = some (.slice elem)) (hs : (P.info? elem).map (·.size) = some k) (hn : Nat.min sLen dLen = 0) :
    (Builtin.copy_ #[dT, sT] ty #[.slice d dLen dCap, .slice a sLen sCap]).run P w = .ok (goInt 0) w := by
  cases hq : P.info? elem with
  | none => simp [hq] at hs
  | some i =>
    have hl : ∀ (x : Addr), (loadCells x 0).run P w = .ok #[] w := fun x => by simpa using run_loadCells_list (P := P) w x [] (by simp)
    cases d <;> cases a <;> simp [Builtin.copy_, run_underlying hu, Builtin.lenOf, Builtin.firstCells, sizeOf, typeInfo, hq, hn, storeCells, hl]
theorem wpList_copy_nothingK {P : Program} {w : World} {ops : Array Oper} {rest : List Oper} {o : Oper} {a : Act} {Q : Exit → Act → World → Prop} (hgd : o.guard = none) (d s : Operand) (dT sT : TypeId)
    (ho : o.op = .call { callee := .builtin .copy, args := #[d, s], argTypes := #[dT, sT] }) (k : Nat) (elem : TypeId) (hu : P.underlying dT = some (.slice elem)) (hsz : (P.info? elem).map (·.size) = some k)
    (dp sp : Option Addr) (dLen dCap sLen sCap : Nat) (hd : a.eval d = .slice dp dLen dCap) (hs : a.eval s = .slice sp sLen sCap) (hn : Nat.min sLen dLen = 0)
    (h : wpList P ops Q rest (a.put o.dst (goInt 0)) w) : wpList P ops Q (o :: rest) a w := by
  refine wpList_plain hgd fun K hK => ?_
  have hrun := run_copy_noneK (P := P) w k dT sT o.type elem dp sp dLen dCap sLen sCap hu hsz hn
  unfold Oper.wp execOp
  simp only [ho, resolve, invoke, builtin, Sem.run_bind, Sem.run_pure, Result.andThen_ok, List.map_toArray, List.map_cons, List.map_nil, hd, hs, hrun]
  exact hK _ _ h

theorem zero_size (zc : Array Value) (k : Nat) : (Builtin.zeroCells zc k).size = k * zc.size := by
  unfold Builtin.zeroCells
  simp
theorem grown_setRow (w : World) (g : Nat) (cs : Array Value) : w.grownBy (w.setRow g cs) (some g) :=
  ⟨rfl, rfl, rfl, by simp [World.setRow], fun k hk hne => setRow_other w g k cs (fun e => hne (by rw [e]))⟩

/-- 'copy(d, s)' into a row of one's own; the world behind it is a new name. -/
theorem wpList_copyK {P : Program} {w : World} {ops : Array Oper} {rest : List Oper} {o : Oper} {a : Act} {Q : Exit → Act → World → Prop} (hgd : o.guard = none) (d s : Operand) (dT sT : TypeId)
    (ho : o.op = .call { callee := .builtin .copy, args := #[d, s], argTypes := #[dT, sT] }) (k : Nat) (elem : TypeId) (hu : P.underlying dT = some (.slice elem)) (hsz : (P.info? elem).map (·.size) = some k)
    (g off dLen dCap : Nat) (ad : Addr) (sLen sCap : Nat) (hd : a.eval d = .slice (some ⟨g, off, none⟩) dLen dCap) (hs : a.eval s = .slice (some ad) sLen sCap)
    (cur : Array Value) (t : TypeId) (hg : w.heap[g]? = some (.cells cur t (0, 0))) (cs : List Value) (hn : cs.length = Nat.min sLen dLen * k)
    (hsrc : ∀ j v, cs[j]? = some v → w.cell? (ad.add j) = some v) (hfit : off + cs.length ≤ cur.size) (h1 : ∀ v ∈ cs, v.oneCell' = true)
    (h : ∀ w', Hid (w'.heap[g]? = some (.cells (splice cur.toList off cs).toArray t (0, 0))) → w.grownBy w' (some g) → wpList P ops Q rest (a.put o.dst (goInt (Nat.min sLen dLen))) w') : wpList P ops Q (o :: rest) a w := by
  refine wpList_plain hgd fun K hK => ?_
  have hrun := run_copy_rowK (P := P) w k dT sT o.type elem g off dLen dCap ad sLen sCap cur t cs hu hsz hg hn hsrc hfit h1
  unfold Oper.wp execOp
  simp only [ho, resolve, invoke, builtin, Sem.run_bind, Sem.run_pure, Result.andThen_ok, List.map_toArray, List.map_cons, List.map_nil, hd, hs, hrun]
  exact hK _ _ (h _ (show _ = _ by rw [splice, ← List.append_assoc]; exact setRow_heap w g cur _ t _ hg) (grown_setRow w g _))

/-- .. and as one step of a region that draws. -/
theorem step_copyK {P : Program} {ops : Array Oper} {o : Oper} {a : Act} {w : World} {K : Act → World → Prop} {Q : Exit → Act → World → Prop} {E : Prop} (hgd : o.guard = none) (d s : Operand) (dT sT : TypeId)
    (ho : o.op = .call { callee := .builtin .copy, args := #[d, s], argTypes := #[dT, sT] }) (k : Nat) (elem : TypeId) (hu : P.underlying dT = some (.slice elem)) (hsz : (P.info? elem).map (·.size) = some k)
    (g off dLen dCap : Nat) (ad : Addr) (sLen sCap : Nat) (hd : a.eval d = .slice (some ⟨g, off, none⟩) dLen dCap) (hs : a.eval s = .slice (some ad) sLen sCap)
    (cur : Array Value) (t : TypeId) (hg : w.heap[g]? = some (.cells cur t (0, 0))) (cs : List Value) (hn : cs.length = Nat.min sLen dLen * k)
    (hsrc : ∀ j v, cs[j]? = some v → w.cell? (ad.add j) = some v) (hfit : off + cs.length ≤ cur.size) (h1 : ∀ v ∈ cs, v.oneCell' = true)
    (h : ∀ w', Hid (w'.heap[g]? = some (.cells (splice cur.toList off cs).toArray t (0, 0))) → w.grownBy w' (some g) → K (a.put o.dst (goInt (Nat.min sLen dLen))) w') :
    if Region.wanted o (yielded ops a.tmps) = true then Oper.wp P o a w K Q else E := by
  have hw : Region.wanted o (yielded ops a.tmps) = true := by simp [Region.wanted, hgd]
  rw [if_pos hw]
  have hrun := run_copy_rowK (P := P) w k dT sT o.type elem g off dLen dCap ad sLen sCap cur t cs hu hsz hg hn hsrc hfit h1
  unfold Oper.wp execOp
  simp only [ho, resolve, invoke, builtin, Sem.run_bind, Sem.run_pure, Result.andThen_ok, List.map_toArray, List.map_cons, List.map_nil, hd, hs, hrun]
  exact h _ (show _ = _ by rw [splice, ← List.append_assoc]; exact setRow_heap w g cur _ t _ hg) (grown_setRow w g _)

/-- 'append(s, make(S, k)...)' where there is no room: a new row. -/
theorem wpList_appendZ {P : Program} {w : World} {ops : Array Oper} {rest : List Oper} {o : Oper} {a : Act} {Q : Exit → Act → World → Prop} (hgd : o.guard = none) (s x : Operand) (t tn e : TypeId)
    (ho : o.op = .call { callee := .builtin .append, args := #[s, x], argTypes := #[t, tn] }) (i : TypeInfo) (z : Value) (kq kn : IntKind) (ht : P.underlying t = some (.slice e)) (htn : P.underlying tn = some (.int kn)) (hi : P.info? e = some i) (hz : i.zero = some z)
    (base : Option Addr) (sLen sCap : Nat) (olds : List Value) (hold : (Builtin.firstCells i.size sLen (.slice base sLen sCap)).run P w.drew = .ok olds.toArray w.drew)
    (k : Nat) (h0 : 0 < k) (hs : 0 < i.size) (hg : sCap < sLen + k) (h63 : ((sLen + k : Nat) : Int) ≤ 9223372036854775807) (h48 : k * i.bytes ≤ 281474976710656) (hfit : Builtin.nextslicecap (sLen + k) sCap * i.bytes ≤ 281474976710656)
    (hes : a.eval s = .slice base sLen sCap) (x' : Int) (hex : a.eval x = .int kq x') (hxk : x' = k)
    (h : ∀ w' (ROW : Array Value), Hid (w'.heap[w.heap.size]? = some (.cells ROW e (0, 0))) → Hid (ROW.size = olds.length + k * z.cells.size + (grownCap w (sLen + k) sCap e - (sLen + k)) * z.cells.size) → Hid (ROW.toList.take olds.length = olds) → w.grownBy w' none → w.heap.size < w'.heap.size → wpList P ops Q rest (a.put o.dst (.slice (some ⟨w.heap.size, 0, none⟩) (sLen + k) (grownCap w (sLen + k) sCap e))) w') : wpList P ops Q (o :: rest) a w := by
  refine wpList_plain hgd fun K hK => ?_
  subst hxk
  have hrun := Lib.run_append_grow_zeros w t tn o.type e i z kq kn ht htn hi hz base sLen sCap olds hold k h0 hs hg h63 h48 hfit
  unfold Oper.wp execOp
  simp only [ho, resolve, invoke, builtin, Sem.run_bind, Sem.run_pure, Result.andThen_ok, List.map_toArray, List.map_cons, List.map_nil, hes, hex, hrun]
  refine hK _ _ (h _ (olds.toArray ++ Builtin.zeroCells z.cells k ++ Builtin.zeroCells z.cells (grownCap w (sLen + k) sCap e - (sLen + k))) ?_ ?_ ?_ ?_ ?_)
  · exact heap_alloc_new w.drew _
  · show _ = _
    rw [Array.size_append, Array.size_append, zero_size, zero_size]
    simp
  · show _ = _
    rw [Array.toList_append, Array.toList_append, List.append_assoc, List.take_append_of_le_length (by simp), List.take_of_length_le (by simp)]
  · exact ⟨rfl, rfl, rfl, by simp, fun b hb hn => (World.grownBy_alloc w.drew _ none).block b hb hn⟩
  · simp
end Go.Proofs.YtcgljeagjchobaaGreat
namespace Go.Proofs.YtcgljeagjchobaaGreat
open Go.RowKit M
set_option linter.unusedVariables false

/-- A lock in a row: where its path lies, and that slice's room. -/
structure LkT where
  r : Lk
  pa : Option Addr
  pc : Nat
def lkC1 (t : LkT) : List Value := [.int .i64 t.r.tk, .slice t.pa t.r.pa.length t.pc, .bool t.r.de, .bool t.r.sh, .int .i64 t.r.un]
def lkCells (ts : List LkT) : List Value := ts.flatMap lkC1
theorem lkCells_length (ts : List LkT) : (lkCells ts).length = ts.length * 5 := by
  induction ts with
  | nil => rfl
  | cons t l ih => simp only [lkCells, List.flatMap_cons, List.length_append, List.length_cons] at *; rw [ih]; simp only [lkC1, List.length_cons, List.length_nil]; omega
theorem lkCells_append (a b : List LkT) : lkCells (a ++ b) = lkCells a ++ lkCells b := by simp [lkCells]
theorem lkCells_at (ts : List LkT) : ∀ j (hj : j < ts.length) i, i < 5 → (lkCells ts)[j * 5 + i]? = (lkC1 ts[j])[i]? := by
  induction ts with
  | nil => intro j hj; exact absurd hj (Nat.not_lt_zero _)
  | cons t l ih =>
    intro j hj i hi
    have e : lkCells (t :: l) = lkC1 t ++ lkCells l := by simp [lkCells]
    rw [e]
    have hl : (lkC1 t).length = 5 := rfl
    match j, hj with
    | 0, _ => rw [Nat.zero_mul, Nat.zero_add, List.getElem?_append_left (by omega)]; rfl
    | j + 1, hj =>
      rw [List.getElem?_append_right (by rw [hl]; omega), hl, show (j + 1) * 5 + i - 5 = j * 5 + i by omega]
      simpa using ih j (by simpa using hj) i hi
theorem lkCells_one (ts : List LkT) : ∀ v ∈ lkCells ts, v.oneCell' = true := fun v hv => by
  obtain ⟨t, _, ht⟩ := List.mem_flatMap.1 hv
  simp only [lkC1, List.mem_cons, List.not_mem_nil, or_false] at ht
  rcases ht with rfl | rfl | rfl | rfl | rfl <;> rfl

/-- What a row of them holds. -/
def RowV (w : World) (g : Nat) (ts : List LkT) : Prop := g < w.heap.size ∧ (∀ j (hj : j < ts.length), LkAt w g (j * 5) ts[j].r ts[j].pa ts[j].pc) ∧ ∀ i, w.frozen? ⟨g, i, none⟩ = false
theorem RowV.of {w w' : World} {g : Nat} {ts : List LkT} (h : RowV w g ts) (hz : g < w'.heap.size) (e : ∀ o, w'.cell? ⟨g, o, none⟩ = w.cell? ⟨g, o, none⟩) (f : ∀ o, w'.frozen? ⟨g, o, none⟩ = w.frozen? ⟨g, o, none⟩) : RowV w' g ts :=
  ⟨hz, fun j hj => (h.2.1 j hj).of e, fun i => by rw [f]; exact h.2.2 i⟩
theorem RowV.below {w w' : World} {g : Nat} {ts : List LkT} (h : RowV w g ts) (hb : Below w.heap.size w w') : RowV w' g ts :=
  h.of (Nat.lt_of_lt_of_le h.1 hb.size) (fun o => hb.cell (p := ⟨g, o, none⟩) h.1) (fun o => hb.frozen (p := ⟨g, o, none⟩) h.1)
theorem RowV.heap {w : World} {g : Nat} {ts : List LkT} {cs : Array Value} {T : TypeId} (h : w.heap[g]? = some (.cells cs T (0, 0))) (e : ∀ i, i < ts.length * 5 → cs[i]? = (lkCells ts)[i]?) : RowV w g ts := by
  have hc : ∀ o, w.cell? ⟨g, o, none⟩ = cs[o]? := fun o => by simp [World.cell?, h]
  have hf : ∀ o, w.frozen? ⟨g, o, none⟩ = false := fun o => by
    simp only [World.frozen?, h, Bool.and_eq_false_iff, decide_eq_false_iff_not]
    right; omega
  refine ⟨(Array.getElem?_eq_some_iff.1 h).1, fun j hj => ?_, hf⟩
  have h5 : ∀ i, i < 5 → w.cell? ⟨g, j * 5 + i, none⟩ = (lkC1 ts[j])[i]? := fun i hi => by
    rw [hc, e _ (by omega), lkCells_at ts j hj i hi]
  exact ⟨h5 0 (by omega), h5 1 (by omega), h5 2 (by omega), h5 3 (by omega), h5 4 (by omega)⟩
/-- Its paths lie below B. -/
def InV (w : World) (B : Nat) (ts : List LkT) : Prop := ∀ t ∈ ts, LkIn w B t.r t.pa t.pc
theorem InV.below {w w' : World} {B C : Nat} {ts : List LkT} (h : InV w B ts) (hb : Below C w w') (hB : B ≤ C) : InV w' B ts := fun t ht => (h t ht).below hb hB
theorem RowV.lks {w : World} {g B C : Nat} {ts : List LkT} (h : RowV w g ts) (hi : InV w B ts) (hC : g < C) (hB : B ≤ C) : Lks w C (some ⟨g, 0, none⟩) (ts.map (·.r)) := fun _ => by
  refine ⟨g, 0, rfl, hC, fun j hj => ?_⟩
  have hj' : j < ts.length := by simpa using hj
  simp only [List.getElem_map]
  exact ⟨_, _, by rw [Nat.zero_add]; exact h.2.1 j hj', (hi _ (List.getElem_mem hj')).mono hB⟩
/-- A slice of locks as such. -/
theorem Lks.ts {w : World} {B : Nat} {a : Option Addr} {l : List Lk} (h : Lks w B a l) : ∃ ts : List LkT, ts.map (·.r) = l ∧ InV w B ts ∧ (0 < l.length → ∃ b o, a = some ⟨b, o, none⟩ ∧ b < B ∧ ∀ j (hj : j < ts.length), LkAt w b (o + j * 5) ts[j].r ts[j].pa ts[j].pc) := by
  by_cases h0 : 0 < l.length
  · obtain ⟨b, o, ea, hb, hc⟩ := h h0
    have each : ∀ j, j < l.length → ∃ t : LkT, (∀ hj : j < l.length, t.r = l[j]) ∧ LkAt w b (o + j * 5) t.r t.pa t.pc ∧ LkIn w B t.r t.pa t.pc := fun j hj => by
      obtain ⟨pa, pc, h1, h2⟩ := hc j hj
      exact ⟨⟨l[j], pa, pc⟩, fun _ => rfl, h1, h2⟩
    obtain ⟨ts, hl, ht⟩ := pick_gen each
    refine ⟨ts, ?_, fun t hm => ?_, fun _ => ⟨b, o, ea, hb, fun j hj => (ht j hj).2.1⟩⟩
    · apply List.ext_getElem
      · rw [List.length_map, hl]
      · intro j h1 h2
        rw [List.getElem_map]
        exact (ht j (by omega)).1 h2
    · obtain ⟨j, hj, rfl⟩ := List.mem_iff_getElem.1 hm
      exact (ht j hj).2.2
  · have : l = [] := List.eq_nil_of_length_eq_zero (by omega)
    subst this
    exact ⟨[], rfl, fun t h => (by cases h), fun h => absurd h (Nat.lt_irrefl _)⟩
/-- The cells of a part of it, as copy reads them. -/
theorem lks_src {w : World} {b o : Nat} {ts : List LkT} (h : ∀ j (hj : j < ts.length), LkAt w b (o + j * 5) ts[j].r ts[j].pa ts[j].pc) : ∀ i v, (lkCells ts)[i]? = some v → w.cell? ((⟨b, o, none⟩ : Addr).add i) = some v := fun i v hv => by
  have hi := (List.getElem?_eq_some_iff.1 hv).1
  rw [lkCells_length] at hi
  have hj : i / 5 < ts.length := by omega
  have ei : i = i / 5 * 5 + i % 5 := by omega
  have h5 := lkCells_at ts (i / 5) hj (i % 5) (by omega)
  rw [← ei, hv] at h5
  rw [add_pick]
  obtain ⟨c0, c1, c2, c3, c4⟩ := h (i / 5) hj
  have hm : i % 5 = 0 ∨ i % 5 = 1 ∨ i % 5 = 2 ∨ i % 5 = 3 ∨ i % 5 = 4 := by omega
  rcases hm with e | e | e | e | e <;> rw [e] at h5 ei <;> rw [ei] <;> simp only [lkC1, List.getElem?_cons_zero, List.getElem?_cons_succ] at h5
  · rw [Nat.add_zero, h5]; exact c0
  · rw [← Nat.add_assoc, h5]; exact c1
  · rw [← Nat.add_assoc, h5]; exact c2
  · rw [← Nat.add_assoc, h5]; exact c3
  · rw [← Nat.add_assoc, h5]; exact c4

/-- A growing row of them that the call owns. -/
def OwnT (w : World) (B : Nat) (v : Value) (ts : List LkT) : Prop := w.ownsRow B 48 5 v ts.length (lkCells ts)
theorem OwnT.made (w : World) (B : Nat) (hB : B ≤ w.heap.size) : OwnT (w.alloc (Obj.cells #[] 48)) B (.slice (some ⟨w.heap.size, 0, none⟩) 0 0) [] :=
  ⟨rfl, .inr ⟨w.heap.size, 0, #[], rfl, hB, heap_alloc_new w _, Nat.le_refl _, Nat.zero_le _, rfl, rfl⟩⟩
theorem OwnT.next {w w' : World} {B : Nat} {v : Value} {ts : List LkT} (h : OwnT w B v ts) (hb : Below w.heap.size w w') : OwnT w' B v ts :=
  World.ownsRow.kept (row := none) h ⟨hb.os, hb.tape, hb.output, hb.size, fun k hk _ => hb.block k hk⟩ (Classical.em _)
theorem OwnT.keepB {w w' : World} {B g n c : Nat} {ts : List LkT} (h : OwnT w B (.slice (some ⟨g, 0, none⟩) n c) ts) (e : w'.heap[g]? = w.heap[g]?) : OwnT w' B (.slice (some ⟨g, 0, none⟩) n c) ts := by
  refine ⟨h.1, ?_⟩
  rcases h.2 with ⟨h0, _⟩ | ⟨g', c', cur, hv, hB, hh, hr⟩
  · cases h0
  · cases hv
    exact .inr ⟨g, c, cur, rfl, hB, e.trans hh, hr⟩
theorem RowS.hp {w w' : World} {b : Nat} {l : List ByteArray} (h : RowS w b l) (hz : w.heap.size ≤ w'.heap.size) (e : w'.heap[b]? = w.heap[b]?) : RowS w' b l :=
  ⟨Nat.lt_of_lt_of_le h.1 hz, fun j hj => by simp only [World.cell?, World.frozen?, e]; exact h.2 j hj⟩
theorem OwnT.row {w : World} {B g n c : Nat} {ts : List LkT} (h : OwnT w B (.slice (some ⟨g, 0, none⟩) n c) ts) : n = ts.length ∧ RowV w g ts ∧ n ≤ c ∧ c ≤ maxLen ∧ B ≤ g := by
  have hlt := World.ownsRow.lt h g rfl
  rcases h.2 with ⟨e, _⟩ | ⟨g', c', cur, e, hB, hh, h1, h2, _⟩
  · cases e
  · cases e
    have hl := lkCells_length ts
    have hcc : ∀ j (hj : j < ts.length) i, i < 5 → w.cell? ⟨g, j * 5 + i, none⟩ = (lkC1 ts[j])[i]? := fun j hj i hi => by
      rw [World.ownsRow.cellAt h (j * 5 + i) (by omega)]
      exact lkCells_at ts j hj i hi
    refine ⟨rfl, ⟨hlt.2, fun j hj => ⟨hcc j hj 0 (by omega), hcc j hj 1 (by omega), hcc j hj 2 (by omega), hcc j hj 3 (by omega), hcc j hj 4 (by omega)⟩, fun i => ?_⟩, h1, h2, hB⟩
    simp only [World.frozen?, hh, Bool.and_eq_false_iff, decide_eq_false_iff_not]
    right; omega
theorem below_grownT {w w' : World} {B n : Nat} {v : Value} {xs : List Value} (hown : w.ownsRow B 48 5 v n xs) (hB : B ≤ w.heap.size) (hg : w.grownBy w' v.ownBlock) : Below B w w' :=
  ⟨hg.os, hg.tape, hg.output, hg.size, fun k hk => hg.block k (by omega) (fun e => by have := (hown.lt k e.symm).1; omega)⟩

/-- 'l = append(l, x)' on a row that the call owns. -/
theorem wp_append_lkT {w : World} {ops : Array Oper} {rest : List Oper} {o : Oper} {a : Act} {Q : Exit → Act → World → Prop} (T : TypeId) (hu : Tryz.prog.underlying T = some (.slice 48)) (hgd : o.guard = none) (s x : Operand)
    (ho : o.op = .call { callee := .builtin .append, args := #[s, x], argTypes := #[T, T] })
    (B : Nat) (v : Value) (l : List LkT) (hs : a.eval s = v) (hown : OwnT w B v l)
    (N : Nat) (t : LkT) (hx : a.eval x = .slice (some ⟨N, 0, none⟩) 1 1) (hc0 : LkAt w N 0 t.r t.pa t.pc) (hlen : l.length + 1 ≤ 1099511627776) (hB : B ≤ w.heap.size)
    (h : ∀ g n cap w', n = (l ++ [t]).length → OwnT w' B (.slice (some ⟨g, 0, none⟩) n cap) (l ++ [t]) → Below B w w' → w.grownBy w' v.ownBlock → ((Value.slice (some ⟨g, 0, none⟩) n cap).ownBlock = v.ownBlock ∨ (Value.slice (some ⟨g, 0, none⟩) n cap).ownBlock = some w.heap.size) → wpList Tryz.prog ops Q rest (a.put o.dst (.slice (some ⟨g, 0, none⟩) n cap)) w') : wpList Tryz.prog ops Q (o :: rest) a w := by
  obtain ⟨i0, hi, hz0, hz1, hz2⟩ := info_parts info_lock
  refine wpList_append_own_at w hgd s x T ho B 48 i0 _ 5 48 hu hi hz0 hz1 hz2 rfl (by decide) v l.length _ hs hown ⟨N, 0, none⟩ 1 1 (lkC1 t) hx rfl ?_ ?_ ?_ ?_ hB ?_
  · intro j u hj
    rw [add_pick]
    obtain ⟨c0, c1, c2, c3, c4⟩ := hc0
    simp only [Nat.zero_add] at c0 c1 c2 c3 c4 ⊢
    unfold lkC1 at hj
    match j, hj with
    | 0, hj => simp at hj; subst hj; exact c0
    | 1, hj => simp at hj; subst hj; exact c1
    | 2, hj => simp at hj; subst hj; exact c2
    | 3, hj => simp at hj; subst hj; exact c3
    | 4, hj => simp at hj; subst hj; exact c4
  · intro u hu; simp [lkC1] at hu; rcases hu with rfl | rfl | rfl | rfl | rfl <;> rfl
  · unfold maxLen; omega
  · omega
  · intro v' w' ho' hg _ hat
    obtain ⟨g, cap, rfl⟩ : ∃ g cap, v' = .slice (some ⟨g, 0, none⟩) (l.length + 1) cap := by
      rcases ho'.2 with ⟨_, h0⟩ | ⟨g, cap, cur, hv, _⟩
      · omega
      · exact ⟨g, cap, hv⟩
    refine h g (l.length + 1) cap w' (by simp) ?_ (below_grownT hown hB hg) hg hat
    unfold OwnT
    rw [lkCells_append, show lkCells [t] = lkC1 t by simp [lkCells], show (l ++ [t]).length = l.length + 1 by simp]
    exact ho'
/-- 'append(l, x)' or 'append(l, more...)' as one step of a region that draws. -/
theorem step_append_lkT {ops : Array Oper} {o : Oper} {a : Act} {w : World} {K : Act → World → Prop} {Q : Exit → Act → World → Prop} {E : Prop} (T : TypeId) (hu : Tryz.prog.underlying T = some (.slice 48)) (hgd : o.guard = none) (s x : Operand)
    (ho : o.op = .call { callee := .builtin .append, args := #[s, x], argTypes := #[T, T] })
    (B : Nat) (v : Value) (l : List LkT) (hs : a.eval s = v) (hown : OwnT w B v l)
    (b off n c : Nat) (us : List LkT) (hx : a.eval x = .slice (some ⟨b, off, none⟩) n c) (hn : n = us.length) (hc : ∀ j (hj : j < us.length), LkAt w b (off + j * 5) us[j].r us[j].pa us[j].pc) (hlen : l.length + us.length ≤ 1099511627776) (hB : B ≤ w.heap.size) (h0 : 0 < us.length)
    (h : ∀ g n cap w', n = (l ++ us).length → OwnT w' B (.slice (some ⟨g, 0, none⟩) n cap) (l ++ us) → Below B w w' → w.grownBy w' v.ownBlock → ((Value.slice (some ⟨g, 0, none⟩) n cap).ownBlock = v.ownBlock ∨ (Value.slice (some ⟨g, 0, none⟩) n cap).ownBlock = some w.heap.size) → K (a.put o.dst (.slice (some ⟨g, 0, none⟩) n cap)) w') :
    if Region.wanted o (yielded ops a.tmps) = true then Oper.wp Tryz.prog o a w K Q else E := by
  have hw : Region.wanted o (yielded ops a.tmps) = true := by simp [Region.wanted, hgd]
  rw [if_pos hw]
  obtain ⟨i0, hi, hz0, hz1, hz2⟩ := info_parts info_lock
  obtain ⟨v', w', hr, ho', hg, _, hat⟩ := run_append_own_at (P := Tryz.prog) (w := w) B T o.type 48 i0 _ 5 48 hu hi hz0 hz1 hz2 rfl (by decide) v l.length _ hown ⟨b, off, none⟩ n c (lkCells us) (by rw [lkCells_length, hn]) (fun j u hj => lks_src hc j u hj) (lkCells_one us) (by unfold maxLen; omega) (by omega) hB
  unfold Oper.wp execOp
  simp only [ho, resolve, invoke, builtin, Sem.run_bind, Sem.run_pure, Result.andThen_ok, List.map_toArray, List.map_cons, List.map_nil, hs, hx, hr]
  obtain ⟨g, cap, rfl⟩ : ∃ g cap, v' = .slice (some ⟨g, 0, none⟩) (l.length + n) cap := by
    rcases ho'.2 with ⟨_, h1⟩ | ⟨g, cap, cur, hv, _⟩
    · omega
    · exact ⟨g, cap, hv⟩
  refine h g (l.length + n) cap w' (by rw [List.length_append, hn]) ?_ (below_grownT hown hB hg) hg hat
  unfold OwnT
  rw [lkCells_append, List.length_append, ← hn]
  exact ho'
theorem step_append_lkNil {ops : Array Oper} {o : Oper} {a : Act} {w : World} {K : Act → World → Prop} {Q : Exit → Act → World → Prop} {E : Prop} (T : TypeId) (hu : Tryz.prog.underlying T = some (.slice 48)) (hgd : o.guard = none) (s x : Operand)
    (ho : o.op = .call { callee := .builtin .append, args := #[s, x], argTypes := #[T, T] })
    (B : Nat) (v : Value) (l : List LkT) (hs : a.eval s = v) (hown : OwnT w B v l)
    (ad : Option Addr) (c : Nat) (hx : a.eval x = .slice ad 0 c) (hc : ad = none → c = 0) (hB : B ≤ w.heap.size) (hv0 : v ≠ .slice none 0 0) (hlen : l.length ≤ 1099511627776)
    (h : ∀ g n cap w', n = l.length → OwnT w' B (.slice (some ⟨g, 0, none⟩) n cap) l → Below B w w' → w.grownBy w' v.ownBlock → ((Value.slice (some ⟨g, 0, none⟩) n cap).ownBlock = v.ownBlock ∨ (Value.slice (some ⟨g, 0, none⟩) n cap).ownBlock = some w.heap.size) → K (a.put o.dst (.slice (some ⟨g, 0, none⟩) n cap)) w') :
    if Region.wanted o (yielded ops a.tmps) = true then Oper.wp Tryz.prog o a w K Q else E := by
  have hw : Region.wanted o (yielded ops a.tmps) = true := by simp [Region.wanted, hgd]
  rw [if_pos hw]
  obtain ⟨i0, hi, hz0, hz1, hz2⟩ := info_parts info_lock
  cases ad with
  | none =>
    obtain rfl := hc rfl
    have hr := run_append_owned_none (P := Tryz.prog) (w := w) B T o.type 48 i0 5 hu hi _ _ _ hown
    obtain ⟨g, cap, rfl⟩ : ∃ g cap, v = .slice (some ⟨g, 0, none⟩) l.length cap := by
      rcases hown.2 with ⟨h1, _⟩ | ⟨g, cap, cur, hv, _⟩
      · exact absurd h1 hv0
      · exact ⟨g, cap, hv⟩
    unfold Oper.wp execOp
    simp only [ho, resolve, invoke, builtin, Sem.run_bind, Sem.run_pure, Result.andThen_ok, List.map_toArray, List.map_cons, List.map_nil, hs, hx, hr]
    exact h g l.length cap w rfl hown (Below.refl _ _) ⟨rfl, rfl, rfl, Nat.le_refl _, fun _ _ _ => rfl⟩ (.inl rfl)
  | some ad =>
    obtain ⟨v', w', hr, ho', hg, hnn, hat⟩ := run_append_own_at (P := Tryz.prog) (w := w) B T o.type 48 i0 _ 5 48 hu hi hz0 hz1 hz2 rfl (by decide) v l.length _ hown ad 0 c [] (by simp) (fun j u hj => by simp at hj) (fun u hu => by cases hu) (by unfold maxLen; omega) (by omega) hB
    unfold Oper.wp execOp
    simp only [ho, resolve, invoke, builtin, Sem.run_bind, Sem.run_pure, Result.andThen_ok, List.map_toArray, List.map_cons, List.map_nil, hs, hx, hr]
    obtain ⟨g, cap, rfl⟩ : ∃ g cap, v' = .slice (some ⟨g, 0, none⟩) (l.length + 0) cap := by
      rcases ho'.2 with ⟨h1, _⟩ | ⟨g, cap, cur, hv, _⟩
      · exact absurd (hnn.1 h1).1 hv0
      · exact ⟨g, cap, hv⟩
    refine h g _ cap w' rfl ?_ (below_grownT hown hB hg) hg hat
    unfold OwnT
    rw [List.append_nil] at ho'
    exact ho'
end Go.Proofs.YtcgljeagjchobaaGreat
