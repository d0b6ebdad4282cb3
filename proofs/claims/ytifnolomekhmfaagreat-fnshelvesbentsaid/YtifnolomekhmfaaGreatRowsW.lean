/-
  What impl.isThere does.
  What impl.isThere, impl.pathsOk and impl.askRefused do.
  copy and append of elements of several cells.
  copy and append of elements of several cells: see CopyCells.
  What slices.Concat does at lists of texts.
  Rows of things that one call makes, one by one.
  What impl.copyTree does.
  What a turn of the program hands back; one path as a list of paths.
  A growing row of things stays where its blocks do.
  What slices.Insert does at rows of things.
  What slices.Insert does at rows of things: ahead of some.
  What slices.Insert does at rows of things: ahead of some, where there is room; and in all cases.
  Rows of things put together.
-/
import Derived.Test.YtifnolomekhmfaaGreatIsColl
import Derived.Test.YtifnolomekhmfaaGreatIsRow
import Derived.Test.YtifnolomekhmfaaGreatMathOps
import Derived.Test.YtifnolomekhmfaaGreatSpecNum
import Derived.Test.YtifnolomekhmfaaGreatHide
import Derived.WalkKit
import Derived.Deep.OwnRows
import Derived.Laws.CopyRow
import Derived.Laws.CopyOwn
import Derived.Lib.AppendZerosOnto
import Derived.Lib.Overlaps
import Derived.Laws.Externs
import Derived.Shelf.Spec.SlicesInsert
import Derived.Deep.RegionLaw
import Derived.Test.YtifnolomekhmfaaGreatMathOrder
import Derived.Test.YtifnolomekhmfaaGreatMapHeld
import Derived.Test.YtifnolomekhmfaaGreatMathWhole
import Derived.Test.YtifnolomekhmfaaGreatSpecCopyAll
namespace Go.Proofs.YtifnolomekhmfaaGreat
open Go.RowKit M
set_option linter.unusedVariables false

/-- Whether it is the root, or there. -/
def thereB (rs : List Rs) (p : List ByteArray) : Bool := decide (p.length = 0) || decide (0 ≤ findI rs p)
theorem there_iff {rs : List Rs} {p : List ByteArray} : thereB rs p = true ↔ p.length = 0 ∨ 0 ≤ findI rs p := by unfold thereB; simp

set_option maxHeartbeats 1000000 in
theorem isThere_any (a : Option Addr) (rs : List Rs) (cap B : Nat) (a' : Option Addr) (p : List ByteArray) (cap' C : Nat) (w : World) (h : Rss w B a rs) (h' : Strs w C a' p) (hl : rs.length ≤ maxLen) (hl' : p.length ≤ maxLen) (hB : B ≤ w.heap.size) (hC : C ≤ w.heap.size) :
    Calls Tryz.prog 109 #[.slice a rs.length cap, .slice a' p.length cap'] w fun e w' => e = .returned (.bool (thereB rs p)) ∧ Below w.heap.size w w' := by
  have HF := hide (findRes_any a rs cap B a' p cap' C w h h' hl hl' hB hC)
  by_cases h0 : p.length = 0
  · have HZ := hide (show thereB rs p = true from there_iff.2 (.inl h0))
    clear HF
    go_enter Tryz.func109, Tryz.ntmps109
    go_wp2
    go_ret
    exact ⟨by rw [HZ.out]; rfl, Below.refl _ _⟩
  · have HZ := hide (show thereB rs p = decide (0 ≤ findI rs p) by unfold thereB; simp [h0])
    have e0 : ((p.length : Int) == 0) = false := by rw [beq_eq_false_iff_ne]; omega
    generalize thereB rs p = z at *
    generalize findI rs p = F at *
    go_enter Tryz.func109, Tryz.ntmps109
    go_wp2_with fail
    refine HF.out.mono ?_
    rintro e w1 ⟨rfl, b1⟩
    go_wp2
    go_ret
    exact ⟨by rw [HZ.out]; rfl, b1⟩
end Go.Proofs.YtifnolomekhmfaaGreat
namespace Go.Proofs.YtifnolomekhmfaaGreat
open Go.RowKit M
set_option linter.unusedVariables false

/-- One path as it is handed in: what it has, where it lies, its room. -/
abbrev PathV := List ByteArray × Option Addr × Nat
/-- What a list of paths holds that a call was handed. -/
structure PathsAt (w : World) (g : Nat) (ps : List PathV) : Prop where
  lt : g < w.heap.size
  cl : ∀ j (hj : j < ps.length), w.cell? ⟨g, j, none⟩ = some (.slice ps[j].2.1 ps[j].1.length ps[j].2.2)
  st : ∀ j (hj : j < ps.length), Strs w w.heap.size ps[j].2.1 ps[j].1 ∧ Short ps[j].1 ∧ ps[j].1.length ≤ maxLen
theorem PathsAt.below {w w' : World} {g : Nat} {ps : List PathV} (h : PathsAt w g ps) (hb : Below w.heap.size w w') : PathsAt w' g ps :=
  ⟨Nat.lt_of_lt_of_le h.lt hb.size, fun j hj => (hb.cell (p := ⟨g, j, none⟩) h.lt).trans (h.cl j hj), fun j hj => ⟨((h.st j hj).1.below hb (Nat.le_refl _)).mono hb.size, (h.st j hj).2⟩⟩
def pathsB (ps : List PathV) : Bool := ps.all fun p => pathB p.1

set_option maxHeartbeats 1000000 in
theorem pathsOk_any (g cap : Nat) (ps : List PathV) (hl : ps.length ≤ 1048576) (w : World) (h : PathsAt w g ps) :
    Calls Tryz.prog 116 #[.slice (some ⟨g, 0, none⟩) ps.length cap] w fun e w' => e = .returned (.bool (pathsB ps)) ∧ Below w.heap.size w w' := by
  go_enter Tryz.func116, Tryz.ntmps116
  go_wp2
  go_loopw [7] (fun i wr => ∃ k : Nat, k ≤ ps.length ∧ i = .int .i64 k ∧ (∀ j (hj : j < ps.length), j < k → pathB ps[j].1 = true) ∧ Below w.heap.size w wr) (fun i _ => ps.length - (intOf i).toNat)
  case atStart => exact ⟨0, Nat.zero_le _, rfl, fun j _ hj => absurd hj (Nat.not_lt_zero _), Below.refl _ _⟩
  case round =>
    obtain ⟨k, hk, rfl, hok, hbe⟩ := hrel
    have HOK := hide hok
    clear hok
    by_cases hlt : k < ps.length
    · have h1 := h.below hbe
      have hc := h1.cl k hlt
      obtain ⟨hst, hsh, hll⟩ := h1.st k hlt
      have HP := hide (pathOk_any ps[k].2.1 ps[k].1 ps[k].2.2 wr hst hsh hll)
      have HB := hide (show pathB ps[k].1 = pathB ps[k].1 from rfl)
      generalize hz : pathB ps[k].1 = z at HP HB
      have HZ := hide hz
      clear hz h1 hst hsh hll HB
      cases z
      · go_wp2_with fail
        refine HP.out.mono ?_
        rintro e w1 ⟨rfl, b1⟩
        have HF := hide (show pathsB ps = false by
          unfold pathsB
          rw [List.all_eq_false]
          exact ⟨ps[k], List.getElem_mem hlt, by rw [HZ.out]; simp⟩)
        go_wp2
        go_ret
        exact ⟨by rw [HF.out]; rfl, hbe.trans (b1.mono hbe.size)⟩
      · go_wp2_with fail
        refine HP.out.mono ?_
        rintro e w1 ⟨rfl, b1⟩
        have HO2 := hide (show ∀ j (hj : j < ps.length), j < k + 1 → pathB ps[j].1 = true from fun j hj hjk => by
          by_cases e : j = k
          · subst e; exact HZ.out
          · exact HOK.out j hj (by omega))
        go_wp2
        go_roundw
        case rel => exact ⟨k + 1, by omega, by go_num, HO2.out, hbe.trans (b1.mono hbe.size)⟩
        case measure => simp [intOf]; omega
    · have HF := hide (show pathsB ps = true by
        unfold pathsB
        rw [List.all_eq_true]
        intro p hp
        obtain ⟨j, hj, rfl⟩ := List.mem_iff_getElem.1 hp
        exact HOK.out j hj (by omega))
      go_wp2
      go_ret
      exact ⟨by rw [HF.out]; rfl, hbe⟩

/-- Why shelves cannot be turned, at these paths; 0: they can. -/
def askI (rs : List Rs) (v : Int) (pb : Bool) : Int := if treeB rs = false then 500 else if pb = false then 400 else if inB v 0 99999 = false then 507 else 0
theorem askI_one (rs : List Rs) (v : Int) (p : List ByteArray) (a : Option Addr) (c : Nat) : askI rs v (pathsB [(p, a, c)]) = mayI rs p v := by
  unfold askI mayI pathsB
  simp

set_option maxHeartbeats 1000000 in
theorem askRefused_any (a : Option Addr) (rs : List Rs) (cap B : Nat) (v : Int) (g cap' : Nat) (ps : List PathV) (hl' : ps.length ≤ 1048576) (w : World) (h : Rss w B a rs) (hB : B ≤ w.heap.size) (hs : ShortT rs) (hl : rs.length ≤ maxLen) (h' : PathsAt w g ps) :
    Calls Tryz.prog 67 #[.slice a rs.length cap, .int .i64 v, .slice (some ⟨g, 0, none⟩) ps.length cap'] w fun e w' => e = .returned (.int .i64 (askI rs v (pathsB ps))) ∧ Below w.heap.size w w' := by
  have HT := hide (treeOk_any a rs cap B w h hB hs hl)
  have HP := hide (fun W (hb : Below w.heap.size w W) => pathsOk_any g cap' ps hl' W (h'.below hb))
  have HV := hide (fun W => verOk_any v W)
  have HE := hide (show askI rs v (pathsB ps) = if treeB rs = false then 500 else if pathsB ps = false then 400 else if inB v 0 99999 = false then 507 else 0 from rfl)
  generalize askI rs v (pathsB ps) = E at *
  generalize treeB rs = z1 at *
  generalize pathsB ps = z2 at *
  generalize inB v 0 99999 = z3 at *
  cases z1
  · have HE' := hide (HE.out.trans (if_pos rfl))
    clear HE
    go_enter Tryz.func67, Tryz.ntmps67
    go_wp2_with fail
    refine HT.out.mono ?_
    rintro e w1 ⟨rfl, b1⟩
    go_wp2
    go_ret
    exact ⟨by rw [HE'.out]; rfl, b1⟩
  · cases z2
    · have HE' := hide (HE.out.trans ((if_neg (by simp)).trans (if_pos rfl)))
      clear HE
      go_enter Tryz.func67, Tryz.ntmps67
      go_wp2_with fail
      refine HT.out.mono ?_
      rintro e w1 ⟨rfl, b1⟩
      have X1 := hide (HP.out w1 b1)
      clear HT HP
      go_wp2_with fail
      refine X1.out.mono ?_
      rintro e w2 ⟨rfl, b2⟩
      go_wp2
      go_ret
      exact ⟨by rw [HE'.out]; rfl, b1.trans (b2.mono b1.size)⟩
    · cases z3
      · have HE' := hide (HE.out.trans ((if_neg (by simp)).trans ((if_neg (by simp)).trans (if_pos rfl))))
        clear HE
        go_enter Tryz.func67, Tryz.ntmps67
        go_wp2_with fail
        refine HT.out.mono ?_
        rintro e w1 ⟨rfl, b1⟩
        have X1 := hide (HP.out w1 b1)
        clear HT HP
        go_wp2_with fail
        refine X1.out.mono ?_
        rintro e w2 ⟨rfl, b2⟩
        go_wp2_with fail
        refine (HV.out w2).mono ?_
        rintro e w3 ⟨rfl, hw3⟩
        obtain rfl := hw3.symm
        go_wp2
        go_ret
        exact ⟨by rw [HE'.out]; rfl, b1.trans (b2.mono b1.size)⟩
      · have HE' := hide (HE.out.trans ((if_neg (by simp)).trans ((if_neg (by simp)).trans (if_neg (by simp)))))
        clear HE
        go_enter Tryz.func67, Tryz.ntmps67
        go_wp2_with fail
        refine HT.out.mono ?_
        rintro e w1 ⟨rfl, b1⟩
        have X1 := hide (HP.out w1 b1)
        clear HT HP
        go_wp2_with fail
        refine X1.out.mono ?_
        rintro e w2 ⟨rfl, b2⟩
        go_wp2_with fail
        refine (HV.out w2).mono ?_
        rintro e w3 ⟨rfl, hw3⟩
        obtain rfl := hw3.symm
        go_wp2
        go_ret
        exact ⟨by rw [HE'.out]; rfl, b1.trans (b2.mono b1.size)⟩
end Go.Proofs.YtifnolomekhmfaaGreat
namespace Go.Proofs.YtifnolomekhmfaaGreat
open Go.RowKit
set_option linter.unusedVariables false

theorem run_copy_rowK {P : Program} (w : World) (k : Nat) (dT sT ty elem : TypeId) (g o dLen dCap : Nat) (a : Addr) (sLen sCap : Nat) (cur : Array Value) (t : TypeId) (cs : List Value)
    (hu : P.underlying dT = some (.slice elem)) (hs : (P.info? elem).map (·.size) = some k)
    (hg : w.heap[g]? = some (.cells cur t (0, 0))) (hn : cs.length = Nat.min sLen dLen * k)
    (hsrc : ∀ j v, cs[j]? = some v → w.cell? (a.add j) = some v) (hfit : o + cs.length ≤ cur.size) (h1 : ∀ v ∈ cs, v.oneCell' = true) :
    (Builtin.copy_ #[dT, sT] ty #[.slice (some ⟨g, o, none⟩) dLen dCap, .slice (some a) sLen sCap]).run P w =
      .ok (goInt (Nat.min sLen dLen)) (w.setRow g (cur.toList.take o ++ cs ++ cur.toList.drop (o + cs.length)).toArray) := by
  have hl := run_loadCells_list (P := P) w a cs hsrc
  have hst := run_storeCells_at P g o t cs 0 cur w hg (by simpa using hfit) h1
  cases hq : P.info? elem with
  | none => simp [hq] at hs
  | some i =>
    have hi : i.size = k := by simpa [hq] using hs
    have hn' : Nat.min sLen dLen * k = cs.length := hn.symm
    simp only [Nat.min_def] at hn'
    simp [Builtin.copy_, run_underlying hu, Builtin.lenOf, Builtin.firstCells, sizeOf, typeInfo, hq, hi, Nat.min_def, hn', hl, hst]

theorem run_copy_noneK {P : Program} (w : World) (k : Nat) (dT sT ty elem : TypeId) (d a : Option Addr) (dLen dCap sLen sCap : Nat) (hu : P.underlying dT = some (.slice elem)) (hs : (P.info? elem).map (·.size) = some k) (hn : Nat.min sLen dLen = 0) :
    (Builtin.copy_ #[dT, sT] ty #[.slice d dLen dCap, .slice a sLen sCap]).run P w = .ok (goInt 0) w := by
  cases hq : P.info? elem with
  | none => simp [hq] at hs
  | some i =>
    have hl : ∀ (x : Addr), (loadCells x 0).run P w = .ok #[] w := fun x => by simpa using run_loadCells_list (P := P) w x [] (by simp)
    cases d <;> cases a <;> simp [Builtin.copy_, run_underlying hu, Builtin.lenOf, Builtin.firstCells, sizeOf, typeInfo, hq, hn, storeCells, hl]
theorem wpList_copy_nothingK {P : Program} {w : World} {ops : Array Oper} {rest : List Oper} {o : Oper} {a : Act} {Q : Exit → Act → World → Prop} (hgd : o.guard = none) (d s : Operand) (dT sT : TypeId)
    (ho : o.op = .call { callee := .builtin .copy, args := #[d, s], argTypes := #[dT, sT] }) (k : Nat) (elem : TypeId) (hu : P.underlying dT = some (.slice elem)) (hsz : (P.info? elem).map (·.size) = some k)
    (dp sp : Option Addr) (dLen dCap sLen sCap : Nat) (hd : a.eval d = .slice dp dLen dCap) (hs : a.eval s = .slice sp sLen sCap) (hn : Nat.min sLen dLen = 0)
    (h : wpList P ops Q rest (a.put o.dst (goInt 0)) w) : wpList P ops Q (o :: rest) a w := by
  refine wpList_plain hgd fun K hK => ?_
  have hrun := run_copy_noneK (P := P) w k dT sT o.type elem dp sp dLen dCap sLen sCap hu hsz hn
  unfold Oper.wp execOp
  simp only [ho, resolve, invoke, builtin, Sem.run_bind, Sem.run_pure, Result.andThen_ok, List.map_toArray, List.map_cons, List.map_nil, hd, hs, hrun]
  exact hK _ _ h

theorem zero_size (zc : Array Value) (k : Nat) : (Builtin.zeroCells zc k).size = k * zc.size := by
  unfold Builtin.zeroCells
  simp
theorem grown_setRow (w : World) (g : Nat) (cs : Array Value) : w.grownBy (w.setRow g cs) (some g) :=
  ⟨rfl, rfl, rfl, by simp [World.setRow], fun k hk hne => setRow_other w g k cs (fun e => hne (by rw [e]))⟩

/-- 'copy(d, s)' into a row of one's own; the world behind it is a new name. -/
theorem wpList_copyK {P : Program} {w : World} {ops : Array Oper} {rest : List Oper} {o : Oper} {a : Act} {Q : Exit → Act → World → Prop} (hgd : o.guard = none) (d s : Operand) (dT sT : TypeId)
    (ho : o.op = .call { callee := .builtin .copy, args := #[d, s], argTypes := #[dT, sT] }) (k : Nat) (elem : TypeId) (hu : P.underlying dT = some (.slice elem)) (hsz : (P.info? elem).map (·.size) = some k)
    (g off dLen dCap : Nat) (ad : Addr) (sLen sCap : Nat) (hd : a.eval d = .slice (some ⟨g, off, none⟩) dLen dCap) (hs : a.eval s = .slice (some ad) sLen sCap)
    (cur : Array Value) (t : TypeId) (hg : w.heap[g]? = some (.cells cur t (0, 0))) (cs : List Value) (hn : cs.length = Nat.min sLen dLen * k)
    (hsrc : ∀ j v, cs[j]? = some v → w.cell? (ad.add j) = some v) (hfit : off + cs.length ≤ cur.size) (h1 : ∀ v ∈ cs, v.oneCell' = true)
    (h : ∀ w', Hid (w'.heap[g]? = some (.cells (splice cur.toList off cs).toArray t (0, 0))) → w.grownBy w' (some g) → wpList P ops Q rest (a.put o.dst (goInt (Nat.min sLen dLen))) w') : wpList P ops Q (o :: rest) a w := by
  refine wpList_plain hgd fun K hK => ?_
  have hrun := run_copy_rowK (P := P) w k dT sT o.type elem g off dLen dCap ad sLen sCap cur t cs hu hsz hg hn hsrc hfit h1
  unfold Oper.wp execOp
  simp only [ho, resolve, invoke, builtin, Sem.run_bind, Sem.run_pure, Result.andThen_ok, List.map_toArray, List.map_cons, List.map_nil, hd, hs, hrun]
  exact hK _ _ (h _ (show _ = _ by rw [splice, ← List.append_assoc]; exact setRow_heap w g cur _ t _ hg) (grown_setRow w g _))

/-- .. and as one step of a region that draws. -/
theorem step_copyK {P : Program} {ops : Array Oper} {o : Oper} {a : Act} {w : World} {K : Act → World → Prop} {Q : Exit → Act → World → Prop} {E : Prop} (hgd : o.guard = none) (d s : Operand) (dT sT : TypeId)
    (ho : o.op = .call { callee := .builtin .copy, args := #[d, s], argTypes := #[dT, sT] }) (k : Nat) (elem : TypeId) (hu : P.underlying dT = some (.slice elem)) (hsz : (P.info? elem).map (·.size) = some k)
    (g off dLen dCap : Nat) (ad : Addr) (sLen sCap : Nat) (hd : a.eval d = .slice (some ⟨g, off, none⟩) dLen dCap) (hs : a.eval s = .slice (some ad) sLen sCap)
    (cur : Array Value) (t : TypeId) (hg : w.heap[g]? = some (.cells cur t (0, 0))) (cs : List Value) (hn : cs.length = Nat.min sLen dLen * k)
    (hsrc : ∀ j v, cs[j]? = some v → w.cell? (ad.add j) = some v) (hfit : off + cs.length ≤ cur.size) (h1 : ∀ v ∈ cs, v.oneCell' = true)
    (h : ∀ w', Hid (w'.heap[g]? = some (.cells (splice cur.toList off cs).toArray t (0, 0))) → w.grownBy w' (some g) → K (a.put o.dst (goInt (Nat.min sLen dLen))) w') :
    if Region.wanted o (yielded ops a.tmps) = true then Oper.wp P o a w K Q else E := by
  have hw : Region.wanted o (yielded ops a.tmps) = true := by simp [Region.wanted, hgd]
  rw [if_pos hw]
  have hrun := run_copy_rowK (P := P) w k dT sT o.type elem g off dLen dCap ad sLen sCap cur t cs hu hsz hg hn hsrc hfit h1
  unfold Oper.wp execOp
  simp only [ho, resolve, invoke, builtin, Sem.run_bind, Sem.run_pure, Result.andThen_ok, List.map_toArray, List.map_cons, List.map_nil, hd, hs, hrun]
  exact h _ (show _ = _ by rw [splice, ← List.append_assoc]; exact setRow_heap w g cur _ t _ hg) (grown_setRow w g _)

/-- 'append(s, make(S, k)...)' where there is no room: a new row. -/
theorem wpList_appendZ {P : Program} {w : World} {ops : Array Oper} {rest : List Oper} {o : Oper} {a : Act} {Q : Exit → Act → World → Prop} (hgd : o.guard = none) (s x : Operand) (t tn e : TypeId)
    (ho : o.op = .call { callee := .builtin .append, args := #[s, x], argTypes := #[t, tn] }) (i : TypeInfo) (z : Value) (kq kn : IntKind) (ht : P.underlying t = some (.slice e)) (htn : P.underlying tn = some (.int kn)) (hi : P.info? e = some i) (hz : i.zero = some z)
    (base : Option Addr) (sLen sCap : Nat) (olds : List Value) (hold : (Builtin.firstCells i.size sLen (.slice base sLen sCap)).run P w.drew = .ok olds.toArray w.drew)
    (k : Nat) (h0 : 0 < k) (hs : 0 < i.size) (hg : sCap < sLen + k) (h63 : ((sLen + k : Nat) : Int) ≤ 9223372036854775807) (h48 : k * i.bytes ≤ 281474976710656) (hfit : Builtin.nextslicecap (sLen + k) sCap * i.bytes ≤ 281474976710656)
    (hes : a.eval s = .slice base sLen sCap) (x' : Int) (hex : a.eval x = .int kq x') (hxk : x' = k)
    (h : ∀ w' (ROW : Array Value), Hid (w'.heap[w.heap.size]? = some (.cells ROW e (0, 0))) → Hid (ROW.size = olds.length + k * z.cells.size + (grownCap w (sLen + k) sCap e - (sLen + k)) * z.cells.size) → Hid (ROW.toList.take olds.length = olds) → w.grownBy w' none → w.heap.size < w'.heap.size → wpList P ops Q rest (a.put o.dst (.slice (some ⟨w.heap.size, 0, none⟩) (sLen + k) (grownCap w (sLen + k) sCap e))) w') : wpList P ops Q (o :: rest) a w := by
  refine wpList_plain hgd fun K hK => ?_
  subst hxk
  have hrun := Lib.run_append_grow_zeros w t tn o.type e i z kq kn ht htn hi hz base sLen sCap olds hold k h0 hs hg h63 h48 hfit
  unfold Oper.wp execOp
  simp only [ho, resolve, invoke, builtin, Sem.run_bind, Sem.run_pure, Result.andThen_ok, List.map_toArray, List.map_cons, List.map_nil, hes, hex, hrun]
  refine hK _ _ (h _ (olds.toArray ++ Builtin.zeroCells z.cells k ++ Builtin.zeroCells z.cells (grownCap w (sLen + k) sCap e - (sLen + k))) ?_ ?_ ?_ ?_ ?_)
  · exact heap_alloc_new w.drew _
  · show _ = _
    rw [Array.size_append, Array.size_append, zero_size, zero_size]
    simp
  · show _ = _
    rw [Array.toList_append, Array.toList_append, List.append_assoc, List.take_append_of_le_length (by simp), List.take_of_length_le (by simp)]
  · exact ⟨rfl, rfl, rfl, by simp, fun b hb hn => (World.grownBy_alloc w.drew _ none).block b hb hn⟩
  · simp
end Go.Proofs.YtifnolomekhmfaaGreat
namespace Go.Proofs.YtifnolomekhmfaaGreat
open Go.RowKit M
set_option linter.unusedVariables false

theorem info_strC : (Tryz.prog.info? 9).map (fun i => (i.zero, i.size, i.bytes)) = some (some (.string ByteArray.empty), 1, 16) := by kernel_rfl
def catL (ps : List PathV) : List ByteArray := (ps.map (·.1)).flatten
theorem catL_snoc (ps : List PathV) (k : Nat) (hk : k < ps.length) : catL (ps.take (k + 1)) = catL (ps.take k) ++ ps[k].1 := by
  unfold catL
  rw [List.take_succ_eq_append_getElem hk, List.map_append, List.flatten_append]
  simp
theorem catL_le (ps : List PathV) (k : Nat) : (catL (ps.take k)).length ≤ (catL ps).length := by
  have h : catL ps = catL (ps.take k) ++ catL (ps.drop k) := by
    unfold catL
    rw [← List.flatten_append, ← List.map_append, List.take_append_drop]
  rw [h]
  simp
def strV (ss : List ByteArray) : List Value := ss.map Value.string
theorem strV_length (ss : List ByteArray) : (strV ss).length = ss.length := by unfold strV; simp
theorem strV_one (ss : List ByteArray) : ∀ u ∈ strV ss, u.oneCell' = true := by
  intro u hu
  unfold strV at hu
  obtain ⟨s, _, rfl⟩ := List.mem_map.1 hu
  rfl
theorem strV_append (a b : List ByteArray) : strV (a ++ b) = strV a ++ strV b := by unfold strV; rw [List.map_append]

set_option maxHeartbeats 2000000 in
set_option maxRecDepth 100000 in
/-- slices.Grow of no list: room for n texts, of the call's own. -/
theorem grow_any (n : Nat) (hn : n ≤ 4194304) (w : World) :
    Calls Tryz.prog 133 #[.slice none 0 0, .int .i64 n] w fun e w' => ∃ v, e = .returned v ∧ w'.ownsRow w.heap.size 9 1 v 0 [] ∧ Below w.heap.size w w' := by
  obtain ⟨ii, hii, hz, hs, hb⟩ := info_parts info_strC
  have h0 : ¬ ((n : Int) < 0) := by omega
  by_cases hn0 : n = 0
  · subst hn0
    go_enter Tryz.func133, Tryz.ntmps133
    go_wp2
    go_ret
    exact ⟨_, rfl, ⟨rfl, .inl ⟨rfl, rfl⟩⟩, Below.refl _ _⟩
  · have hold : (Builtin.firstCells ii.size 0 (.slice none 0 0)).run Tryz.prog w.drew = .ok ([] : List Value).toArray w.drew := by
      simp [Builtin.firstCells]
    have h1 : (0 : Int) < (n : Int) := by omega
    have hw1 : IntKind.i64.wrap (n : Int) = (n : Int) := by rw [IntKind.wrap_i64]; omega
    have HOLD := hide hold
    clear hold
    go_enter Tryz.func133, Tryz.ntmps133
    go_wp2_with (at_builtin; refine wpList_appendZ rfl _ _ 25 3 9 rfl ii _ .i64 .i64 Tryz.underlying25 Tryz.underlying3 hii hz none 0 0 [] HOLD.out n (by omega) (by omega) (by omega) (by omega) (by rw [hb]; omega) (by rw [hb]; exact growslice_fits (by omega) (by omega)) rfl _ rfl rfl ?_)
    intro w1 ROW H1 hRs hRt hg1 hs1
    have hGn : n ≤ grownCap w n 0 9 := grownCap_ge w _ _ _
    have hGm := grownCap_le_maxLen w n 0 9 (by unfold maxLen; omega)
    have HRS := hide (show ROW.size = grownCap w n 0 9 * 1 by
      have h1 := hRs.out
      first | omega | (simp at h1; omega))
    clear hRs hRt
    generalize grownCap w n 0 9 = G at *
    have hG63 : G ≤ 9223372036854775807 := by unfold maxLen at hGm; omega
    have K1 := hide hg1
    have hG0 : (0 : Int) ≤ (G : Int) := by omega
    clear hg1
    go_wp2
    go_ret
    refine ⟨_, rfl, ⟨rfl, .inr ⟨w.heap.size, G, ROW, rfl, Nat.le_refl _, H1.out, Nat.zero_le _, hGm, HRS.out, by simp⟩⟩, ?_⟩
    have k1 := K1.out
    exact ⟨k1.os, k1.tape, k1.output, k1.size, fun b hb => k1.block b hb (by simp)⟩

set_option maxHeartbeats 4000000 in
set_option maxRecDepth 100000 in
theorem concat_any (g cap : Nat) (ps : List PathV) (hl : ps.length ≤ 1048576) (hsum : (catL ps).length ≤ 2097152) (w : World) (h : PathsAt w g ps) (hso : ∀ j (hj : j < ps.length), ∃ b o, ps[j].2.1 = some ⟨b, o, none⟩) :
    Calls Tryz.prog 111 #[.slice (some ⟨g, 0, none⟩) ps.length cap] w fun e w' => ∃ v, e = .returned v ∧ w'.ownsRow w.heap.size 9 1 v (catL ps).length (strV (catL ps)) ∧ Below w.heap.size w w' := by
  obtain ⟨ii, hii, hz, hs, hb⟩ := info_parts info_strC
  have HSUM := hide hsum
  clear hsum
  go_enter Tryz.func111, Tryz.ntmps111
  go_wp2
  go_loop [3, 11] (fun s i => ∃ k : Nat, k ≤ ps.length ∧ i = .int .i64 k ∧ s = .int .i64 ((catL (ps.take k)).length : Nat)) (fun _ i => ps.length - (intOf i).toNat)
  case atStart => exact ⟨0, Nat.zero_le _, rfl, by simp [catL]⟩
  case round =>
    obtain ⟨k, hk, rfl, rfl⟩ := hrel
    by_cases hlt : k < ps.length
    · have hc := h.cl k hlt
      have hle := catL_le ps (k + 1)
      have hsn := congrArg List.length (catL_snoc ps k hlt)
      rw [List.length_append] at hsn
      have hb9 : (catL (ps.take k)).length + ps[k].1.length ≤ 2097152 := by have := HSUM.out; omega
      have HE := hide (show (((catL (ps.take (k + 1))).length : Nat) : Int) = ((catL (ps.take k)).length : Nat) + (ps[k].1.length : Nat) by omega)
      generalize (catL (ps.take k)).length = m at *
      have hneg : ¬ ((m : Int) + (ps[k].1.length : Int) < 0) := by omega
      clear hle hsn
      go_wp2
      go_round
      case rel => exact ⟨k + 1, by omega, by go_num, by rw [HE.out]⟩
      case measure => simp [intOf]; omega
    · have hke : ps.take k = ps := List.take_of_length_le (by omega)
      have HKE := hide hke
      have X1 := hide (grow_any (catL ps).length (by have := HSUM.out; omega) w)
      rw [← hke] at X1
      clear hke
      go_wp2_with fail
      refine X1.out.mono ?_
      rintro e w1 ⟨v0, rfl, hown, b1⟩
      have HOW := hide hown
      have B1 := hide b1
      clear hown b1 X1
      go_wp2
      go_loopw [6, 27] (fun v i wr => ∃ k : Nat, k ≤ ps.length ∧ i = .int .i64 k ∧ wr.ownsRow w.heap.size 9 1 v (catL (ps.take k)).length (strV (catL (ps.take k))) ∧ Below w.heap.size w wr) (fun _ i _ => ps.length - (intOf i).toNat)
      case atStart => exact ⟨0, Nat.zero_le _, rfl, by simpa [catL, strV] using HOW.out, B1.out⟩
      case round =>
        obtain ⟨j, hj, rfl, hown, hbe⟩ := hrel
        have HO := hide hown
        clear hown
        by_cases hjl : j < ps.length
        · have h2 := h.below hbe
          have hc := h2.cl j hjl
          obtain ⟨hst, _, _⟩ := h2.st j hjl
          obtain ⟨pb, po, hpa⟩ := hso j hjl
          have HSN := hide (catL_snoc ps j hjl)
          have hle := catL_le ps (j + 1)
          have hsn := congrArg List.length HSN.out
          rw [List.length_append] at hsn
          have hb9 : (catL (ps.take j)).length + ps[j].1.length ≤ 2097152 := by have := HSUM.out; omega
          have hst2 : ∀ i u, (strV ps[j].1)[i]? = some u → wr.cell? ((⟨pb, po, none⟩ : Addr).add i) = some u := fun i u hi => by
            have hil : i < ps[j].1.length := by
              have := (List.getElem?_eq_some_iff.1 hi).1
              rw [strV_length] at this
              exact this
            obtain ⟨b0, o0, ea, _, hcc⟩ := hst (by omega)
            rw [hpa] at ea
            cases ea
            rw [Addr.add_lit]
            have := hcc i hil
            rw [this]
            unfold strV at hi
            rw [List.getElem?_map, List.getElem?_eq_getElem hil] at hi
            exact hi
          have HS2 := hide hst2
          rw [hpa] at hc
          generalize hm9 : (catL (ps.take j)).length = m at *
          clear h2 hst hpa hle hsn hst2
          go_wp2_with (at_builtin; refine wpList_append_own_at _ rfl _ _ 25 rfl w.heap.size 9 ii _ 1 16 Tryz.underlying25 hii hz hs hb rfl (by omega) _ m (strV (catL (ps.take j))) rfl HO.out ⟨pb, po, none⟩ ps[j].1.length ps[j].2.2 (strV ps[j].1) rfl (by rw [strV_length]; omega) HS2.out (strV_one _) (by unfold maxLen; omega) (by omega) hbe.size ?_)
          intro v' w' h3 h4 h5 h6
          have H3 := hide h3
          have H4 := hide h4
          have HOB := hide HO.out
          clear h3 h4 h5 h6
          go_wp2
          go_roundw
          case rel =>
            refine ⟨j + 1, by omega, by go_num, ?_, ?_⟩
            · rw [HSN.out, strV_append, List.length_append, hm9]
              exact H3.out
            · have g4 := H4.out
              have hlt2 := HOB.out.lt
              exact hbe.trans ⟨g4.os, g4.tape, g4.output, g4.size, fun b hb => g4.block b (by have := hbe.size; omega) (fun e => by have := (hlt2 b e.symm).1; omega)⟩
          case measure => simp [intOf]; omega
        · have hke2 : ps.take j = ps := List.take_of_length_le (by omega)
          have HK2 := hide hke2
          clear hke2
          go_wp2
          go_ret
          refine ⟨_, rfl, ?_, hbe⟩
          have := HO.out
          rw [HK2.out] at this
          exact this
end Go.Proofs.YtifnolomekhmfaaGreat
namespace Go.Proofs.YtifnolomekhmfaaGreat
open Go.RowKit M
set_option linter.unusedVariables false

theorem run_make_ress (n : Nat) (hn : n ≤ 1048576) (w : World) :
    (Instr.makeSlice 24 (.int .i64 (n : Int)) (.int .i64 (n : Int))).run Tryz.prog w = .ok (.slice (some ⟨w.heap.size, 0, none⟩) n n) (w.alloc (.cells (madeCells #[.slice none 0 0, .bool false, .string ByteArray.empty, .int .i64 0, .slice none 0 0] (n * 5)) 62)) := by
  obtain ⟨i, hi, hz, hs, hb⟩ := info_parts info_res
  have hr := run_make (P := Tryz.prog) w 24 62 i _ Tryz.underlying24 hi hz .i64 .i64 n n (by omega) (Int.le_refl _) (by rw [hb]; omega) (by omega)
  simp only [Int.toNat_natCast, hs] at hr
  exact hr

/-- What is made so far. -/
def MadeR (w : World) (g : Nat) (rs : List Rs) (k : Nat) : Prop :=
  ∃ F : Nat → Value, w.rowIs g 62 (rs.length * 5) F ∧ ∃ pb qb : Nat → Nat, ∀ j (hj : j < rs.length), j < k →
    F (j * 5) = .slice (some ⟨pb j, 0, none⟩) rs[j].pa.length rs[j].pa.length ∧ F (j * 5 + 1) = .bool rs[j].co ∧ F (j * 5 + 2) = .string rs[j].bo ∧ F (j * 5 + 3) = .int .i64 rs[j].ve ∧ F (j * 5 + 4) = .slice (some ⟨qb j, 0, none⟩) rs[j].ps.length rs[j].ps.length ∧
    RowS w (pb j) rs[j].pa ∧ RowP w (qb j) rs[j].ps ∧ g < pb j ∧ pb j < qb j ∧ ∀ i, i < j → qb i < pb j

theorem MadeR.start (w : World) (rs : List Rs) : MadeR (w.alloc (.cells (madeCells #[.slice none 0 0, .bool false, .string ByteArray.empty, .int .i64 0, .slice none 0 0] (rs.length * 5)) 62)) w.heap.size rs 0 := by
  have hr := World.rowIs_alloc w (madeCells #[.slice none 0 0, .bool false, .string ByteArray.empty, .int .i64 0, .slice none 0 0] (rs.length * 5)) 62 (fun i => ((madeCells #[.slice none 0 0, .bool false, .string ByteArray.empty, .int .i64 0, .slice none 0 0] (rs.length * 5))[i]?).getD (.string ByteArray.empty)) (fun i hi => by rw [Array.getElem?_eq_getElem hi]; rfl)
  rw [size_madeCells] at hr
  exact ⟨_, hr, fun _ => 0, fun _ => 0, fun j _ hj => absurd hj (Nat.not_lt_zero _)⟩
theorem MadeR.below {w w1 : World} {g : Nat} {rs : List Rs} {k : Nat} (m : MadeR w g rs k) (hb : Below w.heap.size w w1) : MadeR w1 g rs k := by
  obtain ⟨F, hr, pb, qb, hj⟩ := m
  refine ⟨F, hr.of_block (w' := w1) (hb.block _ hr.lt), pb, qb, fun j hjl hjk => ?_⟩
  obtain ⟨e0, e1, e2, e3, e4, e5, e6, e7⟩ := hj j hjl hjk
  exact ⟨e0, e1, e2, e3, e4, e5.below hb, e6.below hb, e7⟩
theorem MadeR.lt {w : World} {g : Nat} {rs : List Rs} {k : Nat} (m : MadeR w g rs k) : g < w.heap.size := by obtain ⟨F, hr, _⟩ := m; exact hr.lt
theorem MadeR.cells {w : World} {g : Nat} {rs : List Rs} {k : Nat} (m : MadeR w g rs k) (hk : k < rs.length) : ∃ v0 v1 v2 v3 v4, w.cell? ⟨g, k * 5, none⟩ = some v0 ∧ w.cell? ⟨g, k * 5 + 1, none⟩ = some v1 ∧ w.cell? ⟨g, k * 5 + 2, none⟩ = some v2 ∧ w.cell? ⟨g, k * 5 + 3, none⟩ = some v3 ∧ w.cell? ⟨g, k * 5 + 4, none⟩ = some v4 ∧ w.frozen? ⟨g, k * 5, none⟩ = false ∧ w.frozen? ⟨g, k * 5 + 1, none⟩ = false ∧ w.frozen? ⟨g, k * 5 + 2, none⟩ = false ∧ w.frozen? ⟨g, k * 5 + 3, none⟩ = false ∧ w.frozen? ⟨g, k * 5 + 4, none⟩ = false := by
  obtain ⟨F, hr, _⟩ := m
  exact ⟨_, _, _, _, _, hr.cell (by omega), hr.cell (by omega), hr.cell (by omega), hr.cell (by omega), hr.cell (by omega), hr.frozen _, hr.frozen _, hr.frozen _, hr.frozen _, hr.frozen _⟩
theorem MadeR.next {w w1 : World} {g : Nat} {rs : List Rs} {k : Nat} (m : MadeR w g rs k) (hb : Below w.heap.size w w1) (hk : k < rs.length) (p q : Nat) (hp : w.heap.size ≤ p) (hpq : p < q) (rp : RowS w1 p rs[k].pa) (rq : RowP w1 q rs[k].ps) :
    MadeR (((((w1.setCell ⟨g, k * 5, none⟩ (.slice (some ⟨p, 0, none⟩) rs[k].pa.length rs[k].pa.length)).setCell ⟨g, k * 5 + 1, none⟩ (.bool rs[k].co)).setCell ⟨g, k * 5 + 2, none⟩ (.string rs[k].bo)).setCell ⟨g, k * 5 + 3, none⟩ (.int .i64 rs[k].ve)).setCell ⟨g, k * 5 + 4, none⟩ (.slice (some ⟨q, 0, none⟩) rs[k].ps.length rs[k].ps.length)) g rs (k + 1) := by
  have m1 := m.below hb
  have hgl := m.lt
  obtain ⟨F0, hr0, pb0, qb0, hj0⟩ := m
  have hlast : ∀ (pb qb : Nat → Nat), True := fun _ _ => trivial
  clear hlast
  refine ⟨_, (((((hr0.of_block (w' := w1) (hb.block _ hr0.lt)).set (k * 5) (.slice (some ⟨p, 0, none⟩) rs[k].pa.length rs[k].pa.length)).set (k * 5 + 1) (.bool rs[k].co)).set (k * 5 + 2) (.string rs[k].bo)).set (k * 5 + 3) (.int .i64 rs[k].ve)).set (k * 5 + 4) (.slice (some ⟨q, 0, none⟩) rs[k].ps.length rs[k].ps.length), fun i => if i = k then p else pb0 i, fun i => if i = k then q else qb0 i, fun j hjl hjk => ?_⟩
  by_cases e : j = k
  · subst e
    refine ⟨by simp, by simp, by simp, by simp, by simp, ?_, ?_, by simp; omega, by simpa using hpq, fun i hi => ?_⟩
    · simp only [if_true]
      exact ((((rp.setCell _ _ (by simp; omega)).setCell _ _ (by simp; omega)).setCell _ _ (by simp; omega)).setCell _ _ (by simp; omega)).setCell _ _ (by simp; omega)
    · simp only [if_true]
      exact ((((rq.setCell _ _ (by simp; omega)).setCell _ _ (by simp; omega)).setCell _ _ (by simp; omega)).setCell _ _ (by simp; omega)).setCell _ _ (by simp; omega)
    · simp only [show ¬ i = j by omega, if_true, if_false]
      have := (hj0 i (by omega) hi).2.2.2.2.2.2.1.1
      omega
  · obtain ⟨e0, e1, e2, e3, e4, e5, e6, e7, e8, e9⟩ := hj0 j hjl (by omega)
    have f5 := e5.below hb
    have f6 := e6.below hb
    simp only [e, if_false]
    refine ⟨?_, ?_, ?_, ?_, ?_, ?_, ?_, e7, e8, fun i hi => ?_⟩
    · simp only [show ¬ j * 5 = k * 5 + 4 by omega, show ¬ j * 5 = k * 5 + 3 by omega, show ¬ j * 5 = k * 5 + 2 by omega, show ¬ j * 5 = k * 5 + 1 by omega, show ¬ j * 5 = k * 5 by omega, if_false]; exact e0
    · simp only [show ¬ j * 5 + 1 = k * 5 + 4 by omega, show ¬ j * 5 + 1 = k * 5 + 3 by omega, show ¬ j * 5 + 1 = k * 5 + 2 by omega, show ¬ j * 5 + 1 = k * 5 + 1 by omega, show ¬ j * 5 + 1 = k * 5 by omega, if_false]; exact e1
    · simp only [show ¬ j * 5 + 2 = k * 5 + 4 by omega, show ¬ j * 5 + 2 = k * 5 + 3 by omega, show ¬ j * 5 + 2 = k * 5 + 2 by omega, show ¬ j * 5 + 2 = k * 5 + 1 by omega, show ¬ j * 5 + 2 = k * 5 by omega, if_false]; exact e2
    · simp only [show ¬ j * 5 + 3 = k * 5 + 4 by omega, show ¬ j * 5 + 3 = k * 5 + 3 by omega, show ¬ j * 5 + 3 = k * 5 + 2 by omega, show ¬ j * 5 + 3 = k * 5 + 1 by omega, show ¬ j * 5 + 3 = k * 5 by omega, if_false]; exact e3
    · simp only [show ¬ j * 5 + 4 = k * 5 + 4 by omega, show ¬ j * 5 + 4 = k * 5 + 3 by omega, show ¬ j * 5 + 4 = k * 5 + 2 by omega, show ¬ j * 5 + 4 = k * 5 + 1 by omega, show ¬ j * 5 + 4 = k * 5 by omega, if_false]; exact e4
    · exact ((((f5.setCell _ _ (by simp; omega)).setCell _ _ (by simp; omega)).setCell _ _ (by simp; omega)).setCell _ _ (by simp; omega)).setCell _ _ (by simp; omega)
    · exact ((((f6.setCell _ _ (by simp; omega)).setCell _ _ (by simp; omega)).setCell _ _ (by simp; omega)).setCell _ _ (by simp; omega)).setCell _ _ (by simp; omega)
    · simp only [show ¬ i = k by omega, if_false]
      exact e9 i hi
theorem MadeR.done {w : World} {g : Nat} {rs : List Rs} {k : Nat} (m : MadeR w g rs k) (hk : ¬ k < rs.length) : ∃ pb qb, OwnR w g w.heap.size g rs pb qb := by
  obtain ⟨F, hr, pb, qb, hj⟩ := m
  refine ⟨pb, qb, Nat.le_refl _, hr.lt, hr.lt, fun i => hr.frozen i, fun j hjl => ?_, fun j hjl => (hj j hjl (by omega)).2.2.2.2.2.1, fun j hjl => (hj j hjl (by omega)).2.2.2.2.2.2.1, fun j hjl => ?_, fun i j hij hjl => ?_⟩
  · obtain ⟨e0, e1, e2, e3, e4, _⟩ := hj j hjl (by omega)
    exact ⟨by rw [hr.cell (by omega), e0], by rw [hr.cell (by omega), e1], by rw [hr.cell (by omega), e2], by rw [hr.cell (by omega), e3], by rw [hr.cell (by omega), e4]⟩
  · obtain ⟨_, _, _, _, _, e5, e6, e7, e8, _⟩ := hj j hjl (by omega)
    have := e6.1
    omega
  · obtain ⟨_, _, _, _, _, _, _, _, e8, e9⟩ := hj j hjl (by omega)
    obtain ⟨_, _, _, _, _, _, _, _, d8, _⟩ := hj i (by omega) (by omega)
    have o1 := e9 i hij
    exact ⟨by omega, by omega, by omega, by omega⟩

end Go.Proofs.YtifnolomekhmfaaGreat
namespace Go.Proofs.YtifnolomekhmfaaGreat
open Go.RowKit M
set_option linter.unusedVariables false

/-- How long what a thing has may be. -/
abbrev SzT (rs : List Rs) : Prop := ∀ r ∈ rs, r.pa.length ≤ 1048576 ∧ r.ps.length ≤ 1048576 ∧ (∀ s ∈ r.pa, s.size ≤ 281474976710656) ∧ r.bo.size ≤ 281474976710656 ∧ ∀ p ∈ r.ps, p.1.size ≤ 281474976710656 ∧ p.2.1.size ≤ 281474976710656 ∧ p.2.2.size ≤ 281474976710656

set_option maxRecDepth 100000 in
set_option maxHeartbeats 2000000 in
theorem copyTree_any (a : Option Addr) (rs : List Rs) (cap B : Nat) (w : World) (h : Rss w B a rs) (hB : B ≤ w.heap.size) (hl : rs.length ≤ 1048576) (hs : SzT rs) :
    Calls Tryz.prog 59 #[.slice a rs.length cap] w fun e w' => e = .returned (.slice (some ⟨w.heap.size, 0, none⟩) rs.length rs.length) ∧ (∃ pb qb, OwnR w' w.heap.size w'.heap.size w.heap.size rs pb qb) ∧ Below w.heap.size w w' := by
  have HS := hide hs
  clear hs
  have hmk := run_make_ress rs.length hl w
  go_enter Tryz.func59, Tryz.ntmps59
  go_wp2
  clear hmk
  go_loopw [11] (fun i wr => ∃ k : Nat, k ≤ rs.length ∧ i = .int .i64 k ∧ MadeR wr w.heap.size rs k ∧ Below w.heap.size w wr) (fun i _ => rs.length - (intOf i).toNat)
  case atStart => exact ⟨0, Nat.zero_le _, rfl, MadeR.start w rs, (Below.refl _ _).alloc (Nat.le_refl _) _⟩
  case round =>
    obtain ⟨k, hk, rfl, hrow, hbe⟩ := hrel
    by_cases hlt : k < rs.length
    · obtain ⟨b, o, rfl, hb, hc⟩ := (h.below hbe hB) (by omega)
      obtain ⟨pa, pc, qa, qc, ⟨hc0, hc1, hc2, hc3, hc4⟩, hin⟩ := hc k hlt
      clear hc
      have HSK := hide (HS.out _ (List.getElem_mem hlt))
      have hBA := (Below.refl wr.heap.size wr).alloc (Nat.le_refl _) (Obj.cells #[.slice pa (rs[k]).pa.length pc, .bool (rs[k]).co, .string (rs[k]).bo, .int .i64 (rs[k]).ve, .slice qa (rs[k]).ps.length qc] 62)
      have HC := hide (copyRes_any rs[k] pa pc qa qc B (wr.alloc (Obj.cells #[.slice pa (rs[k]).pa.length pc, .bool (rs[k]).co, .string (rs[k]).bo, .int .i64 (rs[k]).ve, .slice qa (rs[k]).ps.length qc] 62)) (hin.below hBA (Nat.le_trans hB hbe.size)) (by have := hbe.size; simp; omega) HSK.out.1 HSK.out.2.1 HSK.out.2.2.1 HSK.out.2.2.2.1 HSK.out.2.2.2.2)
      have HBA := hide hBA
      have hr0 := hrow.below hBA
      have HR0 := hide hr0
      clear hin hBA hr0 hrow
      go_wp2_with fail
      refine HC.out.mono ?_
      rintro e w1 ⟨⟨p, q, rfl, hp, hpq, rp, rq⟩, hb1⟩
      have c1 := (hbe.trans (HBA.out.mono hbe.size)).trans (hb1.mono (by have := hbe.size; simp; omega))
      obtain ⟨v0, v1, v2, v3, v4, hd0, hd1, hd2, hd3, hd4, hf0, hf1, hf2, hf3, hf4⟩ := (HR0.out.below hb1).cells hlt
      have HR := hide (HR0.out.next hb1 hlt p q hp hpq rp rq)
      clear rp rq hp hpq HC HBA HR0
      go_wp2
      go_roundw
      case rel => exact ⟨k + 1, by omega, by go_num, HR.out, ((((c1.setCell (Nat.le_refl _) _).setCell (Nat.le_refl _) _).setCell (Nat.le_refl _) _).setCell (Nat.le_refl _) _).setCell (Nat.le_refl _) _⟩
      case measure => simp [intOf]; omega
    · go_wp2
      go_ret
      exact ⟨rfl, hrow.done hlt, hbe⟩
end Go.Proofs.YtifnolomekhmfaaGreat
namespace Go.Proofs.YtifnolomekhmfaaGreat
open Go.RowKit M
/-- Things handed back that one call made, and a code. -/
def GaveIs (w w' : World) (e : Ending) (rs : List Rs) (c : Int) : Prop := ∃ (g cap : Nat) (pb qb : Nat → Nat), e = .returned (.tuple #[.slice (some ⟨g, 0, none⟩) rs.length cap, .int .i64 c]) ∧ OwnR w' w.heap.size w'.heap.size g rs pb qb

theorem PathsAt.one {w : World} {b : Option Addr} {p : List ByteArray} {cap C : Nat} (h : Strs w C b p) (hC : C ≤ w.heap.size) (hs : Short p) (hl : p.length ≤ maxLen) : PathsAt (w.alloc (Obj.cells #[.slice b p.length cap] 25)) w.heap.size [(p, b, cap)] := by
  have hb := (Below.refl w.heap.size w).alloc (Nat.le_refl _) (Obj.cells #[.slice b p.length cap] 25)
  refine ⟨by simp, fun j hj => ?_, fun j hj => ?_⟩
  · obtain rfl : j = 0 := by simp at hj; omega
    simp
  · obtain rfl : j = 0 := by simp at hj; omega
    exact ⟨(h.below hb hC).mono (by simp; omega), hs, hl⟩

theorem OwnR.down {w : World} {lo lo' hi g : Nat} {rs : List Rs} {pb qb : Nat → Nat} (h : OwnR w lo hi g rs pb qb) (hl : lo' ≤ lo) : OwnR w lo' hi g rs pb qb :=
  ⟨Nat.le_trans hl h.gl, h.gh, h.gs, h.fz, h.cl, h.rp, h.rq, fun j hj => by obtain ⟨k1, k2⟩ := h.bnd j hj; exact ⟨Nat.le_trans hl k1, k2⟩, h.ord⟩
end Go.Proofs.YtifnolomekhmfaaGreat
namespace Go.Proofs.YtifnolomekhmfaaGreat
open Go.RowKit M
set_option linter.unusedVariables false

/-- All that keeps the blocks from B on keeps a growing row. -/
theorem GrowR.heap {w w' : World} {B lo : Nat} {v : Value} {ts : List RsT} (g : GrowR w B v ts lo) (hz : w.heap.size ≤ w'.heap.size) (e : ∀ b, B ≤ b → b < w.heap.size → w'.heap[b]? = w.heap[b]?) : GrowR w' B v ts lo := by
  refine ⟨⟨g.own.1, ?_⟩, g.blk, Nat.le_trans g.top hz, fun j hj => ?_, g.ord, g.caps, fun j hj => (g.room j hj).of (e _ (Nat.le_trans (g.el j hj).1 (Nat.le_of_lt (g.el j hj).2.1)) (g.el j hj).2.2.2.2.1.1)⟩
  · rcases g.own.2 with h | ⟨g, cap, cur, ev, hB, hh, hr⟩
    · exact .inl h
    · exact .inr ⟨g, cap, cur, ev, hB, (e g hB (Array.getElem?_eq_some_iff.1 hh).1).trans hh, hr⟩
  · obtain ⟨h1, h2, h3, h4, h5, h6⟩ := g.el j hj
    refine ⟨h1, h2, h3, ⟨Nat.lt_of_lt_of_le h4.1 hz, fun i hi => ?_⟩, h5.of (Nat.lt_of_lt_of_le h5.1 hz) (fun o => by simp only [World.cell?, e _ (by omega) h5.1]) (fun o => by simp only [World.frozen?, e _ (by omega) h5.1]), h6⟩
    have := h4.2 i hi
    simp only [World.cell?, World.frozen?] at this ⊢
    rw [e _ h1 h4.1]
    exact this
end Go.Proofs.YtifnolomekhmfaaGreat
namespace Go.Proofs.YtifnolomekhmfaaGreat
open Go.RowKit M
set_option linter.unusedVariables false

/-- What is handed back: a row of one's own, the old one or a new one. -/
structure InsIs (w w' : World) (base g : Nat) (v' : Value) (n : Nat) (xs : List Value) : Prop where
  own : w'.ownsRow base 62 5 v' n xs
  grew : w.grownBy w' (some g)
  blk : v'.ownBlock = some g ∨ ∃ b, v'.ownBlock = some b ∧ w.heap.size ≤ b

theorem grown_self (w : World) (r : Option Nat) : w.grownBy w r := ⟨rfl, rfl, rfl, Nat.le_refl _, fun _ _ _ => rfl⟩

theorem insert_none (base g n c i : Nat) (xs : List Value) (vb vc : Nat) (w : World) (hown : w.ownsRow base 62 5 (.slice (some ⟨g, 0, none⟩) n c) n xs) (hi : i ≤ n) (hn : n ≤ 4194304) (hc : c ≤ maxLen) (hnc : n ≤ c) :
    Calls Tryz.prog 136 #[.slice (some ⟨g, 0, none⟩) n c, .int .i64 i, .slice (some ⟨vb, 0, none⟩) 0 vc] w fun e w' => ∃ v', e = .returned v' ∧ InsIs w w' base g v' n xs := by
  have hi1 : (0 : Int) ≤ (i : Int) := by omega
  have hi2 : (i : Int) ≤ (n : Int) := by omega
  have HO := hide hown
  clear hown
  unfold maxLen at hc
  by_cases hci : c = i
  · subst hci
    go_enter Tryz.func136, Tryz.ntmps136
    go_wp2
    go_ret
    exact ⟨_, rfl, HO.out, grown_self _ _, .inl rfl⟩
  · skip
    go_enter Tryz.func136, Tryz.ntmps136
    go_wp2
    go_ret
    exact ⟨_, rfl, HO.out, grown_self _ _, .inl rfl⟩

set_option maxHeartbeats 4000000 in
set_option maxRecDepth 100000 in
theorem insert_end (base g n c m : Nat) (xs news : List Value) (vb vc : Nat) (w : World) (hown : w.ownsRow base 62 5 (.slice (some ⟨g, 0, none⟩) n c) n xs) (hm : 0 < m) (hn : n ≤ 2097152) (hmm : m ≤ 2097152) (hc : c ≤ maxLen) (hnc : n ≤ c) (hl : news.length = m * 5) (hnews : ∀ j u, news[j]? = some u → w.cell? ⟨vb, j, none⟩ = some u) (h1 : ∀ u ∈ news, u.oneCell' = true) (hbase : base ≤ w.heap.size) :
    Calls Tryz.prog 136 #[.slice (some ⟨g, 0, none⟩) n c, .int .i64 n, .slice (some ⟨vb, 0, none⟩) m vc] w fun e w' => ∃ v', e = .returned v' ∧ InsIs w w' base g v' (n + m) (xs ++ news) := by
  obtain ⟨ii, hii, hz, hs, hb⟩ := info_parts info_res
  have HO := hide hown
  clear hown
  unfold maxLen at hc
  have hz1 : ¬ ((m : Int) = 0) := by omega
  by_cases hci : n = c
  · subst hci
    go_enter Tryz.func136, Tryz.ntmps136
    go_wp2_with (at_builtin; refine wpList_append_own_at _ rfl _ _ 24 rfl base 62 ii _ 5 80 Tryz.underlying24 hii hz hs hb rfl (by omega) _ n xs rfl HO.out ⟨vb, 0, none⟩ m vc news rfl hl (fun j u hj => by rw [Addr.add_lit, Nat.zero_add]; exact hnews j u hj) h1 (by unfold maxLen; omega) (by omega) hbase ?_)
    intro v' w' h2 h3 h4 h5
    have H2 := hide h2
    have H3 := hide h3
    have H5 := hide h5
    clear h2 h3 h4 h5
    go_wp2
    go_ret
    refine ⟨_, rfl, H2.out, H3.out, ?_⟩
    rcases H5.out with h | h
    · exact .inl h
    · exact .inr ⟨_, h, Nat.le_refl _⟩
  · skip
    go_enter Tryz.func136, Tryz.ntmps136
    go_wp2_with (at_builtin; refine wpList_append_own_at _ rfl _ _ 24 rfl base 62 ii _ 5 80 Tryz.underlying24 hii hz hs hb rfl (by omega) _ n xs rfl HO.out ⟨vb, 0, none⟩ m vc news rfl hl (fun j u hj => by rw [Addr.add_lit, Nat.zero_add]; exact hnews j u hj) h1 (by unfold maxLen; omega) (by omega) hbase ?_)
    intro v' w' h2 h3 h4 h5
    have H2 := hide h2
    have H3 := hide h3
    have H5 := hide h5
    clear h2 h3 h4 h5
    go_wp2
    go_ret
    refine ⟨_, rfl, H2.out, H3.out, ?_⟩
    rcases H5.out with h | h
    · exact .inl h
    · exact .inr ⟨_, h, Nat.le_refl _⟩
end Go.Proofs.YtifnolomekhmfaaGreat
namespace Go.Proofs.YtifnolomekhmfaaGreat
open Go.RowKit M
set_option linter.unusedVariables false

theorem ins_list {ROW A N D : List Value} (hpre : ROW.take A.length = A) (hlen : A.length + N.length + D.length ≤ ROW.length) :
    (splice (splice ROW A.length N) (A.length + N.length) D).take (A.length + N.length + D.length) = A ++ (N ++ D) := by
  unfold splice
  rw [hpre]
  have e1 : (A ++ (N ++ ROW.drop (A.length + N.length))).take (A.length + N.length) = A ++ N := by
    rw [← List.append_assoc, List.take_append_of_le_length (by simp), List.take_of_length_le (by simp)]
  rw [e1, ← List.append_assoc, List.take_append_of_le_length (by simp; omega), List.take_of_length_le (by simp; omega), List.append_assoc]
theorem ins_list2 {ROW A N D : List Value} (hpre : ROW.take A.length = A) (hlen : A.length + N.length + D.length ≤ ROW.length) :
    (splice (splice ROW (A.length + N.length) D) A.length N).take (A.length + N.length + D.length) = A ++ (N ++ D) := by
  unfold splice
  have l0 : (ROW.take (A.length + N.length)).length = A.length + N.length := by rw [List.length_take]; omega
  have e1 : (ROW.take (A.length + N.length) ++ (D ++ ROW.drop (A.length + N.length + D.length))).take A.length = A := by
    rw [List.take_append_of_le_length (by omega), List.take_take, Nat.min_eq_left (by omega)]
    exact hpre
  have e2 : (ROW.take (A.length + N.length) ++ (D ++ ROW.drop (A.length + N.length + D.length))).drop (A.length + N.length) = D ++ ROW.drop (A.length + N.length + D.length) := by
    rw [List.drop_append_of_le_length (by omega), List.drop_of_length_le (by omega), List.nil_append]
  rw [e1, e2, ← List.append_assoc N, ← List.append_assoc A, List.take_append_of_le_length (by simp; omega), List.take_of_length_le (by simp; omega)]

set_option maxHeartbeats 4000000 in
set_option maxRecDepth 100000 in
theorem insert_grow (base g n c i m : Nat) (xs news : List Value) (vb vc : Nat) (w : World) (hown : w.ownsRow base 62 5 (.slice (some ⟨g, 0, none⟩) n c) n xs) (hi : i < n) (hm : 0 < m) (hn : n ≤ 2097152) (hmm : m ≤ 2097152) (hroom : c < n + m) (hl : news.length = m * 5) (hnews : ∀ j u, news[j]? = some u → w.cell? ⟨vb, j, none⟩ = some u) (h1 : ∀ u ∈ news, u.oneCell' = true) (hx1 : ∀ u ∈ xs, u.oneCell' = true) (hbase : base ≤ w.heap.size) (hvb : vb < w.heap.size) :
    Calls Tryz.prog 136 #[.slice (some ⟨g, 0, none⟩) n c, .int .i64 i, .slice (some ⟨vb, 0, none⟩) m vc] w fun e w' => ∃ v', e = .returned v' ∧ InsIs w w' base g v' (n + m) (xs.take (i * 5) ++ (news ++ xs.drop (i * 5))) := by
  obtain ⟨ii, hii, hz, hs, hb⟩ := info_parts info_res
  have hsz5 : (Tryz.prog.info? 62).map (·.size) = some 5 := by rw [hii]; simp [hs]
  have hxl : xs.length = n * 5 := hown.1
  have hcell : ∀ j v, xs[j]? = some v → w.cell? ⟨g, j, none⟩ = some v := fun j v hj => by
    have hjl : j < n * 5 := by
      have := (List.getElem?_eq_some_iff.1 hj).1
      omega
    rw [hown.cellAt j hjl]; exact hj
  have hgl : g < w.heap.size := (hown.lt g rfl).2
  have hnc : n ≤ c := by
    rcases hown.2 with ⟨h, _⟩ | ⟨g', cap, cur, ev, _, _, h4, _⟩
    · cases h
    · cases ev; exact h4
  have hold : (Builtin.firstCells ii.size i (.slice (some ⟨g, 0, none⟩) i c)).run Tryz.prog w.drew = .ok (xs.take (i * 5)).toArray w.drew := by
    rw [hs]
    exact run_firstCells_some w.drew 5 i ⟨g, 0, none⟩ i c (xs.take (i * 5)) (by rw [List.length_take]; omega) (fun j v hj => by
      rw [Addr.add_lit, Nat.zero_add]
      rw [List.getElem?_take] at hj
      split at hj
      · exact hcell j v hj
      · cases hj)
  have hz1 : ¬ ((m : Int) = 0) := by omega
  have hz2 : ¬ ((i : Int) = (n : Int)) := by omega
  have hz3 : (c : Int) < (n : Int) + (m : Int) := by omega
  have hci : ¬ (c = i) := by omega
  have hin : (i : Int) ≤ (n : Int) := by omega
  have hi0 : (0 : Int) ≤ (i : Int) := by omega
  have hic : (i : Int) ≤ (c : Int) := by omega
  have hw1 : IntKind.i64.wrap ((i : Int) + (m : Int)) = (i : Int) + (m : Int) := by rw [IntKind.wrap_i64]; omega
  have hw2 : IntKind.i64.wrap ((n : Int) + (m : Int)) = (n : Int) + (m : Int) := by rw [IntKind.wrap_i64]; omega
  have hw3 : IntKind.i64.wrap ((n : Int) + (m : Int) - (i : Int)) = (n : Int) + (m : Int) - (i : Int) := by rw [IntKind.wrap_i64]; omega
  have hb1 : (0 : Int) ≤ (i : Int) + (m : Int) := by omega
  have htn : ((i : Int) + (m : Int)).toNat = i + m := by omega
  have hkk : (n : Int) + (m : Int) - (i : Int) = ((n + m - i : Nat) : Int) := by omega
  have hik : i + (n + m - i) = n + m := by omega
  obtain ⟨A, hA⟩ : ∃ A, A = xs.take (i * 5) := ⟨_, rfl⟩
  obtain ⟨D, hD⟩ : ∃ D, D = xs.drop (i * 5) := ⟨_, rfl⟩
  have HAL := hide (show A.length = i * 5 by rw [hA, List.length_take]; omega)
  have HDL := hide (show D.length = (n - i) * 5 by rw [hD, List.length_drop]; omega)
  have hcellD : ∀ j v, D[j]? = some v → w.cell? ⟨g, i * 5 + j, none⟩ = some v := fun j v hj => hcell _ v (by rw [hD, List.getElem?_drop] at hj; exact hj)
  have hD1 : ∀ u ∈ D, u.oneCell' = true := fun u hu => hx1 u (by rw [hD] at hu; exact List.mem_of_mem_drop hu)
  rw [← hA] at hold
  rw [← hA, ← hD]
  clear hA hD hcell hx1
  have HOLD := hide hold
  have HKK := hide hkk
  have HIK := hide hik
  clear hold hkk hik
  go_enter Tryz.func136, Tryz.ntmps136
  go_wp2_with (at_builtin; refine wpList_appendZ rfl _ _ 24 3 62 rfl ii _ .i64 .i64 Tryz.underlying24 Tryz.underlying3 hii hz (some ⟨g, 0, none⟩) i c A HOLD.out (n + m - i) (by omega) (by omega) (by omega) (by omega) (by rw [hb]; omega) (by rw [hb, HIK.out]; exact growslice_fits hroom (by omega)) rfl _ rfl HKK.out ?_)
  intro w1 ROW H1 hRs hRt hg1 hs1
  rw [HIK.out] at hRs ⊢
  have hGn : n + m ≤ grownCap w (n + m) c 62 := grownCap_ge w _ _ _
  have hGm := grownCap_le_maxLen w (n + m) c 62 (by unfold maxLen; omega)
  generalize grownCap w (n + m) c 62 = G at *
  have hG63 : G ≤ 9223372036854775807 := by unfold maxLen at hGm; omega
  have HR := hide (show ROW.size = G * 5 ∧ ROW.toList.take A.length = A from ⟨by
    have h1 := hRs.out
    rw [HAL.out] at h1
    have : (Value.agg #[.slice none 0 0, .bool false, .string ByteArray.empty, .int .i64 0, .slice none 0 0]).cells.size = 5 := rfl
    try rw [this] at h1
    omega, hRt.out⟩)
  have hGi : ¬ (G = i) := by omega
  have hGim : ¬ (G = i + m) := by omega
  have hiG : (i : Int) ≤ (G : Int) := by omega
  have K1 := hide hg1
  clear hg1 hRs hRt
  have hnews1 : ∀ j u, news[j]? = some u → w1.cell? ⟨vb, j, none⟩ = some u := fun j u hj => by rw [World.cell?, K1.out.block vb hvb (by simp)]; exact hnews j u hj
  go_wp2_with (refine wpList_copyK rfl _ _ 24 24 rfl 5 62 Tryz.underlying24 hsz5 _ _ _ _ _ _ _ rfl rfl ROW 62 H1.out news ?_ ?_ ?_ h1 ?_)
  · rw [hl]; simp only [Nat.min_def]; split <;> omega
  · intro j u hj; rw [Addr.add_lit, Nat.zero_add]; exact hnews1 j u hj
  · have := HR.out.1; omega
  intro w2 hr2 hg2
  have K2 := hide hg2
  clear hg2 hnews1
  obtain ⟨ROW2, hROW2⟩ : ∃ ROW2 : Array Value, ROW2 = (splice ROW.toList (i * 5) news).toArray := ⟨_, rfl⟩
  have H2 := hide (show w2.heap[w.heap.size]? = some (.cells ROW2 62 (0, 0)) by rw [hROW2]; exact hr2.out)
  have hl2 : ROW2.size = G * 5 := by
    have := HR.out.1
    rw [hROW2, List.size_toArray, length_splice _ _ _ (by rw [hl, Array.length_toList]; omega), Array.length_toList]
    exact this
  have f2 : ∀ j v, D[j]? = some v → w2.drew.cell? ((⟨g, i * 5, none⟩ : Addr).add j) = some v := fun j v hj => by
    rw [Addr.add_lit]
    show w2.cell? _ = _
    rw [World.cell?, K2.out.block g (by omega) (by simp; omega), K1.out.block g hgl (by simp)]
    exact hcellD j v hj
  have F1 := hide (show D.length = Nat.min (n - i) (n + m - (i + m)) * 5 by rw [HDL.out]; simp only [Nat.min_def]; split <;> omega)
  have F3 := hide (show (i + m) * 5 + D.length ≤ ROW2.size by rw [HDL.out, hl2]; omega)
  have HE2 := hide (And.intro hROW2 hl2)
  clear hROW2 hl2 hr2
  go_wp2
  go_region_law (refine step_copyK rfl _ _ 24 24 rfl 5 62 Tryz.underlying24 hsz5 w.heap.size ((i + m) * 5) (n + m - (i + m)) (G - (i + m)) ⟨g, i * 5, none⟩ (n - i) (c - i) (by simp [Act.eval, Act.put]) (by simp [Act.eval, Act.put]) ROW2 62 H2.out D F1.out f2 F3.out hD1 ?_; intro w3 hr3 hg3)
  have K3 := hide hg3
  clear hg3
  go_wp2
  go_ret
  have hA := HAL.out
  have hDl := HDL.out
  have e1 : (i * 5) = A.length := hA.symm
  have e2 : (i + m) * 5 = A.length + news.length := by rw [hA, hl]; omega
  have hlen : A.length + news.length + D.length ≤ ROW.toList.length := by rw [hA, hl, hDl, Array.length_toList, HR.out.1]; omega
  have hrow : w3.heap[w.heap.size]? = some (.cells (splice (splice ROW.toList A.length news) (A.length + news.length) D).toArray 62 (0, 0)) := by
    have := hr3.out
    rw [HE2.out.1, e2, e1] at this
    exact this
  refine ⟨_, rfl, ⟨by rw [List.length_append, List.length_append, hA, hl, hDl]; omega, .inr ⟨w.heap.size, G, _, rfl, hbase, hrow, hGn, hGm, ?_, ?_⟩⟩, ?_, .inr ⟨_, rfl, Nat.le_refl _⟩⟩
  · rw [List.size_toArray, length_splice _ _ _ (by rw [length_splice _ _ _ (by omega)]; omega), length_splice _ _ _ (by omega), Array.length_toList]
    exact HR.out.1
  · rw [show (n + m) * 5 = A.length + news.length + D.length by rw [hA, hl, hDl]; omega]
    exact ins_list HR.out.2 hlen
  · have k1 := K1.out
    have k2 := K2.out
    have k3 := K3.out
    exact ⟨k3.os.trans (k2.os.trans k1.os), k3.tape.trans (k2.tape.trans k1.tape), k3.output.trans (k2.output.trans k1.output), Nat.le_trans k1.size (Nat.le_trans k2.size k3.size), fun b hb hne => by
      rw [k3.block b (by have := k1.size; have := k2.size; show b < w2.heap.size; omega) (by simp; omega)]
      show w2.heap[b]? = _
      rw [k2.block b (by have := k1.size; omega) (by simp; omega), k1.block b hb (by simp)]⟩
end Go.Proofs.YtifnolomekhmfaaGreat
namespace Go.Proofs.YtifnolomekhmfaaGreat
open Go.RowKit M
set_option linter.unusedVariables false

set_option maxHeartbeats 4000000 in
set_option maxRecDepth 100000 in
theorem insert_shift (base g n c i m : Nat) (xs news : List Value) (vb vc : Nat) (w : World) (hown : w.ownsRow base 62 5 (.slice (some ⟨g, 0, none⟩) n c) n xs) (hi : i < n) (hm : 0 < m) (hn : n ≤ 2097152) (hmm : m ≤ 2097152) (hroom : n + m ≤ c) (hl : news.length = m * 5) (hnews : ∀ j u, news[j]? = some u → w.cell? ⟨vb, j, none⟩ = some u) (h1 : ∀ u ∈ news, u.oneCell' = true) (hx1 : ∀ u ∈ xs, u.oneCell' = true) (hvb : vb < w.heap.size) (hne : vb ≠ g) (hfz : ∀ k, w.frozen? ⟨vb, k, none⟩ = false) (tA : TypeId) (kA : Nat) (hsa : w.shape? vb = some (tA, kA)) :
    Calls Tryz.prog 136 #[.slice (some ⟨g, 0, none⟩) n c, .int .i64 i, .slice (some ⟨vb, 0, none⟩) m vc] w fun e w' => ∃ v', e = .returned v' ∧ InsIs w w' base g v' (n + m) (xs.take (i * 5) ++ (news ++ xs.drop (i * 5))) := by
  obtain ⟨ii, hii, hz, hs, hb⟩ := info_parts info_res
  have hsz5 : (Tryz.prog.info? 62).map (·.size) = some 5 := by rw [hii]; simp [hs]
  have hxl : xs.length = n * 5 := hown.1
  have hcell : ∀ j v, xs[j]? = some v → w.cell? ⟨g, j, none⟩ = some v := fun j v hj => by
    have hjl : j < n * 5 := by
      have := (List.getElem?_eq_some_iff.1 hj).1
      omega
    rw [hown.cellAt j hjl]; exact hj
  have hgl : g < w.heap.size := (hown.lt g rfl).2
  obtain ⟨cur, hbg, hgg, hnc, hcm, hcs, htk⟩ : ∃ cur : Array Value, base ≤ g ∧ w.heap[g]? = some (.cells cur 62 (0, 0)) ∧ n ≤ c ∧ c ≤ maxLen ∧ cur.size = c * 5 ∧ cur.toList.take (n * 5) = xs := by
    rcases hown.2 with ⟨h, _⟩ | ⟨g', cap, cur, ev, q1, q2, q3, q4, q5, q6⟩
    · cases h
    · cases ev; exact ⟨cur, q1, q2, q3, q4, q5, q6⟩
  have hc63 : c ≤ 9223372036854775807 := by unfold maxLen at hcm; omega
  have hov : ∀ lb cb, (callFunc 152 #[.slice (some ⟨vb, 0, none⟩) m vc, .slice (some ⟨g, (i + m) * 5, none⟩) lb cb]).run Tryz.prog w = .ok (.value (.bool false)) w := fun lb cb => by
    rw [run_callFunc_extern Tryz.func152 (by kernel_rfl) (by kernel_rfl) (by kernel_rfl) (e := Extern.SlicesOverlaps.overlaps #[24, 24] #[4]) (by kernel_rfl),
      Lib.run_overlaps_apart w 24 4 62 Tryz.underlying24 5 Tryz.sizeOf62 ⟨vb, 0, none⟩ ⟨g, (i + m) * 5, none⟩ m vc lb cb hne tA 62 kA cur.size hsa (by simp only [World.shape?, hgg]) (by omega) (hfz _) (hfz _)]
    rfl
  have hz1 : ¬ ((m : Int) = 0) := by omega
  have hz2 : ¬ ((i : Int) = (n : Int)) := by omega
  have hz3 : ¬ ((c : Int) < (n : Int) + (m : Int)) := by omega
  have hz4 : (n : Int) + (m : Int) ≤ (c : Int) := by omega
  have hci : ¬ (c = i) := by omega
  have hcim : ¬ (c = i + m) := by omega
  have hin : (i : Int) ≤ (n : Int) := by omega
  have hi0 : (0 : Int) ≤ (i : Int) := by omega
  have hic : (i : Int) ≤ (c : Int) := by omega
  have hinm : (i : Int) ≤ (n : Int) + (m : Int) := by omega
  have hw1 : IntKind.i64.wrap ((i : Int) + (m : Int)) = (i : Int) + (m : Int) := by rw [IntKind.wrap_i64]; omega
  have hw2 : IntKind.i64.wrap ((n : Int) + (m : Int)) = (n : Int) + (m : Int) := by rw [IntKind.wrap_i64]; omega
  have hb0 : (0 : Int) ≤ (n : Int) + (m : Int) := by omega
  have hb1 : (0 : Int) ≤ (i : Int) + (m : Int) := by omega
  have htn : ((i : Int) + (m : Int)).toNat = i + m := by omega
  have htn2 : ((n : Int) + (m : Int)).toNat = n + m := by omega
  obtain ⟨A, hA⟩ : ∃ A, A = xs.take (i * 5) := ⟨_, rfl⟩
  obtain ⟨D, hD⟩ : ∃ D, D = xs.drop (i * 5) := ⟨_, rfl⟩
  have HAL := hide (show A.length = i * 5 by rw [hA, List.length_take]; omega)
  have HDL := hide (show D.length = (n - i) * 5 by rw [hD, List.length_drop]; omega)
  have HPR := hide (show cur.toList.take A.length = A by rw [HAL.out, hA, ← htk, List.take_take, Nat.min_eq_left (by omega)])
  have f2 : ∀ j v, D[j]? = some v → w.drew.cell? ((⟨g, i * 5, none⟩ : Addr).add j) = some v := fun j v hj => by
    rw [Addr.add_lit]
    exact hcell _ v (by rw [hD, List.getElem?_drop] at hj; exact hj)
  have hD1 : ∀ u ∈ D, u.oneCell' = true := fun u hu => hx1 u (by rw [hD] at hu; exact List.mem_of_mem_drop hu)
  rw [← hA, ← hD]
  have F1 := hide (show D.length = Nat.min (n + m - i) (n + m - (i + m)) * 5 by rw [HDL.out]; simp only [Nat.min_def]; split <;> omega)
  have F3 := hide (show (i + m) * 5 + D.length ≤ cur.size by rw [HDL.out, hcs]; omega)
  have HG := hide hgg
  have HCS := hide hcs
  clear hA hD hcell hx1 hgg hcs htk hown
  go_enter Tryz.func136, Tryz.ntmps136
  go_wp2_with (simp only [hov])
  go_region_law (refine step_copyK rfl _ _ 24 24 rfl 5 62 Tryz.underlying24 hsz5 g ((i + m) * 5) (n + m - (i + m)) (c - (i + m)) ⟨g, i * 5, none⟩ (n + m - i) (c - i) (by simp [Act.eval, Act.put]) (by simp [Act.eval, Act.put]) cur 62 HG.out D F1.out f2 F3.out hD1 ?_; intro w1 hr1 hg1)
  have K1 := hide hg1
  clear hg1
  obtain ⟨ROW2, hROW2⟩ : ∃ ROW2 : Array Value, ROW2 = (splice cur.toList ((i + m) * 5) D).toArray := ⟨_, rfl⟩
  have H2 := hide (show w1.heap[g]? = some (.cells ROW2 62 (0, 0)) by rw [hROW2]; exact hr1.out)
  have hl2 : ROW2.size = c * 5 := by
    rw [hROW2, List.size_toArray, length_splice _ _ _ (by rw [Array.length_toList]; exact F3.out), Array.length_toList]
    exact HCS.out
  have HE2 := hide (And.intro hROW2 hl2)
  have hnews1 : ∀ j u, news[j]? = some u → w1.cell? ⟨vb, j, none⟩ = some u := fun j u hj => by
    rw [World.cell?, K1.out.block vb hvb (by simp; omega)]
    exact hnews j u hj
  clear hROW2 hl2 hr1
  go_wp2_with (refine wpList_copyK rfl _ _ 24 24 rfl 5 62 Tryz.underlying24 hsz5 _ _ _ _ _ _ _ rfl rfl ROW2 62 H2.out news ?_ ?_ ?_ h1 ?_)
  · rw [hl]; simp only [Nat.min_def]; split <;> omega
  · intro j u hj; rw [Addr.add_lit, Nat.zero_add]; exact hnews1 j u hj
  · have := HE2.out.2; omega
  intro w2 hr2 hg2
  have K2 := hide hg2
  clear hg2
  go_wp2
  go_ret
  have hA := HAL.out
  have hDl := HDL.out
  have e1 : (i * 5) = A.length := hA.symm
  have e2 : (i + m) * 5 = A.length + news.length := by rw [hA, hl]; omega
  have hlen : A.length + news.length + D.length ≤ cur.toList.length := by rw [hA, hl, hDl, Array.length_toList, HCS.out]; omega
  have hrow : w2.heap[g]? = some (.cells (splice (splice cur.toList (A.length + news.length) D) A.length news).toArray 62 (0, 0)) := by
    have := hr2.out
    rw [HE2.out.1, e2, e1] at this
    exact this
  refine ⟨_, rfl, ⟨by rw [List.length_append, List.length_append, hA, hl, hDl]; omega, .inr ⟨g, c, _, rfl, hbg, hrow, hroom, hcm, ?_, ?_⟩⟩, ?_, .inl rfl⟩
  · rw [List.size_toArray, length_splice _ _ _ (by rw [length_splice _ _ _ (by omega)]; omega), length_splice _ _ _ (by omega), Array.length_toList]
    exact HCS.out
  · rw [show (n + m) * 5 = A.length + news.length + D.length by rw [hA, hl, hDl]; omega]
    exact ins_list2 HPR.out hlen
  · have k1 := K1.out
    have k2 := K2.out
    exact ⟨k2.os.trans k1.os, k2.tape.trans k1.tape, k2.output.trans k1.output, Nat.le_trans k1.size k2.size, fun b hb hne => by
      have z1 : w.heap.size ≤ w1.heap.size := k1.size
      rw [k2.block b (by omega) hne, k1.block b hb hne]
      rfl⟩

/-- slices.Insert at a row of things that is the call's own, of things in another row. -/
theorem insert_any (base g n c i m : Nat) (xs news : List Value) (vb vc : Nat) (w : World) (hown : w.ownsRow base 62 5 (.slice (some ⟨g, 0, none⟩) n c) n xs) (hi : i ≤ n) (hn : n ≤ 2097152) (hmm : m ≤ 2097152) (hl : news.length = m * 5) (hnews : ∀ j u, news[j]? = some u → w.cell? ⟨vb, j, none⟩ = some u) (h1 : ∀ u ∈ news, u.oneCell' = true) (hx1 : ∀ u ∈ xs, u.oneCell' = true) (hbase : base ≤ w.heap.size) (hvb : vb < w.heap.size) (hne : vb ≠ g) (hfz : ∀ k, w.frozen? ⟨vb, k, none⟩ = false) :
    Calls Tryz.prog 136 #[.slice (some ⟨g, 0, none⟩) n c, .int .i64 i, .slice (some ⟨vb, 0, none⟩) m vc] w fun e w' => ∃ v', e = .returned v' ∧ InsIs w w' base g v' (n + m) (xs.take (i * 5) ++ (news ++ xs.drop (i * 5))) := by
  have hxl : xs.length = n * 5 := hown.1
  obtain ⟨hnc, hcm⟩ : n ≤ c ∧ c ≤ maxLen := by
    rcases hown.2 with ⟨h, _⟩ | ⟨g', cap, cur, ev, q1, q2, q3, q4, q5, q6⟩
    · cases h
    · cases ev; exact ⟨q3, q4⟩
  by_cases hm : m = 0
  · subst hm
    obtain rfl : news = [] := List.length_eq_zero_iff.1 (by omega)
    rw [List.nil_append, List.take_append_drop]
    exact insert_none base g n c i xs vb vc w hown hi (by omega) hcm hnc
  by_cases hin : i = n
  · subst hin
    rw [List.take_of_length_le (by omega), List.drop_of_length_le (by omega), List.append_nil]
    exact insert_end base g i c m xs news vb vc w hown (by omega) hn hmm hcm hnc hl hnews h1 hbase
  by_cases hr : c < n + m
  · exact insert_grow base g n c i m xs news vb vc w hown (by omega) (by omega) hn hmm hr hl hnews h1 hx1 hbase hvb
  · obtain ⟨cv, tA, fz, hh⟩ : ∃ cv tA fz, w.heap[vb]? = some (.cells cv tA fz) := by
      have hc := hnews 0 (news[0]'(by omega)) (List.getElem?_eq_getElem (by omega))
      unfold World.cell? at hc
      split at hc
      · exact ⟨_, _, _, by assumption⟩
      · cases hc
    exact insert_shift base g n c i m xs news vb vc w hown (by omega) (by omega) hn hmm (by omega) hl hnews h1 hx1 hvb hne hfz tA cv.size (by simp only [World.shape?, hh])
end Go.Proofs.YtifnolomekhmfaaGreat
namespace Go.Proofs.YtifnolomekhmfaaGreat
open Go.RowKit M
set_option linter.unusedVariables false

theorem rsCells_append (xs ys : List RsT) : rsCells (xs ++ ys) = rsCells xs ++ rsCells ys := by unfold rsCells; rw [List.flatMap_append]
theorem rsCells_take (ts : List RsT) (i : Nat) (hi : i ≤ ts.length) : (rsCells ts).take (i * 5) = rsCells (ts.take i) := by
  have e : rsCells ts = rsCells (ts.take i) ++ rsCells (ts.drop i) := by rw [← rsCells_append, List.take_append_drop]
  have l : (rsCells (ts.take i)).length = i * 5 := by rw [rsCells_length, List.length_take, Nat.min_eq_left hi]
  rw [e, List.take_append_of_le_length (by omega), List.take_of_length_le (by omega)]
theorem rsCells_drop (ts : List RsT) (i : Nat) (hi : i ≤ ts.length) : (rsCells ts).drop (i * 5) = rsCells (ts.drop i) := by
  have e : rsCells ts = rsCells (ts.take i) ++ rsCells (ts.drop i) := by rw [← rsCells_append, List.take_append_drop]
  have l : (rsCells (ts.take i)).length = i * 5 := by rw [rsCells_length, List.length_take, Nat.min_eq_left hi]
  rw [e, List.drop_append_of_le_length (by omega), List.drop_of_length_le (by omega), List.nil_append]
theorem rsCells_one (ts : List RsT) : ∀ u ∈ rsCells ts, u.oneCell' = true := by
  intro u hu
  unfold rsCells at hu
  obtain ⟨t, _, h⟩ := List.mem_flatMap.1 hu
  simp only [rsCells1, List.mem_cons, List.not_mem_nil, or_false] at h
  rcases h with rfl | rfl | rfl | rfl | rfl <;> rfl

/-- What one call made, thing by thing. -/
def tsOf (cs : List Rs) (pb qb : Nat → Nat) : List RsT := cs.mapIdx fun j r => ⟨r, pb j, r.pa.length, qb j, r.ps.length⟩
theorem tsOf_length (cs : List Rs) (pb qb : Nat → Nat) : (tsOf cs pb qb).length = cs.length := by unfold tsOf; simp
theorem tsOf_at (cs : List Rs) (pb qb : Nat → Nat) (j : Nat) (hj : j < (tsOf cs pb qb).length) : (tsOf cs pb qb)[j] = ⟨cs[j]'(by rw [tsOf_length] at hj; exact hj), pb j, (cs[j]'(by rw [tsOf_length] at hj; exact hj)).pa.length, qb j, (cs[j]'(by rw [tsOf_length] at hj; exact hj)).ps.length⟩ := by
  simp only [tsOf, List.getElem_mapIdx]
theorem tsOf_map (cs : List Rs) (pb qb : Nat → Nat) : (tsOf cs pb qb).map (·.r) = cs := by
  apply List.ext_getElem
  · simp [tsOf_length]
  · intro j h1 h2
    rw [List.getElem_map, tsOf_at]
theorem OwnR.cells {w : World} {lo hi g : Nat} {cs : List Rs} {pb qb : Nat → Nat} (h : OwnR w lo hi g cs pb qb) : ∀ j u, (rsCells (tsOf cs pb qb))[j]? = some u → w.cell? ⟨g, j, none⟩ = some u := by
  intro j u hj
  have hjl : j < (rsCells (tsOf cs pb qb)).length := (List.getElem?_eq_some_iff.1 hj).1
  rw [rsCells_length, tsOf_length] at hjl
  have hq : j / 5 < cs.length := by omega
  have hq' : j / 5 < (tsOf cs pb qb).length := by rw [tsOf_length]; exact hq
  obtain ⟨c0, c1, c2, c3, c4⟩ := rsCells_at (tsOf cs pb qb) (j / 5) hq'
  obtain ⟨d0, d1, d2, d3, d4⟩ := h.cl (j / 5) hq
  rw [tsOf_at] at c0 c1 c2 c3 c4
  have hcase : j = j / 5 * 5 ∨ j = j / 5 * 5 + 1 ∨ j = j / 5 * 5 + 2 ∨ j = j / 5 * 5 + 3 ∨ j = j / 5 * 5 + 4 := by omega
  rcases hcase with e | e | e | e | e <;> rw [e] at hj ⊢
  · rw [c0] at hj; cases hj; exact d0
  · rw [c1] at hj; cases hj; exact d1
  · rw [c2] at hj; cases hj; exact d2
  · rw [c3] at hj; cases hj; exact d3
  · rw [c4] at hj; cases hj; exact d4

/-- Where one thing's lists lie, and that no one else's do. -/
structure ThingAt (w : World) (lo hi g : Nat) (t : RsT) : Prop where
  a : lo ≤ t.p
  b : t.p < t.q
  c : t.q < hi
  d : t.p ≠ g
  e : t.q ≠ g
  f : RowS w t.p t.r.pa
  g' : RowP w t.q t.r.ps
  k : t.pc = t.r.pa.length ∧ t.qc = t.r.ps.length
def ApartT (x y : RsT) : Prop := x.p ≠ y.p ∧ x.p ≠ y.q ∧ x.q ≠ y.p ∧ x.q ≠ y.q
theorem ApartT.symm {x y : RsT} (h : ApartT x y) : ApartT y x := ⟨h.1.symm, h.2.2.1.symm, h.2.1.symm, h.2.2.2.symm⟩

theorem own_done {w : World} {base lo hi g cap n : Nat} {vs : List RsT} (hown : w.ownsRow base 62 5 (.slice (some ⟨g, 0, none⟩) n cap) n (rsCells vs)) (hn : n = vs.length) (hl : lo ≤ g) (hg : g < hi) (ht : ∀ t ∈ vs, ThingAt w lo hi g t) (hp : vs.Pairwise ApartT) : ∃ pb qb, OwnR w lo hi g (vs.map (·.r)) pb qb := by
  subst hn
  have hlt := hown.lt g rfl
  have hfz : ∀ i, w.frozen? ⟨g, i, none⟩ = false := by
    rcases hown.2 with ⟨h, _⟩ | ⟨g', cap', cur, e, _, hh, _⟩
    · cases h
    · cases e
      exact fun i => rowsR_frozen hh i
  refine ⟨fun j => if hj : j < vs.length then vs[j].p else 0, fun j => if hj : j < vs.length then vs[j].q else 0, hl, hg, hlt.2, hfz, fun j hj => ?_, fun j hj => ?_, fun j hj => ?_, fun j hj => ?_, fun i j hij hj => ?_⟩
  · have hj' : j < vs.length := by simpa using hj
    have hk := (ht _ (List.getElem_mem hj')).k
    obtain ⟨c0, c1, c2, c3, c4⟩ := rsCells_at vs j hj'
    simp only [List.getElem_map, hj', dif_pos]
    rw [hk.1] at c0
    rw [hk.2] at c4
    refine ⟨?_, ?_, ?_, ?_, ?_⟩
    · rw [hown.cellAt (j * 5) (by omega)]; exact c0
    · rw [hown.cellAt (j * 5 + 1) (by omega)]; exact c1
    · rw [hown.cellAt (j * 5 + 2) (by omega)]; exact c2
    · rw [hown.cellAt (j * 5 + 3) (by omega)]; exact c3
    · rw [hown.cellAt (j * 5 + 4) (by omega)]; exact c4
  · have hj' : j < vs.length := by simpa using hj
    simp only [List.getElem_map, hj', dif_pos]
    exact (ht _ (List.getElem_mem hj')).f
  · have hj' : j < vs.length := by simpa using hj
    simp only [List.getElem_map, hj', dif_pos]
    exact (ht _ (List.getElem_mem hj')).g'
  · have hj' : j < vs.length := by simpa using hj
    have h := ht _ (List.getElem_mem hj')
    simp only [hj', dif_pos]
    exact ⟨h.a, h.b, h.c, h.d, h.e⟩
  · have hj' : j < vs.length := by simpa using hj
    simp only [hj', show i < vs.length by omega, dif_pos]
    exact (List.pairwise_iff_getElem.1 hp) i j (by omega) hj' hij

/-- How many stand ahead. -/
theorem while_at {to : List ByteArray} : ∀ {st : List Rs} {k : Nat}, k ≤ st.length → (∀ j (hj : j < st.length), j < k → lessL st[j].pa to = true) → (∀ hk : k < st.length, lessL st[k].pa to = false) → st.takeWhile (aheadB to) = st.take k ∧ st.dropWhile (aheadB to) = st.drop k
  | [], k, _, _, _ => by simp
  | x :: st, 0, _, _, h => by
    have h0 : lessL x.pa to = false := h (by simp)
    have e : aheadB to x = false := h0
    rw [List.takeWhile_cons, List.dropWhile_cons, e]
    simp
  | x :: st, k + 1, hk, h1, h2 => by
    have h0 : lessL x.pa to = true := h1 0 (by simp) (by omega)
    have e : aheadB to x = true := h0
    obtain ⟨i1, i2⟩ := while_at (to := to) (st := st) (k := k) (by simpa using hk) (fun j hj hjk => by have := h1 (j + 1) (by simpa using hj) (by omega); simpa using this) (fun hk' => by have := h2 (by simpa using hk'); simpa using this)
    rw [List.takeWhile_cons, List.dropWhile_cons, e]
    simp [i1, i2]

theorem whole_put {w w' : World} {B1 lo1 B2 hi2 L g caps g2 i : Nat} {ts : List RsT} {st cs : List Rs} {to : List ByteArray} {pb qb : Nat → Nat} {v' : Value} (hG : GrowR w B1 (.slice (some ⟨g, 0, none⟩) st.length caps) ts lo1) (hts : ts.map (·.r) = st) (hcp : ∀ j (hj : j < ts.length), ts[j].pc = ts[j].r.pa.length ∧ ts[j].qc = ts[j].r.ps.length) (hO : OwnR w B2 hi2 g2 cs pb qb) (hap : lo1 ≤ B2 ∨ hi2 ≤ B1) (h2 : hi2 ≤ w.heap.size) (hL1 : L ≤ B1) (hL2 : L ≤ B2) (hL3 : L ≤ w.heap.size) (hi : i ≤ st.length)
    (hw : st.takeWhile (aheadB to) = st.take i ∧ st.dropWhile (aheadB to) = st.drop i) (hI : InsIs w w' B1 g v' (st.length + cs.length) ((rsCells ts).take (i * 5) ++ (rsCells (tsOf cs pb qb) ++ (rsCells ts).drop (i * 5)))) :
    ∃ g' cap' pb' qb', v' = .slice (some ⟨g', 0, none⟩) (wholeL st to cs).length cap' ∧ OwnR w' L w'.heap.size g' (wholeL st to cs) pb' qb' := by
  have htl : ts.length = st.length := by rw [← hts]; simp
  rw [rsCells_take ts i (by omega), rsCells_drop ts i (by omega), ← rsCells_append, ← rsCells_append] at hI
  have hgl := hG.own.lt g rfl
  have hglo : g < lo1 := by
    obtain ⟨g0, c0, e, h⟩ := hG.blk
    injection e with e1 e2 e3
    have e4 : g = g0 := congrArg Addr.block (Option.some.inj e1)
    omega
  have hto := hG.top
  -- the new row
  obtain ⟨g', cap', ev, hgL, hgc⟩ : ∃ g' cap', v' = .slice (some ⟨g', 0, none⟩) (st.length + cs.length) cap' ∧ L ≤ g' ∧ (g' = g ∨ w.heap.size ≤ g') := by
    rcases hI.own.2 with ⟨h, _⟩ | ⟨g', cap', cur, e, hb, _⟩
    · subst h
      rcases hI.blk with h | ⟨b, h, _⟩ <;> simp [Value.ownBlock] at h
    · refine ⟨g', cap', e, Nat.le_trans hL1 hb, ?_⟩
      subst e
      rcases hI.blk with h | ⟨b, h, hb'⟩
      · exact .inl (Option.some.inj h)
      · right
        have : g' = b := Option.some.inj h
        omega
  subst ev
  have hown := hI.own
  have hlt' := hown.lt g' rfl
  have hsz := hI.grew.size
  have hkeep : ∀ b, b < w.heap.size → b ≠ g → w'.heap[b]? = w.heap[b]? := fun b hb hne => hI.grew.block b hb (fun e => hne (Option.some.inj e))
  have hkS : ∀ b l, RowS w b l → b ≠ g → RowS w' b l := fun b l h hne => ⟨Nat.lt_of_lt_of_le h.1 hsz, fun j hj => by
    have e := hkeep b h.1 hne
    have := h.2 j hj
    simp only [World.cell?, World.frozen?] at this ⊢
    rw [e]
    exact this⟩
  have hkP : ∀ b l, RowP w b l → b ≠ g → RowP w' b l := fun b l h hne => h.of (Nat.lt_of_lt_of_le h.1 hsz) (fun o => by simp only [World.cell?, hkeep b h.1 hne]) (fun o => by simp only [World.frozen?, hkeep b h.1 hne])
  have e0 : (ts.take i ++ (tsOf cs pb qb ++ ts.drop i)).map (·.r) = wholeL st to cs := by
    unfold wholeL
    rw [hw.1, hw.2, List.map_append, List.map_append, tsOf_map, List.map_take, List.map_drop, hts]
  have hlen : st.length + cs.length = (ts.take i ++ (tsOf cs pb qb ++ ts.drop i)).length := by
    simp only [List.length_append, List.length_take, List.length_drop, tsOf_length, htl]
    omega
  have hT1 : ∀ t ∈ ts, ThingAt w' L w'.heap.size g' t ∧ B1 ≤ t.p ∧ t.q < lo1 := fun t ht => by
    obtain ⟨j, hj, rfl⟩ := List.mem_iff_getElem.1 ht
    obtain ⟨k1, k2, k3, k4, k5, k6, k7⟩ := hG.el j hj
    have n1 : ts[j].p ≠ g := fun e => k6 (by rw [e]; rfl)
    have n2 : ts[j].q ≠ g := fun e => k7 (by rw [e]; rfl)
    have := k4.1
    have := k5.1
    exact ⟨⟨by omega, k2, by omega, by omega, by omega, hkS _ _ k4 n1, hkP _ _ k5 n2, hcp j hj⟩, k1, k3⟩
  have hT2 : ∀ t ∈ tsOf cs pb qb, ThingAt w' L w'.heap.size g' t ∧ B2 ≤ t.p ∧ t.q < hi2 := fun t ht => by
    obtain ⟨j, hj, rfl⟩ := List.mem_iff_getElem.1 ht
    have hj' : j < cs.length := by rw [tsOf_length] at hj; exact hj
    rw [tsOf_at]
    obtain ⟨k1, k2, k3, k4, k5⟩ := hO.bnd j hj'
    have r1 := hO.rp j hj'
    have r2 := hO.rq j hj'
    have := r1.1
    have := r2.1
    have n1 : pb j ≠ g := by omega
    have n2 : qb j ≠ g := by omega
    exact ⟨⟨by show L ≤ pb j; omega, k2, by show qb j < _; omega, by show pb j ≠ g'; omega, by show qb j ≠ g'; omega, hkS _ _ r1 n1, hkP _ _ r2 n2, ⟨rfl, rfl⟩⟩, k1, k3⟩
  have hP1 : ts.Pairwise ApartT := List.pairwise_iff_getElem.2 fun i j hi hj hij => by
    have o1 := hG.ord i j hij hj
    have o2 := (hG.el i hi).2.1
    have o3 := (hG.el j hj).2.1
    exact ⟨by omega, by omega, by omega, by omega⟩
  have hP2 : (tsOf cs pb qb).Pairwise ApartT := List.pairwise_iff_getElem.2 fun i j hi hj hij => by
    rw [tsOf_at, tsOf_at]
    exact hO.ord i j hij (by rw [tsOf_length] at hj; exact hj)
  have hX : ∀ t ∈ ts, ∀ u ∈ tsOf cs pb qb, ApartT t u := fun t ht u hu => by
    obtain ⟨a1, a2, a3⟩ := hT1 t ht
    obtain ⟨b1, b2, b3⟩ := hT2 u hu
    have := a1.b
    have := b1.b
    unfold ApartT
    omega
  have hPall : (ts.take i ++ (tsOf cs pb qb ++ ts.drop i)).Pairwise ApartT := by
    have h0 := hP1
    rw [← List.take_append_drop i ts] at h0
    obtain ⟨p1, p2, p3⟩ := List.pairwise_append.1 h0
    refine List.pairwise_append.2 ⟨p1, List.pairwise_append.2 ⟨hP2, p2, fun u hu t ht => (hX t (List.mem_of_mem_drop ht) u hu).symm⟩, fun t ht u hu => ?_⟩
    rcases List.mem_append.1 hu with hu | hu
    · exact hX t (List.mem_of_mem_take ht) u hu
    · exact p3 t ht u hu
  obtain ⟨pb', qb', hR⟩ := own_done (lo := L) (hi := w'.heap.size) hown hlen hgL hlt'.2 (fun t ht => by
    rcases List.mem_append.1 ht with h | h
    · exact (hT1 t (List.mem_of_mem_take h)).1
    · rcases List.mem_append.1 h with h | h
      · exact (hT2 t h).1
      · exact (hT1 t (List.mem_of_mem_drop h)).1) hPall
  rw [e0] at hR
  refine ⟨g', cap', pb', qb', ?_, hR⟩
  rw [show (wholeL st to cs).length = st.length + cs.length by rw [← e0, List.length_map, ← hlen]]
end Go.Proofs.YtifnolomekhmfaaGreat
