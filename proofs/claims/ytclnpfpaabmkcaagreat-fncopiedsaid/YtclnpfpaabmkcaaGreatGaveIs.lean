/-
  Out of many choices a list.
  copy and append of elements of several cells.
  copy and append of elements of several cells: see CopyCells.
  What slices.Concat does at lists of texts.
  What the program's Under does.
  What impl.isDeep does.
  What impl.copyProps does.
  What impl.copyRes does.
  What impl.DeepOf does.
  Rows of things that one call makes, one by one.
  What impl.copyTree does.
  What a turn of the program hands back; one path as a list of paths.
-/
import Derived.Below
import Derived.WalkKit
import Derived.Test.YtclnpfpaabmkcaaGreatHide
import Derived.Deep.OwnRows
import Derived.Laws.CopyRow
import Derived.Laws.CopyOwn
import Derived.Lib.AppendZerosOnto
import Derived.Lib.Overlaps
import Derived.Laws.Externs
import Derived.Shelf.Spec.SlicesInsert
import Derived.Deep.RegionLaw
import Derived.Test.YtclnpfpaabmkcaaGreatMathOrder
import Derived.Test.YtclnpfpaabmkcaaGreatAskRef
import Derived.Test.YtclnpfpaabmkcaaGreatSameTexts
import Derived.Test.YtclnpfpaabmkcaaGreatAllOf
import Derived.Deep.RegionHeld3
import Derived.Test.YtclnpfpaabmkcaaGreatSpecCopyAll
namespace Go.Proofs.YtclnpfpaabmkcaaGreat
open Go.RowKit

theorem pick_gen {α : Type} {p : Nat → α → Prop} : ∀ {len : Nat}, (∀ i, i < len → ∃ q, p i q) → ∃ hs : List α, hs.length = len ∧ ∀ j (hj : j < hs.length), p j hs[j] := by
  intro len
  induction len with
  | zero => intro _; exact ⟨[], rfl, fun j hj => absurd hj (Nat.not_lt_zero _)⟩
  | succ k ih =>
    intro each
    obtain ⟨hs, hlen, hq⟩ := ih (fun i hi => each i (by omega))
    obtain ⟨q, hqk⟩ := each k (by omega)
    refine ⟨hs ++ [q], by simp [hlen], fun j hj => ?_⟩
    by_cases e : j < hs.length
    · rw [List.getElem_append_left e]; exact hq j e
    · have : j = k := by simp [hlen] at hj; omega
      subst this
      rw [List.getElem_append_right (by omega)]
      simp only [hlen, Nat.sub_self, List.getElem_cons_zero]
      exact hqk
theorem add_pick (b o j : Nat) : (⟨b, o, none⟩ : Addr).add j = ⟨b, o + j, none⟩ := by unfold Addr.add; split <;> simp_all
end Go.Proofs.YtclnpfpaabmkcaaGreat
namespace Go.Proofs.YtclnpfpaabmkcaaGreat
open Go.RowKit
set_option linter.unusedVariables false

theorem run_copy_rowK {P : Program} (w : World) (k : Nat) (dT sT ty elem : TypeId) (g o dLen dCap : Nat) (a : Addr) (sLen sCap : Nat) (cur : Array Value) (t : TypeId) (cs : List Value)
    (hu : P.underlying dT = some (.slice elem)) (hs : (P.info? elem).map (·.size) = some k)
    (hg : w.heap[g]? = some (.cells cur t (0, 0))) (hn : cs.length = Nat.min sLen dLen * k)
    (hsrc : ∀ j v, cs[j]? = some v → w.cell? (a.add j) = some v) (hfit : o + cs.length ≤ cur.size) (h1 : ∀ v ∈ cs, v.oneCell' = true) :
    (Builtin.copy_ #[dT, sT] ty #[.slice (some ⟨g, o, none⟩) dLen dCap, .slice (some a) sLen sCap]).run P w =
      .ok (goInt (Nat.min sLen dLen)) (w.setRow g (cur.toList.take o ++ cs ++ cur.toList.drop (o + cs.length)).toArray) := by
  have hl := run_loadCells_list (P := P) w a cs hsrc
  have hst := run_storeCells_at P g o t cs 0 cur w hg (by simpa using hfit) h1
  cases hq : P.info? elem with
  | none => simp [hq] at hs
  | some i =>
    have hi : i.size = k := by simpa [hq] using hs
    have hn' : Nat.min sLen dLen * k = cs.length := hn.symm
    simp only [Nat.min_def] at hn'
    simp [Builtin.copy_, run_underlying hu, Builtin.lenOf, Builtin.firstCells, sizeOf, typeInfo, hq, hi, Nat.min_def, hn', hl, hst]

theorem run_copy_noneK {P : Program} (w : World) (k : Nat) (dT sT ty elem : TypeId) (d a : Option Addr) (dLen dCap sLen sCap : Nat) (hu : P.underlying dT = some (.slice elem)) (hs : (P.info? elem).map (·.size) = some k) (hn : Nat.min sLen dLen = 0) :
    (Builtin.copy_ #[dT, sT] ty #[.slice d dLen dCap, .slice a sLen sCap]).run P w = .ok (goInt 0) w := by
  cases hq : P.info? elem with
  | none => simp [hq] at hs
  | some i =>
    have hl : ∀ (x : Addr), (loadCells x 0).run P w = .ok #[] w := fun x => by simpa using run_loadCells_list (P := P) w x [] (by simp)
    cases d <;> cases a <;> simp [Builtin.copy_, run_underlying hu, Builtin.lenOf, Builtin.firstCells, sizeOf, typeInfo, hq, hn, storeCells, hl]
theorem wpList_copy_nothingK {P : Program} {w : World} {ops : Array Oper} {rest : List Oper} {o : Oper} {a : Act} {Q : Exit → Act → World → Prop} (hgd : o.guard = none) (d s : Operand) (dT sT : TypeId)
    (ho : o.op = .call { callee := .builtin .copy, args := #[d, s], argTypes := #[dT, sT] }) (k : Nat) (elem : TypeId) (hu : P.underlying dT = some (.slice elem)) (hsz : (P.info? elem).map (·.size) = some k)
    (dp sp : Option Addr) (dLen dCap sLen sCap : Nat) (hd : a.eval d = .slice dp dLen dCap) (hs : a.eval s = .slice sp sLen sCap) (hn : Nat.min sLen dLen = 0)
    (h : wpList P ops Q rest (a.put o.dst (goInt 0)) w) : wpList P ops Q (o :: rest) a w := by
  refine wpList_plain hgd fun K hK => ?_
  have hrun := run_copy_noneK (P := P) w k dT sT o.type elem dp sp dLen dCap sLen sCap hu hsz hn
  unfold Oper.wp execOp
  simp only [ho, resolve, invoke, builtin, Sem.run_bind, Sem.run_pure, Result.andThen_ok, List.map_toArray, List.map_cons, List.map_nil, hd, hs, hrun]
  exact hK _ _ h

theorem zero_size (zc : Array Value) (k : Nat) : (Builtin.zeroCells zc k).size = k * zc.size := by
  unfold Builtin.zeroCells
  simp
theorem grown_setRow (w : World) (g : Nat) (cs : Array Value) : w.grownBy (w.setRow g cs) (some g) :=
  ⟨rfl, rfl, rfl, by simp [World.setRow], fun k hk hne => setRow_other w g k cs (fun e => hne (by rw [e]))⟩

/-- 'copy(d, s)' into a row of one's own; the world behind it is a new name. -/
theorem wpList_copyK {P : Program} {w : World} {ops : Array Oper} {rest : List Oper} {o : Oper} {a : Act} {Q : Exit → Act → World → Prop} (hgd : o.guard = none) (d s : Operand) (dT sT : TypeId)
    (ho : o.op = .call { callee := .builtin .copy, args := #[d, s], argTypes := #[dT, sT] }) (k : Nat) (elem : TypeId) (hu : P.underlying dT = some (.slice elem)) (hsz : (P.info? elem).map (·.size) = some k)
    (g off dLen dCap : Nat) (ad : Addr) (sLen sCap : Nat) (hd : a.eval d = .slice (some ⟨g, off, none⟩) dLen dCap) (hs : a.eval s = .slice (some ad) sLen sCap)
    (cur : Array Value) (t : TypeId) (hg : w.heap[g]? = some (.cells cur t (0, 0))) (cs : List Value) (hn : cs.length = Nat.min sLen dLen * k)
    (hsrc : ∀ j v, cs[j]? = some v → w.cell? (ad.add j) = some v) (hfit : off + cs.length ≤ cur.size) (h1 : ∀ v ∈ cs, v.oneCell' = true)
    (h : ∀ w', Hid (w'.heap[g]? = some (.cells (splice cur.toList off cs).toArray t (0, 0))) → w.grownBy w' (some g) → wpList P ops Q rest (a.put o.dst (goInt (Nat.min sLen dLen))) w') : wpList P ops Q (o :: rest) a w := by
  refine wpList_plain hgd fun K hK => ?_
  have hrun := run_copy_rowK (P := P) w k dT sT o.type elem g off dLen dCap ad sLen sCap cur t cs hu hsz hg hn hsrc hfit h1
  unfold Oper.wp execOp
  simp only [ho, resolve, invoke, builtin, Sem.run_bind, Sem.run_pure, Result.andThen_ok, List.map_toArray, List.map_cons, List.map_nil, hd, hs, hrun]
  exact hK _ _ (h _ (show _ = _ by rw [splice, ← List.append_assoc]; exact setRow_heap w g cur _ t _ hg) (grown_setRow w g _))

/-- .. and as one step of a region that draws. -/
theorem step_copyK {P : Program} {ops : Array Oper} {o : Oper} {a : Act} {w : World} {K : Act → World → Prop} {Q : Exit → Act → World → Prop} {E : Prop} (hgd : o.guard = none) (d s : Operand) (dT sT : TypeId)
    (ho : o.op = .call { callee := .builtin .copy, args := #[d, s], argTypes := #[dT, sT] }) (k : Nat) (elem : TypeId) (hu : P.underlying dT = some (.slice elem)) (hsz : (P.info? elem).map (·.size) = some k)
    (g off dLen dCap : Nat) (ad : Addr) (sLen sCap : Nat) (hd : a.eval d = .slice (some ⟨g, off, none⟩) dLen dCap) (hs : a.eval s = .slice (some ad) sLen sCap)
    (cur : Array Value) (t : TypeId) (hg : w.heap[g]? = some (.cells cur t (0, 0))) (cs : List Value) (hn : cs.length = Nat.min sLen dLen * k)
    (hsrc : ∀ j v, cs[j]? = some v → w.cell? (ad.add j) = some v) (hfit : off + cs.length ≤ cur.size) (h1 : ∀ v ∈ cs, v.oneCell' = true)
    (h : ∀ w', Hid (w'.heap[g]? = some (.cells (splice cur.toList off cs).toArray t (0, 0))) → w.grownBy w' (some g) → K (a.put o.dst (goInt (Nat.min sLen dLen))) w') :
    if Region.wanted o (yielded ops a.tmps) = true then Oper.wp P o a w K Q else E := by
  have hw : Region.wanted o (yielded ops a.tmps) = true := by simp [Region.wanted, hgd]
  rw [if_pos hw]
  have hrun := run_copy_rowK (P := P) w k dT sT o.type elem g off dLen dCap ad sLen sCap cur t cs hu hsz hg hn hsrc hfit h1
  unfold Oper.wp execOp
  simp only [ho, resolve, invoke, builtin, Sem.run_bind, Sem.run_pure, Result.andThen_ok, List.map_toArray, List.map_cons, List.map_nil, hd, hs, hrun]
  exact h _ (show _ = _ by rw [splice, ← List.append_assoc]; exact setRow_heap w g cur _ t _ hg) (grown_setRow w g _)

/-- 'append(s, make(S, k)...)' where there is no room: a new row. -/
theorem wpList_appendZ {P : Program} {w : World} {ops : Array Oper} {rest : List Oper} {o : Oper} {a : Act} {Q : Exit → Act → World → Prop} (hgd : o.guard = none) (s x : Operand) (t tn e : TypeId)
    (ho : o.op = .call { callee := .builtin .append, args := #[s, x], argTypes := #[t, tn] }) (i : TypeInfo) (z : Value) (kq kn : IntKind) (ht : P.underlying t = some (.slice e)) (htn : P.underlying tn = some (.int kn)) (hi : P.info? e = some i) (hz : i.zero = some z)
    (base : Option Addr) (sLen sCap : Nat) (olds : List Value) (hold : (Builtin.firstCells i.size sLen (.slice base sLen sCap)).run P w.drew = .ok olds.toArray w.drew)
    (k : Nat) (h0 : 0 < k) (hs : 0 < i.size) (hg : sCap < sLen + k) (h63 : ((sLen + k : Nat) : Int) ≤ 9223372036854775807) (h48 : k * i.bytes ≤ 281474976710656) (hfit : Builtin.nextslicecap (sLen + k) sCap * i.bytes ≤ 281474976710656)
    (hes : a.eval s = .slice base sLen sCap) (x' : Int) (hex : a.eval x = .int kq x') (hxk : x' = k)
    (h : ∀ w' (ROW : Array Value), Hid (w'.heap[w.heap.size]? = some (.cells ROW e (0, 0))) → Hid (ROW.size = olds.length + k * z.cells.size + (grownCap w (sLen + k) sCap e - (sLen + k)) * z.cells.size) → Hid (ROW.toList.take olds.length = olds) → w.grownBy w' none → w.heap.size < w'.heap.size → wpList P ops Q rest (a.put o.dst (.slice (some ⟨w.heap.size, 0, none⟩) (sLen + k) (grownCap w (sLen + k) sCap e))) w') : wpList P ops Q (o :: rest) a w := by
  refine wpList_plain hgd fun K hK => ?_
  subst hxk
  have hrun := Lib.run_append_grow_zeros w t tn o.type e i z kq kn ht htn hi hz base sLen sCap olds hold k h0 hs hg h63 h48 hfit
  unfold Oper.wp execOp
  simp only [ho, resolve, invoke, builtin, Sem.run_bind, Sem.run_pure, Result.andThen_ok, List.map_toArray, List.map_cons, List.map_nil, hes, hex, hrun]
  refine hK _ _ (h _ (olds.toArray ++ Builtin.zeroCells z.cells k ++ Builtin.zeroCells z.cells (grownCap w (sLen + k) sCap e - (sLen + k))) ?_ ?_ ?_ ?_ ?_)
  · exact heap_alloc_new w.drew _
  · show _ = _
    rw [Array.size_append, Array.size_append, zero_size, zero_size]
    simp
  · show _ = _
    rw [Array.toList_append, Array.toList_append, List.append_assoc, List.take_append_of_le_length (by simp), List.take_of_length_le (by simp)]
  · exact ⟨rfl, rfl, rfl, by simp, fun b hb hn => (World.grownBy_alloc w.drew _ none).block b hb hn⟩
  · simp
end Go.Proofs.YtclnpfpaabmkcaaGreat
namespace Go.Proofs.YtclnpfpaabmkcaaGreat
open Go.RowKit M
set_option linter.unusedVariables false

theorem info_strC : (Tryz.prog.info? 9).map (fun i => (i.zero, i.size, i.bytes)) = some (some (.string ByteArray.empty), 1, 16) := by kernel_rfl
def catL (ps : List PathV) : List ByteArray := (ps.map (·.1)).flatten
theorem catL_snoc (ps : List PathV) (k : Nat) (hk : k < ps.length) : catL (ps.take (k + 1)) = catL (ps.take k) ++ ps[k].1 := by
  unfold catL
  rw [List.take_succ_eq_append_getElem hk, List.map_append, List.flatten_append]
  simp
theorem catL_le (ps : List PathV) (k : Nat) : (catL (ps.take k)).length ≤ (catL ps).length := by
  have h : catL ps = catL (ps.take k) ++ catL (ps.drop k) := by
    unfold catL
    rw [← List.flatten_append, ← List.map_append, List.take_append_drop]
  rw [h]
  simp
def strV (ss : List ByteArray) : List Value := ss.map Value.string
theorem strV_length (ss : List ByteArray) : (strV ss).length = ss.length := by unfold strV; simp
theorem strV_one (ss : List ByteArray) : ∀ u ∈ strV ss, u.oneCell' = true := by
  intro u hu
  unfold strV at hu
  obtain ⟨s, _, rfl⟩ := List.mem_map.1 hu
  rfl
theorem strV_append (a b : List ByteArray) : strV (a ++ b) = strV a ++ strV b := by unfold strV; rw [List.map_append]

set_option maxHeartbeats 2000000 in
set_option maxRecDepth 100000 in
/-- slices.Grow of no list: room for n texts, of the call's own. -/
theorem grow_any (n : Nat) (hn : n ≤ 4194304) (w : World) :
    Calls Tryz.prog 136 #[.slice none 0 0, .int .i64 n] w fun e w' => ∃ v, e = .returned v ∧ w'.ownsRow w.heap.size 9 1 v 0 [] ∧ Below w.heap.size w w' := by
  obtain ⟨ii, hii, hz, hs, hb⟩ := info_parts info_strC
  have h0 : ¬ ((n : Int) < 0) := by omega
  by_cases hn0 : n = 0
  · subst hn0
    go_enter Tryz.func136, Tryz.ntmps136
    go_wp2
    go_ret
    exact ⟨_, rfl, ⟨rfl, .inl ⟨rfl, rfl⟩⟩, Below.refl _ _⟩
  · have hold : (Builtin.firstCells ii.size 0 (.slice none 0 0)).run Tryz.prog w.drew = .ok ([] : List Value).toArray w.drew := by
      simp [Builtin.firstCells]
    have h1 : (0 : Int) < (n : Int) := by omega
    have hw1 : IntKind.i64.wrap (n : Int) = (n : Int) := by rw [IntKind.wrap_i64]; omega
    have HOLD := hide hold
    clear hold
    go_enter Tryz.func136, Tryz.ntmps136
    go_wp2_with (at_builtin; refine wpList_appendZ rfl _ _ 25 3 9 rfl ii _ .i64 .i64 Tryz.underlying25 Tryz.underlying3 hii hz none 0 0 [] HOLD.out n (by omega) (by omega) (by omega) (by omega) (by rw [hb]; omega) (by rw [hb]; exact growslice_fits (by omega) (by omega)) rfl _ rfl rfl ?_)
    intro w1 ROW H1 hRs hRt hg1 hs1
    have hGn : n ≤ grownCap w n 0 9 := grownCap_ge w _ _ _
    have hGm := grownCap_le_maxLen w n 0 9 (by unfold maxLen; omega)
    have HRS := hide (show ROW.size = grownCap w n 0 9 * 1 by
      have h1 := hRs.out
      first | omega | (simp at h1; omega))
    clear hRs hRt
    generalize grownCap w n 0 9 = G at *
    have hG63 : G ≤ 9223372036854775807 := by unfold maxLen at hGm; omega
    have K1 := hide hg1
    have hG0 : (0 : Int) ≤ (G : Int) := by omega
    clear hg1
    go_wp2
    go_ret
    refine ⟨_, rfl, ⟨rfl, .inr ⟨w.heap.size, G, ROW, rfl, Nat.le_refl _, H1.out, Nat.zero_le _, hGm, HRS.out, by simp⟩⟩, ?_⟩
    have k1 := K1.out
    exact ⟨k1.os, k1.tape, k1.output, k1.size, fun b hb => k1.block b hb (by simp)⟩

set_option maxHeartbeats 4000000 in
set_option maxRecDepth 100000 in
theorem concat_any (g cap : Nat) (ps : List PathV) (hl : ps.length ≤ 1048576) (hsum : (catL ps).length ≤ 2097152) (w : World) (h : PathsAt w g ps) (hso : ∀ j (hj : j < ps.length), ∃ b o, ps[j].2.1 = some ⟨b, o, none⟩) :
    Calls Tryz.prog 111 #[.slice (some ⟨g, 0, none⟩) ps.length cap] w fun e w' => ∃ v, e = .returned v ∧ w'.ownsRow w.heap.size 9 1 v (catL ps).length (strV (catL ps)) ∧ Below w.heap.size w w' := by
  obtain ⟨ii, hii, hz, hs, hb⟩ := info_parts info_strC
  have HSUM := hide hsum
  clear hsum
  go_enter Tryz.func111, Tryz.ntmps111
  go_wp2
  go_loop [3, 11] (fun s i => ∃ k : Nat, k ≤ ps.length ∧ i = .int .i64 k ∧ s = .int .i64 ((catL (ps.take k)).length : Nat)) (fun _ i => ps.length - (intOf i).toNat)
  case atStart => exact ⟨0, Nat.zero_le _, rfl, by simp [catL]⟩
  case round =>
    obtain ⟨k, hk, rfl, rfl⟩ := hrel
    by_cases hlt : k < ps.length
    · have hc := h.cl k hlt
      have hle := catL_le ps (k + 1)
      have hsn := congrArg List.length (catL_snoc ps k hlt)
      rw [List.length_append] at hsn
      have hb9 : (catL (ps.take k)).length + ps[k].1.length ≤ 2097152 := by have := HSUM.out; omega
      have HE := hide (show (((catL (ps.take (k + 1))).length : Nat) : Int) = ((catL (ps.take k)).length : Nat) + (ps[k].1.length : Nat) by omega)
      generalize (catL (ps.take k)).length = m at *
      have hneg : ¬ ((m : Int) + (ps[k].1.length : Int) < 0) := by omega
      clear hle hsn
      go_wp2
      go_round
      case rel => exact ⟨k + 1, by omega, by go_num, by rw [HE.out]⟩
      case measure => simp [intOf]; omega
    · have hke : ps.take k = ps := List.take_of_length_le (by omega)
      have HKE := hide hke
      have X1 := hide (grow_any (catL ps).length (by have := HSUM.out; omega) w)
      rw [← hke] at X1
      clear hke
      go_wp2_with fail
      refine X1.out.mono ?_
      rintro e w1 ⟨v0, rfl, hown, b1⟩
      have HOW := hide hown
      have B1 := hide b1
      clear hown b1 X1
      go_wp2
      go_loopw [6, 27] (fun v i wr => ∃ k : Nat, k ≤ ps.length ∧ i = .int .i64 k ∧ wr.ownsRow w.heap.size 9 1 v (catL (ps.take k)).length (strV (catL (ps.take k))) ∧ Below w.heap.size w wr) (fun _ i _ => ps.length - (intOf i).toNat)
      case atStart => exact ⟨0, Nat.zero_le _, rfl, by simpa [catL, strV] using HOW.out, B1.out⟩
      case round =>
        obtain ⟨j, hj, rfl, hown, hbe⟩ := hrel
        have HO := hide hown
        clear hown
        by_cases hjl : j < ps.length
        · have h2 := h.below hbe
          have hc := h2.cl j hjl
          obtain ⟨hst, _, _⟩ := h2.st j hjl
          obtain ⟨pb, po, hpa⟩ := hso j hjl
          have HSN := hide (catL_snoc ps j hjl)
          have hle := catL_le ps (j + 1)
          have hsn := congrArg List.length HSN.out
          rw [List.length_append] at hsn
          have hb9 : (catL (ps.take j)).length + ps[j].1.length ≤ 2097152 := by have := HSUM.out; omega
          have hst2 : ∀ i u, (strV ps[j].1)[i]? = some u → wr.cell? ((⟨pb, po, none⟩ : Addr).add i) = some u := fun i u hi => by
            have hil : i < ps[j].1.length := by
              have := (List.getElem?_eq_some_iff.1 hi).1
              rw [strV_length] at this
              exact this
            obtain ⟨b0, o0, ea, _, hcc⟩ := hst (by omega)
            rw [hpa] at ea
            cases ea
            rw [Addr.add_lit]
            have := hcc i hil
            rw [this]
            unfold strV at hi
            rw [List.getElem?_map, List.getElem?_eq_getElem hil] at hi
            exact hi
          have HS2 := hide hst2
          rw [hpa] at hc
          generalize hm9 : (catL (ps.take j)).length = m at *
          clear h2 hst hpa hle hsn hst2
          go_wp2_with (at_builtin; refine wpList_append_own_at _ rfl _ _ 25 rfl w.heap.size 9 ii _ 1 16 Tryz.underlying25 hii hz hs hb rfl (by omega) _ m (strV (catL (ps.take j))) rfl HO.out ⟨pb, po, none⟩ ps[j].1.length ps[j].2.2 (strV ps[j].1) rfl (by rw [strV_length]; omega) HS2.out (strV_one _) (by unfold maxLen; omega) (by omega) hbe.size ?_)
          intro v' w' h3 h4 h5 h6
          have H3 := hide h3
          have H4 := hide h4
          have HOB := hide HO.out
          clear h3 h4 h5 h6
          go_wp2
          go_roundw
          case rel =>
            refine ⟨j + 1, by omega, by go_num, ?_, ?_⟩
            · rw [HSN.out, strV_append, List.length_append, hm9]
              exact H3.out
            · have g4 := H4.out
              have hlt2 := HOB.out.lt
              exact hbe.trans ⟨g4.os, g4.tape, g4.output, g4.size, fun b hb => g4.block b (by have := hbe.size; omega) (fun e => by have := (hlt2 b e.symm).1; omega)⟩
          case measure => simp [intOf]; omega
        · have hke2 : ps.take j = ps := List.take_of_length_le (by omega)
          have HK2 := hide hke2
          clear hke2
          go_wp2
          go_ret
          refine ⟨_, rfl, ?_, hbe⟩
          have := HO.out
          rw [HK2.out] at this
          exact this
end Go.Proofs.YtclnpfpaabmkcaaGreat
namespace Go.Proofs.YtclnpfpaabmkcaaGreat
open Go.RowKit
set_option linter.unusedVariables false

set_option maxHeartbeats 400000 in
theorem under_any (a b : Option Addr) (ss tt : List ByteArray) (cap cap' B C : Nat) (w : World) (h : Strs w B a ss) (h' : Strs w C b tt) (hl : ss.length ≤ maxLen) (hl' : tt.length ≤ maxLen) (hc : ss.length ≤ cap) (hc' : cap ≤ maxLen) :
    Calls Tryz.prog 114 #[.slice a ss.length cap, .slice b tt.length cap'] w fun e w' => e = .returned (.bool (underB ss tt)) ∧ ∀ D, Below D w w' := by
  have hl1 := hl
  have hl2 := hl'
  have hc2 := hc'
  unfold maxLen at hl hl' hc'
  by_cases hlt : tt.length < ss.length
  · have ht : (ss.take tt.length).length = tt.length := by rw [List.length_take]; omega
    have cE := fun w1 cap1 (hh : Strs w1 B a ss) (hh' : Strs w1 C b tt) => slicesEqual_any a b (ss.take tt.length) tt cap1 cap' B C w1 (hh.take _) hh' (by omega) hl2
    rw [ht] at cE
    obtain ⟨b1, o1, rfl, _, _⟩ := h (by omega)
    go_enter Tryz.func114, Tryz.ntmps114
    go_wp2_with fail
    refine (cE _ _ h h').mono ?_
    rintro e w1 ⟨rfl, hb⟩
    go_wp2
    go_ret
    exact ⟨ret_bool (by simp [underB, hlt]), hb⟩
  · go_enter Tryz.func114, Tryz.ntmps114
    go_wp2
    go_ret
    exact ⟨ret_bool (by simp [underB, hlt]), fun D => Below.refl _ _⟩

end Go.Proofs.YtclnpfpaabmkcaaGreat
namespace Go.Proofs.YtclnpfpaabmkcaaGreat
open Go.RowKit M
set_option linter.unusedVariables false

/-- Whether the first is the second, or stands under it. -/
def deepP (ss tt : List ByteArray) : Bool := sameL ss tt || underB ss tt

set_option maxHeartbeats 1000000 in
theorem isDeep_any (a b : Option Addr) (ss tt : List ByteArray) (cap cap' B C : Nat) (w : World) (h : Strs w B a ss) (h' : Strs w C b tt) (hl : ss.length ≤ maxLen) (hl' : tt.length ≤ maxLen) (hc : ss.length ≤ cap) (hm : cap ≤ maxLen) :
    Calls Tryz.prog 65 #[.slice a ss.length cap, .slice b tt.length cap'] w fun e w' => e = .returned (.bool (deepP ss tt)) ∧ ∀ D, Below D w w' := by
  have HQ1 := hide (samePath_any a b ss tt cap cap' B C w h h' hl hl')
  have HQ2 := hide (fun W (x : Strs W B a ss) (y : Strs W C b tt) => under_any a b ss tt cap cap' B C W x y hl hl' hc hm)
  have HD := hide (show deepP ss tt = (sameL ss tt || underB ss tt) from rfl)
  generalize deepP ss tt = z at *
  generalize sameL ss tt = z1 at *
  generalize underB ss tt = z2 at *
  cases z1
  · go_enter Tryz.func65, Tryz.ntmps65
    go_wp2_with fail
    refine HQ1.out.mono ?_
    rintro e w1 ⟨rfl, hb1⟩
    have X1 := hide (HQ2.out w1 (h.below (hb1 B) (Nat.le_refl _)) (h'.below (hb1 C) (Nat.le_refl _)))
    clear HQ1 HQ2
    go_wp2_with fail
    refine X1.out.mono ?_
    rintro e w2 ⟨rfl, hb2⟩
    have HZ := hide (HD.out.trans (Bool.false_or z2))
    clear HD X1
    go_wp2
    go_ret
    exact ⟨by rw [HZ.out]; rfl, fun D => (hb1 D).trans (hb2 D)⟩
  · have HZ := hide (HD.out.trans (Bool.true_or z2))
    clear HD
    go_enter Tryz.func65, Tryz.ntmps65
    go_wp2_with fail
    refine HQ1.out.mono ?_
    rintro e w1 ⟨rfl, hb1⟩
    go_wp2
    go_ret
    exact ⟨by rw [HZ.out]; rfl, hb1⟩
end Go.Proofs.YtclnpfpaabmkcaaGreat
namespace Go.Proofs.YtclnpfpaabmkcaaGreat
open Go.RowKit M
set_option linter.unusedVariables false

theorem keep3B {W w1 : World} {N : Nat} {x y z : Value} (hb : Below W.heap.size W w1) (h : W.cell? ⟨N, 0, none⟩ = some x ∧ W.cell? ⟨N, 1, none⟩ = some y ∧ W.cell? ⟨N, 2, none⟩ = some z) : w1.cell? ⟨N, 0, none⟩ = some x ∧ w1.cell? ⟨N, 1, none⟩ = some y ∧ w1.cell? ⟨N, 2, none⟩ = some z := by
  have hN : N < W.heap.size := World.block_lt_of_cell? W _ h.1
  simp only [(bcellP hb).1 N _ hN]
  exact h
theorem keep3S {W : World} {N g : Nat} {x y z : Value} (h : W.cell? ⟨N, 0, none⟩ = some x ∧ W.cell? ⟨N, 1, none⟩ = some y ∧ W.cell? ⟨N, 2, none⟩ = some z) (hne : g ≠ N) (o0 o1 o2 : Nat) (v0 v1 v2 : Value) : (((W.setCell ⟨g, o0, none⟩ v0).setCell ⟨g, o1, none⟩ v1).setCell ⟨g, o2, none⟩ v2).cell? ⟨N, 0, none⟩ = some x ∧ (((W.setCell ⟨g, o0, none⟩ v0).setCell ⟨g, o1, none⟩ v1).setCell ⟨g, o2, none⟩ v2).cell? ⟨N, 1, none⟩ = some y ∧ (((W.setCell ⟨g, o0, none⟩ v0).setCell ⟨g, o1, none⟩ v1).setCell ⟨g, o2, none⟩ v2).cell? ⟨N, 2, none⟩ = some z := by
  have e : ∀ (W : World) (o p : Nat) (v : Value), (W.setCell ⟨g, p, none⟩ v).cell? ⟨N, o, none⟩ = W.cell? ⟨N, o, none⟩ := fun W o p v => World.cell?_setCell_other _ _ _ _ (fun e => hne (congrArg Addr.block e))
  simp only [e]
  exact h
set_option maxRecDepth 100000 in
set_option maxHeartbeats 4000000 in
theorem copyProps_any (a : Option Addr) (ps : List Pp) (cap B : Nat) (w : World) (h : Pps w B a ps) (hB : B ≤ w.heap.size) (hl : ps.length ≤ 1048576) (hs : ∀ p ∈ ps, p.1.size ≤ 281474976710656 ∧ p.2.1.size ≤ 281474976710656 ∧ p.2.2.size ≤ 281474976710656) :
    Calls Tryz.prog 116 #[.slice a ps.length cap] w fun e w' => e = .returned (.slice (some ⟨w.heap.size, 0, none⟩) ps.length ps.length) ∧ RowP w' w.heap.size ps ∧ Below w.heap.size w w' := by
  have hmk := run_make_props ps.length hl w
  go_enter Tryz.func116, Tryz.ntmps116
  go_wp2
  clear hmk
  go_loopw [11] (fun i wr => ∃ k : Nat, k ≤ ps.length ∧ i = .int .i64 k ∧ MadeP wr w.heap.size ps k ∧ Below w.heap.size w wr) (fun i _ => ps.length - (intOf i).toNat)
  case atStart => exact ⟨0, Nat.zero_le _, rfl, MadeP.start w ps, (Below.refl _ _).alloc (Nat.le_refl _) _⟩
  case round =>
    obtain ⟨k, hk, rfl, hrow, hbe⟩ := hrel
    by_cases hlt : k < ps.length
    · obtain ⟨b, o, rfl, hb, hc⟩ := (h.below hbe hB) (by omega)
      obtain ⟨hcx, hcy, hcz⟩ := hc k hlt
      have hz := hs _ (List.getElem_mem hlt)
      have hne : w.heap.size ≠ wr.heap.size := by have := hrow.lt; omega
      have CA : Below wr.heap.size wr (wr.alloc (Obj.cells #[.string ps[k].1, .string ps[k].2.1, .string ps[k].2.2] 84)).drew := below_drewP ((Below.refl _ _).alloc (Nat.le_refl _) _)
      have hi0 : (0 : Int) ≤ (k : Int) := by omega
      have hi1 : (k : Int) < (ps.length : Int) := by omega
      clear hc
      go_wp2
      refine wp_region_held_drew (S := (fun W => W.cell? ⟨wr.heap.size, 0, none⟩ = some (.string ps[k].1) ∧ W.cell? ⟨wr.heap.size, 1, none⟩ = some (.string ps[k].2.1) ∧ W.cell? ⟨wr.heap.size, 2, none⟩ = some (.string ps[k].2.2))) (by kernel_rfl) (by simp) (fun hHeld => ?_)
      simp only [List.size_toArray, List.length_cons, List.length_nil, Nat.reduceAdd, Array.replicate_succ, Array.replicate_zero, List.push_toArray, List.nil_append, List.cons_append]
      refine wpAnyH_take (i := 0) (v := ?_) rfl (by kernel_rfl) (by kernel_rfl) (by kernel_rfl) (fun _ _ _ h => h) (Or.inl ⟨by rfl, ?_⟩) (by assumption) ?_
      rotate_left
      · intro w hSw; (try dsimp only at hSw); go_simp; try with_reducible rfl
      simp only [Act.put, List.getElem_toArray, List.getElem_cons_zero, List.setIfInBounds_toArray, List.set_cons_zero]
      refine wpAnyH_take (i := 1) (v := ?_) rfl (by kernel_rfl) (by kernel_rfl) (by kernel_rfl) (fun _ _ _ h => h) (Or.inl ⟨by rfl, ?_⟩) (by assumption) ?_
      rotate_left
      · intro w hSw; (try dsimp only at hSw); go_simp; try with_reducible rfl
      simp only [Act.put, List.getElem_toArray, List.getElem_cons_succ, List.getElem_cons_zero, List.setIfInBounds_toArray, List.set_cons_succ, List.set_cons_zero]
      refine wpAnyH_take (i := 2) (v := ?_) rfl (by kernel_rfl) (by kernel_rfl) (by kernel_rfl) (fun _ _ _ h => h) (Or.inl ⟨by rfl, ?_⟩) (by assumption) ?_
      rotate_left
      · intro w hSw; (try dsimp only at hSw); go_simp; try with_reducible rfl
      simp only [Act.put, List.getElem_toArray, List.getElem_cons_succ, List.getElem_cons_zero, List.setIfInBounds_toArray, List.set_cons_succ, List.set_cons_zero]
      refine wpAnyH_take (i := 3) (v := ?_) rfl (by kernel_rfl) (by kernel_rfl) (by kernel_rfl) (fun _ _ _ h => h) (Or.inl ⟨by rfl, ?_⟩) (by assumption) ?_
      rotate_left
      · intro w hSw; (try dsimp only at hSw); go_simp; try with_reducible rfl
      simp only [Act.put, List.getElem_toArray, List.getElem_cons_succ, List.getElem_cons_zero, List.setIfInBounds_toArray, List.set_cons_succ, List.set_cons_zero]
      refine wpAnyH_take (i := 5) (v := ?_) rfl (by kernel_rfl) (by kernel_rfl) (by kernel_rfl) (fun _ _ _ h => h) (Or.inl ⟨by rfl, ?_⟩) (by assumption) ?_
      rotate_left
      · intro w hSw; (try dsimp only at hSw); go_simp; try with_reducible rfl
      simp only [Act.put, List.getElem_toArray, List.getElem_cons_succ, List.getElem_cons_zero, List.setIfInBounds_toArray, List.set_cons_succ, List.set_cons_zero]
      refine wpAnyH_take (i := 6) (v := ?_) rfl (by kernel_rfl) (by kernel_rfl) (by kernel_rfl) (fun _ _ _ h => h) (Or.inl ⟨by rfl, ?_⟩) (by assumption) ?_
      rotate_left
      · intro w hSw; (try dsimp only at hSw); go_simp; try with_reducible rfl
      simp only [Act.put, List.getElem_toArray, List.getElem_cons_succ, List.getElem_cons_zero, List.setIfInBounds_toArray, List.set_cons_succ, List.set_cons_zero]
      refine wpAnyH_take (i := 8) (v := ?_) rfl (by kernel_rfl) (by kernel_rfl) (by kernel_rfl) (fun _ _ _ h => h) (Or.inl ⟨by rfl, ?_⟩) (by assumption) ?_
      rotate_left
      · intro w hSw; (try dsimp only at hSw); go_simp; try with_reducible rfl
      simp only [Act.put, List.getElem_toArray, List.getElem_cons_succ, List.getElem_cons_zero, List.setIfInBounds_toArray, List.set_cons_succ, List.set_cons_zero]
      refine wpAnyH_take (i := 9) (v := ?_) rfl (by kernel_rfl) (by kernel_rfl) (by kernel_rfl) (fun _ _ _ h => h) (Or.inl ⟨by rfl, ?_⟩) (by assumption) ?_
      rotate_left
      · intro w hSw; (try dsimp only at hSw); go_simp; try with_reducible rfl
      simp only [Act.put, List.getElem_toArray, List.getElem_cons_succ, List.getElem_cons_zero, List.setIfInBounds_toArray, List.set_cons_succ, List.set_cons_zero]
      refine wpAnyH_ready (rs := [4]) (by kernel_rfl) (by simp) ?_
      refine AllReadyH.cons rfl (fun K hK => ?_) AllReadyH.nil
      go_simp
      refine (clone_any ps[k].1 _ hz.1).mono ?_
      rintro e w1 ⟨rfl, b1⟩
      have c1 := CA.trans (b1.mono CA.size)
      have K1 := hide (keep3B b1 hHeld)
      refine hK.out _ _ K1.out (fun hHeld2 => ?_)
      clear hK K hHeld
      have hHeld := hHeld2
      clear hHeld2
      simp only [List.setIfInBounds_toArray, List.set_cons_succ, List.set_cons_zero]
      refine wpAnyH_ready (rs := [7]) (by kernel_rfl) (by simp) ?_
      refine AllReadyH.cons rfl (fun K hK => ?_) AllReadyH.nil
      go_simp
      refine (clone_any ps[k].2.1 _ hz.2.1).mono ?_
      rintro e w2 ⟨rfl, b2⟩
      have c2 := c1.trans (b2.mono c1.size)
      have K2 := hide (keep3B b2 hHeld)
      refine hK.out _ _ K2.out (fun hHeld2 => ?_)
      clear hK K hHeld
      have hHeld := hHeld2
      clear hHeld2
      simp only [List.setIfInBounds_toArray, List.set_cons_succ, List.set_cons_zero]
      refine wpAnyH_ready (rs := [10]) (by kernel_rfl) (by simp) ?_
      refine AllReadyH.cons rfl (fun K hK => ?_) AllReadyH.nil
      go_simp
      refine (clone_any ps[k].2.2 _ hz.2.2).mono ?_
      rintro e w3 ⟨rfl, b3⟩
      have c3 := c2.trans (b3.mono c2.size)
      have K3 := hide (keep3B b3 hHeld)
      refine hK.out _ _ K3.out (fun hHeld2 => ?_)
      clear hK K hHeld
      have hHeld := hHeld2
      clear hHeld2
      simp only [List.setIfInBounds_toArray, List.set_cons_succ, List.set_cons_zero]
      refine wpAnyH_take (i := 11) (v := ?_) rfl (by kernel_rfl) (by kernel_rfl) (by kernel_rfl) (fun _ _ _ h => h) (Or.inl ⟨by rfl, ?_⟩) (by assumption) ?_
      rotate_left
      · intro w hSw; (try dsimp only at hSw); go_simp; try with_reducible rfl
      simp only [Act.put, List.getElem_toArray, List.getElem_cons_succ, List.getElem_cons_zero, List.setIfInBounds_toArray, List.set_cons_succ, List.set_cons_zero]
      refine wpAnyH_take (i := 12) (v := ?_) rfl (by kernel_rfl) (by kernel_rfl) (by kernel_rfl) (fun _ _ _ h => h) (Or.inl ⟨by rfl, ?_⟩) (by assumption) ?_
      rotate_left
      · intro w hSw; (try dsimp only at hSw); go_simp; try with_reducible rfl
      simp only [Act.put, List.getElem_toArray, List.getElem_cons_succ, List.getElem_cons_zero, List.setIfInBounds_toArray, List.set_cons_succ, List.set_cons_zero]
      have hrow3 := hrow.below c3
      obtain ⟨v0, v1, v2, hd0, hd1, hd2, hf0, hf1, hf2⟩ := hrow3.cells hlt
      have HR := hide (hrow3.next hlt)
      refine wpAnyH_ready (rs := [13]) (by kernel_rfl) (by simp) ?_
      refine AllReadyH.cons rfl (fun K hK => ?_) AllReadyH.nil
      go_simp
      refine hK.out _ _ (keep3S K3.out hne _ _ _ _ _ _) (fun hHeld2 => ?_)
      clear hK K hHeld
      have hHeld := hHeld2
      clear hHeld2
      simp only [List.setIfInBounds_toArray, List.set_cons_succ, List.set_cons_zero]
      refine wpAnyH_done (by kernel_rfl) ?_ _
      clear hHeld K1 K2 K3 b1 b2 b3 hd0 hd1 hd2 hf0 hf1 hf2 hcx hcy hcz hrow3
      have c4 := hbe.trans (c3.mono hbe.size)
      clear c1 c2 c3 CA
      go_wp2
      go_roundw
      case rel => exact ⟨k + 1, by omega, by go_num, HR.out, ((c4.setCell (Nat.le_refl _) _).setCell (Nat.le_refl _) _).setCell (Nat.le_refl _) _⟩
      case measure => simp [intOf]; omega
    · go_wp2
      go_ret
      exact ⟨rfl, hrow.done hlt, hbe⟩

end Go.Proofs.YtclnpfpaabmkcaaGreat
namespace Go.Proofs.YtclnpfpaabmkcaaGreat
open Go.RowKit M
set_option linter.unusedVariables false

theorem keep5B {W w1 : World} {N : Nat} {x y z u v : Value} (hb : Below W.heap.size W w1) (h : W.cell? ⟨N, 0, none⟩ = some x ∧ W.cell? ⟨N, 1, none⟩ = some y ∧ W.cell? ⟨N, 2, none⟩ = some z ∧ W.cell? ⟨N, 3, none⟩ = some u ∧ W.cell? ⟨N, 4, none⟩ = some v) : w1.cell? ⟨N, 0, none⟩ = some x ∧ w1.cell? ⟨N, 1, none⟩ = some y ∧ w1.cell? ⟨N, 2, none⟩ = some z ∧ w1.cell? ⟨N, 3, none⟩ = some u ∧ w1.cell? ⟨N, 4, none⟩ = some v := by
  have hN : N < W.heap.size := World.block_lt_of_cell? W _ h.1
  simp only [(bcellP hb).1 N _ hN]
  exact h
/-- Five stores into a block. -/
def set5 (W : World) (g : Nat) (v0 v1 v2 v3 v4 : Value) : World := ((((W.setCell ⟨g, 0, none⟩ v0).setCell ⟨g, 1, none⟩ v1).setCell ⟨g, 2, none⟩ v2).setCell ⟨g, 3, none⟩ v3).setCell ⟨g, 4, none⟩ v4
theorem keep5S {W : World} {N g : Nat} {x y z u v : Value} (h : W.cell? ⟨N, 0, none⟩ = some x ∧ W.cell? ⟨N, 1, none⟩ = some y ∧ W.cell? ⟨N, 2, none⟩ = some z ∧ W.cell? ⟨N, 3, none⟩ = some u ∧ W.cell? ⟨N, 4, none⟩ = some v) (hne : g ≠ N) (v0 v1 v2 v3 v4 : Value) : (set5 W g v0 v1 v2 v3 v4).cell? ⟨N, 0, none⟩ = some x ∧ (set5 W g v0 v1 v2 v3 v4).cell? ⟨N, 1, none⟩ = some y ∧ (set5 W g v0 v1 v2 v3 v4).cell? ⟨N, 2, none⟩ = some z ∧ (set5 W g v0 v1 v2 v3 v4).cell? ⟨N, 3, none⟩ = some u ∧ (set5 W g v0 v1 v2 v3 v4).cell? ⟨N, 4, none⟩ = some v := by
  have e : ∀ (W : World) (o p : Nat) (v : Value), (W.setCell ⟨g, p, none⟩ v).cell? ⟨N, o, none⟩ = W.cell? ⟨N, o, none⟩ := fun W o p v => World.cell?_setCell_other _ _ _ _ (fun e => hne (congrArg Addr.block e))
  simp only [set5, e]
  exact h

/-- The cells of a block that was just made. -/
theorem fresh5 (W0 W : World) (n : Nat) (v0 v1 v2 v3 v4 : Value) (T : TypeId) (hn : n = W0.heap.size) (hb : Below (W0.alloc (Obj.cells #[v0, v1, v2, v3, v4] T)).drew.heap.size (W0.alloc (Obj.cells #[v0, v1, v2, v3, v4] T)).drew W) : W.cell? ⟨n, 0, none⟩ = some v0 ∧ W.cell? ⟨n, 1, none⟩ = some v1 ∧ W.cell? ⟨n, 2, none⟩ = some v2 ∧ W.cell? ⟨n, 3, none⟩ = some v3 ∧ W.cell? ⟨n, 4, none⟩ = some v4 ∧ W.frozen? ⟨n, 0, none⟩ = false ∧ W.frozen? ⟨n, 1, none⟩ = false ∧ W.frozen? ⟨n, 2, none⟩ = false ∧ W.frozen? ⟨n, 3, none⟩ = false ∧ W.frozen? ⟨n, 4, none⟩ = false := by
  subst hn
  have hl : W0.heap.size < (W0.alloc (Obj.cells #[v0, v1, v2, v3, v4] T)).drew.heap.size := by show W0.heap.size < (W0.alloc (Obj.cells #[v0, v1, v2, v3, v4] T)).heap.size; simp
  simp only [(bcellP hb).1 _ _ hl, (bcellP hb).2 _ _ hl]
  simp

set_option maxRecDepth 100000 in
set_option maxHeartbeats 4000000 in
theorem copyRes_any (r : Rs) (pa : Option Addr) (pc : Nat) (qa : Option Addr) (qc B : Nat) (w : World) (h : RsIn w B r pa pc qa qc) (hB : B ≤ w.heap.size) (hp : r.pa.length ≤ 1048576) (hq : r.ps.length ≤ 1048576) (hps : ∀ s ∈ r.pa, s.size ≤ 281474976710656) (hbo : r.bo.size ≤ 281474976710656) (hqs : ∀ p ∈ r.ps, p.1.size ≤ 281474976710656 ∧ p.2.1.size ≤ 281474976710656 ∧ p.2.2.size ≤ 281474976710656) :
    Calls Tryz.prog 66 #[.agg #[.slice pa r.pa.length pc, .bool r.co, .string r.bo, .int .i64 r.ve, .slice qa r.ps.length qc]] w fun e w' => (∃ p q : Nat, e = .returned (.agg #[.slice (some ⟨p, 0, none⟩) r.pa.length r.pa.length, .bool r.co, .string r.bo, .int .i64 r.ve, .slice (some ⟨q, 0, none⟩) r.ps.length r.ps.length]) ∧ w.heap.size ≤ p ∧ p < q ∧ RowS w' p r.pa ∧ RowP w' q r.ps) ∧ Below w.heap.size w w' := by
  have h1 := h.ph
  have h2 := h.qh
  clear h
  obtain ⟨ss, co, bo, ve, ps⟩ := r
  simp only at *
  go_enter Tryz.func66, Tryz.ntmps66
  have CA : Below w.heap.size w ((w.alloc (Obj.cells #[.slice pa ss.length pc, .bool co, .string bo, .int .i64 ve, .slice qa ps.length qc] 35)).alloc (Obj.cells #[.slice none 0 0, .bool false, .string { data := #[] }, .int .i64 0, .slice none 0 0] 35)).drew := below_drewP (((Below.refl _ _).alloc (Nat.le_refl _) _).alloc (by simp) _)
  have HCR := hide (fun (W : World) (hb : Below ((w.alloc (Obj.cells #[.slice pa ss.length pc, .bool co, .string bo, .int .i64 ve, .slice qa ps.length qc] 35)).alloc (Obj.cells #[.slice none 0 0, .bool false, .string { data := #[] }, .int .i64 0, .slice none 0 0] 35)).drew.heap.size ((w.alloc (Obj.cells #[.slice pa ss.length pc, .bool co, .string bo, .int .i64 ve, .slice qa ps.length qc] 35)).alloc (Obj.cells #[.slice none 0 0, .bool false, .string { data := #[] }, .int .i64 0, .slice none 0 0] 35)).drew W) => fresh5 (w.alloc (Obj.cells #[.slice pa ss.length pc, .bool co, .string bo, .int .i64 ve, .slice qa ps.length qc] 35)) W (w.heap.size + 1) _ _ _ _ _ 35 (by simp) hb)
  go_wp2
  refine wp_region_held_drew (S := (fun W => W.cell? ⟨w.heap.size, 0, none⟩ = some (.slice pa ss.length pc) ∧ W.cell? ⟨w.heap.size, 1, none⟩ = some (.bool co) ∧ W.cell? ⟨w.heap.size, 2, none⟩ = some (.string bo) ∧ W.cell? ⟨w.heap.size, 3, none⟩ = some (.int .i64 ve) ∧ W.cell? ⟨w.heap.size, 4, none⟩ = some (.slice qa ps.length qc))) (by kernel_rfl) (by simp) (fun hHeld => ?_)
  simp only [List.size_toArray, List.length_cons, List.length_nil, Nat.reduceAdd, Array.replicate_succ, Array.replicate_zero, List.push_toArray, List.nil_append, List.cons_append]
  refine wpAnyH_take (i := 0) (v := ?_) rfl (by kernel_rfl) (by kernel_rfl) (by kernel_rfl) (fun _ _ _ h => h) (Or.inl ⟨by rfl, ?_⟩) (by assumption) ?_
  rotate_left
  · intro w hSw; (try dsimp only at hSw); go_simp; try with_reducible rfl
  simp only [Act.put, List.getElem_toArray, List.getElem_cons_zero, List.setIfInBounds_toArray, List.set_cons_zero]
  refine wpAnyH_take (i := 1) (v := ?_) rfl (by kernel_rfl) (by kernel_rfl) (by kernel_rfl) (fun _ _ _ h => h) (Or.inl ⟨by rfl, ?_⟩) (by assumption) ?_
  rotate_left
  · intro w hSw; (try dsimp only at hSw); go_simp; try with_reducible rfl
  simp only [Act.put, List.getElem_toArray, List.getElem_cons_succ, List.getElem_cons_zero, List.setIfInBounds_toArray, List.set_cons_succ, List.set_cons_zero]
  refine wpAnyH_take (i := 3) (v := ?_) rfl (by kernel_rfl) (by kernel_rfl) (by kernel_rfl) (fun _ _ _ h => h) (Or.inl ⟨by rfl, ?_⟩) (by assumption) ?_
  rotate_left
  · intro w hSw; (try dsimp only at hSw); go_simp; try with_reducible rfl
  simp only [Act.put, List.getElem_toArray, List.getElem_cons_succ, List.getElem_cons_zero, List.setIfInBounds_toArray, List.set_cons_succ, List.set_cons_zero]
  refine wpAnyH_take (i := 4) (v := ?_) rfl (by kernel_rfl) (by kernel_rfl) (by kernel_rfl) (fun _ _ _ h => h) (Or.inl ⟨by rfl, ?_⟩) (by assumption) ?_
  rotate_left
  · intro w hSw; (try dsimp only at hSw); go_simp; try with_reducible rfl
  simp only [Act.put, List.getElem_toArray, List.getElem_cons_succ, List.getElem_cons_zero, List.setIfInBounds_toArray, List.set_cons_succ, List.set_cons_zero]
  refine wpAnyH_take (i := 5) (v := ?_) rfl (by kernel_rfl) (by kernel_rfl) (by kernel_rfl) (fun _ _ _ h => h) (Or.inl ⟨by rfl, ?_⟩) (by assumption) ?_
  rotate_left
  · intro w hSw; (try dsimp only at hSw); go_simp; try with_reducible rfl
  simp only [Act.put, List.getElem_toArray, List.getElem_cons_succ, List.getElem_cons_zero, List.setIfInBounds_toArray, List.set_cons_succ, List.set_cons_zero]
  refine wpAnyH_take (i := 6) (v := ?_) rfl (by kernel_rfl) (by kernel_rfl) (by kernel_rfl) (fun _ _ _ h => h) (Or.inl ⟨by rfl, ?_⟩) (by assumption) ?_
  rotate_left
  · intro w hSw; (try dsimp only at hSw); go_simp; try with_reducible rfl
  simp only [Act.put, List.getElem_toArray, List.getElem_cons_succ, List.getElem_cons_zero, List.setIfInBounds_toArray, List.set_cons_succ, List.set_cons_zero]
  refine wpAnyH_take (i := 8) (v := ?_) rfl (by kernel_rfl) (by kernel_rfl) (by kernel_rfl) (fun _ _ _ h => h) (Or.inl ⟨by rfl, ?_⟩) (by assumption) ?_
  rotate_left
  · intro w hSw; (try dsimp only at hSw); go_simp; try with_reducible rfl
  simp only [Act.put, List.getElem_toArray, List.getElem_cons_succ, List.getElem_cons_zero, List.setIfInBounds_toArray, List.set_cons_succ, List.set_cons_zero]
  refine wpAnyH_take (i := 9) (v := ?_) rfl (by kernel_rfl) (by kernel_rfl) (by kernel_rfl) (fun _ _ _ h => h) (Or.inl ⟨by rfl, ?_⟩) (by assumption) ?_
  rotate_left
  · intro w hSw; (try dsimp only at hSw); go_simp; try with_reducible rfl
  simp only [Act.put, List.getElem_toArray, List.getElem_cons_succ, List.getElem_cons_zero, List.setIfInBounds_toArray, List.set_cons_succ, List.set_cons_zero]
  refine wpAnyH_take (i := 10) (v := ?_) rfl (by kernel_rfl) (by kernel_rfl) (by kernel_rfl) (fun _ _ _ h => h) (Or.inl ⟨by rfl, ?_⟩) (by assumption) ?_
  rotate_left
  · intro w hSw; (try dsimp only at hSw); go_simp; try with_reducible rfl
  simp only [Act.put, List.getElem_toArray, List.getElem_cons_succ, List.getElem_cons_zero, List.setIfInBounds_toArray, List.set_cons_succ, List.set_cons_zero]
  refine wpAnyH_take (i := 11) (v := ?_) rfl (by kernel_rfl) (by kernel_rfl) (by kernel_rfl) (fun _ _ _ h => h) (Or.inl ⟨by rfl, ?_⟩) (by assumption) ?_
  rotate_left
  · intro w hSw; (try dsimp only at hSw); go_simp; try with_reducible rfl
  simp only [Act.put, List.getElem_toArray, List.getElem_cons_succ, List.getElem_cons_zero, List.setIfInBounds_toArray, List.set_cons_succ, List.set_cons_zero]
  refine wpAnyH_ready (rs := [2]) (by kernel_rfl) (by simp) ?_
  refine AllReadyH.cons rfl (fun K hK => ?_) AllReadyH.nil
  go_simp
  refine (copyPath_any pa ss pc B _ (h1.below CA hB) (Nat.le_trans hB CA.size) hp hps).mono ?_
  rintro e w1 ⟨rfl, r1, b1⟩
  have c1 := CA.trans (b1.mono CA.size)
  have K1 := hide (keep5B b1 hHeld)
  have R1 := hide r1
  refine hK.out _ _ K1.out (fun hHeld2 => ?_)
  clear hK K hHeld
  have hHeld := hHeld2
  clear hHeld2
  simp only [List.setIfInBounds_toArray, List.set_cons_succ, List.set_cons_zero]
  refine wpAnyH_ready (rs := [7]) (by kernel_rfl) (by simp) ?_
  refine AllReadyH.cons rfl (fun K hK => ?_) AllReadyH.nil
  go_simp
  refine (clone_any bo _ hbo).mono ?_
  rintro e w2 ⟨rfl, b2⟩
  have c2 := c1.trans (b2.mono c1.size)
  have K2 := hide (keep5B b2 hHeld)
  have R2 := hide (R1.out.below b2)
  refine hK.out _ _ K2.out (fun hHeld2 => ?_)
  clear hK K hHeld
  have hHeld := hHeld2
  clear hHeld2
  simp only [List.setIfInBounds_toArray, List.set_cons_succ, List.set_cons_zero]
  refine wpAnyH_ready (rs := [12]) (by kernel_rfl) (by simp) ?_
  refine AllReadyH.cons rfl (fun K hK => ?_) AllReadyH.nil
  go_simp
  refine (copyProps_any qa ps qc B _ (h2.below c2 hB) (Nat.le_trans hB c2.size) hq hqs).mono ?_
  rintro e w3 ⟨rfl, r3, b3⟩
  have c3 := c2.trans (b3.mono c2.size)
  have K3 := hide (keep5B b3 hHeld)
  have R3 := hide (R2.out.below b3)
  have Q3 := hide r3
  have hcr := HCR.out w3 ((b1.trans (b2.mono b1.size)).trans (b3.mono (Nat.le_trans b1.size b2.size)))
  refine hK.out _ _ K3.out (fun hHeld2 => ?_)
  clear hK K hHeld
  have hHeld := hHeld2
  clear hHeld2
  simp only [List.setIfInBounds_toArray, List.set_cons_succ, List.set_cons_zero]
  refine wpAnyH_take (i := 13) (v := ?_) rfl (by kernel_rfl) (by kernel_rfl) (by kernel_rfl) (fun _ _ _ h => h) (Or.inl ⟨by rfl, ?_⟩) (by assumption) ?_
  rotate_left
  · intro w hSw; (try dsimp only at hSw); go_simp; try with_reducible rfl
  simp only [Act.put, List.getElem_toArray, List.getElem_cons_succ, List.getElem_cons_zero, List.setIfInBounds_toArray, List.set_cons_succ, List.set_cons_zero]
  obtain ⟨g0, g1, g2, g3, g4, f0, f1, f2, f3, f4⟩ := hcr
  refine wpAnyH_ready (rs := [14]) (by kernel_rfl) (by simp) ?_
  refine AllReadyH.cons rfl (fun K hK => ?_) AllReadyH.nil
  go_simp
  refine hK.out _ _ (keep5S K3.out (by omega) _ _ _ _ _) (fun hHeld2 => ?_)
  clear hK K hHeld
  have hHeld := hHeld2
  clear hHeld2
  simp only [List.setIfInBounds_toArray, List.set_cons_succ, List.set_cons_zero]
  refine wpAnyH_done (by kernel_rfl) ?_ _
  have z1 := c1.size
  have y1 : w.heap.size + 1 + 1 < w1.heap.size := by have := R1.out.1; simpa using this
  have R4 := hide (show RowS w3 (w.heap.size + 1 + 1) ss by have := R3.out; simpa using this)
  have y2 := b2.size
  clear hHeld K1 K2 K3 b1 b2 b3 HCR R1 R2 h1 h2
  go_wp2
  refine bodyPost_ret (v := .agg #[.slice (some ⟨w.heap.size + 1 + 1, 0, none⟩) ss.length ss.length, .bool co, .string bo, .int .i64 ve, .slice (some ⟨w2.heap.size, 0, none⟩) ps.length ps.length]) (by simp [results, Tryz.results66, go_sem, g0, g1, g2, g3, g4]) rfl ⟨⟨_, _, rfl, by omega, ?_, ?_, ?_⟩, ?_⟩
  · omega
  · exact ((((R4.out.setCell _ _ (by simp)).setCell _ _ (by simp)).setCell _ _ (by simp)).setCell _ _ (by simp)).setCell _ _ (by simp)
  · exact ((((Q3.out.setCell _ _ (by simp; omega)).setCell _ _ (by simp; omega)).setCell _ _ (by simp; omega)).setCell _ _ (by simp; omega)).setCell _ _ (by simp; omega)
  · exact ((((c3.setCell (by simp) _).setCell (by simp) _).setCell (by simp) _).setCell (by simp) _).setCell (by simp) _
end Go.Proofs.YtclnpfpaabmkcaaGreat
namespace Go.Proofs.YtclnpfpaabmkcaaGreat
open Go.RowKit M
set_option linter.unusedVariables false
set_option linter.unusedSimpArgs false

set_option maxRecDepth 100000 in
set_option maxHeartbeats 4000000 in
theorem deepOf_grow (a : Option Addr) (rs : List Rs) (cap B : Nat) (b : Option Addr) (p : List ByteArray) (cap' C : Nat) (w : World) (h : Rss w B a rs) (h' : Strs w C b p) (hB : B ≤ w.heap.size) (hC : C ≤ w.heap.size) (hl : rs.length ≤ 1048576) (hl' : p.length ≤ 1048576) (hs : ∀ r ∈ rs, r.pa.length ≤ 1048576 ∧ r.ps.length ≤ 1048576 ∧ (∀ s ∈ r.pa, s.size ≤ 281474976710656) ∧ r.bo.size ≤ 281474976710656 ∧ ∀ p ∈ r.ps, p.1.size ≤ 281474976710656 ∧ p.2.1.size ≤ 281474976710656 ∧ p.2.2.size ≤ 281474976710656) :
    Calls Tryz.prog 13 #[.slice a rs.length cap, .slice b p.length cap'] w fun e w' => (∃ (v : Value) (ts : List RsT), e = .returned v ∧ GrowR w' w.heap.size v ts w'.heap.size ∧ ts.map (·.r) = deepL rs p ∧ (∀ j (hj : j < ts.length), ts[j].pc = ts[j].r.pa.length ∧ ts[j].qc = ts[j].r.ps.length)) ∧ Below w.heap.size w w' := by
  have HS := hide hs
  have hpm : p.length ≤ maxLen := by unfold maxLen; omega
  clear hs
  go_enter Tryz.func13, Tryz.ntmps13
  go_wp2
  go_loopw [5, 11] (fun v i wr => ∃ (k lo : Nat) (ts : List RsT), k ≤ rs.length ∧ i = .int .i64 k ∧ GrowR wr w.heap.size v ts lo ∧ w.heap.size ≤ lo ∧ ts.map (·.r) = (rs.take k).filter (deepB p) ∧ (∀ j (hj : j < ts.length), ts[j].pc = ts[j].r.pa.length ∧ ts[j].qc = ts[j].r.ps.length) ∧ Below w.heap.size w wr) (fun _ i _ => rs.length - (intOf i).toNat)
  case atStart => exact ⟨0, w.heap.size + 1, [], Nat.zero_le _, rfl, GrowR.made w w.heap.size (Nat.le_refl _), by omega, rfl, fun j hj => absurd hj (Nat.not_lt_zero _), (Below.refl _ _).alloc (Nat.le_refl _) _⟩
  case round =>
    obtain ⟨k, lo, ts, hk, rfl, hG, hlo, hts, hcc, hbe⟩ := hrel
    have HG := hide hG
    have HTS := hide hts
    have HCC := hide hcc
    clear hG hts hcc
    by_cases hlt : k < rs.length
    · obtain ⟨b1, o1, rfl, hb1, hcc⟩ := (h.below hbe hB) (by omega)
      obtain ⟨pa, pc, qa, qc, ⟨hc0, hc1, hc2, hc3, hc4⟩, hin⟩ := hcc k hlt
      clear hcc
      have hsk := HS.out _ (List.getElem_mem hlt)
      have HBA := hide ((Below.refl wr.heap.size wr).alloc (Nat.le_refl _) (Obj.cells #[.slice pa (rs[k]).pa.length pc, .bool (rs[k]).co, .string (rs[k]).bo, .int .i64 (rs[k]).ve, .slice qa (rs[k]).ps.length qc] 35))
      have hin2 := hin.below HBA.out (Nat.le_trans hB hbe.size)
      have hp2 := (h'.below hbe hC).below HBA.out (Nat.le_trans hC hbe.size)
      have hkm : (rs[k]).pa.length ≤ maxLen := Nat.le_trans hin2.pl hin2.pm
      have HQ1 := hide (isDeep_any pa b rs[k].pa p pc cap' B C _ hin2.ph hp2 hkm hpm hin2.pl hin2.pm)
      have HI := hide hin2
      have HSK := hide hsk
      have HD := hide (show deepB p rs[k] = deepP rs[k].pa p from rfl)
      generalize deepP rs[k].pa p = z1 at *
      clear hin hin2 hsk hp2 hkm
      -- the one that is not taken
      have no : z1 = false → Hid ((rs.take (k + 1)).filter (deepB p) = (rs.take k).filter (deepB p)) := fun e1 => filter_no (q := (deepB p)) hlt (by simp only [HD.out, e1, Bool.not_true, Bool.not_false])
      have yes : z1 = true → Hid ((rs.take (k + 1)).filter (deepB p) = (rs.take k).filter (deepB p) ++ [rs[k]]) := fun e1 => filter_yes (q := (deepB p)) hlt (by simp only [HD.out, e1, Bool.not_true, Bool.not_false])
      have NO := hide no
      have YES := hide yes
      have HL := hide (show ts.length ≤ rs.length by
        have e1 : ts.length = ((rs.take k).filter (deepB p)).length := by have := congrArg List.length HTS.out; simpa using this
        rw [e1]; exact filter_len rs k)
      clear no yes HD
      by_cases ez : z1 = false
      · subst ez
        have HF := NO.out rfl
        clear NO YES HSK
        go_wp2_with fail
        refine HQ1.out.mono ?_
        rintro e w1 ⟨rfl, hb3⟩
        have b4 := HBA.out.trans (hb3 _)
        have c1 := hbe.trans (b4.mono hbe.size)
        have HG2 := hide (HG.out.next b4)
        clear hb3 b4 HQ1
        go_wp2
        go_roundw
        case rel => exact ⟨k + 1, lo, ts, by omega, by go_num, HG2.out, hlo, by rw [HF.out]; exact HTS.out, HCC.out, c1⟩
        case measure => simp [intOf]; omega
      · obtain rfl : z1 = true := by cases z1 <;> simp at ez ⊢
        clear ez
        have HF := YES.out rfl
        clear NO YES
        go_wp2_with fail
        refine HQ1.out.mono ?_
        rintro e w2 ⟨rfl, hall⟩
        have b4 := HBA.out.trans (hall _)
        have HI2 := hide (HI.out.below (hall B) (Nat.le_refl _))
        clear HQ1
        have hc5 : ∀ o v, (wr.alloc (Obj.cells #[.slice pa (rs[k]).pa.length pc, .bool (rs[k]).co, .string (rs[k]).bo, .int .i64 (rs[k]).ve, .slice qa (rs[k]).ps.length qc] 35)).cell? ⟨wr.heap.size, o, none⟩ = some v → w2.cell? ⟨wr.heap.size, o, none⟩ = some v := fun o v hv => ((hall (wr.heap.size + 1)).cell (p := ⟨wr.heap.size, o, none⟩) (Nat.lt_succ_self _)).trans hv
        have d0 := hc5 0 (.slice pa (rs[k]).pa.length pc) (by simp)
        have d1 := hc5 1 (.bool (rs[k]).co) (by simp)
        have d2 := hc5 2 (.string (rs[k]).bo) (by simp)
        have d3 := hc5 3 (.int .i64 (rs[k]).ve) (by simp)
        have d4 := hc5 4 (.slice qa (rs[k]).ps.length qc) (by simp)
        have c1 := hbe.trans (b4.mono hbe.size)
        have HG2 := hide (HG.out.next b4)
        have hlo2 : lo ≤ w2.heap.size := Nat.le_trans HG.out.top b4.size
        have HCp := hide (copyRes_any rs[k] pa pc qa qc B w2 HI2.out (Nat.le_trans hB c1.size) HSK.out.1 HSK.out.2.1 HSK.out.2.2.1 HSK.out.2.2.2.1 HSK.out.2.2.2.2)
        have hlen := HL.out
        have hk1 := HSK.out.1
        have hk2 := HSK.out.2.1
        clear hc5 hall b4 HI2
        go_wp2_with fail
        refine HCp.out.mono ?_
        rintro e w3 ⟨⟨pp, qq, rfl, hpp, hpq, r3, q3⟩, b5⟩
        have c3 := c1.trans (b5.mono c1.size)
        have bA := (Below.refl w3.heap.size w3).alloc (Nat.le_refl _) (Obj.cells #[.slice (some ⟨pp, 0, none⟩) (rs[k]).pa.length (rs[k]).pa.length, .bool (rs[k]).co, .string (rs[k]).bo, .int .i64 (rs[k]).ve, .slice (some ⟨qq, 0, none⟩) (rs[k]).ps.length (rs[k]).ps.length] 35)
        have HG4 := hide ((HG2.out.next b5).next bA)
        have HR := hide (r3.below bA)
        have HQ := hide (q3.below bA)
        have HC4 := hide (c3.trans (bA.mono c3.size))
        clear r3 q3 b5 bA c1 c3 d0 d1 d2 d3 d4 HCp
        go_wp2_with (at_builtin; refine wp_append_res rfl _ _ rfl w.heap.size lo _ ts rfl HG4.out w3.heap.size ⟨rs[k], pp, (rs[k]).pa.length, qq, (rs[k]).ps.length⟩ rfl ?_ ?_ hlo (Nat.le_trans hlo2 hpp) hpq HR.out HQ.out.full ?_ ?_)
        · exact ⟨by simp, by simp, by simp, by simp, by simp⟩
        · omega
        · exact ⟨by unfold maxLen; omega, by unfold maxLen; omega⟩
        · intro v' w' hG' hB'
          have HG' := hide hG'
          have HC' := hide (HC4.out.trans hB')
          clear hG' hB'
          go_wp2
          go_roundw
          case rel => exact ⟨k + 1, _, _, by omega, by go_num, HG'.out, HC'.out.size, by rw [HF.out, List.map_append, HTS.out]; rfl, caps_snoc HCC.out, HC'.out⟩
          case measure => simp [intOf]; omega
    · have HF := hide (filter_end (q := (deepB p)) hlt)
      have HM := hide (show ts.map (·.r) = deepL rs p by rw [HTS.out, HF.out]; rfl)
      have HG3 := hide (HG.out.up HG.out.top (Nat.le_refl _))
      clear HTS HF
      go_wp2
      go_ret
      exact ⟨⟨_, ts, rfl, HG3.out, HM.out, HCC.out⟩, hbe⟩
end Go.Proofs.YtclnpfpaabmkcaaGreat
namespace Go.Proofs.YtclnpfpaabmkcaaGreat
open Go.RowKit M
set_option linter.unusedVariables false

theorem run_make_ress (n : Nat) (hn : n ≤ 1048576) (w : World) :
    (Instr.makeSlice 24 (.int .i64 (n : Int)) (.int .i64 (n : Int))).run Tryz.prog w = .ok (.slice (some ⟨w.heap.size, 0, none⟩) n n) (w.alloc (.cells (madeCells #[.slice none 0 0, .bool false, .string ByteArray.empty, .int .i64 0, .slice none 0 0] (n * 5)) 35)) := by
  obtain ⟨i, hi, hz, hs, hb⟩ := info_parts info_res
  have hr := run_make (P := Tryz.prog) w 24 35 i _ Tryz.underlying24 hi hz .i64 .i64 n n (by omega) (Int.le_refl _) (by rw [hb]; omega) (by omega)
  simp only [Int.toNat_natCast, hs] at hr
  exact hr

/-- What is made so far. -/
def MadeR (w : World) (g : Nat) (rs : List Rs) (k : Nat) : Prop :=
  ∃ F : Nat → Value, w.rowIs g 35 (rs.length * 5) F ∧ ∃ pb qb : Nat → Nat, ∀ j (hj : j < rs.length), j < k →
    F (j * 5) = .slice (some ⟨pb j, 0, none⟩) rs[j].pa.length rs[j].pa.length ∧ F (j * 5 + 1) = .bool rs[j].co ∧ F (j * 5 + 2) = .string rs[j].bo ∧ F (j * 5 + 3) = .int .i64 rs[j].ve ∧ F (j * 5 + 4) = .slice (some ⟨qb j, 0, none⟩) rs[j].ps.length rs[j].ps.length ∧
    RowS w (pb j) rs[j].pa ∧ RowP w (qb j) rs[j].ps ∧ g < pb j ∧ pb j < qb j ∧ ∀ i, i < j → qb i < pb j

theorem MadeR.start (w : World) (rs : List Rs) : MadeR (w.alloc (.cells (madeCells #[.slice none 0 0, .bool false, .string ByteArray.empty, .int .i64 0, .slice none 0 0] (rs.length * 5)) 35)) w.heap.size rs 0 := by
  have hr := World.rowIs_alloc w (madeCells #[.slice none 0 0, .bool false, .string ByteArray.empty, .int .i64 0, .slice none 0 0] (rs.length * 5)) 35 (fun i => ((madeCells #[.slice none 0 0, .bool false, .string ByteArray.empty, .int .i64 0, .slice none 0 0] (rs.length * 5))[i]?).getD (.string ByteArray.empty)) (fun i hi => by rw [Array.getElem?_eq_getElem hi]; rfl)
  rw [size_madeCells] at hr
  exact ⟨_, hr, fun _ => 0, fun _ => 0, fun j _ hj => absurd hj (Nat.not_lt_zero _)⟩
theorem MadeR.below {w w1 : World} {g : Nat} {rs : List Rs} {k : Nat} (m : MadeR w g rs k) (hb : Below w.heap.size w w1) : MadeR w1 g rs k := by
  obtain ⟨F, hr, pb, qb, hj⟩ := m
  refine ⟨F, hr.of_block (w' := w1) (hb.block _ hr.lt), pb, qb, fun j hjl hjk => ?_⟩
  obtain ⟨e0, e1, e2, e3, e4, e5, e6, e7⟩ := hj j hjl hjk
  exact ⟨e0, e1, e2, e3, e4, e5.below hb, e6.below hb, e7⟩
theorem MadeR.lt {w : World} {g : Nat} {rs : List Rs} {k : Nat} (m : MadeR w g rs k) : g < w.heap.size := by obtain ⟨F, hr, _⟩ := m; exact hr.lt
theorem MadeR.cells {w : World} {g : Nat} {rs : List Rs} {k : Nat} (m : MadeR w g rs k) (hk : k < rs.length) : ∃ v0 v1 v2 v3 v4, w.cell? ⟨g, k * 5, none⟩ = some v0 ∧ w.cell? ⟨g, k * 5 + 1, none⟩ = some v1 ∧ w.cell? ⟨g, k * 5 + 2, none⟩ = some v2 ∧ w.cell? ⟨g, k * 5 + 3, none⟩ = some v3 ∧ w.cell? ⟨g, k * 5 + 4, none⟩ = some v4 ∧ w.frozen? ⟨g, k * 5, none⟩ = false ∧ w.frozen? ⟨g, k * 5 + 1, none⟩ = false ∧ w.frozen? ⟨g, k * 5 + 2, none⟩ = false ∧ w.frozen? ⟨g, k * 5 + 3, none⟩ = false ∧ w.frozen? ⟨g, k * 5 + 4, none⟩ = false := by
  obtain ⟨F, hr, _⟩ := m
  exact ⟨_, _, _, _, _, hr.cell (by omega), hr.cell (by omega), hr.cell (by omega), hr.cell (by omega), hr.cell (by omega), hr.frozen _, hr.frozen _, hr.frozen _, hr.frozen _, hr.frozen _⟩
theorem MadeR.next {w w1 : World} {g : Nat} {rs : List Rs} {k : Nat} (m : MadeR w g rs k) (hb : Below w.heap.size w w1) (hk : k < rs.length) (p q : Nat) (hp : w.heap.size ≤ p) (hpq : p < q) (rp : RowS w1 p rs[k].pa) (rq : RowP w1 q rs[k].ps) :
    MadeR (((((w1.setCell ⟨g, k * 5, none⟩ (.slice (some ⟨p, 0, none⟩) rs[k].pa.length rs[k].pa.length)).setCell ⟨g, k * 5 + 1, none⟩ (.bool rs[k].co)).setCell ⟨g, k * 5 + 2, none⟩ (.string rs[k].bo)).setCell ⟨g, k * 5 + 3, none⟩ (.int .i64 rs[k].ve)).setCell ⟨g, k * 5 + 4, none⟩ (.slice (some ⟨q, 0, none⟩) rs[k].ps.length rs[k].ps.length)) g rs (k + 1) := by
  have m1 := m.below hb
  have hgl := m.lt
  obtain ⟨F0, hr0, pb0, qb0, hj0⟩ := m
  have hlast : ∀ (pb qb : Nat → Nat), True := fun _ _ => trivial
  clear hlast
  refine ⟨_, (((((hr0.of_block (w' := w1) (hb.block _ hr0.lt)).set (k * 5) (.slice (some ⟨p, 0, none⟩) rs[k].pa.length rs[k].pa.length)).set (k * 5 + 1) (.bool rs[k].co)).set (k * 5 + 2) (.string rs[k].bo)).set (k * 5 + 3) (.int .i64 rs[k].ve)).set (k * 5 + 4) (.slice (some ⟨q, 0, none⟩) rs[k].ps.length rs[k].ps.length), fun i => if i = k then p else pb0 i, fun i => if i = k then q else qb0 i, fun j hjl hjk => ?_⟩
  by_cases e : j = k
  · subst e
    refine ⟨by simp, by simp, by simp, by simp, by simp, ?_, ?_, by simp; omega, by simpa using hpq, fun i hi => ?_⟩
    · simp only [if_true]
      exact ((((rp.setCell _ _ (by simp; omega)).setCell _ _ (by simp; omega)).setCell _ _ (by simp; omega)).setCell _ _ (by simp; omega)).setCell _ _ (by simp; omega)
    · simp only [if_true]
      exact ((((rq.setCell _ _ (by simp; omega)).setCell _ _ (by simp; omega)).setCell _ _ (by simp; omega)).setCell _ _ (by simp; omega)).setCell _ _ (by simp; omega)
    · simp only [show ¬ i = j by omega, if_true, if_false]
      have := (hj0 i (by omega) hi).2.2.2.2.2.2.1.1
      omega
  · obtain ⟨e0, e1, e2, e3, e4, e5, e6, e7, e8, e9⟩ := hj0 j hjl (by omega)
    have f5 := e5.below hb
    have f6 := e6.below hb
    simp only [e, if_false]
    refine ⟨?_, ?_, ?_, ?_, ?_, ?_, ?_, e7, e8, fun i hi => ?_⟩
    · simp only [show ¬ j * 5 = k * 5 + 4 by omega, show ¬ j * 5 = k * 5 + 3 by omega, show ¬ j * 5 = k * 5 + 2 by omega, show ¬ j * 5 = k * 5 + 1 by omega, show ¬ j * 5 = k * 5 by omega, if_false]; exact e0
    · simp only [show ¬ j * 5 + 1 = k * 5 + 4 by omega, show ¬ j * 5 + 1 = k * 5 + 3 by omega, show ¬ j * 5 + 1 = k * 5 + 2 by omega, show ¬ j * 5 + 1 = k * 5 + 1 by omega, show ¬ j * 5 + 1 = k * 5 by omega, if_false]; exact e1
    · simp only [show ¬ j * 5 + 2 = k * 5 + 4 by omega, show ¬ j * 5 + 2 = k * 5 + 3 by omega, show ¬ j * 5 + 2 = k * 5 + 2 by omega, show ¬ j * 5 + 2 = k * 5 + 1 by omega, show ¬ j * 5 + 2 = k * 5 by omega, if_false]; exact e2
    · simp only [show ¬ j * 5 + 3 = k * 5 + 4 by omega, show ¬ j * 5 + 3 = k * 5 + 3 by omega, show ¬ j * 5 + 3 = k * 5 + 2 by omega, show ¬ j * 5 + 3 = k * 5 + 1 by omega, show ¬ j * 5 + 3 = k * 5 by omega, if_false]; exact e3
    · simp only [show ¬ j * 5 + 4 = k * 5 + 4 by omega, show ¬ j * 5 + 4 = k * 5 + 3 by omega, show ¬ j * 5 + 4 = k * 5 + 2 by omega, show ¬ j * 5 + 4 = k * 5 + 1 by omega, show ¬ j * 5 + 4 = k * 5 by omega, if_false]; exact e4
    · exact ((((f5.setCell _ _ (by simp; omega)).setCell _ _ (by simp; omega)).setCell _ _ (by simp; omega)).setCell _ _ (by simp; omega)).setCell _ _ (by simp; omega)
    · exact ((((f6.setCell _ _ (by simp; omega)).setCell _ _ (by simp; omega)).setCell _ _ (by simp; omega)).setCell _ _ (by simp; omega)).setCell _ _ (by simp; omega)
    · simp only [show ¬ i = k by omega, if_false]
      exact e9 i hi
theorem MadeR.done {w : World} {g : Nat} {rs : List Rs} {k : Nat} (m : MadeR w g rs k) (hk : ¬ k < rs.length) : ∃ pb qb, OwnR w g w.heap.size g rs pb qb := by
  obtain ⟨F, hr, pb, qb, hj⟩ := m
  refine ⟨pb, qb, Nat.le_refl _, hr.lt, hr.lt, fun i => hr.frozen i, fun j hjl => ?_, fun j hjl => (hj j hjl (by omega)).2.2.2.2.2.1, fun j hjl => (hj j hjl (by omega)).2.2.2.2.2.2.1, fun j hjl => ?_, fun i j hij hjl => ?_⟩
  · obtain ⟨e0, e1, e2, e3, e4, _⟩ := hj j hjl (by omega)
    exact ⟨by rw [hr.cell (by omega), e0], by rw [hr.cell (by omega), e1], by rw [hr.cell (by omega), e2], by rw [hr.cell (by omega), e3], by rw [hr.cell (by omega), e4]⟩
  · obtain ⟨_, _, _, _, _, e5, e6, e7, e8, _⟩ := hj j hjl (by omega)
    have := e6.1
    omega
  · obtain ⟨_, _, _, _, _, _, _, _, e8, e9⟩ := hj j hjl (by omega)
    obtain ⟨_, _, _, _, _, _, _, _, d8, _⟩ := hj i (by omega) (by omega)
    have o1 := e9 i hij
    exact ⟨by omega, by omega, by omega, by omega⟩

end Go.Proofs.YtclnpfpaabmkcaaGreat
namespace Go.Proofs.YtclnpfpaabmkcaaGreat
open Go.RowKit M
set_option linter.unusedVariables false

/-- How long what a thing has may be. -/
abbrev SzT (rs : List Rs) : Prop := ∀ r ∈ rs, r.pa.length ≤ 1048576 ∧ r.ps.length ≤ 1048576 ∧ (∀ s ∈ r.pa, s.size ≤ 281474976710656) ∧ r.bo.size ≤ 281474976710656 ∧ ∀ p ∈ r.ps, p.1.size ≤ 281474976710656 ∧ p.2.1.size ≤ 281474976710656 ∧ p.2.2.size ≤ 281474976710656

set_option maxRecDepth 100000 in
set_option maxHeartbeats 2000000 in
theorem copyTree_any (a : Option Addr) (rs : List Rs) (cap B : Nat) (w : World) (h : Rss w B a rs) (hB : B ≤ w.heap.size) (hl : rs.length ≤ 1048576) (hs : SzT rs) :
    Calls Tryz.prog 60 #[.slice a rs.length cap] w fun e w' => e = .returned (.slice (some ⟨w.heap.size, 0, none⟩) rs.length rs.length) ∧ (∃ pb qb, OwnR w' w.heap.size w'.heap.size w.heap.size rs pb qb) ∧ Below w.heap.size w w' := by
  have HS := hide hs
  clear hs
  have hmk := run_make_ress rs.length hl w
  go_enter Tryz.func60, Tryz.ntmps60
  go_wp2
  clear hmk
  go_loopw [11] (fun i wr => ∃ k : Nat, k ≤ rs.length ∧ i = .int .i64 k ∧ MadeR wr w.heap.size rs k ∧ Below w.heap.size w wr) (fun i _ => rs.length - (intOf i).toNat)
  case atStart => exact ⟨0, Nat.zero_le _, rfl, MadeR.start w rs, (Below.refl _ _).alloc (Nat.le_refl _) _⟩
  case round =>
    obtain ⟨k, hk, rfl, hrow, hbe⟩ := hrel
    by_cases hlt : k < rs.length
    · obtain ⟨b, o, rfl, hb, hc⟩ := (h.below hbe hB) (by omega)
      obtain ⟨pa, pc, qa, qc, ⟨hc0, hc1, hc2, hc3, hc4⟩, hin⟩ := hc k hlt
      clear hc
      have HSK := hide (HS.out _ (List.getElem_mem hlt))
      have hBA := (Below.refl wr.heap.size wr).alloc (Nat.le_refl _) (Obj.cells #[.slice pa (rs[k]).pa.length pc, .bool (rs[k]).co, .string (rs[k]).bo, .int .i64 (rs[k]).ve, .slice qa (rs[k]).ps.length qc] 35)
      have HC := hide (copyRes_any rs[k] pa pc qa qc B (wr.alloc (Obj.cells #[.slice pa (rs[k]).pa.length pc, .bool (rs[k]).co, .string (rs[k]).bo, .int .i64 (rs[k]).ve, .slice qa (rs[k]).ps.length qc] 35)) (hin.below hBA (Nat.le_trans hB hbe.size)) (by have := hbe.size; simp; omega) HSK.out.1 HSK.out.2.1 HSK.out.2.2.1 HSK.out.2.2.2.1 HSK.out.2.2.2.2)
      have HBA := hide hBA
      have hr0 := hrow.below hBA
      have HR0 := hide hr0
      clear hin hBA hr0 hrow
      go_wp2_with fail
      refine HC.out.mono ?_
      rintro e w1 ⟨⟨p, q, rfl, hp, hpq, rp, rq⟩, hb1⟩
      have c1 := (hbe.trans (HBA.out.mono hbe.size)).trans (hb1.mono (by have := hbe.size; simp; omega))
      obtain ⟨v0, v1, v2, v3, v4, hd0, hd1, hd2, hd3, hd4, hf0, hf1, hf2, hf3, hf4⟩ := (HR0.out.below hb1).cells hlt
      have HR := hide (HR0.out.next hb1 hlt p q hp hpq rp rq)
      clear rp rq hp hpq HC HBA HR0
      go_wp2
      go_roundw
      case rel => exact ⟨k + 1, by omega, by go_num, HR.out, ((((c1.setCell (Nat.le_refl _) _).setCell (Nat.le_refl _) _).setCell (Nat.le_refl _) _).setCell (Nat.le_refl _) _).setCell (Nat.le_refl _) _⟩
      case measure => simp [intOf]; omega
    · go_wp2
      go_ret
      exact ⟨rfl, hrow.done hlt, hbe⟩
end Go.Proofs.YtclnpfpaabmkcaaGreat
namespace Go.Proofs.YtclnpfpaabmkcaaGreat
open Go.RowKit M
/-- Things handed back that one call made, and a code. -/
def GaveIs (w w' : World) (e : Ending) (rs : List Rs) (c : Int) : Prop := ∃ (g cap : Nat) (pb qb : Nat → Nat), e = .returned (.tuple #[.slice (some ⟨g, 0, none⟩) rs.length cap, .int .i64 c]) ∧ OwnR w' w.heap.size w'.heap.size g rs pb qb

theorem PathsAt.one {w : World} {b : Option Addr} {p : List ByteArray} {cap C : Nat} (h : Strs w C b p) (hC : C ≤ w.heap.size) (hs : Short p) (hl : p.length ≤ maxLen) : PathsAt (w.alloc (Obj.cells #[.slice b p.length cap] 25)) w.heap.size [(p, b, cap)] := by
  have hb := (Below.refl w.heap.size w).alloc (Nat.le_refl _) (Obj.cells #[.slice b p.length cap] 25)
  refine ⟨by simp, fun j hj => ?_, fun j hj => ?_⟩
  · obtain rfl : j = 0 := by simp at hj; omega
    simp
  · obtain rfl : j = 0 := by simp at hj; omega
    exact ⟨(h.below hb hC).mono (by simp; omega), hs, hl⟩

theorem OwnR.down {w : World} {lo lo' hi g : Nat} {rs : List Rs} {pb qb : Nat → Nat} (h : OwnR w lo hi g rs pb qb) (hl : lo' ≤ lo) : OwnR w lo' hi g rs pb qb :=
  ⟨Nat.le_trans hl h.gl, h.gh, h.gs, h.fz, h.cl, h.rp, h.rq, fun j hj => by obtain ⟨k1, k2⟩ := h.bnd j hj; exact ⟨Nat.le_trans hl k1, k2⟩, h.ord⟩
end Go.Proofs.YtclnpfpaabmkcaaGreat
