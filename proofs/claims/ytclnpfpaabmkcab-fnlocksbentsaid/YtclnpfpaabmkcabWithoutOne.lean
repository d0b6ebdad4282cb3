/-
  What inOrder.withoutOne at locks does.
-/
import Derived.Test.YtclnpfpaabmkcabDropI
import Derived.Deep.RegionHeld3
namespace Go.Proofs.Ytclnpfpaabmkcab
open Go.RowKit M
set_option linter.unusedVariables false

theorem step_copy_nothingK {P : Program} {ops : Array Oper} {o : Oper} {a : Act} {w : World} {K : Act → World → Prop} {Q : Exit → Act → World → Prop} {E : Prop} (hgd : o.guard = none) (d s : Operand) (dT sT : TypeId)
    (ho : o.op = .call { callee := .builtin .copy, args := #[d, s], argTypes := #[dT, sT] }) (k : Nat) (elem : TypeId) (hu : P.underlying dT = some (.slice elem)) (hsz : (P.info? elem).map (·.size) = some k)
    (dp sp : Option Addr) (dLen dCap sLen sCap : Nat) (hd : a.eval d = .slice dp dLen dCap) (hs : a.eval s = .slice sp sLen sCap) (hn : Nat.min sLen dLen = 0)
    (h : K (a.put o.dst (goInt 0)) w) : if Region.wanted o (yielded ops a.tmps) = true then Oper.wp P o a w K Q else E := by
  have hw : Region.wanted o (yielded ops a.tmps) = true := by simp [Region.wanted, hgd]
  rw [if_pos hw]
  have hrun := run_copy_noneK (P := P) w k dT sT o.type elem dp sp dLen dCap sLen sCap hu hsz hn
  unfold Oper.wp execOp
  simp only [ho, resolve, invoke, builtin, Sem.run_bind, Sem.run_pure, Result.andThen_ok, List.map_toArray, List.map_cons, List.map_nil, hd, hs, hrun]
  exact h

set_option maxRecDepth 100000 in
set_option maxHeartbeats 4000000 in
theorem withoutOne_any (ad : Addr) (l : List Lk) (cap B at' : Nat) (w : World) (h : Lks w B (some ad) l) (hB : B ≤ w.heap.size) (hl : l.length ≤ 1048577) (hat : at' < l.length) (hc : l.length ≤ cap) (hm : cap ≤ maxLen) :
    Calls Try.prog 48 #[.slice (some ad) l.length cap, .int .i64 at'] w fun e w' => (e = .returned (.slice (some ⟨w.heap.size, 0, none⟩) (l.length - 1) (l.length - 1)) ∧ ∃ ts : List LkT, ts.map (·.r) = l.take at' ++ l.drop (at' + 1) ∧ RowV w' w.heap.size ts ∧ InV w' B ts) ∧ Below w.heap.size w w' := by
  unfold maxLen at hm
  obtain ⟨ts, hts, hin, hat0⟩ := h.ts
  obtain ⟨b, o, e0, hbB, hcl⟩ := hat0 (by omega)
  obtain ⟨bk, of, sp⟩ := ad
  cases e0
  have hl2 : ts.length = l.length := by rw [← hts, List.length_map]
  have hmk := makeOrder_run (l.length - 1) (by omega) w
  rw [show ((l.length - 1 : Nat) : Int) = (l.length : Int) - 1 by omega] at hmk
  have hsz : (Try.prog.info? 26).map (·.size) = some 5 := by kernel_rfl
  have hb0 := (Below.refl w.heap.size w).alloc (Nat.le_refl _) (.cells (madeCells #[.int .i64 0, .slice none 0 0, .bool false, .bool false, .int .i64 0] ((l.length - 1) * 5)) 26)
  have hg := heap_alloc_new w (.cells (madeCells #[.int .i64 0, .slice none 0 0, .bool false, .bool false, .int .i64 0] ((l.length - 1) * 5)) 26)
  have hsrc := lks_src hcl
  obtain ⟨CS, hCS⟩ : ∃ CS, CS = lkCells ts := ⟨_, rfl⟩
  have hlen := lkCells_length ts
  have hone := lkCells_one ts
  have hmd : (madeCells #[.int .i64 0, .slice none 0 0, .bool false, .bool false, .int .i64 0] ((l.length - 1) * 5)).size = (l.length - 1) * 5 := size_madeCells _ _
  obtain ⟨Z, hZ⟩ : ∃ Z, Z = madeCells #[.int .i64 0, .slice none 0 0, .bool false, .bool false, .int .i64 0] ((l.length - 1) * 5) := ⟨_, rfl⟩
  rw [← hZ] at hmk hb0 hg hmd
  obtain ⟨w0, hw0⟩ : ∃ W, w.alloc (.cells Z 26) = W := ⟨_, rfl⟩
  rw [hw0] at hmk hb0 hg
  obtain ⟨A1, hA1⟩ : ∃ A1, A1 = CS.take (at' * 5) := ⟨_, rfl⟩
  obtain ⟨A2, hA2⟩ : ∃ A2, A2 = CS.drop ((at' + 1) * 5) := ⟨_, rfl⟩
  have hA1l : A1.length = at' * 5 := by rw [hA1, hCS, List.length_take, hlen]; omega
  have hA2l : A2.length = (l.length - 1 - at') * 5 := by rw [hA2, hCS, List.length_drop, hlen]; omega
  have n1 : A1.length = Nat.min at' (l.length - 1) * 5 := by rw [hA1l]; congr 1; exact (Nat.min_eq_left (by omega)).symm
  have n2 : A2.length = Nat.min (l.length - (at' + 1)) (l.length - 1 - at') * 5 := by rw [hA2l]; congr 1; show _ = min _ _; rw [Nat.min_eq_left (by omega)]; omega
  have s1 : ∀ i v, A1[i]? = some v → w0.cell? ((⟨b, o, none⟩ : Addr).add i) = some v := fun i v hv => by
    have hi := (List.getElem?_eq_some_iff.1 hv).1
    rw [hA1, List.getElem?_take_of_lt (by omega), hCS] at hv
    have := hsrc i v hv
    rw [add_pick] at this ⊢
    exact (hb0.cell (p := ⟨b, o + i, none⟩) (by show b < w.heap.size; omega)).trans this
  have s2 : ∀ i v, A2[i]? = some v → w0.cell? ((⟨b, o + (at' + 1) * 5, none⟩ : Addr).add i) = some v := fun i v hv => by
    rw [hA2, List.getElem?_drop, hCS] at hv
    have := hsrc _ v hv
    rw [add_pick] at this ⊢
    rw [Nat.add_assoc]
    exact (hb0.cell (p := ⟨b, _, none⟩) (by show b < w.heap.size; omega)).trans this
  have o1 : ∀ v ∈ A1, v.oneCell' = true := fun v hv => hone v (by rw [← hCS]; rw [hA1] at hv; exact List.mem_of_mem_take hv)
  have o2 : ∀ v ∈ A2, v.oneCell' = true := fun v hv => hone v (by rw [← hCS]; rw [hA2] at hv; exact List.mem_of_mem_drop hv)
  have eA : A1 ++ A2 = lkCells (ts.take at' ++ ts.drop (at' + 1)) := by rw [hA1, hA2, hCS, lkCells_take, lkCells_drop, lkCells_append]
  have fit1 : 0 + A1.length ≤ Z.size := by rw [hmd, hA1l]; omega
  have N1 := hide n1
  have S1 := hide s1
  have O1 := hide o1
  have N2 := hide n2
  have S2 := hide s2
  have O2 := hide o2
  have EA := hide eA
  have F1 := hide fit1
  have L1 := hide hA1l
  have L2 := hide hA2l
  have HG := hide hg
  have HB := hide hb0
  have HMD := hide hmd
  have HTS := hide hts
  have HIN := hide hin
  have HL := hide hl2
  have hw0z : w0.heap.size = w.heap.size + 1 := by rw [← hw0]; simp
  have HZ0 := hide hw0z
  clear n1 s1 o1 n2 s2 o2 eA fit1 hA1l hA2l hg hb0 hmd hts hin hl2 hsrc hlen hone hZ hA1 hA2 hCS hcl h hat0 hw0 hw0z
  have hi0 : (0 : Int) ≤ (at' : Int) := by omega
  have hi1 : (at' : Int) ≤ (cap : Int) := by omega
  have hi2 : (at' : Int) + 1 ≤ (l.length : Int) := by omega
  have hlc : (l.length : Int) ≤ (cap : Int) := by omega
  go_enter Try.func48, Try.ntmps48
  go_wp2_with (refine wpList_copyK rfl _ _ _ _ rfl 5 26 Try.underlying75 hsz w.heap.size 0 (l.length - 1) (l.length - 1) ⟨b, o, none⟩ at' cap (by rfl) (by rfl) _ _ HG.out A1 N1.out S1.out F1.out O1.out ?_)
  intro w2 HW hg2
  clear hmk
  have hmn : Nat.min at' (l.length - 1) = at' := Nat.min_eq_left (by omega)
  rw [hmn]
  obtain ⟨X1, hX1⟩ : ∃ X1, X1 = splice Z.toList 0 A1 := ⟨_, rfl⟩
  have hW2 := HW.out
  rw [← hX1] at hW2
  have hX1l : X1.length = Z.size := by rw [hX1, length_splice _ _ _ (by rw [Array.length_toList]; exact F1.out), Array.length_toList]
  have hX1t : X1.take (at' * 5) = A1 := by
    rw [hX1]
    unfold splice
    rw [List.take_zero, List.nil_append, ← L1.out, List.take_left]
  have HX1 := hide (And.intro hX1l hX1t)
  have HW2 := hide hW2
  have hbel : Below w.heap.size w w2 := HB.out.trans ⟨hg2.os, hg2.tape, hg2.output, hg2.size, fun k hk => hg2.block k (by have := HZ0.out; omega) (fun e => by have := Option.some.inj e; omega)⟩
  have hkB : ∀ x, x < w.heap.size → w2.heap[x]? = w0.heap[x]? := fun x hx => hg2.block x (by have := HZ0.out; omega) (fun e => by have := Option.some.inj e; omega)
  have HBE := hide hbel
  have S2b := hide (show ∀ i v, A2[i]? = some v → w2.drew.cell? ((⟨b, o + (at' + 1) * 5, none⟩ : Addr).add i) = some v from fun i v hv => by
    have := S2.out i v hv
    rw [add_pick] at this ⊢
    show w2.cell? _ = _
    rw [← this]
    simp only [World.cell?, hkB b (by omega)])
  clear hW2 hX1l hX1t hX1 hbel hkB HW hg2 hmn
  have hnx : ((l.length - 1 : Nat) : Int) = (l.length : Int) - 1 := by omega
  have hax : (at' : Int) ≤ (l.length : Int) - 1 := by omega
  have hbx : ((at' + 1 : Nat) : Int) = (at' : Int) + 1 := by omega
  have hwr : IntKind.i64.wrap ((at' : Int) + 1) = (at' : Int) + 1 := by rw [IntKind.wrap_i64]; omega
  have htn : ((at' : Int) + 1).toNat = at' + 1 := by omega
  have hp0 : (0 : Int) ≤ (at' : Int) + 1 := by omega
  by_cases hlast : at' + 1 = l.length
  · have hA2e : A2 = [] := List.eq_nil_of_length_eq_zero (by rw [L2.out]; omega)
    have hrow : RowV w2 w.heap.size (ts.take at' ++ ts.drop (at' + 1)) := RowV.heap HW2.out (fun i hi => by
      have hll : (ts.take at' ++ ts.drop (at' + 1)).length = at' := by rw [List.length_append, List.length_take, List.length_drop, HL.out]; omega
      rw [hll] at hi
      rw [List.getElem?_toArray, ← EA.out, hA2e, List.append_nil, ← HX1.out.2, List.getElem?_take_of_lt hi])
    have HR := hide (And.intro hrow (show InV w2 B (ts.take at' ++ ts.drop (at' + 1)) from fun t ht => (HIN.out t (by
      rcases List.mem_append.1 ht with h | h
      · exact List.mem_of_mem_take h
      · exact List.mem_of_mem_drop h)).below HBE.out hB))
    have hmz : Nat.min (l.length - (at' + 1)) (l.length - 1 - at') = 0 := by show min _ _ = 0; rw [Nat.min_eq_left (by omega)]; omega
    have hml : l.length - 1 - at' = 0 := by omega
    have HMZ := hide hmz
    have hcap1 : l.length - 1 = at' := by omega
    clear hrow hmz
    by_cases hcap2 : cap = at' + 1
    · go_wp2
      refine wp_region_held_drew (S := (fun W => True)) (by kernel_rfl) trivial (fun hHeld => ?_)
      simp only [List.size_toArray, List.length_cons, List.length_nil, Nat.reduceAdd, Array.replicate_succ, Array.replicate_zero, List.push_toArray, List.nil_append, List.cons_append]
      refine wpAnyH_take (i := 0) (v := ?_) rfl (by kernel_rfl) (by kernel_rfl) (by kernel_rfl) (fun _ _ _ h => h) (Or.inl ⟨by rfl, ?_⟩) (by assumption) ?_
      rotate_left
      · intro w hSw; (try dsimp only at hSw); go_simp; try with_reducible rfl
      simp only [Act.put, List.getElem_toArray, List.getElem_cons_zero, List.setIfInBounds_toArray, List.set_cons_zero]
      refine wpAnyH_take (i := 1) (v := ?_) rfl (by kernel_rfl) (by kernel_rfl) (by kernel_rfl) (fun _ _ _ h => h) (Or.inl ⟨by rfl, ?_⟩) (by assumption) ?_
      rotate_left
      · intro w hSw; (try dsimp only at hSw); go_simp; try with_reducible rfl
      simp only [Act.put, List.getElem_toArray, List.getElem_cons_succ, List.getElem_cons_zero, List.setIfInBounds_toArray, List.set_cons_succ, List.set_cons_zero]
      refine wpAnyH_take (i := 2) (v := ?_) rfl (by kernel_rfl) (by kernel_rfl) (by kernel_rfl) (fun _ _ _ h => h) (Or.inl ⟨by rfl, ?_⟩) (by assumption) ?_
      rotate_left
      · intro w hSw; (try dsimp only at hSw); go_simp; try with_reducible rfl
      simp only [Act.put, List.getElem_toArray, List.getElem_cons_succ, List.getElem_cons_zero, List.setIfInBounds_toArray, List.set_cons_succ, List.set_cons_zero]
      refine wpAnyH_take (i := 3) (v := ?_) rfl (by kernel_rfl) (by kernel_rfl) (by kernel_rfl) (fun _ _ _ h => h) (Or.inl ⟨by rfl, ?_⟩) (by assumption) ?_
      rotate_left
      · intro w hSw; (try dsimp only at hSw); go_simp; try with_reducible rfl
      simp only [Act.put, List.getElem_toArray, List.getElem_cons_succ, List.getElem_cons_zero, List.setIfInBounds_toArray, List.set_cons_succ, List.set_cons_zero]
      refine wpAnyH_take (i := 4) (v := ?_) rfl (by kernel_rfl) (by kernel_rfl) (by kernel_rfl) (fun _ _ _ h => h) (Or.inl ⟨by rfl, ?_⟩) (by assumption) ?_
      rotate_left
      · intro w hSw; (try dsimp only at hSw); go_simp; try with_reducible rfl
      simp only [Act.put, List.getElem_toArray, List.getElem_cons_succ, List.getElem_cons_zero, List.setIfInBounds_toArray, List.set_cons_succ, List.set_cons_zero]
      refine wpAnyH_take (i := 5) (v := ?_) rfl (by kernel_rfl) (by kernel_rfl) (by kernel_rfl) (fun _ _ _ h => h) (Or.inl ⟨by rfl, ?_⟩) (by assumption) ?_
      rotate_left
      · intro w hSw; (try dsimp only at hSw); go_simp; try with_reducible rfl
      simp only [Act.put, List.getElem_toArray, List.getElem_cons_succ, List.getElem_cons_zero, List.setIfInBounds_toArray, List.set_cons_succ, List.set_cons_zero]
      refine wpAnyH_take (i := 6) (v := ?_) rfl (by kernel_rfl) (by kernel_rfl) (by kernel_rfl) (fun _ _ _ h => h) (Or.inl ⟨by rfl, ?_⟩) (by assumption) ?_
      rotate_left
      · intro w hSw; (try dsimp only at hSw); go_simp; try with_reducible rfl
      simp only [Act.put, List.getElem_toArray, List.getElem_cons_succ, List.getElem_cons_zero, List.setIfInBounds_toArray, List.set_cons_succ, List.set_cons_zero]
      refine wpAnyH_ready (rs := [7]) (by kernel_rfl) (by simp) ?_
      refine AllReadyH.cons rfl (fun K hK => ?_) AllReadyH.nil
      refine step_copy_nothingK rfl _ _ _ _ rfl 5 26 Try.underlying75 hsz _ _ _ _ _ _ (by first | rfl | (simp [Act.eval, Act.put])) (by first | rfl | (simp [Act.eval, Act.put])) (by first | exact HMZ.out | (simp; done) | (simp; omega)) ?_
      refine hK.out _ _ trivial (fun hHeld2 => ?_)
      clear hK K hHeld
      have hHeld := hHeld2
      clear hHeld2
      simp only [List.setIfInBounds_toArray, List.set_cons_succ, List.set_cons_zero]
      refine wpAnyH_done (by kernel_rfl) ?_ _
      clear hHeld
      go_wp2
      go_ret
      exact ⟨⟨by first | rfl | (rw [hcap1]; rfl), _, (by first | (rw [List.map_append, List.map_take, List.map_drop, HTS.out]; done) | (rw [List.map_append, List.map_take, List.map_drop, HTS.out, List.drop_eq_nil_of_le (by omega), List.append_nil]; done)), HR.out.1, fun t ht => (HR.out.2 t ht).drew⟩, below_drewL HBE.out⟩
    · go_wp2
      refine wp_region_held_drew (S := (fun W => True)) (by kernel_rfl) trivial (fun hHeld => ?_)
      simp only [List.size_toArray, List.length_cons, List.length_nil, Nat.reduceAdd, Array.replicate_succ, Array.replicate_zero, List.push_toArray, List.nil_append, List.cons_append]
      refine wpAnyH_take (i := 0) (v := ?_) rfl (by kernel_rfl) (by kernel_rfl) (by kernel_rfl) (fun _ _ _ h => h) (Or.inl ⟨by rfl, ?_⟩) (by assumption) ?_
      rotate_left
      · intro w hSw; (try dsimp only at hSw); go_simp; try with_reducible rfl
      simp only [Act.put, List.getElem_toArray, List.getElem_cons_zero, List.setIfInBounds_toArray, List.set_cons_zero]
      refine wpAnyH_take (i := 1) (v := ?_) rfl (by kernel_rfl) (by kernel_rfl) (by kernel_rfl) (fun _ _ _ h => h) (Or.inl ⟨by rfl, ?_⟩) (by assumption) ?_
      rotate_left
      · intro w hSw; (try dsimp only at hSw); go_simp; try with_reducible rfl
      simp only [Act.put, List.getElem_toArray, List.getElem_cons_succ, List.getElem_cons_zero, List.setIfInBounds_toArray, List.set_cons_succ, List.set_cons_zero]
      refine wpAnyH_take (i := 2) (v := ?_) rfl (by kernel_rfl) (by kernel_rfl) (by kernel_rfl) (fun _ _ _ h => h) (Or.inl ⟨by rfl, ?_⟩) (by assumption) ?_
      rotate_left
      · intro w hSw; (try dsimp only at hSw); go_simp; try with_reducible rfl
      simp only [Act.put, List.getElem_toArray, List.getElem_cons_succ, List.getElem_cons_zero, List.setIfInBounds_toArray, List.set_cons_succ, List.set_cons_zero]
      refine wpAnyH_take (i := 3) (v := ?_) rfl (by kernel_rfl) (by kernel_rfl) (by kernel_rfl) (fun _ _ _ h => h) (Or.inl ⟨by rfl, ?_⟩) (by assumption) ?_
      rotate_left
      · intro w hSw; (try dsimp only at hSw); go_simp; try with_reducible rfl
      simp only [Act.put, List.getElem_toArray, List.getElem_cons_succ, List.getElem_cons_zero, List.setIfInBounds_toArray, List.set_cons_succ, List.set_cons_zero]
      refine wpAnyH_take (i := 4) (v := ?_) rfl (by kernel_rfl) (by kernel_rfl) (by kernel_rfl) (fun _ _ _ h => h) (Or.inl ⟨by rfl, ?_⟩) (by assumption) ?_
      rotate_left
      · intro w hSw; (try dsimp only at hSw); go_simp; try with_reducible rfl
      simp only [Act.put, List.getElem_toArray, List.getElem_cons_succ, List.getElem_cons_zero, List.setIfInBounds_toArray, List.set_cons_succ, List.set_cons_zero]
      refine wpAnyH_take (i := 5) (v := ?_) rfl (by kernel_rfl) (by kernel_rfl) (by kernel_rfl) (fun _ _ _ h => h) (Or.inl ⟨by rfl, ?_⟩) (by assumption) ?_
      rotate_left
      · intro w hSw; (try dsimp only at hSw); go_simp; try with_reducible rfl
      simp only [Act.put, List.getElem_toArray, List.getElem_cons_succ, List.getElem_cons_zero, List.setIfInBounds_toArray, List.set_cons_succ, List.set_cons_zero]
      refine wpAnyH_take (i := 6) (v := ?_) rfl (by kernel_rfl) (by kernel_rfl) (by kernel_rfl) (fun _ _ _ h => h) (Or.inl ⟨by rfl, ?_⟩) (by assumption) ?_
      rotate_left
      · intro w hSw; (try dsimp only at hSw); go_simp; try with_reducible rfl
      simp only [Act.put, List.getElem_toArray, List.getElem_cons_succ, List.getElem_cons_zero, List.setIfInBounds_toArray, List.set_cons_succ, List.set_cons_zero]
      refine wpAnyH_ready (rs := [7]) (by kernel_rfl) (by simp) ?_
      refine AllReadyH.cons rfl (fun K hK => ?_) AllReadyH.nil
      refine step_copy_nothingK rfl _ _ _ _ rfl 5 26 Try.underlying75 hsz _ _ _ _ _ _ (by first | rfl | (simp [Act.eval, Act.put])) (by first | rfl | (simp [Act.eval, Act.put])) (by first | exact HMZ.out | (simp; done) | (simp; omega)) ?_
      refine hK.out _ _ trivial (fun hHeld2 => ?_)
      clear hK K hHeld
      have hHeld := hHeld2
      clear hHeld2
      simp only [List.setIfInBounds_toArray, List.set_cons_succ, List.set_cons_zero]
      refine wpAnyH_done (by kernel_rfl) ?_ _
      clear hHeld
      go_wp2
      go_ret
      exact ⟨⟨by first | rfl | (rw [hcap1]; rfl), _, (by first | (rw [List.map_append, List.map_take, List.map_drop, HTS.out]; done) | (rw [List.map_append, List.map_take, List.map_drop, HTS.out, List.drop_eq_nil_of_le (by omega), List.append_nil]; done)), HR.out.1, fun t ht => (HR.out.2 t ht).drew⟩, below_drewL HBE.out⟩
  · have hcap1 : ¬ (l.length - 1 = at') := by omega
    have hcap2 : ¬ (cap = at' + 1) := by omega
    have hfit2 : at' * 5 + A2.length ≤ X1.toArray.size := by rw [L2.out, List.size_toArray, HX1.out.1, HMD.out]; omega
    have HF2 := hide hfit2
    clear hfit2
    go_wp2
    refine wp_region_held_drew (S := (fun W => True)) (by kernel_rfl) trivial (fun hHeld => ?_)
    simp only [List.size_toArray, List.length_cons, List.length_nil, Nat.reduceAdd, Array.replicate_succ, Array.replicate_zero, List.push_toArray, List.nil_append, List.cons_append]
    refine wpAnyH_take (i := 0) (v := ?_) rfl (by kernel_rfl) (by kernel_rfl) (by kernel_rfl) (fun _ _ _ h => h) (Or.inl ⟨by rfl, ?_⟩) (by assumption) ?_
    rotate_left
    · intro w hSw; (try dsimp only at hSw); go_simp; try with_reducible rfl
    simp only [Act.put, List.getElem_toArray, List.getElem_cons_zero, List.setIfInBounds_toArray, List.set_cons_zero]
    refine wpAnyH_take (i := 1) (v := ?_) rfl (by kernel_rfl) (by kernel_rfl) (by kernel_rfl) (fun _ _ _ h => h) (Or.inl ⟨by rfl, ?_⟩) (by assumption) ?_
    rotate_left
    · intro w hSw; (try dsimp only at hSw); go_simp; try with_reducible rfl
    simp only [Act.put, List.getElem_toArray, List.getElem_cons_succ, List.getElem_cons_zero, List.setIfInBounds_toArray, List.set_cons_succ, List.set_cons_zero]
    refine wpAnyH_take (i := 2) (v := ?_) rfl (by kernel_rfl) (by kernel_rfl) (by kernel_rfl) (fun _ _ _ h => h) (Or.inl ⟨by rfl, ?_⟩) (by assumption) ?_
    rotate_left
    · intro w hSw; (try dsimp only at hSw); go_simp; try with_reducible rfl
    simp only [Act.put, List.getElem_toArray, List.getElem_cons_succ, List.getElem_cons_zero, List.setIfInBounds_toArray, List.set_cons_succ, List.set_cons_zero]
    refine wpAnyH_take (i := 3) (v := ?_) rfl (by kernel_rfl) (by kernel_rfl) (by kernel_rfl) (fun _ _ _ h => h) (Or.inl ⟨by rfl, ?_⟩) (by assumption) ?_
    rotate_left
    · intro w hSw; (try dsimp only at hSw); go_simp; try with_reducible rfl
    simp only [Act.put, List.getElem_toArray, List.getElem_cons_succ, List.getElem_cons_zero, List.setIfInBounds_toArray, List.set_cons_succ, List.set_cons_zero]
    refine wpAnyH_take (i := 4) (v := ?_) rfl (by kernel_rfl) (by kernel_rfl) (by kernel_rfl) (fun _ _ _ h => h) (Or.inl ⟨by rfl, ?_⟩) (by assumption) ?_
    rotate_left
    · intro w hSw; (try dsimp only at hSw); go_simp; try with_reducible rfl
    simp only [Act.put, List.getElem_toArray, List.getElem_cons_succ, List.getElem_cons_zero, List.setIfInBounds_toArray, List.set_cons_succ, List.set_cons_zero]
    refine wpAnyH_take (i := 5) (v := ?_) rfl (by kernel_rfl) (by kernel_rfl) (by kernel_rfl) (fun _ _ _ h => h) (Or.inl ⟨by rfl, ?_⟩) (by assumption) ?_
    rotate_left
    · intro w hSw; (try dsimp only at hSw); go_simp; try with_reducible rfl
    simp only [Act.put, List.getElem_toArray, List.getElem_cons_succ, List.getElem_cons_zero, List.setIfInBounds_toArray, List.set_cons_succ, List.set_cons_zero]
    refine wpAnyH_take (i := 6) (v := ?_) rfl (by kernel_rfl) (by kernel_rfl) (by kernel_rfl) (fun _ _ _ h => h) (Or.inl ⟨by rfl, ?_⟩) (by assumption) ?_
    rotate_left
    · intro w hSw; (try dsimp only at hSw); go_simp; try with_reducible rfl
    simp only [Act.put, List.getElem_toArray, List.getElem_cons_succ, List.getElem_cons_zero, List.setIfInBounds_toArray, List.set_cons_succ, List.set_cons_zero]
    refine wpAnyH_ready (rs := [7]) (by kernel_rfl) (by simp) ?_
    refine AllReadyH.cons rfl (fun K hK => ?_) AllReadyH.nil
    refine step_copyK rfl _ _ _ _ rfl 5 26 Try.underlying75 hsz w.heap.size (at' * 5) (l.length - 1 - at') (l.length - 1 - at') ⟨b, o + (at' + 1) * 5, none⟩ (l.length - (at' + 1)) (cap - (at' + 1)) (by first | rfl | (simp [Act.eval, Act.put])) (by first | rfl | (simp [Act.eval, Act.put])) _ _ HW2.out A2 N2.out S2b.out HF2.out O2.out ?_
    intro w3 HW3 hg3
    have hbel3 : Below w.heap.size w w3 := HBE.out.trans ⟨hg3.os, hg3.tape, hg3.output, hg3.size, fun k hk => hg3.block k (by have := HBE.out.size; show k < w2.heap.size; omega) (fun e => by have := Option.some.inj e; omega)⟩
    have hrow : RowV w3 w.heap.size (ts.take at' ++ ts.drop (at' + 1)) := RowV.heap HW3.out (fun i hi => by
      rw [List.getElem?_toArray]
      unfold splice
      rw [HX1.out.2, ← List.append_assoc, EA.out, List.getElem?_append_left (by rw [lkCells_length]; exact hi)])
    have HR := hide (And.intro hrow (show InV w3 B (ts.take at' ++ ts.drop (at' + 1)) from fun t ht => (HIN.out t (by
      rcases List.mem_append.1 ht with h | h
      · exact List.mem_of_mem_take h
      · exact List.mem_of_mem_drop h)).below hbel3 hB))
    have HB3 := hide hbel3
    clear hrow hbel3 HW3 hg3
    refine hK.out _ _ trivial (fun hHeld2 => ?_)
    clear hK K hHeld
    have hHeld := hHeld2
    clear hHeld2
    simp only [List.setIfInBounds_toArray, List.set_cons_succ, List.set_cons_zero]
    refine wpAnyH_done (by kernel_rfl) ?_ _
    clear hHeld
    go_wp2
    go_ret
    exact ⟨⟨rfl, _, by rw [List.map_append, List.map_take, List.map_drop, HTS.out], HR.out.1, HR.out.2⟩, HB3.out⟩
end Go.Proofs.Ytclnpfpaabmkcab
