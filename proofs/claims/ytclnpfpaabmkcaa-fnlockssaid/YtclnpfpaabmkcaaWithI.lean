/-
  What inOrder.with at locks does.
-/
import Derived.Test.YtclnpfpaabmkcaaWithoutOne
namespace Go.Proofs.Ytclnpfpaabmkcaa
open Go.RowKit M
set_option linter.unusedVariables false

set_option maxRecDepth 100000 in
set_option maxHeartbeats 4000000 in
theorem with_any (a : Option Addr) (l : List Lk) (cap B : Nat) (x : Lk) (xa : Option Addr) (xc : Nat) (w : World) (h : Lks w B a l) (hx : LkIn w B x xa xc) (hB : B ≤ w.heap.size) (hl : l.length ≤ 1048576) :
    Calls Try.prog 17 #[.slice a l.length cap, .agg #[.int .i64 x.tk, .slice xa x.pa.length xc, .bool x.de, .bool x.sh, .int .i64 x.un]] w fun e w' => (∃ g : Nat, e = .returned (.slice (some ⟨g, 0, none⟩) (l.length + 1) (l.length + 1)) ∧ w.heap.size ≤ g ∧ ∃ ts : List LkT, ts.map (·.r) = l ++ [x] ∧ RowV w' g ts ∧ InV w' B ts) ∧ Below w.heap.size w w' := by
  obtain ⟨ts, hts, hin, hat0⟩ := h.ts
  have hl2 : ts.length = l.length := by rw [← hts, List.length_map]
  have hb1 := (Below.refl w.heap.size w).alloc (Nat.le_refl _) (Obj.cells #[.int .i64 x.tk, .slice xa x.pa.length xc, .bool x.de, .bool x.sh, .int .i64 x.un] 27)
  have hX := BoxV.made w [.int .i64 x.tk, .slice xa x.pa.length xc, .bool x.de, .bool x.sh, .int .i64 x.un] 27
  obtain ⟨wb, hwb⟩ : ∃ W, w.alloc (Obj.cells #[.int .i64 x.tk, .slice xa x.pa.length xc, .bool x.de, .bool x.sh, .int .i64 x.un] 27) = W := ⟨_, rfl⟩
  have hzb : wb.heap.size = w.heap.size + 1 := by rw [← hwb]; simp
  have hmk := makeOrder_run (l.length + 1) (by omega) wb
  have hmk2 : (Instr.makeSlice 43 (.int .i64 ((l.length : Int) + 1)) (.int .i64 ((l.length : Int) + 1))).run Try.prog (w.alloc (Obj.cells #[.int .i64 x.tk, .slice xa x.pa.length xc, .bool x.de, .bool x.sh, .int .i64 x.un] 27)) = .ok (.slice (some ⟨w.heap.size + 1, 0, none⟩) (l.length + 1) (l.length + 1)) (wb.alloc (.cells (madeCells #[.int .i64 0, .slice none 0 0, .bool false, .bool false, .int .i64 0] ((l.length + 1) * 5)) 27)) := by
    rw [hwb, ← hzb]
    exact hmk
  have hsz : (Try.prog.info? 27).map (·.size) = some 5 := by kernel_rfl
  obtain ⟨Z, hZ⟩ : ∃ Z, Z = madeCells #[.int .i64 0, .slice none 0 0, .bool false, .bool false, .int .i64 0] ((l.length + 1) * 5) := ⟨_, rfl⟩
  have hmd : Z.size = (l.length + 1) * 5 := by rw [hZ]; exact size_madeCells _ _
  rw [← hZ] at hmk2
  have hg := heap_alloc_new wb (.cells Z 27)
  have hb2 := (Below.refl wb.heap.size wb).alloc (Nat.le_refl _) (.cells Z 27)
  rw [hwb] at hb1 hX
  have hX1 := hX.next hb2
  have hb0 := hb1.trans (hb2.mono hb1.size)
  obtain ⟨w0, hw0⟩ : ∃ W, wb.alloc (.cells Z 27) = W := ⟨_, rfl⟩
  have hz0 : w0.heap.size = w.heap.size + 2 := by rw [← hw0]; simp; omega
  rw [hw0] at hmk2 hg hX1 hb0
  rw [hzb] at hg
  obtain ⟨CS, hCS⟩ : ∃ CS, CS = lkCells ts := ⟨_, rfl⟩
  have hlen : CS.length = l.length * 5 := by rw [hCS, lkCells_length, hl2]
  have HCS := hide hCS
  have HLEN := hide hlen
  have HMD := hide hmd
  have HG := hide hg
  have HX0 := hide hX1.drew
  have HB := hide hb0
  have HZ0 := hide hz0
  have HTS := hide hts
  have HIN := hide hin
  have HL := hide hl2
  have HXI := hide hx
  have HAT := hide hat0
  have HONE := hide (fun v (hv : v ∈ CS) => lkCells_one ts v (by rw [← hCS]; exact hv))
  have HH := hide h
  clear hts hin hat0 hb1 hX hmk hZ hmd hg hb2 hX1 hb0 hw0 hz0 hCS hlen hx h hwb hzb
  have hi0 : (0 : Int) ≤ (l.length : Int) := by omega
  have hi1 : (l.length : Int) < ((l.length + 1 : Nat) : Int) := by omega
  have hi2 : (l.length : Int) < (l.length : Int) + 1 := by omega
  by_cases h0 : 0 < l.length
  · obtain ⟨b, o, rfl, hbB, hcl⟩ := HAT.out h0
    have hsrc := lks_src hcl
    have S1 := hide (show ∀ i v, CS[i]? = some v → w0.drew.cell? ((⟨b, o, none⟩ : Addr).add i) = some v from fun i v hv => by
      rw [HCS.out] at hv
      have := hsrc i v hv
      rw [add_pick] at this ⊢
      exact (HB.out.cell (p := ⟨b, o + i, none⟩) (by show b < w.heap.size; omega)).trans this)
    have hmn : Nat.min l.length (l.length + 1) = l.length := Nat.min_eq_left (by omega)
    have N1 := hide (show CS.length = Nat.min l.length (l.length + 1) * 5 by rw [hmn]; exact HLEN.out)
    have F1 := hide (show 0 + CS.length ≤ Z.size by rw [HLEN.out, HMD.out]; omega)
    have hGd : w0.drew.heap[w.heap.size + 1]? = some (.cells Z 27 (0, 0)) := HG.out
    have HGD := hide hGd
    clear hsrc hcl hGd
    go_enter Try.func17, Try.ntmps17
    go_wp2
    clear hmk2
    refine wp_region_held_drew (S := (fun W => BoxV W w.heap.size [.int .i64 x.tk, .slice xa x.pa.length xc, .bool x.de, .bool x.sh, .int .i64 x.un])) (by kernel_rfl) HX0.out (fun hHeld => ?_)
    simp only [List.size_toArray, List.length_cons, List.length_nil, Nat.reduceAdd, Array.replicate_succ, Array.replicate_zero, List.push_toArray, List.nil_append, List.cons_append]
    refine wpAnyH_take (i := 0) (v := ?_) rfl (by kernel_rfl) (by kernel_rfl) (by kernel_rfl) (fun _ _ _ h => h) (Or.inl ⟨by rfl, ?_⟩) (by assumption) ?_
    rotate_left
    · intro w hSw; (try dsimp only at hSw); obtain ⟨_, hq⟩ := hSw; have a0 := (hq 0 _ rfl).1; have a1 := (hq 1 _ rfl).1; have a2 := (hq 2 _ rfl).1; have a3 := (hq 3 _ rfl).1; have a4 := (hq 4 _ rfl).1; go_simp; try with_reducible rfl
    simp only [Act.put, List.getElem_toArray, List.getElem_cons_zero, List.setIfInBounds_toArray, List.set_cons_zero]
    refine wpAnyH_take (i := 1) (v := ?_) rfl (by kernel_rfl) (by kernel_rfl) (by kernel_rfl) (fun _ _ _ h => h) (Or.inl ⟨by rfl, ?_⟩) (by assumption) ?_
    rotate_left
    · intro w hSw; (try dsimp only at hSw); obtain ⟨_, hq⟩ := hSw; have a0 := (hq 0 _ rfl).1; have a1 := (hq 1 _ rfl).1; have a2 := (hq 2 _ rfl).1; have a3 := (hq 3 _ rfl).1; have a4 := (hq 4 _ rfl).1; go_simp; try with_reducible rfl
    simp only [Act.put, List.getElem_toArray, List.getElem_cons_succ, List.getElem_cons_zero, List.setIfInBounds_toArray, List.set_cons_succ, List.set_cons_zero]
    refine wpAnyH_take (i := 2) (v := ?_) rfl (by kernel_rfl) (by kernel_rfl) (by kernel_rfl) (fun _ _ _ h => h) (Or.inl ⟨by rfl, ?_⟩) (by assumption) ?_
    rotate_left
    · intro w hSw; (try dsimp only at hSw); obtain ⟨_, hq⟩ := hSw; have a0 := (hq 0 _ rfl).1; have a1 := (hq 1 _ rfl).1; have a2 := (hq 2 _ rfl).1; have a3 := (hq 3 _ rfl).1; have a4 := (hq 4 _ rfl).1; go_simp; try with_reducible rfl
    simp only [Act.put, List.getElem_toArray, List.getElem_cons_succ, List.getElem_cons_zero, List.setIfInBounds_toArray, List.set_cons_succ, List.set_cons_zero]
    refine wpAnyH_take (i := 4) (v := ?_) rfl (by kernel_rfl) (by kernel_rfl) (by kernel_rfl) (fun _ _ _ h => h) (Or.inl ⟨by rfl, ?_⟩) (by assumption) ?_
    rotate_left
    · intro w hSw; (try dsimp only at hSw); obtain ⟨_, hq⟩ := hSw; have a0 := (hq 0 _ rfl).1; have a1 := (hq 1 _ rfl).1; have a2 := (hq 2 _ rfl).1; have a3 := (hq 3 _ rfl).1; have a4 := (hq 4 _ rfl).1; go_simp; try with_reducible rfl
    simp only [Act.put, List.getElem_toArray, List.getElem_cons_succ, List.getElem_cons_zero, List.setIfInBounds_toArray, List.set_cons_succ, List.set_cons_zero]
    refine wpAnyH_ready (rs := [3]) (by kernel_rfl) (by simp) ?_
    refine AllReadyH.cons rfl (fun K hK => ?_) AllReadyH.nil
    refine step_copyK rfl _ _ _ _ rfl 5 27 Try.underlying43 hsz (w.heap.size + 1) 0 (l.length + 1) (l.length + 1) ⟨b, o, none⟩ l.length cap (by first | rfl | (simp [Act.eval, Act.put])) (by first | rfl | (simp [Act.eval, Act.put])) _ _ HGD.out CS N1.out S1.out F1.out HONE.out ?_
    intro w2 HW hg2
    rw [hmn]
    have hX2 : BoxV w2 w.heap.size [.int .i64 x.tk, .slice xa x.pa.length xc, .bool x.de, .bool x.sh, .int .i64 x.un] := by
      have e : w2.heap[w.heap.size]? = w0.drew.heap[w.heap.size]? := hg2.block _ (by show w.heap.size < w0.heap.size; have := HZ0.out; omega) (fun e => by have := Option.some.inj e; omega)
      exact ⟨by have := hg2.size; have : w0.heap.size ≤ w2.heap.size := this; have := HZ0.out; omega, fun i v hv => by
        have := HX0.out.2 i v hv
        simp only [World.cell?, World.frozen?, e] at this ⊢
        exact this⟩
    have hbel : Below w.heap.size w w2 := HB.out.trans ⟨hg2.os, hg2.tape, hg2.output, hg2.size, fun k hk => hg2.block k (by show k < w0.heap.size; have := HZ0.out; omega) (fun e => by have := Option.some.inj e; omega)⟩
    have hcell : ∀ q, w2.cell? ⟨w.heap.size + 1, q, none⟩ = (splice Z.toList 0 CS)[q]? := fun q => by
      have := HW.out
      simp [World.cell?, this]
    have hfz : ∀ q, w2.frozen? ⟨w.heap.size + 1, q, none⟩ = false := fun q => by
      have := HW.out
      simp only [World.frozen?, this, Bool.and_eq_false_iff, decide_eq_false_iff_not]
      right; omega
    have hsl : (splice Z.toList 0 CS).length = (l.length + 1) * 5 := by rw [length_splice _ _ _ (by rw [Array.length_toList]; exact F1.out), Array.length_toList, HMD.out]
    have hex : ∀ q, q < (l.length + 1) * 5 → ∃ v, w2.cell? ⟨w.heap.size + 1, q, none⟩ = some v := fun q hq => by rw [hcell]; exact ⟨_, List.getElem?_eq_getElem (by omega)⟩
    obtain ⟨z0, c0⟩ := hex (l.length * 5) (by omega)
    obtain ⟨z1, c1⟩ := hex (l.length * 5 + 1) (by omega)
    obtain ⟨z2, c2⟩ := hex (l.length * 5 + 2) (by omega)
    obtain ⟨z3, c3⟩ := hex (l.length * 5 + 3) (by omega)
    obtain ⟨z4, c4⟩ := hex (l.length * 5 + 4) (by omega)
    have f0 := hfz (l.length * 5)
    have f1 := hfz (l.length * 5 + 1)
    have f2 := hfz (l.length * 5 + 2)
    have f3 := hfz (l.length * 5 + 3)
    have f4 := hfz (l.length * 5 + 4)
    have HROW := hide (show RowV (setAll w2 (w.heap.size + 1) (l.length * 5) [.int .i64 x.tk, .slice xa x.pa.length xc, .bool x.de, .bool x.sh, .int .i64 x.un]) (w.heap.size + 1) (ts ++ [⟨x, xa, xc⟩]) from by
      have hlt : w.heap.size + 1 < w2.heap.size := World.block_lt_of_cell? w2 _ c0
      refine ⟨by rw [setAll_size]; exact hlt, fun j hj => ?_, fun i => by rw [setAll_frozen]; exact hfz i⟩
      have hjj : j < ts.length + 1 := by simpa using hj
      have hex5 : ∀ i, i < ([.int .i64 x.tk, .slice xa x.pa.length xc, .bool x.de, .bool x.sh, .int .i64 x.un] : List Value).length → ∃ u, w2.cell? ⟨w.heap.size + 1, l.length * 5 + i, none⟩ = some u := fun i hi => hex _ (by simp at hi; omega)
      by_cases e : j < ts.length
      · rw [List.getElem_append_left e]
        have h5 : ∀ i, i < 5 → (setAll w2 (w.heap.size + 1) (l.length * 5) [.int .i64 x.tk, .slice xa x.pa.length xc, .bool x.de, .bool x.sh, .int .i64 x.un]).cell? ⟨w.heap.size + 1, j * 5 + i, none⟩ = (lkC1 ts[j])[i]? := fun i hi => by
          have hjl : j < l.length := by have := HL.out; omega
          rw [setAll_other _ _ _ _ _ _ (.inr (.inl (by omega))), hcell]
          unfold splice
          rw [List.take_zero, List.nil_append, List.getElem?_append_left (by rw [HLEN.out]; omega), HCS.out, lkCells_at ts j e i hi]
        exact ⟨h5 0 (by omega), h5 1 (by omega), h5 2 (by omega), h5 3 (by omega), h5 4 (by omega)⟩
      · have ej : j = ts.length := by omega
        subst ej
        rw [List.getElem_append_right (Nat.le_refl _)]
        simp only [Nat.sub_self, List.getElem_cons_zero, HL.out]
        exact ⟨setAll_at _ _ _ _ 0 _ rfl hex5, setAll_at _ _ _ _ 1 _ rfl hex5, setAll_at _ _ _ _ 2 _ rfl hex5, setAll_at _ _ _ _ 3 _ rfl hex5, setAll_at _ _ _ _ 4 _ rfl hex5⟩)
    have HBEL := hide hbel
    have HX2 := hide hX2
    clear hbel hcell hfz hsl hex HW hg2 hX2
    refine hK.out _ _ HX2.out (fun hHeld2 => ?_)
    clear hK K hHeld
    have hHeld := hHeld2
    clear hHeld2
    simp only [List.setIfInBounds_toArray, List.set_cons_succ, List.set_cons_zero]
    refine wpAnyH_take (i := 5) (v := ?_) rfl (by kernel_rfl) (by kernel_rfl) (by kernel_rfl) (fun _ _ _ h => h) (Or.inl ⟨by rfl, ?_⟩) (by assumption) ?_
    rotate_left
    · intro w hSw; (try dsimp only at hSw); obtain ⟨_, hq⟩ := hSw; have a0 := (hq 0 _ rfl).1; have a1 := (hq 1 _ rfl).1; have a2 := (hq 2 _ rfl).1; have a3 := (hq 3 _ rfl).1; have a4 := (hq 4 _ rfl).1; go_simp; try with_reducible rfl
    simp only [Act.put, List.getElem_toArray, List.getElem_cons_succ, List.getElem_cons_zero, List.setIfInBounds_toArray, List.set_cons_succ, List.set_cons_zero]
    refine wpAnyH_ready (rs := [6]) (by kernel_rfl) (by simp) ?_
    refine AllReadyH.cons rfl (fun K hK => ?_) AllReadyH.nil
    go_simp
    refine hK.out _ _ (BoxV.setAll (us := [.int .i64 x.tk, .slice xa x.pa.length xc, .bool x.de, .bool x.sh, .int .i64 x.un]) (g := w.heap.size + 1) (o := l.length * 5) HX2.out (by omega)) (fun hHeld2 => ?_)
    have HR := hide (And.intro (show (ts ++ [(⟨x, xa, xc⟩ : LkT)]).map (·.r) = l ++ [x] by rw [List.map_append, HTS.out]; rfl) (And.intro HROW.out (show InV (setAll w2 (w.heap.size + 1) (l.length * 5) [.int .i64 x.tk, .slice xa x.pa.length xc, .bool x.de, .bool x.sh, .int .i64 x.un]) B (ts ++ [(⟨x, xa, xc⟩ : LkT)]) from fun t ht => by
      have hbb := setAll_below (g := w.heap.size + 1) (o := l.length * 5) [.int .i64 x.tk, .slice xa x.pa.length xc, .bool x.de, .bool x.sh, .int .i64 x.un] HBEL.out (by omega)
      rcases List.mem_append.1 ht with h | h
      · exact (HIN.out t h).below hbb hB
      · obtain rfl := List.mem_singleton.1 h; exact HXI.out.below hbb hB)))
    have HB3 := hide (setAll_below (g := w.heap.size + 1) (o := l.length * 5) [.int .i64 x.tk, .slice xa x.pa.length xc, .bool x.de, .bool x.sh, .int .i64 x.un] HBEL.out (by omega))
    clear hK K hHeld
    have hHeld := hHeld2
    clear hHeld2
    simp only [List.setIfInBounds_toArray, List.set_cons_succ, List.set_cons_zero]
    refine wpAnyH_done (by kernel_rfl) ?_ _
    clear hHeld
    go_wp2
    go_ret
    exact ⟨⟨_, rfl, by omega, _, HR.out.1, HR.out.2.1, HR.out.2.2⟩, HB3.out⟩
  · have hnil : l = [] := List.eq_nil_of_length_eq_zero (by omega)
    have ht0 : ts = [] := List.eq_nil_of_length_eq_zero (by have := HL.out; omega)
    have hmz : Nat.min l.length (l.length + 1) = 0 := by rw [hnil]; rfl
    have HMZ := hide hmz
    have hi3 : (0 : Int) < ((l.length + 1 : Nat) : Int) := by omega
    have hi4 : (0 : Int) < (l.length : Int) + 1 := by omega
    have hcell : ∀ q, w0.drew.cell? ⟨w.heap.size + 1, q, none⟩ = Z[q]? := fun q => by
      have := HG.out
      show w0.cell? _ = _
      simp [World.cell?, this]
    have hfz : ∀ q, w0.drew.frozen? ⟨w.heap.size + 1, q, none⟩ = false := fun q => by
      have := HG.out
      show w0.frozen? _ = _
      simp only [World.frozen?, this, Bool.and_eq_false_iff, decide_eq_false_iff_not]
      right; omega
    have hex : ∀ q, q < (l.length + 1) * 5 → ∃ v, w0.drew.cell? ⟨w.heap.size + 1, q, none⟩ = some v := fun q hq => by rw [hcell]; exact ⟨_, Array.getElem?_eq_getElem (by rw [HMD.out]; exact hq)⟩
    obtain ⟨z0, c0⟩ := hex 0 (by omega)
    obtain ⟨z1, c1⟩ := hex 1 (by omega)
    obtain ⟨z2, c2⟩ := hex 2 (by omega)
    obtain ⟨z3, c3⟩ := hex 3 (by omega)
    obtain ⟨z4, c4⟩ := hex 4 (by omega)
    have f0 := hfz 0
    have f1 := hfz 1
    have f2 := hfz 2
    have f3 := hfz 3
    have f4 := hfz 4
    have HROW := hide (show RowV (setAll w0.drew (w.heap.size + 1) 0 [.int .i64 x.tk, .slice xa x.pa.length xc, .bool x.de, .bool x.sh, .int .i64 x.un]) (w.heap.size + 1) (ts ++ [⟨x, xa, xc⟩]) from by
      have hlt : w.heap.size + 1 < w0.drew.heap.size := World.block_lt_of_cell? w0.drew _ c0
      refine ⟨by rw [setAll_size]; exact hlt, fun j hj => ?_, fun i => by rw [setAll_frozen]; exact hfz i⟩
      rw [ht0] at hj
      have ej : j = 0 := by simp at hj; exact hj
      subst ej
      simp only [ht0, List.nil_append, List.getElem_cons_zero]
      have hex5 : ∀ i, i < ([.int .i64 x.tk, .slice xa x.pa.length xc, .bool x.de, .bool x.sh, .int .i64 x.un] : List Value).length → ∃ u, w0.drew.cell? ⟨w.heap.size + 1, 0 + i, none⟩ = some u := fun i hi => hex _ (by simp at hi; omega)
      exact ⟨setAll_at _ _ _ _ 0 _ rfl hex5, setAll_at _ _ _ _ 1 _ rfl hex5, setAll_at _ _ _ _ 2 _ rfl hex5, setAll_at _ _ _ _ 3 _ rfl hex5, setAll_at _ _ _ _ 4 _ rfl hex5⟩)
    have HL0 := hide (show l.length = 0 by omega)
    obtain ⟨wd, hwd⟩ : ∃ W, w0.drew = W := ⟨_, rfl⟩
    have HXD := HX0
    have HBD := hide (below_drewL HB.out)
    rw [hwd] at c0 c1 c2 c3 c4 f0 f1 f2 f3 f4 HROW HXD HBD
    clear hmz hcell hfz hex hnil h0
    go_enter Try.func17, Try.ntmps17
    go_wp2
    clear hmk2
    refine wp_region_held_drew (S := (fun W => BoxV W w.heap.size [.int .i64 x.tk, .slice xa x.pa.length xc, .bool x.de, .bool x.sh, .int .i64 x.un])) (by kernel_rfl) HX0.out (fun hHeld => ?_)
    rw [hwd] at hHeld
    rw [hwd]
    clear hwd
    simp only [List.size_toArray, List.length_cons, List.length_nil, Nat.reduceAdd, Array.replicate_succ, Array.replicate_zero, List.push_toArray, List.nil_append, List.cons_append]
    refine wpAnyH_take (i := 0) (v := ?_) rfl (by kernel_rfl) (by kernel_rfl) (by kernel_rfl) (fun _ _ _ h => h) (Or.inl ⟨by rfl, ?_⟩) (by assumption) ?_
    rotate_left
    · intro w hSw; (try dsimp only at hSw); obtain ⟨_, hq⟩ := hSw; have a0 := (hq 0 _ rfl).1; have a1 := (hq 1 _ rfl).1; have a2 := (hq 2 _ rfl).1; have a3 := (hq 3 _ rfl).1; have a4 := (hq 4 _ rfl).1; go_simp; try with_reducible rfl
    simp only [Act.put, List.getElem_toArray, List.getElem_cons_zero, List.setIfInBounds_toArray, List.set_cons_zero]
    refine wpAnyH_take (i := 1) (v := ?_) rfl (by kernel_rfl) (by kernel_rfl) (by kernel_rfl) (fun _ _ _ h => h) (Or.inl ⟨by rfl, ?_⟩) (by assumption) ?_
    rotate_left
    · intro w hSw; (try dsimp only at hSw); obtain ⟨_, hq⟩ := hSw; have a0 := (hq 0 _ rfl).1; have a1 := (hq 1 _ rfl).1; have a2 := (hq 2 _ rfl).1; have a3 := (hq 3 _ rfl).1; have a4 := (hq 4 _ rfl).1; go_simp; try with_reducible rfl
    simp only [Act.put, List.getElem_toArray, List.getElem_cons_succ, List.getElem_cons_zero, List.setIfInBounds_toArray, List.set_cons_succ, List.set_cons_zero]
    refine wpAnyH_take (i := 2) (v := ?_) rfl (by kernel_rfl) (by kernel_rfl) (by kernel_rfl) (fun _ _ _ h => h) (Or.inl ⟨by rfl, ?_⟩) (by assumption) ?_
    rotate_left
    · intro w hSw; (try dsimp only at hSw); obtain ⟨_, hq⟩ := hSw; have a0 := (hq 0 _ rfl).1; have a1 := (hq 1 _ rfl).1; have a2 := (hq 2 _ rfl).1; have a3 := (hq 3 _ rfl).1; have a4 := (hq 4 _ rfl).1; go_simp; try with_reducible rfl
    simp only [Act.put, List.getElem_toArray, List.getElem_cons_succ, List.getElem_cons_zero, List.setIfInBounds_toArray, List.set_cons_succ, List.set_cons_zero]
    refine wpAnyH_take (i := 4) (v := ?_) rfl (by kernel_rfl) (by kernel_rfl) (by kernel_rfl) (fun _ _ _ h => h) (Or.inl ⟨by rfl, ?_⟩) (by assumption) ?_
    rotate_left
    · intro w hSw; (try dsimp only at hSw); obtain ⟨_, hq⟩ := hSw; have a0 := (hq 0 _ rfl).1; have a1 := (hq 1 _ rfl).1; have a2 := (hq 2 _ rfl).1; have a3 := (hq 3 _ rfl).1; have a4 := (hq 4 _ rfl).1; go_simp; try with_reducible rfl
    simp only [Act.put, List.getElem_toArray, List.getElem_cons_succ, List.getElem_cons_zero, List.setIfInBounds_toArray, List.set_cons_succ, List.set_cons_zero]
    refine wpAnyH_ready (rs := [3]) (by kernel_rfl) (by simp) ?_
    refine AllReadyH.cons rfl (fun K hK => ?_) AllReadyH.nil
    refine step_copy_nothingK rfl _ _ _ _ rfl 5 27 Try.underlying43 hsz _ _ _ _ _ _ (by first | rfl | (simp [Act.eval, Act.put])) (by first | rfl | (simp [Act.eval, Act.put])) HMZ.out ?_
    refine hK.out _ _ HXD.out (fun hHeld2 => ?_)
    clear hK K hHeld
    have hHeld := hHeld2
    clear hHeld2
    simp only [List.setIfInBounds_toArray, List.set_cons_succ, List.set_cons_zero]
    refine wpAnyH_take (i := 5) (v := ?_) rfl (by kernel_rfl) (by kernel_rfl) (by kernel_rfl) (fun _ _ _ h => h) (Or.inl ⟨by rfl, ?_⟩) (by assumption) ?_
    rotate_left
    · intro w hSw; (try dsimp only at hSw); obtain ⟨_, hq⟩ := hSw; have a0 := (hq 0 _ rfl).1; have a1 := (hq 1 _ rfl).1; have a2 := (hq 2 _ rfl).1; have a3 := (hq 3 _ rfl).1; have a4 := (hq 4 _ rfl).1; go_simp; try with_reducible rfl
    simp only [Act.put, List.getElem_toArray, List.getElem_cons_succ, List.getElem_cons_zero, List.setIfInBounds_toArray, List.set_cons_succ, List.set_cons_zero]
    refine wpAnyH_ready (rs := [6]) (by kernel_rfl) (by simp) ?_
    refine AllReadyH.cons rfl (fun K hK => ?_) AllReadyH.nil
    go_simp
    refine hK.out _ _ (BoxV.setAll (us := [.int .i64 x.tk, .slice xa x.pa.length xc, .bool x.de, .bool x.sh, .int .i64 x.un]) (g := w.heap.size + 1) (o := 0) HXD.out (by omega)) (fun hHeld2 => ?_)
    have HR := hide (And.intro (show (ts ++ [(⟨x, xa, xc⟩ : LkT)]).map (·.r) = l ++ [x] by rw [List.map_append, HTS.out]; rfl) (And.intro HROW.out (show InV (setAll wd (w.heap.size + 1) 0 [.int .i64 x.tk, .slice xa x.pa.length xc, .bool x.de, .bool x.sh, .int .i64 x.un]) B (ts ++ [(⟨x, xa, xc⟩ : LkT)]) from fun t ht => by
      have hbb := setAll_below (g := w.heap.size + 1) (o := 0) [.int .i64 x.tk, .slice xa x.pa.length xc, .bool x.de, .bool x.sh, .int .i64 x.un] HBD.out (by omega)
      rcases List.mem_append.1 ht with h | h
      · exact (HIN.out t h).below hbb hB
      · obtain rfl := List.mem_singleton.1 h; exact HXI.out.below hbb hB)))
    have HB3 := hide (setAll_below (g := w.heap.size + 1) (o := 0) [.int .i64 x.tk, .slice xa x.pa.length xc, .bool x.de, .bool x.sh, .int .i64 x.un] HBD.out (by omega))
    clear hK K hHeld
    have hHeld := hHeld2
    clear hHeld2
    simp only [List.setIfInBounds_toArray, List.set_cons_succ, List.set_cons_zero]
    refine wpAnyH_done (by kernel_rfl) ?_ _
    clear hHeld
    go_wp2
    go_ret
    exact ⟨⟨_, rfl, by omega, _, HR.out.1, HR.out.2.1, HR.out.2.2⟩, HB3.out⟩
end Go.Proofs.Ytclnpfpaabmkcaa
