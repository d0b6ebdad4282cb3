/-
  What the specification's GetReq does.
-/
import Derived.Test.YtanebchmeaomgaaGreatDoorSpecRead
import Derived.Test.YtanebchmeaomgaaGreatDoorSpecChunks
import Derived.Test.YtanebchmeaomgaaGreatDoorGetReq
import Derived.Deep.RegionHeld3
namespace Go.Proofs.YtanebchmeaomgaaGreatDoor
open Go.RowKit M
set_option linter.unusedVariables false

theorem heL_split {l : List UInt8} {k : Nat} (h : heL l = (k : Int)) : l.take (k - 2) = l.take (k - 4) ++ [13, 10] := by
  unfold heL at h
  rcases Lib.index_spec (l.take 400) two4 with ⟨h1, _⟩ | ⟨i, h1, h2, h3, h4⟩
  · rw [h1, if_neg (by decide)] at h; omega
  · rw [h1, if_pos (by omega)] at h
    have hr := occ_room h3
    rw [List.length_take] at hr
    rw [occ_at l i (by omega)] at h3
    have h5 := of_decide_eq_true h3
    have hk : k = i + 4 := by omega
    subst hk
    rw [show i + 4 - 2 = i + 2 by omega, show i + 4 - 4 = i by omega, List.take_add]
    congr 1
    have := congrArg (List.take 2) h5
    rw [List.take_take] at this
    exact this
theorem results_sget (tmps : Array Value) (N : Nat) (W : World) (v0 v1 v2 v3 : Value) (x y : Int) (h2 : tmps.getD 2 undef = .pointer (some ⟨N, 0, none⟩)) (h3 : tmps.getD 3 undef = .int .i64 x) (h4 : tmps.getD 4 undef = .int .i64 y) (hg : W.heap[N]? = some (Obj.cells #[v0, v1, v2, v3] 39)) :
    (results Tryz.f49 tmps).run Tryz.prog W = .ok (.tuple #[.agg #[v0, v1, v2, v3], .int .i64 x, .int .i64 y]) W := by
  have hl := run_loadVar_row (P := Tryz.prog) W N 39 39 #[v0, v1, v2, v3] (0, 0) _ hg Tryz.underlying39 rfl req_desc
  simp at h2 h3 h4
  simp [results, Tryz.results49, h2, h3, h4, asAddr, hl]
theorem FrS.made (w : World) : FrS w.heap.size w.heap.size w ⟨#[]⟩ ⟨#[]⟩ [] (.slice none 0 0) [] (w.alloc (Obj.cells #[.string ⟨#[]⟩, .string ⟨#[]⟩, .slice none 0 0, .string ⟨#[]⟩, .int .i64 0, .int .i64 0, .slice none 0 0] 120)) :=
  ⟨.slice none 0 0, .slice none 0 0, heap_alloc_new w _, World.ownsRow_nil _ _ _ _, World.ownsRow_nil _ _ _ _, World.ownsRow_nil _ _ _ _, .inl rfl, .inl rfl, .inl rfl, (Below.refl _ _).alloc (Nat.le_refl _) _, Nat.le_refl _⟩
theorem cells7 {W : World} {N : Nat} {v0 v1 v2 v3 v4 v5 v6 : Value} {t : TypeId} (h : W.heap[N]? = some (.cells #[v0, v1, v2, v3, v4, v5, v6] t)) : W.cell? ⟨N, 0, none⟩ = some v0 ∧ W.cell? ⟨N, 1, none⟩ = some v1 ∧ W.cell? ⟨N, 2, none⟩ = some v2 ∧ W.cell? ⟨N, 3, none⟩ = some v3 ∧ W.cell? ⟨N, 4, none⟩ = some v4 ∧ W.frozen? ⟨N, 3, none⟩ = false := by
  refine ⟨?_, ?_, ?_, ?_, ?_, ?_⟩
  all_goals first | (unfold World.cell?; rw [h]; rfl) | (unfold World.frozen?; rw [h]; rfl)
/-- What is read is what the program reads. -/
theorem readS_is {l : List UInt8} {k : Nat} (h : heL l = (k : Int)) : readS (l.take (k - 4)) = readI (l.take ((heL l).toNat - 2)) := by
  rw [h, Int.toNat_natCast, heL_split h, readI_eq]

set_option maxRecDepth 100000 in
set_option maxHeartbeats 4000000 in
theorem specGetReq_any (b o : Nat) (l : List UInt8) (cap : Nat) (w : World) (h : Byt w w.heap.size (some ⟨b, o, none⟩) l) (hl : l.length ≤ 4194304) (hlc : l.length ≤ cap) (hcm : cap ≤ maxLen) :
    Calls Tryz.prog 49 #[.slice (some ⟨b, o, none⟩) l.length cap] w fun e w' => GotIs w' w.heap.size (getR l) e ∧ Below w.heap.size w w' := by
  obtain ⟨w0, hw0⟩ : ∃ w0, w.alloc (Obj.cells #[.string ⟨#[]⟩, .string ⟨#[]⟩, .slice none 0 0, .string ⟨#[]⟩] 39) = w0 := ⟨_, rfl⟩
  have c0 : Below w.heap.size w w0 := by rw [← hw0]; exact (Below.refl _ _).alloc (Nat.le_refl _) _
  have z0 : ZeroB w.heap.size w0 := by rw [← hw0]; exact heap_alloc_new w _
  have C0 := hide c0
  have Z0 := hide z0
  have HH := hide h
  have HHe := hide (specHeadEnd_any (some ⟨b, o, none⟩) l cap w.heap.size w0 (h.below c0 (Nat.le_refl _)) hlc hcm)
  have hcm' := hcm
  unfold maxLen at hcm'
  have hbd := heL_bd l
  clear h c0 z0
  by_cases hneg : heL l < 0
  · have hG := getR_no hneg
    obtain ⟨z, hz⟩ : ∃ z, heL l = z := ⟨_, rfl⟩
    rw [hz] at HHe hneg
    clear hbd hz
    by_cases h4 : l.length ≤ 400
    · rw [if_pos h4] at hG
      have HG := hide hG
      have h4' : (l.length : Int) ≤ 400 := by omega
      clear hG
      go_enter Tryz.func49, Tryz.ntmps49
      go_wp2_with fail
      try rw [hw0]
      refine HHe.out.mono ?_
      rintro e w1 ⟨rfl, b1⟩
      have hZ1 := Z0.out.next (b1 _)
      have C1 := hide (C0.out.trans (b1 _))
      obtain ⟨q0, q1, q2, q3, f0, f1, f2, f3⟩ := hZ1.cells
      have HZ1 := hide hZ1
      clear hw0 HHe b1 hZ1
      go_wp2
      refine bodyPost_ret (results_sget _ w.heap.size _ _ _ _ _ _ _ rfl rfl rfl (set4_heap HZ1.out _ _ _ _)) rfl ?_
      rw [HG.out]
      exact ⟨GotIs.bad _ _ _, set4_below C1.out (Nat.le_refl _) _ _ _ _⟩
    · rw [if_neg h4] at hG
      have HG := hide hG
      have h4' : ¬ ((l.length : Int) ≤ 400) := by omega
      clear hG
      go_enter Tryz.func49, Tryz.ntmps49
      go_wp2_with fail
      try rw [hw0]
      refine HHe.out.mono ?_
      rintro e w1 ⟨rfl, b1⟩
      have hZ1 := Z0.out.next (b1 _)
      have C1 := hide (C0.out.trans (b1 _))
      obtain ⟨q0, q1, q2, q3, f0, f1, f2, f3⟩ := hZ1.cells
      have HZ1 := hide hZ1
      clear hw0 HHe b1 hZ1
      go_wp2
      refine bodyPost_ret (results_sget _ w.heap.size _ _ _ _ _ _ _ rfl rfl rfl (set4_heap HZ1.out _ _ _ _)) rfl ?_
      rw [HG.out]
      exact ⟨GotIs.bad _ _ _, set4_below C1.out (Nat.le_refl _) _ _ _ _⟩
  · obtain ⟨k, hk⟩ := Int.eq_ofNat_of_zero_le (by omega : 0 ≤ heL l)
    have hk' : heL l = (k : Int) := hk
    have hk4 : 4 ≤ k := by omega
    have hkl : k ≤ l.length := by omega
    have HK := hide hk'
    have HNg := hide hneg
    have hkn : ¬ ((k : Int) < 0) := by omega
    have hk400 : k ≤ 400 := by omega
    have HRS := hide (readS_is hk')
    rw [hk'] at HHe
    clear hbd hk hk' hneg
    obtain ⟨t, ht⟩ : ∃ t : ByteArray, (⟨(l.take (k - 4)).toArray⟩ : ByteArray) = t := ⟨_, rfl⟩
    have htd : t.data.toList = l.take (k - 4) := by rw [← ht]
    have hts : t.size ≤ 1048576 := by
      rw [← ht]
      show (l.take (k - 4)).toArray.size ≤ _
      rw [List.size_toArray, List.length_take]; omega
    clear hk400
    go_enter Tryz.func49, Tryz.ntmps49
    go_wp2_with fail
    try rw [hw0]
    refine HHe.out.mono ?_
    rintro e w1 ⟨rfl, b1⟩
    have hZ1 := Z0.out.next (b1 _)
    have C1 := hide (C0.out.trans (b1 _))
    have hlt1 : w.heap.size < w1.heap.size := (Array.getElem?_eq_some_iff.1 hZ1).1
    have HLt1 := hide hlt1
    have Z1 := hide hZ1
    clear hw0 HHe b1 hZ1
    obtain ⟨w2, hw2⟩ : ∃ w2, w1.alloc (Obj.cells #[.string ⟨#[]⟩, .string ⟨#[]⟩, .slice none 0 0, .string ⟨#[]⟩, .int .i64 0, .int .i64 0, .slice none 0 0] 120) = w2 := ⟨_, rfl⟩
    have hF2 := FrS.made w1
    rw [hw2] at hF2
    have hB2 : Below w.heap.size w w2 := by rw [← hw2]; exact C1.out.alloc C1.out.size _
    have hcv := conv_byt ((HH.out.below hB2 (Nat.le_refl _)).take (k - 4)) (k - 4) cap (by rw [List.length_take]; omega)
    rw [ht] at hcv
    have HRd := hide (l3Read_any w1.heap.size w1.heap.size w1 _ _ t w2 hF2 hts)
    rw [htd, HRS.out] at HRd
    have hk4' : ((k : Int) - 4).toNat = k - 4 := by omega
    clear ht htd hF2 hB2 hts
    go_wp2_with fail
    refine HRd.out.mono ?_
    rintro e w3 ⟨b3, he⟩
    clear HRd hcv hw2
    have hZ3 := Z1.out.next b3
    have C3 := hide (C1.out.trans (b3.mono C1.out.size))
    cases hrd : readI (l.take ((heL l).toNat - 2)) with
    | none =>
      rw [hrd] at he
      have he' : e = .returned (.int .i64 400) := he
      subst he'
      have HG : Hid (getR l = (zeroR, 0, 400)) := getR_form (by have := HNg.out; omega) hrd
      obtain ⟨q0, q1, q2, q3, f0, f1, f2, f3⟩ := hZ3.cells
      have HZ3 := hide hZ3
      clear hrd he hZ3 b3
      go_wp2
      refine bodyPost_ret (results_sget _ w.heap.size _ _ _ _ _ _ _ rfl rfl rfl (set4_heap HZ3.out _ _ _ _)) rfl ?_
      rw [HG.out]
      exact ⟨GotIs.bad _ _ _, set4_below C3.out (Nat.le_refl _) _ _ _ _⟩
    | some q =>
      obtain ⟨m, p, hs⟩ := q
      rw [hrd] at he
      obtain ⟨he1, he2⟩ : e = .returned (.int .i64 (frameC hs)) ∧ (frameC hs = 0 → ∃ t cs lv ls, FrR w1.heap.size w1.heap.size w1 m p (othOf hs) (sizeF hs) t cs lv ls w3) := he
      subst he1
      have HRd' := hide hrd
      clear hrd
      by_cases hf : frameC hs = 0
      · obtain ⟨tt, cs, lv, ls, hv, cv, g1, g2, _, _, _, _, _, _, _⟩ := he2 hf
        obtain ⟨ah, ch, hve, _⟩ := RowsH.hds g2
        subst hve
        have HF := hide hf
        have hsz : sizeF hs = if chkF hs then -1 else (lenF hs : Int) := size_is hs (by have := (frame_zero hf).1; unfold toldF; omega)
        have hln : lenF hs ≤ 10000000 := lenF_le hf
        obtain ⟨x0, x1, x2, x3, x4, y3⟩ := cells7 g1
        have G1 := hide g1
        have R2 := hide g2
        have Z3 := hide hZ3
        have hlt3 : w1.heap.size < w3.heap.size := (Array.getElem?_eq_some_iff.1 g1).1
        rw [hf]
        clear he2 hf g1 g2 b3
        cases hck : chkF hs
        · have hsz' : sizeF hs = (lenF hs : Int) := by rw [hsz, hck]; rfl
          have HBd : Hid (bodyL l k hs = if l.length < k + lenF hs then ([], 0, 1) else ((l.drop k).take (lenF hs), k + lenF hs, 0)) := hide (by unfold bodyL; rw [hck]; rfl)
          rw [hsz'] at x4 G1
          obtain ⟨n, hn⟩ : ∃ n, lenF hs = n := ⟨_, rfl⟩
          rw [hn] at x4 G1 HBd hln
          clear hsz hsz' hck hn
          by_cases hmore : l.length < k + n
          · have hmore' : ((l.length : Int) - k < n) := by omega
            have hbd : bodyL l (heL l).toNat hs = ([], 0, 1) := by rw [HK.out, Int.toNat_natCast, HBd.out, if_pos hmore]
            have HG : Hid (getR l = (zeroR, 0, 1)) := hide (by
              have := getR_body (by have := HNg.out; omega) HRd'.out HF.out (by rw [hbd]; decide)
              rw [hbd] at this
              exact this)
            obtain ⟨q0, q1, q2, q3, f0, f1, f2, f3⟩ := hZ3.cells
            clear hbd hZ3
            go_wp2
            refine bodyPost_ret (results_sget _ w.heap.size _ _ _ _ _ _ _ rfl rfl rfl (set4_heap Z3.out _ _ _ _)) rfl ?_
            rw [HG.out]
            exact ⟨GotIs.bad _ _ _, set4_below C3.out (Nat.le_refl _) _ _ _ _⟩
          · have hmore' : ¬ ((l.length : Int) - k < n) := by omega
            have hkn2 : k + n ≤ l.length := by omega
            obtain ⟨s, hs'⟩ : ∃ s, (l.drop k).take n = s := ⟨_, rfl⟩
            have hbd : bodyL l (heL l).toNat hs = (s, k + n, 0) := by rw [HK.out, Int.toNat_natCast, HBd.out, if_neg hmore, hs']
            have HG : Hid (getR l = (⟨m, p, othOf hs, bytesOf s⟩, k + n, 0)) := hide (by
              have := getR_good (by have := HNg.out; omega) HRd'.out HF.out (by rw [hbd])
              rw [hbd] at this
              exact this)
            by_cases hcp : cap = k
            · have hn0 : n = 0 := by omega
              have hs0 : s = [] := by rw [← hs', hn0, List.take_zero]
              have hcv : (convert 22 9 (.slice (some ⟨b, o, none⟩) n 0)).run Tryz.prog w3 = .ok (.string ⟨s.toArray⟩) w3 := by rw [hs0, hn0]; exact conv_byt (Byt.nil w3 w.heap.size (some ⟨b, o, none⟩)) 0 0 rfl
              clear hs0 hn0
              obtain ⟨w4, hw4⟩ : ∃ w4, w3.setCell ⟨w1.heap.size, 3, none⟩ (.string ⟨s.toArray⟩) = w4 := ⟨_, rfl⟩
              have g4 := set_heap G1.out 3 (.string ⟨s.toArray⟩)
              have z4 := set_other (k := 3) Z3.out (Nat.ne_of_lt HLt1.out) (.string ⟨s.toArray⟩)
              have r4 := ownsRow_setCell_below (a := ⟨w1.heap.size, 3, none⟩) R2.out (Nat.lt_succ_self _) (.string ⟨s.toArray⟩)
              have b4 := C3.out.setCell (p := ⟨w1.heap.size, 3, none⟩) (Nat.le_of_lt HLt1.out) (.string ⟨s.toArray⟩)
              rw [hw4] at g4 z4 r4 b4
              obtain ⟨u0, u1, u2, u3, u4, _⟩ := cells7 g4
              obtain ⟨q0, q1, q2, q3, f0, f1, f2, f3⟩ := ReqB.cells z4
              have Z4 := hide z4
              have R4 := hide r4
              have C4 := hide b4
              have hk2 : ((k : Int) + n).toNat = k + n := by omega
              have hwr : IntKind.i64.wrap ((k : Int) + n) = (k : Int) + n := by rw [IntKind.wrap_i64]; omega
              clear hbd hZ3 hs' z4 r4 b4 g4
              have hne1 : ¬ w1.heap.size = w.heap.size := by omega
              have hne2 : ¬ w.heap.size = w1.heap.size := by omega
              go_wp2
              go_region_held3 (fun W => W.cell? ⟨w1.heap.size, 0, none⟩ = some (.string m) ∧ W.cell? ⟨w1.heap.size, 1, none⟩ = some (.string p) ∧ W.cell? ⟨w1.heap.size, 2, none⟩ = some (.slice ah (othOf hs).length ch) ∧ W.cell? ⟨w1.heap.size, 3, none⟩ = some (.string ⟨s.toArray⟩) ∧ W.cell? ⟨w1.heap.size, 4, none⟩ = some (.int .i64 n)) (go_keep) (fail)
              go_wp2
              refine bodyPost_ret (results_sget _ w.heap.size _ _ _ _ _ _ _ rfl rfl rfl (show _ from set4_heap Z4.out _ _ _ _)) rfl ?_
              rw [HG.out]
              refine ⟨⟨_, rfl, ?_⟩, below_drew (set4_below C4.out (Nat.le_refl _) _ _ _ _)⟩
              refine RowsH.base (B := w1.heap.size + 1) ?_ (by omega)
              have hN0 : w.heap.size < w1.heap.size + 1 := by omega
              exact ownsRow_setCell_below (ownsRow_setCell_below (ownsRow_setCell_below (ownsRow_setCell_below R4.out (by show w.heap.size < _; exact hN0) _) (by show w.heap.size < _; exact hN0) _) (by show w.heap.size < _; exact hN0) _) (by show w.heap.size < _; exact hN0) _
            · have hcv := conv_byt (((HH.out.below C3.out (Nat.le_refl _)).drop k).take n) n (cap - k) (by rw [List.length_take, List.length_drop]; omega)
              rw [hs'] at hcv
              obtain ⟨w4, hw4⟩ : ∃ w4, w3.setCell ⟨w1.heap.size, 3, none⟩ (.string ⟨s.toArray⟩) = w4 := ⟨_, rfl⟩
              have g4 := set_heap G1.out 3 (.string ⟨s.toArray⟩)
              have z4 := set_other (k := 3) Z3.out (Nat.ne_of_lt HLt1.out) (.string ⟨s.toArray⟩)
              have r4 := ownsRow_setCell_below (a := ⟨w1.heap.size, 3, none⟩) R2.out (Nat.lt_succ_self _) (.string ⟨s.toArray⟩)
              have b4 := C3.out.setCell (p := ⟨w1.heap.size, 3, none⟩) (Nat.le_of_lt HLt1.out) (.string ⟨s.toArray⟩)
              rw [hw4] at g4 z4 r4 b4
              obtain ⟨u0, u1, u2, u3, u4, _⟩ := cells7 g4
              obtain ⟨q0, q1, q2, q3, f0, f1, f2, f3⟩ := ReqB.cells z4
              have Z4 := hide z4
              have R4 := hide r4
              have C4 := hide b4
              have hk2 : ((k : Int) + n).toNat = k + n := by omega
              have hwr : IntKind.i64.wrap ((k : Int) + n) = (k : Int) + n := by rw [IntKind.wrap_i64]; omega
              clear hbd hZ3 hs' z4 r4 b4 g4
              have hne1 : ¬ w1.heap.size = w.heap.size := by omega
              have hne2 : ¬ w.heap.size = w1.heap.size := by omega
              go_wp2
              go_region_held3 (fun W => W.cell? ⟨w1.heap.size, 0, none⟩ = some (.string m) ∧ W.cell? ⟨w1.heap.size, 1, none⟩ = some (.string p) ∧ W.cell? ⟨w1.heap.size, 2, none⟩ = some (.slice ah (othOf hs).length ch) ∧ W.cell? ⟨w1.heap.size, 3, none⟩ = some (.string ⟨s.toArray⟩) ∧ W.cell? ⟨w1.heap.size, 4, none⟩ = some (.int .i64 n)) (go_keep) (fail)
              go_wp2
              refine bodyPost_ret (results_sget _ w.heap.size _ _ _ _ _ _ _ rfl rfl rfl (show _ from set4_heap Z4.out _ _ _ _)) rfl ?_
              rw [HG.out]
              refine ⟨⟨_, rfl, ?_⟩, below_drew (set4_below C4.out (Nat.le_refl _) _ _ _ _)⟩
              refine RowsH.base (B := w1.heap.size + 1) ?_ (by omega)
              have hN0 : w.heap.size < w1.heap.size + 1 := by omega
              exact ownsRow_setCell_below (ownsRow_setCell_below (ownsRow_setCell_below (ownsRow_setCell_below R4.out (by show w.heap.size < _; exact hN0) _) (by show w.heap.size < _; exact hN0) _) (by show w.heap.size < _; exact hN0) _) (by show w.heap.size < _; exact hN0) _
        · have hsz' : sizeF hs = -1 := by rw [hsz, hck]; rfl
          rw [hsz'] at x4 G1
          have HCh := hide (specGetChunks_any (some ⟨b, o, none⟩) l cap w.heap.size (k : Int) w3 (HH.out.below C3.out (Nat.le_refl _)) (by omega) hlc hcm)
          have hbd0 : bodyL l (heL l).toNat hs = chunksC l k := by rw [HK.out, Int.toNat_natCast]; unfold bodyL; rw [hck]; rfl
          obtain ⟨s, x, y, hbd⟩ : ∃ s x y, chunksC l k = (s, x, y) := ⟨_, _, _, rfl⟩
          rw [hbd] at HCh hbd0
          have HBd := hide hbd0
          clear hsz hsz' hck hbd hbd0
          go_wp2_with fail
          refine HCh.out.mono ?_
          rintro e w4 ⟨rfl, b4⟩
          have g4 := ((b4 w3.heap.size).block _ hlt3).trans G1.out
          have z4 : ZeroB w.heap.size w4 := ZeroB.next (W := w3) Z3.out (b4 _)
          have r4 := ownsH_below R2.out (b4 _)
          have C4 := hide (C3.out.trans (b4 _))
          clear HCh b4 x0 x1 x2 x3 x4 y3 hZ3
          by_cases hy : y = 0
          · subst hy
            have HG : Hid (getR l = (⟨m, p, othOf hs, bytesOf s⟩, x, 0)) := hide (by
              have := getR_good (by have := HNg.out; omega) HRd'.out HF.out (by rw [HBd.out])
              rw [HBd.out] at this
              exact this)
            obtain ⟨w5, hw5⟩ : ∃ w5, w4.setCell ⟨w1.heap.size, 3, none⟩ (.string ⟨s.toArray⟩) = w5 := ⟨_, rfl⟩
            obtain ⟨x0, x1, x2, x3, x4, y3⟩ := cells7 g4
            have g5 := set_heap g4 3 (.string ⟨s.toArray⟩)
            have z5 := set_other (k := 3) z4 (Nat.ne_of_lt HLt1.out) (.string ⟨s.toArray⟩)
            have r5 := ownsRow_setCell_below (a := ⟨w1.heap.size, 3, none⟩) r4 (Nat.lt_succ_self _) (.string ⟨s.toArray⟩)
            have b5 := C4.out.setCell (p := ⟨w1.heap.size, 3, none⟩) (Nat.le_of_lt HLt1.out) (.string ⟨s.toArray⟩)
            rw [hw5] at g5 z5 r5 b5
            obtain ⟨u0, u1, u2, u3, u4, _⟩ := cells7 g5
            obtain ⟨q0, q1, q2, q3, f0, f1, f2, f3⟩ := ReqB.cells z5
            have Z5 := hide z5
            have R5 := hide r5
            have C5 := hide b5
            clear z5 r5 b5 g5 g4 z4 r4
            go_wp2
            refine bodyPost_ret (results_sget _ w.heap.size _ _ _ _ _ _ _ rfl rfl rfl (set4_heap Z5.out _ _ _ _)) rfl ?_
            rw [HG.out]
            refine ⟨⟨_, rfl, ?_⟩, set4_below C5.out (Nat.le_refl _) _ _ _ _⟩
            refine RowsH.base (B := w1.heap.size + 1) ?_ (by omega)
            have hN0 : w.heap.size < w1.heap.size + 1 := by omega
            exact ownsRow_setCell_below (ownsRow_setCell_below (ownsRow_setCell_below (ownsRow_setCell_below R5.out (by show w.heap.size < _; exact hN0) _) (by show w.heap.size < _; exact hN0) _) (by show w.heap.size < _; exact hN0) _) (by show w.heap.size < _; exact hN0) _
          · have HG : Hid (getR l = (zeroR, 0, y)) := hide (by
              have := getR_body (by have := HNg.out; omega) HRd'.out HF.out (by rw [HBd.out]; exact hy)
              rw [HBd.out] at this
              exact this)
            obtain ⟨q0, q1, q2, q3, f0, f1, f2, f3⟩ := z4.cells
            have Z4 := hide z4
            clear g4 z4 r4
            go_wp2
            refine bodyPost_ret (results_sget _ w.heap.size _ _ _ _ _ _ _ rfl rfl rfl (set4_heap Z4.out _ _ _ _)) rfl ?_
            rw [HG.out]
            exact ⟨GotIs.bad _ _ _, set4_below C4.out (Nat.le_refl _) _ _ _ _⟩
      · have HG : Hid (getR l = (zeroR, 0, frameC hs)) := hide (getR_frame (by have := HNg.out; omega) HRd'.out hf)
        obtain ⟨z, hz⟩ : ∃ z, frameC hs = z := ⟨_, rfl⟩
        rw [hz] at HG hf ⊢
        obtain ⟨q0, q1, q2, q3, f0, f1, f2, f3⟩ := hZ3.cells
        have Z3 := hide hZ3
        clear he2 hz hZ3 b3
        go_wp2
        refine bodyPost_ret (results_sget _ w.heap.size _ _ _ _ _ _ _ rfl rfl rfl (set4_heap Z3.out _ _ _ _)) rfl ?_
        rw [HG.out]
        exact ⟨GotIs.bad _ _ _, set4_below C3.out (Nat.le_refl _) _ _ _ _⟩
end Go.Proofs.YtanebchmeaomgaaGreatDoor
