/-
  What the specification's l7Mark does at a mark that opens and names a space.
-/
import Derived.Test.YtccehdlgpbeijaaGreatDoorSpecMark2
namespace Go.Proofs.YtccehdlgpbeijaaGreatDoor
open Go.RowKit M
set_option linter.unusedVariables false

set_option maxRecDepth 100000 in
set_option maxHeartbeats 2000000 in
theorem l7Mark_space (s : ByteArray) (a : Nat) (w : World) (ha : a < s.size) (hs : s.size ≤ 1099511627776) (hp2 : [60, 47].isPrefixOf (s.data.toList.drop a) = false) (hp : [60].isPrefixOf (s.data.toList.drop a) = true) (hsm : smB (nmL (s.data.toList.drop (a + 1))) = true) (hsp : spcS.isPrefixOf (nmR (s.data.toList.drop (a + 1))) = true) :
    Calls Tryz.prog 54 #[.string s, .int .i64 a] w fun e w' => MarkAt s a e ∧ Below w.heap.size w w' := by
  have el : s.data.toList.length = s.size := Array.length_toList
  have h2 : a + 1 ≤ s.size := by omega
  have em : markL (s.data.toList.drop a) = openL (s.data.toList.drop (a + 1)) := by unfold markL; rw [if_neg (by simp [hp2]), if_pos hp, List.drop_drop]
  have H1 := hide (fun W : World => l7At_any s ⟨#[60, 47]⟩ [60, 47] rfl a W (by omega) hs (by decide))
  rw [hp2] at H1
  have HN := hide (fun W : World => l7Name_any s (a + 1) W h2 hs)
  have hZ := nm_size s (a + 1) h2
  have hT := nm_take s (a + 1)
  have hD := nm_drop s (a + 1)
  have HA := hide (fun (W : World) h => l7At_any s ⟨#[32, 120, 109, 108, 110, 115, 61, 34]⟩ spcS rfl (a + 1 + (nmL (s.data.toList.drop (a + 1))).length) W h hs (by decide))
  obtain ⟨k, hk⟩ : ∃ k, a + 1 + (nmL (s.data.toList.drop (a + 1))).length = k := ⟨_, rfl⟩
  rw [hk] at HN hZ hT hD HA
  have hak : a + 1 ≤ k := by omega
  have HX := hide (fun W : World => HA.out W hZ)
  rw [hD] at HX
  have hxs : (s.extract (a + 1) k).size ≤ maxLen := by rw [ByteArray.size_extract]; unfold maxLen; omega
  have HS := hide (fun W : World => specSmallName_any (s.extract (a + 1) k) W hxs)
  rw [hT] at HS
  have hak' : (a : Int) + 1 ≤ k := by omega
  have hks' : (k : Int) ≤ s.size := by omega
  have ha0 : (0 : Int) ≤ (a : Int) + 1 := by omega
  have HNm := hide (bytes_ofS _ _ hT)
  obtain ⟨n, hn⟩ : ∃ n, s.extract (a + 1) k = n := ⟨_, rfl⟩
  rw [hn] at HS HNm
  rw [hsm] at HS
  rw [hsp] at HX
  have h8 : k + 8 ≤ s.size := by have := pre_len hsp; rw [← hD, List.length_drop] at this; simp [spcS] at this; omega
  have hD8 : s.data.toList.drop (k + 8) = (nmR (s.data.toList.drop (a + 1))).drop 8 := by rw [← hD, List.drop_drop]
  have ha8 := upTo_len s 34 (k + 8) h8
  have HAT := hide (fun (j : Nat) (h1 : k + 8 ≤ j) (h2 : j < s.size) (h3 : j ≤ k + 8 + (upTo 34 (s.data.toList.drop (k + 8))).length) => upTo_at s 34 (k + 8) j h1 h2 h3)
  have hXt := extract_upTo s 34 (k + 8)
  have HRs := hide (drop_upTo s 34 (k + 8))
  have HF := hide ha8.2
  have hm1 := ha8.1
  obtain ⟨m, hm⟩ : ∃ m, k + 8 + (upTo 34 (s.data.toList.drop (k + 8))).length = m := ⟨_, rfl⟩
  have hkm : k + 8 ≤ m := by omega
  rw [hm] at HAT HRs HF hm1 hXt
  have hes : (s.extract (k + 8) m).size ≤ 1099511627776 := by rw [ByteArray.size_extract]; omega
  have HU := hide (fun W : World => specUnescape_any (s.extract (k + 8) m) W hes)
  rw [hXt] at HU
  rw [hD8] at HU HRs HF
  obtain ⟨x, b, hx⟩ : ∃ x b, unescR (upTo 34 ((nmR (s.data.toList.drop (a + 1))).drop 8)) = (x, b) := ⟨_, _, rfl⟩
  rw [hx] at HU
  have hxz : (bytesOf x).size = x.length := bytesOf_size x
  have HXB := hide (show (bytesOf x).data.toList = x from rfl)
  obtain ⟨xb, hxb⟩ : ∃ xb, bytesOf x = xb := ⟨_, rfl⟩
  simp only [hxb] at HU hxz HXB
  have HXZ := hide hxz
  clear hxz
  obtain ⟨u, hu⟩ : ∃ u, s.extract (k + 8) m = u := ⟨_, rfl⟩
  rw [hu] at HU
  have hwk8 : (k : Int) + 8 ≤ m := by omega
  have hms' : (m : Int) ≤ s.size := by omega
  have hk80 : (0 : Int) ≤ (k : Int) + 8 := by omega
  have HSM := hide hsm
  have HSP := hide hsp
  have HEM := hide em
  have HDk := hide hD8
  have HXX := hide hx
  have HXbe := hide hxb
  clear el em hT hD HA hxs hsm hk hsp hD8 ha8 hXt hm hes hx hxb
  go_enter Tryz.func54, Tryz.ntmps54
  go_wp2_with fail
  refine (H1.out _).mono ?_
  rintro e w9 ⟨rfl, hw⟩
  obtain rfl := hw.symm
  go_wp2_with fail
  refine (HN.out _).mono ?_
  rintro e w9 ⟨rfl, hw⟩
  obtain rfl := hw.symm
  go_wp2_with fail
  refine (HS.out _).mono ?_
  rintro e w9 ⟨rfl, hw⟩
  obtain rfl := hw.symm
  go_wp2_with fail
  refine (HX.out _).mono ?_
  rintro e w9 ⟨rfl, hw⟩
  obtain rfl := hw.symm
  go_wp2
  go_loop [7] (fun j => ∃ q : Nat, k + 8 ≤ q ∧ q ≤ m ∧ j = .int .i64 q) (fun j => m - (intOf j).toNat)
  case atStart => exact ⟨k + 8, Nat.le_refl _, hkm, by go_num⟩
  case round =>
    obtain ⟨q, hq1, hq2, rfl⟩ := hrel
    by_cases hqm : q < m
    · have hqs : q < s.size := by omega
      have hqs' : (q : Int) < s.size := by omega
      have hq0 : (0 : Int) ≤ q := by omega
      have e4 := isn_u8 s[q] 34 34 rfl
      have hne : ¬ s[q] = 34 := fun e => by have := (HAT.out q hq1 hqs hq2).1 e; omega
      rw [decide_eq_false hne] at e4
      clear hne
      go_wp2
      go_round
      case rel => exact ⟨q + 1, by omega, by omega, by go_num⟩
      case measure => simp [intOf]; omega
    · obtain rfl : q = m := by omega
      by_cases hqs : q < s.size
      · have hqs' : (q : Int) < s.size := by omega
        have hq0 : (0 : Int) ≤ q := by omega
        have hqn : ((q : Int) == (s.size : Int)) = false := by rw [beq_eq_false_iff_ne]; omega
        have e4 := isn_u8 s[q] 34 34 rfl
        have heq : s[q] = 34 := (HAT.out q hq1 hqs hq2).2 rfl
        rw [decide_eq_true heq] at e4
        have HFN := hide (show fromB 34 ((nmR (s.data.toList.drop (a + 1))).drop 8) ≠ [] from fun e => by have := HF.out.2 e; omega)
        clear heq HAT HF
        have hkn : q + 1 ≤ s.size := by omega
        have H62 := hide (fun W : World => l7At_any s ⟨#[62]⟩ [62] rfl (q + 1) W hkn hs (by decide))
        have H47 := hide (fun W : World => l7At_any s ⟨#[47, 62]⟩ [47, 62] rfl (q + 1) W hkn hs (by decide))
        rw [HRs.out] at H62 H47
        go_wp2_with fail
        refine (HU.out _).mono ?_
        rintro e w2 ⟨rfl, b2⟩
        cases b
        · have HR := hide (at_none (HEM.out.trans (openL_none (.inr (spc_bad HSP.out (unescR_none HXX.out))))))
          clear HSM HSP HEM HDk HXX HFN HXB HRs H62 H47 HXbe
          have hb2 : Below (w.heap.size + 1 + 1) ((w.alloc (Obj.cells #[.int .i64 0, .string ⟨#[]⟩, .string ⟨#[]⟩, .bool false, .string ⟨#[]⟩] 89)).alloc (Obj.cells #[.int .i64 1, .string n, .string ⟨#[]⟩, .bool false, .string ⟨#[]⟩] 89)) w2 := by simpa using b2
          have hN : w.heap.size + 1 + 1 ≤ w2.heap.size := by have := hb2.size; simp at this; omega
          have hN0 : w.heap.size < w2.heap.size := by omega
          have hN1 : w.heap.size + 1 < w2.heap.size := by omega
          obtain ⟨c0, c1, c2, c3, c4⟩ : w2.cell? ⟨w.heap.size, 0, none⟩ = some (.int .i64 0) ∧ w2.cell? ⟨w.heap.size, 1, none⟩ = some (.string ⟨#[]⟩) ∧ w2.cell? ⟨w.heap.size, 2, none⟩ = some (.string ⟨#[]⟩) ∧ w2.cell? ⟨w.heap.size, 3, none⟩ = some (.bool false) ∧ w2.cell? ⟨w.heap.size, 4, none⟩ = some (.string ⟨#[]⟩) :=
            ⟨(hb2.cell (p := ⟨w.heap.size, 0, none⟩) (by simp; omega)).trans (by simp), (hb2.cell (p := ⟨w.heap.size, 1, none⟩) (by simp; omega)).trans (by simp), (hb2.cell (p := ⟨w.heap.size, 2, none⟩) (by simp; omega)).trans (by simp), (hb2.cell (p := ⟨w.heap.size, 3, none⟩) (by simp; omega)).trans (by simp), (hb2.cell (p := ⟨w.heap.size, 4, none⟩) (by simp; omega)).trans (by simp)⟩
          obtain ⟨d0, d1, d2, d3, d4⟩ : w2.cell? ⟨w.heap.size + 1, 0, none⟩ = some (.int .i64 1) ∧ w2.cell? ⟨w.heap.size + 1, 1, none⟩ = some (.string n) ∧ w2.cell? ⟨w.heap.size + 1, 2, none⟩ = some (.string ⟨#[]⟩) ∧ w2.cell? ⟨w.heap.size + 1, 3, none⟩ = some (.bool false) ∧ w2.cell? ⟨w.heap.size + 1, 4, none⟩ = some (.string ⟨#[]⟩) :=
            ⟨(hb2.cell (p := ⟨w.heap.size + 1, 0, none⟩) (by simp)).trans (by simp), (hb2.cell (p := ⟨w.heap.size + 1, 1, none⟩) (by simp)).trans (by simp), (hb2.cell (p := ⟨w.heap.size + 1, 2, none⟩) (by simp)).trans (by simp), (hb2.cell (p := ⟨w.heap.size + 1, 3, none⟩) (by simp)).trans (by simp), (hb2.cell (p := ⟨w.heap.size + 1, 4, none⟩) (by simp)).trans (by simp)⟩
          have fz : ∀ i, w2.frozen? ⟨w.heap.size, i, none⟩ = false := fun i => (hb2.frozen (p := ⟨w.heap.size, i, none⟩) (by simp; omega)).trans (by simp)
          have fy : ∀ i, w2.frozen? ⟨w.heap.size + 1, i, none⟩ = false := fun i => (hb2.frozen (p := ⟨w.heap.size + 1, i, none⟩) (by simp)).trans (by simp)
          have HB := hide ((((Below.refl w.heap.size w).alloc (Nat.le_refl _) (Obj.cells #[.int .i64 0, .string ⟨#[]⟩, .string ⟨#[]⟩, .bool false, .string ⟨#[]⟩] 89)).alloc (by simp) (Obj.cells #[.int .i64 1, .string n, .string ⟨#[]⟩, .bool false, .string ⟨#[]⟩] 89)).trans (hb2.mono (by omega)))
          clear b2 hb2
          go_wp2
          refine bodyPost_ret (v := .tuple #[.agg #[.int .i64 0, .string ⟨#[]⟩, .string ⟨#[]⟩, .bool false, .string ⟨#[]⟩], .int .i64 (-1)]) (by simp [results, Tryz.results54, go_sem, c0, c1, c2, c3, c4]) rfl ⟨HR.out, ?_⟩
          exact below5 HB.out _ (Nat.le_refl _) _ _ _ _ _
        · have HUn := hide (unescR_some HXX.out)
          by_cases h20 : xb.size ≤ 20
          · have h20' : ¬ (20 : Int) < xb.size := by omega
            have eo := HEM.out.trans (openL_end HSM.out (spc_yes HSP.out HFN.out HUn.out (by have := HXZ.out; omega)))
            have HXb2 := hide (bytes_ofS _ _ HXB.out)
            clear HSM HSP HEM HDk HXX HFN HXB h20 HXbe
            have hb2 : Below (w.heap.size + 1 + 1) ((w.alloc (Obj.cells #[.int .i64 0, .string ⟨#[]⟩, .string ⟨#[]⟩, .bool false, .string ⟨#[]⟩] 89)).alloc (Obj.cells #[.int .i64 1, .string n, .string ⟨#[]⟩, .bool false, .string ⟨#[]⟩] 89)) w2 := by simpa using b2
            have hN : w.heap.size + 1 + 1 ≤ w2.heap.size := by have := hb2.size; simp at this; omega
            have hN0 : w.heap.size < w2.heap.size := by omega
            have hN1 : w.heap.size + 1 < w2.heap.size := by omega
            obtain ⟨c0, c1, c2, c3, c4⟩ : w2.cell? ⟨w.heap.size, 0, none⟩ = some (.int .i64 0) ∧ w2.cell? ⟨w.heap.size, 1, none⟩ = some (.string ⟨#[]⟩) ∧ w2.cell? ⟨w.heap.size, 2, none⟩ = some (.string ⟨#[]⟩) ∧ w2.cell? ⟨w.heap.size, 3, none⟩ = some (.bool false) ∧ w2.cell? ⟨w.heap.size, 4, none⟩ = some (.string ⟨#[]⟩) :=
              ⟨(hb2.cell (p := ⟨w.heap.size, 0, none⟩) (by simp; omega)).trans (by simp), (hb2.cell (p := ⟨w.heap.size, 1, none⟩) (by simp; omega)).trans (by simp), (hb2.cell (p := ⟨w.heap.size, 2, none⟩) (by simp; omega)).trans (by simp), (hb2.cell (p := ⟨w.heap.size, 3, none⟩) (by simp; omega)).trans (by simp), (hb2.cell (p := ⟨w.heap.size, 4, none⟩) (by simp; omega)).trans (by simp)⟩
            obtain ⟨d0, d1, d2, d3, d4⟩ : w2.cell? ⟨w.heap.size + 1, 0, none⟩ = some (.int .i64 1) ∧ w2.cell? ⟨w.heap.size + 1, 1, none⟩ = some (.string n) ∧ w2.cell? ⟨w.heap.size + 1, 2, none⟩ = some (.string ⟨#[]⟩) ∧ w2.cell? ⟨w.heap.size + 1, 3, none⟩ = some (.bool false) ∧ w2.cell? ⟨w.heap.size + 1, 4, none⟩ = some (.string ⟨#[]⟩) :=
              ⟨(hb2.cell (p := ⟨w.heap.size + 1, 0, none⟩) (by simp)).trans (by simp), (hb2.cell (p := ⟨w.heap.size + 1, 1, none⟩) (by simp)).trans (by simp), (hb2.cell (p := ⟨w.heap.size + 1, 2, none⟩) (by simp)).trans (by simp), (hb2.cell (p := ⟨w.heap.size + 1, 3, none⟩) (by simp)).trans (by simp), (hb2.cell (p := ⟨w.heap.size + 1, 4, none⟩) (by simp)).trans (by simp)⟩
            have fz : ∀ i, w2.frozen? ⟨w.heap.size, i, none⟩ = false := fun i => (hb2.frozen (p := ⟨w.heap.size, i, none⟩) (by simp; omega)).trans (by simp)
            have fy : ∀ i, w2.frozen? ⟨w.heap.size + 1, i, none⟩ = false := fun i => (hb2.frozen (p := ⟨w.heap.size + 1, i, none⟩) (by simp)).trans (by simp)
            have HB := hide ((((Below.refl w.heap.size w).alloc (Nat.le_refl _) (Obj.cells #[.int .i64 0, .string ⟨#[]⟩, .string ⟨#[]⟩, .bool false, .string ⟨#[]⟩] 89)).alloc (by simp) (Obj.cells #[.int .i64 1, .string n, .string ⟨#[]⟩, .bool false, .string ⟨#[]⟩] 89)).trans (hb2.mono (by omega)))
            clear b2 hb2
            cases h62 : [62].isPrefixOf (fromB 34 ((nmR (s.data.toList.drop (a + 1))).drop 8)).tail
            · rw [h62] at H62
              cases h47 : [47, 62].isPrefixOf (fromB 34 ((nmR (s.data.toList.drop (a + 1))).drop 8)).tail
              · rw [h47] at H47
                have HR := hide (at_none (eo.trans (endM_0 h62 h47)))
                clear eo h62 h47 HRs
                go_wp2_with fail
                refine (H62.out _).mono ?_
                rintro e w9 ⟨rfl, hw⟩
                obtain rfl := hw.symm
                go_wp2_with fail
                refine (H47.out _).mono ?_
                rintro e w9 ⟨rfl, hw⟩
                obtain rfl := hw.symm
                go_wp2
                refine bodyPost_ret (v := .tuple #[.agg #[.int .i64 0, .string ⟨#[]⟩, .string ⟨#[]⟩, .bool false, .string ⟨#[]⟩], .int .i64 (-1)]) (by simp [results, Tryz.results54, go_sem, c0, c1, c2, c3, c4]) rfl ⟨HR.out, ?_⟩
                exact below5 ((HB.out.setCell (p := ⟨w.heap.size + 1, 2, none⟩) (by simp) _).setCell (p := ⟨w.heap.size + 1, 3, none⟩) (by simp) _) _ (Nat.le_refl _) _ _ _ _ _
              · rw [h47] at H47
                have hk1 : q + 1 + 2 ≤ s.size := by have := pre_len h47; rw [← HRs.out, List.length_drop, Array.length_toList] at this; simp at this; omega
                have HR : Hid (MarkAt s a (.returned (.tuple #[.agg #[.int .i64 3, .string n, .string xb, .bool true, .string ⟨#[]⟩], .int .i64 ((q : Int) + 1 + 2)]))) :=
                  at_some (eo.trans (endM_3 h47)) (k := q + 1 + 2) (by omega) (by omega) hk1 (by rw [← HRs.out, List.drop_drop]) rfl HNm.out HXb2.out rfl rfl
                clear eo h62 h47 HRs
                go_wp2_with fail
                refine (H62.out _).mono ?_
                rintro e w9 ⟨rfl, hw⟩
                obtain rfl := hw.symm
                go_wp2_with fail
                refine (H47.out _).mono ?_
                rintro e w9 ⟨rfl, hw⟩
                obtain rfl := hw.symm
                go_wp2
                refine bodyPost_ret (v := .tuple #[.agg #[.int .i64 3, .string n, .string xb, .bool true, .string ⟨#[]⟩], .int .i64 ((q : Int) + 1 + 2)]) (by simp [results, Tryz.results54, go_sem, c0, c1, c2, c3, c4]) rfl ⟨HR.out, ?_⟩
                exact below5 (((HB.out.setCell (p := ⟨w.heap.size + 1, 2, none⟩) (by simp) _).setCell (p := ⟨w.heap.size + 1, 3, none⟩) (by simp) _).setCell (p := ⟨w.heap.size + 1, 0, none⟩) (by simp) _) _ (Nat.le_refl _) _ _ _ _ _
            · rw [h62] at H62
              have hk1 : q + 1 + 1 ≤ s.size := by have := pre_len h62; rw [← HRs.out, List.length_drop, Array.length_toList] at this; simp at this; omega
              have HR : Hid (MarkAt s a (.returned (.tuple #[.agg #[.int .i64 1, .string n, .string xb, .bool true, .string ⟨#[]⟩], .int .i64 ((q : Int) + 1 + 1)]))) :=
                at_some (eo.trans (endM_1 h62)) (k := q + 1 + 1) (by omega) (by omega) hk1 (by rw [← HRs.out, List.drop_drop]) rfl HNm.out HXb2.out rfl rfl
              clear eo h62 H47 HRs
              go_wp2_with fail
              refine (H62.out _).mono ?_
              rintro e w9 ⟨rfl, hw⟩
              obtain rfl := hw.symm
              go_wp2
              refine bodyPost_ret (v := .tuple #[.agg #[.int .i64 1, .string n, .string xb, .bool true, .string ⟨#[]⟩], .int .i64 ((q : Int) + 1 + 1)]) (by simp [results, Tryz.results54, go_sem, c0, c1, c2, c3, c4]) rfl ⟨HR.out, ?_⟩
              exact below5 ((HB.out.setCell (p := ⟨w.heap.size + 1, 2, none⟩) (by simp) _).setCell (p := ⟨w.heap.size + 1, 3, none⟩) (by simp) _) _ (Nat.le_refl _) _ _ _ _ _
          · have h20' : (20 : Int) < xb.size := by omega
            have HR := hide (at_none (HEM.out.trans (openL_none (.inr (spc_long HSP.out HUn.out (by have := HXZ.out; omega))))))
            clear HSM HSP HEM HDk HXX HFN HXB HRs H62 H47 h20 HUn HXbe
            have hb2 : Below (w.heap.size + 1 + 1) ((w.alloc (Obj.cells #[.int .i64 0, .string ⟨#[]⟩, .string ⟨#[]⟩, .bool false, .string ⟨#[]⟩] 89)).alloc (Obj.cells #[.int .i64 1, .string n, .string ⟨#[]⟩, .bool false, .string ⟨#[]⟩] 89)) w2 := by simpa using b2
            have hN : w.heap.size + 1 + 1 ≤ w2.heap.size := by have := hb2.size; simp at this; omega
            have hN0 : w.heap.size < w2.heap.size := by omega
            have hN1 : w.heap.size + 1 < w2.heap.size := by omega
            obtain ⟨c0, c1, c2, c3, c4⟩ : w2.cell? ⟨w.heap.size, 0, none⟩ = some (.int .i64 0) ∧ w2.cell? ⟨w.heap.size, 1, none⟩ = some (.string ⟨#[]⟩) ∧ w2.cell? ⟨w.heap.size, 2, none⟩ = some (.string ⟨#[]⟩) ∧ w2.cell? ⟨w.heap.size, 3, none⟩ = some (.bool false) ∧ w2.cell? ⟨w.heap.size, 4, none⟩ = some (.string ⟨#[]⟩) :=
              ⟨(hb2.cell (p := ⟨w.heap.size, 0, none⟩) (by simp; omega)).trans (by simp), (hb2.cell (p := ⟨w.heap.size, 1, none⟩) (by simp; omega)).trans (by simp), (hb2.cell (p := ⟨w.heap.size, 2, none⟩) (by simp; omega)).trans (by simp), (hb2.cell (p := ⟨w.heap.size, 3, none⟩) (by simp; omega)).trans (by simp), (hb2.cell (p := ⟨w.heap.size, 4, none⟩) (by simp; omega)).trans (by simp)⟩
            obtain ⟨d0, d1, d2, d3, d4⟩ : w2.cell? ⟨w.heap.size + 1, 0, none⟩ = some (.int .i64 1) ∧ w2.cell? ⟨w.heap.size + 1, 1, none⟩ = some (.string n) ∧ w2.cell? ⟨w.heap.size + 1, 2, none⟩ = some (.string ⟨#[]⟩) ∧ w2.cell? ⟨w.heap.size + 1, 3, none⟩ = some (.bool false) ∧ w2.cell? ⟨w.heap.size + 1, 4, none⟩ = some (.string ⟨#[]⟩) :=
              ⟨(hb2.cell (p := ⟨w.heap.size + 1, 0, none⟩) (by simp)).trans (by simp), (hb2.cell (p := ⟨w.heap.size + 1, 1, none⟩) (by simp)).trans (by simp), (hb2.cell (p := ⟨w.heap.size + 1, 2, none⟩) (by simp)).trans (by simp), (hb2.cell (p := ⟨w.heap.size + 1, 3, none⟩) (by simp)).trans (by simp), (hb2.cell (p := ⟨w.heap.size + 1, 4, none⟩) (by simp)).trans (by simp)⟩
            have fz : ∀ i, w2.frozen? ⟨w.heap.size, i, none⟩ = false := fun i => (hb2.frozen (p := ⟨w.heap.size, i, none⟩) (by simp; omega)).trans (by simp)
            have fy : ∀ i, w2.frozen? ⟨w.heap.size + 1, i, none⟩ = false := fun i => (hb2.frozen (p := ⟨w.heap.size + 1, i, none⟩) (by simp)).trans (by simp)
            have HB := hide ((((Below.refl w.heap.size w).alloc (Nat.le_refl _) (Obj.cells #[.int .i64 0, .string ⟨#[]⟩, .string ⟨#[]⟩, .bool false, .string ⟨#[]⟩] 89)).alloc (by simp) (Obj.cells #[.int .i64 1, .string n, .string ⟨#[]⟩, .bool false, .string ⟨#[]⟩] 89)).trans (hb2.mono (by omega)))
            clear b2 hb2
            go_wp2
            refine bodyPost_ret (v := .tuple #[.agg #[.int .i64 0, .string ⟨#[]⟩, .string ⟨#[]⟩, .bool false, .string ⟨#[]⟩], .int .i64 (-1)]) (by simp [results, Tryz.results54, go_sem, c0, c1, c2, c3, c4]) rfl ⟨HR.out, ?_⟩
            exact below5 HB.out _ (Nat.le_refl _) _ _ _ _ _
      · have hqe : q = s.size := by omega
        have hqs' : ¬ (q : Int) < s.size := by omega
        have HQN := hide (show ((q : Int) == (s.size : Int)) = true by rw [beq_iff_eq]; omega)
        have HR := hide (at_none (HEM.out.trans (openL_none (.inr (spc_short HSP.out (HF.out.1 hqe))))))
        clear HSM HSP HEM HDk HXX HXB HRs HAT HF HXbe hqe
        go_wp2_with fail
        refine (HU.out _).mono ?_
        rintro e w2 ⟨rfl, b2⟩
        have hqn := HQN.out
        have hb2 : Below (w.heap.size + 1 + 1) ((w.alloc (Obj.cells #[.int .i64 0, .string ⟨#[]⟩, .string ⟨#[]⟩, .bool false, .string ⟨#[]⟩] 89)).alloc (Obj.cells #[.int .i64 1, .string n, .string ⟨#[]⟩, .bool false, .string ⟨#[]⟩] 89)) w2 := by simpa using b2
        have hN : w.heap.size + 1 + 1 ≤ w2.heap.size := by have := hb2.size; simp at this; omega
        have hN0 : w.heap.size < w2.heap.size := by omega
        have hN1 : w.heap.size + 1 < w2.heap.size := by omega
        obtain ⟨c0, c1, c2, c3, c4⟩ : w2.cell? ⟨w.heap.size, 0, none⟩ = some (.int .i64 0) ∧ w2.cell? ⟨w.heap.size, 1, none⟩ = some (.string ⟨#[]⟩) ∧ w2.cell? ⟨w.heap.size, 2, none⟩ = some (.string ⟨#[]⟩) ∧ w2.cell? ⟨w.heap.size, 3, none⟩ = some (.bool false) ∧ w2.cell? ⟨w.heap.size, 4, none⟩ = some (.string ⟨#[]⟩) :=
          ⟨(hb2.cell (p := ⟨w.heap.size, 0, none⟩) (by simp; omega)).trans (by simp), (hb2.cell (p := ⟨w.heap.size, 1, none⟩) (by simp; omega)).trans (by simp), (hb2.cell (p := ⟨w.heap.size, 2, none⟩) (by simp; omega)).trans (by simp), (hb2.cell (p := ⟨w.heap.size, 3, none⟩) (by simp; omega)).trans (by simp), (hb2.cell (p := ⟨w.heap.size, 4, none⟩) (by simp; omega)).trans (by simp)⟩
        obtain ⟨d0, d1, d2, d3, d4⟩ : w2.cell? ⟨w.heap.size + 1, 0, none⟩ = some (.int .i64 1) ∧ w2.cell? ⟨w.heap.size + 1, 1, none⟩ = some (.string n) ∧ w2.cell? ⟨w.heap.size + 1, 2, none⟩ = some (.string ⟨#[]⟩) ∧ w2.cell? ⟨w.heap.size + 1, 3, none⟩ = some (.bool false) ∧ w2.cell? ⟨w.heap.size + 1, 4, none⟩ = some (.string ⟨#[]⟩) :=
          ⟨(hb2.cell (p := ⟨w.heap.size + 1, 0, none⟩) (by simp)).trans (by simp), (hb2.cell (p := ⟨w.heap.size + 1, 1, none⟩) (by simp)).trans (by simp), (hb2.cell (p := ⟨w.heap.size + 1, 2, none⟩) (by simp)).trans (by simp), (hb2.cell (p := ⟨w.heap.size + 1, 3, none⟩) (by simp)).trans (by simp), (hb2.cell (p := ⟨w.heap.size + 1, 4, none⟩) (by simp)).trans (by simp)⟩
        have fz : ∀ i, w2.frozen? ⟨w.heap.size, i, none⟩ = false := fun i => (hb2.frozen (p := ⟨w.heap.size, i, none⟩) (by simp; omega)).trans (by simp)
        have fy : ∀ i, w2.frozen? ⟨w.heap.size + 1, i, none⟩ = false := fun i => (hb2.frozen (p := ⟨w.heap.size + 1, i, none⟩) (by simp)).trans (by simp)
        have HB := hide ((((Below.refl w.heap.size w).alloc (Nat.le_refl _) (Obj.cells #[.int .i64 0, .string ⟨#[]⟩, .string ⟨#[]⟩, .bool false, .string ⟨#[]⟩] 89)).alloc (by simp) (Obj.cells #[.int .i64 1, .string n, .string ⟨#[]⟩, .bool false, .string ⟨#[]⟩] 89)).trans (hb2.mono (by omega)))
        clear b2 hb2
        cases b
        all_goals
          go_wp2
          refine bodyPost_ret (v := .tuple #[.agg #[.int .i64 0, .string ⟨#[]⟩, .string ⟨#[]⟩, .bool false, .string ⟨#[]⟩], .int .i64 (-1)]) (by simp [results, Tryz.results54, go_sem, c0, c1, c2, c3, c4]) rfl ⟨HR.out, ?_⟩
          exact below5 HB.out _ (Nat.le_refl _) _ _ _ _ _
end Go.Proofs.YtccehdlgpbeijaaGreatDoor
