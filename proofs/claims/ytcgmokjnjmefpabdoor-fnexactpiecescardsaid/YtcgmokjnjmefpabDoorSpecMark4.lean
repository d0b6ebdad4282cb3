/-
  What the specification's l7Mark does.
-/
import Derived.Test.YtcgmokjnjmefpabDoorSpecMark3
namespace Go.Proofs.YtcgmokjnjmefpabDoor
open Go.RowKit M
set_option linter.unusedVariables false

set_option maxRecDepth 100000 in
set_option maxHeartbeats 8000000 in
theorem l7Mark_open (s : ByteArray) (a : Nat) (w : World) (ha : a < s.size) (hs : s.size ≤ 1099511627776) (hp2 : [60, 47].isPrefixOf (s.data.toList.drop a) = false) (hp : [60].isPrefixOf (s.data.toList.drop a) = true) :
    Calls Tryd.prog 17 #[.string s, .int .i64 a] w fun e w' => MarkAt s a e ∧ Below w.heap.size w w' := by
  have el : s.data.toList.length = s.size := Array.length_toList
  have h2 : a + 1 ≤ s.size := by omega
  have em : markL (s.data.toList.drop a) = openL (s.data.toList.drop (a + 1)) := by unfold markL; rw [if_neg (by simp [hp2]), if_pos hp, List.drop_drop]
  have H1 := hide (fun W : World => l7At_any s ⟨#[60, 47]⟩ [60, 47] rfl a W (by omega) hs (by decide))
  rw [hp2] at H1
  have HN := hide (fun W : World => l7Name_any s (a + 1) W h2 hs)
  have hZ := nm_size s (a + 1) h2
  have hT := nm_take s (a + 1)
  have hD := nm_drop s (a + 1)
  have HA := hide (fun (W : World) h => l7At_any s ⟨#[32, 120, 109, 108, 110, 115, 61, 34]⟩ spcS rfl (a + 1 + (nmL (s.data.toList.drop (a + 1))).length) W h hs (by decide))
  obtain ⟨k, hk⟩ : ∃ k, a + 1 + (nmL (s.data.toList.drop (a + 1))).length = k := ⟨_, rfl⟩
  rw [hk] at HN hZ hT hD HA
  have hak : a + 1 ≤ k := by omega
  have HX := hide (fun W : World => HA.out W hZ)
  rw [hD] at HX
  have hxs : (s.extract (a + 1) k).size ≤ maxLen := by rw [ByteArray.size_extract]; unfold maxLen; omega
  have HS := hide (fun W : World => specSmallName_any (s.extract (a + 1) k) W hxs)
  rw [hT] at HS
  have hak' : (a : Int) + 1 ≤ k := by omega
  have hks' : (k : Int) ≤ s.size := by omega
  have ha0 : (0 : Int) ≤ (a : Int) + 1 := by omega
  have HNm := hide (bytes_ofS _ _ hT)
  obtain ⟨n, hn⟩ : ∃ n, s.extract (a + 1) k = n := ⟨_, rfl⟩
  rw [hn] at HS HNm
  cases hsm : smB (nmL (s.data.toList.drop (a + 1)))
  · rw [hsm] at HS
    have HR := hide (at_none (em.trans (openL_none (.inl hsm))))
    clear el em hT hD HA HX hxs hsm hk
    go_enter Tryd.func17, Tryd.ntmps17
    go_wp2_with fail
    refine (H1.out _).mono ?_
    rintro e w9 ⟨rfl, hw⟩
    obtain rfl := hw.symm
    go_wp2_with fail
    refine (HN.out _).mono ?_
    rintro e w9 ⟨rfl, hw⟩
    obtain rfl := hw.symm
    go_wp2_with fail
    refine (HS.out _).mono ?_
    rintro e w9 ⟨rfl, hw⟩
    obtain rfl := hw.symm
    go_wp2
    refine bodyPost_ret (v := .tuple #[.agg #[.int .i64 0, .string ⟨#[]⟩, .string ⟨#[]⟩, .bool false, .string ⟨#[]⟩], .int .i64 (-1)]) (by simp [results, Tryd.results17, go_sem]) rfl ⟨HR.out, ?_⟩
    exact ((Below.refl _ _).alloc (Nat.le_refl _) _).alloc (by simp) _
  · rw [hsm] at HS
    cases hsp : spcS.isPrefixOf (nmR (s.data.toList.drop (a + 1)))
    · rw [hsp] at HX
      have eo := em.trans (openL_end hsm (spc_no hsp))
      have H62 := hide (fun W : World => l7At_any s ⟨#[62]⟩ [62] rfl k W hZ hs (by decide))
      have H47 := hide (fun W : World => l7At_any s ⟨#[47, 62]⟩ [47, 62] rfl k W hZ hs (by decide))
      rw [hD] at H62 H47
      cases h62 : [62].isPrefixOf (nmR (s.data.toList.drop (a + 1)))
      · rw [h62] at H62
        cases h47 : [47, 62].isPrefixOf (nmR (s.data.toList.drop (a + 1)))
        · rw [h47] at H47
          have HR := hide (at_none (eo.trans (endM_0 h62 h47)))
          clear el em hT hD HA hxs hsm hk hsp eo h62 h47
          go_enter Tryd.func17, Tryd.ntmps17
          go_wp2_with fail
          refine (H1.out _).mono ?_
          rintro e w9 ⟨rfl, hw⟩
          obtain rfl := hw.symm
          go_wp2_with fail
          refine (HN.out _).mono ?_
          rintro e w9 ⟨rfl, hw⟩
          obtain rfl := hw.symm
          go_wp2_with fail
          refine (HS.out _).mono ?_
          rintro e w9 ⟨rfl, hw⟩
          obtain rfl := hw.symm
          go_wp2_with fail
          refine (HX.out _).mono ?_
          rintro e w9 ⟨rfl, hw⟩
          obtain rfl := hw.symm
          go_wp2_with fail
          refine (H62.out _).mono ?_
          rintro e w9 ⟨rfl, hw⟩
          obtain rfl := hw.symm
          go_wp2_with fail
          refine (H47.out _).mono ?_
          rintro e w9 ⟨rfl, hw⟩
          obtain rfl := hw.symm
          go_wp2
          refine bodyPost_ret (v := .tuple #[.agg #[.int .i64 0, .string ⟨#[]⟩, .string ⟨#[]⟩, .bool false, .string ⟨#[]⟩], .int .i64 (-1)]) (by simp [results, Tryd.results17, go_sem]) rfl ⟨HR.out, ?_⟩
          exact ((Below.refl _ _).alloc (Nat.le_refl _) _).alloc (by simp) _
        · rw [h47] at H47
          have hk1 : k + 2 ≤ s.size := by have := pre_len h47; rw [← hD, List.length_drop] at this; simp at this; omega
          have HR : Hid (MarkAt s a (.returned (.tuple #[.agg #[.int .i64 3, .string n, .string ⟨#[]⟩, .bool false, .string ⟨#[]⟩], .int .i64 ((k : Int) + 2)]))) :=
            at_some (eo.trans (endM_3 h47)) (k := k + 2) (by omega) (by omega) hk1 (by rw [← hD, List.drop_drop]) rfl HNm.out rfl rfl rfl
          clear el em hT hD HA hxs hsm hk hsp eo h62 h47
          go_enter Tryd.func17, Tryd.ntmps17
          go_wp2_with fail
          refine (H1.out _).mono ?_
          rintro e w9 ⟨rfl, hw⟩
          obtain rfl := hw.symm
          go_wp2_with fail
          refine (HN.out _).mono ?_
          rintro e w9 ⟨rfl, hw⟩
          obtain rfl := hw.symm
          go_wp2_with fail
          refine (HS.out _).mono ?_
          rintro e w9 ⟨rfl, hw⟩
          obtain rfl := hw.symm
          go_wp2_with fail
          refine (HX.out _).mono ?_
          rintro e w9 ⟨rfl, hw⟩
          obtain rfl := hw.symm
          go_wp2_with fail
          refine (H62.out _).mono ?_
          rintro e w9 ⟨rfl, hw⟩
          obtain rfl := hw.symm
          go_wp2_with fail
          refine (H47.out _).mono ?_
          rintro e w9 ⟨rfl, hw⟩
          obtain rfl := hw.symm
          go_wp2
          refine bodyPost_ret (v := .tuple #[.agg #[.int .i64 3, .string n, .string ⟨#[]⟩, .bool false, .string ⟨#[]⟩], .int .i64 ((k : Int) + 2)]) (by simp [results, Tryd.results17, go_sem]) rfl ⟨HR.out, ((Below.refl _ _).alloc (Nat.le_refl _) _).alloc (by simp) _⟩
      · rw [h62] at H62
        have hk1 : k + 1 ≤ s.size := by have := pre_len h62; rw [← hD, List.length_drop] at this; simp at this; omega
        have HR : Hid (MarkAt s a (.returned (.tuple #[.agg #[.int .i64 1, .string n, .string ⟨#[]⟩, .bool false, .string ⟨#[]⟩], .int .i64 ((k : Int) + 1)]))) :=
          at_some (eo.trans (endM_1 h62)) (k := k + 1) (by omega) (by omega) hk1 (by rw [← hD, List.drop_drop]) rfl HNm.out rfl rfl rfl
        clear el em hT hD HA hxs hsm hk hsp eo h62 H47
        go_enter Tryd.func17, Tryd.ntmps17
        go_wp2_with fail
        refine (H1.out _).mono ?_
        rintro e w9 ⟨rfl, hw⟩
        obtain rfl := hw.symm
        go_wp2_with fail
        refine (HN.out _).mono ?_
        rintro e w9 ⟨rfl, hw⟩
        obtain rfl := hw.symm
        go_wp2_with fail
        refine (HS.out _).mono ?_
        rintro e w9 ⟨rfl, hw⟩
        obtain rfl := hw.symm
        go_wp2_with fail
        refine (HX.out _).mono ?_
        rintro e w9 ⟨rfl, hw⟩
        obtain rfl := hw.symm
        go_wp2_with fail
        refine (H62.out _).mono ?_
        rintro e w9 ⟨rfl, hw⟩
        obtain rfl := hw.symm
        go_wp2
        refine bodyPost_ret (v := .tuple #[.agg #[.int .i64 1, .string n, .string ⟨#[]⟩, .bool false, .string ⟨#[]⟩], .int .i64 ((k : Int) + 1)]) (by simp [results, Tryd.results17, go_sem]) rfl ⟨HR.out, ((Below.refl _ _).alloc (Nat.le_refl _) _).alloc (by simp) _⟩
    · exact l7Mark_space s a w ha hs hp2 hp hsm hsp

theorem l7Mark_any (s : ByteArray) (a : Nat) (w : World) (ha : a < s.size) (hs : s.size ≤ 1099511627776) (h60 : s[a] = 60) :
    Calls Tryd.prog 17 #[.string s, .int .i64 a] w fun e w' => MarkAt s a e ∧ Below w.heap.size w w' := by
  have hd := drop_cons s a ha
  have hp : [60].isPrefixOf (s.data.toList.drop a) = true := by rw [hd, h60]; simp [List.isPrefixOf]
  cases hp2 : [60, 47].isPrefixOf (s.data.toList.drop a)
  · exact l7Mark_open s a w ha hs hp2 hp
  · exact l7Mark_close s a w ha hs hp2
end Go.Proofs.YtcgmokjnjmefpabDoor
