/-
  What the specification's l9Tag does.
-/
import Derived.Test.YtmgikfeknmbpbaaGreatDoorTurn
import Derived.Test.YtmgikfeknmbpbaaGreatDoorSpecPl
import Derived.Test.YtmgikfeknmbpbaaGreatDoorMathNum
namespace Go.Proofs.YtmgikfeknmbpbaaGreatDoor
open Go.RowKit M
set_option linter.unusedVariables false

theorem tagB_iff (x : List UInt8) : tagB x = true ↔ ∃ m, x = tagL m ∧ 34 ∉ m ∧ innB m = true := by
  constructor
  · intro h
    unfold tagB at h
    split at h
    · rename_i m e
      obtain ⟨h1, h2, h3⟩ := cutT_some e
      exact ⟨m, by rw [h1, List.append_nil], h2, h3⟩
    · cases h
  · rintro ⟨m, rfl, h1, h2⟩
    exact tagB_one m h1 h2
theorem tagB_not {x : List UInt8} (h : ∀ m, x = tagL m → 34 ∉ m → innB m = true → False) : tagB x = false := by
  cases hb : tagB x
  · rfl
  · obtain ⟨m, h1, h2, h3⟩ := (tagB_iff x).1 hb
    exact (h m h1 h2 h3).elim
theorem tagL_len (m : List UInt8) : (tagL m).length = m.length + 2 := by simp [tagL]
theorem tag_short {x : List UInt8} (h : x.length < 2) : tagB x = false := tagB_not fun m e _ _ => by rw [e, tagL_len] at h; omega
theorem tag_first {x : List UInt8} (h0 : 0 < x.length) (h : ¬ x[0] = 34) : tagB x = false := tagB_not fun m e _ _ => by subst e; exact h (by simp [tagL])
theorem tag_last {x : List UInt8} (n : Nat) (hn : n < x.length) (h1 : n + 1 = x.length) (h : ¬ x[n] = 34) : tagB x = false := tagB_not fun m e _ _ => by
  subst e
  rw [tagL_len] at h1
  have hn' : n = m.length + 1 := by omega
  subst hn'
  exact h (by simp [tagL])
theorem tag_long {x : List UInt8} (h : 12 < x.length) : tagB x = false := tagB_not fun m e _ hi => by
  rw [e, tagL_len] at h
  simp [innB] at hi
  omega
theorem allB_tag (m : List UInt8) : allB (tagL m) [0] = allB m [0] := by
  have h : anyB (((34 : UInt8).toNat : Nat) : Int) [0] = true := by decide
  simp only [allB, tagL, List.all_cons, List.all_append, List.all_nil, h, Bool.and_true, Bool.true_and]
theorem tag_plain {x : List UInt8} (h : allB x [0] = false) : tagB x = false := tagB_not fun m e _ hi => by
  rw [e, allB_tag] at h
  simp [innB, h] at hi
theorem tag_within {x : List UInt8} (k : Nat) (hk : k < x.length) (h1 : 1 ≤ k) (h2 : k + 1 < x.length) (h : x[k] = 34) : tagB x = false := tagB_not fun m e hm _ => by
  subst e
  rw [tagL_len] at h2
  obtain ⟨j, rfl⟩ : ∃ j, k = j + 1 := ⟨k - 1, by omega⟩
  apply hm
  have hj : j < m.length := by omega
  have e2 : (tagL m)[j + 1] = m[j] := by
    simp only [tagL, List.getElem_cons_succ]
    rw [List.getElem_append_left hj]
  rw [e2] at h
  rw [← h]; exact List.getElem_mem hj
theorem tag_yes {x : List UInt8} (n : Nat) (h1 : n + 2 = x.length) (hf : x[0]'(by omega) = 34) (hl : x[n + 1]'(by omega) = 34) (h12 : x.length ≤ 12) (hp : allB x [0] = true) (hm : 34 ∉ (x.take (n + 1)).drop 1) : tagB x = true := by
  have e : x = tagL ((x.take (n + 1)).drop 1) := by
    cases x with
    | nil => simp at h1
    | cons c r =>
      have hc : c = 34 := hf
      have hn : n < r.length := by simp at h1; omega
      have h3 : r[n] = 34 := hl
      have h4 := List.take_succ_eq_append_getElem hn
      rw [h3, List.take_of_length_le (by simp at h1; omega)] at h4
      subst hc
      simp only [List.take_succ_cons, List.drop_succ_cons, List.drop_zero, tagL]
      rw [← h4]
  rw [e]
  apply tagB_one _ hm
  have hp2 : allB ((x.take (n + 1)).drop 1) [0] = true := by rw [← allB_tag, ← e]; exact hp
  have hl2 : ((x.take (n + 1)).drop 1).length = n := by rw [List.length_drop, List.length_take]; omega
  unfold innB
  rw [hp2, hl2]
  simp; omega

theorem u8ne {c : UInt8} {n : Nat} (hn : n < 256) (h : ¬ c = UInt8.ofNat n) : ((c.toNat : Int) == (n : Int)) = false := by
  apply beq_eq_false_iff_ne.2
  intro e
  apply h
  apply UInt8.toNat_inj.1
  have e2 : c.toNat = n := by omega
  rw [e2]
  simp
  omega

theorem u8bn {c : UInt8} {n : Nat} (hn : n < 256) (h : ¬ c = UInt8.ofNat n) : ((c.toNat : Int) != (n : Int)) = true := by
  show (!((c.toNat : Int) == (n : Int))) = true
  rw [u8ne hn h]; rfl

theorem in_take {x : List UInt8} {k : Nat} (hk : k < x.length) (h1 : 1 ≤ k) (h : 34 ∉ (x.take k).drop 1) (hc : ¬ x[k] = 34) : 34 ∉ (x.take (k + 1)).drop 1 := by
  rw [List.take_succ_eq_append_getElem hk, List.drop_append_of_le_length (by rw [List.length_take]; omega)]
  intro hm
  rcases List.mem_append.1 hm with hm | hm
  · exact h hm
  · exact hc (List.mem_singleton.1 hm).symm

set_option maxHeartbeats 2000000 in
theorem l9Tag_any (s : ByteArray) (w : World) (hs : s.size ≤ maxLen) :
    Calls Tryz.prog 73 #[.string s] w fun e w' => e = .returned (.bool (tagB s.data.toList)) ∧ w' = w := by
  have HP := hide (specPlain_any s w hs)
  unfold maxLen at hs
  have EL := hide (show s.data.toList.length = s.size from Array.length_toList)
  by_cases h2 : s.size < 2
  · have h2' : (s.size : Int) < 2 := by omega
    have HR := hide (tag_short (x := s.data.toList) (by rw [EL.out]; omega))
    go_enter Tryz.func73, Tryz.ntmps73
    go_wp2
    go_ret
    exact ⟨ret_bool HR.out.symm, rfl⟩
  · have h2' : ¬ (s.size : Int) < 2 := by omega
    have z0 : 0 < s.size := by omega
    have z1 : s.size - 1 < s.size := by omega
    by_cases h0 : s[0] = 34
    · have b0 : ((s[0].toNat : Int) != 34) = false := by rw [h0]; rfl
      by_cases h1 : s[s.size - 1] = 34
      · have b1 : ((s[s.size - 1].toNat : Int) != 34) = false := by rw [h1]; rfl
        by_cases h12 : s.size ≤ 12
        · cases hp : allB s.data.toList [0]
          · have HR := hide (tag_plain hp)
            rw [hp] at HP
            clear hp h0 h1
            go_enter Tryz.func73, Tryz.ntmps73
            go_wp2_with fail
            refine HP.out.mono ?_
            rintro e w1 ⟨rfl, hw⟩
            obtain rfl := hw.symm
            go_wp2
            go_ret
            exact ⟨ret_bool HR.out.symm, rfl⟩
          · rw [hp] at HP
            obtain ⟨n, hn⟩ : ∃ n, n + 2 = s.size := ⟨s.size - 2, by omega⟩
            have HY := hide (fun (hm : 34 ∉ (s.data.toList.take (n + 1)).drop 1) => tag_yes (x := s.data.toList) n (by rw [EL.out]; exact hn) h0 (by
              have e : s.size - 1 = n + 1 := by omega
              have h1' := h1
              simp only [e] at h1'
              exact h1') (by rw [EL.out]; exact h12) hp hm)
            have HN := hide hn
            clear hp h0 h1 hn
            go_enter Tryz.func73, Tryz.ntmps73
            go_wp2_with fail
            refine HP.out.mono ?_
            rintro e w1 ⟨rfl, hw⟩
            obtain rfl := hw.symm
            go_wp2
            go_loop [3] (fun i => ∃ k : Nat, 1 ≤ k ∧ k + 1 ≤ s.size ∧ i = .int .i64 k ∧ 34 ∉ (s.data.toList.take k).drop 1) (fun i => s.size - (intOf i).toNat)
            case atStart => exact ⟨1, Nat.le_refl _, by omega, rfl, by
              have : ((s.data.toList.take 1).drop 1) = [] := by rw [List.drop_eq_nil_iff, List.length_take]; omega
              rw [this]; simp⟩
            case round =>
              obtain ⟨k, hk1, hk2, rfl, hn⟩ := hrel
              have HK := hide hn
              clear hn
              by_cases hlt : k + 1 < s.size
              · have hlt' : (k : Int) < s.size - 1 := by omega
                have hks : k < s.size := by omega
                by_cases hc : s[k] = 34
                · have bc : ((s[k].toNat : Int) == 34) = true := by rw [hc]; rfl
                  have HR := hide (tag_within (x := s.data.toList) k (by rw [EL.out]; omega) hk1 (by rw [EL.out]; omega) hc)
                  clear hc
                  go_wp2
                  go_ret
                  exact ⟨ret_bool HR.out.symm, rfl⟩
                · have bc : ((s[k].toNat : Int) == 34) = false := u8ne (n := 34) (by decide) hc
                  have HI := hide (in_take (x := s.data.toList) (by rw [EL.out]; omega) hk1 HK.out hc)
                  clear hc
                  go_wp2
                  go_round
                  case rel => exact ⟨k + 1, by omega, by omega, by go_num, HI.out⟩
                  case measure => simp [intOf]; omega
              · have hlt' : ¬ (k : Int) < s.size - 1 := by omega
                have hkn : k = n + 1 := by have := HN.out; omega
                have HR := hide (HY.out (by rw [← hkn]; exact HK.out))
                clear hkn
                go_wp2
                go_ret
                exact ⟨ret_bool HR.out.symm, rfl⟩
        · have h12' : ¬ (s.size : Int) ≤ 12 := by omega
          have HR := hide (tag_long (x := s.data.toList) (by rw [EL.out]; omega))
          clear h0 h1
          go_enter Tryz.func73, Tryz.ntmps73
          go_wp2
          go_ret
          exact ⟨ret_bool HR.out.symm, rfl⟩
      · have b1 : ((s[s.size - 1].toNat : Int) != 34) = true := u8bn (n := 34) (by decide) h1
        have HR := hide (tag_last (x := s.data.toList) (s.size - 1) (by rw [EL.out]; omega) (by rw [EL.out]; omega) h1)
        clear h0 h1
        go_enter Tryz.func73, Tryz.ntmps73
        go_wp2
        go_ret
        exact ⟨ret_bool HR.out.symm, rfl⟩
    · have b0 : ((s[0].toNat : Int) != 34) = true := u8bn (n := 34) (by decide) h0
      have HR := hide (tag_first (x := s.data.toList) (by rw [EL.out]; omega) h0)
      clear h0
      go_enter Tryz.func73, Tryz.ntmps73
      go_wp2
      go_ret
      exact ⟨ret_bool HR.out.symm, rfl⟩
end Go.Proofs.YtmgikfeknmbpbaaGreatDoor
