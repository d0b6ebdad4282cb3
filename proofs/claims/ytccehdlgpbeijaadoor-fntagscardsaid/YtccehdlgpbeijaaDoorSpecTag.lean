/-
  What the specification's l9Tag and l9Split do.
-/
import Derived.Test.YtccehdlgpbeijaaDoorMathTag
import Derived.Test.YtccehdlgpbeijaaDoorSpecTrim
import Derived.Test.YtccehdlgpbeijaaDoorSpecPl
import Derived.Test.YtccehdlgpbeijaaDoorOwnStrs
import Derived.Test.YtccehdlgpbeijaaDoorHide
namespace Go.Proofs.YtccehdlgpbeijaaDoor
open Go.RowKit M
set_option linter.unusedVariables false

theorem tagB_iff (x : List UInt8) : tagB x = true ↔ ∃ m, x = tagL m ∧ 34 ∉ m ∧ innB m = true := by
  constructor
  · intro h
    unfold tagB at h
    split at h
    · rename_i m e
      obtain ⟨h1, h2, h3⟩ := cutT_some e
      exact ⟨m, by rw [h1, List.append_nil], h2, h3⟩
    · cases h
  · rintro ⟨m, rfl, h1, h2⟩
    exact tagB_one m h1 h2
theorem tagB_not {x : List UInt8} (h : ∀ m, x = tagL m → 34 ∉ m → innB m = true → False) : tagB x = false := by
  cases hb : tagB x
  · rfl
  · obtain ⟨m, h1, h2, h3⟩ := (tagB_iff x).1 hb
    exact (h m h1 h2 h3).elim
theorem tagL_len (m : List UInt8) : (tagL m).length = m.length + 2 := by simp [tagL]
theorem tag_short {x : List UInt8} (h : x.length < 2) : tagB x = false := tagB_not fun m e _ _ => by rw [e, tagL_len] at h; omega
theorem tag_first {x : List UInt8} (h0 : 0 < x.length) (h : ¬ x[0] = 34) : tagB x = false := tagB_not fun m e _ _ => by subst e; exact h (by simp [tagL])
theorem tag_last {x : List UInt8} (n : Nat) (hn : n < x.length) (h1 : n + 1 = x.length) (h : ¬ x[n] = 34) : tagB x = false := tagB_not fun m e _ _ => by
  subst e
  rw [tagL_len] at h1
  have hn' : n = m.length + 1 := by omega
  subst hn'
  exact h (by simp [tagL])
theorem tag_long {x : List UInt8} (h : 12 < x.length) : tagB x = false := tagB_not fun m e _ hi => by
  rw [e, tagL_len] at h
  simp [innB] at hi
  omega
theorem allB_tag (m : List UInt8) : allB (tagL m) [0] = allB m [0] := by
  have h : anyB (((34 : UInt8).toNat : Nat) : Int) [0] = true := by decide
  simp only [allB, tagL, List.all_cons, List.all_append, List.all_nil, h, Bool.and_true, Bool.true_and]
theorem tag_plain {x : List UInt8} (h : allB x [0] = false) : tagB x = false := tagB_not fun m e _ hi => by
  rw [e, allB_tag] at h
  simp [innB, h] at hi
theorem tag_within {x : List UInt8} (k : Nat) (hk : k < x.length) (h1 : 1 ≤ k) (h2 : k + 1 < x.length) (h : x[k] = 34) : tagB x = false := tagB_not fun m e hm _ => by
  subst e
  rw [tagL_len] at h2
  obtain ⟨j, rfl⟩ : ∃ j, k = j + 1 := ⟨k - 1, by omega⟩
  apply hm
  have hj : j < m.length := by omega
  have e2 : (tagL m)[j + 1] = m[j] := by
    simp only [tagL, List.getElem_cons_succ]
    rw [List.getElem_append_left hj]
  rw [e2] at h
  rw [← h]; exact List.getElem_mem hj
theorem tag_yes {x : List UInt8} (n : Nat) (h1 : n + 2 = x.length) (hf : x[0]'(by omega) = 34) (hl : x[n + 1]'(by omega) = 34) (h12 : x.length ≤ 12) (hp : allB x [0] = true) (hm : 34 ∉ (x.take (n + 1)).drop 1) : tagB x = true := by
  have e : x = tagL ((x.take (n + 1)).drop 1) := by
    cases x with
    | nil => simp at h1
    | cons c r =>
      have hc : c = 34 := hf
      have hn : n < r.length := by simp at h1; omega
      have h3 : r[n] = 34 := hl
      have h4 := List.take_succ_eq_append_getElem hn
      rw [h3, List.take_of_length_le (by simp at h1; omega)] at h4
      subst hc
      simp only [List.take_succ_cons, List.drop_succ_cons, List.drop_zero, tagL]
      rw [← h4]
  rw [e]
  apply tagB_one _ hm
  have hp2 : allB ((x.take (n + 1)).drop 1) [0] = true := by rw [← allB_tag, ← e]; exact hp
  have hl2 : ((x.take (n + 1)).drop 1).length = n := by rw [List.length_drop, List.length_take]; omega
  unfold innB
  rw [hp2, hl2]
  simp; omega

theorem u8ne {c : UInt8} {n : Nat} (hn : n < 256) (h : ¬ c = UInt8.ofNat n) : ((c.toNat : Int) == (n : Int)) = false := by
  apply beq_eq_false_iff_ne.2
  intro e
  apply h
  apply UInt8.toNat_inj.1
  have e2 : c.toNat = n := by omega
  rw [e2]
  simp
  omega

theorem u8bn {c : UInt8} {n : Nat} (hn : n < 256) (h : ¬ c = UInt8.ofNat n) : ((c.toNat : Int) != (n : Int)) = true := by
  show (!((c.toNat : Int) == (n : Int))) = true
  rw [u8ne hn h]; rfl

theorem in_take {x : List UInt8} {k : Nat} (hk : k < x.length) (h1 : 1 ≤ k) (h : 34 ∉ (x.take k).drop 1) (hc : ¬ x[k] = 34) : 34 ∉ (x.take (k + 1)).drop 1 := by
  rw [List.take_succ_eq_append_getElem hk, List.drop_append_of_le_length (by rw [List.length_take]; omega)]
  intro hm
  rcases List.mem_append.1 hm with hm | hm
  · exact h hm
  · exact hc (List.mem_singleton.1 hm).symm

set_option maxHeartbeats 2000000 in
theorem l9Tag_any (s : ByteArray) (w : World) (hs : s.size ≤ maxLen) :
    Calls Tryd.prog 28 #[.string s] w fun e w' => e = .returned (.bool (tagB s.data.toList)) ∧ w' = w := by
  have HP := hide (specPlain_any s w hs)
  unfold maxLen at hs
  have EL := hide (show s.data.toList.length = s.size from Array.length_toList)
  by_cases h2 : s.size < 2
  · have h2' : (s.size : Int) < 2 := by omega
    have HR := hide (tag_short (x := s.data.toList) (by rw [EL.out]; omega))
    go_enter Tryd.func28, Tryd.ntmps28
    go_wp2
    go_ret
    exact ⟨ret_bool HR.out.symm, rfl⟩
  · have h2' : ¬ (s.size : Int) < 2 := by omega
    have z0 : 0 < s.size := by omega
    have z1 : s.size - 1 < s.size := by omega
    by_cases h0 : s[0] = 34
    · have b0 : ((s[0].toNat : Int) != 34) = false := by rw [h0]; rfl
      by_cases h1 : s[s.size - 1] = 34
      · have b1 : ((s[s.size - 1].toNat : Int) != 34) = false := by rw [h1]; rfl
        by_cases h12 : s.size ≤ 12
        · cases hp : allB s.data.toList [0]
          · have HR := hide (tag_plain hp)
            rw [hp] at HP
            clear hp h0 h1
            go_enter Tryd.func28, Tryd.ntmps28
            go_wp2_with fail
            refine HP.out.mono ?_
            rintro e w1 ⟨rfl, hw⟩
            obtain rfl := hw.symm
            go_wp2
            go_ret
            exact ⟨ret_bool HR.out.symm, rfl⟩
          · rw [hp] at HP
            obtain ⟨n, hn⟩ : ∃ n, n + 2 = s.size := ⟨s.size - 2, by omega⟩
            have HY := hide (fun (hm : 34 ∉ (s.data.toList.take (n + 1)).drop 1) => tag_yes (x := s.data.toList) n (by rw [EL.out]; exact hn) h0 (by
              have e : s.size - 1 = n + 1 := by omega
              have h1' := h1
              simp only [e] at h1'
              exact h1') (by rw [EL.out]; exact h12) hp hm)
            have HN := hide hn
            clear hp h0 h1 hn
            go_enter Tryd.func28, Tryd.ntmps28
            go_wp2_with fail
            refine HP.out.mono ?_
            rintro e w1 ⟨rfl, hw⟩
            obtain rfl := hw.symm
            go_wp2
            go_loop [3] (fun i => ∃ k : Nat, 1 ≤ k ∧ k + 1 ≤ s.size ∧ i = .int .i64 k ∧ 34 ∉ (s.data.toList.take k).drop 1) (fun i => s.size - (intOf i).toNat)
            case atStart => exact ⟨1, Nat.le_refl _, by omega, rfl, by
              have : ((s.data.toList.take 1).drop 1) = [] := by rw [List.drop_eq_nil_iff, List.length_take]; omega
              rw [this]; simp⟩
            case round =>
              obtain ⟨k, hk1, hk2, rfl, hn⟩ := hrel
              have HK := hide hn
              clear hn
              by_cases hlt : k + 1 < s.size
              · have hlt' : (k : Int) < s.size - 1 := by omega
                have hks : k < s.size := by omega
                by_cases hc : s[k] = 34
                · have bc : ((s[k].toNat : Int) == 34) = true := by rw [hc]; rfl
                  have HR := hide (tag_within (x := s.data.toList) k (by rw [EL.out]; omega) hk1 (by rw [EL.out]; omega) hc)
                  clear hc
                  go_wp2
                  go_ret
                  exact ⟨ret_bool HR.out.symm, rfl⟩
                · have bc : ((s[k].toNat : Int) == 34) = false := u8ne (n := 34) (by decide) hc
                  have HI := hide (in_take (x := s.data.toList) (by rw [EL.out]; omega) hk1 HK.out hc)
                  clear hc
                  go_wp2
                  go_round
                  case rel => exact ⟨k + 1, by omega, by omega, by go_num, HI.out⟩
                  case measure => simp [intOf]; omega
              · have hlt' : ¬ (k : Int) < s.size - 1 := by omega
                have hkn : k = n + 1 := by have := HN.out; omega
                have HR := hide (HY.out (by rw [← hkn]; exact HK.out))
                clear hkn
                go_wp2
                go_ret
                exact ⟨ret_bool HR.out.symm, rfl⟩
        · have h12' : ¬ (s.size : Int) ≤ 12 := by omega
          have HR := hide (tag_long (x := s.data.toList) (by rw [EL.out]; omega))
          clear h0 h1
          go_enter Tryd.func28, Tryd.ntmps28
          go_wp2
          go_ret
          exact ⟨ret_bool HR.out.symm, rfl⟩
      · have b1 : ((s[s.size - 1].toNat : Int) != 34) = true := u8bn (n := 34) (by decide) h1
        have HR := hide (tag_last (x := s.data.toList) (s.size - 1) (by rw [EL.out]; omega) (by rw [EL.out]; omega) h1)
        clear h0 h1
        go_enter Tryd.func28, Tryd.ntmps28
        go_wp2
        go_ret
        exact ⟨ret_bool HR.out.symm, rfl⟩
    · have b0 : ((s[0].toNat : Int) != 34) = true := u8bn (n := 34) (by decide) h0
      have HR := hide (tag_first (x := s.data.toList) (by rw [EL.out]; omega) h0)
      clear h0
      go_enter Tryd.func28, Tryd.ntmps28
      go_wp2
      go_ret
      exact ⟨ret_bool HR.out.symm, rfl⟩

/-- How far a text is cut. -/
def SpqAt (l : List UInt8) (k fr : Nat) (b : Bool) (done : List (List UInt8)) : Prop :=
  done.length ≤ k ∧ fr ≤ k ∧ ((k ≤ l.length ∧ spq false l = done ++ addH ((l.drop fr).take (k - fr)) (spq b (l.drop k))) ∨ (k = l.length + 1 ∧ done = spq false l))
theorem SpqAt.start (l : List UInt8) : SpqAt l 0 0 false [] := ⟨Nat.le_refl _, Nat.le_refl _, .inl ⟨Nat.zero_le _, by simp [addH_nil _ (spq_ne _ _)]⟩⟩
theorem take_nextT (l : List UInt8) (fr k : Nat) (hf : fr ≤ k) (hk : k < l.length) : (l.drop fr).take (k + 1 - fr) = (l.drop fr).take (k - fr) ++ [l[k]] := by
  have h1 : k - fr < (l.drop fr).length := by rw [List.length_drop]; omega
  rw [show k + 1 - fr = (k - fr) + 1 by omega, List.take_succ_eq_append_getElem h1, List.getElem_drop]
  congr 3
  omega
theorem SpqAt.skip {l : List UInt8} {k fr : Nat} {b : Bool} {done : List (List UInt8)} (h : SpqAt l k fr b done) (hk : k < l.length) (hc : ¬ (l[k] = 44 ∧ b = false)) : SpqAt l (k + 1) fr (if l[k] = 34 then !b else b) done := by
  obtain ⟨h1, h2, h3 | h3⟩ := h
  · refine ⟨by omega, by omega, .inl ⟨by omega, ?_⟩⟩
    rw [h3.2, take_nextT l fr k h2 hk]
    conv => lhs; rw [List.drop_eq_getElem_cons hk, spq, if_neg hc, addH_add]
  · exact absurd hk (by omega)
theorem SpqAt.cut {l : List UInt8} {k fr : Nat} {b : Bool} {done : List (List UInt8)} (h : SpqAt l k fr b done) (hk : k < l.length) (hc : l[k] = 44) (hb : b = false) : SpqAt l (k + 1) (k + 1) b (done ++ [(l.drop fr).take (k - fr)]) := by
  obtain ⟨h1, h2, h3 | h3⟩ := h
  · refine ⟨by simp; omega, Nat.le_refl _, .inl ⟨by omega, ?_⟩⟩
    rw [h3.2]
    conv => lhs; rw [List.drop_eq_getElem_cons hk, spq, if_pos ⟨hc, hb⟩]
    subst hb
    rw [Nat.sub_self, List.take_zero, addH_nil _ (spq_ne _ _)]
    simp [addH]
  · exact absurd hk (by omega)
theorem SpqAt.last {l : List UInt8} {k fr : Nat} {b : Bool} {done : List (List UInt8)} (h : SpqAt l k fr b done) (hk : k = l.length) : SpqAt l (k + 1) (k + 1) b (done ++ [(l.drop fr).take (k - fr)]) := by
  obtain ⟨h1, h2, h3 | h3⟩ := h
  · refine ⟨by simp; omega, Nat.le_refl _, .inr ⟨by omega, ?_⟩⟩
    rw [h3.2, List.drop_of_length_le (show l.length ≤ k by omega), spq]
    simp [addH]
  · exact absurd hk (by omega)
theorem extractT (s : ByteArray) (fr k : Nat) : (s.extract fr k).data.toList = (s.data.toList.drop fr).take (k - fr) := by
  have h1 : (s.extract fr k).data = s.data.extract fr k := by simp
  rw [h1, Array.toList_extract]
def tgS (p : List UInt8) : ByteArray := bytesOf (trimL p)
theorem bytes_is (s : ByteArray) (l : List UInt8) (h : s.data.toList = l) : s = bytesOf l := by
  apply ByteArray.ext; apply Array.ext'; rw [h]; rfl

set_option maxHeartbeats 2000000 in
theorem l9Split_any (s : ByteArray) (w : World) (hs : s.size ≤ 1048576) :
    Calls Tryd.prog 27 #[.string s] w fun e w' => (∃ g cap, e = .returned (.slice (some ⟨g, 0, none⟩) (spq false s.data.toList).length cap) ∧ w'.ownsRow w.heap.size 9 1 (.slice (some ⟨g, 0, none⟩) (spq false s.data.toList).length cap) (spq false s.data.toList).length (strCells ((spq false s.data.toList).map tgS))) ∧ Below w.heap.size w w' := by
  have EL := hide (show s.data.toList.length = s.size from Array.length_toList)
  go_enter Tryd.func27, Tryd.ntmps27
  go_wp2
  go_loopw [3, 4, 5, 6] (fun v f b i wr => ∃ (k fr : Nat) (q : Bool) (done : List (List UInt8)) (g cap : Nat), i = .int .i64 k ∧ f = .int .i64 fr ∧ b = .bool q ∧ v = .slice (some ⟨g, 0, none⟩) done.length cap ∧ k ≤ s.size + 1 ∧ SpqAt s.data.toList k fr q done ∧ wr.ownsRow w.heap.size 9 1 (.slice (some ⟨g, 0, none⟩) done.length cap) done.length (strCells (done.map tgS)) ∧ Below w.heap.size w wr) (fun _ _ _ i _ => s.size + 1 - (intOf i).toNat)
  case atStart => exact ⟨0, 0, false, [], w.heap.size, 0, rfl, rfl, rfl, rfl, Nat.zero_le _, SpqAt.start _, World.ownsRow_made w #[] 0 (Nat.le_refl _) (by decide) rfl, (Below.refl _ _).alloc (Nat.le_refl _) _⟩
  case round =>
    obtain ⟨k, fr, q, done, g, cap, rfl, rfl, rfl, rfl, hk1, hC, hown, hbe⟩ := hrel
    have HC := hide hC
    have hdl : done.length ≤ k := hC.1
    have hfk : fr ≤ k := hC.2.1
    clear hC
    by_cases hout : k ≤ s.size
    · have HE : Hid ((s.extract fr k).data.toList = (s.data.toList.drop fr).take (k - fr)) := extractT s fr k
      have HT := hide (fun W : World => specTrim_any (s.extract fr k) W (by rw [size_extract s fr k hout]; unfold maxLen; omega))
      by_cases hlt : k < s.size
      · have hne : ((k : Int) == s.size) = false := by
          apply beq_eq_false_iff_ne.2; omega
        by_cases hc : s[k] = 44
        · have b44 : ((s[k].toNat : Int) == 44) = true := by rw [hc]; rfl
          cases q
          · have HN := hide (HC.out.cut (by rw [EL.out]; exact hlt) hc rfl)
            clear hc
            go_wp2_with fail
            refine (HT.out _).mono ?_
            rintro e w1 ⟨⟨t, rfl, ht⟩, hw⟩
            obtain rfl := hw.symm
            have HTt := hide (bytes_is t _ (ht.trans (congrArg trimL HE.out)))
            clear ht
            go_wp2_with (at_builtin; refine wp_append_str rfl _ _ rfl w.heap.size _ done.length _ rfl (hown.alloc _) _ t rfl ?c1 ?c2 ?c3 ?_)
            case c1 => simp
            case c2 => omega
            case c3 => have := hbe.size; simp; omega
            intro g1 cap1 w1 ho1 hb1
            rw [HTt.out] at ho1
            go_wp2
            go_roundw
            case rel => exact ⟨k + 1, k + 1, false, done ++ [(s.data.toList.drop fr).take (k - fr)], g1, cap1, by go_num, by go_num, rfl, by rw [List.length_append]; rfl, by omega, HN.out, by rw [List.length_append, List.map_append]; exact ho1, (hbe.alloc hbe.size _).trans hb1⟩
            case measure => simp [intOf]; omega
          · have b34 : ((s[k].toNat : Int) == 34) = false := by rw [hc]; rfl
            have HN := hide (HC.out.skip (by rw [EL.out]; exact hlt) (by simp))
            have HQ := hide (show (if s.data.toList[k]'(by rw [EL.out]; exact hlt) = 34 then !true else true) = true by rw [if_neg]; show ¬ s[k] = 34; rw [hc]; decide)
            rw [HQ.out] at HN
            clear hc HQ
            go_wp2
            go_roundw
            case rel => exact ⟨k + 1, fr, true, done, g, cap, by go_num, rfl, rfl, rfl, by omega, HN.out, hown, hbe⟩
            case measure => simp [intOf]; omega
        · have b44 : ((s[k].toNat : Int) == 44) = false := u8ne (n := 44) (by decide) hc
          have HN := hide (HC.out.skip (by rw [EL.out]; exact hlt) (fun e => hc e.1))
          by_cases h34 : s[k] = 34
          · have b34 : ((s[k].toNat : Int) == 34) = true := by rw [h34]; rfl
            have HQ := hide (show (if s.data.toList[k]'(by rw [EL.out]; exact hlt) = 34 then !q else q) = !q by rw [if_pos]; exact h34)
            rw [HQ.out] at HN
            clear hc h34 HQ
            go_wp2
            go_roundw
            case rel => exact ⟨k + 1, fr, !q, done, g, cap, by go_num, rfl, rfl, rfl, by omega, HN.out, hown, hbe⟩
            case measure => simp [intOf]; omega
          · have b34 : ((s[k].toNat : Int) == 34) = false := u8ne (n := 34) (by decide) h34
            have HQ := hide (show (if s.data.toList[k]'(by rw [EL.out]; exact hlt) = 34 then !q else q) = q by rw [if_neg]; exact h34)
            rw [HQ.out] at HN
            clear hc h34 HQ
            go_wp2
            go_roundw
            case rel => exact ⟨k + 1, fr, q, done, g, cap, by go_num, rfl, rfl, rfl, by omega, HN.out, hown, hbe⟩
            case measure => simp [intOf]; omega
      · have hks : k = s.size := by omega
        have hne : ((k : Int) == s.size) = true := by rw [hks]; simp
        have HN := hide (HC.out.last (by rw [EL.out]; exact hks))
        clear hks
        go_wp2_with fail
        refine (HT.out _).mono ?_
        rintro e w1 ⟨⟨t, rfl, ht⟩, hw⟩
        obtain rfl := hw.symm
        have HTt := hide (bytes_is t _ (ht.trans (congrArg trimL HE.out)))
        clear ht
        go_wp2_with (at_builtin; refine wp_append_str rfl _ _ rfl w.heap.size _ done.length _ rfl (hown.alloc _) _ t rfl ?c1 ?c2 ?c3 ?_)
        case c1 => simp
        case c2 => omega
        case c3 => have := hbe.size; simp; omega
        intro g1 cap1 w1 ho1 hb1
        rw [HTt.out] at ho1
        go_wp2
        go_roundw
        case rel => exact ⟨k + 1, k + 1, q, done ++ [(s.data.toList.drop fr).take (k - fr)], g1, cap1, by go_num, by go_num, rfl, by rw [List.length_append]; rfl, by omega, HN.out, by rw [List.length_append, List.map_append]; exact ho1, (hbe.alloc hbe.size _).trans hb1⟩
        case measure => simp [intOf]; omega
    · have hd : done = spq false s.data.toList := by
        obtain ⟨_, _, h3 | h3⟩ := HC.out
        · have := h3.1; rw [EL.out] at this; exact absurd this hout
        · exact h3.2
      have HD := hide hd
      clear hd
      go_wp2
      go_ret
      rw [← HD.out]
      exact ⟨⟨g, cap, rfl, hown⟩, hbe⟩
end Go.Proofs.YtccehdlgpbeijaaDoor
