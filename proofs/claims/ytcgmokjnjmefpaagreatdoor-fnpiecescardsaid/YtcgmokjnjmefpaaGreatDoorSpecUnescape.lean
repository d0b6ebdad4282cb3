/-
  What the specification's Unescape does.
-/
import Derived.Test.YtcgmokjnjmefpaaGreatDoorMathMark2
import Derived.Test.YtcgmokjnjmefpaaGreatDoorHide
import Derived.Test.YtcgmokjnjmefpaaGreatDoorIsU8
import Derived.Test.YtcgmokjnjmefpaaGreatDoorOwnBytes
import Derived.Test.YtcgmokjnjmefpaaGreatDoorSpecParse
namespace Go.Proofs.YtcgmokjnjmefpaaGreatDoor
open Go.RowKit M
set_option linter.unusedVariables false

/-- The byte that a name stands for, as a number; -1: none. -/
def entZ (l : List UInt8) : Int := match entL l with | some c => (c.toNat : Int) | none => -1
theorem entZ_some {l : List UInt8} {c : UInt8} (h : entL l = some c) : entZ l = (c.toNat : Int) := by unfold entZ; rw [h]
theorem entZ_none {l : List UInt8} (h : entL l = none) : entZ l = -1 := by unfold entZ; rw [h]
theorem eqL2 (s : ByteArray) (l : List UInt8) : (s.toList == l) = decide (s.data.toList = l) := by
  rw [ByteArray.toList_eq, Bool.eq_iff_iff]; simp
theorem ret_int7 {a b : Int} (h : a = b) : Ending.returned (.int .i64 a) = .returned (.int .i64 b) := by rw [h]

set_option maxRecDepth 100000 in
set_option maxHeartbeats 2000000 in
theorem l7Entity_any (s : ByteArray) (w : World) (hs : s.size ≤ maxLen) :
    Calls Tryz.prog 126 #[.string s] w fun e w' => e = .returned (.int .i64 (entZ s.data.toList)) ∧ w' = w := by
  have el : s.data.toList.length = s.size := Array.length_toList
  have hsm := hs
  unfold maxLen at hs
  have e1 := eqL2 s [97, 109, 112]
  have e2 := eqL2 s [108, 116]
  have e3 := eqL2 s [103, 116]
  have e4 := eqL2 s [113, 117, 111, 116]
  have e5 := eqL2 s [97, 112, 111, 115]
  by_cases h1 : s.data.toList = [97, 109, 112]
  · have HE := hide (show (38 : Int) = entZ s.data.toList by rw [h1, entZ_some ent_amp]; rfl)
    rw [decide_eq_true h1] at e1
    clear h1 e2 e3 e4 e5 el
    go_enter Tryz.func126, Tryz.ntmps126
    go_wp2
    go_ret
    exact ⟨ret_int7 HE.out, rfl⟩
  rw [decide_eq_false h1] at e1
  by_cases h2 : s.data.toList = [108, 116]
  · have HE := hide (show (60 : Int) = entZ s.data.toList by rw [h2, entZ_some ent_lt]; rfl)
    rw [decide_eq_true h2] at e2
    clear h1 h2 e3 e4 e5 el
    go_enter Tryz.func126, Tryz.ntmps126
    go_wp2
    go_ret
    exact ⟨ret_int7 HE.out, rfl⟩
  rw [decide_eq_false h2] at e2
  by_cases h3 : s.data.toList = [103, 116]
  · have HE := hide (show (62 : Int) = entZ s.data.toList by rw [h3, entZ_some ent_gt]; rfl)
    rw [decide_eq_true h3] at e3
    clear h1 h2 h3 e4 e5 el
    go_enter Tryz.func126, Tryz.ntmps126
    go_wp2
    go_ret
    exact ⟨ret_int7 HE.out, rfl⟩
  rw [decide_eq_false h3] at e3
  by_cases h4 : s.data.toList = [113, 117, 111, 116]
  · have HE := hide (show (34 : Int) = entZ s.data.toList by rw [h4, entZ_some ent_quot]; rfl)
    rw [decide_eq_true h4] at e4
    clear h1 h2 h3 h4 e5 el
    go_enter Tryz.func126, Tryz.ntmps126
    go_wp2
    go_ret
    exact ⟨ret_int7 HE.out, rfl⟩
  rw [decide_eq_false h4] at e4
  by_cases h5 : s.data.toList = [97, 112, 111, 115]
  · have HE := hide (show (39 : Int) = entZ s.data.toList by rw [h5, entZ_some ent_apos]; rfl)
    rw [decide_eq_true h5] at e5
    clear h1 h2 h3 h4 h5 el
    go_enter Tryz.func126, Tryz.ntmps126
    go_wp2
    go_ret
    exact ⟨ret_int7 HE.out, rfl⟩
  rw [decide_eq_false h5] at e5
  have hfree : entFree s.data.toList := ⟨h1, h2, h3, h4, h5⟩
  clear h1 h2 h3 h4 h5
  by_cases hl1 : 1 < s.size
  · have hl1' : (1 : Int) < s.size := by omega
    have hl0 : 0 < s.size := by omega
    have hl0' : (0 : Int) < s.size := by omega
    have hl2' : (1 : Int) ≤ s.size := by omega
    have hc := drop_cons s 0 hl0
    rw [List.drop_zero] at hc
    have e6 := is_u8 s[0] 35 35 rfl
    by_cases h35 : s[0] = 35
    · rw [decide_eq_true h35] at e6
      have hent := ent_num hfree (by rw [hc, h35]; rfl)
      obtain ⟨t, ht⟩ : ∃ t : ByteArray, s.extract 1 s.size = t := ⟨_, rfl⟩
      have htl : t.data.toList = s.data.toList.tail := by rw [← ht, extract_rest s 1, List.drop_one]
      have hts : t.size ≤ maxLen := by
        have h1 : t.data.toList.length = t.size := Array.length_toList
        rw [htl, List.length_tail] at h1; omega
      have HN := hide (fun W : World => specParseNum_any t 126 W hts)
      rw [htl] at HN
      by_cases hok : parseOk s.data.toList.tail 126
      · rw [parseNum_yes hok] at HN hent
        have hm : decVal s.data.toList.tail ≤ 126 := by have := hok.2.2.2.2; omega
        obtain ⟨n, hn⟩ : ∃ n, decVal s.data.toList.tail = n := ⟨_, rfl⟩
        rw [hn] at HN hent hm
        by_cases h32 : (32 : Int) ≤ n
        · have HE : Hid ((n : Int) = entZ s.data.toList) := by
            have : entL s.data.toList = some (UInt8.ofNat n) := by rw [hent]; simp; omega
            show (n : Int) = _
            rw [entZ_some this, UInt8.toNat_ofNat']; omega
          clear hent hfree hok hn htl el hc h35
          go_enter Tryz.func126, Tryz.ntmps126
          go_wp2_with fail
          refine (HN.out w).mono ?_
          rintro e w1 ⟨rfl, hw1⟩
          obtain rfl := hw1.symm
          go_wp2
          go_ret
          exact ⟨ret_int7 HE.out, rfl⟩
        · have HE : Hid (-1 = entZ s.data.toList) := by
            have : entL s.data.toList = none := by rw [hent]; simp; omega
            show -1 = _
            rw [entZ_none this]
          have h32' : (n : Int) < 32 := by omega
          clear hent hfree hok hn htl el hc h35
          go_enter Tryz.func126, Tryz.ntmps126
          go_wp2_with fail
          refine (HN.out w).mono ?_
          rintro e w1 ⟨rfl, hw1⟩
          obtain rfl := hw1.symm
          go_wp2
          go_ret
          exact ⟨ret_int7 HE.out, rfl⟩
      · rw [parseNum_no hok] at HN hent
        have HE : Hid (-1 = entZ s.data.toList) := by
          show -1 = _
          rw [entZ_none (by rw [hent]; rfl)]
        clear hent hfree hok htl el hc h35
        go_enter Tryz.func126, Tryz.ntmps126
        go_wp2_with fail
        refine (HN.out w).mono ?_
        rintro e w1 ⟨rfl, hw1⟩
        obtain rfl := hw1.symm
        go_wp2
        go_ret
        exact ⟨ret_int7 HE.out, rfl⟩
    · rw [decide_eq_false h35] at e6
      have HE : Hid (-1 = entZ s.data.toList) := by
        show -1 = _
        rw [entZ_none (ent_not hfree (by rw [hc]; intro e; exact h35 (Option.some.inj e)))]
      clear hfree el hc h35
      go_enter Tryz.func126, Tryz.ntmps126
      go_wp2
      go_ret
      exact ⟨ret_int7 HE.out, rfl⟩
  · have hl1' : ¬ (1 : Int) < s.size := by omega
    have HE : Hid (-1 = entZ s.data.toList) := by
      show -1 = _
      by_cases h35 : s.data.toList.head? = some 35
      · have hent := ent_num hfree h35
        have ht : s.data.toList.tail = [] := List.length_eq_zero_iff.1 (by rw [List.length_tail]; omega)
        rw [ht, parseNum_no (fun h => absurd h.1 (by simp))] at hent
        rw [entZ_none (by rw [hent]; rfl)]
      · rw [entZ_none (ent_not hfree h35)]
    clear hfree el hl1
    go_enter Tryz.func126, Tryz.ntmps126
    go_wp2
    go_ret
    exact ⟨ret_int7 HE.out, rfl⟩

theorem ret_ue2 {l : List UInt8} {b : Bool} {r : List UInt8 × Bool} (h : r = (l, b)) : Ending.returned (.tuple #[.string ⟨l.toArray⟩, .bool b]) = .returned (.tuple #[.string (bytesOf r.1), .bool r.2]) := by subst h; rfl

set_option maxRecDepth 100000 in
set_option maxHeartbeats 4000000 in
theorem specUnescape_any (s : ByteArray) (w : World) (hs : s.size ≤ 1099511627776) :
    Calls Tryz.prog 81 #[.string s] w fun e w' => e = .returned (.tuple #[.string (bytesOf (unescR s.data.toList).1), .bool (unescR s.data.toList).2]) ∧ Below w.heap.size w w' := by
  have el : s.data.toList.length = s.size := Array.length_toList
  have EL := hide el
  clear el
  go_enter Tryz.func81, Tryz.ntmps81
  go_wp2
  go_loopw [4, 5] (fun v i wr => ∃ (k : Nat) (acc : List UInt8), k ≤ s.size ∧ acc.length ≤ s.size ∧ UeAt s.data.toList (s.data.toList.drop k) acc ∧ i = .int .i64 k ∧ wr.ownsRow w.heap.size 5 1 v acc.length (Lib.byteCells acc) ∧ Below w.heap.size w wr) (fun _ i _ => s.size - (intOf i).toNat)
  case atStart => exact ⟨0, [], Nat.zero_le _, Nat.zero_le _, UeAt.start _, rfl, World.ownsRow_made w #[] 0 (Nat.le_refl _) (by decide) rfl, (Below.refl _ _).alloc (Nat.le_refl _) _⟩
  case round =>
    obtain ⟨k, acc, hks, hak, hU, rfl, hown, hbe⟩ := hrel
    have HU := hide hU
    clear hU
    by_cases hlt : k < s.size
    · have hlt' : (k : Int) < s.size := by omega
      have hk0 : (0 : Int) ≤ k := by omega
      have e1 := is_u8 s[k] 60 60 rfl
      have e2 := is_u8 s[k] 38 38 rfl
      have e3 := isn_u8 s[k] 38 38 rfl
      have hD := drop_cons s k hlt
      have HD := hide hD
      clear hD
      by_cases h60 : s[k] = 60
      · rw [decide_eq_true h60] at e1
        have HB : Hid (unescR s.data.toList = ([], false)) := HU.out.bad (by rw [HD.out]; simp) (by rw [HD.out, h60]; exact stepL_open _)
        clear h60 e2 e3
        go_wp2
        go_ret2
        exact ⟨ret_ue2 HB.out, hbe⟩
      rw [decide_eq_false h60] at e1
      by_cases h38 : s[k] = 38
      · rw [decide_eq_true h38] at e2 e3
        have ha := upTo_len s 59 (k + 1) (by omega)
        have HST : Hid (s.data.toList.drop k = 38 :: s.data.toList.drop (k + 1)) := by
          show s.data.toList.drop k = _
          rw [HD.out, h38]
        have HAT := hide (fun (j : Nat) (h1 : k + 1 ≤ j) (h2 : j < s.size) (h3 : j ≤ k + 1 + (upTo 59 (s.data.toList.drop (k + 1))).length) => upTo_at s 59 (k + 1) j h1 h2 h3)
        have HX := hide (extract_upTo s 59 (k + 1))
        have HR := hide (drop_upTo s 59 (k + 1))
        have HF := hide ha.2
        have HEN := hide (fun W : World => fun h => l7Entity_any (s.extract (k + 1) (k + 1 + (upTo 59 (s.data.toList.drop (k + 1))).length)) W h)
        rw [HX.out] at HEN
        have hm1 := ha.1
        obtain ⟨m, hm⟩ : ∃ m, k + 1 + (upTo 59 (s.data.toList.drop (k + 1))).length = m := ⟨_, rfl⟩
        have hkm : k + 1 ≤ m := by omega
        rw [hm] at HAT HR HF HEN hm1
        clear ha h38 h60 HX hm HD
        go_wp2
        go_loop [6] (fun j => ∃ n : Nat, k + 1 ≤ n ∧ n ≤ m ∧ j = .int .i64 n) (fun j => m - (intOf j).toNat)
        case atStart => exact ⟨k + 1, Nat.le_refl _, hkm, by go_num⟩
        case round =>
          obtain ⟨n, hn1, hn2, rfl⟩ := hrel
          by_cases hnm : n < m
          · have hns : n < s.size := by omega
            have hns' : (n : Int) < s.size := by omega
            have hn0 : (0 : Int) ≤ n := by omega
            have e4 := isn_u8 s[n] 59 59 rfl
            have hne : ¬ s[n] = 59 := fun e => by have := (HAT.out n hn1 hns hn2).1 e; omega
            rw [decide_eq_false hne] at e4
            clear hne
            go_wp2
            go_round
            case rel => exact ⟨n + 1, by omega, by omega, by go_num⟩
            case measure => simp [intOf]; omega
          · obtain rfl : n = m := by omega
            by_cases hns : n < s.size
            · have hns' : (n : Int) < s.size := by omega
              have hn0 : (0 : Int) ≤ n := by omega
              have hk1' : (k : Int) + 1 ≤ n := by omega
              have hns2 : (n : Int) ≤ s.size := by omega
              have hnq : ((n : Int) == (s.size : Int)) = false := by rw [beq_eq_false_iff_ne]; omega
              have e4 := isn_u8 s[n] 59 59 rfl
              have heq : s[n] = 59 := (HAT.out n hn1 hns hn2).2 rfl
              rw [decide_eq_true heq] at e4
              have hfn : fromB 59 (s.data.toList.drop (k + 1)) ≠ [] := fun e => by have := HF.out.2 e; omega
              have HFN := hide hfn
              have hsz : (s.extract (k + 1) n).size ≤ maxLen := by rw [ByteArray.size_extract]; unfold maxLen; omega
              have HE2 := hide (fun W : World => HEN.out W hsz)
              clear hfn heq HAT HF HEN
              cases hen : entL (upTo 59 (s.data.toList.drop (k + 1))) with
              | none =>
                rw [entZ_none hen] at HE2
                have HB : Hid (unescR s.data.toList = ([], false)) := HU.out.bad (by rw [HST.out]; simp) (by rw [HST.out]; exact stepL_bad _ hen)
                clear hen
                go_wp2_with (go_at_call 126; refine (HE2.out _).mono ?_; rintro e w1 ⟨rfl, hw⟩; obtain rfl := hw.symm)
                go_ret2
                exact ⟨ret_ue2 HB.out, hbe⟩
              | some c =>
                rw [entZ_some hen] at HE2
                have hc255 := UInt8.toNat_lt c
                have hst := stepL_ent _ c HFN.out hen
                have hU2 := HU.out
                rw [HST.out] at hU2
                have hU3 := hU2.step hst
                rw [← HR.out] at hU3
                have HU3 := hide hU3
                have hlen : acc.length + 1 ≤ s.size := by
                  have h1 := hU3.1
                  have h2 := EL.out
                  rw [List.length_append] at h1
                  simp only [List.length_cons, List.length_nil] at h1
                  omega
                have hbw : IntKind.u8.wrap (c.toNat : Int) = (c.toNat : Int) := by rw [IntKind.wrap_u8]; omega
                clear hen hst hU2 hU3 HST HR HFN HU
                go_wp2_with (first | (go_at_call 126; refine (HE2.out _).mono ?_; rintro e w1 ⟨rfl, hw⟩; obtain rfl := hw.symm) | (at_builtin; refine wp_append_byte rfl _ _ rfl w.heap.size _ acc.length _ rfl (hown.alloc _) _ c rfl ?c1 ?c2 ?c3 ?_))
                case c1 => simp
                case c2 => omega
                case c3 => have := hbe.size; simp; omega
                intro v1 w1 ho1 hb1
                go_wp2
                go_roundw
                case rel => exact ⟨n + 1, acc ++ [c], by omega, by simp; omega, HU3.out, by go_num, by rw [List.length_append]; exact ho1, (hbe.alloc hbe.size _).trans hb1⟩
                case measure => simp [intOf]; omega
            · have hne : n = s.size := by omega
              have HB : Hid (unescR s.data.toList = ([], false)) := HU.out.bad (by rw [HST.out]; simp) (by rw [HST.out]; exact stepL_short _ (HF.out.1 hne))
              have hns' : ¬ (n : Int) < s.size := by omega
              have hnq : ((n : Int) == (s.size : Int)) = true := by rw [beq_iff_eq]; omega
              clear HAT HF HEN HR HST
              go_wp2
              go_ret2
              exact ⟨ret_ue2 HB.out, hbe⟩
      · rw [decide_eq_false h38] at e2 e3
        have hU2 := HU.out
        rw [HD.out] at hU2
        have hU3 := hU2.plain h60 h38
        have HU3 := hide hU3
        have hlen : acc.length + 1 ≤ s.size := by
          have h1 := hU3.1
          have h2 := EL.out
          rw [List.length_append] at h1
          simp only [List.length_cons, List.length_nil] at h1
          omega
        clear h60 h38 hU2 hU3 HU HD
        go_wp2_with (at_builtin; refine wp_append_byte rfl _ _ rfl w.heap.size _ acc.length _ rfl (hown.alloc _) _ s[k] rfl ?c1 ?c2 ?c3 ?_)
        case c1 => simp
        case c2 => omega
        case c3 => have := hbe.size; simp; omega
        intro v1 w1 ho1 hb1
        go_wp2
        go_roundw
        case rel => exact ⟨k + 1, acc ++ [s[k]], by omega, by simp; omega, HU3.out, by go_num, by rw [List.length_append]; exact ho1, (hbe.alloc hbe.size _).trans hb1⟩
        case measure => simp [intOf]; omega
    · have hcv := conv_own hown
      have hd := HU.out
      rw [drop_none s k hlt] at hd
      have HD := hide hd.done
      clear hd
      go_wp2
      go_ret2
      exact ⟨ret_ue2 HD.out, hbe⟩
end Go.Proofs.YtcgmokjnjmefpaaGreatDoor
