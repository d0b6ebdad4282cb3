/-
  What the specification's l1HexOf and ParseHex do.
  What the specification's GetChunks does.
  What the specification's GetChunks does.
  Plain facts on where a head ends: no program in sight.
  Bytes as numbers.
  Plain facts on how a request is read: no program in sight.
  Plain facts on where a text is cut: no program in sight.
  What the program's wordAhead does.
  A store into a row, as the memory has it then.
  What the program's Lower does.
-/
import Derived.Test.YtcgmokjnjmefpaaGreatDoorParseBase
import Derived.Test.YtcgmokjnjmefpaaGreatDoorSpecSm
import Derived.Test.YtcgmokjnjmefpaaGreatDoorParseHex
import Derived.Test.YtcgmokjnjmefpaaGreatDoorStepByts
import Derived.Test.YtcgmokjnjmefpaaGreatDoorHeads
import Derived.Lib.Index
import Derived.Lib.IndexMore
import Derived.Test.YtcgmokjnjmefpaaGreatDoorShelf
import Derived.Lib.ConvBytes
import Derived.Lib.SlBytesConst
import Derived.Lib.IndexBytes
import Derived.Scope
import Derived.WalkMore
import Derived.Laws.Rows
import Derived.Laws.ResultCell
import Derived.Test.YtcgmokjnjmefpaaGreatDoorPutHead
namespace Go.Proofs.YtcgmokjnjmefpaaGreatDoor
open Go.RowKit M

set_option maxHeartbeats 1000000 in
theorem specParseHex_any (s : ByteArray) (w : World) (hs : s.size ≤ maxLen) :
    Calls Tryz.prog 88 #[.string s] w fun e w' => e = .returned (.tuple #[.int .i64 (parseHex s.data.toList).1, .bool (parseHex s.data.toList).2]) ∧ w' = w := by
  unfold maxLen at hs
  go_enter Tryz.func88, Tryz.ntmps88
  go_wp2
  go_loop [4, 5] (fun n i => ∃ k : Nat, k ≤ s.size ∧ k ≤ 5 ∧ i = .int .i64 k ∧ n = .int .i64 (hexVal (s.data.toList.take k)) ∧ hexs (s.data.toList.take k) = true) (fun _ i => s.size - (intOf i).toNat)
  case atStart => exact ⟨0, Nat.zero_le _, Nat.zero_le _, rfl, rfl, rfl⟩
  case round =>
    obtain ⟨k, hk, hk5, rfl, rfl, hn⟩ := hrel
    have HN : Hid (hexs (s.data.toList.take k) = true) := hn
    have hv : hexVal (s.data.toList.take k) < 1048576 := by
      have h1 := hexVal_lt s k hk hn
      have h4 := pow16_le hk5
      omega
    clear hn
    by_cases hlt : k < s.size
    · by_cases hl5 : k < 5
      · cases hb : isHex s[k]
        · go_wp2_with (go_at_call 130; refine (l1HexOf_any _ _).mono ?_; rintro e w' ⟨rfl, rfl⟩; rw [hexOf_no hb])
          go_ret2
          exact ⟨ret_two (by rw [parseHex_no (hexs_not s k hlt hb)]), rfl⟩
        · have hw16 := hexW_lt hb
          have HV : Hid (hexVal (s.data.toList.take (k + 1)) = hexVal (s.data.toList.take k) * 16 + hexW s[k]) := hexVal_step s k hlt
          have HO : Hid (hexOf s[k] = (hexW s[k] : Int)) := hexOf_yes hb
          generalize hexVal (s.data.toList.take k) = v at *
          generalize hexW s[k] = d at *
          go_wp2_with (go_at_call 130; refine (l1HexOf_any _ _).mono ?_; rintro e w' ⟨rfl, rfl⟩; rw [HO.out])
          go_round
          case rel =>
            refine ⟨k + 1, by omega, by omega, by go_num, ?_, hexs_snoc s k hlt HN.out hb⟩
            rw [HV.out]
            go_num
          case measure => simp [intOf]; omega
      · have hin : inB (s.size : Int) 1 4 = false := by simp [inB]; omega
        go_wp2_with (go_at_call 51; refine (l1In_any _ _ _ _).mono ?_; rintro e w' ⟨rfl, rfl⟩; rw [hin])
        go_ret2
        exact ⟨ret_two (by rw [parseHex_size hin]), rfl⟩
    · have HD : Hid (hexs s.data.toList = true) := by
        have := HN.out
        rwa [take_all s k hlt] at this
      rw [take_all s k hlt] at hv ⊢
      cases hin : inB (s.size : Int) 1 4
      · go_wp2_with (go_at_call 51; refine (l1In_any _ _ _ _).mono ?_; rintro e w' ⟨rfl, rfl⟩; rw [hin])
        go_ret2
        exact ⟨ret_two (by rw [parseHex_size hin]), rfl⟩
      · have HQ : Hid (parseHex s.data.toList = ((hexVal s.data.toList : Int), true)) := parseHex_yes hin HD.out
        go_wp2_with (go_at_call 51; refine (l1In_any _ _ _ _).mono ?_; rintro e w' ⟨rfl, rfl⟩; rw [hin])
        go_ret2
        exact ⟨ret_two (by rw [HQ.out]), rfl⟩
end Go.Proofs.YtcgmokjnjmefpaaGreatDoor
namespace Go.Proofs.YtcgmokjnjmefpaaGreatDoor
open Go.RowKit M
set_option linter.unusedVariables false

theorem byt_eq {l : List UInt8} {k : Nat} (h : k < l.length) (c : UInt8) (hc : l.getD k 0 = c) : ((l[k].toNat : Int) != (c.toNat : Int)) = false := by
  have e : l[k] = c := by rw [← hc]; simp [List.getD, List.getElem?_eq_getElem h]
  rw [e]; simp
theorem byt_ne {l : List UInt8} {k : Nat} (h : k < l.length) (c : UInt8) (hc : l.getD k 0 ≠ c) : ((l[k].toNat : Int) != (c.toNat : Int)) = true := by
  have e : l[k] = l.getD k 0 := by simp [List.getD, List.getElem?_eq_getElem h]
  rw [bne_iff_ne]; intro h2; exact hc (by rw [← e]; exact UInt8.toNat_inj.1 (by omega))

set_option maxHeartbeats 1000000 in
theorem l4End_any (a : Option Addr) (l : List UInt8) (cap B k : Nat) (w : World) (h : Byt w B a l) (hl : l.length ≤ 1073741824) (hk : k ≤ 1073741824) :
    Calls Tryz.prog 53 #[.slice a l.length cap, .int .i64 k] w fun e w' => e = .returned (.int .i64 (endC l k)) ∧ w' = w := by
  by_cases h1 : k < l.length
  · obtain ⟨b, o, rfl, hb, hc⟩ := h (by omega)
    have hc0 := hc k h1
    by_cases h2 : l.getD k 0 = 13
    · have e2 : ((l[k].toNat : Int) != 13) = false := byt_eq h1 13 h2
      by_cases h3 : k + 1 < l.length
      · have hc1 := hc (k + 1) h3
        by_cases h4 : l.getD (k + 1) 0 = 10
        · have e4 : ((l[k + 1].toNat : Int) != 10) = false := byt_eq h3 10 h4
          have HE : Hid (endC l k = 0) := by show endC l k = 0; unfold endC; rw [if_neg (by omega), if_neg (by simp only [h2]; simp), if_neg (by omega), if_neg (by simp only [h4]; simp)]
          clear hc h2 h4
          go_enter Tryz.func53, Tryz.ntmps53
          go_wp2
          go_ret
          exact ⟨ret_int HE.out.symm, rfl⟩
        · have e4 : ((l[k + 1].toNat : Int) != 10) = true := byt_ne h3 10 h4
          have HE : Hid (endC l k = 400) := by show endC l k = 400; unfold endC; rw [if_neg (by omega), if_neg (by simp only [h2]; simp), if_neg (by omega), if_pos h4]
          clear hc h2 h4
          go_enter Tryz.func53, Tryz.ntmps53
          go_wp2
          go_ret
          exact ⟨ret_int HE.out.symm, rfl⟩
      · have HE : Hid (endC l k = 1) := by show endC l k = 1; unfold endC; rw [if_neg (by omega), if_neg (by simp only [h2]; simp), if_pos (by omega)]
        clear hc h2
        go_enter Tryz.func53, Tryz.ntmps53
        go_wp2
        go_ret
        exact ⟨ret_int HE.out.symm, rfl⟩
    · have e2 : ((l[k].toNat : Int) != 13) = true := byt_ne h1 13 h2
      have HE : Hid (endC l k = 400) := by show endC l k = 400; unfold endC; rw [if_neg (by omega), if_pos h2]
      clear hc h2
      go_enter Tryz.func53, Tryz.ntmps53
      go_wp2
      go_ret
      exact ⟨ret_int HE.out.symm, rfl⟩
  · have HE : Hid (endC l k = 1) := by show endC l k = 1; unfold endC; rw [if_pos (by omega)]
    go_enter Tryz.func53, Tryz.ntmps53
    go_wp2
    go_ret
    exact ⟨ret_int HE.out.symm, rfl⟩

theorem ret_size {a b c a' b' c' : Int} (h1 : a = a') (h2 : b = b') (h3 : c = c') : Ending.returned (.tuple #[.int .i64 a, .int .i64 b, .int .i64 c]) = .returned (.tuple #[.int .i64 a', .int .i64 b', .int .i64 c']) := by rw [h1, h2, h3]
def sz3 (l : List UInt8) (a : Nat) : Int × Int × Int := if szC l a = 0 then ((szN l a : Int), (szP l a : Int), 0) else (0, 0, szC l a)
theorem sz3_bad {l : List UInt8} {a : Nat} {c : Int} (h : szC l a = c) (hc : c ≠ 0) : sz3 l a = (0, 0, c) := by unfold sz3; rw [h, if_neg hc]
theorem sz3_good {l : List UInt8} {a : Nat} (h : szC l a = 0) : sz3 l a = ((szN l a : Int), (szP l a : Int), 0) := by unfold sz3; rw [if_pos h]

theorem szC_no {l : List UInt8} {a : Nat} (ha : a < l.length) (h : hexB (wordC l a) = false) : szC l a = 400 := by unfold szC; rw [if_neg (by omega), if_neg (by simp [h])]
theorem szC_yes {l : List UInt8} {a : Nat} (ha : a < l.length) (h : hexB (wordC l a) = true) : szC l a = endC l (a + (wordC l a).length) := by unfold szC; rw [if_neg (by omega), if_pos h]
theorem hex_no {l : List UInt8} (h : hexB l = false) (W : World) (hl : l.length ≤ maxLen) : Calls Tryz.prog 88 #[.string ⟨l.toArray⟩] W fun e w' => e = .returned (.tuple #[.int .i64 0, .bool false]) ∧ w' = W := by
  have hp := specParseHex_any ⟨l.toArray⟩ W hl
  have e : parseHex ((⟨l.toArray⟩ : ByteArray).data.toList) = (0, false) := by show parseHex l = _; unfold parseHex; rw [if_neg (by simp [h])]
  rwa [e] at hp
theorem hex_yes {l : List UInt8} (h : hexB l = true) (W : World) (hl : l.length ≤ maxLen) : Calls Tryz.prog 88 #[.string ⟨l.toArray⟩] W fun e w' => e = .returned (.tuple #[.int .i64 (hexVal l : Int), .bool true]) ∧ w' = W := by
  have hp := specParseHex_any ⟨l.toArray⟩ W hl
  have e : parseHex ((⟨l.toArray⟩ : ByteArray).data.toList) = ((hexVal l : Int), true) := by show parseHex l = _; unfold parseHex; rw [if_pos h]
  rwa [e] at hp
/-- 'string(b[at:k])' where that is the word. -/
theorem conv_word {w : World} {B b o : Nat} {l : List UInt8} (h : Byt w B (some ⟨b, o, none⟩) l) (k0 k c n : Nat) (hk : (wordC l k0).length = k - k0) : (convert 22 9 (.slice (some ⟨b, o + k0, none⟩) (k - k0) c)).run Tryz.prog (w.drewN n) = .ok (.string ⟨(wordC l k0).toArray⟩) (w.drewN n) := by
  have h1 : Byt (w.drewN n) B (some ⟨b, o, none⟩) l := h
  have h2 := (h1.drop k0).take (wordC l k0).length
  rw [wordC_take] at h2
  exact conv_byt h2 (k - k0) c hk

set_option maxRecDepth 100000 in
set_option maxHeartbeats 2000000 in
theorem l4Size_any (a : Option Addr) (l : List UInt8) (cap B k0 : Nat) (w : World) (h : Byt w B a l) (hl : l.length ≤ 1073741824) (hlc : l.length ≤ cap) (hcm : cap ≤ maxLen) (hk : k0 ≤ l.length) :
    Calls Tryz.prog 52 #[.slice a l.length cap, .int .i64 k0] w fun e w' => e = .returned (.tuple #[.int .i64 (sz3 l k0).1, .int .i64 (sz3 l k0).2.1, .int .i64 (sz3 l k0).2.2]) ∧ ∃ n, w' = w.drewN n := by
  unfold maxLen at hcm
  have HB := hide h
  go_enter Tryz.func52, Tryz.ntmps52
  go_wp2
  go_loopw [7] (fun kv wr => ∃ k n : Nat, k0 ≤ k ∧ k ≤ k0 + 5 ∧ k ≤ l.length ∧ kv = .int .i64 k ∧ k - k0 ≤ (wordC l k0).length ∧ wr = w.drewN n) (fun kv _ => k0 + 5 - (intOf kv).toNat)
  case atStart => exact ⟨k0, 0, Nat.le_refl _, by omega, hk, rfl, by omega, rfl⟩
  case round =>
    obtain ⟨k, n, h1, h2, h3, rfl, h4, rfl⟩ := hrel
    have HW := hide h4
    clear h4
    have hw5 : IntKind.i64.wrap ((k0 : Int) + 5) = (k0 : Int) + 5 := by rw [IntKind.wrap_i64]; omega
    by_cases c1 : k < l.length
    · have c1' : (k : Int) < l.length := by omega
      by_cases c2 : k < k0 + 5
      · have c2' : (k : Int) < (k0 : Int) + 5 := by omega
        obtain ⟨b, o, rfl, hb, hc⟩ := h (by omega)
        have hc0 := hc k c1
        by_cases c3 : l.getD k 0 = 13
        · have e3 : ((l[k].toNat : Int) != 13) = false := byt_eq c1 13 c3
          have HL : Hid ((wordC l k0).length = k - k0) := by
            show (wordC l k0).length = k - k0
            exact wordC_stop (a := k0) (j := k - k0) (by omega) HW.out (by rw [show k0 + (k - k0) = k by omega]; exact c3)
          have hcv := conv_word h k0 k (cap - k0) n HL.out
          have hwm : (wordC l k0).length ≤ maxLen := by unfold maxLen; have := wordC_le l k0; omega
          have hne5 : ((k : Int) == (k0 : Int) + 5) = false := by rw [beq_eq_false_iff_ne]; omega
          have hEk : k0 + (wordC l k0).length = k := by have := HL.out; omega
          have HEk := hide hEk
          clear hc hEk
          cases hx : hexB (wordC l k0)
          · have HE : Hid (sz3 l k0 = (0, 0, 400)) := sz3_bad (szC_no (by omega) hx) (by decide)
            have HX := fun W => hex_no hx W hwm
            have HX' := hide HX
            clear c3 HX hwm
            go_wp2_with fail
            refine (HX'.out _).mono ?_
            rintro e w1 ⟨rfl, hw1⟩
            obtain rfl := hw1.symm
            go_wp2
            refine bodyPost_ret (v := .tuple #[.int .i64 0, .int .i64 0, .int .i64 400]) (by simp [results, Tryz.results52, go_sem]) rfl ⟨by rw [HE.out], n, rfl⟩
          · have HX := fun W => hex_yes hx W hwm
            have HX' := hide HX
            have HSy := hide (szC_yes (a := k0) (by omega) hx)
            have hv : hexVal (wordC l k0) < 1048576 := by
              have := hexVal_lt (⟨(wordC l k0).toArray⟩ : ByteArray) (wordC l k0).length (Nat.le_refl _) (by show hexs (List.take _ (wordC l k0)) = true; rw [List.take_length]; simp only [hexB, Bool.and_eq_true] at hx; exact hx.2.2)
              have h5 : (wordC l k0).length ≤ 5 := by have := HL.out; omega
              have h16 := pow16_le h5
              have e : List.take (wordC l k0).length ((⟨(wordC l k0).toArray⟩ : ByteArray).data.toList) = wordC l k0 := List.take_length
              rw [e] at this
              omega
            clear HX hwm
            by_cases c4 : k + 1 < l.length
            · have c4' : ¬ ((l.length : Int) ≤ (k : Int) + 1) := by omega
              have hc1 := (h (by omega))
              obtain ⟨b', o', hbo, _, hcc⟩ := hc1
              cases hbo
              have hc2 := hcc (k + 1) c4
              clear hcc
              by_cases c5 : l.getD (k + 1) 0 = 10
              · have e5 : ((l[k + 1].toNat : Int) != 10) = false := byt_eq c4 10 c5
                have HE : Hid (sz3 l k0 = ((szN l k0 : Int), (szP l k0 : Int), 0)) := sz3_good (by rw [HSy.out, HEk.out]; unfold endC; rw [if_neg (by omega), if_neg (by simp only [c3]; simp), if_neg (by omega), if_neg (by simp only [c5]; simp)])
                have HP : Hid ((szP l k0 : Int) = (k : Int) + 2) := by show (szP l k0 : Int) = _; unfold szP; have := HEk.out; omega
                have HV : Hid (szN l k0 = hexVal (wordC l k0)) := rfl
                generalize hexVal (wordC l k0) = v at *
                clear c3 c5
                go_wp2_with fail
                refine (HX'.out _).mono ?_
                rintro e w1 ⟨rfl, hw1⟩
                obtain rfl := hw1.symm
                go_wp2_with fail
                refine (HX'.out _).mono ?_
                rintro e w2 ⟨rfl, hw2⟩
                obtain rfl := hw2.symm
                go_wp2
                refine bodyPost_ret (v := .tuple #[.int .i64 (v : Int), .int .i64 ((k : Int) + 2), .int .i64 0]) (by simp [results, Tryz.results52, go_sem]) rfl ⟨by rw [HE.out, HV.out, HP.out], n, rfl⟩
              · have e5 : ((l[k + 1].toNat : Int) != 10) = true := byt_ne c4 10 c5
                have HE : Hid (sz3 l k0 = (0, 0, 400)) := sz3_bad (by rw [HSy.out, HEk.out]; unfold endC; rw [if_neg (by omega), if_neg (by simp only [c3]; simp), if_neg (by omega), if_pos c5]) (by decide)
                clear c3 c5
                go_wp2_with fail
                refine (HX'.out _).mono ?_
                rintro e w1 ⟨rfl, hw1⟩
                obtain rfl := hw1.symm
                go_wp2
                refine bodyPost_ret (v := .tuple #[.int .i64 0, .int .i64 0, .int .i64 400]) (by simp [results, Tryz.results52, go_sem]) rfl ⟨by rw [HE.out], n, rfl⟩
            · have c4' : (l.length : Int) ≤ (k : Int) + 1 := by omega
              have HE : Hid (sz3 l k0 = (0, 0, 1)) := sz3_bad (by rw [HSy.out, HEk.out]; unfold endC; rw [if_neg (by omega), if_neg (by simp only [c3]; simp), if_pos (by omega)]) (by decide)
              clear c3
              go_wp2_with fail
              refine (HX'.out _).mono ?_
              rintro e w1 ⟨rfl, hw1⟩
              obtain rfl := hw1.symm
              go_wp2
              refine bodyPost_ret (v := .tuple #[.int .i64 0, .int .i64 0, .int .i64 1]) (by simp [results, Tryz.results52, go_sem]) rfl ⟨by rw [HE.out], n, rfl⟩
        · have e3 : ((l[k].toNat : Int) != 13) = true := byt_ne c1 13 c3
          have HL : Hid (k + 1 - k0 ≤ (wordC l k0).length) := by
            show k + 1 - k0 ≤ (wordC l k0).length
            have := wordC_step (a := k0) (j := k - k0) (by omega) HW.out (by rw [show k0 + (k - k0) = k by omega]; exact c3)
            omega
          clear c3 hc
          go_wp2
          go_roundw
          case rel => exact ⟨k + 1, n, by omega, by omega, by omega, by go_num, HL.out, rfl⟩
          case measure => simp [intOf]; omega
      · have c2' : ¬ ((k : Int) < (k0 : Int) + 5) := by omega
        have hk5 : k = k0 + 5 := by omega
        have HE : Hid (sz3 l k0 = (0, 0, 400)) := sz3_bad (szC_long hk (by have := HW.out; omega)) (by decide)
        have he5 : ((k : Int) == (k0 : Int) + 5) = true := by rw [beq_iff_eq]; omega
        go_wp2
        refine bodyPost_ret (v := .tuple #[.int .i64 0, .int .i64 0, .int .i64 400]) (by simp [results, Tryz.results52, go_sem]) rfl ⟨by rw [HE.out], n, rfl⟩
    · have c1' : ¬ ((k : Int) < l.length) := by omega
      have HL : Hid ((wordC l k0).length = k - k0) := by
        show (wordC l k0).length = k - k0
        exact wordC_last hk (by omega) HW.out
      have hne5 : k ≠ k0 + 5 → ((k : Int) == (k0 : Int) + 5) = false := fun hn => by rw [beq_eq_false_iff_ne]; omega
      have hEk : k0 + (wordC l k0).length = k := by have := HL.out; omega
      have HEk := hide hEk
      clear hEk
      by_cases c2 : k = k0 + 5
      · have HE : Hid (sz3 l k0 = (0, 0, 400)) := sz3_bad (szC_long hk (by have := HL.out; omega)) (by decide)
        have he5 : ((k : Int) == (k0 : Int) + 5) = true := by rw [beq_iff_eq]; omega
        clear hne5
        go_wp2
        refine bodyPost_ret (v := .tuple #[.int .i64 0, .int .i64 0, .int .i64 400]) (by simp [results, Tryz.results52, go_sem]) rfl ⟨by rw [HE.out], n, rfl⟩
      · have hne := hne5 c2
        clear hne5
        by_cases c6 : k0 < k
        · have c6' : (k0 : Int) < k := by omega
          obtain ⟨b, o, rfl, hb, hc⟩ := h (by omega)
          have hcv := conv_word h k0 k (cap - k0) n HL.out
          have hwm : (wordC l k0).length ≤ maxLen := by unfold maxLen; have := wordC_le l k0; omega
          clear hc
          cases hx : hexB (wordC l k0)
          · have HE : Hid (sz3 l k0 = (0, 0, 400)) := sz3_bad (szC_no (by omega) hx) (by decide)
            have HX' := hide (fun W => hex_no hx W hwm)
            clear hwm
            go_wp2_with fail
            refine (HX'.out _).mono ?_
            rintro e w1 ⟨rfl, hw1⟩
            obtain rfl := hw1.symm
            go_wp2
            refine bodyPost_ret (v := .tuple #[.int .i64 0, .int .i64 0, .int .i64 400]) (by simp [results, Tryz.results52, go_sem]) rfl ⟨by rw [HE.out], n, rfl⟩
          · have HE : Hid (sz3 l k0 = (0, 0, 1)) := sz3_bad (by rw [szC_yes (by omega) hx, HEk.out]; unfold endC; rw [if_pos (by omega)]) (by decide)
            have HX' := hide (fun W => hex_yes hx W hwm)
            clear hwm
            go_wp2_with fail
            refine (HX'.out _).mono ?_
            rintro e w1 ⟨rfl, hw1⟩
            obtain rfl := hw1.symm
            go_wp2
            refine bodyPost_ret (v := .tuple #[.int .i64 0, .int .i64 0, .int .i64 1]) (by simp [results, Tryz.results52, go_sem]) rfl ⟨by rw [HE.out], n, rfl⟩
        · have HE : Hid (sz3 l k0 = (0, 0, 1)) := sz3_bad (by unfold szC; rw [if_pos (by omega)]) (by decide)
          have c6' : ¬ ((k0 : Int) < k) := by omega
          go_wp2
          refine bodyPost_ret (v := .tuple #[.int .i64 0, .int .i64 0, .int .i64 1]) (by simp [results, Tryz.results52, go_sem]) rfl ⟨by rw [HE.out], n, rfl⟩
end Go.Proofs.YtcgmokjnjmefpaaGreatDoor
namespace Go.Proofs.YtcgmokjnjmefpaaGreatDoor
open Go.RowKit M
set_option linter.unusedVariables false

theorem endC_zero {l : List UInt8} {k : Nat} (h : endC l k = 0) : k + 2 ≤ l.length := by
  unfold endC at h
  split at h
  · cases h
  · split at h
    · cases h
    · split at h
      · cases h
      · omega
theorem szC_zero {l : List UInt8} {a : Nat} (h : szC l a = 0) : szP l a ≤ l.length := by
  unfold szC at h
  split at h
  · cases h
  · split at h
    · have := endC_zero h; unfold szP; omega
    · cases h
theorem getC_bad {f : Nat} {l : List UInt8} {a : Nat} {body : List UInt8} {c : Int} (hf : 1 ≤ f) (h : pieceC l a (200 - body.length) = c) (hc : c ≠ 0) : getC f l a body = ([], 0, c) := by
  obtain ⟨f, rfl⟩ : ∃ g, f = g + 1 := ⟨f - 1, by omega⟩
  rw [getC, if_pos (by rw [h]; exact hc), h]
theorem getC_last {f : Nat} {l : List UInt8} {a : Nat} {body : List UInt8} (hf : 1 ≤ f) (h : pieceC l a (200 - body.length) = 0) (hn : szN l a = 0) : getC f l a body = (body, szP l a + 2, 0) := by
  obtain ⟨f, rfl⟩ : ∃ g, f = g + 1 := ⟨f - 1, by omega⟩
  rw [getC, if_neg (by rw [h]; decide), if_pos hn]
theorem getC_next {f : Nat} {l : List UInt8} {a : Nat} {body : List UInt8} (hf : 1 ≤ f) (h : pieceC l a (200 - body.length) = 0) (hn : szN l a ≠ 0) : getC f l a body = getC (f - 1) l (szP l a + szN l a + 2) (body ++ pieceL l a) := by
  obtain ⟨f, rfl⟩ : ∃ g, f = g + 1 := ⟨f - 1, by omega⟩
  rw [getC, if_neg (by rw [h]; decide), if_neg hn, Nat.add_sub_cancel]
theorem pieceL_len {l : List UInt8} {a : Nat} (h : szP l a + szN l a ≤ l.length) : (pieceL l a).length = szN l a := by
  unfold pieceL; rw [List.length_take, List.length_drop]; omega

theorem szN_lt {l : List UInt8} {a : Nat} (h : szC l a = 0) : szN l a < 1048576 := by
  unfold szC at h
  split at h
  · cases h
  · split at h
    · rename_i hx
      simp only [hexB, Bool.and_eq_true, decide_eq_true_eq] at hx
      have h1 := hexVal_lt (⟨(wordC l a).toArray⟩ : ByteArray) (wordC l a).length (Nat.le_refl _) (by show hexs (List.take _ (wordC l a)) = true; rw [List.take_length]; exact hx.2.2)
      have e : List.take (wordC l a).length ((⟨(wordC l a).toArray⟩ : ByteArray).data.toList) = wordC l a := List.take_length
      rw [e] at h1
      have h16 := pow16_le (k := (wordC l a).length) (by omega)
      show hexVal (wordC l a) < _
      omega
    · cases h
theorem szP_pos (l : List UInt8) (a : Nat) : 2 ≤ szP l a := by unfold szP; omega
theorem join_piece (s : ByteArray) (m : List UInt8) : s ++ (⟨m.toArray⟩ : ByteArray) = ⟨(s.data.toList ++ m).toArray⟩ := by
  apply ByteArray.ext
  simp

set_option maxRecDepth 100000 in
set_option maxHeartbeats 4000000 in
theorem specGetChunks_any (a : Option Addr) (l : List UInt8) (cap B : Nat) (at0 : Int) (w : World) (h : Byt w B a l) (hl : l.length ≤ 1073741824) (hlc : l.length ≤ cap) (hcm : cap ≤ maxLen) :
    Calls Tryz.prog 13 #[.slice a l.length cap, .int .i64 at0] w fun e w' => e = .returned (.tuple #[.string ⟨(chunksC l at0).1.toArray⟩, .int .i64 (chunksC l at0).2.1, .int .i64 (chunksC l at0).2.2]) ∧ ∀ D, Below D w w' := by
  by_cases hin : 0 ≤ at0 ∧ at0 ≤ l.length
  · obtain ⟨k0, rfl⟩ := Int.eq_ofNat_of_zero_le hin.1
    have hk0 : k0 ≤ l.length := by have := hin.2; omega
    have HC : Hid (chunksC l (k0 : Int) = getC 201 l k0 []) := by show chunksC l _ = _; unfold chunksC; rw [if_pos hin, Int.toNat_natCast]
    have hi : inB (k0 : Int) 0 (l.length : Int) = true := by simp [inB]; omega
    have HSz := hide (fun (k : Nat) (W : World) (h : Byt W B a l) (hk : k ≤ l.length) => l4Size_any a l cap B k W h hl hlc hcm hk)
    have HEn := hide (fun (k : Nat) (W : World) (h : Byt W B a l) (hk : k ≤ l.length) => l4End_any a l cap B k W h hl (by omega))
    unfold maxLen at hcm
    go_enter Tryz.func13, Tryz.ntmps13
    go_wp2_with (go_at_call 51; refine (l1In_any _ _ _ _).mono ?_; rintro e w' ⟨rfl, hw⟩; obtain rfl := hw.symm; rw [hi])
    go_loopw [1, 7] (fun av bv wr => ∃ (f k : Nat) (s : ByteArray), av = .int .i64 k ∧ bv = .string s ∧ k ≤ l.length ∧ s.size ≤ 200 ∧ 201 ≤ f + s.size ∧ getC 201 l k0 [] = getC f l k s.data.toList ∧ Byt wr B a l ∧ ∀ D, Below D w wr) (fun _ bv _ => 201 - (match bv with | .string s => s.size | _ => 0))
    case atStart => exact ⟨201, k0, ⟨#[]⟩, rfl, rfl, hk0, by decide, Nat.le_refl _, rfl, h, fun D => Below.refl _ _⟩
    case round =>
      obtain ⟨f, k, s, rfl, rfl, hk, hs, hf, hG, hy, hbe⟩ := hrel
      have hsl : s.data.toList.length = s.size := Array.length_toList
      have HG := hide hG
      have HY := hide hy
      have HBe := hide hbe
      have HSl := hide hsl
      have hs' : (s.size : Int) ≤ 200 := by omega
      clear hG hy hbe hsl
      by_cases hz : szC l k = 0
      · have hP := szC_zero hz
        have hNb := szN_lt hz
        have hP2 := szP_pos l k
        have HE := hide (sz3_good hz)
        have HZ := hide hz
        clear hz
        obtain ⟨N, hN⟩ : ∃ N, szN l k = N := ⟨_, rfl⟩
        obtain ⟨P, hPe⟩ : ∃ P, szP l k = P := ⟨_, rfl⟩
        have HN := hide hN
        have HPe := hide hPe
        rw [hPe] at hP hP2
        rw [hN] at hNb
        rw [hN, hPe] at HE
        clear hN hPe
        have hpc := hide (fun (c : Int) (e : (if 200 - s.size < N then (413 : Int) else if l.length < P + N then 1 else endC l (P + N)) = c) => show pieceC l k (200 - s.data.toList.length) = c by
          unfold pieceC; rw [if_neg (by rw [HZ.out]; decide), HN.out, HPe.out, HSl.out]; exact e)
        obtain ⟨b, o, ha, hb, hc⟩ := HY.out (by omega)
        subst ha
        clear hc
        by_cases c1 : 200 < s.size + N
        · have c1' : (200 : Int) < (s.size : Int) + N := by omega
          have HR : Hid (getC f l k s.data.toList = ([], 0, 413)) := getC_bad (by omega) (hpc.out 413 (if_pos (by omega))) (by decide)
          clear c1
          go_wp2_with fail
          refine (HSz.out k _ HY.out hk).mono ?_
          rintro e w1 ⟨rfl, n1, rfl⟩
          rw [HE.out]
          have Y1 : Hid (Byt (wr.drewN n1) B (some ⟨b, o, none⟩) l) := HY.out
          have B1 : Hid (∀ D, Below D w (wr.drewN n1)) := fun D => below_drewN (HBe.out D) n1
          generalize wr.drewN n1 = w1 at *
          go_wp2
          refine bodyPost_ret (v := .tuple #[.string ⟨#[]⟩, .int .i64 0, .int .i64 413]) (by simp [results, Tryz.results13, go_sem]) rfl ⟨by rw [HC.out, HG.out, HR.out]; rfl, B1.out⟩
        · have c1' : ¬ ((200 : Int) < (s.size : Int) + N) := by omega
          by_cases c2 : l.length < P + N
          · have c2' : (l.length : Int) - P < N := by omega
            have HR : Hid (getC f l k s.data.toList = ([], 0, 1)) := getC_bad (by omega) (hpc.out 1 (by rw [if_neg (by omega), if_pos c2])) (by decide)
            clear c1 c2
            go_wp2_with fail
            refine (HSz.out k _ HY.out hk).mono ?_
            rintro e w1 ⟨rfl, n1, rfl⟩
            rw [HE.out]
            have Y1 : Hid (Byt (wr.drewN n1) B (some ⟨b, o, none⟩) l) := HY.out
            have B1 : Hid (∀ D, Below D w (wr.drewN n1)) := fun D => below_drewN (HBe.out D) n1
            generalize wr.drewN n1 = w1 at *
            go_wp2
            refine bodyPost_ret (v := .tuple #[.string ⟨#[]⟩, .int .i64 0, .int .i64 1]) (by simp [results, Tryz.results13, go_sem]) rfl ⟨by rw [HC.out, HG.out, HR.out]; rfl, B1.out⟩
          · have c2' : ¬ ((l.length : Int) - P < N) := by omega
            have HPl : Hid (pieceC l k (200 - s.data.toList.length) = endC l (P + N)) := hpc.out _ (by rw [if_neg (by omega), if_neg c2])
            have hpl : (pieceL l k).length = N := by rw [pieceL_len (by rw [HN.out, HPe.out]; omega)]; exact HN.out
            have HLL : Hid (pieceL l k = (l.drop P).take N) := by show pieceL l k = _; unfold pieceL; rw [HN.out, HPe.out]
            have hPN : P + N ≤ l.length := by omega
            clear c1 c2 hpc
            by_cases cP : cap = P
            · have hN0 : N = 0 := by omega
              have HE1 : Hid (endC l (P + N) = 1) := by show endC l (P + N) = 1; unfold endC; rw [if_pos (by omega)]
              have HR : Hid (getC f l k s.data.toList = ([], 0, 1)) := getC_bad (by omega) (HPl.out.trans HE1.out) (by decide)
              have HEn3 := hide (fun (W : World) (h : Byt W B (some ⟨b, o, none⟩) l) => HEn.out (P + N) W h hPN)
              rw [HE1.out] at HEn3
              have hcv0 := fun (W : World) => conv_byt (Byt.nil W B (some ⟨b, o, none⟩)) 0 0 rfl
              clear HPl hpl HLL HN HE1 HEn
              subst hN0
              subst cP
              rw [Nat.add_zero] at HEn3
              have HE0 : Hid (sz3 l k = ((0 : Int), (cap : Int), 0)) := HE.out
              clear HE HPe c1' c2' hNb
              go_wp2_with fail
              refine (HSz.out k _ HY.out hk).mono ?_
              rintro e w1 ⟨rfl, n1, rfl⟩
              rw [HE0.out]
              have Y1 : Hid (Byt (wr.drewN n1) B (some ⟨b, o, none⟩) l) := HY.out
              have B1 : Hid (∀ D, Below D w (wr.drewN n1)) := fun D => below_drewN (HBe.out D) n1
              generalize wr.drewN n1 = w1 at *
              have hcv := hcv0 w1
              go_wp2_with fail
              refine (HEn3.out w1 Y1.out).mono ?_
              rintro e w2 ⟨rfl, hw2⟩
              obtain rfl := hw2.symm
              go_wp2
              refine bodyPost_ret (v := .tuple #[.string ⟨#[]⟩, .int .i64 0, .int .i64 1]) (by simp [results, Tryz.results13, go_sem]) rfl ⟨by rw [HC.out, HG.out, HR.out]; rfl, B1.out⟩
            · go_wp2_with fail
              refine (HSz.out k _ HY.out hk).mono ?_
              rintro e w1 ⟨rfl, n1, rfl⟩
              rw [HE.out]
              have Y1 : Hid (Byt (wr.drewN n1) B (some ⟨b, o, none⟩) l) := HY.out
              have B1 : Hid (∀ D, Below D w (wr.drewN n1)) := fun D => below_drewN (HBe.out D) n1
              generalize wr.drewN n1 = w1 at *
              have hcv := conv_byt ((Y1.out.drop P).take N) N (cap - P) (by rw [List.length_take, List.length_drop]; omega)
              rw [← HLL.out] at hcv
              obtain ⟨t, ht⟩ : ∃ t : ByteArray, t = ⟨(pieceL l k).toArray⟩ := ⟨_, rfl⟩
              have hts : t.size = N := by rw [ht]; show (pieceL l k).toArray.size = N; simpa using hpl
              rw [← ht] at hcv
              have HT : Hid (s ++ t = ⟨(s.data.toList ++ pieceL l k).toArray⟩) := by show s ++ t = _; rw [ht]; exact join_piece _ _
              have HTs := hide hts
              have htz : t.size ≤ 1048576 := by omega
              have hEn := HEn.out (P + N) w1 Y1.out hPN
              rw [show (((P + N : Nat)) : Int) = (P : Int) + N by omega] at hEn
              have HEn2 := hide hEn
              clear ht hts hpl hEn
              go_wp2_with fail
              refine HEn2.out.mono ?_
              rintro e w2 ⟨rfl, hw2⟩
              obtain rfl := hw2.symm
              by_cases c3 : endC l (P + N) = 0
              · have hend := endC_zero c3
                rw [c3]
                have HP0 := hide (HPl.out.trans c3)
                clear c3
                by_cases c4 : N = 0
                · have c4' : ((N : Int) == 0) = true := by rw [beq_iff_eq]; omega
                  have HR : Hid (getC f l k s.data.toList = (s.data.toList, P + 2, 0)) := by
                    show getC f l k _ = _
                    rw [getC_last (by omega) HP0.out (by rw [HN.out]; exact c4), HPe.out]
                  have HTe : Hid (s ++ t = ⟨s.data.toList.toArray⟩) := by
                    show s ++ t = _
                    rw [HT.out]
                    have : pieceL l k = [] := by rw [HLL.out, c4, List.take_zero]
                    rw [this, List.append_nil]
                  have HNz := hide c4
                  clear c4
                  go_wp2
                  refine bodyPost_ret (v := .tuple #[.string (s ++ t), .int .i64 ((P : Int) + N + 2), .int .i64 0]) (by simp [results, Tryz.results13, go_sem]) rfl ⟨by rw [HC.out, HG.out, HR.out, HTe.out, HNz.out]; simp, B1.out⟩
                · have c4' : ((N : Int) == 0) = false := by rw [beq_eq_false_iff_ne]; omega
                  have HR : Hid (getC f l k s.data.toList = getC (f - 1) l (P + N + 2) (s ++ t).data.toList) := by
                    show getC f l k _ = _
                    rw [getC_next (by omega) HP0.out (by rw [HN.out]; exact c4), HPe.out, HN.out, HT.out]
                  have hsz : (s ++ t).size = s.size + N := by rw [ByteArray.size_append, HTs.out]
                  have HSz2 := hide hsz
                  clear hsz
                  go_wp2
                  go_roundw
                  case rel => exact ⟨f - 1, P + N + 2, s ++ t, by go_num, rfl, hend, by rw [HSz2.out]; omega, by rw [HSz2.out]; omega, by rw [HG.out, HR.out], Y1.out, B1.out⟩
                  case measure => show 201 - (s ++ t).size < 201 - s.size; rw [HSz2.out]; omega
              · have c3' : (endC l (P + N) != 0) = true := by rw [bne_iff_ne]; exact c3
                have HR : Hid (getC f l k s.data.toList = ([], 0, endC l (P + N))) := getC_bad (by omega) HPl.out c3
                generalize endC l (P + N) = cc at *
                go_wp2
                refine bodyPost_ret (v := .tuple #[.string ⟨#[]⟩, .int .i64 0, .int .i64 cc]) (by simp [results, Tryz.results13, go_sem]) rfl ⟨by rw [HC.out, HG.out, HR.out]; rfl, B1.out⟩
      · have HE := hide (sz3_bad (c := szC l k) rfl hz)
        have HR : Hid (getC f l k s.data.toList = ([], 0, szC l k)) := getC_bad (by omega) (by unfold pieceC; rw [if_pos hz]) hz
        have hzb : (szC l k != 0) = true := by rw [bne_iff_ne]; exact hz
        generalize szC l k = cc at *
        go_wp2_with fail
        refine (HSz.out k _ HY.out hk).mono ?_
        rintro e w1 ⟨rfl, n1, rfl⟩
        rw [HE.out]
        have B1 : Hid (∀ D, Below D w (wr.drewN n1)) := fun D => below_drewN (HBe.out D) n1
        go_wp2
        refine bodyPost_ret (v := .tuple #[.string ⟨#[]⟩, .int .i64 0, .int .i64 cc]) (by simp [results, Tryz.results13, go_sem]) rfl ⟨by rw [HC.out, HG.out, HR.out]; rfl, B1.out⟩
  · have HC : Hid (chunksC l at0 = ([], 0, 400)) := by show chunksC l _ = _; unfold chunksC; rw [if_neg hin]
    have hi : inB at0 0 (l.length : Int) = false := by simp [inB]; omega
    unfold maxLen at hcm
    go_enter Tryz.func13, Tryz.ntmps13
    go_wp2_with (go_at_call 51; refine (l1In_any _ _ _ _).mono ?_; rintro e w' ⟨rfl, hw⟩; obtain rfl := hw.symm; rw [hi])
    refine bodyPost_ret (v := .tuple #[.string ⟨#[]⟩, .int .i64 0, .int .i64 400]) (by simp [results, Tryz.results13, go_sem]) rfl ⟨by rw [HC.out]; rfl, fun D => Below.refl _ _⟩
end Go.Proofs.YtcgmokjnjmefpaaGreatDoor
namespace Go.Proofs.YtcgmokjnjmefpaaGreatDoor.M

/-- Two line's ends. -/
def two4 : List UInt8 := [13, 10, 13, 10]
/-- The place behind the first two line's ends, one behind the other, among the first 400 bytes. -/
def heL (l : List UInt8) : Int := if 0 ≤ Lib.index (l.take 400) two4 then Lib.index (l.take 400) two4 + 4 else -1

theorem prefix_take (p m : List UInt8) : p.isPrefixOf m = decide (m.take p.length = p) := by
  rw [Bool.eq_iff_iff]
  simp only [List.isPrefixOf_iff_prefix, decide_eq_true_eq, List.prefix_iff_eq_take]
  exact eq_comm

theorem occ_at (l : List UInt8) (k : Nat) (h4 : k + 4 ≤ 400) : Lib.occAt (l.take 400) two4 k = decide ((l.drop k).take 4 = two4) := by
  unfold Lib.occAt
  rw [prefix_take]
  have e : ((l.take 400).drop k).take two4.length = (l.drop k).take 4 := by
    rw [List.drop_take, List.take_take]
    congr 1
    show min 4 (400 - k) = 4
    omega
  rw [e]

theorem occ_past (l : List UInt8) (k : Nat) (h : l.length < k + 4 ∨ 400 < k + 4) : Lib.occAt (l.take 400) two4 k = false := by
  unfold Lib.occAt
  rw [prefix_take, decide_eq_false_iff_not]
  intro e
  have := congrArg List.length e
  simp only [List.length_take, List.length_drop] at this
  have h4 : two4.length = 4 := rfl
  omega

theorem heL_at {l : List UInt8} {k : Nat} (h : k + 4 ≤ l.length) (h4 : k + 4 ≤ 400) (h0 : ∀ j, j < k → Lib.occAt (l.take 400) two4 j = false) (h1 : (l.drop k).take 4 = two4) : heL l = k + 4 := by
  have hi : Lib.index (l.take 400) two4 = k := Lib.index_first (by rw [List.length_take]; omega) (by rw [occ_at l k h4]; simp [h1]) h0
  unfold heL
  rw [hi, if_pos (by omega)]

theorem heL_none {l : List UInt8} {k : Nat} (h : ¬ (k + 3 < l.length ∧ k + 3 < 400)) (h0 : ∀ j, j < k → Lib.occAt (l.take 400) two4 j = false) : heL l = -1 := by
  have hi : Lib.index (l.take 400) two4 = -1 := Lib.index_none fun j _ => by
    by_cases e : j < k
    · exact h0 j e
    · exact occ_past l j (by omega)
  unfold heL
  rw [hi, if_neg (by omega)]

theorem two4_str (m : List UInt8) : ((⟨m.toArray⟩ : ByteArray).toList == [13, 10, 13, 10]) = decide (m = two4) := by
  rw [ByteArray.toList_eq]
  show (m.toArray.toList == two4) = _
  by_cases h : m = two4 <;> simp [h]

theorem two4_beq (m : List UInt8) : (m == [13, 10, 13, 10]) = decide (m = two4) := by
  show (m == two4) = _
  by_cases h : m = two4 <;> simp [h]

theorem heL_bd (l : List UInt8) : -1 ≤ heL l ∧ heL l ≤ 400 ∧ heL l ≤ l.length ∧ (heL l = -1 ∨ 4 ≤ heL l) := by
  unfold heL
  by_cases h : 0 ≤ Lib.index (l.take 400) two4
  · rw [if_pos h]
    obtain ⟨k, hk⟩ : ∃ k : Nat, Lib.index (l.take 400) two4 = k := ⟨_, (Int.toNat_of_nonneg h).symm⟩
    have hr := Lib.index_room (l.take 400) two4 h
    have h4 : two4.length = 4 := rfl
    have hle : k + 4 ≤ (l.take 400).length := by rw [hk, h4] at hr; omega
    rw [List.length_take] at hle
    rw [hk]
    omega
  · rw [if_neg h]
    omega
end Go.Proofs.YtcgmokjnjmefpaaGreatDoor.M
namespace Go.Proofs.YtcgmokjnjmefpaaGreatDoor
open Go.RowKit M
set_option linter.unusedVariables false

theorem ret_intE {a b : Int} (h : a = b) : Ending.returned (.int .i64 a) = .returned (.int .i64 b) := by rw [h]
/-- The bytes as numbers. -/
def numsOf (l : List UInt8) : List Int := l.map fun c => (c.toNat : Int)
theorem numsOf_length (l : List UInt8) : (numsOf l).length = l.length := by simp [numsOf]
theorem numsOf_bytes (l : List UInt8) : Lib.bytesOf (numsOf l) = l := by
  unfold Lib.bytesOf numsOf
  rw [List.map_map]
  have e : ∀ c : UInt8, ((fun x : Int => UInt8.ofNat x.toNat) ∘ fun c : UInt8 => (c.toNat : Int)) c = c := fun c => by simp
  conv => rhs; rw [← List.map_id l]
  exact List.map_congr_left fun c _ => by simp
theorem numsOf_range (l : List UInt8) : ∀ x ∈ numsOf l, 0 ≤ x ∧ x < 256 := by
  intro x hx
  obtain ⟨c, _, rfl⟩ := List.mem_map.1 hx
  have := c.toNat_lt
  omega
theorem numsOf_cells {w : World} {b o : Nat} {l : List UInt8} (h : ∀ j (hj : j < l.length), w.cell? ⟨b, o + j, none⟩ = some (.int .u8 l[j].toNat)) : ∀ i, i < l.length → w.cell? ((⟨b, o, none⟩ : Addr).add i) = some (.int .u8 ((numsOf l).getD i 0)) := by
  intro i hi
  have e : (⟨b, o, none⟩ : Addr).add i = ⟨b, o + i, none⟩ := by unfold Addr.add; split <;> simp_all
  rw [e, h i hi]
  simp [numsOf, List.getD, List.getElem?_eq_getElem hi]
end Go.Proofs.YtcgmokjnjmefpaaGreatDoor
namespace Go.Proofs.YtcgmokjnjmefpaaGreatDoor.M

/-- What stands ahead of the first byte c, and behind it. -/
def cut1 (c : UInt8) : List UInt8 → Option (List UInt8 × List UInt8)
  | [] => none
  | x :: r => if x = c then some ([], r) else (cut1 c r).map fun p => (x :: p.1, p.2)
/-- What stands ahead of the first line's end, and behind it. -/
def cut2 : List UInt8 → Option (List UInt8 × List UInt8)
  | [] => none
  | x :: r => if x = 13 ∧ r.head? = some 10 then some ([], r.drop 1) else (cut2 r).map fun p => (x :: p.1, p.2)
/-- What stands between line's ends. -/
def linesL : List UInt8 → List (List UInt8)
  | [] => [[]]
  | [x] => [[x]]
  | x :: y :: r => if x = 13 ∧ y = 10 then [] :: linesL r else (match linesL (y :: r) with | [] => [[x]] | l :: q => (x :: l) :: q)
/-- A head of its line. -/
def mkH (n v : List UInt8) : Hd := (bytesOf (lowL n), bytesOf (trimL v))
/-- The heads, one line behind the other, each with its end. -/
def headsI : Nat → List UInt8 → Option (List Hd)
  | 0, _ => none
  | f + 1, t => if t = [] then some [] else
    match cut1 58 t with
    | none => none
    | some (n, t1) => match cut2 t1 with
      | none => none
      | some (v, t2) => if hdB (mkH n v) then (headsI f t2).map (mkH n v :: ·) else none
/-- Lines that have each their end. -/
def readI (t : List UInt8) : Option (ByteArray × ByteArray × List Hd) :=
  match cut1 32 t with
  | none => none
  | some (m, t1) => if methB (bytesOf m) then
    match cut1 32 t1 with
    | none => none
    | some (p, t2) => if targB (bytesOf p) then
      match cut2 t2 with
      | none => none
      | some (v, t3) => if v = proto then (headsI (t3.length + 1) t3).map fun hs => (bytesOf m, bytesOf p, hs) else none
      else none
    else none
/-- A text, cut at every blank. -/
def cutsB (c : UInt8) : List UInt8 → List (List UInt8)
  | [] => [[]]
  | x :: r => if x = c then [] :: cutsB c r else (match cutsB c r with | [] => [[x]] | l :: q => (x :: l) :: q)
def firstS (l : List UInt8) : Option (ByteArray × ByteArray) :=
  match cutsB 32 l with
  | [m, p, v] => if v = proto ∧ methB (bytesOf m) = true ∧ targB (bytesOf p) = true then some (bytesOf m, bytesOf p) else none
  | _ => none
def headS (l : List UInt8) : Option Hd :=
  match cut1 58 l with
  | none => none
  | some (n, v) => if hdB (mkH n v) then some (mkH n v) else none
def headsS : List (List UInt8) → Option (List Hd)
  | [] => some []
  | l :: ls => match headS l with
    | none => none
    | some h => (headsS ls).map (h :: ·)
def readS (t : List UInt8) : Option (ByteArray × ByteArray × List Hd) :=
  match linesL t with
  | [] => none
  | l :: ls => match firstS l with
    | none => none
    | some (m, p) => (headsS ls).map fun hs => (m, p, hs)

theorem cut1_some {c : UInt8} : ∀ {l a b : List UInt8}, cut1 c l = some (a, b) ↔ l = a ++ c :: b ∧ c ∉ a := by
  intro l
  induction l with
  | nil => intro a b; simp [cut1]
  | cons x r ih =>
    intro a b
    rw [cut1]
    by_cases h : x = c
    · rw [if_pos h]
      subst h
      constructor
      · intro e; cases e; simp
      · rintro ⟨e, hn⟩
        cases a with
        | nil => simp at e; rw [e]
        | cons y q => simp at e; exact absurd (by simp [e.1]) hn
    · rw [if_neg h]
      constructor
      · intro e
        cases hc : cut1 c r with
        | none => rw [hc] at e; cases e
        | some p =>
          rw [hc] at e
          obtain ⟨a', b'⟩ := p
          obtain ⟨e1, e2⟩ := ih.1 hc
          cases e
          exact ⟨by simp [e1], by simp [e2, Ne.symm h]⟩
      · rintro ⟨e, hn⟩
        cases a with
        | nil => simp at e; exact absurd e.1 h
        | cons y q =>
          simp at e
          obtain ⟨rfl, e⟩ := e
          have := ih.2 ⟨e, fun hm => hn (by simp [hm])⟩
          rw [this]; rfl
theorem cut1_none {c : UInt8} {l : List UInt8} : cut1 c l = none ↔ c ∉ l := by
  induction l with
  | nil => simp [cut1]
  | cons x r ih =>
    rw [cut1]
    by_cases h : x = c
    · rw [if_pos h]; simp [h]
    · rw [if_neg h, Option.map_eq_none_iff, ih]; simp [Ne.symm h]

/-- There is no line's end in it. -/
def noEnd : List UInt8 → Prop
  | [] => True
  | [_] => True
  | x :: y :: r => ¬ (x = 13 ∧ y = 10) ∧ noEnd (y :: r)
theorem noEnd_tail {x : UInt8} {r : List UInt8} (h : noEnd (x :: r)) : noEnd r := by
  cases r with
  | nil => trivial
  | cons y q => exact h.2
theorem noEnd_of {l : List UInt8} (h : 13 ∉ l) : noEnd l := by
  induction l with
  | nil => trivial
  | cons x r ih =>
    cases r with
    | nil => trivial
    | cons y q => exact ⟨fun e => h (by simp [e.1]), ih (fun hm => h (by simp [hm]))⟩
theorem cut2_app : ∀ {a : List UInt8} (b : List UInt8), noEnd a → cut2 (a ++ 13 :: 10 :: b) = some (a, b) := by
  intro a
  induction a with
  | nil => intro b _; simp [cut2]
  | cons x r ih =>
    intro b h
    rw [List.cons_append, cut2, ih b (noEnd_tail h)]
    have : ¬ (x = 13 ∧ (r ++ 13 :: 10 :: b).head? = some 10) := by
      cases r with
      | nil => simp
      | cons y q => simpa using h.1
    rw [if_neg this]; rfl
theorem cut2_some : ∀ {l a b : List UInt8}, cut2 l = some (a, b) → l = a ++ 13 :: 10 :: b ∧ noEnd a := by
  intro l
  induction l with
  | nil => intro a b h; cases h
  | cons x r ih =>
    intro a b h
    rw [cut2] at h
    by_cases hx : x = 13 ∧ r.head? = some 10
    · rw [if_pos hx] at h
      cases h
      cases r with
      | nil => simp at hx
      | cons y q => simp at hx; exact ⟨by simp [hx.1, hx.2], trivial⟩
    · rw [if_neg hx] at h
      cases hc : cut2 r with
      | none => rw [hc] at h; cases h
      | some p =>
        rw [hc] at h
        obtain ⟨a', b'⟩ := p
        obtain ⟨e1, e2⟩ := ih hc
        cases h
        refine ⟨by simp [e1], ?_⟩
        cases a' with
        | nil => trivial
        | cons y q =>
          refine ⟨fun e => hx ⟨e.1, ?_⟩, e2⟩
          rw [e1, e.2]; rfl

/-- Lines, each with its end. -/
def flatE (L : List (List UInt8)) : List UInt8 := L.flatMap (· ++ [13, 10])
theorem linesL_ne (t : List UInt8) : linesL t ≠ [] := by
  match t with
  | [] => simp [linesL]
  | [x] => simp [linesL]
  | x :: y :: r =>
    rw [linesL]
    split
    · simp
    · split <;> simp
theorem linesL_flat : ∀ t : List UInt8, flatE (linesL t) = t ++ [13, 10] ∧ ∀ l ∈ linesL t, noEnd l
  | [] => by simp [linesL, flatE, noEnd]
  | [x] => by simp [linesL, flatE, noEnd]
  | x :: y :: r => by
    rw [linesL]
    by_cases h : x = 13 ∧ y = 10
    · rw [if_pos h]
      obtain ⟨h1, h2⟩ := linesL_flat r
      refine ⟨?_, ?_⟩
      · simp only [flatE, List.flatMap_cons, List.nil_append] at *
        rw [h1, h.1, h.2]; rfl
      · intro l hl
        rcases List.mem_cons.1 hl with rfl | hl
        · trivial
        · exact h2 l hl
    · rw [if_neg h]
      obtain ⟨h1, h2⟩ := linesL_flat (y :: r)
      cases hL : linesL (y :: r) with
      | nil => exact absurd hL (linesL_ne _)
      | cons l q =>
        rw [hL] at h1 h2
        refine ⟨?_, ?_⟩
        · simp only [flatE, List.flatMap_cons, List.cons_append] at *
          rw [h1]
        · intro k hk
          rcases List.mem_cons.1 hk with rfl | hk
          · cases l with
            | nil => trivial
            | cons z s =>
              refine ⟨fun e => h ⟨e.1, ?_⟩, h2 _ (by simp)⟩
              simp only [flatE, List.flatMap_cons, List.cons_append] at h1
              injection h1 with h3 _
              rw [← h3]; exact e.2
          · exact h2 k (by simp [hk])

theorem allB_no {l : List UInt8} {ks : List Int} (c : UInt8) (h : allB l ks = true) (hc : anyB (c.toNat : Int) ks = false) : c ∉ l := by
  intro hm
  have := List.all_eq_true.1 h c hm
  rw [hc] at this; cases this
theorem meth_no {m : List UInt8} (h : methB (bytesOf m) = true) : 13 ∉ m ∧ 32 ∉ m ∧ m ≠ [] := by
  simp only [methB, Bool.and_eq_true] at h
  refine ⟨allB_no 13 h.1 (by decide), allB_no 32 h.1 (by decide), ?_⟩
  rintro rfl
  have := h.2
  revert this
  decide
theorem targ_no {p : List UInt8} (h : targB (bytesOf p) = true) : 13 ∉ p ∧ 32 ∉ p ∧ p ≠ [] := by
  simp only [targB, Bool.and_eq_true] at h
  refine ⟨?_, ?_, ?_⟩
  · intro hm; have := List.all_eq_true.1 h.1 13 hm; revert this; decide
  · intro hm; have := List.all_eq_true.1 h.1 32 hm; revert this; decide
  · rintro rfl; have := h.2; revert this; decide

theorem cutsB_none {c : UInt8} {a : List UInt8} (h : c ∉ a) : cutsB c a = [a] := by
  induction a with
  | nil => rfl
  | cons x r ih =>
    have h1 : ¬ x = c := fun e => h (by simp [e])
    rw [cutsB, if_neg h1, ih (fun e => h (by simp [e]))]
theorem cutsB_app {c : UInt8} {a : List UInt8} (r : List UInt8) (h : c ∉ a) : cutsB c (a ++ c :: r) = a :: cutsB c r := by
  induction a with
  | nil => simp [cutsB]
  | cons x q ih =>
    have h1 : ¬ x = c := fun e => h (by simp [e])
    rw [List.cons_append, cutsB, if_neg h1, ih (fun e => h (by simp [e]))]
theorem cutsB_ne (c : UInt8) (l : List UInt8) : cutsB c l ≠ [] := by
  cases l with
  | nil => simp [cutsB]
  | cons x r =>
    rw [cutsB]
    split
    · simp
    · split <;> simp
/-- The first line: in three, by cutting one behind the other. -/
theorem firstS_eq (l : List UInt8) : firstS l =
    match cut1 32 l with
    | none => none
    | some (m, t1) => match cut1 32 t1 with
      | none => none
      | some (p, v) => if v = proto ∧ methB (bytesOf m) = true ∧ targB (bytesOf p) = true then some (bytesOf m, bytesOf p) else none := by
  unfold firstS
  cases h1 : cut1 32 l with
  | none => rw [cutsB_none (cut1_none.1 h1)]
  | some q =>
    obtain ⟨m, t1⟩ := q
    obtain ⟨rfl, hm⟩ := cut1_some.1 h1
    rw [cutsB_app t1 hm]
    cases h2 : cut1 32 t1 with
    | none => rw [cutsB_none (cut1_none.1 h2)]; simp [h2]
    | some q =>
      obtain ⟨p, v⟩ := q
      obtain ⟨rfl, hp⟩ := cut1_some.1 h2
      rw [cutsB_app v hp]
      simp only [h2]
      by_cases hv : 32 ∈ v
      · have hv2 : ¬ v = proto := by rintro rfl; revert hv; decide
        have hne : ∃ a b r, cutsB 32 v = a :: b :: r := by
          cases h3 : cut1 32 v with
          | none => exact absurd hv (cut1_none.1 h3)
          | some q =>
            obtain ⟨x, y⟩ := q
            obtain ⟨rfl, hx⟩ := cut1_some.1 h3
            rw [cutsB_app y hx]
            cases h4 : cutsB 32 y with
            | nil => exact absurd h4 (cutsB_ne _ _)
            | cons b r => exact ⟨_, _, _, rfl⟩
        obtain ⟨a, b, r, e⟩ := hne
        rw [e, if_neg (fun h => hv2 h.1)]
      · rw [cutsB_none hv]

theorem mem_low {c : UInt8} {n : List UInt8} (h : c ∈ n) (hc : lowB c = c) : c ∈ lowL n := by
  unfold lowL
  rw [List.mem_map]
  exact ⟨c, h, hc⟩
theorem sm_no13 {l : List UInt8} (h : smB l = true) : 13 ∉ l := by
  cases l with
  | nil => simp
  | cons c r =>
    simp only [smB, Bool.and_eq_true] at h
    exact allB_no 13 h.2 (by decide)
/-- A name with a line's end in it is none. -/
theorem hd_no13 {n v : List UInt8} (h : hdB (mkH n v) = true) : 13 ∉ n := by
  intro hm
  simp only [hdB, mkH, Bool.and_eq_true] at h
  exact sm_no13 (l := lowL n) h.1 (mem_low hm (by decide))

theorem cut1_in {c : UInt8} {l n v : List UInt8} (r : List UInt8) (h : cut1 c l = some (n, v)) : cut1 c (l ++ r) = some (n, v ++ r) := by
  obtain ⟨rfl, hn⟩ := cut1_some.1 h
  exact cut1_some.2 ⟨by simp, hn⟩
/-- What is found past a line's end has it in it. -/
theorem cut1_past {c : UInt8} {l F n t : List UInt8} (h1 : cut1 c l = none) (hc : c ≠ 13) (h : cut1 c (l ++ 13 :: 10 :: F) = some (n, t)) : 13 ∈ n := by
  have hn : c ∉ l := cut1_none.1 h1
  obtain ⟨e2, _⟩ := cut1_some.1 h
  rcases Nat.lt_or_ge l.length n.length with hlt | hge
  · have a1 : n.take (l.length + 1) = l ++ [13] := by
      have := congrArg (List.take (l.length + 1)) e2
      rw [List.take_append_of_le_length (l₁ := n) (by omega)] at this
      rw [← this, List.take_append, List.take_of_length_le (by omega)]
      simp
    have : 13 ∈ n.take (l.length + 1) := by rw [a1]; simp
    exact List.mem_of_mem_take this
  · exfalso
    rcases Nat.lt_or_ge n.length l.length with hlt | hge2
    · have := congrArg (fun z => z[n.length]?) e2
      simp only [List.getElem?_append_left hlt] at this
      have h3 : l[n.length]? = some c := by rw [this]; simp
      exact hn (List.mem_of_getElem? h3)
    · have h3 : n.length = l.length := by omega
      have := congrArg (fun z => z[n.length]?) e2
      rw [h3] at this
      simp only [List.getElem?_append_right (Nat.le_refl _)] at this
      rw [← h3] at this
      simp [h3] at this
      exact hc this.symm
theorem noEnd_drop {a b : List UInt8} (h : noEnd (a ++ b)) : noEnd b := by
  induction a with
  | nil => exact h
  | cons x r ih => exact ih (noEnd_tail h)

theorem headsI_lines : ∀ (L : List (List UInt8)) (f : Nat), (∀ l ∈ L, noEnd l) → (flatE L).length < f → headsI f (flatE L) = headsS L := by
  intro L
  induction L with
  | nil =>
    intro f _ hf
    obtain ⟨f, rfl⟩ : ∃ g, f = g + 1 := ⟨f - 1, by omega⟩
    simp [headsI, headsS, flatE]
  | cons l L ih =>
    intro f hL hf
    obtain ⟨f, rfl⟩ : ∃ g, f = g + 1 := ⟨f - 1, by omega⟩
    have e : flatE (l :: L) = l ++ 13 :: 10 :: flatE L := by simp [flatE]
    have hlen : (flatE (l :: L)).length = l.length + 2 + (flatE L).length := by rw [e]; simp; omega
    rw [headsI, if_neg (by rw [e]; simp), headsS, headS]
    cases h1 : cut1 58 l with
    | none =>
      simp only
      cases h2 : cut1 58 (flatE (l :: L)) with
      | none => rfl
      | some q =>
        obtain ⟨n, t1⟩ := q
        rw [e] at h2
        have h13 := cut1_past h1 (by decide) h2
        simp only
        cases h3 : cut2 t1 with
        | none => rfl
        | some q =>
          obtain ⟨v, t2⟩ := q
          simp only
          rw [if_neg (fun hh => hd_no13 hh h13)]
    | some q =>
      obtain ⟨n, v⟩ := q
      have h2 := cut1_in (13 :: 10 :: flatE L) h1
      obtain ⟨rfl, hn⟩ := cut1_some.1 h1
      have hv : noEnd v := noEnd_tail (noEnd_drop (a := n) (hL (n ++ 58 :: v) (by simp)))
      rw [e, h2]
      simp only
      rw [cut2_app _ hv]
      simp only
      by_cases hb : hdB (mkH n v) = true
      · rw [if_pos hb, if_pos hb, ih f (fun k hk => hL k (by simp [hk])) (by omega)]
      · rw [if_neg hb, if_neg hb]

/-- Both readings are one. -/
theorem readI_eq (t : List UInt8) : readI (t ++ [13, 10]) = readS t := by
  obtain ⟨h1, h2⟩ := linesL_flat t
  unfold readS
  cases hL : linesL t with
  | nil => exact absurd hL (linesL_ne _)
  | cons l L =>
    rw [hL] at h1 h2
    have e : t ++ [13, 10] = l ++ 13 :: 10 :: flatE L := by rw [← h1]; simp [flatE]
    have hl : noEnd l := h2 l (by simp)
    have hH := headsI_lines L ((flatE L).length + 1) (fun k hk => h2 k (by simp [hk])) (Nat.lt_succ_self _)
    simp only
    rw [firstS_eq, e]
    unfold readI
    cases c1 : cut1 32 l with
    | none =>
      simp only
      cases c2 : cut1 32 (l ++ 13 :: 10 :: flatE L) with
      | none => rfl
      | some q =>
        obtain ⟨m, t1⟩ := q
        have h13 := cut1_past c1 (by decide) c2
        simp only
        rw [if_neg (fun hh => (meth_no hh).1 h13)]
    | some q =>
      obtain ⟨m, l1⟩ := q
      rw [cut1_in (13 :: 10 :: flatE L) c1]
      obtain ⟨rfl, _⟩ := cut1_some.1 c1
      have hl1 : noEnd l1 := noEnd_tail (noEnd_drop (a := m) hl)
      simp only
      by_cases hm : methB (bytesOf m) = true
      · rw [if_pos hm]
        cases c2 : cut1 32 l1 with
        | none =>
          simp only
          cases c3 : cut1 32 (l1 ++ 13 :: 10 :: flatE L) with
          | none => rfl
          | some q =>
            obtain ⟨p, t2⟩ := q
            have h13 := cut1_past c2 (by decide) c3
            simp only
            rw [if_neg (fun hh => (targ_no hh).1 h13)]
        | some q =>
          obtain ⟨p, v⟩ := q
          rw [cut1_in (13 :: 10 :: flatE L) c2]
          obtain ⟨rfl, _⟩ := cut1_some.1 c2
          have hv : noEnd v := noEnd_tail (noEnd_drop (a := p) hl1)
          simp only
          by_cases hp : targB (bytesOf p) = true
          · rw [if_pos hp, cut2_app _ hv]
            simp only
            by_cases hpr : v = proto
            · rw [if_pos hpr, if_pos ⟨hpr, hm, hp⟩, hH]
            · rw [if_neg hpr, if_neg (fun h => hpr h.1)]
          · rw [if_neg hp, if_neg (fun h => hp h.2.2)]
      · rw [if_neg hm]
        cases c2 : cut1 32 l1 with
        | none => rfl
        | some q =>
          obtain ⟨p, v⟩ := q
          simp only
          rw [if_neg (fun h => hm h.2.1)]
end Go.Proofs.YtcgmokjnjmefpaaGreatDoor.M
namespace Go.Proofs.YtcgmokjnjmefpaaGreatDoor.M

theorem cut1_idx (c : UInt8) : ∀ t : List UInt8, (Lib.index t [c] = -1 ∧ cut1 c t = none) ∨ ∃ i : Nat, Lib.index t [c] = i ∧ i + 1 ≤ t.length ∧ cut1 c t = some (t.take i, t.drop (i + 1)) := by
  intro t
  induction t with
  | nil => left; exact ⟨rfl, rfl⟩
  | cons x r ih =>
    unfold Lib.index
    rw [cut1]
    by_cases hx : x = c
    · right
      refine ⟨0, ?_, by simp, ?_⟩
      · subst hx; simp [List.isPrefixOf]
      · rw [if_pos hx]; simp
    · have hp : List.isPrefixOf [c] (x :: r) = false := by simp [List.isPrefixOf]; exact fun e => hx e.symm
      rw [hp, if_neg hx]
      rcases ih with ⟨h1, h2⟩ | ⟨i, h1, h2, h3⟩
      · left
        rw [h1, h2]
        exact ⟨rfl, rfl⟩
      · right
        refine ⟨i + 1, ?_, by simp; omega, ?_⟩
        · rw [h1]
          have : ((i : Int) == -1) = false := by rw [beq_eq_false_iff_ne]; omega
          simp [this]
        · rw [h3]; simp
theorem cut2_idx : ∀ t : List UInt8, (Lib.index t [13, 10] = -1 ∧ cut2 t = none) ∨ ∃ i : Nat, Lib.index t [13, 10] = i ∧ i + 2 ≤ t.length ∧ cut2 t = some (t.take i, t.drop (i + 2)) := by
  intro t
  induction t with
  | nil => left; exact ⟨rfl, rfl⟩
  | cons x r ih =>
    unfold Lib.index
    rw [cut2]
    by_cases hx : x = 13 ∧ r.head? = some 10
    · right
      obtain ⟨h1, h2⟩ := hx
      cases r with
      | nil => simp at h2
      | cons y q =>
        simp at h2
        subst h1 h2
        exact ⟨0, by simp [List.isPrefixOf], by simp, by simp⟩
    · have hp : List.isPrefixOf [13, 10] (x :: r) = false := by
        cases r with
        | nil => simp [List.isPrefixOf]
        | cons y q =>
          simp only [List.head?_cons, Option.some.injEq] at hx
          rw [Bool.eq_false_iff]
          intro e
          simp [List.isPrefixOf] at e
          exact hx ⟨e.1.symm, e.2.symm⟩
      rw [hp, if_neg hx]
      rcases ih with ⟨h1, h2⟩ | ⟨i, h1, h2, h3⟩
      · left
        rw [h1, h2]
        exact ⟨rfl, rfl⟩
      · right
        refine ⟨i + 1, ?_, by simp; omega, ?_⟩
        · rw [h1]
          have : ((i : Int) == -1) = false := by rw [beq_eq_false_iff_ne]; omega
          simp [this]
        · rw [h3]; simp
/-- What stands ahead of a stop, and behind it. -/
def cutS (sep t : List UInt8) : Option (List UInt8 × List UInt8) := if 0 ≤ Lib.index t sep then some (t.take (Lib.index t sep).toNat, t.drop ((Lib.index t sep).toNat + sep.length)) else none
theorem cutS_one (c : UInt8) (t : List UInt8) : cutS [c] t = cut1 c t := by
  unfold cutS
  rcases cut1_idx c t with ⟨h1, h2⟩ | ⟨i, h1, _, h3⟩
  · rw [h1, h2]; rfl
  · rw [h1, h3, if_pos (by omega), Int.toNat_natCast]; rfl
theorem cutS_two (t : List UInt8) : cutS [13, 10] t = cut2 t := by
  unfold cutS
  rcases cut2_idx t with ⟨h1, h2⟩ | ⟨i, h1, _, h3⟩
  · rw [h1, h2]; rfl
  · rw [h1, h3, if_pos (by omega), Int.toNat_natCast]; rfl
theorem cutS_len {sep t a b : List UInt8} (h : cutS sep t = some (a, b)) : a.length + sep.length + b.length = t.length := by
  unfold cutS at h
  split at h
  · rename_i h0
    have hr := Lib.index_room t sep h0
    cases h
    rw [List.length_take, List.length_drop]
    omega
  · cases h
end Go.Proofs.YtcgmokjnjmefpaaGreatDoor.M
namespace Go.Proofs.YtcgmokjnjmefpaaGreatDoor
open Go.RowKit M
set_option linter.unusedVariables false

/-- A part of the bytes that came in: its address, its length, its room. -/
def Rst (w : World) (B : Nat) (v : Value) (t : List UInt8) : Prop := ∃ (a : Option Addr) (c : Nat), v = .slice a t.length c ∧ Byt w B a t ∧ t.length ≤ c ∧ c ≤ maxLen ∧ (a = none → c = 0) ∧ (∀ x, a = some x → x.spot = none)
theorem Rst.below {w w' : World} {B C : Nat} {v : Value} {t : List UInt8} (h : Rst w B v t) (hb : Below C w w') (hB : B ≤ C) : Rst w' B v t := by
  obtain ⟨a, c, rfl, h1, h2⟩ := h
  exact ⟨a, c, rfl, h1.below hb hB, h2⟩

theorem bytesIn_of {w : World} {B : Nat} {a : Option Addr} {t : List UInt8} (h : Byt w B a t) : Lib.BytesIn w a t.length (numsOf t) := fun h0 => by
  obtain ⟨b, o, e, _, hc⟩ := h h0
  exact ⟨b, o, e, fun i hi => by rw [hc i hi]; simp [numsOf, List.getD, List.getElem?_eq_getElem hi]⟩
/-- What wordAhead hands back, of a text that is cut so. -/
def WordIs (w : World) (B : Nat) (r : Option (List UInt8 × List UInt8)) (word : ByteArray) (v : Value) (ok : Bool) : Prop :=
  match r with
  | none => ok = false ∧ v = .slice none 0 0
  | some (a, b) => ok = true ∧ word = bytesOf a ∧ Rst w B v b

set_option maxRecDepth 100000 in
set_option maxHeartbeats 2000000 in
theorem wordAhead_any (v : Value) (t : List UInt8) (sep : ByteArray) (B : Nat) (m : Int) (w : World) (h : Rst w B v t) (hB : B ≤ w.heap.size) (ht : t.length ≤ 1073741824) (hs : sep.size ≤ 16) (hs0 : 0 < sep.size) (h0 : 0 < w.heap.size) (hmx : w.cell? ⟨0, 0, none⟩ = some (.int .i64 m)) :
    Calls Tryz.prog 92 #[v, .string sep] w fun e w' => (∃ (word : ByteArray) (v' : Value) (ok : Bool), e = .returned (.tuple #[.string word, v', .bool ok]) ∧ WordIs w' B (cutS sep.data.toList t) word v' ok ∧ word.size ≤ t.length) ∧ Below w.heap.size w w' := by
  obtain ⟨a, c, rfl, hy, hc1, hc2, hc3, hc4⟩ := h
  have hcv := Lib.run_convert_string_bytes (P := Tryz.prog) w 9 22 5 sep Tryz.underlying9 Tryz.underlying22 Tryz.underlying5
  have hbw : Below w.heap.size w (Lib.bytesWorld w 5 sep) := ⟨rfl, rfl, rfl, by rw [Lib.bytesWorld_size]; omega, fun k hk => Lib.bytesWorld_at_old w 5 sep k hk⟩
  have hys : Byt (Lib.bytesWorld w 5 sep) (w.heap.size + 1) (some ⟨w.heap.size, 0, none⟩) sep.data.toList := fun _ =>
    ⟨w.heap.size, 0, rfl, Nat.lt_succ_self _, fun j hj => by
      have e : sep.data.toList.length = sep.size := Array.length_toList
      rw [Nat.zero_add, Lib.bytesWorld_cell w 5 sep j (by omega)]
      simp [List.getD, List.getElem?_eq_getElem hj]⟩
  have hy1 := hy.below hbw hB
  have es : sep.data.toList.length = sep.size := Array.length_toList
  have hin2 := bytesIn_of hys
  rw [es] at hin2
  have hC := Tryz.bytes_Cut_all a (some ⟨w.heap.size, 0, none⟩) t.length c sep.size (grownCap w sep.size 0 5) (numsOf t) (numsOf sep.data.toList) m (Lib.bytesWorld w 5 sep) (numsOf_length _) (by rw [numsOf_length, es]) (numsOf_range _) (numsOf_range _) (bytesIn_of hy1) hin2 hc3 hc1 (by omega) (by omega) ((hbw.cell (p := ⟨0, 0, none⟩) h0).trans hmx)
  rw [numsOf_bytes, numsOf_bytes] at hC
  have HC := hide hC
  have HY1 := hide hy1
  have HBW := hide hbw
  clear hC hmx h0 hy hys hin2 hy1 hbw
  unfold maxLen at hc2
  unfold Lib.cutV at HC
  by_cases hi : 0 ≤ Lib.index t sep.data.toList
  · have hr := Lib.index_room t sep.data.toList hi
    obtain ⟨i, hie⟩ := Int.eq_ofNat_of_zero_le hi
    have hcut : Hid (cutS sep.data.toList t = some (t.take i, t.drop (i + sep.size))) := by
      show cutS _ t = _
      unfold cutS
      rw [if_pos hi, hie, es]
      rfl
    rw [if_pos hi, hie] at HC
    rw [hie, es] at hr
    have hil : i + sep.size ≤ t.length := by omega
    obtain ⟨b, o, ha, hb, hcc⟩ := HY1.out (by omega)
    subst ha
    clear hcc hi hie hr
    rw [show ((i : Int).toNat) = i from Int.toNat_natCast i] at HC
    have hfrom : Lib.fromV (some ⟨b, o, none⟩) t.length c (i + sep.size) = .slice (if c = i + sep.size then some ⟨b, o, none⟩ else some ⟨b, o + (i + sep.size), none⟩) (t.length - (i + sep.size)) (c - (i + sep.size)) := by
      unfold Lib.fromV
      have hadd : (⟨b, o, none⟩ : Addr).add (i + sep.size) = ⟨b, o + (i + sep.size), none⟩ := by unfold Addr.add; split <;> simp_all
      simp [hadd]
    rw [hfrom] at HC
    obtain ⟨v', hv'⟩ : ∃ v', Value.slice (if c = i + sep.size then some (⟨b, o, none⟩ : Addr) else some ⟨b, o + (i + sep.size), none⟩) (t.length - (i + sep.size)) (c - (i + sep.size)) = v' := ⟨_, rfl⟩
    have HR : Hid (∀ W, Below w.heap.size w W → Byt W B (some ⟨b, o, none⟩) t → Rst W B v' (t.drop (i + sep.size))) := fun W _ hyW => by
      refine ⟨_, c - (i + sep.size), by rw [List.length_drop]; exact hv'.symm, ?_, by rw [List.length_drop]; omega, by unfold maxLen; omega, fun e => ?_, fun x e => ?_⟩
      · by_cases hce : c = i + sep.size
        · have : t.drop (i + sep.size) = [] := List.drop_of_length_le (by omega)
          rw [this]; exact Byt.nil _ _ _
        · rw [if_neg hce]; exact hyW.drop (i + sep.size)
      · split at e <;> cases e
      · split at e <;> (cases e; rfl)
    rw [hv'] at HC
    have hshape : ∃ a2 n2 c2, v' = .slice a2 n2 c2 := ⟨_, _, _, hv'.symm⟩
    obtain ⟨a2, n2, c2, rfl⟩ := hshape
    clear hv' hfrom
    go_enter Tryz.func92, Tryz.ntmps92
    go_wp2_with fail
    refine HC.out.mono ?_
    rintro e w1 ⟨rfl, q, rfl⟩
    have B1 : Hid (Below w.heap.size w ((Lib.bytesWorld w 5 sep).drewN q)) := below_drewN HBW.out q
    have Y1 : Hid (Byt ((Lib.bytesWorld w 5 sep).drewN q) B (some ⟨b, o, none⟩) t) := HY1.out
    clear HC hcv HY1 HBW
    generalize (Lib.bytesWorld w 5 sep).drewN q = w1 at *
    have hcw := conv_byt (Y1.out.take i) i c (by rw [List.length_take]; omega)
    go_wp2
    refine bodyPost_ret (v := .tuple #[.string ⟨(t.take i).toArray⟩, .slice a2 n2 c2, .bool true]) (by simp [results, Tryz.results92, go_sem]) rfl ?_
    rw [hcut.out]
    exact ⟨⟨_, _, _, rfl, ⟨rfl, rfl, HR.out w1 B1.out Y1.out⟩, by show (t.take i).toArray.size ≤ _; rw [List.size_toArray, List.length_take]; omega⟩, B1.out⟩
  · have hcut : Hid (cutS sep.data.toList t = none) := by
      show cutS _ t = _
      unfold cutS
      rw [if_neg hi]
    rw [if_neg hi] at HC
    clear hi
    go_enter Tryz.func92, Tryz.ntmps92
    go_wp2_with fail
    refine HC.out.mono ?_
    rintro e w1 ⟨rfl, q, rfl⟩
    have B1 : Hid (Below w.heap.size w ((Lib.bytesWorld w 5 sep).drewN q)) := below_drewN HBW.out q
    have Y1 : Hid (Byt ((Lib.bytesWorld w 5 sep).drewN q) B a t) := HY1.out
    clear HC hcv HY1 HBW
    generalize (Lib.bytesWorld w 5 sep).drewN q = w1 at *
    have hcw := conv_byt Y1.out t.length c rfl
    go_wp2
    refine bodyPost_ret (v := .tuple #[.string ⟨t.toArray⟩, .slice none 0 0, .bool false]) (by simp [results, Tryz.results92, go_sem]) rfl ?_
    rw [hcut.out]
    exact ⟨⟨_, _, _, rfl, ⟨rfl, rfl⟩, by show t.toArray.size ≤ _; rw [List.size_toArray]; omega⟩, B1.out⟩
end Go.Proofs.YtcgmokjnjmefpaaGreatDoor
namespace Go.Proofs.YtcgmokjnjmefpaaGreatDoor
open Go.RowKit M
set_option linter.unusedVariables false

theorem set_heap {w : World} {N : Nat} {cs : Array Value} {t : TypeId} (h : w.heap[N]? = some (.cells cs t)) (k : Nat) (v : Value) : (w.setCell ⟨N, k, none⟩ v).heap[N]? = some (.cells (cs.setIfInBounds k v) t) := by
  rw [setCell_eq_setRow w N k cs t _ v h]
  exact setRow_heap w N cs _ t _ h
theorem set_other {w : World} {N M k : Nat} {o : Obj} (h : w.heap[M]? = some o) (hne : M ≠ N) (v : Value) : (w.setCell ⟨N, k, none⟩ v).heap[M]? = some o := by
  have hb : ((Below.refl (M + 1) w).block M (Nat.lt_succ_self _)) = rfl := rfl
  rcases Nat.lt_or_gt_of_ne hne with hlt | hgt
  · exact (((Below.refl (M + 1) w).setCell (p := ⟨N, k, none⟩) hlt v).block M (Nat.lt_succ_self _)).trans h
  · show (w.heap.modify N _)[M]? = _
    rw [Array.getElem?_modify]
    simp [hne.symm, h]
end Go.Proofs.YtcgmokjnjmefpaaGreatDoor
namespace Go.Proofs.YtcgmokjnjmefpaaGreatDoor
open Go.RowKit M

theorem bytes_row (w : World) (s : ByteArray) : RowAt (Lib.bytesWorld w 5 s) w.heap.size s.data.toList := by
  intro j hj
  have e : s.data.toList.length = s.size := Array.length_toList
  refine ⟨?_, ?_⟩
  · rw [Lib.bytesWorld_cell w 5 s j (by omega)]
    simp [List.getD, List.getElem?_eq_getElem hj]
  · have hsz : j < (Lib.bytesCells w 5 s).size := by
      simp only [Lib.bytesCells, Array.size_append, Array.size_map]
      have : s.data.size = s.size := rfl
      omega
    simp [World.frozen?, Lib.bytesWorld_at_new]
    omega

set_option maxHeartbeats 1000000 in
theorem lower_any (s : ByteArray) (w : World) (hs : s.size ≤ 140737488355328) :
    Calls Tryz.prog 95 #[.string s] w fun e w' => e = .returned (.string ⟨(lowL s.data.toList).toArray⟩) ∧ Below w.heap.size w w' := by
  have hcv := Lib.run_convert_string_bytes (P := Tryz.prog) w 9 22 5 s Tryz.underlying9 Tryz.underlying22 Tryz.underlying5
  have el : s.data.toList.length = s.size := Array.length_toList
  have EL : Hid (s.data.toList.length = s.size) := el
  clear el
  go_enter Tryz.func95, Tryz.ntmps95
  go_wp2
  clear hcv
  go_loopw [10] (fun i wr => ∃ k : Nat, k ≤ s.size ∧ i = .int .i64 k ∧ RowAt wr w.heap.size (mixL s.data.toList k) ∧ Below w.heap.size w wr ∧ w.heap.size < wr.heap.size) (fun i _ => s.size - (intOf i).toNat)
  case atStart =>
    refine ⟨0, Nat.zero_le _, rfl, by rw [mixL_zero]; exact bytes_row w s, ⟨rfl, rfl, rfl, ?_, fun k hk => Lib.bytesWorld_at_old w _ s k hk⟩, ?_⟩
    · rw [Lib.bytesWorld_size]; omega
    · rw [Lib.bytesWorld_size]; omega
  case round =>
    obtain ⟨k, hk, rfl, hrow, hbe, hN⟩ := hrel
    by_cases hlt : k < s.size
    · have hl := mixL_length s.data.toList k
      have hkl : k < (mixL s.data.toList k).length := by rw [hl]; have := EL.out; omega
      have hkl' : k < s.data.toList.length := by have := EL.out; omega
      obtain ⟨hc0, hf0⟩ := hrow k hkl
      rw [mixL_get _ _ hkl' hkl] at hc0
      have hc : wr.cell? ⟨w.heap.size, k, none⟩ = some (.int .u8 (s[k]).toNat) := hc0
      clear hc0 hl
      cases hb : isB ((s[k]).toNat : Int) 3
      · go_wp2_with (go_at_call 136; refine (isOneOf_any _ [3] 1 _ 0 1 _ rfl (by decide) (cells1 _ 3 168)).mono ?_; rintro e w' ⟨rfl, rfl⟩; rw [anyB_one, hb])
        go_roundw
        case rel =>
          refine ⟨k + 1, by omega, by go_num, ?_, hbe.alloc hbe.size _, by simp; omega⟩
          have e : mixL s.data.toList (k + 1) = mixL s.data.toList k := by
            rw [mixL_succ _ _ hkl']
            have e2 : lowB s.data.toList[k] = (mixL s.data.toList k)[k] := by
              rw [mixL_get _ _ hkl' hkl]; exact lowB_no _ hb
            rw [e2, List.set_getElem_self]
          rw [e]; exact hrow.alloc hN _
        case measure => simp [intOf]; omega
      · have h65 := isB3 hb
        go_wp2_with (go_at_call 136; refine (isOneOf_any _ [3] 1 _ 0 1 _ rfl (by decide) (cells1 _ 3 168)).mono ?_; rintro e w' ⟨rfl, rfl⟩; rw [anyB_one, hb])
        have hv : (Value.int IntKind.u8 (((s[k]).toNat : Int) - 65 + 97)) = Value.int IntKind.u8 ((lowB s[k]).toNat : Int) := by
          rw [lowB_yes _ hb]
          congr 1
          simp
          omega
        rw [hv]
        go_roundw
        case rel =>
          refine ⟨k + 1, by omega, by go_num, ?_, (hbe.setCell (Nat.le_refl _) _).alloc (by simp; exact hbe.size) _, by simp; omega⟩
          rw [mixL_succ _ _ hkl']
          exact (hrow.set k hkl _).alloc (by simpa using hN) _
        case measure => simp [intOf]; omega
    · have hcw := conv_row (cap := grownCap w s.size 0 5) hrow (show (mixL s.data.toList k).length = s.size by rw [mixL_length]; exact EL.out)
      rw [mixL_all _ _ (by have := EL.out; omega)] at hcw
      go_wp2
      go_ret
      exact ⟨rfl, hbe⟩
end Go.Proofs.YtcgmokjnjmefpaaGreatDoor
