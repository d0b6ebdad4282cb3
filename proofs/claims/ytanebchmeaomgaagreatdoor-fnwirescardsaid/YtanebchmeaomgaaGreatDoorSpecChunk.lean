/-
  What the specification's GetChunks does.
-/
import Derived.Test.YtanebchmeaomgaaGreatDoorMathGet
import Derived.Test.YtanebchmeaomgaaGreatDoorSpecParseHex
import Derived.Test.YtanebchmeaomgaaGreatDoorStepByts
import Derived.Test.YtanebchmeaomgaaGreatDoorSpecSm
import Derived.Test.YtanebchmeaomgaaGreatDoorHeads
namespace Go.Proofs.YtanebchmeaomgaaGreatDoor
open Go.RowKit M
set_option linter.unusedVariables false

theorem byt_eq {l : List UInt8} {k : Nat} (h : k < l.length) (c : UInt8) (hc : l.getD k 0 = c) : ((l[k].toNat : Int) != (c.toNat : Int)) = false := by
  have e : l[k] = c := by rw [← hc]; simp [List.getD, List.getElem?_eq_getElem h]
  rw [e]; simp
theorem byt_ne {l : List UInt8} {k : Nat} (h : k < l.length) (c : UInt8) (hc : l.getD k 0 ≠ c) : ((l[k].toNat : Int) != (c.toNat : Int)) = true := by
  have e : l[k] = l.getD k 0 := by simp [List.getD, List.getElem?_eq_getElem h]
  rw [bne_iff_ne]; intro h2; exact hc (by rw [← e]; exact UInt8.toNat_inj.1 (by omega))

set_option maxHeartbeats 1000000 in
theorem l4End_any (a : Option Addr) (l : List UInt8) (cap B k : Nat) (w : World) (h : Byt w B a l) (hl : l.length ≤ 1073741824) (hk : k ≤ 1073741824) :
    Calls Tryz.prog 125 #[.slice a l.length cap, .int .i64 k] w fun e w' => e = .returned (.int .i64 (endC l k)) ∧ w' = w := by
  by_cases h1 : k < l.length
  · obtain ⟨b, o, rfl, hb, hc⟩ := h (by omega)
    have hc0 := hc k h1
    by_cases h2 : l.getD k 0 = 13
    · have e2 : ((l[k].toNat : Int) != 13) = false := byt_eq h1 13 h2
      by_cases h3 : k + 1 < l.length
      · have hc1 := hc (k + 1) h3
        by_cases h4 : l.getD (k + 1) 0 = 10
        · have e4 : ((l[k + 1].toNat : Int) != 10) = false := byt_eq h3 10 h4
          have HE : Hid (endC l k = 0) := by show endC l k = 0; unfold endC; rw [if_neg (by omega), if_neg (by simp only [h2]; simp), if_neg (by omega), if_neg (by simp only [h4]; simp)]
          clear hc h2 h4
          go_enter Tryz.func125, Tryz.ntmps125
          go_wp2
          go_ret
          exact ⟨ret_int HE.out.symm, rfl⟩
        · have e4 : ((l[k + 1].toNat : Int) != 10) = true := byt_ne h3 10 h4
          have HE : Hid (endC l k = 400) := by show endC l k = 400; unfold endC; rw [if_neg (by omega), if_neg (by simp only [h2]; simp), if_neg (by omega), if_pos h4]
          clear hc h2 h4
          go_enter Tryz.func125, Tryz.ntmps125
          go_wp2
          go_ret
          exact ⟨ret_int HE.out.symm, rfl⟩
      · have HE : Hid (endC l k = 1) := by show endC l k = 1; unfold endC; rw [if_neg (by omega), if_neg (by simp only [h2]; simp), if_pos (by omega)]
        clear hc h2
        go_enter Tryz.func125, Tryz.ntmps125
        go_wp2
        go_ret
        exact ⟨ret_int HE.out.symm, rfl⟩
    · have e2 : ((l[k].toNat : Int) != 13) = true := byt_ne h1 13 h2
      have HE : Hid (endC l k = 400) := by show endC l k = 400; unfold endC; rw [if_neg (by omega), if_pos h2]
      clear hc h2
      go_enter Tryz.func125, Tryz.ntmps125
      go_wp2
      go_ret
      exact ⟨ret_int HE.out.symm, rfl⟩
  · have HE : Hid (endC l k = 1) := by show endC l k = 1; unfold endC; rw [if_pos (by omega)]
    go_enter Tryz.func125, Tryz.ntmps125
    go_wp2
    go_ret
    exact ⟨ret_int HE.out.symm, rfl⟩

theorem ret_size {a b c a' b' c' : Int} (h1 : a = a') (h2 : b = b') (h3 : c = c') : Ending.returned (.tuple #[.int .i64 a, .int .i64 b, .int .i64 c]) = .returned (.tuple #[.int .i64 a', .int .i64 b', .int .i64 c']) := by rw [h1, h2, h3]
def sz3 (l : List UInt8) (a : Nat) : Int × Int × Int := if szC l a = 0 then ((szN l a : Int), (szP l a : Int), 0) else (0, 0, szC l a)
theorem sz3_bad {l : List UInt8} {a : Nat} {c : Int} (h : szC l a = c) (hc : c ≠ 0) : sz3 l a = (0, 0, c) := by unfold sz3; rw [h, if_neg hc]
theorem sz3_good {l : List UInt8} {a : Nat} (h : szC l a = 0) : sz3 l a = ((szN l a : Int), (szP l a : Int), 0) := by unfold sz3; rw [if_pos h]

theorem szC_no {l : List UInt8} {a : Nat} (ha : a < l.length) (h : hexB (wordC l a) = false) : szC l a = 400 := by unfold szC; rw [if_neg (by omega), if_neg (by simp [h])]
theorem szC_yes {l : List UInt8} {a : Nat} (ha : a < l.length) (h : hexB (wordC l a) = true) : szC l a = endC l (a + (wordC l a).length) := by unfold szC; rw [if_neg (by omega), if_pos h]
theorem hex_no {l : List UInt8} (h : hexB l = false) (W : World) (hl : l.length ≤ maxLen) : Calls Tryz.prog 165 #[.string ⟨l.toArray⟩] W fun e w' => e = .returned (.tuple #[.int .i64 0, .bool false]) ∧ w' = W := by
  have hp := specParseHex_any ⟨l.toArray⟩ W hl
  have e : parseHex ((⟨l.toArray⟩ : ByteArray).data.toList) = (0, false) := by show parseHex l = _; unfold parseHex; rw [if_neg (by simp [h])]
  rwa [e] at hp
theorem hex_yes {l : List UInt8} (h : hexB l = true) (W : World) (hl : l.length ≤ maxLen) : Calls Tryz.prog 165 #[.string ⟨l.toArray⟩] W fun e w' => e = .returned (.tuple #[.int .i64 (hexVal l : Int), .bool true]) ∧ w' = W := by
  have hp := specParseHex_any ⟨l.toArray⟩ W hl
  have e : parseHex ((⟨l.toArray⟩ : ByteArray).data.toList) = ((hexVal l : Int), true) := by show parseHex l = _; unfold parseHex; rw [if_pos h]
  rwa [e] at hp
/-- 'string(b[at:k])' where that is the word. -/
theorem conv_word {w : World} {B b o : Nat} {l : List UInt8} (h : Byt w B (some ⟨b, o, none⟩) l) (k0 k c n : Nat) (hk : (wordC l k0).length = k - k0) : (convert 22 9 (.slice (some ⟨b, o + k0, none⟩) (k - k0) c)).run Tryz.prog (w.drewN n) = .ok (.string ⟨(wordC l k0).toArray⟩) (w.drewN n) := by
  have h1 : Byt (w.drewN n) B (some ⟨b, o, none⟩) l := h
  have h2 := (h1.drop k0).take (wordC l k0).length
  rw [wordC_take] at h2
  exact conv_byt h2 (k - k0) c hk

set_option maxRecDepth 100000 in
set_option maxHeartbeats 2000000 in
theorem l4Size_any (a : Option Addr) (l : List UInt8) (cap B k0 : Nat) (w : World) (h : Byt w B a l) (hl : l.length ≤ 1073741824) (hlc : l.length ≤ cap) (hcm : cap ≤ maxLen) (hk : k0 ≤ l.length) :
    Calls Tryz.prog 124 #[.slice a l.length cap, .int .i64 k0] w fun e w' => e = .returned (.tuple #[.int .i64 (sz3 l k0).1, .int .i64 (sz3 l k0).2.1, .int .i64 (sz3 l k0).2.2]) ∧ ∃ n, w' = w.drewN n := by
  unfold maxLen at hcm
  have HB := hide h
  go_enter Tryz.func124, Tryz.ntmps124
  go_wp2
  go_loopw [7] (fun kv wr => ∃ k n : Nat, k0 ≤ k ∧ k ≤ k0 + 5 ∧ k ≤ l.length ∧ kv = .int .i64 k ∧ k - k0 ≤ (wordC l k0).length ∧ wr = w.drewN n) (fun kv _ => k0 + 5 - (intOf kv).toNat)
  case atStart => exact ⟨k0, 0, Nat.le_refl _, by omega, hk, rfl, by omega, rfl⟩
  case round =>
    obtain ⟨k, n, h1, h2, h3, rfl, h4, rfl⟩ := hrel
    have HW := hide h4
    clear h4
    have hw5 : IntKind.i64.wrap ((k0 : Int) + 5) = (k0 : Int) + 5 := by rw [IntKind.wrap_i64]; omega
    by_cases c1 : k < l.length
    · have c1' : (k : Int) < l.length := by omega
      by_cases c2 : k < k0 + 5
      · have c2' : (k : Int) < (k0 : Int) + 5 := by omega
        obtain ⟨b, o, rfl, hb, hc⟩ := h (by omega)
        have hc0 := hc k c1
        by_cases c3 : l.getD k 0 = 13
        · have e3 : ((l[k].toNat : Int) != 13) = false := byt_eq c1 13 c3
          have HL : Hid ((wordC l k0).length = k - k0) := by
            show (wordC l k0).length = k - k0
            exact wordC_stop (a := k0) (j := k - k0) (by omega) HW.out (by rw [show k0 + (k - k0) = k by omega]; exact c3)
          have hcv := conv_word h k0 k (cap - k0) n HL.out
          have hwm : (wordC l k0).length ≤ maxLen := by unfold maxLen; have := wordC_le l k0; omega
          have hne5 : ((k : Int) == (k0 : Int) + 5) = false := by rw [beq_eq_false_iff_ne]; omega
          have hEk : k0 + (wordC l k0).length = k := by have := HL.out; omega
          have HEk := hide hEk
          clear hc hEk
          cases hx : hexB (wordC l k0)
          · have HE : Hid (sz3 l k0 = (0, 0, 400)) := sz3_bad (szC_no (by omega) hx) (by decide)
            have HX := fun W => hex_no hx W hwm
            have HX' := hide HX
            clear c3 HX hwm
            go_wp2_with fail
            refine (HX'.out _).mono ?_
            rintro e w1 ⟨rfl, hw1⟩
            obtain rfl := hw1.symm
            go_wp2
            refine bodyPost_ret (v := .tuple #[.int .i64 0, .int .i64 0, .int .i64 400]) (by simp [results, Tryz.results124, go_sem]) rfl ⟨by rw [HE.out], n, rfl⟩
          · have HX := fun W => hex_yes hx W hwm
            have HX' := hide HX
            have HSy := hide (szC_yes (a := k0) (by omega) hx)
            have hv : hexVal (wordC l k0) < 1048576 := by
              have := hexVal_lt (⟨(wordC l k0).toArray⟩ : ByteArray) (wordC l k0).length (Nat.le_refl _) (by show hexs (List.take _ (wordC l k0)) = true; rw [List.take_length]; simp only [hexB, Bool.and_eq_true] at hx; exact hx.2.2)
              have h5 : (wordC l k0).length ≤ 5 := by have := HL.out; omega
              have h16 := pow16_le h5
              have e : List.take (wordC l k0).length ((⟨(wordC l k0).toArray⟩ : ByteArray).data.toList) = wordC l k0 := List.take_length
              rw [e] at this
              omega
            clear HX hwm
            by_cases c4 : k + 1 < l.length
            · have c4' : ¬ ((l.length : Int) ≤ (k : Int) + 1) := by omega
              have hc1 := (h (by omega))
              obtain ⟨b', o', hbo, _, hcc⟩ := hc1
              cases hbo
              have hc2 := hcc (k + 1) c4
              clear hcc
              by_cases c5 : l.getD (k + 1) 0 = 10
              · have e5 : ((l[k + 1].toNat : Int) != 10) = false := byt_eq c4 10 c5
                have HE : Hid (sz3 l k0 = ((szN l k0 : Int), (szP l k0 : Int), 0)) := sz3_good (by rw [HSy.out, HEk.out]; unfold endC; rw [if_neg (by omega), if_neg (by simp only [c3]; simp), if_neg (by omega), if_neg (by simp only [c5]; simp)])
                have HP : Hid ((szP l k0 : Int) = (k : Int) + 2) := by show (szP l k0 : Int) = _; unfold szP; have := HEk.out; omega
                have HV : Hid (szN l k0 = hexVal (wordC l k0)) := rfl
                generalize hexVal (wordC l k0) = v at *
                clear c3 c5
                go_wp2_with fail
                refine (HX'.out _).mono ?_
                rintro e w1 ⟨rfl, hw1⟩
                obtain rfl := hw1.symm
                go_wp2_with fail
                refine (HX'.out _).mono ?_
                rintro e w2 ⟨rfl, hw2⟩
                obtain rfl := hw2.symm
                go_wp2
                refine bodyPost_ret (v := .tuple #[.int .i64 (v : Int), .int .i64 ((k : Int) + 2), .int .i64 0]) (by simp [results, Tryz.results124, go_sem]) rfl ⟨by rw [HE.out, HV.out, HP.out], n, rfl⟩
              · have e5 : ((l[k + 1].toNat : Int) != 10) = true := byt_ne c4 10 c5
                have HE : Hid (sz3 l k0 = (0, 0, 400)) := sz3_bad (by rw [HSy.out, HEk.out]; unfold endC; rw [if_neg (by omega), if_neg (by simp only [c3]; simp), if_neg (by omega), if_pos c5]) (by decide)
                clear c3 c5
                go_wp2_with fail
                refine (HX'.out _).mono ?_
                rintro e w1 ⟨rfl, hw1⟩
                obtain rfl := hw1.symm
                go_wp2
                refine bodyPost_ret (v := .tuple #[.int .i64 0, .int .i64 0, .int .i64 400]) (by simp [results, Tryz.results124, go_sem]) rfl ⟨by rw [HE.out], n, rfl⟩
            · have c4' : (l.length : Int) ≤ (k : Int) + 1 := by omega
              have HE : Hid (sz3 l k0 = (0, 0, 1)) := sz3_bad (by rw [HSy.out, HEk.out]; unfold endC; rw [if_neg (by omega), if_neg (by simp only [c3]; simp), if_pos (by omega)]) (by decide)
              clear c3
              go_wp2_with fail
              refine (HX'.out _).mono ?_
              rintro e w1 ⟨rfl, hw1⟩
              obtain rfl := hw1.symm
              go_wp2
              refine bodyPost_ret (v := .tuple #[.int .i64 0, .int .i64 0, .int .i64 1]) (by simp [results, Tryz.results124, go_sem]) rfl ⟨by rw [HE.out], n, rfl⟩
        · have e3 : ((l[k].toNat : Int) != 13) = true := byt_ne c1 13 c3
          have HL : Hid (k + 1 - k0 ≤ (wordC l k0).length) := by
            show k + 1 - k0 ≤ (wordC l k0).length
            have := wordC_step (a := k0) (j := k - k0) (by omega) HW.out (by rw [show k0 + (k - k0) = k by omega]; exact c3)
            omega
          clear c3 hc
          go_wp2
          go_roundw
          case rel => exact ⟨k + 1, n, by omega, by omega, by omega, by go_num, HL.out, rfl⟩
          case measure => simp [intOf]; omega
      · have c2' : ¬ ((k : Int) < (k0 : Int) + 5) := by omega
        have hk5 : k = k0 + 5 := by omega
        have HE : Hid (sz3 l k0 = (0, 0, 400)) := sz3_bad (szC_long hk (by have := HW.out; omega)) (by decide)
        have he5 : ((k : Int) == (k0 : Int) + 5) = true := by rw [beq_iff_eq]; omega
        go_wp2
        refine bodyPost_ret (v := .tuple #[.int .i64 0, .int .i64 0, .int .i64 400]) (by simp [results, Tryz.results124, go_sem]) rfl ⟨by rw [HE.out], n, rfl⟩
    · have c1' : ¬ ((k : Int) < l.length) := by omega
      have HL : Hid ((wordC l k0).length = k - k0) := by
        show (wordC l k0).length = k - k0
        exact wordC_last hk (by omega) HW.out
      have hne5 : k ≠ k0 + 5 → ((k : Int) == (k0 : Int) + 5) = false := fun hn => by rw [beq_eq_false_iff_ne]; omega
      have hEk : k0 + (wordC l k0).length = k := by have := HL.out; omega
      have HEk := hide hEk
      clear hEk
      by_cases c2 : k = k0 + 5
      · have HE : Hid (sz3 l k0 = (0, 0, 400)) := sz3_bad (szC_long hk (by have := HL.out; omega)) (by decide)
        have he5 : ((k : Int) == (k0 : Int) + 5) = true := by rw [beq_iff_eq]; omega
        clear hne5
        go_wp2
        refine bodyPost_ret (v := .tuple #[.int .i64 0, .int .i64 0, .int .i64 400]) (by simp [results, Tryz.results124, go_sem]) rfl ⟨by rw [HE.out], n, rfl⟩
      · have hne := hne5 c2
        clear hne5
        by_cases c6 : k0 < k
        · have c6' : (k0 : Int) < k := by omega
          obtain ⟨b, o, rfl, hb, hc⟩ := h (by omega)
          have hcv := conv_word h k0 k (cap - k0) n HL.out
          have hwm : (wordC l k0).length ≤ maxLen := by unfold maxLen; have := wordC_le l k0; omega
          clear hc
          cases hx : hexB (wordC l k0)
          · have HE : Hid (sz3 l k0 = (0, 0, 400)) := sz3_bad (szC_no (by omega) hx) (by decide)
            have HX' := hide (fun W => hex_no hx W hwm)
            clear hwm
            go_wp2_with fail
            refine (HX'.out _).mono ?_
            rintro e w1 ⟨rfl, hw1⟩
            obtain rfl := hw1.symm
            go_wp2
            refine bodyPost_ret (v := .tuple #[.int .i64 0, .int .i64 0, .int .i64 400]) (by simp [results, Tryz.results124, go_sem]) rfl ⟨by rw [HE.out], n, rfl⟩
          · have HE : Hid (sz3 l k0 = (0, 0, 1)) := sz3_bad (by rw [szC_yes (by omega) hx, HEk.out]; unfold endC; rw [if_pos (by omega)]) (by decide)
            have HX' := hide (fun W => hex_yes hx W hwm)
            clear hwm
            go_wp2_with fail
            refine (HX'.out _).mono ?_
            rintro e w1 ⟨rfl, hw1⟩
            obtain rfl := hw1.symm
            go_wp2
            refine bodyPost_ret (v := .tuple #[.int .i64 0, .int .i64 0, .int .i64 1]) (by simp [results, Tryz.results124, go_sem]) rfl ⟨by rw [HE.out], n, rfl⟩
        · have HE : Hid (sz3 l k0 = (0, 0, 1)) := sz3_bad (by unfold szC; rw [if_pos (by omega)]) (by decide)
          have c6' : ¬ ((k0 : Int) < k) := by omega
          go_wp2
          refine bodyPost_ret (v := .tuple #[.int .i64 0, .int .i64 0, .int .i64 1]) (by simp [results, Tryz.results124, go_sem]) rfl ⟨by rw [HE.out], n, rfl⟩
end Go.Proofs.YtanebchmeaomgaaGreatDoor
