/-
  The walk of the law FnSmall: for every code it returns true, and turns nothing that was there.
-/
import Derived.Test.YtniejmemhmfemaaDoorIsRow
import Derived.Test.YtniejmemhmfemaaDoorDrawP
import Derived.Test.YtniejmemhmfemaaDoorMathBack
import Derived.Test.YtniejmemhmfemaaDoorSpecTrim
import Derived.Test.YtniejmemhmfemaaDoorTrim
import Derived.Test.YtniejmemhmfemaaDoorSpecLower
import Derived.Test.YtniejmemhmfemaaDoorLower
import Derived.Test.YtniejmemhmfemaaDoorNumText
import Derived.Test.YtniejmemhmfemaaDoorFormatBits
import Derived.Test.YtniejmemhmfemaaDoorParseHex
namespace Go.Proofs.YtniejmemhmfemaaDoor
open Go.RowKit M

theorem bytes_ext {s t : ByteArray} (h : s.data.toList = t.data.toList) : s = t := by
  apply ByteArray.ext
  exact Array.toList_inj.1 h

set_option maxHeartbeats 400000 in
theorem big_any (a : Option Addr) (len cap : Nat) (w : World) (_hl : len ≤ maxLen) :
    Calls Tryd.prog 5 #[.slice a len cap] w fun e w' => e = .returned (.bool (decide ((1048576 : Int) < len))) ∧ w' = w := by
  unfold maxLen at _hl
  go_enter Tryd.func5, Tryd.ntmps5
  go_wp2
  go_ret
  exact ⟨rfl, rfl⟩

theorem row_len {w : World} {a : Option Addr} {len cap : Nat} {zs : List Int} (h : IsRow .u8 w a len cap zs) : len ≤ maxLen := by
  rcases h with ⟨_, rfl, _, _⟩ | ⟨x, _, hl, hm, _⟩
  · exact Nat.zero_le _
  · omega

/-- What at answers. -/
def atV (zs : List Int) (len i : Nat) : Int := if i < len then zs.getD i 0 else ((i * 31 + len * 7 : Nat) : Int) % 256

theorem atV_bd {w : World} {B : Nat} {a : Option Addr} {len : Nat} {zs : List Int} (h : CodeIn w B a len zs) (i : Nat) : 0 ≤ atV zs len i ∧ atV zs len i ≤ 255 := by
  unfold atV
  split
  · exact h.code.bd i (by assumption)
  · omega

set_option maxHeartbeats 400000 in
theorem at_any {w : World} {B : Nat} {a : Option Addr} {len : Nat} {zs : List Int} (h : CodeIn w B a len zs) (cap i : Nat) (hi : i ≤ 1000) :
    Calls Tryd.prog 6 #[.slice a len cap, .int .i64 i] w fun e w' => e = .returned (.int .i64 (atV zs len i)) ∧ w' = w := by
  have hlen := h.hlen
  by_cases hlt : i < len
  · obtain ⟨b, off, rfl, hc⟩ := h.code.at0 (by omega)
    have hcx := hc i hlt
    have hbd := h.code.bd i hlt
    have HV : Hid (atV zs len i = zs.getD i 0) := by unfold atV; exact if_pos hlt
    clear hc h
    generalize zs.getD i 0 = z at *
    go_enter Tryd.func6, Tryd.ntmps6
    go_wp2
    go_ret
    exact ⟨by rw [HV.out]; rfl, rfl⟩
  · have HV : Hid (atV zs len i = ((i * 31 + len * 7 : Nat) : Int) % 256) := by unfold atV; exact if_neg hlt
    clear h
    go_enter Tryd.func6, Tryd.ntmps6
    go_wp2
    go_ret
    refine ⟨?_, rfl⟩
    rw [HV.out]
    go_light
    congr 2

set_option maxHeartbeats 4000000 in
theorem FnSmall_walk (a : Option Addr) (len cap : Nat) (zs : List Int) (w : World) (hr : IsRow .u8 w a len cap zs) (hL : laidMet Tryd.prog Rows.fnSmallRow.laid w) :
    Calls Tryd.prog 3 #[.slice a len cap] w fun e w' => e = .returned (.bool true) ∧ Below w.heap.size w w' := by
  have HT : Hid (PowTab w) := powTab_of hL.tail.tail
  have HE : Hid (DeTab w) := deTab_of hL.tail
  have hml := row_len hr
  by_cases hb : (1048576 : Int) < (len : Int)
  · clear hL hr
    go_enter Tryd.func3, Tryd.ntmps3
    go_wp2_with (go_at_call 5; refine (big_any a len cap _ hml).mono ?_; rintro e w1 ⟨rfl, hw⟩; obtain rfl := hw.symm; rw [decide_eq_true hb])
    go_ret
    exact ⟨rfl, Below.refl _ _⟩
  · have HC : Hid (CodeIn w w.heap.size a len zs) := code_of_row hr (by omega)
    clear hL hr
    -- the two bytes
    have b2 := atV_bd HC.out 2
    have b3 := atV_bd HC.out 3
    have HA2 : Hid (∀ W, CodeIn W w.heap.size a len zs → Calls Tryd.prog 6 #[.slice a len cap, .int .i64 2] W fun e w' => e = .returned (.int .i64 (atV zs len 2)) ∧ w' = W) := fun W h => at_any h cap 2 (by decide)
    have HA3 : Hid (∀ W, CodeIn W w.heap.size a len zs → Calls Tryd.prog 6 #[.slice a len cap, .int .i64 3] W fun e w' => e = .returned (.int .i64 (atV zs len 3)) ∧ w' = W) := fun W h => at_any h cap 3 (by decide)
    generalize atV zs len 2 = v2 at *
    generalize atV zs len 3 = v3 at *
    have n0 : 0 ≤ v2 * 256 + v3 := by omega
    have n1 : v2 * 256 + v3 < 65536 := by omega
    obtain ⟨N, hN⟩ := Int.eq_ofNat_of_zero_le n0
    have hN2 : N < 65536 := by omega
    have HN : Hid (v2 * 256 + v3 = (N : Int)) := hN
    clear hN n0 n1
    -- numbers come back
    have HNT : Hid (∀ W, PowTab W → Calls Tryd.prog 8 #[.int .i64 (N : Int)] W fun e w' => e = .returned (.string ⟨(Lib.decDigits N).toArray⟩) ∧ Below W.heap.size W w') := fun W h => numText_any (N : Int) W (by omega) h
    have HPB : Hid (∀ W, Calls Tryd.prog 7 #[.string ⟨(Lib.decDigits N).toArray⟩, .int .i64 65535] W fun e w' => e = .returned (.tuple #[.int .i64 (N : Int), .bool true]) ∧ Below W.heap.size W w') := by
      intro W
      have hl : (⟨(Lib.decDigits N).toArray⟩ : ByteArray).size ≤ maxLen := by
        rw [size_arr]
        have := decDigits_le N (by omega)
        unfold maxLen; omega
      have h := parseNum_any ⟨(Lib.decDigits N).toArray⟩ 65535 W hl
      rw [show (⟨(Lib.decDigits N).toArray⟩ : ByteArray).data.toList = Lib.decDigits N from rfl, parse_dec N 65535 (by omega) (by omega)] at h
      exact h
    have HHT : Hid (∀ W, DeTab W → Calls Tryd.prog 10 #[.int .i64 (N : Int)] W fun e w' => e = .returned (.string ⟨(hexDigits N).toArray⟩) ∧ Below W.heap.size W w') := fun W h => hex_any (N : Int) W (by omega) h
    have HHB : Hid (∀ W, Calls Tryd.prog 9 #[.string ⟨(hexDigits N).toArray⟩] W fun e w' => e = .returned (.tuple #[.int .i64 (N : Int), .bool true]) ∧ Below W.heap.size W w') := by
      intro W
      have hl : (⟨(hexDigits N).toArray⟩ : ByteArray).size ≤ maxLen := by
        rw [size_arr]
        have := hexDig_le 16 N
        unfold maxLen hexDigits; omega
      have h := parseHex_any ⟨(hexDigits N).toArray⟩ W hl
      rw [show (⟨(hexDigits N).toArray⟩ : ByteArray).data.toList = hexDigits N from rfl, parse_hex N (by omega)] at h
      exact h
    -- what is drawn
    have kp := dPN_le zs len
    have HDP : Hid (∀ W, CodeIn W w.heap.size a len zs → Calls Tryd.prog 11 #[.slice a len cap] W fun e w' => e = .returned (.tuple #[.string (dPN zs len), .int .i64 (dMost zs len)]) ∧ Below W.heap.size W w') := fun W h => drawParseNum_any h cap
    generalize dPN zs len = P at *
    generalize dMost zs len = M at *
    have hPm : P.size ≤ maxLen := by unfold maxLen; omega
    have HP1 : Hid (∀ W, Calls Tryd.prog 7 #[.string P, .int .i64 M] W fun e w' => e = .returned (.tuple #[.int .i64 (parseNum P.data.toList M).1, .bool (parseNum P.data.toList M).2]) ∧ Below W.heap.size W w') := fun W => parseNum_any P M W hPm
    have HP2 : Hid (∀ W, Calls Tryd.prog 12 #[.string P, .int .i64 M] W fun e w' => e = .returned (.tuple #[.int .i64 (parseNum P.data.toList M).1, .bool (parseNum P.data.toList M).2]) ∧ w' = W) := fun W => specParseNum_any P M W hPm
    have HPS : Hid ((parseNum P.data.toList M).2 = true → ∀ W, PowTab W → Calls Tryd.prog 8 #[.int .i64 (parseNum P.data.toList M).1] W fun e w' => e = .returned (.string P) ∧ Below W.heap.size W w') := by
      intro h W hW
      obtain ⟨hok, he⟩ := parseOk_of h
      have hlt := decVal_lt _ hok.2.2.1
      have hpw := Nat.pow_le_pow_right (show 0 < 10 by decide) (show P.data.toList.length ≤ 8 by have := hok.2.1; omega)
      rw [he]
      have h1 := numText_any ((decVal P.data.toList : Nat) : Int) W (by omega) hW
      rw [Int.toNat_natCast, dec_parse hok] at h1
      exact h1
    generalize parseNum P.data.toList M = r at *
    obtain ⟨x, c1⟩ := r
    simp only at HP1 HP2 HPS
    have kh := dPH_le zs len
    have HDH : Hid (∀ W, CodeIn W w.heap.size a len zs → Calls Tryd.prog 13 #[.slice a len cap] W fun e w' => e = .returned (.string (dPH zs len)) ∧ Below W.heap.size W w') := fun W h => drawParseHex_any h cap
    generalize dPH zs len = Q at *
    have hQm : Q.size ≤ maxLen := by unfold maxLen; omega
    have HH1 : Hid (∀ W, Calls Tryd.prog 9 #[.string Q] W fun e w' => e = .returned (.tuple #[.int .i64 (parseHex Q.data.toList).1, .bool (parseHex Q.data.toList).2]) ∧ Below W.heap.size W w') := fun W => parseHex_any Q W hQm
    have HH2 : Hid (∀ W, Calls Tryd.prog 14 #[.string Q] W fun e w' => e = .returned (.tuple #[.int .i64 (parseHex Q.data.toList).1, .bool (parseHex Q.data.toList).2]) ∧ w' = W) := fun W => specParseHex_any Q W hQm
    generalize parseHex Q.data.toList = r at *
    obtain ⟨y, c2⟩ := r
    simp only at HH1 HH2
    have kt := dTrim_le zs len
    have HDT : Hid (∀ W, CodeIn W w.heap.size a len zs → Calls Tryd.prog 16 #[.slice a len cap] W fun e w' => e = .returned (.string (dTrim zs len)) ∧ Below W.heap.size W w') := fun W h => drawTrim_any h cap
    generalize dTrim zs len = R at *
    have hRl := len_list R
    obtain ⟨t, ht⟩ : ∃ t : ByteArray, t.data.toList = trimL R.data.toList := ⟨⟨(trimL R.data.toList).toArray⟩, rfl⟩
    have htl : t.size ≤ 300 := by
      have h1 : t.data.toList.length = t.size := Array.length_toList
      rw [ht] at h1
      have h2 := trim_len R.data.toList
      omega
    have HT1 : Hid (∀ W, Calls Tryd.prog 15 #[.string R] W fun e w' => e = .returned (.string t) ∧ Below W.heap.size W w') := by
      intro W
      refine (trim_any R W (by omega)).mono ?_
      rintro e w' ⟨⟨u, rfl, hu⟩, hb⟩
      rw [bytes_ext (hu.trans ht.symm)]
      exact ⟨rfl, hb⟩
    have HT2 : Hid (∀ W, Calls Tryd.prog 15 #[.string t] W fun e w' => e = .returned (.string t) ∧ Below W.heap.size W w') := by
      intro W
      refine (trim_any t W (by omega)).mono ?_
      rintro e w' ⟨⟨u, rfl, hu⟩, hb⟩
      rw [bytes_ext (hu.trans (by rw [ht, trim_idem]))]
      exact ⟨rfl, hb⟩
    have HT3 : Hid (∀ W, Calls Tryd.prog 19 #[.string R] W fun e w' => e = .returned (.string t) ∧ w' = W) := by
      intro W
      refine (specTrim_any R W (by unfold maxLen; omega)).mono ?_
      rintro e w' ⟨⟨u, rfl, hu⟩, hb⟩
      rw [bytes_ext (hu.trans ht.symm)]
      exact ⟨rfl, hb⟩
    clear ht hRl
    have kl := dLow_le zs len
    have HDL : Hid (∀ W, CodeIn W w.heap.size a len zs → Calls Tryd.prog 18 #[.slice a len cap] W fun e w' => e = .returned (.string (dLow zs len)) ∧ Below W.heap.size W w') := fun W h => drawLower_any h cap
    generalize dLow zs len = U at *
    have hUl := len_list U
    obtain ⟨L, hLd⟩ : ∃ L : ByteArray, L = ⟨(lowL U.data.toList).toArray⟩ := ⟨_, rfl⟩
    have hLl : L.size ≤ 300 := by
      rw [hLd, size_arr]
      unfold lowL
      rw [List.length_map]; omega
    have HL1 : Hid (∀ W, Calls Tryd.prog 17 #[.string U] W fun e w' => e = .returned (.string L) ∧ Below W.heap.size W w') := by
      intro W
      rw [hLd]; exact lower_any U W (by omega)
    have HL2 : Hid (∀ W, Calls Tryd.prog 17 #[.string L] W fun e w' => e = .returned (.string L) ∧ Below W.heap.size W w') := by
      intro W
      have h := lower_any L W (by omega)
      have e : (⟨(lowL L.data.toList).toArray⟩ : ByteArray) = L := by
        rw [hLd]
        apply bytes_ext
        exact low_idem _
      rw [e] at h
      exact h
    have HL3 : Hid (∀ W, Calls Tryd.prog 20 #[.string U] W fun e w' => e = .returned (.string L) ∧ Below W.heap.size W w') := by
      intro W
      rw [hLd]; exact specLower_any U W (by omega)
    clear hLd hUl kp kh kt kl htl hLl hPm hQm
    cases c1
    · have HB0 : Hid (Below w.heap.size w w) := Below.refl _ _
      go_enter Tryd.func3, Tryd.ntmps3
      go_wp2_with (go_at_call 5; refine (big_any a len cap _ hml).mono ?_; rintro e w1 ⟨rfl, hw⟩; obtain rfl := hw.symm; rw [decide_eq_false hb])
      refine (HA2.out _ HC.out).mono ?_
      rintro e w1 ⟨rfl, hw⟩
      obtain rfl := hw.symm
      clear hw
      go_wp2_with fail
      refine (HA3.out _ HC.out).mono ?_
      rintro e w1 ⟨rfl, hw⟩
      obtain rfl := hw.symm
      clear hw
      go_wp2_with fail
      rw [HN.out]
      refine (HNT.out _ HT.out).mono ?_
      rintro e w1 ⟨rfl, hb1⟩
      have HB1 : Hid (Below w.heap.size w w1) := hb1; clear hb1
      go_wp2_with fail
      refine (HPB.out _).mono ?_
      rintro e w2 ⟨rfl, hb2⟩
      have HB2 : Hid (Below w.heap.size w w2) := HB1.out.trans (hb2.mono HB1.out.size); clear hb2
      go_wp2_with fail
      refine (HHT.out _ (HE.out.below HB2.out)).mono ?_
      rintro e w3 ⟨rfl, hb3⟩
      have HB3 : Hid (Below w.heap.size w w3) := HB2.out.trans (hb3.mono HB2.out.size); clear hb3
      go_wp2_with fail
      refine (HHB.out _).mono ?_
      rintro e w4 ⟨rfl, hb4⟩
      have HB4 : Hid (Below w.heap.size w w4) := HB3.out.trans (hb4.mono HB3.out.size); clear hb4
      go_wp2_with fail
      refine (HDP.out _ (HC.out.below HB4.out)).mono ?_
      rintro e w5 ⟨rfl, hb5⟩
      have HB5 : Hid (Below w.heap.size w w5) := HB4.out.trans (hb5.mono HB4.out.size); clear hb5
      go_wp2_with fail
      refine (HP1.out _).mono ?_
      rintro e w6 ⟨rfl, hb6⟩
      have HB6 : Hid (Below w.heap.size w w6) := HB5.out.trans (hb6.mono HB5.out.size); clear hb6
      go_wp2_with fail
      refine (HP2.out _).mono ?_
      rintro e w7 ⟨rfl, hw⟩
      obtain rfl := hw.symm
      clear hw
      go_wp2_with fail
      refine (HDH.out _ (HC.out.below HB6.out)).mono ?_
      rintro e w8 ⟨rfl, hb8⟩
      have HB8 : Hid (Below w.heap.size w w8) := HB6.out.trans (hb8.mono HB6.out.size); clear hb8
      go_wp2_with fail
      refine (HH1.out _).mono ?_
      rintro e w9 ⟨rfl, hb9⟩
      have HB9 : Hid (Below w.heap.size w w9) := HB8.out.trans (hb9.mono HB8.out.size); clear hb9
      go_wp2_with fail
      refine (HH2.out _).mono ?_
      rintro e w10 ⟨rfl, hw⟩
      obtain rfl := hw.symm
      clear hw
      go_wp2_with fail
      refine (HDT.out _ (HC.out.below HB9.out)).mono ?_
      rintro e w11 ⟨rfl, hb11⟩
      have HB11 : Hid (Below w.heap.size w w11) := HB9.out.trans (hb11.mono HB9.out.size); clear hb11
      go_wp2_with fail
      refine (HT1.out _).mono ?_
      rintro e w12 ⟨rfl, hb12⟩
      have HB12 : Hid (Below w.heap.size w w12) := HB11.out.trans (hb12.mono HB11.out.size); clear hb12
      go_wp2_with fail
      refine (HDL.out _ (HC.out.below HB12.out)).mono ?_
      rintro e w13 ⟨rfl, hb13⟩
      have HB13 : Hid (Below w.heap.size w w13) := HB12.out.trans (hb13.mono HB12.out.size); clear hb13
      go_wp2_with fail
      refine (HL1.out _).mono ?_
      rintro e w14 ⟨rfl, hb14⟩
      have HB14 : Hid (Below w.heap.size w w14) := HB13.out.trans (hb14.mono HB13.out.size); clear hb14
      go_wp2_with fail
      refine (HT2.out _).mono ?_
      rintro e w16 ⟨rfl, hb16⟩
      have HB16 : Hid (Below w.heap.size w w16) := HB14.out.trans (hb16.mono HB14.out.size); clear hb16
      go_wp2_with fail
      refine (HDT.out _ (HC.out.below HB16.out)).mono ?_
      rintro e w17 ⟨rfl, hb17⟩
      have HB17 : Hid (Below w.heap.size w w17) := HB16.out.trans (hb17.mono HB16.out.size); clear hb17
      go_wp2_with fail
      refine (HT3.out _).mono ?_
      rintro e w18 ⟨rfl, hw⟩
      obtain rfl := hw.symm
      clear hw
      go_wp2_with fail
      refine (HL2.out _).mono ?_
      rintro e w19 ⟨rfl, hb19⟩
      have HB19 : Hid (Below w.heap.size w w19) := HB17.out.trans (hb19.mono HB17.out.size); clear hb19
      go_wp2_with fail
      refine (HDL.out _ (HC.out.below HB19.out)).mono ?_
      rintro e w20 ⟨rfl, hb20⟩
      have HB20 : Hid (Below w.heap.size w w20) := HB19.out.trans (hb20.mono HB19.out.size); clear hb20
      go_wp2_with fail
      refine (HL3.out _).mono ?_
      rintro e w21 ⟨rfl, hb21⟩
      have HB21 : Hid (Below w.heap.size w w21) := HB20.out.trans (hb21.mono HB20.out.size); clear hb21
      go_wp2
      go_ret
      exact ⟨rfl, HB21.out⟩
    · have HB0 : Hid (Below w.heap.size w w) := Below.refl _ _
      go_enter Tryd.func3, Tryd.ntmps3
      go_wp2_with (go_at_call 5; refine (big_any a len cap _ hml).mono ?_; rintro e w1 ⟨rfl, hw⟩; obtain rfl := hw.symm; rw [decide_eq_false hb])
      refine (HA2.out _ HC.out).mono ?_
      rintro e w1 ⟨rfl, hw⟩
      obtain rfl := hw.symm
      clear hw
      go_wp2_with fail
      refine (HA3.out _ HC.out).mono ?_
      rintro e w1 ⟨rfl, hw⟩
      obtain rfl := hw.symm
      clear hw
      go_wp2_with fail
      rw [HN.out]
      refine (HNT.out _ HT.out).mono ?_
      rintro e w1 ⟨rfl, hb1⟩
      have HB1 : Hid (Below w.heap.size w w1) := hb1; clear hb1
      go_wp2_with fail
      refine (HPB.out _).mono ?_
      rintro e w2 ⟨rfl, hb2⟩
      have HB2 : Hid (Below w.heap.size w w2) := HB1.out.trans (hb2.mono HB1.out.size); clear hb2
      go_wp2_with fail
      refine (HHT.out _ (HE.out.below HB2.out)).mono ?_
      rintro e w3 ⟨rfl, hb3⟩
      have HB3 : Hid (Below w.heap.size w w3) := HB2.out.trans (hb3.mono HB2.out.size); clear hb3
      go_wp2_with fail
      refine (HHB.out _).mono ?_
      rintro e w4 ⟨rfl, hb4⟩
      have HB4 : Hid (Below w.heap.size w w4) := HB3.out.trans (hb4.mono HB3.out.size); clear hb4
      go_wp2_with fail
      refine (HDP.out _ (HC.out.below HB4.out)).mono ?_
      rintro e w5 ⟨rfl, hb5⟩
      have HB5 : Hid (Below w.heap.size w w5) := HB4.out.trans (hb5.mono HB4.out.size); clear hb5
      go_wp2_with fail
      refine (HP1.out _).mono ?_
      rintro e w6 ⟨rfl, hb6⟩
      have HB6 : Hid (Below w.heap.size w w6) := HB5.out.trans (hb6.mono HB5.out.size); clear hb6
      go_wp2_with fail
      refine (HP2.out _).mono ?_
      rintro e w7 ⟨rfl, hw⟩
      obtain rfl := hw.symm
      clear hw
      go_wp2_with fail
      refine (HDH.out _ (HC.out.below HB6.out)).mono ?_
      rintro e w8 ⟨rfl, hb8⟩
      have HB8 : Hid (Below w.heap.size w w8) := HB6.out.trans (hb8.mono HB6.out.size); clear hb8
      go_wp2_with fail
      refine (HH1.out _).mono ?_
      rintro e w9 ⟨rfl, hb9⟩
      have HB9 : Hid (Below w.heap.size w w9) := HB8.out.trans (hb9.mono HB8.out.size); clear hb9
      go_wp2_with fail
      refine (HH2.out _).mono ?_
      rintro e w10 ⟨rfl, hw⟩
      obtain rfl := hw.symm
      clear hw
      go_wp2_with fail
      refine (HDT.out _ (HC.out.below HB9.out)).mono ?_
      rintro e w11 ⟨rfl, hb11⟩
      have HB11 : Hid (Below w.heap.size w w11) := HB9.out.trans (hb11.mono HB9.out.size); clear hb11
      go_wp2_with fail
      refine (HT1.out _).mono ?_
      rintro e w12 ⟨rfl, hb12⟩
      have HB12 : Hid (Below w.heap.size w w12) := HB11.out.trans (hb12.mono HB11.out.size); clear hb12
      go_wp2_with fail
      refine (HDL.out _ (HC.out.below HB12.out)).mono ?_
      rintro e w13 ⟨rfl, hb13⟩
      have HB13 : Hid (Below w.heap.size w w13) := HB12.out.trans (hb13.mono HB12.out.size); clear hb13
      go_wp2_with fail
      refine (HL1.out _).mono ?_
      rintro e w14 ⟨rfl, hb14⟩
      have HB14 : Hid (Below w.heap.size w w14) := HB13.out.trans (hb14.mono HB13.out.size); clear hb14
      go_wp2_with fail
      refine (HPS.out (by trivial) _ (HT.out.below HB14.out)).mono ?_
      rintro e w15 ⟨rfl, hb15⟩
      have HB15 : Hid (Below w.heap.size w w15) := HB14.out.trans (hb15.mono HB14.out.size); clear hb15
      go_wp2_with fail
      refine (HT2.out _).mono ?_
      rintro e w16 ⟨rfl, hb16⟩
      have HB16 : Hid (Below w.heap.size w w16) := HB15.out.trans (hb16.mono HB15.out.size); clear hb16
      go_wp2_with fail
      refine (HDT.out _ (HC.out.below HB16.out)).mono ?_
      rintro e w17 ⟨rfl, hb17⟩
      have HB17 : Hid (Below w.heap.size w w17) := HB16.out.trans (hb17.mono HB16.out.size); clear hb17
      go_wp2_with fail
      refine (HT3.out _).mono ?_
      rintro e w18 ⟨rfl, hw⟩
      obtain rfl := hw.symm
      clear hw
      go_wp2_with fail
      refine (HL2.out _).mono ?_
      rintro e w19 ⟨rfl, hb19⟩
      have HB19 : Hid (Below w.heap.size w w19) := HB17.out.trans (hb19.mono HB17.out.size); clear hb19
      go_wp2_with fail
      refine (HDL.out _ (HC.out.below HB19.out)).mono ?_
      rintro e w20 ⟨rfl, hb20⟩
      have HB20 : Hid (Below w.heap.size w w20) := HB19.out.trans (hb20.mono HB19.out.size); clear hb20
      go_wp2_with fail
      refine (HL3.out _).mono ?_
      rintro e w21 ⟨rfl, hb21⟩
      have HB21 : Hid (Below w.heap.size w w21) := HB20.out.trans (hb21.mono HB20.out.size); clear hb21
      go_wp2
      go_ret
      exact ⟨rfl, HB21.out⟩
end Go.Proofs.YtniejmemhmfemaaDoor
