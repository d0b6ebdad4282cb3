/-
  The walk of the law FnKinds: for every code it returns true, and turns nothing that was there.
-/
import Derived.Test.YtniejmemhmfemaaDoorIsRow
import Derived.Test.YtniejmemhmfemaaDoorMathKinds
import Derived.Test.YtniejmemhmfemaaDoorSpecSmall
import Derived.Test.YtniejmemhmfemaaDoorLower
import Derived.Test.YtniejmemhmfemaaDoorNumText
import Derived.Test.YtniejmemhmfemaaDoorSpecNum
import Derived.Test.YtniejmemhmfemaaDoorFormatBits
namespace Go.Proofs.YtniejmemhmfemaaDoor
open Go.RowKit M

theorem bytes_ext {s t : ByteArray} (h : s.data.toList = t.data.toList) : s = t := by
  apply ByteArray.ext
  exact Array.toList_inj.1 h

set_option maxHeartbeats 400000 in
theorem big_any (a : Option Addr) (len cap : Nat) (w : World) (_hl : len ≤ maxLen) :
    Calls Tryd.prog 5 #[.slice a len cap] w fun e w' => e = .returned (.bool (decide ((1048576 : Int) < len))) ∧ w' = w := by
  unfold maxLen at _hl
  go_enter Tryd.func5, Tryd.ntmps5
  go_wp2
  go_ret
  exact ⟨rfl, rfl⟩

theorem row_len {w : World} {a : Option Addr} {len cap : Nat} {zs : List Int} (h : IsRow .u8 w a len cap zs) : len ≤ maxLen := by
  rcases h with ⟨_, rfl, _, _⟩ | ⟨x, _, hl, hm, _⟩
  · exact Nat.zero_le _
  · omega

set_option maxHeartbeats 2000000 in
theorem FnKinds_walk (a : Option Addr) (len cap : Nat) (zs : List Int) (w : World) (hr : IsRow .u8 w a len cap zs) (hL : laidMet Tryd.prog Rows.fnKindsRow.laid w) :
    Calls Tryd.prog 4 #[.slice a len cap] w fun e w' => e = .returned (.bool true) ∧ Below w.heap.size w w' := by
  have HT : Hid (PowTab w) := powTab_of hL.tail.tail
  have HE : Hid (DeTab w) := deTab_of hL.tail
  have hml := row_len hr
  by_cases hb : (1048576 : Int) < (len : Int)
  · clear hL hr
    go_enter Tryd.func4, Tryd.ntmps4
    go_wp2_with (go_at_call 5; refine (big_any a len cap _ hml).mono ?_; rintro e w1 ⟨rfl, hw⟩; obtain rfl := hw.symm; rw [decide_eq_true hb])
    go_ret
    exact ⟨rfl, Below.refl _ _⟩
  · have HC : Hid (CodeIn w w.heap.size a len zs) := code_of_row hr (by omega)
    clear hL hr
    have ht := dText_le zs len
    have hn := dNum_le zs len
    have hts : (dText zs len).size ≤ maxLen := by unfold maxLen; omega
    obtain ⟨T, hTdef⟩ : ∃ T, T = dText zs len := ⟨_, rfl⟩
    obtain ⟨V, hVdef⟩ : ∃ V, V = dNum zs len := ⟨_, rfl⟩
    have HP1 : Hid (∀ W, CodeIn W w.heap.size a len zs → Calls Tryd.prog 21 #[.slice a len cap] W fun e w' => e = .returned (.string T) ∧ Below W.heap.size W w') := by rw [hTdef]; exact fun W h => drawPlain_any h cap
    have HP2 : Hid (∀ W, CodeIn W w.heap.size a len zs → Calls Tryd.prog 22 #[.slice a len cap] W fun e w' => e = .returned (.string T) ∧ Below W.heap.size W w') := by rw [hTdef]; exact fun W h => drawSmallName_any h cap
    have HP3 : Hid (∀ W, CodeIn W w.heap.size a len zs → Calls Tryd.prog 23 #[.slice a len cap] W fun e w' => e = .returned (.int .i64 V) ∧ Below W.heap.size W w') := by rw [hVdef]; exact fun W h => drawNumText_any h cap
    have HP4 : Hid (∀ W, CodeIn W w.heap.size a len zs → Calls Tryd.prog 24 #[.slice a len cap] W fun e w' => e = .returned (.int .i64 V) ∧ Below W.heap.size W w') := by rw [hVdef]; exact fun W h => drawHex_any h cap
    rw [← hTdef] at ht hts
    rw [← hVdef] at hn
    clear hTdef hVdef
    cases hsm : smB T.data.toList
    · go_enter Tryd.func4, Tryd.ntmps4
      go_wp2_with (go_at_call 5; refine (big_any a len cap _ hml).mono ?_; rintro e w1 ⟨rfl, hw⟩; obtain rfl := hw.symm; rw [decide_eq_false hb])
      refine (HP1.out _ HC.out).mono ?_
      rintro e w1 ⟨rfl, hb1⟩
      have HB1 : Hid (Below w.heap.size w w1) := hb1; clear hb1
      go_wp2_with fail
      refine (HP2.out _ (HC.out.below HB1.out)).mono ?_
      rintro e w2 ⟨rfl, hb2⟩
      have HB2 : Hid (Below w.heap.size w w2) := HB1.out.trans (hb2.mono HB1.out.size); clear hb2
      go_wp2_with fail
      refine (HP3.out _ (HC.out.below HB2.out)).mono ?_
      rintro e w3 ⟨rfl, hb3⟩
      have HB3 : Hid (Below w.heap.size w w3) := HB2.out.trans (hb3.mono HB2.out.size); clear hb3
      go_wp2_with fail
      refine (HP4.out _ (HC.out.below HB3.out)).mono ?_
      rintro e w4 ⟨rfl, hb4⟩
      have HB4 : Hid (Below w.heap.size w w4) := HB3.out.trans (hb4.mono HB3.out.size); clear hb4
      go_wp2_with fail
      refine (plain_any T _ hts).mono ?_
      rintro e w5 ⟨rfl, hb5⟩
      have HB5 : Hid (Below w.heap.size w w5) := HB4.out.trans (hb5.mono HB4.out.size); clear hb5
      go_wp2_with fail
      refine (specPlain_any T _ hts).mono ?_
      rintro e w6 ⟨rfl, hw⟩
      obtain rfl := hw.symm
      clear hw
      go_wp2_with fail
      refine (smallName_any T _ hts).mono ?_
      rintro e w6 ⟨rfl, hb6⟩
      have HB6 : Hid (Below w.heap.size w w6) := HB5.out.trans (hb6.mono HB5.out.size); clear hb6
      go_wp2_with fail
      refine (specSmallName_any T _ hts).mono ?_
      rintro e w7 ⟨rfl, hw⟩
      obtain rfl := hw.symm
      clear hw
      go_wp2_with fail
      refine (smallName_any T _ hts).mono ?_
      rintro e w7 ⟨rfl, hb7⟩
      have HB7 : Hid (Below w.heap.size w w7) := HB6.out.trans (hb7.mono HB6.out.size); clear hb7
      go_wp2_with fail
      refine (numText_any V _ hn (HT.out.below HB7.out)).mono ?_
      rintro e w8 ⟨rfl, hb8⟩
      have HB8 : Hid (Below w.heap.size w w8) := HB7.out.trans (hb8.mono HB7.out.size); clear hb8
      go_wp2_with fail
      refine (specNumText_any V _ hn).mono ?_
      rintro e w9 ⟨rfl, hb9⟩
      have HB9 : Hid (Below w.heap.size w w9) := HB8.out.trans (hb9.mono HB8.out.size); clear hb9
      go_wp2_with fail
      refine (hex_any V _ hn (HE.out.below HB9.out)).mono ?_
      rintro e w10 ⟨rfl, hb10⟩
      have HB10 : Hid (Below w.heap.size w w10) := HB9.out.trans (hb10.mono HB9.out.size); clear hb10
      go_wp2_with fail
      refine (specHex_any V _ hn).mono ?_
      rintro e w11 ⟨rfl, hb11⟩
      have HB11 : Hid (Below w.heap.size w w11) := HB10.out.trans (hb11.mono HB10.out.size); clear hb11
      go_wp2
      go_ret
      exact ⟨rfl, HB11.out⟩
    · have HPL : Hid (allB T.data.toList [0] = true) := smB_plain hsm
      have HLO : Hid ((⟨(lowL T.data.toList).toArray⟩ : ByteArray) = T) := bytes_ext (by rw [show (⟨(lowL T.data.toList).toArray⟩ : ByteArray).data.toList = lowL T.data.toList from rfl, smB_low hsm])
      go_enter Tryd.func4, Tryd.ntmps4
      go_wp2_with (go_at_call 5; refine (big_any a len cap _ hml).mono ?_; rintro e w1 ⟨rfl, hw⟩; obtain rfl := hw.symm; rw [decide_eq_false hb])
      refine (HP1.out _ HC.out).mono ?_
      rintro e w1 ⟨rfl, hb1⟩
      have HB1 : Hid (Below w.heap.size w w1) := hb1; clear hb1
      go_wp2_with fail
      refine (HP2.out _ (HC.out.below HB1.out)).mono ?_
      rintro e w2 ⟨rfl, hb2⟩
      have HB2 : Hid (Below w.heap.size w w2) := HB1.out.trans (hb2.mono HB1.out.size); clear hb2
      go_wp2_with fail
      refine (HP3.out _ (HC.out.below HB2.out)).mono ?_
      rintro e w3 ⟨rfl, hb3⟩
      have HB3 : Hid (Below w.heap.size w w3) := HB2.out.trans (hb3.mono HB2.out.size); clear hb3
      go_wp2_with fail
      refine (HP4.out _ (HC.out.below HB3.out)).mono ?_
      rintro e w4 ⟨rfl, hb4⟩
      have HB4 : Hid (Below w.heap.size w w4) := HB3.out.trans (hb4.mono HB3.out.size); clear hb4
      go_wp2_with fail
      refine (plain_any T _ hts).mono ?_
      rintro e w5 ⟨rfl, hb5⟩
      have HB5 : Hid (Below w.heap.size w w5) := HB4.out.trans (hb5.mono HB4.out.size); clear hb5
      go_wp2_with fail
      refine (specPlain_any T _ hts).mono ?_
      rintro e w6 ⟨rfl, hw⟩
      obtain rfl := hw.symm
      clear hw
      go_wp2_with fail
      refine (smallName_any T _ hts).mono ?_
      rintro e w6 ⟨rfl, hb6⟩
      have HB6 : Hid (Below w.heap.size w w6) := HB5.out.trans (hb6.mono HB5.out.size); clear hb6
      go_wp2_with fail
      refine (specSmallName_any T _ hts).mono ?_
      rintro e w7 ⟨rfl, hw⟩
      obtain rfl := hw.symm
      clear hw
      go_wp2_with fail
      refine (smallName_any T _ hts).mono ?_
      rintro e w7 ⟨rfl, hb7⟩
      have HB7 : Hid (Below w.heap.size w w7) := HB6.out.trans (hb7.mono HB6.out.size); clear hb7
      go_wp2_with fail
      refine (plain_any T _ hts).mono ?_
      rintro e w7a ⟨rfl, hb7a⟩
      have HB7a : Hid (Below w.heap.size w w7a) := HB7.out.trans (hb7a.mono HB7.out.size); clear hb7a
      rw [HPL.out]
      go_wp2_with fail
      refine (lower_any T _ (by omega)).mono ?_
      rintro e w7b ⟨rfl, hb7b⟩
      have HB7b : Hid (Below w.heap.size w w7b) := HB7a.out.trans (hb7b.mono HB7a.out.size); clear hb7b
      rw [HLO.out]
      go_wp2_with fail
      refine (numText_any V _ hn (HT.out.below HB7b.out)).mono ?_
      rintro e w8 ⟨rfl, hb8⟩
      have HB8 : Hid (Below w.heap.size w w8) := HB7b.out.trans (hb8.mono HB7b.out.size); clear hb8
      go_wp2_with fail
      refine (specNumText_any V _ hn).mono ?_
      rintro e w9 ⟨rfl, hb9⟩
      have HB9 : Hid (Below w.heap.size w w9) := HB8.out.trans (hb9.mono HB8.out.size); clear hb9
      go_wp2_with fail
      refine (hex_any V _ hn (HE.out.below HB9.out)).mono ?_
      rintro e w10 ⟨rfl, hb10⟩
      have HB10 : Hid (Below w.heap.size w w10) := HB9.out.trans (hb10.mono HB9.out.size); clear hb10
      go_wp2_with fail
      refine (specHex_any V _ hn).mono ?_
      rintro e w11 ⟨rfl, hb11⟩
      have HB11 : Hid (Below w.heap.size w w11) := HB10.out.trans (hb11.mono HB10.out.size); clear hb11
      go_wp2
      go_ret
      exact ⟨rfl, HB11.out⟩
end Go.Proofs.YtniejmemhmfemaaDoor
