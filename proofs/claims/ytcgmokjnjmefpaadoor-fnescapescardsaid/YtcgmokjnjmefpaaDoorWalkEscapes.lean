/-
  The walk of the law FnEscapes: for every code it returns true, and turns nothing that was there.
-/
import Derived.Test.YtcgmokjnjmefpaaDoorDrawEsc
import Derived.Test.YtcgmokjnjmefpaaDoorEscape
import Derived.Test.YtcgmokjnjmefpaaDoorUnescape
import Derived.Test.YtcgmokjnjmefpaaDoorSpecUnescape
import Derived.Test.YtcgmokjnjmefpaaDoorBig
import Derived.Test.YtcgmokjnjmefpaaDoorIsRow
namespace Go.Proofs.YtcgmokjnjmefpaaDoor
open Go.RowKit M
set_option linter.unusedVariables false

theorem bytesOf_back7 (s : ByteArray) : bytesOf s.data.toList = s := by
  apply ByteArray.ext
  simp [bytesOf]

theorem esc_free (s x : ByteArray) (hx : bytesOf (escL s.data.toList) = x) : ∀ k (hk : k < x.size), x[k] ≠ 60 ∧ x[k] ≠ 34 := by
  subst hx
  intro k hk
  have hk' : k < (escL s.data.toList).length := by rw [bytesOf_size] at hk; exact hk
  have h := escL_none s.data.toList _ (List.getElem_mem hk')
  exact ⟨h.1, h.2.1⟩

set_option maxRecDepth 100000 in
set_option maxHeartbeats 2000000 in
theorem FnEscapes_walk (a : Option Addr) (len cap : Nat) (zs : List Int) (w : World) (hr : IsRow .u8 w a len cap zs) (hL : laidMet Tryd.prog Rows.fnEscapesRow.laid w) :
    Calls Tryd.prog 3 #[.slice a len cap] w fun e w' => e = .returned (.bool true) ∧ Below w.heap.size w w' := by
  clear hL
  have hml := row_len hr
  by_cases hb : (1048576 : Int) < (len : Int)
  · clear hr
    go_enter Tryd.func3, Tryd.ntmps3
    go_wp2_with (go_at_call 4; refine (big_any a len cap _ hml).mono ?_; rintro e w1 ⟨rfl, hw⟩; obtain rfl := hw.symm; rw [decide_eq_true hb])
    go_ret
    exact ⟨rfl, Below.refl _ _⟩
  · have HC : Hid (CodeIn w w.heap.size a len zs) := code_of_row hr (by omega)
    clear hr
    go_enter Tryd.func3, Tryd.ntmps3
    go_wp2_with (go_at_call 4; refine (big_any a len cap _ hml).mono ?_; rintro e w1 ⟨rfl, hw⟩; obtain rfl := hw.symm; rw [decide_eq_false hb])
    refine (drawEscape_any HC.out cap).mono ?_
    rintro e w1 ⟨⟨s, rfl, hs⟩, b1⟩
    have hz : (bytesOf (escL s.data.toList)).size ≤ 1200 := by
      rw [bytesOf_size]
      have h1 := escL_le s.data.toList
      have h2 : s.data.toList.length = s.size := Array.length_toList
      omega
    have HE := hide (fun W : World => escape_any s W (by omega))
    have HU := hide (fun W : World => unescape_any (bytesOf (escL s.data.toList)) W (by omega))
    have eU : unescR (bytesOf (escL s.data.toList)).data.toList = (s.data.toList, true) := unescR_escL _
    rw [eU] at HU
    simp only [bytesOf_back7] at HU
    obtain ⟨x, hx⟩ : ∃ x, bytesOf (escL s.data.toList) = x := ⟨_, rfl⟩
    have HN := hide (esc_free s x hx)
    rw [hx] at hz HE HU
    clear hx eU
    go_wp2_with fail
    refine (HE.out w1).mono ?_
    rintro e w2 ⟨rfl, b2⟩
    have c2 := b1.trans (b2.mono b1.size)
    go_wp2_with fail
    refine (HU.out w2).mono ?_
    rintro e w3 ⟨rfl, b3⟩
    have c3 := c2.trans (b3.mono c2.size)
    have HC3 := hide (HC.out.below c3)
    clear b1 b2 b3 c2
    go_wp2_with fail
    refine (drawUnescape_any HC3.out cap).mono ?_
    rintro e w4 ⟨⟨t, rfl, ht⟩, b4⟩
    have c4 := c3.trans (b4.mono c3.size)
    have HI2 := hide (fun W : World => unescape_any t W (by omega))
    have HS2 := hide (fun W : World => specUnescape_any t W (by omega))
    obtain ⟨y, bo, hy⟩ : ∃ y bo, unescR t.data.toList = (y, bo) := ⟨_, _, rfl⟩
    rw [hy] at HI2 HS2
    clear hy b4 c3 HC3
    go_wp2_with fail
    refine (HI2.out w4).mono ?_
    rintro e w5 ⟨rfl, b5⟩
    have c5 := c4.trans (b5.mono c4.size)
    go_wp2_with fail
    refine (HS2.out w5).mono ?_
    rintro e w6 ⟨rfl, b6⟩
    have C6 := hide (c5.trans (b6.mono c5.size))
    clear b5 b6 c4 c5
    go_wp2
    go_loop [12] (fun i => ∃ k : Nat, k ≤ x.size ∧ i = .int .i64 k) (fun i => x.size - (intOf i).toNat)
    case atStart => exact ⟨0, Nat.zero_le _, rfl⟩
    case round =>
      obtain ⟨k, hk, rfl⟩ := hrel
      by_cases hlt : k < x.size
      · have hlt' : (k : Int) < x.size := by omega
        have hk0 : (0 : Int) ≤ k := by omega
        have hn := HN.out k hlt
        have e1 := is_u8 x[k] 60 60 rfl
        have e2 := is_u8 x[k] 34 34 rfl
        rw [decide_eq_false hn.1] at e1
        rw [decide_eq_false hn.2] at e2
        clear hn
        go_wp2
        go_round
        case rel => exact ⟨k + 1, by omega, by go_num⟩
        case measure => simp [intOf]; omega
      · have hlt' : ¬ (k : Int) < x.size := by omega
        go_wp2
        go_ret
        exact ⟨by simp, C6.out⟩
end Go.Proofs.YtcgmokjnjmefpaaDoor
