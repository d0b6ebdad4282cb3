/-
  The walk of the law FnQuotes: for every code it returns true, and turns nothing that was there.
-/
import Derived.Test.YtnioamheddedeaaDoorDrawPath3
import Derived.Test.YtnioamheddedeaaDoorMathBack2
import Derived.Test.YtnioamheddedeaaDoorSpecUnq
import Derived.Test.YtnioamheddedeaaDoorUnq
import Derived.Test.YtnioamheddedeaaDoorQuote
import Derived.Test.YtnioamheddedeaaDoorPlain
import Derived.Test.YtnioamheddedeaaDoorSpecName
import Derived.Test.YtnioamheddedeaaDoorUnder
import Derived.Test.YtnioamheddedeaaDoorSameTexts
import Derived.Test.YtnioamheddedeaaDoorIsRow
namespace Go.Proofs.YtnioamheddedeaaDoor
open Go.RowKit M
set_option linter.unusedVariables false

set_option maxHeartbeats 400000 in
theorem big_any (a : Option Addr) (len cap : Nat) (w : World) (_hl : len ≤ maxLen) :
    Calls Tryd.prog 6 #[.slice a len cap] w fun e w' => e = .returned (.bool (decide ((1048576 : Int) < len))) ∧ w' = w := by
  unfold maxLen at _hl
  go_enter Tryd.func6, Tryd.ntmps6
  go_wp2
  go_ret
  exact ⟨rfl, rfl⟩

theorem row_len {w : World} {a : Option Addr} {len cap : Nat} {zs : List Int} (h : IsRow .u8 w a len cap zs) : len ≤ maxLen := by
  rcases h with ⟨_, rfl, _, _⟩ | ⟨x, _, hl, hm, _⟩
  · exact Nat.zero_le _
  · omega

theorem bytesOf_data (s : ByteArray) : bytesOf s.data.toList = s := by
  apply ByteArray.ext
  simp [bytesOf]
theorem under_self (ss : List ByteArray) : underB ss ss = false := by simp [underB]
theorem few_len {n : Nat} {ss : List ByteArray} (h : Few n ss) (hn : n ≤ 1000) : ss.length ≤ maxLen := by have := h.1; unfold maxLen; omega

set_option maxRecDepth 100000 in
set_option maxHeartbeats 8000000 in
theorem FnQuotes_walk (a : Option Addr) (len cap : Nat) (zs : List Int) (w : World) (hr : IsRow .u8 w a len cap zs) (hL : laidMet Tryd.prog Rows.fnQuotesRow.laid w) :
    Calls Tryd.prog 4 #[.slice a len cap] w fun e w' => e = .returned (.bool true) ∧ Below w.heap.size w w' := by
  clear hL
  have hml := row_len hr
  by_cases hb : (1048576 : Int) < (len : Int)
  · clear hr
    go_enter Tryd.func4, Tryd.ntmps4
    go_wp2_with (go_at_call 6; refine (big_any a len cap _ hml).mono ?_; rintro e w1 ⟨rfl, hw⟩; obtain rfl := hw.symm; rw [decide_eq_true hb])
    go_ret
    exact ⟨rfl, Below.refl _ _⟩
  · have HC : Hid (CodeIn w w.heap.size a len zs) := code_of_row hr (by omega)
    clear hr
    go_enter Tryd.func4, Tryd.ntmps4
    go_wp2_with (go_at_call 6; refine (big_any a len cap _ hml).mono ?_; rintro e w1 ⟨rfl, hw⟩; obtain rfl := hw.symm; rw [decide_eq_false hb])
    refine (drawQuote_any HC.out cap).mono ?_
    rintro e w1 ⟨⟨s, rfl, hs⟩, b1⟩
    go_wp2_with fail
    refine (quote_any s w1 (by omega)).mono ?_
    rintro e w2 ⟨rfl, b2⟩
    have c2 := b1.trans (b2.mono b1.size)
    have hq : (quoteL s.data.toList).length ≤ 600 := by
      have h1 := quoteL_le s.data.toList
      have h2 : s.data.toList.length = s.size := Array.length_toList
      omega
    have hU := unquote_any ⟨(quoteL s.data.toList).toArray⟩ w2 (by have e : (⟨(quoteL s.data.toList).toArray⟩ : ByteArray).size = (quoteL s.data.toList).length := bytesOf_size _; omega)
    have eU : unqR (⟨(quoteL s.data.toList).toArray⟩ : ByteArray).data.toList = (s.data.toList, true) := unqR_quote _
    rw [eU] at hU
    simp only [bytesOf_data] at hU
    have HP : Hid (∀ w, Calls Tryd.prog 24 #[.string ⟨(quoteL s.data.toList).toArray⟩] w fun e w' => e = .returned (.bool true) ∧ Below w.heap.size w w') := fun w => by
      have h := plain_any ⟨(quoteL s.data.toList).toArray⟩ w (by have e : (⟨(quoteL s.data.toList).toArray⟩ : ByteArray).size = (quoteL s.data.toList).length := bytesOf_size _; unfold maxLen; omega)
      have e2 : allB (⟨(quoteL s.data.toList).toArray⟩ : ByteArray).data.toList [0] = true := quote_plain _
      rw [e2] at h
      exact h
    obtain ⟨q, hqq⟩ : ∃ q, (⟨(quoteL s.data.toList).toArray⟩ : ByteArray) = q := ⟨_, rfl⟩
    rw [hqq] at hU HP ⊢
    clear hqq eU hq
    go_wp2_with fail
    refine hU.mono ?_
    rintro e w3 ⟨rfl, b3⟩
    have c3 := c2.trans (b3.mono c2.size)
    have HC3 : Hid (CodeIn w3 w.heap.size a len zs) := HC.out.below c3
    clear hU
    go_wp2_with fail
    refine (drawUnquote_any HC3.out cap).mono ?_
    rintro e w4 ⟨⟨t, rfl, ht⟩, b4⟩
    have c4 := c3.trans (b4.mono c3.size)
    have hU := unquote_any t w4 (by omega)
    have hV := fun w => specUnquote_any t w (by omega)
    obtain ⟨r, hr⟩ : ∃ r, unqR t.data.toList = r := ⟨_, rfl⟩
    rw [hr] at hU hV
    clear hr
    obtain ⟨y, is⟩ := r
    have HV : Hid _ := hV
    clear hV
    go_wp2_with fail
    refine hU.mono ?_
    rintro e w5 ⟨rfl, b5⟩
    have c5 := c4.trans (b5.mono c4.size)
    go_wp2_with fail
    refine (HV.out w5).mono ?_
    rintro e w6 ⟨rfl, b6⟩
    have c6 := c5.trans (b6.mono c5.size)
    have HC6 : Hid (CodeIn w6 w.heap.size a len zs) := HC.out.below c6
    clear hU
    go_wp2_with fail
    refine (drawNameOk_any HC6.out cap).mono ?_
    rintro e w7 ⟨⟨nm, rfl, hnm⟩, b7⟩
    have c7 := c6.trans (b7.mono c6.size)
    have HC7 : Hid (CodeIn w7 w.heap.size a len zs) := HC.out.below c7
    have hnm' : nm.size ≤ maxLen := by unfold maxLen; omega
    go_wp2_with fail
    refine (drawUnder_any HC7.out cap).mono ?_
    rintro e w8 ⟨⟨ss, tt, g, n, c, m, cc, a2, hf1, hf2, rfl, rfl, hnc, hcm, rfl, hs1, hs2⟩, b8⟩
    have c8 := c7.trans (b8.mono c7.size)
    have HC8 : Hid (CodeIn w8 w.heap.size a len zs) := HC.out.below c8
    go_wp2_with fail
    refine (drawSamePath_any HC8.out cap).mono ?_
    rintro e w9 ⟨⟨ss3, tt3, g3, n3, c3', m3, cc3, a3, hf3, hf4, rfl, rfl, hnc3, hcm3, rfl, hs3, hs4⟩, b9⟩
    have c9 := c8.trans (b9.mono c8.size)
    have u1 := hs1.below b9 (Nat.le_refl _)
    have u2 := hs2.below b9 (Nat.le_refl _)
    clear hs1 hs2
    have l1 := few_len hf1 (by decide)
    have l2 := few_len hf2 (by decide)
    have l3 := few_len hf3 (by decide)
    have l4 := few_len hf4 (by decide)
    have z8 := b9.size
    go_wp2_with fail
    refine (HP.out w9).mono ?_
    rintro e w10 ⟨rfl, b10⟩
    have c10 := c9.trans (b10.mono c9.size)
    have u1 := u1.below b10 z8
    have u2 := u2.below b10 z8
    have u3 := hs3.below b10 (Nat.le_refl _)
    have u4 := hs4.below b10 (Nat.le_refl _)
    have z10 := b10.size
    go_wp2_with fail
    refine (nameOk_any nm w10 hnm').mono ?_
    rintro e w11 ⟨rfl, b11⟩
    have c11 := c10.trans (b11.mono c10.size)
    have u1 := u1.below b11 (by omega)
    have u2 := u2.below b11 (by omega)
    have u3 := u3.below b11 z10
    have u4 := u4.below b11 z10
    go_wp2_with fail
    refine (specNameOk_any nm w11 hnm').mono ?_
    rintro e wx ⟨rfl, hw⟩
    obtain rfl := hw.symm
    go_wp2_with fail
    refine (under_any _ _ ss tt _ _ _ _ w11 u1 u2 l1 l2 hnc hcm).mono ?_
    rintro e w12 ⟨rfl, b12⟩
    have c12 := c11.trans (b12 _)
    have v1 := u1.below (b12 w8.heap.size) (Nat.le_refl _)
    have v2 := u2.below (b12 w8.heap.size) (Nat.le_refl _)
    have v3 := u3.below (b12 w9.heap.size) (Nat.le_refl _)
    have v4 := u4.below (b12 w9.heap.size) (Nat.le_refl _)
    go_wp2_with fail
    refine (specUnder_any _ _ ss tt _ _ _ _ w12 v1 v2 l1 l2 hnc hcm).mono ?_
    rintro e w13 ⟨rfl, b13⟩
    have c13 := c12.trans (b13 _)
    have v1 := v1.below (b13 w8.heap.size) (Nat.le_refl _)
    have v3 := v3.below (b13 w9.heap.size) (Nat.le_refl _)
    have v4 := v4.below (b13 w9.heap.size) (Nat.le_refl _)
    go_wp2_with fail
    refine (samePath_any _ _ ss3 tt3 _ _ _ _ w13 v3 v4 l3 l4).mono ?_
    rintro e w14 ⟨rfl, b14⟩
    have c14 := c13.trans (b14 _)
    have v1 := v1.below (b14 w8.heap.size) (Nat.le_refl _)
    have v3 := v3.below (b14 w9.heap.size) (Nat.le_refl _)
    have v4 := v4.below (b14 w9.heap.size) (Nat.le_refl _)
    go_wp2_with fail
    refine (sameTexts_any _ _ ss3 tt3 _ _ _ _ w14 v3 v4 l3 l4).mono ?_
    rintro e w15 ⟨rfl, b15⟩
    have c15 := c14.trans (b15 _)
    have v1 := v1.below (b15 w8.heap.size) (Nat.le_refl _)
    go_wp2_with fail
    refine (under_any _ _ ss ss _ _ _ _ w15 v1 v1 l1 l1 hnc hcm).mono ?_
    rintro e w16 ⟨rfl, b16⟩
    rw [under_self]
    go_wp2
    go_ret
    exact ⟨rfl, c15.trans (b16 _)⟩
end Go.Proofs.YtnioamheddedeaaDoor
