/-
  The walk of the law FnExactParseTags: for every text it returns true, and turns nothing that was there.
-/
import Derived.Test.YtccehdlgpbeijaaSpecTags
import Derived.Test.YtccehdlgpbeijaaParseTags
import Derived.Test.YtccehdlgpbeijaaMarks
import Derived.Test.YtccehdlgpbeijaaEqStrs
namespace Go.Proofs.Ytccehdlgpbeijaa
open Go.RowKit M
set_option linter.unusedVariables false

theorem tgs_len : ∀ (f : Nat) (l : List UInt8) (acc x : List (List UInt8)), acc.length ≤ 5 → tgs f l acc = some x → x.length ≤ 5
  | 0, l, acc, x, _, h => by rw [tgs] at h; cases h
  | f + 1, l, acc, x, ha, h => by
    rw [tgs] at h
    split at h
    · cases h
    · split at h
      · cases h
      · split at h
        · cases h; simp; omega
        · split at h
          · exact tgs_len f _ _ x (by simp; omega) h
          · cases h
theorem tagsR_len (l : List UInt8) : (tagsR l).1.length ≤ 5 := by
  unfold tagsR
  split
  · simp
  · split
    · rename_i h; exact tgs_len _ _ _ _ (by simp) h
    · simp

theorem OwnS.parts {w : World} {B : Nat} {v : Value} {ns : List ByteArray} (h : OwnS w B v ns) : ∃ g cap, v = .slice (some ⟨g, 0, none⟩) ns.length cap ∧ B ≤ g ∧ RowS w g ns := by
  obtain ⟨g, cap, hv, _, _, h3, h4, h5⟩ := h
  exact ⟨g, cap, hv, h3, h4, h5⟩
theorem RowS.strs {w : World} {g C : Nat} {ns : List ByteArray} (h : RowS w g ns) (hC : g < C) : Strs w C (some ⟨g, 0, none⟩) ns := fun _ =>
  ⟨g, 0, rfl, hC, fun j hj => by rw [Nat.zero_add]; exact (h.2 j hj).1⟩

set_option maxHeartbeats 4000000 in
set_option maxRecDepth 100000 in
theorem FnExactParseTags_walk (s : ByteArray) (hs : s.size ≤ maxLen) (w : World) :
    Calls Try.prog 3 #[.string s] w fun e w' => e = .returned (.bool true) ∧ Below w.heap.size w w' := by
  have hs' := hs
  unfold maxLen at hs'
  by_cases hb : (1048576 : Int) < s.size
  · go_enter Try.func3, Try.ntmps3
    go_wp2
    go_ret
    exact ⟨rfl, Below.refl _ _⟩
  · have hsp := fun W => specParseTags_any s W (by omega)
    have him := fun W => parseTags_any s W (by omega)
    have h4 := tagsR_len s.data.toList
    unfold TagRet at hsp him
    obtain ⟨r, hr⟩ : ∃ r, tagsR s.data.toList = r := ⟨_, rfl⟩
    rw [hr] at hsp him h4
    clear hr
    obtain ⟨ls, ok⟩ := r
    obtain ⟨ns, hns⟩ : ∃ ns, ls.map bytesOf = ns := ⟨_, rfl⟩
    have h4 : ns.length ≤ 5 := by rw [← hns, List.length_map]; exact h4
    rw [hns] at hsp him
    clear hns
    have HS : Hid _ := hsp
    have HI : Hid _ := him
    clear hsp him
    have h4' : ns.length ≤ 5 := h4
    have hlm : ns.length ≤ maxLen := by unfold maxLen; omega
    clear h4
    go_enter Try.func3, Try.ntmps3
    go_wp2_with fail
    refine (HS.out w).mono ?_
    rintro e w1 ⟨⟨v0, rfl, hO0⟩, b1⟩
    obtain ⟨g0, c0, rfl, hg0, hR0⟩ := hO0.parts
    clear hO0
    go_wp2_with fail
    refine (HI.out w1).mono ?_
    rintro e w2 ⟨⟨v1, rfl, hO1⟩, b2⟩
    obtain ⟨g1, d1, rfl, hg1, hR1⟩ := hO1.parts
    clear hO1
    have hR0' := hR0.below b2
    have z0 := hR0.1
    have c2 := b1.trans (b2.mono b1.size)
    go_wp2_with fail
    refine (eqStringS_any _ _ ns ns _ _ _ _ w2 (hR1.strs hR1.1) (hR0'.strs hR0'.1) hlm hlm).mono ?_
    rintro e w3 ⟨rfl, b3⟩
    rw [sameL_refl]
    have c3 := c2.trans (b3 _)
    have hR1' := hR1.below (b3 _)
    have hR0'' := hR0'.below (b3 _)
    go_wp2_with fail
    refine (markStringS_any g1 ns.length d1 ns rfl (by omega) w3 hR1').mono ?_
    rintro e w4 ⟨rfl, hM4, b4⟩
    have c4 := c3.trans (b4.mono (by have := b1.size; omega))
    have hR04 : RowS w4 g0 ns := ⟨Nat.lt_of_lt_of_le hR0''.1 b4.size, fun j hj => by
      rw [b4.cell (p := ⟨g0, j, none⟩) (show g0 < g1 by omega), b4.frozen (p := ⟨g0, j, none⟩) (show g0 < g1 by omega)]
      exact hR0''.2 j hj⟩
    go_wp2_with fail
    refine (heldStringS_any g1 ns.length d1 (by omega) w4 hM4).mono ?_
    rintro e w5 ⟨rfl, b5⟩
    have c5 := c4.trans (b5.mono c4.size)
    have hM5 := hM4.below b5
    have hR05 := hR04.below b5
    go_wp2_with fail
    refine (HI.out w5).mono ?_
    rintro e w6 ⟨⟨v2, rfl, hO2⟩, b6⟩
    obtain ⟨g2, d2, rfl, hg2, hR2⟩ := hO2.parts
    clear hO2
    have c6 := c5.trans (b6.mono c5.size)
    have hM6 := hM5.below b6
    have hR06 := hR05.below b6
    go_wp2_with fail
    refine (eqStringS_any _ _ ns ns _ _ _ _ w6 (hR2.strs hR2.1) (hR06.strs hR06.1) hlm hlm).mono ?_
    rintro e w7 ⟨rfl, b7⟩
    rw [sameL_refl]
    have c7 := c6.trans (b7 _)
    have hM7 := hM6.below (b7 _)
    go_wp2_with fail
    refine (heldStringS_any g1 ns.length d1 (by omega) w7 hM7).mono ?_
    rintro e w8 ⟨rfl, b8⟩
    go_wp2
    go_ret
    exact ⟨rfl, c7.trans (b8.mono c7.size)⟩
end Go.Proofs.Ytccehdlgpbeijaa
