/-
  What the specification's l3Lines does: a text, cut at line's ends.
-/
import Derived.Test.YtkhnkockdfmkgaaGreatDoorMathGet
import Derived.Test.YtkhnkockdfmkgaaGreatDoorOwnStrs
import Derived.Test.YtkhnkockdfmkgaaGreatDoorExtract
namespace Go.Proofs.YtkhnkockdfmkgaaGreatDoor
open Go.RowKit M
set_option linter.unusedVariables false

def linesB (l : List UInt8) : List ByteArray := (linesL l).map bytesOf
theorem linesL_front : ∀ (a b : List UInt8), (∀ j, j < a.length → ¬ ((a ++ b)[j]? = some 13 ∧ (a ++ b)[j + 1]? = some 10)) → ∀ l q, linesL b = l :: q → linesL (a ++ b) = (a ++ l) :: q := by
  intro a
  induction a with
  | nil => intro b _ l q h; exact h
  | cons x a ih =>
    intro b h l q hb
    have ih' := ih b (fun j hj => by have := h (j + 1) (by simp; omega); simpa using this) l q hb
    cases e : a ++ b with
    | nil =>
      have ha := (List.append_eq_nil_iff.1 e).1
      have hb' := (List.append_eq_nil_iff.1 e).2
      subst ha hb'
      simp [linesL] at hb
      simp [linesL, hb]
    | cons y r =>
      have h0 := h 0 (by simp)
      rw [List.cons_append, e] at h0 ⊢
      rw [linesL]
      rw [e] at ih'
      have hn : ¬ (x = 13 ∧ y = 10) := by simpa using h0
      rw [if_neg hn, ih']
      rfl
theorem hide' {P : Prop} (h : P) : Hid P := h
/-- No line's end begins between two places. -/
def noPair (l : List UInt8) (fr k : Nat) : Prop := ∀ j, fr ≤ j → j < k → ¬ (l[j]? = some 13 ∧ l[j + 1]? = some 10)
theorem noPair.front {l : List UInt8} {fr k : Nat} (h : noPair l fr k) (hk : k ≤ l.length) (hf : fr ≤ k) {x : List UInt8} {q : List (List UInt8)} (hb : linesL (l.drop k) = x :: q) : linesL (l.drop fr) = ((l.drop fr).take (k - fr) ++ x) :: q := by
  have e : l.drop fr = (l.drop fr).take (k - fr) ++ l.drop k := by
    conv => lhs; rw [← List.take_append_drop (k - fr) (l.drop fr)]
    rw [List.drop_drop, show fr + (k - fr) = k by omega]
  have hl : ((l.drop fr).take (k - fr)).length = k - fr := by rw [List.length_take, List.length_drop]; omega
  conv => lhs; rw [e]
  apply linesL_front _ _ _ _ _ hb
  intro j hj
  rw [← e, List.getElem?_drop, List.getElem?_drop]
  rw [hl] at hj
  exact h (fr + j) (by omega) (by omega)
/-- How far a text is cut. -/
def LineAt (l : List UInt8) (k fr : Nat) (done : List (List UInt8)) : Prop :=
  done.length ≤ k ∧ fr ≤ k ∧ ((k ≤ l.length ∧ linesL l = done ++ linesL (l.drop fr) ∧ noPair l fr k) ∨ (k = l.length + 1 ∧ done = linesL l))
theorem LineAt.start (l : List UInt8) : LineAt l 0 0 [] := ⟨Nat.le_refl _, Nat.le_refl _, .inl ⟨Nat.zero_le _, by simp, fun j h1 h2 => absurd h2 (Nat.not_lt_zero _)⟩⟩
theorem LineAt.skip {l : List UInt8} {k fr : Nat} {done : List (List UInt8)} (h : LineAt l k fr done) (hk : k < l.length) (hc : ¬ (l[k]? = some 13 ∧ l[k + 1]? = some 10)) : LineAt l (k + 1) fr done := by
  obtain ⟨h1, h2, h3 | h3⟩ := h
  · refine ⟨by omega, by omega, .inl ⟨by omega, h3.2.1, fun j hj hj2 => ?_⟩⟩
    rcases Nat.lt_or_eq_of_le (Nat.le_of_lt_succ hj2) with h | h
    · exact h3.2.2 j hj h
    · subst h; exact hc
  · exact absurd hk (by omega)
theorem LineAt.cut {l : List UInt8} {k fr : Nat} {done : List (List UInt8)} (h : LineAt l k fr done) (hk : k + 1 < l.length) (hc : l[k]? = some 13) (hd : l[k + 1]? = some 10) : LineAt l (k + 2) (k + 2) (done ++ [(l.drop fr).take (k - fr)]) := by
  obtain ⟨h1, h2, h3 | h3⟩ := h
  · refine ⟨by simp; omega, Nat.le_refl _, .inl ⟨by omega, ?_, fun j hj hj2 => absurd hj (by omega)⟩⟩
    rw [h3.2.1, List.append_assoc]
    congr 1
    have e : l.drop k = 13 :: 10 :: l.drop (k + 2) := by
      rw [List.drop_eq_getElem_cons (by omega : k < l.length), List.drop_eq_getElem_cons (by omega : k + 1 < l.length)]
      rw [List.getElem?_eq_getElem (by omega)] at hc hd
      rw [Option.some.inj hc, Option.some.inj hd]
    have hb : linesL (l.drop k) = [] :: linesL (l.drop (k + 2)) := by rw [e]; simp [linesL]
    rw [h3.2.2.front (by omega) h2 hb, List.append_nil]
    rfl
  · exact absurd hk (by omega)
theorem LineAt.last {l : List UInt8} {k fr : Nat} {done : List (List UInt8)} (h : LineAt l k fr done) (hk : k = l.length) : LineAt l (k + 1) fr (done ++ [(l.drop fr).take (k - fr)]) := by
  obtain ⟨h1, h2, h3 | h3⟩ := h
  · refine ⟨by simp; omega, by omega, .inr ⟨by omega, ?_⟩⟩
    have hb : linesL (l.drop k) = [[]] := by rw [hk, List.drop_length]; rfl
    rw [h3.2.1, h3.2.2.front (by omega) h2 hb, List.append_nil]
  · exact absurd hk (by omega)
theorem u8_num {c : UInt8} {n : Nat} (hn : n < 256) (h : ((c.toNat : Int) == n) = true) : c = UInt8.ofNat n := by
  rw [beq_iff_eq] at h
  have := Int.ofNat.inj h
  exact UInt8.toNat_inj.1 (by rw [this]; simp; omega)
theorem linesL_len (l : List UInt8) : (linesL l).length ≤ l.length + 1 := by
  fun_induction linesL l with
  | case1 => simp
  | case2 => simp
  | case3 => simp; omega
  | case4 => simp
  | case5 => simp_all; omega

set_option maxHeartbeats 4000000 in
theorem l3Lines_any (s : ByteArray) (w : World) (hs : s.size ≤ 1048576) :
    Calls Tryz.prog 85 #[.string s] w fun e w' => (∃ g cap, e = .returned (.slice (some ⟨g, 0, none⟩) (linesB s.data.toList).length cap) ∧ w'.ownsRow w.heap.size 9 1 (.slice (some ⟨g, 0, none⟩) (linesB s.data.toList).length cap) (linesB s.data.toList).length (strCells (linesB s.data.toList))) ∧ Below w.heap.size w w' := by
  have el : s.data.toList.length = s.size := Array.length_toList
  have EL : Hid (s.data.toList.length = s.size) := el
  have hget : ∀ (k : Nat) (h : k < s.size), s.data.toList[k]? = some s[k] := fun k h => by
    rw [List.getElem?_eq_getElem (by rw [el]; exact h)]; rfl
  have HGet : Hid (∀ (k : Nat) (h : k < s.size), s.data.toList[k]? = some s[k]) := hget
  clear el hget
  go_enter Tryz.func85, Tryz.ntmps85
  go_wp2
  go_loopw [3, 4, 5] (fun v f i wr => ∃ (k fr : Nat) (done : List (List UInt8)) (g cap : Nat), i = .int .i64 k ∧ f = .int .i64 fr ∧ v = .slice (some ⟨g, 0, none⟩) done.length cap ∧ k ≤ s.size + 1 ∧ LineAt s.data.toList k fr done ∧ wr.ownsRow w.heap.size 9 1 (.slice (some ⟨g, 0, none⟩) done.length cap) done.length (strCells (done.map bytesOf)) ∧ Below w.heap.size w wr) (fun _ _ i _ => s.size + 1 - (intOf i).toNat)
  case atStart => exact ⟨0, 0, [], w.heap.size, 0, rfl, rfl, rfl, Nat.zero_le _, LineAt.start _, World.ownsRow_made w #[] 0 (Nat.le_refl _) (by decide) rfl, (Below.refl _ _).alloc (Nat.le_refl _) _⟩
  case round =>
    obtain ⟨k, fr, done, g, cap, rfl, rfl, rfl, hk1, hC, hown, hbe⟩ := hrel
    have HC : Hid (LineAt s.data.toList k fr done) := hC
    have hdl : done.length ≤ k := hC.1
    have hfk : fr ≤ k := hC.2.1
    clear hC
    by_cases hout : k ≤ s.size
    · have HE : Hid (s.extract fr k = bytesOf ((s.data.toList.drop fr).take (k - fr))) := extract_pieceB s fr k
      by_cases hlt : k < s.size
      · have hne : ((k : Int) == s.size) = false := by
          apply beq_eq_false_iff_ne.2; omega
        by_cases hl2 : k + 1 < s.size
        · have hl2' : (k : Int) + 1 < s.size := by omega
          by_cases hc : s[k] = 13
          · have hb13 : ((s[k].toNat : Int) == 13) = true := by rw [hc]; rfl
            by_cases hd : s[k + 1] = 10
            · have hb10 : ((s[k + 1].toNat : Int) == 10) = true := by rw [hd]; rfl
              have HN : Hid (LineAt s.data.toList (k + 2) (k + 2) (done ++ [(s.data.toList.drop fr).take (k - fr)])) := HC.out.cut (by rw [EL.out]; exact hl2) (by rw [HGet.out k hlt, hc]) (by rw [HGet.out (k + 1) hl2, hd])
              clear hc hd
              go_wp2_with (at_builtin; refine wp_append_str rfl _ _ rfl w.heap.size _ done.length _ rfl (hown.alloc _) _ (s.extract fr k) rfl ?c1 ?c2 ?c3 ?_)
              case c1 => simp
              case c2 => omega
              case c3 => have := hbe.size; simp; omega
              intro g1 cap1 w1 ho1 hb1
              rw [HE.out] at ho1
              go_wp2
              go_roundw
              case rel => exact ⟨k + 2, k + 2, done ++ [(s.data.toList.drop fr).take (k - fr)], g1, cap1, by go_num, by go_num, by rw [List.length_append]; rfl, by omega, HN.out, by rw [List.length_append, List.map_append]; exact ho1, (hbe.alloc hbe.size _).trans hb1⟩
              case measure => simp [intOf]; omega
            · have hb10 : ((s[k + 1].toNat : Int) == 10) = false := by
                cases h : ((s[k + 1].toNat : Int) == 10)
                · rfl
                · exact absurd (u8_num (n := 10) (by decide) h) hd
              have HN : Hid (LineAt s.data.toList (k + 1) fr done) := HC.out.skip (by rw [EL.out]; exact hlt) (by rw [HGet.out (k + 1) hl2]; exact fun h => hd (Option.some.inj h.2))
              clear hc hd
              go_wp2
              go_roundw
              case rel => exact ⟨k + 1, fr, done, g, cap, by go_num, rfl, rfl, by omega, HN.out, hown, hbe⟩
              case measure => simp [intOf]; omega
          · have hb13 : ((s[k].toNat : Int) == 13) = false := by
              cases h : ((s[k].toNat : Int) == 13)
              · rfl
              · exact absurd (u8_num (n := 13) (by decide) h) hc
            have HN : Hid (LineAt s.data.toList (k + 1) fr done) := HC.out.skip (by rw [EL.out]; exact hlt) (by rw [HGet.out k hlt]; exact fun h => hc (Option.some.inj h.1))
            clear hc
            go_wp2
            go_roundw
            case rel => exact ⟨k + 1, fr, done, g, cap, by go_num, rfl, rfl, by omega, HN.out, hown, hbe⟩
            case measure => simp [intOf]; omega
        · have hl2' : ¬ ((k : Int) + 1 < s.size) := by omega
          have HN : Hid (LineAt s.data.toList (k + 1) fr done) := HC.out.skip (by rw [EL.out]; exact hlt) (by rw [List.getElem?_eq_none (i := k + 1) (by rw [EL.out]; omega)]; exact fun h => by cases h.2)
          go_wp2
          go_roundw
          case rel => exact ⟨k + 1, fr, done, g, cap, by go_num, rfl, rfl, by omega, HN.out, hown, hbe⟩
          case measure => simp [intOf]; omega
      · have hks : k = s.size := by omega
        have hne : ((k : Int) == s.size) = true := by rw [hks]; simp
        have HN : Hid (LineAt s.data.toList (k + 1) fr (done ++ [(s.data.toList.drop fr).take (k - fr)])) := HC.out.last (by rw [EL.out]; exact hks)
        have HE2 : Hid (s.extract fr s.size = bytesOf ((s.data.toList.drop fr).take (k - fr))) := by rw [← hks]; exact HE.out
        clear hks
        go_wp2_with (at_builtin; refine wp_append_str rfl _ _ rfl w.heap.size _ done.length _ rfl (hown.alloc _) _ (s.extract fr s.size) rfl ?c1 ?c2 ?c3 ?_)
        case c1 => simp
        case c2 => omega
        case c3 => have := hbe.size; simp; omega
        intro g1 cap1 w1 ho1 hb1
        rw [HE2.out] at ho1
        go_wp2
        go_roundw
        case rel => exact ⟨k + 1, fr, done ++ [(s.data.toList.drop fr).take (k - fr)], g1, cap1, by go_num, rfl, by rw [List.length_append]; rfl, by omega, HN.out, by rw [List.length_append, List.map_append]; exact ho1, (hbe.alloc hbe.size _).trans hb1⟩
        case measure => simp [intOf]; omega
    · have hd : done = linesL s.data.toList := by
        obtain ⟨_, _, h3 | h3⟩ := HC.out
        · have := h3.1; rw [EL.out] at this; exact absurd this hout
        · exact h3.2
      have HD : Hid (done = linesL s.data.toList) := hd
      clear hd
      go_wp2
      go_ret
      have e : linesB s.data.toList = done.map bytesOf := by rw [HD.out]; rfl
      rw [e, List.length_map]
      exact ⟨⟨g, cap, rfl, hown⟩, hbe⟩
end Go.Proofs.YtkhnkockdfmkgaaGreatDoor
