/-
  What the specification's l2Split does: a text, cut at blanks.
-/
import Derived.Test.YtkhnkockdfmkgaaGreatDoorMathGet
import Derived.Test.YtkhnkockdfmkgaaGreatDoorOwnStrs
import Derived.Test.YtkhnkockdfmkgaaGreatDoorExtract
namespace Go.Proofs.YtkhnkockdfmkgaaGreatDoor
open Go.RowKit M
set_option linter.unusedVariables false

def piecesB (l : List UInt8) : List ByteArray := (cutsB 32 l).map bytesOf
theorem u8_32B {c : UInt8} (h : ((c.toNat : Int) == 32) = true) : c = 32 := by
  rw [beq_iff_eq] at h
  exact UInt8.toNat_inj.1 (by simpa using Int.ofNat.inj h)

/-- How far a text is cut. -/
def CutAtB (l : List UInt8) (k fr : Nat) (done : List (List UInt8)) : Prop :=
  done.length ≤ k ∧ fr ≤ k ∧ ((k ≤ l.length ∧ cutsB 32 l = done ++ cutsB 32 (l.drop fr) ∧ 32 ∉ (l.drop fr).take (k - fr)) ∨ (k = l.length + 1 ∧ done = cutsB 32 l))

theorem CutAtB.start (l : List UInt8) : CutAtB l 0 0 [] := ⟨Nat.le_refl _, Nat.le_refl _, .inl ⟨Nat.zero_le _, by simp, by simp⟩⟩

theorem take_nextB (l : List UInt8) (fr k : Nat) (hf : fr ≤ k) (hk : k < l.length) : (l.drop fr).take (k + 1 - fr) = (l.drop fr).take (k - fr) ++ [l[k]] := by
  have h1 : k - fr < (l.drop fr).length := by rw [List.length_drop]; omega
  rw [show k + 1 - fr = (k - fr) + 1 by omega, List.take_succ_eq_append_getElem h1, List.getElem_drop]
  congr 3
  omega

theorem CutAtB.skip {l : List UInt8} {k fr : Nat} {done : List (List UInt8)} (h : CutAtB l k fr done) (hk : k < l.length) (hc : ¬ l[k] = 32) : CutAtB l (k + 1) fr done := by
  obtain ⟨h1, h2, h3 | h3⟩ := h
  · refine ⟨by omega, by omega, .inl ⟨by omega, h3.2.1, ?_⟩⟩
    rw [take_nextB l fr k h2 hk]
    intro hm
    rcases List.mem_append.1 hm with hm | hm
    · exact h3.2.2 hm
    · simp at hm; exact hc hm.symm
  · exact absurd hk (by omega)

theorem drop_partsB (l : List UInt8) (fr k : Nat) (hf : fr ≤ k) (hk : k < l.length) : l.drop fr = (l.drop fr).take (k - fr) ++ l[k] :: l.drop (k + 1) := by
  conv => lhs; rw [← List.take_append_drop (k - fr) (l.drop fr)]
  rw [List.drop_drop, show fr + (k - fr) = k by omega, List.drop_eq_getElem_cons hk]

theorem CutAtB.cut {l : List UInt8} {k fr : Nat} {done : List (List UInt8)} (h : CutAtB l k fr done) (hk : k < l.length) (hc : l[k] = 32) : CutAtB l (k + 1) (k + 1) (done ++ [(l.drop fr).take (k - fr)]) := by
  obtain ⟨h1, h2, h3 | h3⟩ := h
  · refine ⟨by simp; omega, Nat.le_refl _, .inl ⟨by omega, ?_, by simp⟩⟩
    rw [h3.2.1, List.append_assoc]
    congr 1
    conv => lhs; rw [drop_partsB l fr k h2 hk, hc]
    rw [cutsB_app _ h3.2.2]
    rfl
  · exact absurd hk (by omega)

theorem CutAtB.last {l : List UInt8} {k fr : Nat} {done : List (List UInt8)} (h : CutAtB l k fr done) (hk : k = l.length) : CutAtB l (k + 1) (k + 1) (done ++ [(l.drop fr).take (k - fr)]) := by
  obtain ⟨h1, h2, h3 | h3⟩ := h
  · refine ⟨by simp; omega, Nat.le_refl _, .inr ⟨by omega, ?_⟩⟩
    have e : (l.drop fr).take (k - fr) = l.drop fr := List.take_of_length_le (by rw [List.length_drop]; omega)
    rw [e] at h3 ⊢
    rw [h3.2.1, cutsB_none h3.2.2]
  · exact absurd hk (by omega)

set_option maxHeartbeats 2000000 in
theorem l2SplitB_any (s : ByteArray) (w : World) (hs : s.size ≤ 1048576) :
    Calls Tryz.prog 118 #[.string s, .int .u8 32] w fun e w' => (∃ g cap, e = .returned (.slice (some ⟨g, 0, none⟩) (piecesB s.data.toList).length cap) ∧ w'.ownsRow w.heap.size 9 1 (.slice (some ⟨g, 0, none⟩) (piecesB s.data.toList).length cap) (piecesB s.data.toList).length (strCells (piecesB s.data.toList))) ∧ Below w.heap.size w w' := by
  have el : s.data.toList.length = s.size := Array.length_toList
  have EL : Hid (s.data.toList.length = s.size) := el
  clear el
  go_enter Tryz.func118, Tryz.ntmps118
  go_wp2
  go_loopw [5, 6, 7] (fun v f i wr => ∃ (k fr : Nat) (done : List (List UInt8)) (g cap : Nat), i = .int .i64 k ∧ f = .int .i64 fr ∧ v = .slice (some ⟨g, 0, none⟩) done.length cap ∧ k ≤ s.size + 1 ∧ CutAtB s.data.toList k fr done ∧ wr.ownsRow w.heap.size 9 1 (.slice (some ⟨g, 0, none⟩) done.length cap) done.length (strCells (done.map bytesOf)) ∧ Below w.heap.size w wr) (fun _ _ i _ => s.size + 1 - (intOf i).toNat)
  case atStart => exact ⟨0, 0, [], w.heap.size, 0, rfl, rfl, rfl, Nat.zero_le _, CutAtB.start _, World.ownsRow_made w #[] 0 (Nat.le_refl _) (by decide) rfl, (Below.refl _ _).alloc (Nat.le_refl _) _⟩
  case round =>
    obtain ⟨k, fr, done, g, cap, rfl, rfl, rfl, hk1, hC, hown, hbe⟩ := hrel
    have HC : Hid (CutAtB s.data.toList k fr done) := hC
    have hdl : done.length ≤ k := hC.1
    have hfk : fr ≤ k := hC.2.1
    clear hC
    by_cases hout : k ≤ s.size
    · have HE : Hid (s.extract fr k = bytesOf ((s.data.toList.drop fr).take (k - fr))) := extract_pieceB s fr k
      by_cases hlt : k < s.size
      · have hne : ((k : Int) == s.size) = false := by
          apply beq_eq_false_iff_ne.2; omega
        by_cases hc : s[k] = 32
        · have hb32 : ((s[k].toNat : Int) == 32) = true := by rw [hc]; rfl
          have HN : Hid (CutAtB s.data.toList (k + 1) (k + 1) (done ++ [(s.data.toList.drop fr).take (k - fr)])) := HC.out.cut (by rw [EL.out]; exact hlt) hc
          clear hc
          go_wp2_with (at_builtin; refine wp_append_str rfl _ _ rfl w.heap.size _ done.length _ rfl (hown.alloc _) _ (s.extract fr k) rfl ?c1 ?c2 ?c3 ?_)
          case c1 => simp
          case c2 => omega
          case c3 => have := hbe.size; simp; omega
          intro g1 cap1 w1 ho1 hb1
          rw [HE.out] at ho1
          go_wp2
          go_roundw
          case rel => exact ⟨k + 1, k + 1, done ++ [(s.data.toList.drop fr).take (k - fr)], g1, cap1, by go_num, by go_num, by rw [List.length_append]; rfl, by omega, HN.out, by rw [List.length_append, List.map_append]; exact ho1, (hbe.alloc hbe.size _).trans hb1⟩
          case measure => simp [intOf]; omega
        · have hb32 : ((s[k].toNat : Int) == 32) = false := by
            cases h : ((s[k].toNat : Int) == 32)
            · rfl
            · exact absurd (u8_32B h) hc
          have HN : Hid (CutAtB s.data.toList (k + 1) fr done) := HC.out.skip (by rw [EL.out]; exact hlt) hc
          clear hc
          go_wp2
          go_roundw
          case rel => exact ⟨k + 1, fr, done, g, cap, by go_num, rfl, rfl, by omega, HN.out, hown, hbe⟩
          case measure => simp [intOf]; omega
      · have hks : k = s.size := by omega
        have hne : ((k : Int) == s.size) = true := by rw [hks]; simp
        have HN : Hid (CutAtB s.data.toList (k + 1) (k + 1) (done ++ [(s.data.toList.drop fr).take (k - fr)])) := HC.out.last (by rw [EL.out]; exact hks)
        clear hks
        go_wp2_with (at_builtin; refine wp_append_str rfl _ _ rfl w.heap.size _ done.length _ rfl (hown.alloc _) _ (s.extract fr k) rfl ?c1 ?c2 ?c3 ?_)
        case c1 => simp
        case c2 => omega
        case c3 => have := hbe.size; simp; omega
        intro g1 cap1 w1 ho1 hb1
        rw [HE.out] at ho1
        go_wp2
        go_roundw
        case rel => exact ⟨k + 1, k + 1, done ++ [(s.data.toList.drop fr).take (k - fr)], g1, cap1, by go_num, by go_num, by rw [List.length_append]; rfl, by omega, HN.out, by rw [List.length_append, List.map_append]; exact ho1, (hbe.alloc hbe.size _).trans hb1⟩
        case measure => simp [intOf]; omega
    · have hd : done = cutsB 32 s.data.toList := by
        obtain ⟨_, _, h3 | h3⟩ := HC.out
        · have := h3.1; rw [EL.out] at this; exact absurd this hout
        · exact h3.2
      have HD : Hid (done = cutsB 32 s.data.toList) := hd
      clear hd
      go_wp2
      go_ret
      have e : piecesB s.data.toList = done.map bytesOf := by rw [HD.out]; rfl
      rw [e, List.length_map]
      exact ⟨⟨g, cap, rfl, hown⟩, hbe⟩
end Go.Proofs.YtkhnkockdfmkgaaGreatDoor
