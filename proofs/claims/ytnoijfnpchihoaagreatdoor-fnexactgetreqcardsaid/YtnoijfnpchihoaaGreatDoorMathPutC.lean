/-
  What strings.Clone does.
  What the program's Trim does.
  What the program's methodOk, targetOk, tellsLength, tellsCoding do.
  Plain facts on bodies told in pieces: no program in sight.
-/
import Derived.Test.YtnoijfnpchihoaaGreatDoorShelf
import Derived.WalkKit
import Derived.WalkSpells
import Derived.WalkLawsBesides
import Derived.Test.YtnoijfnpchihoaaGreatDoorSpecPl
import Derived.Test.YtnoijfnpchihoaaGreatDoorMathSmall
import Derived.Test.YtnoijfnpchihoaaGreatDoorAllOf
import Derived.Test.YtnoijfnpchihoaaGreatDoorPlain
import Derived.Test.YtnoijfnpchihoaaGreatDoorMathHex
namespace Go.Proofs.YtnoijfnpchihoaaGreatDoor
open Go.RowKit

set_option maxHeartbeats 400000 in
theorem clone_any (s : ByteArray) (w : World) (hs : s.size ≤ 281474976710656) :
    Calls Tryz.prog 106 #[.string s] w fun e w' => e = .returned (.string s) ∧ Below w.heap.size w w' := by
  go_enter Tryz.func106, Tryz.ntmps106
  go_wp2_with (go_at_call 128; refine (Tryz.stringslite_Clone s _ hs).mono ?_; rintro e w1 ⟨rfl, hb1⟩)
  go_ret
  exact ⟨rfl, hb1⟩
end Go.Proofs.YtnoijfnpchihoaaGreatDoor
namespace Go.Proofs.YtnoijfnpchihoaaGreatDoor
open Go.RowKit M

set_option maxHeartbeats 1000000 in
theorem trim_any (s : ByteArray) (w : World) (hs : s.size ≤ 281474976710656) :
    Calls Tryz.prog 73 #[.string s] w fun e w' => (∃ t : ByteArray, e = .returned (.string t) ∧ t.data.toList = trimL s.data.toList) ∧ Below w.heap.size w w' := by
  go_enter Tryz.func73, Tryz.ntmps73
  go_wp2
  go_loopw [3] (fun i wr => ∃ a : Nat, a ≤ s.size ∧ i = .int .i64 a ∧ Below w.heap.size w wr ∧ trimL (cut s a s.size) = trimL s.data.toList) (fun i _ => s.size - (intOf i).toNat)
  case atStart => exact ⟨0, Nat.zero_le _, rfl, Below.refl _ _, by rw [cut_all]⟩
  case round =>
    obtain ⟨a, ha, rfl, hbe, hn⟩ := hrel
    have HN : Hid (trimL (cut s a s.size) = trimL s.data.toList) := hn; clear hn
    by_cases h0 : a < s.size
    · cases hb : bl s[a]
      · go_wp2_with (go_at_call 105; refine (isOneOf_any _ [1] 1 _ 0 1 _ rfl (by decide) (cells1 _ 1 110)).mono ?_; rintro e w' ⟨rfl, rfl⟩; rw [anyB_bl, hb])
        have hbe1 : Below w.heap.size w (wr.alloc (Obj.cells #[Value.int IntKind.i64 1] 110)) := hbe.alloc hbe.size _
        go_loopw [4] (fun j wx => ∃ b : Nat, a ≤ b ∧ b ≤ s.size ∧ j = .int .i64 b ∧ Below w.heap.size w wx ∧ trimL (cut s a b) = trimL s.data.toList) (fun j _ => (intOf j).toNat)
        case atStart => exact ⟨s.size, ha, Nat.le_refl _, rfl, hbe1, HN.out⟩
        case round =>
          clear hbe1 hbe
          obtain ⟨b, hab, hbs, rfl, hbx, hn⟩ := hrel
          have HB : Hid (trimL (cut s a b) = trimL s.data.toList) := hn; clear hn
          by_cases h1 : a < b
          · cases hb1 : bl s[b - 1]
            · have HD : Hid ((s.extract a b).data.toList = trimL s.data.toList) := by
                show _ = _
                rw [← HB.out, extract_cut, cut_trim_done s a b hbs h1 hb hb1]
              have hsz : (s.extract a b).size ≤ 281474976710656 := by rw [size_extract s a b hbs]; omega
              go_wp2_with (first | (go_at_call 105; refine (isOneOf_any _ [1] 1 _ 0 1 _ rfl (by decide) (cells1 _ 1 110)).mono ?_; rintro e w' ⟨rfl, rfl⟩; rw [anyB_bl, hb1]) | (go_at_call 106; refine (clone_any _ _ hsz).mono ?_; rintro e w1 ⟨rfl, hb2⟩))
              go_ret
              exact ⟨⟨_, rfl, HD.out⟩, (hbx.alloc hbx.size _).trans (hb2.mono (by have := hbx.size; simp; omega))⟩
            · go_wp2_with (go_at_call 105; refine (isOneOf_any _ [1] 1 _ 0 1 _ rfl (by decide) (cells1 _ 1 110)).mono ?_; rintro e w' ⟨rfl, rfl⟩; rw [anyB_bl, hb1])
              go_roundw
              case rel => exact ⟨b - 1, by omega, by omega, by go_num, hbx.alloc hbx.size _, by rw [← HB.out]; exact (cut_trim_back s a b hbs h1 hb1).symm⟩
              case measure => simp [intOf]; omega
          · have HD : Hid ((s.extract a b).data.toList = trimL s.data.toList) := by
              show _ = _
              rw [← HB.out, extract_cut, cut_empty s a b (by omega)]; rfl
            have hsz : (s.extract a b).size ≤ 281474976710656 := by rw [size_extract s a b hbs]; omega
            go_wp2_with (go_at_call 106; refine (clone_any _ _ hsz).mono ?_; rintro e w1 ⟨rfl, hb2⟩)
            go_ret
            exact ⟨⟨_, rfl, HD.out⟩, hbx.trans (hb2.mono hbx.size)⟩
      · go_wp2_with (go_at_call 105; refine (isOneOf_any _ [1] 1 _ 0 1 _ rfl (by decide) (cells1 _ 1 110)).mono ?_; rintro e w' ⟨rfl, rfl⟩; rw [anyB_bl, hb])
        go_roundw
        case rel => exact ⟨a + 1, by omega, by go_num, hbe.alloc hbe.size _, by rw [← HN.out]; exact (cut_trim_front s a s.size (Nat.le_refl _) h0 hb).symm⟩
        case measure => simp [intOf]; omega
    · have HD : Hid ((s.extract a s.size).data.toList = trimL s.data.toList) := by
        show _ = _
        rw [← HN.out, extract_cut, cut_empty s _ _ (by omega)]; rfl
      have hsz : (s.extract a s.size).size ≤ 281474976710656 := by rw [size_extract s _ _ (Nat.le_refl _)]; omega
      go_wp2
      go_loopw [4] (fun j wx => j = .int .i64 s.size ∧ wx = wr) (fun j _ => (intOf j).toNat)
      case atStart => exact ⟨rfl, rfl⟩
      case round =>
        obtain ⟨rfl, rfl⟩ := hrel
        go_wp2_with (go_at_call 106; refine (clone_any _ _ hsz).mono ?_; rintro e w1 ⟨rfl, hb2⟩)
        go_ret
        exact ⟨⟨_, rfl, HD.out⟩, hbe.trans (hb2.mono hbe.size)⟩
end Go.Proofs.YtnoijfnpchihoaaGreatDoor
namespace Go.Proofs.YtnoijfnpchihoaaGreatDoor
open Go.RowKit M
set_option linter.unusedVariables false

theorem methB_size {s : ByteArray} (h : ¬ (1 ≤ s.size ∧ s.size ≤ 9)) : methB s = false := by
  have : inB (s.size : Int) 1 9 = false := by simp [inB]; omega
  simp [methB, this]
theorem methB_in {s : ByteArray} (h : 1 ≤ s.size ∧ s.size ≤ 9) : methB s = allB s.data.toList [3] := by
  have : inB (s.size : Int) 1 9 = true := by simp [inB]; omega
  simp [methB, this]
theorem targB_size {s : ByteArray} (h : ¬ (1 ≤ s.size ∧ s.size ≤ 80)) : targB s = false := by
  have : inB (s.size : Int) 1 80 = false := by simp [inB]; omega
  simp [targB, this]
theorem targB_in {s : ByteArray} (h : 1 ≤ s.size ∧ s.size ≤ 80) : targB s = (allB s.data.toList [0] && !decide (0 ≤ Lib.indexByte s.data.toList 32)) := by
  have : inB (s.size : Int) 1 80 = true := by simp [inB]; omega
  rw [indexByte_nonneg, tgt_plain]
  simp [targB, this]

theorem allOf_one (s : ByteArray) (k : Int) (T : TypeId) (w : World) (hs : s.size ≤ maxLen) :
    Calls Tryz.prog 82 #[.string s, .slice (some ⟨w.heap.size, 0, none⟩) 1 1] (w.alloc (Obj.cells #[.int .i64 k] T)) fun e w' => e = .returned (.bool (allB s.data.toList [k])) ∧ w' = w.alloc (Obj.cells #[.int .i64 k] T) := by
  refine allOf_any s [k] 1 _ 0 1 _ rfl hs (by unfold maxLen; simp) ?_
  intro i hi
  have : i = 0 := by simp at hi; omega
  subst this
  simp

set_option maxHeartbeats 400000 in
theorem methodOk_any (s : ByteArray) (w : World) (hs : s.size ≤ maxLen) :
    Calls Tryz.prog 46 #[.string s] w fun e w' => e = .returned (.bool (methB s)) ∧ Below w.heap.size w w' := by
  have hs' := hs
  unfold maxLen at hs'
  by_cases h : 1 ≤ s.size ∧ s.size ≤ 9
  · rw [methB_in h]
    have h1 : (1 : Int) ≤ s.size := by omega
    have h2 : (s.size : Int) ≤ 9 := by omega
    clear h
    go_enter Tryz.func46, Tryz.ntmps46
    go_wp2_with (go_at_call 82; refine (allOf_one s 3 _ _ hs).mono ?_; rintro e w1 ⟨rfl, hw⟩; obtain rfl := hw.symm)
    go_ret
    exact ⟨rfl, (Below.refl _ _).alloc (Nat.le_refl _) _⟩
  · rw [methB_size h]
    by_cases h1 : (1 : Int) ≤ s.size
    · have h2 : ¬ (s.size : Int) ≤ 9 := by omega
      go_enter Tryz.func46, Tryz.ntmps46
      go_wp2
      go_ret
      exact ⟨rfl, Below.refl _ _⟩
    · go_enter Tryz.func46, Tryz.ntmps46
      go_wp2
      go_ret
      exact ⟨rfl, Below.refl _ _⟩

set_option maxHeartbeats 400000 in
theorem targetOk_any (s : ByteArray) (w : World) (hs : s.size ≤ maxLen) :
    Calls Tryz.prog 47 #[.string s] w fun e w' => e = .returned (.bool (targB s)) ∧ Below w.heap.size w w' := by
  have hs' := hs
  unfold maxLen at hs'
  by_cases h : 1 ≤ s.size ∧ s.size ≤ 80
  · rw [targB_in h]
    have h1 : (1 : Int) ≤ s.size := by omega
    have h2 : (s.size : Int) ≤ 80 := by omega
    clear h
    cases h3 : allB s.data.toList [0]
    · go_enter Tryz.func47, Tryz.ntmps47
      go_wp2_with (go_at_call 83; refine (plain_any s _ hs).mono ?_; rintro e w1 ⟨rfl, b1⟩; rw [h3])
      go_ret
      exact ⟨rfl, b1⟩
    · go_enter Tryz.func47, Tryz.ntmps47
      go_wp2_with (first | (go_at_call 83; refine (plain_any s _ hs).mono ?_; rintro e w1 ⟨rfl, b1⟩; rw [h3]) | (go_at_call 84; refine (Tryz.strings_Contains_one s 32 _).mono ?_; rintro e w2 ⟨rfl, hw⟩; obtain rfl := hw.symm))
      go_ret
      exact ⟨ret_bool (by simp), b1⟩
  · rw [targB_size h]
    by_cases h1 : (1 : Int) ≤ s.size
    · have h2 : ¬ (s.size : Int) ≤ 80 := by omega
      go_enter Tryz.func47, Tryz.ntmps47
      go_wp2
      go_ret
      exact ⟨rfl, Below.refl _ _⟩
    · go_enter Tryz.func47, Tryz.ntmps47
      go_wp2
      go_ret
      exact ⟨rfl, Below.refl _ _⟩
end Go.Proofs.YtnoijfnpchihoaaGreatDoor
namespace Go.Proofs.YtnoijfnpchihoaaGreatDoor.M

/-- A piece: its size, a line's end, its bytes, a line's end. -/
def chTxt (m : List UInt8) : List UInt8 := hexDigits m.length ++ (crlf ++ (m ++ crlf))
/-- Nothing of none. -/
def chTxt0 (m : List UInt8) : List UInt8 := if m = [] then [] else chTxt m
/-- The pieces that a body is cut into. -/
def pcsC : List Int → List UInt8 → List (List UInt8)
  | [], b => if b = [] then [] else [b]
  | n :: r, b => if n < 1 ∨ b = [] then pcsC r b else b.take n.toNat :: pcsC r (b.drop n.toNat)
def pcsTxt (ns : List Int) (b : List UInt8) : List UInt8 := (pcsC ns b).flatMap chTxt
/-- A body in pieces. -/
def putCs (ns : List Int) (b : List UInt8) : List UInt8 := pcsTxt ns b ++ chTxt []

theorem chTxt_nil : chTxt [] = [48, 13, 10, 13, 10] := by decide
theorem pcsTxt_skip {n : Int} (r : List Int) (b : List UInt8) (h : n < 1) : pcsTxt (n :: r) b = pcsTxt r b := by
  unfold pcsTxt; rw [pcsC, if_pos (.inl h)]
theorem pcsTxt_step {n : Int} (r : List Int) (b : List UInt8) (h : 1 ≤ n) : pcsTxt (n :: r) b = chTxt0 (b.take n.toNat) ++ pcsTxt r (b.drop n.toNat) := by
  unfold pcsTxt
  by_cases hb : b = []
  · subst hb
    rw [pcsC, if_pos (.inr rfl)]
    simp [chTxt0]
  · rw [pcsC, if_neg (by simp [hb]; omega), List.flatMap_cons]
    congr 1
    have : b.take n.toNat ≠ [] := by
      cases b with
      | nil => exact absurd rfl hb
      | cons c r => intro e; have := congrArg List.length e; simp at this; omega
    rw [chTxt0, if_neg this]
theorem pcsTxt_end (b : List UInt8) : pcsTxt [] b = chTxt0 b := by
  unfold pcsTxt chTxt0
  rw [pcsC]
  by_cases hb : b = []
  · simp [hb]
  · rw [if_neg hb, if_neg hb]; simp

theorem hexDig_le (f m : Nat) : (hexDig f m).length ≤ f := by
  induction f generalizing m with
  | zero => simp [hexDig]
  | succ f ih =>
    rw [hexDig]
    split
    · simp
    · have := ih (m / 16); simp; omega
theorem chTxt_len (m : List UInt8) : (chTxt m).length ≤ m.length + 20 := by
  have := hexDig_le 16 m.length
  unfold chTxt crlf hexDigits
  simp only [List.length_append, List.length_cons, List.length_nil]
  omega
theorem chTxt0_len (m : List UInt8) : (chTxt0 m).length ≤ 21 * m.length := by
  unfold chTxt0
  by_cases h : m = []
  · rw [if_pos h]; simp
  · rw [if_neg h]
    have := chTxt_len m
    have : 0 < m.length := List.length_pos_iff.2 h
    omega
theorem pcsTxt_len (ns : List Int) : ∀ b, (pcsTxt ns b).length ≤ 21 * b.length := by
  induction ns with
  | nil => intro b; rw [pcsTxt_end]; exact chTxt0_len b
  | cons n r ih =>
    intro b
    by_cases h : n < 1
    · rw [pcsTxt_skip r b h]; exact ih b
    · rw [pcsTxt_step r b (by omega), List.length_append]
      have h1 := chTxt0_len (b.take n.toNat)
      have h2 := ih (b.drop n.toNat)
      rw [List.length_take] at h1
      rw [List.length_drop] at h2
      omega
/-- How much the pieces have. -/
theorem pcsC_sum (ns : List Int) : ∀ b, (pcsC ns b).flatten = b := by
  induction ns with
  | nil => intro b; rw [pcsC]; by_cases hb : b = [] <;> simp [hb]
  | cons n r ih =>
    intro b
    rw [pcsC]
    split
    · exact ih b
    · rw [List.flatten_cons, ih, List.take_append_drop]
theorem pcsC_ne (ns : List Int) : ∀ b, ∀ m ∈ pcsC ns b, m ≠ [] := by
  induction ns with
  | nil => intro b m; rw [pcsC]; by_cases hb : b = [] <;> simp [hb]; intro e; rw [e]; exact hb
  | cons n r ih =>
    intro b m
    rw [pcsC]
    split
    · exact ih b m
    · rename_i h
      rw [List.mem_cons]
      rintro (rfl | hm)
      · cases b with
        | nil => exact absurd (.inr rfl) h
        | cons c q => intro e; have := congrArg List.length e; simp at this; omega
      · exact ih _ m hm
end Go.Proofs.YtnoijfnpchihoaaGreatDoor.M
