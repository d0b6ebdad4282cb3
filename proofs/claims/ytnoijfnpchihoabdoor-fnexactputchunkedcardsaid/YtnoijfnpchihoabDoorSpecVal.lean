/-
  Two answers that are the same.
  What the program's calls on kinds of bytes do: isOf, isOneOf: each computes, and turns nothing in memory.
  What the specification's l1In does; a byte as an int.
  What the specification's own Plain does.
  What the specification's l1Blank and Trim do.
  What the specification's l3Val does.
-/
import Derived.Test.YtnoijfnpchihoabDoorRows
import Derived.WalkKit
import Derived.Test.YtnoijfnpchihoabDoorMath
import Derived.WalkSpells
import Derived.WalkLawsBesides
import Derived.Deep.Light
import Derived.Test.YtnoijfnpchihoabDoorMathTrim
import Derived.Test.YtnoijfnpchihoabDoorMathLines
namespace Go.Proofs.YtnoijfnpchihoabDoor

theorem ret_bool {a b : Bool} (h : a = b) : Ending.returned (.bool a) = .returned (.bool b) := by rw [h]
end Go.Proofs.YtnoijfnpchihoabDoor
namespace Go.Proofs.YtnoijfnpchihoabDoor
open Go.RowKit M

set_option maxHeartbeats 400000 in
theorem isOf_any (c k : Int) (w : World) :
    Calls Tryd.prog 112 #[.int .u8 c, .int .i64 k] w fun e w' => e = .returned (.bool (isB c k)) ∧ w' = w := by
  go_enter Tryd.func112, Tryd.ntmps112
  go_wp2
  all_goals
    go_ret
    refine ⟨ret_bool ?_, rfl⟩
    go_light
    unfold isB
    simp_all
    try omega

set_option maxHeartbeats 400000 in
theorem isOneOf_any (c : Int) (ks : List Int) (n b o cap : Nat) (w : World) (hn : ks.length = n) (hl : ks.length ≤ maxLen)
    (hc : ∀ i, i < ks.length → w.cell? ⟨b, o + i, none⟩ = some (.int .i64 (ks.getD i 0))) :
    Calls Tryd.prog 98 #[.int .u8 c, .slice (some ⟨b, o, none⟩) n cap] w fun e w' => e = .returned (.bool (anyB c ks)) ∧ w' = w := by
  subst hn
  unfold maxLen at hl
  go_enter Tryd.func98, Tryd.ntmps98
  go_wp2
  go_loop [9] (fun i => ∃ k : Nat, k ≤ ks.length ∧ i = .int .i64 k ∧ anyB c (ks.take k) = false) (fun i => ks.length - (intOf i).toNat)
  case atStart => exact ⟨0, Nat.zero_le _, rfl, rfl⟩
  case round =>
    obtain ⟨k, hk, rfl, hn⟩ := hrel
    have HN : Hid (anyB c (ks.take k) = false) := hn; clear hn
    by_cases hlt : k < ks.length
    · have hcx := hc k hlt
      go_wp2_with (go_at_call 112; refine (isOf_any _ _ _).mono ?_; rintro e w' ⟨rfl, rfl⟩)
      · go_ret
        exact ⟨ret_bool (by rw [anyB_of c ks k hlt (by assumption)]), rfl⟩
      · go_round
        case rel => exact ⟨k + 1, by omega, by go_num, anyB_snoc c ks k hlt HN.out (by assumption)⟩
        case measure => simp [intOf]; omega
    · go_wp2
      go_ret
      exact ⟨ret_bool (by rw [← HN.out, List.take_of_length_le (by omega)]), rfl⟩
theorem cells1 (w : World) (a : Int) (T : TypeId) : ∀ i, i < [a].length → (w.alloc (Obj.cells #[.int .i64 a] T)).cell? ⟨w.heap.size, 0 + i, none⟩ = some (.int .i64 ([a].getD i 0)) := by
  intro i hi
  match i, hi with
  | 0, _ => simp

theorem cells3 (w : World) (n : Nat) (a b c : Int) (T : TypeId) (hn : w.heap.size = n) : ∀ i, i < [a, b, c].length → (w.alloc (Obj.cells #[.int .i64 a, .int .i64 b, .int .i64 c] T)).cell? ⟨n, 0 + i, none⟩ = some (.int .i64 ([a, b, c].getD i 0)) := by
  subst hn
  intro i hi
  match i, hi with
  | 0, _ => simp
  | 1, _ => simp
  | 2, _ => simp
end Go.Proofs.YtnoijfnpchihoabDoor
namespace Go.Proofs.YtnoijfnpchihoabDoor
open Go.RowKit M

set_option maxHeartbeats 400000 in
theorem l1In_any (x a b : Int) (w : World) :
    Calls Tryd.prog 58 #[.int .i64 x, .int .i64 a, .int .i64 b] w fun e w' => e = .returned (.bool (inB x a b)) ∧ w' = w := by
  go_enter Tryd.func58, Tryd.ntmps58
  go_wp2
  all_goals
    go_ret
    refine ⟨ret_bool ?_, rfl⟩
    go_light
    unfold inB
    simp_all
    try omega

theorem wrap64_u8 (c : UInt8) : wrap64 (c.toNat : Int) = c.toNat := by
  have := c.toNat_lt
  unfold wrap64
  omega
end Go.Proofs.YtnoijfnpchihoabDoor
namespace Go.Proofs.YtnoijfnpchihoabDoor
open Go.RowKit M

set_option maxHeartbeats 400000 in
theorem specPlain_any (s : ByteArray) (w : World) (hs : s.size ≤ maxLen) :
    Calls Tryd.prog 92 #[.string s] w fun e w' => e = .returned (.bool (allB s.data.toList [0])) ∧ w' = w := by
  unfold maxLen at hs
  go_enter Tryd.func92, Tryd.ntmps92
  go_wp2
  go_loop [3] (fun i => ∃ k : Nat, k ≤ s.size ∧ i = .int .i64 k ∧ allB (s.data.toList.take k) [0] = true) (fun i => s.size - (intOf i).toNat)
  case atStart => exact ⟨0, Nat.zero_le _, rfl, rfl⟩
  case round =>
    obtain ⟨k, hk, rfl, hn⟩ := hrel
    have HN : Hid (allB (s.data.toList.take k) [0] = true) := hn; clear hn
    by_cases hlt : k < s.size
    · go_wp2_with (go_at_call 58; refine (l1In_any _ _ _ _).mono ?_; rintro e w' ⟨rfl, rfl⟩; rw [wrap64_u8, inB_plain])
      · go_ret
        exact ⟨ret_bool (by rw [allB_not s [0] k hlt (by assumption)]), rfl⟩
      · go_round
        case rel => exact ⟨k + 1, by omega, by go_num, allB_snoc s [0] k hlt HN.out (by assumption)⟩
        case measure => simp [intOf]; omega
    · go_wp2
      go_ret
      exact ⟨ret_bool (by rw [← HN.out, take_all s k hlt]), rfl⟩

end Go.Proofs.YtnoijfnpchihoabDoor
namespace Go.Proofs.YtnoijfnpchihoabDoor
open Go.RowKit M

def strLen : Value → Nat | .string t => t.size | _ => 0

set_option maxHeartbeats 400000 in
theorem l1Blank_any (c : UInt8) (w : World) :
    Calls Tryd.prog 102 #[.int .u8 c.toNat] w fun e w' => e = .returned (.bool (bl c)) ∧ w' = w := by
  go_enter Tryd.func102, Tryd.ntmps102
  go_wp2
  all_goals
    go_ret
    refine ⟨ret_bool ?_, rfl⟩
    go_light
    unfold bl isB
    simp_all

set_option maxHeartbeats 1000000 in
theorem specTrim_any (s : ByteArray) (w : World) (hs : s.size ≤ maxLen) :
    Calls Tryd.prog 93 #[.string s] w fun e w' => (∃ t : ByteArray, e = .returned (.string t) ∧ t.data.toList = trimL s.data.toList) ∧ w' = w := by
  unfold maxLen at hs
  go_enter Tryd.func93, Tryd.ntmps93
  go_wp2
  go_loop [0] (fun v => ∃ t : ByteArray, v = .string t ∧ t.size ≤ s.size ∧ trimL t.data.toList = trimL s.data.toList) (fun v => strLen v)
  case atStart => exact ⟨s, rfl, Nat.le_refl _, rfl⟩
  case round =>
    obtain ⟨t, rfl, ht, hn⟩ := hrel
    have HN : Hid (trimL t.data.toList = trimL s.data.toList) := hn; clear hn
    by_cases h0 : 0 < t.size
    · cases hb : bl t[0]
      · go_wp2_with (go_at_call 102; refine (l1Blank_any _ _).mono ?_; rintro e w' ⟨rfl, rfl⟩; rw [hb])
        go_loop [0] (fun v => ∃ u : ByteArray, v = .string u ∧ u.size ≤ s.size ∧ trimL u.data.toList = trimL s.data.toList ∧ ∀ h : 0 < u.size, bl u[0] = false) (fun v => strLen v)
        case atStart => exact ⟨t, rfl, ht, HN.out, fun _ => hb⟩
        case round =>
          clear hb
          obtain ⟨u, rfl, hu, hn, hf⟩ := hrel
          have HU : Hid (trimL u.data.toList = trimL s.data.toList) := hn; clear hn
          have HF : Hid (∀ h : 0 < u.size, bl u[0] = false) := hf; clear hf
          by_cases h1 : 0 < u.size
          · cases hb1 : bl u[u.size - 1]
            · go_wp2_with (go_at_call 102; refine (l1Blank_any _ _).mono ?_; rintro e w' ⟨rfl, rfl⟩; rw [hb1])
              go_ret
              exact ⟨⟨u, rfl, step_done u _ h1 (HF.out h1) hb1 HU.out⟩, rfl⟩
            · go_wp2_with (go_at_call 102; refine (l1Blank_any _ _).mono ?_; rintro e w' ⟨rfl, rfl⟩; rw [hb1])
              go_round
              case rel => exact ⟨_, rfl, by rw [size_extract _ _ _ (by omega)]; omega, step_back u _ h1 hb1 HU.out, step_back_head u h1 (HF.out h1)⟩
              case measure => simp only [strLen]; rw [size_extract _ _ _ (by omega)]; omega
          · go_wp2
            go_ret
            exact ⟨⟨u, rfl, step_none u _ h1 HU.out⟩, rfl⟩
      · go_wp2_with (go_at_call 102; refine (l1Blank_any _ _).mono ?_; rintro e w' ⟨rfl, rfl⟩; rw [hb])
        go_round
        case rel => exact ⟨_, rfl, by rw [size_extract _ _ _ (Nat.le_refl _)]; omega, step_front t _ h0 hb HN.out⟩
        case measure => simp only [strLen]; rw [size_extract _ _ _ (Nat.le_refl _)]; omega
    · go_wp2
      go_loop [0] (fun v => v = .string t) (fun v => strLen v)
      case atStart => rfl
      case round =>
        subst hrel
        go_wp2
        go_ret
        exact ⟨⟨t, rfl, step_none t _ h0 HN.out⟩, rfl⟩
end Go.Proofs.YtnoijfnpchihoabDoor
namespace Go.Proofs.YtnoijfnpchihoabDoor
open Go.RowKit M
set_option linter.unusedVariables false

theorem trim_same {t s : ByteArray} (h : t.data.toList = trimL s.data.toList) : (t.toList == s.toList) = decide (trimL s.data.toList = s.data.toList) := by
  rw [ByteArray.toList_eq, ByteArray.toList_eq, h]
  by_cases e : trimL s.data.toList = s.data.toList
  · simp [e]
  · simp [e]

set_option maxHeartbeats 400000 in
theorem l3Val_any (s : ByteArray) (w : World) (hs : s.size ≤ maxLen) :
    Calls Tryd.prog 78 #[.string s] w fun e w' => e = .returned (.bool (valB s)) ∧ w' = w := by
  have hs' := hs
  unfold maxLen at hs'
  by_cases h1 : s.size ≤ 60
  · have h1' : (s.size : Int) ≤ 60 := by omega
    cases h2 : allB s.data.toList [0]
    · have HE : Hid (valB s = false) := by show valB s = false; simp [valB, h2]
      go_enter Tryd.func78, Tryd.ntmps78
      go_wp2_with (go_at_call 92; refine (specPlain_any s _ hs).mono ?_; rintro e w' ⟨rfl, rfl⟩; rw [h2])
      go_ret
      exact ⟨ret_bool HE.out.symm, rfl⟩
    · have HE : Hid (valB s = decide (trimL s.data.toList = s.data.toList)) := by show valB s = _; simp [valB, h2, h1]
      go_enter Tryd.func78, Tryd.ntmps78
      go_wp2_with (first | (go_at_call 92; refine (specPlain_any s _ hs).mono ?_; rintro e w' ⟨rfl, rfl⟩; rw [h2]) | (go_at_call 93; refine (specTrim_any s _ hs).mono ?_; rintro e w' ⟨⟨t, rfl, ht⟩, rfl⟩; have HT := hide ht; clear ht))
      go_ret
      exact ⟨ret_bool (by rw [HE.out, ← trim_same HT.out]), rfl⟩
  · have h1' : ¬ (s.size : Int) ≤ 60 := by omega
    have HE : Hid (valB s = false) := by show valB s = false; simp [valB, h1]
    go_enter Tryd.func78, Tryd.ntmps78
    go_wp2
    go_ret
    exact ⟨ret_bool HE.out.symm, rfl⟩
end Go.Proofs.YtnoijfnpchihoabDoor
