/-
  Two answers that are the same.
  What the specification's l1In does; a byte as an int.
  What the specification's l7At does.
-/
import Derived.Test.YtmgikfeknmbpbaaGreatDoorRows
import Derived.WalkKit
import Derived.Test.YtmgikfeknmbpbaaGreatDoorMathNum
import Derived.WalkSpells
import Derived.WalkLawsBesides
import Derived.Deep.Light
import Derived.Test.YtmgikfeknmbpbaaGreatDoorMathPieces2
import Derived.Test.YtmgikfeknmbpbaaGreatDoorIsU8
namespace Go.Proofs.YtmgikfeknmbpbaaGreatDoor

theorem ret_bool {a b : Bool} (h : a = b) : Ending.returned (.bool a) = .returned (.bool b) := by rw [h]
end Go.Proofs.YtmgikfeknmbpbaaGreatDoor
namespace Go.Proofs.YtmgikfeknmbpbaaGreatDoor
open Go.RowKit M

set_option maxHeartbeats 400000 in
theorem l1In_any (x a b : Int) (w : World) :
    Calls Tryz.prog 89 #[.int .i64 x, .int .i64 a, .int .i64 b] w fun e w' => e = .returned (.bool (inB x a b)) ∧ w' = w := by
  go_enter Tryz.func89, Tryz.ntmps89
  go_wp2
  all_goals
    go_ret
    refine ⟨ret_bool ?_, rfl⟩
    go_light
    unfold inB
    simp_all
    try omega

theorem wrap64_u8 (c : UInt8) : wrap64 (c.toNat : Int) = c.toNat := by
  have := c.toNat_lt
  unfold wrap64
  omega
end Go.Proofs.YtmgikfeknmbpbaaGreatDoor
namespace Go.Proofs.YtmgikfeknmbpbaaGreatDoor
open Go.RowKit M
set_option linter.unusedVariables false

theorem eqL3 (s : ByteArray) (l : List UInt8) : (s.toList == l) = decide (s.data.toList = l) := by
  rw [ByteArray.toList_eq, Bool.eq_iff_iff]; simp
theorem isPre_take (p l : List UInt8) : p.isPrefixOf l = decide (l.take p.length = p) := by
  rw [Bool.eq_iff_iff]
  simp only [List.isPrefixOf_iff_prefix, decide_eq_true_eq]
  constructor
  · rintro ⟨t, rfl⟩; simp
  · intro h
    refine ⟨l.drop p.length, ?_⟩
    have h2 := List.take_append_drop p.length l
    rw [h] at h2
    exact h2

set_option maxHeartbeats 1000000 in
theorem l7At_no (s t : ByteArray) (a : Nat) (w : World) (ha : a ≤ s.size) (hs : s.size ≤ 1099511627776) (ht : t.size ≤ 100) (h : ¬ a + t.size ≤ s.size) :
    Calls Tryz.prog 54 #[.string s, .int .i64 a, .string t] w fun e w' => e = .returned (.bool false) ∧ w' = w := by
  have h' : ¬ (a : Int) + t.size ≤ s.size := by omega
  go_enter Tryz.func54, Tryz.ntmps54
  go_wp2
  go_ret
  exact ⟨rfl, rfl⟩
set_option maxHeartbeats 1000000 in
theorem l7At_yes (s t : ByteArray) (a : Nat) (w : World) (ha : a ≤ s.size) (hs : s.size ≤ 1099511627776) (ht : t.size ≤ 100) (h : a + t.size ≤ s.size) :
    Calls Tryz.prog 54 #[.string s, .int .i64 a, .string t] w fun e w' => e = .returned (.bool (t.data.toList.isPrefixOf (s.data.toList.drop a))) ∧ w' = w := by
  have h' : (a : Int) + t.size ≤ s.size := by omega
  go_enter Tryz.func54, Tryz.ntmps54
  go_wp2
  go_ret
  refine ⟨ret_bool ?_, rfl⟩
  have e : t.data.toList.length = t.size := Array.length_toList
  rw [eqL3, isPre_take, extract_list, ByteArray.toList_eq, e, show a + t.size - a = t.size by omega]

theorem l7At_any (s t : ByteArray) (p : List UInt8) (hp : t.data.toList = p) (a : Nat) (w : World) (ha : a ≤ s.size) (hs : s.size ≤ 1099511627776) (ht : t.size ≤ 100) :
    Calls Tryz.prog 54 #[.string s, .int .i64 a, .string t] w fun e w' => e = .returned (.bool (p.isPrefixOf (s.data.toList.drop a))) ∧ w' = w := by
  subst hp
  by_cases h : a + t.size ≤ s.size
  · exact l7At_yes s t a w ha hs ht h
  · have e1 : t.data.toList.length = t.size := Array.length_toList
    have e2 : s.data.toList.length = s.size := Array.length_toList
    have : t.data.toList.isPrefixOf (s.data.toList.drop a) = false := by
      rw [isPre_take, decide_eq_false]
      intro e
      have := congrArg List.length e
      rw [List.length_take, List.length_drop] at this
      omega
    rw [this]
    exact l7At_no s t a w ha hs ht h
end Go.Proofs.YtmgikfeknmbpbaaGreatDoor
