/-
  What the specification's Lower does.
-/
import Derived.Test.YtkhnkockdfmkgaaGreatDoorOwnBytes
import Derived.Test.YtkhnkockdfmkgaaGreatDoorIn
import Derived.Test.YtkhnkockdfmkgaaGreatDoorLarge
namespace Go.Proofs.YtkhnkockdfmkgaaGreatDoor
open Go.RowKit M

set_option maxHeartbeats 1000000 in
theorem specLower_any (s : ByteArray) (w : World) (hs : s.size ≤ 140737488355328) :
    Calls Tryz.prog 121 #[.string s] w fun e w' => e = .returned (.string ⟨(lowL s.data.toList).toArray⟩) ∧ Below w.heap.size w w' := by
  go_enter Tryz.func121, Tryz.ntmps121
  go_wp2
  go_loopw [3, 4] (fun v i wr => ∃ k : Nat, k ≤ s.size ∧ i = .int .i64 k ∧ wr.ownsRow w.heap.size 5 1 v k (Lib.byteCells (lowL (s.data.toList.take k))) ∧ Below w.heap.size w wr) (fun _ i _ => s.size - (intOf i).toNat)
  case atStart => exact ⟨0, Nat.zero_le _, rfl, World.ownsRow_made w #[] 0 (Nat.le_refl _) (by decide) rfl, (Below.refl _ _).alloc (Nat.le_refl _) _⟩
  case round =>
    obtain ⟨k, hk, rfl, hown, hbe⟩ := hrel
    by_cases hlt : k < s.size
    · have HL : Hid (lowL (s.data.toList.take (k + 1)) = lowL (s.data.toList.take k) ++ [lowB s[k]]) := lowL_snoc s k hlt
      cases hb : isB ((s[k]).toNat : Int) 3
      · go_wp2_with (first | (go_at_call 143; refine (l1Large_any _ _).mono ?_; rintro e w' ⟨rfl, rfl⟩; rw [hb]) | (at_builtin; refine wp_append_byte rfl _ _ rfl w.heap.size _ k _ rfl (hown.alloc _) _ (lowB s[k]) rfl ?c1 ?c2 ?c3 ?_))
        case c1 => rw [lowB_no _ hb]; simp
        case c2 => omega
        case c3 => have := hbe.size; simp; omega
        intro v1 w1 ho1 hb1
        rw [← HL.out] at ho1
        go_wp2
        go_roundw
        case rel => exact ⟨k + 1, by omega, by go_num, ho1, (hbe.alloc hbe.size _).trans hb1⟩
        case measure => simp [intOf]; omega
      · have hc := isB3 hb
        go_wp2_with (first | (go_at_call 143; refine (l1Large_any _ _).mono ?_; rintro e w' ⟨rfl, rfl⟩; rw [hb]) | (at_builtin; refine wp_append_byte rfl _ _ rfl w.heap.size _ k _ rfl (hown.alloc _) _ (lowB s[k]) rfl ?c1 ?c2 ?c3 ?_))
        case c1 => rw [lowB_yes _ hb]; simp
        case c2 => omega
        case c3 => have := hbe.size; simp; omega
        intro v1 w1 ho1 hb1
        rw [← HL.out] at ho1
        go_wp2
        go_roundw
        case rel => exact ⟨k + 1, by omega, by go_num, ho1, (hbe.alloc hbe.size _).trans hb1⟩
        case measure => simp [intOf]; omega
    · have hcv := conv_own hown
      go_wp2
      go_ret
      exact ⟨ret_str (by rw [take_all s k hlt]), hbe⟩
end Go.Proofs.YtkhnkockdfmkgaaGreatDoor
