/-
  What the laws' own help does that marks numbers.
-/
import Derived.Test.YthicgbocgdijlaaDoorLawInts
import Derived.Test.YthicgbocgdijlaaDoorMarkHeads
namespace Go.Proofs.YthicgbocgdijlaaDoor
open Go.RowKit
set_option linter.unusedVariables false

theorem NewI.row {w : World} {N : Nat} {l : List Int} (h : NewI w N l) : RowC w N l.length :=
  ⟨World.rowIs.lt h, fun j hj => ⟨⟨_, World.rowIs.cell h hj⟩, World.rowIs.frozen h j⟩⟩

set_option maxHeartbeats 1000000 in
theorem markIntS_any (g n cap : Nat) (w : World) (h : RowC w g n) (hn : n ≤ 1073741824) (k : Nat) (hk : k ≤ 1073741824) :
    Calls Tryd.prog 15 #[.slice (some ⟨g, 0, none⟩) n cap, .int .i64 k] w fun e w' => e = .returned (.int .i64 ((k + n : Nat) : Int)) ∧ w.grownBy w' (some g) := by
  go_enter Tryd.func15, Tryd.ntmps15
  go_wp2
  go_loopw [1, 5] (fun kv i wr => ∃ j : Nat, j ≤ n ∧ i = .int .i64 j ∧ kv = .int .i64 ((k : Int) + j) ∧ RowC wr g n ∧ w.grownBy wr (some g)) (fun _ i _ => n - (intOf i).toNat)
  case atStart => exact ⟨0, Nat.zero_le _, rfl, by simp, h, grownG_refl _ _⟩
  case round =>
    obtain ⟨j, hj, rfl, rfl, hrow, hg⟩ := hrel
    by_cases hlt : j < n
    · obtain ⟨⟨u0, k0⟩, f0⟩ := hrow.2 j hlt
      have HR := hide (hrow.set j (.int .i64 ((k : Int) + j)))
      have HG := hide (grownG_set hg j (.int .i64 ((k : Int) + j)))
      clear hrow hg
      go_wp2
      go_roundw
      case rel => exact ⟨j + 1, by omega, by go_num, by go_num, HR.out, HG.out⟩
      case measure => simp [intOf]; omega
    · go_wp2
      go_ret
      have hjn : j = n := by omega
      subst hjn
      exact ⟨by simp, hg⟩
end Go.Proofs.YthicgbocgdijlaaDoor
