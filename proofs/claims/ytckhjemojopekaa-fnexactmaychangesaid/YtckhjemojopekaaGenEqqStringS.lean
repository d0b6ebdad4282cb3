/-
  A help of the laws, by program (tools/gen_help.py): Eqq of String.
-/
import Derived.Test.YtckhjemojopekaaRows
import Derived.Test.YtckhjemojopekaaMathSmall
import Derived.WalkKit
import Derived.WalkSpells
import Derived.WalkLawsBesides
import Derived.Deep.Light
import Derived.Deep.QuietTactic
import Derived.Deep.RegionHeld3
namespace Go.Proofs.Ytckhjemojopekaa
open Go.RowKit M
set_option linter.unusedVariables false

set_option maxRecDepth 100000 in
set_option maxHeartbeats 4000000 in
theorem eqStringS_gen (l : List ByteArray) (v v' : Value) (B B' : Nat) (w : World) (h : View w B v (.l (l.map dS))) (h' : View w B' v' (.l (l.map dS))) (hB : B ≤ w.heap.size) (hB' : B' ≤ w.heap.size) :
    Calls Try.prog 41 #[v, v'] w fun e w' => e = .returned (.bool true) ∧ Below w.heap.size w w' := by
  obtain ⟨a, cap, rfl, hl, hm, _, hat⟩ := h.rows 1 (fun _ => rfl)
  obtain ⟨a', cap', rfl, hl', hm', _, hat'⟩ := h'.rows 1 (fun _ => rfl)
  have hn : l.length ≤ maxLen := Nat.le_trans hl hm
  unfold maxLen at hn
  have HAT := hide hat
  have HAT' := hide hat'
  clear h h' hat hat' hl hl' hm hm'
  go_enter Try.func41, Try.ntmps41
  go_wp2
  go_loopw [5] (fun i wr => ∃ k : Nat, k ≤ l.length ∧ i = .int .i64 k ∧ Below w.heap.size w wr) (fun i _ => l.length - (intOf i).toNat)
  case atStart => exact ⟨0, Nat.zero_le _, rfl, Below.refl _ _⟩
  case round =>
    obtain ⟨k, hk, rfl, hbe⟩ := hrel
    by_cases hlt : k < l.length
    · obtain ⟨b, o, C, rfl, hb, hc⟩ := HAT.out (by omega)
      obtain ⟨b', o', C', rfl, hb', hc'⟩ := HAT'.out (by omega)
      have hck := hc k hlt
      have hck' := hc' k hlt
      have hbw : b < w.heap.size := Nat.lt_of_lt_of_le hb hB
      have hbw' : b' < w.heap.size := Nat.lt_of_lt_of_le hb' hB'
      have hi0 : (0 : Int) ≤ (k : Int) := by omega
      have hi1 : (k : Int) < (l.length : Int) := by omega
      obtain ⟨x, hx⟩ : ∃ x, l[k] = x := ⟨_, rfl⟩
      rw [hx] at hck hck'
      clear hx hc hc'
      have c0 : wr.cell? ⟨b, o + k, none⟩ = some (.string x) := by
        obtain ⟨c, v⟩ := hck 0 (.c (.string x)) rfl
        rw [v.inv] at c
        simp only [Nat.mul_one, Nat.add_zero] at c
        exact (hbe.cell (p := ⟨b, o + k, none⟩) hbw).trans c
      have c0' : wr.cell? ⟨b', o' + k, none⟩ = some (.string x) := by
        obtain ⟨c, v⟩ := hck' 0 (.c (.string x)) rfl
        rw [v.inv] at c
        simp only [Nat.mul_one, Nat.add_zero] at c
        exact (hbe.cell (p := ⟨b', o' + k, none⟩) hbw').trans c
      clear hck hck'
      go_wp2
      go_quiet (fail)
      go_wp2
      go_roundw
      case rel => exact ⟨k + 1, by omega, by go_num, below_drewN hbe _⟩
      case measure => simp [intOf]; omega
    · go_wp2
      go_ret
      exact ⟨rfl, hbe⟩
end Go.Proofs.Ytckhjemojopekaa
