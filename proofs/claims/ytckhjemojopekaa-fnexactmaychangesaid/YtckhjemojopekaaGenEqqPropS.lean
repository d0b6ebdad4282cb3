/-
  A help of the laws, by program (tools/gen_help.py): Eqq of Prop.
-/
import Derived.Test.YtckhjemojopekaaRows
import Derived.Test.YtckhjemojopekaaMathSmall
import Derived.Test.YtckhjemojopekaaGenProp
import Derived.Test.YtckhjemojopekaaGenEq1Prop
import Derived.WalkKit
import Derived.WalkSpells
import Derived.WalkLawsBesides
import Derived.Deep.Light
import Derived.Deep.QuietTactic
import Derived.Deep.RegionHeld3
namespace Go.Proofs.Ytckhjemojopekaa
open Go.RowKit M
set_option linter.unusedVariables false

set_option maxRecDepth 100000 in
set_option maxHeartbeats 4000000 in
theorem eqPropS_gen (l : List Pp) (v v' : Value) (B B' : Nat) (w : World) (h : View w B v (.l (l.map dPp))) (h' : View w B' v' (.l (l.map dPp))) (hB : B ≤ w.heap.size) (hB' : B' ≤ w.heap.size) :
    Calls Try.prog 86 #[v, v'] w fun e w' => e = .returned (.bool true) ∧ Below w.heap.size w w' := by
  obtain ⟨a, cap, rfl, hl, hm, _, hat⟩ := h.rows 3 (fun _ => rfl)
  obtain ⟨a', cap', rfl, hl', hm', _, hat'⟩ := h'.rows 3 (fun _ => rfl)
  have hn : l.length ≤ maxLen := Nat.le_trans hl hm
  unfold maxLen at hn
  have HAT := hide hat
  have HAT' := hide hat'
  clear h h' hat hat' hl hl' hm hm'
  go_enter Try.func86, Try.ntmps86
  go_wp2
  go_loopw [5] (fun i wr => ∃ k : Nat, k ≤ l.length ∧ i = .int .i64 k ∧ Below w.heap.size w wr) (fun i _ => l.length - (intOf i).toNat)
  case atStart => exact ⟨0, Nat.zero_le _, rfl, Below.refl _ _⟩
  case round =>
    obtain ⟨k, hk, rfl, hbe⟩ := hrel
    by_cases hlt : k < l.length
    · obtain ⟨b, o, C, rfl, hb, hc⟩ := HAT.out (by omega)
      obtain ⟨b', o', C', rfl, hb', hc'⟩ := HAT'.out (by omega)
      have hck := hc k hlt
      have hck' := hc' k hlt
      have hbw : b < w.heap.size := Nat.lt_of_lt_of_le hb hB
      have hbw' : b' < w.heap.size := Nat.lt_of_lt_of_le hb' hB'
      have hi0 : (0 : Int) ≤ (k : Int) := by omega
      have hi1 : (k : Int) < (l.length : Int) := by omega
      obtain ⟨x, hx⟩ : ∃ x, l[k] = x := ⟨_, rfl⟩
      rw [hx] at hck hck'
      clear hx hc hc'
      have c0 : wr.cell? ⟨b, o + k * 3, none⟩ = some (.string x.1) := by
        obtain ⟨c, v⟩ := hck 0 (.c (.string x.1)) rfl
        rw [v.inv] at c
        simp only [Nat.add_zero] at c
        exact (hbe.cell (p := ⟨b, o + k * 3, none⟩) hbw).trans c
      have c1 : wr.cell? ⟨b, o + k * 3 + 1, none⟩ = some (.string x.2.1) := by
        obtain ⟨c, v⟩ := hck 1 (.c (.string x.2.1)) rfl
        rw [v.inv] at c
        exact (hbe.cell (p := ⟨b, o + k * 3 + 1, none⟩) hbw).trans c
      have c2 : wr.cell? ⟨b, o + k * 3 + 2, none⟩ = some (.string x.2.2) := by
        obtain ⟨c, v⟩ := hck 2 (.c (.string x.2.2)) rfl
        rw [v.inv] at c
        exact (hbe.cell (p := ⟨b, o + k * 3 + 2, none⟩) hbw).trans c
      have c0' : wr.cell? ⟨b', o' + k * 3, none⟩ = some (.string x.1) := by
        obtain ⟨c, v⟩ := hck' 0 (.c (.string x.1)) rfl
        rw [v.inv] at c
        simp only [Nat.add_zero] at c
        exact (hbe.cell (p := ⟨b', o' + k * 3, none⟩) hbw').trans c
      have c1' : wr.cell? ⟨b', o' + k * 3 + 1, none⟩ = some (.string x.2.1) := by
        obtain ⟨c, v⟩ := hck' 1 (.c (.string x.2.1)) rfl
        rw [v.inv] at c
        exact (hbe.cell (p := ⟨b', o' + k * 3 + 1, none⟩) hbw').trans c
      have c2' : wr.cell? ⟨b', o' + k * 3 + 2, none⟩ = some (.string x.2.2) := by
        obtain ⟨c, v⟩ := hck' 2 (.c (.string x.2.2)) rfl
        rw [v.inv] at c
        exact (hbe.cell (p := ⟨b', o' + k * 3 + 2, none⟩) hbw').trans c
      clear hck hck'
      have hbd : Below w.heap.size w wr.drew := below_drewG hbe
      have hq := hide (eqProp_gen x B B' wr.drew (Nat.le_trans hB hbd.size) (Nat.le_trans hB' hbd.size))
      have HX := hide (show wr.drew.cell? ⟨b, o + k * 3, none⟩ = some (.string x.1) ∧ wr.drew.cell? ⟨b, o + k * 3 + 1, none⟩ = some (.string x.2.1) ∧ wr.drew.cell? ⟨b, o + k * 3 + 2, none⟩ = some (.string x.2.2) ∧ wr.drew.cell? ⟨b', o' + k * 3, none⟩ = some (.string x.1) ∧ wr.drew.cell? ⟨b', o' + k * 3 + 1, none⟩ = some (.string x.2.1) ∧ wr.drew.cell? ⟨b', o' + k * 3 + 2, none⟩ = some (.string x.2.2) from ⟨c0, c1, c2, c0', c1', c2'⟩)
      have hz1 : b < wr.heap.size := Nat.lt_of_lt_of_le hbw hbe.size
      have hz2 : b' < wr.heap.size := Nat.lt_of_lt_of_le hbw' hbe.size
      go_wp2
      go_region_held3 (fun W => W.cell? ⟨b, o + k * 3, none⟩ = some (.string x.1) ∧ W.cell? ⟨b, o + k * 3 + 1, none⟩ = some (.string x.2.1) ∧ W.cell? ⟨b, o + k * 3 + 2, none⟩ = some (.string x.2.2) ∧ W.cell? ⟨b', o' + k * 3, none⟩ = some (.string x.1) ∧ W.cell? ⟨b', o' + k * 3 + 1, none⟩ = some (.string x.2.1) ∧ W.cell? ⟨b', o' + k * 3 + 2, none⟩ = some (.string x.2.2)) (first | exact HX.out | exact HX2.out) ((go_at_call 93; refine hq.out.mono ?_; rintro e w1 ⟨rfl, hb3⟩; have HX2 := hide (show w1.cell? ⟨b, o + k * 3, none⟩ = some (.string x.1) ∧ w1.cell? ⟨b, o + k * 3 + 1, none⟩ = some (.string x.2.1) ∧ w1.cell? ⟨b, o + k * 3 + 2, none⟩ = some (.string x.2.2) ∧ w1.cell? ⟨b', o' + k * 3, none⟩ = some (.string x.1) ∧ w1.cell? ⟨b', o' + k * 3 + 1, none⟩ = some (.string x.2.1) ∧ w1.cell? ⟨b', o' + k * 3 + 2, none⟩ = some (.string x.2.2) from ⟨(hb3.cell (p := ⟨b, o + k * 3, none⟩) hz1).trans c0, (hb3.cell (p := ⟨b, o + k * 3 + 1, none⟩) hz1).trans c1, (hb3.cell (p := ⟨b, o + k * 3 + 2, none⟩) hz1).trans c2, (hb3.cell (p := ⟨b', o' + k * 3, none⟩) hz2).trans c0', (hb3.cell (p := ⟨b', o' + k * 3 + 1, none⟩) hz2).trans c1', (hb3.cell (p := ⟨b', o' + k * 3 + 2, none⟩) hz2).trans c2'⟩)))
      all_goals
        have c9 := hbd.trans (hb3.mono hbd.size)
        clear hq hb3 HX HX2
        go_wp2
        go_roundw
        case rel => exact ⟨k + 1, by omega, by go_num, c9⟩
        case measure => simp [intOf]; omega
    · go_wp2
      go_ret
      exact ⟨rfl, hbe⟩
end Go.Proofs.Ytckhjemojopekaa
