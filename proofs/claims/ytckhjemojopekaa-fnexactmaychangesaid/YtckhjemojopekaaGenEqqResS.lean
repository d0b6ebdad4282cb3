/-
  A help of the laws, by program (tools/gen_help.py): Eqq of Res.
-/
import Derived.Test.YtckhjemojopekaaRows
import Derived.Test.YtckhjemojopekaaMathSmall
import Derived.Test.YtckhjemojopekaaGenAsk
import Derived.Test.YtckhjemojopekaaGenEq1Res
import Derived.WalkKit
import Derived.WalkSpells
import Derived.WalkLawsBesides
import Derived.Deep.Light
import Derived.Deep.QuietTactic
import Derived.Deep.RegionHeld3
namespace Go.Proofs.Ytckhjemojopekaa
open Go.RowKit M
set_option linter.unusedVariables false

set_option maxRecDepth 100000 in
set_option maxHeartbeats 4000000 in
theorem eqResS_gen (l : List Rs) (v v' : Value) (B B' : Nat) (w : World) (h : View w B v (.l (l.map dRs))) (h' : View w B' v' (.l (l.map dRs))) (hB : B ≤ w.heap.size) (hB' : B' ≤ w.heap.size) :
    Calls Try.prog 38 #[v, v'] w fun e w' => e = .returned (.bool true) ∧ Below w.heap.size w w' := by
  obtain ⟨a, cap, rfl, hl, hm, _, hat⟩ := h.rows 5 (fun _ => rfl)
  obtain ⟨a', cap', rfl, hl', hm', _, hat'⟩ := h'.rows 5 (fun _ => rfl)
  have hn : l.length ≤ maxLen := Nat.le_trans hl hm
  unfold maxLen at hn
  have HAT := hide hat
  have HAT' := hide hat'
  clear h h' hat hat' hl hl' hm hm'
  go_enter Try.func38, Try.ntmps38
  go_wp2
  go_loopw [5] (fun i wr => ∃ k : Nat, k ≤ l.length ∧ i = .int .i64 k ∧ Below w.heap.size w wr) (fun i _ => l.length - (intOf i).toNat)
  case atStart => exact ⟨0, Nat.zero_le _, rfl, Below.refl _ _⟩
  case round =>
    obtain ⟨k, hk, rfl, hbe⟩ := hrel
    by_cases hlt : k < l.length
    · obtain ⟨b, o, C, rfl, hb, hc⟩ := HAT.out (by omega)
      obtain ⟨b', o', C', rfl, hb', hc'⟩ := HAT'.out (by omega)
      have hck := hc k hlt
      have hck' := hc' k hlt
      have hbw : b < w.heap.size := Nat.lt_of_lt_of_le hb hB
      have hbw' : b' < w.heap.size := Nat.lt_of_lt_of_le hb' hB'
      have hi0 : (0 : Int) ≤ (k : Int) := by omega
      have hi1 : (k : Int) < (l.length : Int) := by omega
      obtain ⟨x, hx⟩ : ∃ x, l[k] = x := ⟨_, rfl⟩
      rw [hx] at hck hck'
      clear hx hc hc'
      obtain ⟨c0, v0⟩ := hck 0 (.l (x.pa.map dS)) rfl
      simp only [Nat.add_zero] at c0
      have c0 := (hbe.cell (p := ⟨b, o + k * 5, none⟩) hbw).trans c0
      have c1 : wr.cell? ⟨b, o + k * 5 + 1, none⟩ = some (.bool x.co) := by
        obtain ⟨c, v⟩ := hck 1 (.c (.bool x.co)) rfl
        rw [v.inv] at c
        exact (hbe.cell (p := ⟨b, o + k * 5 + 1, none⟩) hbw).trans c
      have c2 : wr.cell? ⟨b, o + k * 5 + 2, none⟩ = some (.string x.bo) := by
        obtain ⟨c, v⟩ := hck 2 (.c (.string x.bo)) rfl
        rw [v.inv] at c
        exact (hbe.cell (p := ⟨b, o + k * 5 + 2, none⟩) hbw).trans c
      have c3 : wr.cell? ⟨b, o + k * 5 + 3, none⟩ = some (.int .i64 x.ve) := by
        obtain ⟨c, v⟩ := hck 3 (.c (.int .i64 x.ve)) rfl
        rw [v.inv] at c
        exact (hbe.cell (p := ⟨b, o + k * 5 + 3, none⟩) hbw).trans c
      obtain ⟨c4, v4⟩ := hck 4 (.l (x.ps.map dPp)) rfl
      have c4 := (hbe.cell (p := ⟨b, o + k * 5 + 4, none⟩) hbw).trans c4
      obtain ⟨c0', v0'⟩ := hck' 0 (.l (x.pa.map dS)) rfl
      simp only [Nat.add_zero] at c0'
      have c0' := (hbe.cell (p := ⟨b', o' + k * 5, none⟩) hbw').trans c0'
      have c1' : wr.cell? ⟨b', o' + k * 5 + 1, none⟩ = some (.bool x.co) := by
        obtain ⟨c, v⟩ := hck' 1 (.c (.bool x.co)) rfl
        rw [v.inv] at c
        exact (hbe.cell (p := ⟨b', o' + k * 5 + 1, none⟩) hbw').trans c
      have c2' : wr.cell? ⟨b', o' + k * 5 + 2, none⟩ = some (.string x.bo) := by
        obtain ⟨c, v⟩ := hck' 2 (.c (.string x.bo)) rfl
        rw [v.inv] at c
        exact (hbe.cell (p := ⟨b', o' + k * 5 + 2, none⟩) hbw').trans c
      have c3' : wr.cell? ⟨b', o' + k * 5 + 3, none⟩ = some (.int .i64 x.ve) := by
        obtain ⟨c, v⟩ := hck' 3 (.c (.int .i64 x.ve)) rfl
        rw [v.inv] at c
        exact (hbe.cell (p := ⟨b', o' + k * 5 + 3, none⟩) hbw').trans c
      obtain ⟨c4', v4'⟩ := hck' 4 (.l (x.ps.map dPp)) rfl
      have c4' := (hbe.cell (p := ⟨b', o' + k * 5 + 4, none⟩) hbw').trans c4'
      clear hck hck'
      have hbd : Below w.heap.size w wr.drew := below_drewG hbe
      have hq := hide (eqRes_gen x (C k 0) (C' k 0) (C k 4) (C' k 4) B B' wr.drew (v0.stays hbd hB) (v0'.stays hbd hB') (v4.stays hbd hB) (v4'.stays hbd hB') (Nat.le_trans hB hbd.size) (Nat.le_trans hB' hbd.size))
      clear v0 v0' v4 v4'
      have HX := hide (show wr.drew.cell? ⟨b, o + k * 5, none⟩ = some (C k 0) ∧ wr.drew.cell? ⟨b, o + k * 5 + 1, none⟩ = some (.bool x.co) ∧ wr.drew.cell? ⟨b, o + k * 5 + 2, none⟩ = some (.string x.bo) ∧ wr.drew.cell? ⟨b, o + k * 5 + 3, none⟩ = some (.int .i64 x.ve) ∧ wr.drew.cell? ⟨b, o + k * 5 + 4, none⟩ = some (C k 4) ∧ wr.drew.cell? ⟨b', o' + k * 5, none⟩ = some (C' k 0) ∧ wr.drew.cell? ⟨b', o' + k * 5 + 1, none⟩ = some (.bool x.co) ∧ wr.drew.cell? ⟨b', o' + k * 5 + 2, none⟩ = some (.string x.bo) ∧ wr.drew.cell? ⟨b', o' + k * 5 + 3, none⟩ = some (.int .i64 x.ve) ∧ wr.drew.cell? ⟨b', o' + k * 5 + 4, none⟩ = some (C' k 4) from ⟨c0, c1, c2, c3, c4, c0', c1', c2', c3', c4'⟩)
      have hz1 : b < wr.heap.size := Nat.lt_of_lt_of_le hbw hbe.size
      have hz2 : b' < wr.heap.size := Nat.lt_of_lt_of_le hbw' hbe.size
      go_wp2
      go_region_held3 (fun W => W.cell? ⟨b, o + k * 5, none⟩ = some (C k 0) ∧ W.cell? ⟨b, o + k * 5 + 1, none⟩ = some (.bool x.co) ∧ W.cell? ⟨b, o + k * 5 + 2, none⟩ = some (.string x.bo) ∧ W.cell? ⟨b, o + k * 5 + 3, none⟩ = some (.int .i64 x.ve) ∧ W.cell? ⟨b, o + k * 5 + 4, none⟩ = some (C k 4) ∧ W.cell? ⟨b', o' + k * 5, none⟩ = some (C' k 0) ∧ W.cell? ⟨b', o' + k * 5 + 1, none⟩ = some (.bool x.co) ∧ W.cell? ⟨b', o' + k * 5 + 2, none⟩ = some (.string x.bo) ∧ W.cell? ⟨b', o' + k * 5 + 3, none⟩ = some (.int .i64 x.ve) ∧ W.cell? ⟨b', o' + k * 5 + 4, none⟩ = some (C' k 4)) (first | exact HX.out | exact HX2.out) ((go_at_call 69; refine hq.out.mono ?_; rintro e w1 ⟨rfl, hb3⟩; have HX2 := hide (show w1.cell? ⟨b, o + k * 5, none⟩ = some (C k 0) ∧ w1.cell? ⟨b, o + k * 5 + 1, none⟩ = some (.bool x.co) ∧ w1.cell? ⟨b, o + k * 5 + 2, none⟩ = some (.string x.bo) ∧ w1.cell? ⟨b, o + k * 5 + 3, none⟩ = some (.int .i64 x.ve) ∧ w1.cell? ⟨b, o + k * 5 + 4, none⟩ = some (C k 4) ∧ w1.cell? ⟨b', o' + k * 5, none⟩ = some (C' k 0) ∧ w1.cell? ⟨b', o' + k * 5 + 1, none⟩ = some (.bool x.co) ∧ w1.cell? ⟨b', o' + k * 5 + 2, none⟩ = some (.string x.bo) ∧ w1.cell? ⟨b', o' + k * 5 + 3, none⟩ = some (.int .i64 x.ve) ∧ w1.cell? ⟨b', o' + k * 5 + 4, none⟩ = some (C' k 4) from ⟨(hb3.cell (p := ⟨b, o + k * 5, none⟩) hz1).trans c0, (hb3.cell (p := ⟨b, o + k * 5 + 1, none⟩) hz1).trans c1, (hb3.cell (p := ⟨b, o + k * 5 + 2, none⟩) hz1).trans c2, (hb3.cell (p := ⟨b, o + k * 5 + 3, none⟩) hz1).trans c3, (hb3.cell (p := ⟨b, o + k * 5 + 4, none⟩) hz1).trans c4, (hb3.cell (p := ⟨b', o' + k * 5, none⟩) hz2).trans c0', (hb3.cell (p := ⟨b', o' + k * 5 + 1, none⟩) hz2).trans c1', (hb3.cell (p := ⟨b', o' + k * 5 + 2, none⟩) hz2).trans c2', (hb3.cell (p := ⟨b', o' + k * 5 + 3, none⟩) hz2).trans c3', (hb3.cell (p := ⟨b', o' + k * 5 + 4, none⟩) hz2).trans c4'⟩)))
      all_goals
        have c9 := hbd.trans (hb3.mono hbd.size)
        clear hq hb3 HX HX2
        go_wp2
        go_roundw
        case rel => exact ⟨k + 1, by omega, by go_num, c9⟩
        case measure => simp [intOf]; omega
    · go_wp2
      go_ret
      exact ⟨rfl, hbe⟩
end Go.Proofs.Ytckhjemojopekaa
