/-
  What the laws' own helps on slices of bytes do: copies, the same.
-/
import Derived.Test.YtkhnkockdfmkgabGreatDoorMathEnd
import Derived.Test.YtkhnkockdfmkgabGreatDoorWires
namespace Go.Proofs.YtkhnkockdfmkgabGreatDoor
open Go.RowKit
set_option linter.unusedVariables false

theorem info_u8 : (Tryz.prog.info? 5).map (fun i => (i.zero, i.size, i.bytes)) = some (some (.int .u8 0), 1, 1) := by kernel_rfl

/-- A new row of bytes, none of them frozen. -/
def NewB (w : World) (N : Nat) (l : List UInt8) : Prop := w.rowIs N 5 l.length (fun j => .int .u8 (l.getD j 0).toNat)
theorem NewB.byt {w : World} {N C : Nat} {l : List UInt8} (h : NewB w N l) (hN : N < C) : Byt w C (some ⟨N, 0, none⟩) l := fun _ =>
  ⟨N, 0, rfl, hN, fun j hj => by rw [Nat.zero_add, World.rowIs.cell h hj]; simp [List.getD, List.getElem?_eq_getElem hj]⟩
theorem NewB.next {w w' : World} {N : Nat} {l : List UInt8} (h : NewB w N l) (hb : Below w.heap.size w w') : NewB w' N l := World.rowIs.of_block h (hb.block _ (World.rowIs.lt h))

set_option maxHeartbeats 400000 in
theorem toByteS_any (a : Option Addr) (l : List UInt8) (cap B : Nat) (w : World) (h : Byt w B a l) (hB : B ≤ w.heap.size) (hl : l.length ≤ 1048576) :
    Calls Tryz.prog 8 #[.slice a l.length cap] w fun e w' => e = .returned (.slice (some ⟨w.heap.size, 0, none⟩) l.length l.length) ∧ NewB w' w.heap.size l ∧ Below w.heap.size w w' ∧ w.heap.size < w'.heap.size := by
  have hmk := run_make_row' (P := Tryz.prog) 22 5 (.int .u8 0) 1 Tryz.underlying22 info_u8 rfl .i64 .i64 l.length (by omega) (by omega) w
  go_enter Tryz.func8, Tryz.ntmps8
  go_wp2
  clear hmk
  go_loopw [4] (fun i wr => ∃ k : Nat, k ≤ l.length ∧ i = .int .i64 k ∧ wr.rowIs w.heap.size 5 l.length (fun j => if j < k then .int .u8 (l.getD j 0).toNat else .int .u8 0) ∧ Below w.heap.size w wr) (fun i _ => l.length - (intOf i).toNat)
  case atStart => exact ⟨0, Nat.zero_le _, rfl, (World.rowIs_made w _ _ _).congr (fun i _ => by simp), (Below.refl _ _).alloc (Nat.le_refl _) _⟩
  case round =>
    obtain ⟨k, hk, rfl, hrow, hbe⟩ := hrel
    by_cases hlt : k < l.length
    · obtain ⟨b, o, rfl, hb, hc⟩ := h (by omega)
      have hcx := (hbe.cell (p := ⟨b, o + k, none⟩) (Nat.lt_of_lt_of_le hb hB)).trans (hc k hlt)
      have hcn := hrow.cell hlt
      have hfn := hrow.frozen k
      have hrow2 := (hrow.set k (.int .u8 (l[k]).toNat)).congr (g := fun j => if j < k + 1 then .int .u8 (l.getD j 0).toNat else .int .u8 0) (fun j hj => by
        by_cases e : j = k
        · subst e; simp [List.getD, List.getElem?_eq_getElem hlt]
        · simp only [e, if_false]
          by_cases e2 : j < k
          · rw [if_pos e2, if_pos (by omega)]
          · rw [if_neg e2, if_neg (by omega)])
      have HR : Hid _ := hrow2
      clear hrow2
      go_wp2
      go_roundw
      case rel => exact ⟨k + 1, by omega, by go_num, HR.out, hbe.setCell (Nat.le_refl _) _⟩
      case measure => simp [intOf]; omega
    · go_wp2
      go_ret
      refine ⟨rfl, hrow.congr (fun j hj => by rw [if_pos (by omega)]), hbe, hrow.lt⟩
end Go.Proofs.YtkhnkockdfmkgabGreatDoor
