/-
  The walk of the law FnExactHeadEnd: for all bytes it returns true, and turns nothing that was there.
-/
import Derived.Test.YtklhplhjnpdigabHeadEnd
import Derived.Test.YtklhplhjnpdigabIsByt
namespace Go.Proofs.Ytklhplhjnpdigab
open Go.RowKit M
set_option linter.unusedVariables false

set_option maxHeartbeats 1000000 in
theorem FnExactHeadEnd_walk (a : Option Addr) (len cap : Nat) (zs : List Int) (w : World) (hr : IsRow .u8 w a len cap zs) (m : Int) (hmx : w.cell? ⟨0, 0, none⟩ = some (.int .i64 m)) :
    Calls Try.prog 4 #[.slice a len cap] w fun e w' => e = .returned (.bool true) ∧ Below w.heap.size w w' := by
  obtain ⟨l, rfl, hb, hlc, hcm⟩ := byt_of_row hr
  have h0 : 0 < w.heap.size := World.block_lt_of_cell? w _ hmx
  have hml : l.length ≤ maxLen := Nat.le_trans hlc hcm
  have hml' := hml
  unfold maxLen at hml'
  clear hr hlc hcm
  by_cases hbig : (1048576 : Int) < l.length
  · go_enter Try.func4, Try.ntmps4
    go_wp2
    go_ret
    exact ⟨rfl, Below.refl _ _⟩
  · have hl2 : l.length ≤ 1048576 := by omega
    have HB : Hid (Byt w w.heap.size a l) := hb
    have HX : Hid (w.cell? ⟨0, 0, none⟩ = some (.int .i64 m)) := hmx
    clear hb hmx
    go_enter Try.func4, Try.ntmps4
    go_wp2_with fail
    refine (toByteS_any a l cap _ w HB.out (Nat.le_refl _) hl2).mono ?_
    rintro e w1 ⟨rfl, n1, b1, z1⟩
    go_wp2_with fail
    refine (specHeadEnd_any _ l _ (w.heap.size + 1) w1 (n1.byt (Nat.lt_succ_self _)) (Nat.le_refl _) hml).mono ?_
    rintro e w2 ⟨rfl, b2⟩
    have c2 := b1.trans (b2 w.heap.size)
    have z2 : w1.heap.size ≤ w2.heap.size := (b2 0).size
    go_wp2_with fail
    refine (toByteS_any a l cap _ w2 (HB.out.below c2 (Nat.le_refl _)) c2.size hl2).mono ?_
    rintro e w3 ⟨rfl, n3, b3, z3⟩
    have c3 := c2.trans (b3.mono c2.size)
    have hx3 : w3.cell? ⟨0, 0, none⟩ = some (.int .i64 m) := (c3.cell (p := ⟨0, 0, none⟩) h0).trans HX.out
    have HX3 : Hid (w3.cell? ⟨0, 0, none⟩ = some (.int .i64 m)) := hx3
    clear hx3
    have y3 := n3.byt (C := w2.heap.size + 1) (Nat.lt_succ_self _)
    go_wp2_with fail
    refine (headEnd_any w2.heap.size 0 l _ (w2.heap.size + 1) m w3 y3 z3 (Nat.le_refl _) hml (by omega) HX3.out).mono ?_
    rintro e w4 ⟨rfl, b4⟩
    have c4 := c3.trans (b4.mono c3.size)
    have y4 := y3.below b4 z3
    go_wp2_with fail
    refine (toByteS_any a l cap _ w4 (HB.out.below c4 (Nat.le_refl _)) c4.size hl2).mono ?_
    rintro e w5 ⟨rfl, n5, b5, z5⟩
    have c5 := c4.trans (b5.mono c4.size)
    have y5 := y4.below b5 (by have := b4.size; omega)
    go_wp2_with fail
    refine (eqByteS_any _ _ l l _ _ _ (w4.heap.size + 1) w5 y5 (n5.byt (Nat.lt_succ_self _)) hml hml).mono ?_
    rintro e w6 ⟨rfl, b6⟩
    rw [sameY_refl]
    go_wp2
    go_ret
    exact ⟨rfl, c5.trans (b6 _)⟩
end Go.Proofs.Ytklhplhjnpdigab
