/-
  The heads of a request that the call owns: marked, and looked at.
-/
import Derived.Test.YtnoijfnpchihoaaGreatDoorHeldRows
import Derived.Test.YtnoijfnpchihoaaGreatDoorAllOf
namespace Go.Proofs.YtnoijfnpchihoaaGreatDoor
open Go.RowKit M
set_option linter.unusedVariables false

theorem grown_before {w w0 w' : World} {o : Option Nat} (h : w0.grownBy w' o) (hb : Below w.heap.size w w0) : w.grownBy w' o :=
  ⟨h.os.trans hb.os, h.tape.trans hb.tape, h.output.trans hb.output, Nat.le_trans hb.size h.size, fun k hk hne => (h.block k (Nat.lt_of_lt_of_le hk hb.size) hne).trans (hb.block k hk)⟩
set_option maxHeartbeats 400000 in
theorem markReq_own (r : Rq) (a : Option Addr) (c B : Nat) (w : World) (h : RowsH w B (.slice a r.hs.length c) r.hs) (hn : r.hs.length ≤ 1048576) :
    Calls Tryz.prog 32 #[.agg #[.string r.m, .string r.p, .slice a r.hs.length c, .string r.b], .int .i64 1] w fun e w' => e = .returned (.int .i64 (1 + (r.hs.length : Int) * 2)) ∧ HeldV w' (.slice a r.hs.length c) r.hs.length ∧ w.grownBy w' (Value.slice a r.hs.length c).ownBlock := by
  have hb0 : Below w.heap.size w (w.alloc (Obj.cells #[.string r.m, .string r.p, .slice a r.hs.length c, .string r.b] 26)) := (Below.refl _ _).alloc (Nat.le_refl _) _
  have HM := hide (markV _ r.hs B _ (ownsH_below h hb0) hn)
  have HB0 := hide hb0
  clear h hb0
  go_enter Tryz.func32, Tryz.ntmps32
  go_wp2_with fail
  refine HM.out.mono ?_
  rintro e w1 ⟨rfl, h1, g1⟩
  have H1 := hide h1
  have G1 := hide (grown_before g1 HB0.out)
  clear HM g1 h1
  go_wp2
  go_ret
  exact ⟨rfl, H1.out, G1.out⟩
set_option maxHeartbeats 400000 in
theorem heldReq_own (r : Rq) (a : Option Addr) (c : Nat) (w : World) (h : HeldV w (.slice a r.hs.length c) r.hs.length) (hn : r.hs.length ≤ 1048576) :
    Calls Tryz.prog 33 #[.agg #[.string r.m, .string r.p, .slice a r.hs.length c, .string r.b], .int .i64 1] w fun e w' => e = .returned (.int .i64 (1 + (r.hs.length : Int) * 2)) ∧ Below w.heap.size w w' := by
  have hb0 : Below w.heap.size w (w.alloc (Obj.cells #[.string r.m, .string r.p, .slice a r.hs.length c, .string r.b] 26)) := (Below.refl _ _).alloc (Nat.le_refl _) _
  have HM := hide (heldV _ r.hs.length _ (h.next hb0) hn)
  have HB0 := hide hb0
  have hnn : ¬ (1 + (r.hs.length : Int) * 2 < 0) := by omega
  clear h hb0
  go_enter Tryz.func33, Tryz.ntmps33
  go_wp2_with fail
  refine HM.out.mono ?_
  rintro e w1 ⟨rfl, b1⟩
  have C1 := hide (HB0.out.trans (b1.mono HB0.out.size))
  clear HM b1
  go_wp2
  go_ret
  exact ⟨rfl, C1.out⟩
end Go.Proofs.YtnoijfnpchihoaaGreatDoor
