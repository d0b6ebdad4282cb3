/-
  Two slices of pieces that hold the same, held against each other by the laws.
-/
import Derived.Test.YtcgmokjnjmefpabDoorRowsP
import Derived.Deep.RegionHeld3
namespace Go.Proofs.YtcgmokjnjmefpabDoor
open Go.RowKit M
set_option linter.unusedVariables false

set_option maxHeartbeats 1000000 in
theorem eqPiece_same (p : Pce) (w : World) :
    Calls Tryd.prog 20 #[.agg #[.int .i64 p.k, .string p.name, .string p.ns, .bool p.has, .string p.s], .agg #[.int .i64 p.k, .string p.name, .string p.ns, .bool p.has, .string p.s]] w fun e w' => e = .returned (.bool true) ∧ Below w.heap.size w w' := by
  obtain ⟨k, name, ns, has, s⟩ := p
  go_enter Tryd.func20, Tryd.ntmps20
  go_wp2
  go_ret
  exact ⟨rfl, ((Below.refl _ _).alloc (Nat.le_refl _) _).alloc (by simp) _⟩

set_option maxRecDepth 100000 in
set_option maxHeartbeats 2000000 in
theorem eqPieceS_same (a b : Option Addr) (ps : List Pce) (cap cap' B C : Nat) (w : World) (h : Pcs w B a ps) (h' : Pcs w C b ps) (hB : B ≤ w.heap.size) (hC : C ≤ w.heap.size) (hl : ps.length ≤ maxLen) :
    Calls Tryd.prog 9 #[.slice a ps.length cap, .slice b ps.length cap'] w fun e w' => e = .returned (.bool true) ∧ Below w.heap.size w w' := by
  unfold maxLen at hl
  go_enter Tryd.func9, Tryd.ntmps9
  go_wp2
  go_loopw [5] (fun i wr => ∃ k : Nat, k ≤ ps.length ∧ i = .int .i64 k ∧ Below w.heap.size w wr) (fun i _ => ps.length - (intOf i).toNat)
  case atStart => exact ⟨0, Nat.zero_le _, rfl, Below.refl _ _⟩
  case round =>
    obtain ⟨k, hk, rfl, hbe⟩ := hrel
    by_cases hlt : k < ps.length
    · obtain ⟨b1, o1, rfl, hb1, hc1⟩ := h (by omega)
      obtain ⟨b2, o2, rfl, hb2, hc2⟩ := h' (by omega)
      obtain ⟨d0, d1, d2, d3, d4⟩ := hc1 k hlt
      obtain ⟨e0, e1, e2, e3, e4⟩ := hc2 k hlt
      have c1 := fun i => hbe.cell (p := ⟨b1, i, none⟩) (Nat.lt_of_lt_of_le hb1 hB)
      have c2 := fun i => hbe.cell (p := ⟨b2, i, none⟩) (Nat.lt_of_lt_of_le hb2 hC)
      have x0 := (c1 _).trans d0
      have x1 := (c1 _).trans d1
      have x2 := (c1 _).trans d2
      have x3 := (c1 _).trans d3
      have x4 := (c1 _).trans d4
      have z0 := (c2 _).trans e0
      have z1 := (c2 _).trans e1
      have z2 := (c2 _).trans e2
      have z3 := (c2 _).trans e3
      have z4 := (c2 _).trans e4
      have HE := hide (fun W : World => eqPiece_same ps[k] W)
      have HBe := hide hbe
      have hs1 : b1 < wr.heap.size := Nat.lt_of_lt_of_le (Nat.lt_of_lt_of_le hb1 hB) hbe.size
      have hs2 : b2 < wr.heap.size := Nat.lt_of_lt_of_le (Nat.lt_of_lt_of_le hb2 hC) hbe.size
      obtain ⟨p, hp⟩ : ∃ p, ps[k] = p := ⟨_, rfl⟩
      rw [hp] at x0 x1 x2 x3 x4 z0 z1 z2 z3 z4 HE
      clear hc1 hc2 d0 d1 d2 d3 d4 e0 e1 e2 e3 e4 hbe c1 c2 hp
      go_wp2_with fail
      go_region_held3 (fun W => (W.cell? ⟨b1, o1 + k * 5, none⟩ = some (.int .i64 p.k) ∧ W.cell? ⟨b1, o1 + k * 5 + 1, none⟩ = some (.string p.name) ∧ W.cell? ⟨b1, o1 + k * 5 + 2, none⟩ = some (.string p.ns) ∧ W.cell? ⟨b1, o1 + k * 5 + 3, none⟩ = some (.bool p.has) ∧ W.cell? ⟨b1, o1 + k * 5 + 4, none⟩ = some (.string p.s)) ∧ W.cell? ⟨b2, o2 + k * 5, none⟩ = some (.int .i64 p.k) ∧ W.cell? ⟨b2, o2 + k * 5 + 1, none⟩ = some (.string p.name) ∧ W.cell? ⟨b2, o2 + k * 5 + 2, none⟩ = some (.string p.ns) ∧ W.cell? ⟨b2, o2 + k * 5 + 3, none⟩ = some (.bool p.has) ∧ W.cell? ⟨b2, o2 + k * 5 + 4, none⟩ = some (.string p.s)) (first | exact ⟨⟨x0, x1, x2, x3, x4⟩, z0, z1, z2, z3, z4⟩ | exact ⟨⟨(bq.cell (p := ⟨b1, o1 + k * 5, none⟩) hs1).trans x0, (bq.cell (p := ⟨b1, o1 + k * 5 + 1, none⟩) hs1).trans x1, (bq.cell (p := ⟨b1, o1 + k * 5 + 2, none⟩) hs1).trans x2, (bq.cell (p := ⟨b1, o1 + k * 5 + 3, none⟩) hs1).trans x3, (bq.cell (p := ⟨b1, o1 + k * 5 + 4, none⟩) hs1).trans x4⟩, (bq.cell (p := ⟨b2, o2 + k * 5, none⟩) hs2).trans z0, (bq.cell (p := ⟨b2, o2 + k * 5 + 1, none⟩) hs2).trans z1, (bq.cell (p := ⟨b2, o2 + k * 5 + 2, none⟩) hs2).trans z2, (bq.cell (p := ⟨b2, o2 + k * 5 + 3, none⟩) hs2).trans z3, (bq.cell (p := ⟨b2, o2 + k * 5 + 4, none⟩) hs2).trans z4⟩) ((go_at_call 20; refine (HE.out _).mono ?_; rintro e w1 ⟨rfl, bq⟩))
      go_wp2
      go_roundw
      case rel => exact ⟨k + 1, by omega, by go_num, HBe.out.trans (((Below.refl _ wr).drew.trans bq).mono HBe.out.size)⟩
      case measure => simp [intOf]; omega
    · go_wp2
      go_ret
      exact ⟨rfl, hbe⟩
end Go.Proofs.YtcgmokjnjmefpabDoor
