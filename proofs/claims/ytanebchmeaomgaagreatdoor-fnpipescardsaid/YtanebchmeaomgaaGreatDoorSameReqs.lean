/-
  Two slices of requests that hold the same, held against each other by the law.
-/
import Derived.Test.YtanebchmeaomgaaGreatDoorSameReqI
import Derived.Deep.RegionHeld3
namespace Go.Proofs.YtanebchmeaomgaaGreatDoor
open Go.RowKit M
set_option linter.unusedVariables false

set_option maxRecDepth 100000 in
set_option maxHeartbeats 2000000 in
theorem sameReqs_same (a b : Option Addr) (rs : List Rq) (cap cap' B C : Nat) (w : World) (h : Rqs w B a rs) (h' : Rqs w C b rs) (hB : B ≤ w.heap.size) (hC : C ≤ w.heap.size) (hl : rs.length ≤ maxLen) (h8 : ∀ r ∈ rs, r.hs.length ≤ maxLen) :
    Calls Tryz.prog 14 #[.slice a rs.length cap, .slice b rs.length cap'] w fun e w' => e = .returned (.bool true) ∧ Below w.heap.size w w' := by
  unfold maxLen at hl
  have H8 := hide h8
  clear h8
  go_enter Tryz.func14, Tryz.ntmps14
  go_wp2
  go_loopw [5] (fun i wr => ∃ k : Nat, k ≤ rs.length ∧ i = .int .i64 k ∧ Below w.heap.size w wr) (fun i _ => rs.length - (intOf i).toNat)
  case atStart => exact ⟨0, Nat.zero_le _, rfl, Below.refl _ _⟩
  case round =>
    obtain ⟨k, hk, rfl, hbe⟩ := hrel
    by_cases hlt : k < rs.length
    · obtain ⟨b1, o1, rfl, hb1, hc1⟩ := h (by omega)
      obtain ⟨b2, o2, rfl, hb2, hc2⟩ := h' (by omega)
      obtain ⟨a1, k1, d0, d1, d2, d3, y1⟩ := hc1 k hlt
      obtain ⟨a2, k2, e0, e1, e2, e3, y2⟩ := hc2 k hlt
      have c1 := fun i => hbe.cell (p := ⟨b1, i, none⟩) (Nat.lt_of_lt_of_le hb1 hB)
      have c2 := fun i => hbe.cell (p := ⟨b2, i, none⟩) (Nat.lt_of_lt_of_le hb2 hC)
      have x0 := (c1 _).trans d0
      have x1 := (c1 _).trans d1
      have x2 := (c1 _).trans d2
      have x3 := (c1 _).trans d3
      have z0 := (c2 _).trans e0
      have z1 := (c2 _).trans e1
      have z2 := (c2 _).trans e2
      have z3 := (c2 _).trans e3
      have hm := H8.out _ (List.getElem_mem hlt)
      have hbd : Below w.heap.size w wr.drew := hbe.drew
      have HE := hide (sameReq_any a1 a2 rs[k] rs[k] k1 k2 B C wr.drew (y1.below hbd hB) (y2.below hbd hC) (Nat.le_trans hB hbd.size) (Nat.le_trans hC hbd.size) hm hm)
      rw [sameR_refl] at HE
      have HBe := hide hbe
      have hs1 : b1 < wr.heap.size := Nat.lt_of_lt_of_le (Nat.lt_of_lt_of_le hb1 hB) hbe.size
      have hs2 : b2 < wr.heap.size := Nat.lt_of_lt_of_le (Nat.lt_of_lt_of_le hb2 hC) hbe.size
      obtain ⟨r, hr⟩ : ∃ r, rs[k] = r := ⟨_, rfl⟩
      rw [hr] at x0 x1 x2 x3 z0 z1 z2 z3 HE
      clear hc1 hc2 d0 d1 d2 d3 y1 e0 e1 e2 e3 y2 hbe hbd c1 c2 hm hr
      go_wp2_with fail
      go_region_held3 (fun W => (W.cell? ⟨b1, o1 + k * 4, none⟩ = some (.string r.m) ∧ W.cell? ⟨b1, o1 + k * 4 + 1, none⟩ = some (.string r.p) ∧ W.cell? ⟨b1, o1 + k * 4 + 2, none⟩ = some (.slice a1 r.hs.length k1) ∧ W.cell? ⟨b1, o1 + k * 4 + 3, none⟩ = some (.string r.b)) ∧ W.cell? ⟨b2, o2 + k * 4, none⟩ = some (.string r.m) ∧ W.cell? ⟨b2, o2 + k * 4 + 1, none⟩ = some (.string r.p) ∧ W.cell? ⟨b2, o2 + k * 4 + 2, none⟩ = some (.slice a2 r.hs.length k2) ∧ W.cell? ⟨b2, o2 + k * 4 + 3, none⟩ = some (.string r.b)) (first | exact ⟨⟨x0, x1, x2, x3⟩, z0, z1, z2, z3⟩ | exact ⟨⟨(bq.cell (p := ⟨b1, o1 + k * 4, none⟩) hs1).trans x0, (bq.cell (p := ⟨b1, o1 + k * 4 + 1, none⟩) hs1).trans x1, (bq.cell (p := ⟨b1, o1 + k * 4 + 2, none⟩) hs1).trans x2, (bq.cell (p := ⟨b1, o1 + k * 4 + 3, none⟩) hs1).trans x3⟩, (bq.cell (p := ⟨b2, o2 + k * 4, none⟩) hs2).trans z0, (bq.cell (p := ⟨b2, o2 + k * 4 + 1, none⟩) hs2).trans z1, (bq.cell (p := ⟨b2, o2 + k * 4 + 2, none⟩) hs2).trans z2, (bq.cell (p := ⟨b2, o2 + k * 4 + 3, none⟩) hs2).trans z3⟩) ((go_at_call 50; refine HE.out.mono ?_; rintro e w1 ⟨rfl, bq⟩))
      go_wp2
      go_roundw
      case rel => exact ⟨k + 1, by omega, by go_num, HBe.out.trans (((Below.refl _ wr).drew.trans bq).mono HBe.out.size)⟩
      case measure => simp [intOf]; omega
    · go_wp2
      go_ret
      exact ⟨rfl, hbe⟩
end Go.Proofs.YtanebchmeaomgaaGreatDoor
