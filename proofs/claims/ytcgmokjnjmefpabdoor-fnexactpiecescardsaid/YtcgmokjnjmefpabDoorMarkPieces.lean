/-
  What the laws' own helps do that mark pieces, look whether the marks are still there, and hold pieces against each other.
-/
import Derived.Test.YtcgmokjnjmefpabDoorRowC
import Derived.Test.YtcgmokjnjmefpabDoorMarkText
import Derived.Test.YtcgmokjnjmefpabDoorRowsP
import Derived.Deep.RegionHeld3
namespace Go.Proofs.YtcgmokjnjmefpabDoor
open Go.RowKit M
set_option linter.unusedVariables false

/-- The mark of a cell. -/
def pm (o : Nat) : Value := if o % 5 = 0 then .int .i64 ((1 + o : Nat) : Int) else if o % 5 = 3 then .bool (((1 + o : Nat) : Int) % 3 == 0) else .string (mt (1 + o))
theorem pm_0 (j : Nat) : pm (j * 5) = .int .i64 ((1 + j * 5 : Nat) : Int) := by unfold pm; rw [if_pos (by omega)]
theorem pm_1 (j : Nat) : pm (j * 5 + 1) = .string (mt (1 + j * 5 + 1)) := by unfold pm; rw [if_neg (by omega), if_neg (by omega)]; rfl
theorem pm_2 (j : Nat) : pm (j * 5 + 2) = .string (mt (1 + j * 5 + 2)) := by unfold pm; rw [if_neg (by omega), if_neg (by omega)]; rfl
theorem pm_3 (j : Nat) : pm (j * 5 + 3) = .bool (((1 + j * 5 + 3 : Nat) : Int) % 3 == 0) := by unfold pm; rw [if_neg (by omega), if_pos (by omega)]; rfl
theorem pm_4 (j : Nat) : pm (j * 5 + 4) = .string (mt (1 + j * 5 + 4)) := by unfold pm; rw [if_neg (by omega), if_neg (by omega)]; rfl

/-- The first ones are marked. -/
def MarkedP (w : World) (g n : Nat) : Prop := ∀ j, j < n → w.cell? ⟨g, j, none⟩ = some (pm j)
theorem MarkedP.next {w w' : World} {g n : Nat} (h : MarkedP w g n) (hg : g < w.heap.size) (hb : Below w.heap.size w w') : MarkedP w' g n := fun j hj => by rw [hb.cell (p := ⟨g, j, none⟩) hg]; exact h j hj
theorem MarkedP.set {w : World} {g n : Nat} (h : MarkedP w g n) {u : Value} (hc : w.cell? ⟨g, n, none⟩ = some u) (x : Value) (hx : x = pm n) : MarkedP (w.setCell ⟨g, n, none⟩ x) g (n + 1) := fun j hj => by
  by_cases e : n = j
  · subst e; rw [World.cell?_setCell_same _ _ _ hc, hx]
  · rw [World.cell?_setCell_other _ _ _ _ (fun e' => e (congrArg Addr.off e'))]
    exact h j (by omega)

set_option maxRecDepth 100000 in
set_option maxHeartbeats 4000000 in
theorem markPieceS_marks (g n cap : Nat) (w : World) (h : RowC w g (n * 5)) (hn : n ≤ 1048576) :
    Calls Tryd.prog 10 #[.slice (some ⟨g, 0, none⟩) n cap, .int .i64 1] w fun e w' => e = .returned (.int .i64 (1 + (n : Int) * 5)) ∧ (g < w'.heap.size ∧ MarkedP w' g (n * 5)) ∧ w.grownBy w' (some g) := by
  go_enter Tryd.func10, Tryd.ntmps10
  go_wp2
  go_loopw [1, 5] (fun kv i wr => ∃ j q : Nat, j ≤ n ∧ i = .int .i64 j ∧ kv = .int .i64 q ∧ q = 1 + j * 5 ∧ RowC wr g (n * 5) ∧ MarkedP wr g (j * 5) ∧ w.grownBy wr (some g)) (fun _ i _ => n - (intOf i).toNat)
  case atStart => exact ⟨0, 1, Nat.zero_le _, rfl, rfl, rfl, h, fun j hj => absurd hj (by omega), grownG_refl _ _⟩
  case round =>
    obtain ⟨j, q, hj, rfl, rfl, hq, hrow, hmk, hg⟩ := hrel
    have hq3 : q ≤ 6000000 := by omega
    have hq1 : 1 ≤ q := by omega
    have HQ := hide hq
    clear hq
    by_cases hlt : j < n
    · obtain ⟨⟨u0, k0⟩, f0⟩ := hrow.2 (j * 5) (by omega)
      have hrow1 := hrow.set (j * 5) (.int .i64 (q : Int))
      have hmk1 := hmk.set k0 (.int .i64 (q : Int)) (by rw [pm_0, HQ.out])
      have g1 := grownG_set hg (j * 5) (.int .i64 (q : Int))
      have R1 := hide hrow1
      have M1 := hide hmk1
      have G1 := hide g1
      clear hrow hmk hg hrow1 hmk1 g1
      go_wp2_with fail
      refine (markText_any (q + 1) (by omega) (by omega) _).mono ?_
      rintro e w1 ⟨rfl, b1⟩
      have hrow2 := R1.out.of b1.size (b1.block g R1.out.1)
      have hmk2 := M1.out.next R1.out.1 b1
      have g2 := grownG_next G1.out b1
      clear k0 f0
      obtain ⟨⟨u1, k1⟩, f1⟩ := hrow2.2 (j * 5 + 1) (by omega)
      have R2 := hide (hrow2.set (j * 5 + 1) (.string (mt (q + 1))))
      have M2 := hide (hmk2.set k1 (.string (mt (q + 1))) (by rw [pm_1, HQ.out]))
      have G2 := hide (grownG_set g2 (j * 5 + 1) (.string (mt (q + 1))))
      clear R1 M1 G1 b1 hrow2 hmk2 g2
      go_wp2_with fail
      refine (markText_any (q + 2) (by omega) (by omega) _).mono ?_
      rintro e w2 ⟨rfl, b2⟩
      have hrow3 := R2.out.of b2.size (b2.block g R2.out.1)
      have hmk3 := M2.out.next R2.out.1 b2
      have g3 := grownG_next G2.out b2
      clear k1 f1
      obtain ⟨⟨u2, k2⟩, f2⟩ := hrow3.2 (j * 5 + 2) (by omega)
      obtain ⟨⟨u3, k3⟩, f3⟩ := hrow3.2 (j * 5 + 3) (by omega)
      have R3 := hide (hrow3.set (j * 5 + 2) (.string (mt (q + 2))))
      have M3 := hide (hmk3.set k2 (.string (mt (q + 2))) (by rw [pm_2, HQ.out]))
      have G3 := hide (grownG_set g3 (j * 5 + 2) (.string (mt (q + 2))))
      clear R2 M2 G2 b2 hrow3 hmk3 g3
      obtain ⟨⟨u3', k3'⟩, _⟩ := R3.out.2 (j * 5 + 3) (by omega)
      have R4 := hide (R3.out.set (j * 5 + 3) (.bool (((q : Int) + 1 + 1 + 1) % 3 == 0)))
      have M4 := hide (M3.out.set k3' (.bool (((q : Int) + 1 + 1 + 1) % 3 == 0)) (by show _ = pm (j * 5 + 3); rw [pm_3, ← HQ.out]; rfl))
      have G4 := hide (grownG_set G3.out (j * 5 + 3) (.bool (((q : Int) + 1 + 1 + 1) % 3 == 0)))
      clear R3 M3 G3 k3'
      go_wp2_with fail
      refine (markText_any (q + 4) (by omega) (by omega) _).mono ?_
      rintro e w3 ⟨rfl, b3⟩
      have hrow5 := R4.out.of b3.size (b3.block g R4.out.1)
      have hmk5 := M4.out.next R4.out.1 b3
      have g5 := grownG_next G4.out b3
      clear k2 f2 k3 f3
      obtain ⟨⟨u4, k4⟩, f4⟩ := hrow5.2 (j * 5 + 4) (by omega)
      have R5 := hide (hrow5.set (j * 5 + 4) (.string (mt (q + 4))))
      have M5 := hide (hmk5.set k4 (.string (mt (q + 4))) (by show _ = pm (j * 5 + 4); rw [pm_4, ← HQ.out]))
      have G5 := hide (grownG_set g5 (j * 5 + 4) (.string (mt (q + 4))))
      clear R4 M4 G4 b3 hrow5 hmk5 g5
      go_wp2
      go_roundw
      case rel => exact ⟨j + 1, q + 5, by omega, by go_num, by go_num, by have := HQ.out; omega, R5.out, by have := M5.out; rwa [show j * 5 + 1 + 1 + 1 + 1 + 1 = (j + 1) * 5 by omega] at this, G5.out⟩
      case measure => simp [intOf]; omega
    · go_wp2
      go_ret
      have hjn : j = n := by omega
      subst hjn
      exact ⟨by rw [HQ.out, show ((1 + j * 5 : Nat) : Int) = 1 + (j : Int) * 5 by omega]; rfl, ⟨hrow.1, hmk⟩, hg⟩

set_option maxHeartbeats 400000 in
theorem markPieceS_none (a : Option Addr) (cap : Nat) (w : World) :
    Calls Tryd.prog 10 #[.slice a 0 cap, .int .i64 1] w fun e w' => e = .returned (.int .i64 1) ∧ w' = w := by
  go_enter Tryd.func10, Tryd.ntmps10
  go_wp2
  go_loopw [1, 5] (fun kv i wr => i = .int .i64 0 ∧ kv = .int .i64 1 ∧ wr = w) (fun _ i _ => 0)
  case atStart => exact ⟨rfl, rfl, rfl⟩
  case round =>
    obtain ⟨rfl, rfl, rfl⟩ := hrel
    go_wp2
    go_ret
    exact ⟨rfl, rfl⟩
set_option maxHeartbeats 400000 in
theorem heldPieceS_none (a : Option Addr) (cap : Nat) (w : World) :
    Calls Tryd.prog 11 #[.slice a 0 cap, .int .i64 1] w fun e w' => e = .returned (.int .i64 1) ∧ w' = w := by
  go_enter Tryd.func11, Tryd.ntmps11
  go_wp2
  go_loopw [1, 5] (fun kv i wr => i = .int .i64 0 ∧ kv = .int .i64 1 ∧ wr = w) (fun _ i _ => 0)
  case atStart => exact ⟨rfl, rfl, rfl⟩
  case round =>
    obtain ⟨rfl, rfl, rfl⟩ := hrel
    go_wp2
    go_ret
    exact ⟨rfl, rfl⟩

set_option maxHeartbeats 4000000 in
set_option maxRecDepth 100000 in
theorem heldPieceS_any (g n cap : Nat) (hn : n ≤ 1048576) (w : World) (hg : g < w.heap.size) (h : MarkedP w g (n * 5)) :
    Calls Tryd.prog 11 #[.slice (some ⟨g, 0, none⟩) n cap, .int .i64 1] w fun e w' => e = .returned (.int .i64 (1 + (n : Int) * 5)) ∧ Below w.heap.size w w' := by
  have HR0 := hide h
  clear h
  go_enter Tryd.func11, Tryd.ntmps11
  go_wp2
  go_loopw [1, 5] (fun kv i wr => ∃ j q : Nat, j ≤ n ∧ i = .int .i64 j ∧ kv = .int .i64 q ∧ q = 1 + j * 5 ∧ Below w.heap.size w wr) (fun _ i _ => n - (intOf i).toNat)
  case atStart => exact ⟨0, 1, Nat.zero_le _, rfl, rfl, rfl, Below.refl _ _⟩
  case round =>
    obtain ⟨j, q, hj, rfl, rfl, hq, hbe⟩ := hrel
    have hq3 : q ≤ 6000000 := by omega
    have hq1 : 1 ≤ q := by omega
    have HQ := hide hq
    clear hq
    by_cases hlt : j < n
    · have HM1 := hide (fun W => markText_any (q + 1) (by omega) (by omega) W)
      have HM2 := hide (fun W => markText_any (q + 2) (by omega) (by omega) W)
      have HM4 := hide (fun W => markText_any (q + 4) (by omega) (by omega) W)
      have HR := hide (HR0.out.next hg hbe)
      have hg1 : g < wr.heap.size := Nat.lt_of_lt_of_le hg hbe.size
      have x0 := HR.out (j * 5) (by omega)
      have x1 := HR.out (j * 5 + 1) (by omega)
      have x2 := HR.out (j * 5 + 2) (by omega)
      have x3 := HR.out (j * 5 + 3) (by omega)
      have x4 := HR.out (j * 5 + 4) (by omega)
      rw [pm_0, ← HQ.out] at x0
      rw [pm_1, ← HQ.out] at x1
      rw [pm_2, ← HQ.out] at x2
      rw [pm_3, ← HQ.out] at x3
      rw [pm_4, ← HQ.out] at x4
      have e3 : (((q + 3 : Nat) : Int) % 3 == 0) = (((q : Int) + 1 + 1 + 1) % 3 == 0) := rfl
      rw [e3] at x3
      have hi0 : (0 : Int) ≤ (j : Int) := by omega
      have hi1 : (j : Int) < (n : Int) := by omega
      clear HR e3
      go_wp2
      go_region_held3 (fun w' => w'.cell? ⟨g, j * 5 + 1, none⟩ = some (.string (mt (q + 1)))) (first | go_keep | (exact (b1.cell (p := ⟨g, j * 5 + 1, none⟩) (by first | omega | (simp; omega))).trans (by assumption))) ((go_at_call 21; refine (HM1.out _).mono ?_; rintro e w1 ⟨rfl, b1⟩))
      have hb1 : Below wr.heap.size wr w1 := ((Below.refl wr.heap.size wr).drew).trans b1
      have y2 := (hb1.cell (p := ⟨g, j * 5 + 2, none⟩) hg1).trans x2
      have y3 := (hb1.cell (p := ⟨g, j * 5 + 3, none⟩) hg1).trans x3
      have y4 := (hb1.cell (p := ⟨g, j * 5 + 4, none⟩) hg1).trans x4
      have hc1 := hbe.trans (hb1.mono hbe.size)
      have hg2 : g < w1.heap.size := Nat.lt_of_lt_of_le hg1 hb1.size
      clear b1 x0 x1 x2 x3 x4 hb1
      go_wp2
      go_region_held3 (fun w' => w'.cell? ⟨g, j * 5 + 2, none⟩ = some (.string (mt (q + 2)))) (first | go_keep | (exact (b2.cell (p := ⟨g, j * 5 + 2, none⟩) (by first | omega | (simp; omega))).trans (by assumption))) ((go_at_call 21; refine (HM2.out _).mono ?_; rintro e w2 ⟨rfl, b2⟩))
      have hb2 : Below w1.heap.size w1 w2 := ((Below.refl w1.heap.size w1).drew).trans b2
      have z3 := (hb2.cell (p := ⟨g, j * 5 + 3, none⟩) hg2).trans y3
      have z4 := (hb2.cell (p := ⟨g, j * 5 + 4, none⟩) hg2).trans y4
      have hc2 := hc1.trans (hb2.mono hc1.size)
      have hg3 : g < w2.heap.size := Nat.lt_of_lt_of_le hg2 hb2.size
      clear b2 y2 y3 y4 hb2 hc1
      go_wp2
      go_region_held3 (fun w' => w'.cell? ⟨g, j * 5 + 4, none⟩ = some (.string (mt (q + 4)))) (first | go_keep | (exact (b3.cell (p := ⟨g, j * 5 + 4, none⟩) (by first | omega | (simp; omega))).trans (by assumption))) ((go_at_call 21; refine (HM4.out _).mono ?_; rintro e w3 ⟨rfl, b3⟩))
      have hb3 : Below w2.heap.size w2 w3 := ((Below.refl w2.heap.size w2).drew).trans b3
      have hc3 := hc2.trans (hb3.mono hc2.size)
      clear b3 z3 z4 hb3 hc2
      go_wp2
      go_roundw
      case rel => exact ⟨j + 1, q + 5, by omega, by go_num, by go_num, by have := HQ.out; omega, hc3⟩
      case measure => simp [intOf]; omega
    · have hjn : j = n := by omega
      subst hjn
      go_wp2
      go_ret
      exact ⟨by rw [HQ.out, show ((1 + j * 5 : Nat) : Int) = 1 + (j : Int) * 5 by omega]; rfl, hbe⟩
end Go.Proofs.YtcgmokjnjmefpabDoor
