/-
  What the laws' own helps do that mark the heads of an answer and look whether the marks are still there.
-/
import Derived.Test.YtnoijfnpchihoaaGreatDoorMarkRows
import Derived.Deep.RegionHeld3
namespace Go.Proofs.YtnoijfnpchihoaaGreatDoor
open Go.RowKit M
set_option linter.unusedVariables false

/-- A row of marks in block g, none of them frozen. -/
def RowM (w : World) (g n : Nat) : Prop := g < w.heap.size ∧ ∀ j, j < n → w.cell? ⟨g, j, none⟩ = some (.string (mt (1 + j))) ∧ w.frozen? ⟨g, j, none⟩ = false
theorem RowM.of {w w' : World} {g n : Nat} (h : RowM w g n) (hs' : w.heap.size ≤ w'.heap.size) (hb : w'.heap[g]? = w.heap[g]?) : RowM w' g n := by
  have hc : ∀ o, w'.cell? ⟨g, o, none⟩ = w.cell? ⟨g, o, none⟩ := fun o => World.cell?_of_block (a := ⟨g, o, none⟩) hb
  have hf : ∀ o, w'.frozen? ⟨g, o, none⟩ = w.frozen? ⟨g, o, none⟩ := fun o => World.frozen?_of_block (a := ⟨g, o, none⟩) hb
  exact ⟨Nat.lt_of_lt_of_le h.1 hs', fun j hj => by rw [hc, hf]; exact h.2 j hj⟩
theorem RowM.next {w w' : World} {g n : Nat} (h : RowM w g n) (hb : Below w.heap.size w w') : RowM w' g n := h.of hb.size (hb.block g h.1)
/-- The first ones are marked. -/
def Marked (w : World) (g n : Nat) : Prop := ∀ j, j < n → w.cell? ⟨g, j, none⟩ = some (.string (mt (1 + j)))
theorem Marked.next {w w' : World} {g n : Nat} (h : Marked w g n) (hg : g < w.heap.size) (hb : Below w.heap.size w w') : Marked w' g n := fun j hj => by rw [hb.cell (p := ⟨g, j, none⟩) hg]; exact h j hj
theorem Marked.set {w : World} {g n : Nat} (h : Marked w g n) {u : Value} (hc : w.cell? ⟨g, n, none⟩ = some u) (x : ByteArray) (hx : x = mt (1 + n)) : Marked (w.setCell ⟨g, n, none⟩ (.string x)) g (n + 1) := fun j hj => by
  by_cases e : n = j
  · subst e; rw [World.cell?_setCell_same _ _ _ hc, hx]
  · rw [World.cell?_setCell_other _ _ _ _ (fun e' => e (congrArg Addr.off e'))]
    exact h j (by omega)

set_option maxHeartbeats 2000000 in
theorem markHeadS_marks (g n cap : Nat) (w : World) (h : RowC w g (n * 2)) (hn : n ≤ 1048576) :
    Calls Tryz.prog 66 #[.slice (some ⟨g, 0, none⟩) n cap, .int .i64 1] w fun e w' => e = .returned (.int .i64 (1 + (n : Int) * 2)) ∧ RowM w' g (n * 2) ∧ w.grownBy w' (some g) := by
  go_enter Tryz.func66, Tryz.ntmps66
  go_wp2
  go_loopw [1, 5] (fun kv i wr => ∃ j q : Nat, j ≤ n ∧ i = .int .i64 j ∧ kv = .int .i64 q ∧ q = 1 + j * 2 ∧ RowC wr g (n * 2) ∧ Marked wr g (j * 2) ∧ w.grownBy wr (some g)) (fun _ i _ => n - (intOf i).toNat)
  case atStart => exact ⟨0, 1, Nat.zero_le _, rfl, rfl, rfl, h, fun j hj => absurd hj (by omega), grownG_refl _ _⟩
  case round =>
    obtain ⟨j, q, hj, rfl, rfl, hq, hrow, hmk, hg⟩ := hrel
    have hq3 : q ≤ 3000000 := by omega
    have hq1 : 1 ≤ q := by omega
    have HQ := hide hq
    clear hq
    by_cases hlt : j < n
    · go_wp2_with fail
      refine (markText_any q hq1 (by omega) wr).mono ?_
      rintro e w1 ⟨rfl, b1⟩
      have hrow1 := hrow.of b1.size (b1.block g hrow.1)
      have hmk1 := hmk.next hrow.1 b1
      have g1 := grownG_next hg b1
      obtain ⟨⟨u0, k0⟩, f0⟩ := hrow1.2 (j * 2) (by omega)
      have hrow2 := hrow1.set (j * 2) (.string (mt q))
      have hmk2 := hmk1.set k0 (mt q) (by rw [HQ.out])
      have g2 := grownG_set g1 (j * 2) (.string (mt q))
      have H2 := hide hrow2
      have M2 := hide hmk2
      have G2 := hide g2
      clear hrow hg b1 hrow1 g1 hrow2 g2 hmk hmk1 hmk2
      go_wp2_with fail
      refine (markText_any (q + 1) (by omega) (by omega) _).mono ?_
      rintro e w2 ⟨rfl, b2⟩
      have hrow3 := H2.out.of b2.size (b2.block g H2.out.1)
      have hmk3 := M2.out.next H2.out.1 b2
      have g3 := grownG_next G2.out b2
      obtain ⟨⟨u1, k1⟩, f1⟩ := hrow3.2 (j * 2 + 1) (by omega)
      have hrow4 := hrow3.set (j * 2 + 1) (.string (mt (q + 1)))
      have hmk4 := hmk3.set k1 (mt (q + 1)) (by rw [HQ.out]; congr 1)
      have g4 := grownG_set g3 (j * 2 + 1) (.string (mt (q + 1)))
      have H4 := hide hrow4
      have M4 := hide hmk4
      have G4 := hide g4
      clear H2 G2 M2 b2 hrow3 g3 hrow4 g4 hmk3 hmk4
      go_wp2
      go_roundw
      case rel => exact ⟨j + 1, q + 1 + 1, by omega, by go_num, by go_num, by have := HQ.out; omega, H4.out, by have := M4.out; rwa [show j * 2 + 1 + 1 = (j + 1) * 2 by omega] at this, G4.out⟩
      case measure => simp [intOf]; omega
    · go_wp2
      go_ret
      have hjn : j = n := by omega
      subst hjn
      exact ⟨by rw [HQ.out, show ((1 + j * 2 : Nat) : Int) = 1 + (j : Int) * 2 by omega]; rfl, ⟨hrow.1, fun i hi => ⟨hmk i hi, (hrow.2 i hi).2⟩⟩, hg⟩
set_option maxHeartbeats 400000 in
theorem markHeadS_none (a : Option Addr) (cap : Nat) (w : World) :
    Calls Tryz.prog 66 #[.slice a 0 cap, .int .i64 1] w fun e w' => e = .returned (.int .i64 1) ∧ w' = w := by
  go_enter Tryz.func66, Tryz.ntmps66
  go_wp2
  go_loopw [1, 5] (fun kv i wr => i = .int .i64 0 ∧ kv = .int .i64 1 ∧ wr = w) (fun _ i _ => 0)
  case atStart => exact ⟨rfl, rfl, rfl⟩
  case round =>
    obtain ⟨rfl, rfl, rfl⟩ := hrel
    go_wp2
    go_ret
    exact ⟨rfl, rfl⟩
set_option maxHeartbeats 400000 in
theorem heldHeadS_none (a : Option Addr) (cap : Nat) (w : World) :
    Calls Tryz.prog 67 #[.slice a 0 cap, .int .i64 1] w fun e w' => e = .returned (.int .i64 1) ∧ w' = w := by
  go_enter Tryz.func67, Tryz.ntmps67
  go_wp2
  go_loopw [1, 5] (fun kv i wr => i = .int .i64 0 ∧ kv = .int .i64 1 ∧ wr = w) (fun _ i _ => 0)
  case atStart => exact ⟨rfl, rfl, rfl⟩
  case round =>
    obtain ⟨rfl, rfl, rfl⟩ := hrel
    go_wp2
    go_ret
    exact ⟨rfl, rfl⟩

set_option maxHeartbeats 4000000 in
set_option maxRecDepth 100000 in
theorem heldHeadS_any (g n cap : Nat) (hn : n ≤ 1048576) (w : World) (h : RowM w g (n * 2)) :
    Calls Tryz.prog 67 #[.slice (some ⟨g, 0, none⟩) n cap, .int .i64 1] w fun e w' => e = .returned (.int .i64 (1 + (n : Int) * 2)) ∧ Below w.heap.size w w' := by
  have HR0 := hide h
  clear h
  go_enter Tryz.func67, Tryz.ntmps67
  go_wp2
  go_loopw [1, 5] (fun kv i wr => ∃ j q : Nat, j ≤ n ∧ i = .int .i64 j ∧ kv = .int .i64 q ∧ q = 1 + j * 2 ∧ Below w.heap.size w wr) (fun _ i _ => n - (intOf i).toNat)
  case atStart => exact ⟨0, 1, Nat.zero_le _, rfl, rfl, rfl, Below.refl _ _⟩
  case round =>
    obtain ⟨j, q, hj, rfl, rfl, hq, hbe⟩ := hrel
    have hq3 : q ≤ 3000000 := by omega
    have hq1 : 1 ≤ q := by omega
    have HQ := hide hq
    by_cases hlt : j < n
    · have HM := hide (fun W => markText_any q hq1 (by omega) W)
      have HM2 := hide (fun W => markText_any (q + 1) (by omega) (by omega) W)
      have HR := hide (HR0.out.next hbe)
      have hcx := (HR.out.2 (j * 2) (by omega)).1
      have hcy := (HR.out.2 (j * 2 + 1) (by omega)).1
      have e1 : 1 + j * 2 = q := by omega
      have e2 : 1 + (j * 2 + 1) = q + 1 := by omega
      rw [e1] at hcx
      rw [e2] at hcy
      have hg1 := HR.out.1
      have hi0 : (0 : Int) ≤ (j : Int) := by omega
      have hi1 : (j : Int) < (n : Int) := by omega
      clear hq e1 e2
      go_wp2
      go_region_held3 (fun w' => w'.cell? ⟨g, j * 2, none⟩ = some (.string (mt q)) ∧ w'.cell? ⟨g, j * 2 + 1, none⟩ = some (.string (mt (q + 1)))) (first | go_keep | (exact ⟨(b1.cell (p := ⟨g, j * 2, none⟩) (by first | omega | (simp; omega))).trans (by assumption), (b1.cell (p := ⟨g, j * 2 + 1, none⟩) (by first | omega | (simp; omega))).trans (by assumption)⟩)) ((go_at_call 100; refine (HM.out _).mono ?_; rintro e w1 ⟨rfl, b1⟩))
      all_goals
        have hb1 : Below wr.heap.size wr w1 := ((Below.refl wr.heap.size wr).drew).trans b1
        have hcz := (hb1.cell (p := ⟨g, j * 2 + 1, none⟩) hg1).trans hcy
        have hc1 := hbe.trans (hb1.mono hbe.size)
        have hg2 : g < w1.heap.size := Nat.lt_of_lt_of_le hg1 hb1.size
        clear b1
        go_wp2
        go_region_held3 (fun w' => w'.cell? ⟨g, j * 2 + 1, none⟩ = some (.string (mt (q + 1)))) (first | go_keep | (exact (b2.cell (p := ⟨g, j * 2 + 1, none⟩) (by first | omega | (simp; omega))).trans (by assumption))) ((go_at_call 100; refine (HM2.out _).mono ?_; rintro e w2 ⟨rfl, b2⟩))
        all_goals
          have hb2 : Below w1.heap.size w1 w2 := ((Below.refl w1.heap.size w1).drew).trans b2
          go_wp2
          go_roundw
          case rel => exact ⟨j + 1, q + 1 + 1, by omega, by go_num, by go_num, by have := HQ.out; omega, hc1.trans (hb2.mono hc1.size)⟩
          case measure => simp [intOf]; omega
    · have hjn : j = n := by omega
      subst hjn
      go_wp2
      go_ret
      exact ⟨by rw [HQ.out, show ((1 + j * 2 : Nat) : Int) = 1 + (j : Int) * 2 by omega]; rfl, hbe⟩
end Go.Proofs.YtnoijfnpchihoaaGreatDoor
