/-
  What the laws' own helps do that mark sets, and look whether the marks are still there.
-/
import Derived.Test.YtclnpfpaabmkcabSets
import Derived.Test.YtclnpfpaabmkcabMarkText
import Derived.Test.YtclnpfpaabmkcabTurn
import Derived.Test.YtclnpfpaabmkcabRet
import Derived.Deep.RegionHeld3
namespace Go.Proofs.Ytclnpfpaabmkcab
open Go.RowKit M
set_option linter.unusedVariables false

/-- A row of n of them, its cells, none of them frozen. -/
def CellsU (w : World) (g n : Nat) (F : Nat → Value) : Prop := g < w.heap.size ∧ (∀ o, o < n * 4 → w.cell? ⟨g, o, none⟩ = some (F o)) ∧ ∀ i, w.frozen? ⟨g, i, none⟩ = false
/-- The mark of a cell: of a flag whether its number goes by three, of a text its own. -/
def mkU (o n : Nat) : Value := if o % 4 = 0 then .bool (decide (n % 3 = 0)) else .string (mt n)
theorem mkU0 {o n : Nat} (h : o % 4 = 0) : mkU o n = .bool (decide (n % 3 = 0)) := by unfold mkU; rw [if_pos h]
theorem mkU1 {o n : Nat} (h : ¬ o % 4 = 0) : mkU o n = .string (mt n) := by unfold mkU; rw [if_neg h]
/-- .. marked from k on. -/
def MarkU (w : World) (g n k : Nat) : Prop := CellsU w g n (fun o => mkU o (k + o))

theorem CellsU.of {w w' : World} {g n : Nat} {F : Nat → Value} (h : CellsU w g n F) (hz : g < w'.heap.size) (e : ∀ o', w'.cell? ⟨g, o', none⟩ = w.cell? ⟨g, o', none⟩) (f : ∀ o', w'.frozen? ⟨g, o', none⟩ = w.frozen? ⟨g, o', none⟩) : CellsU w' g n F :=
  ⟨hz, fun o ho => by rw [e]; exact h.2.1 o ho, fun i => by rw [f]; exact h.2.2 i⟩
theorem CellsU.below {w w' : World} {g n : Nat} {F : Nat → Value} (h : CellsU w g n F) (hb : Below w.heap.size w w') : CellsU w' g n F :=
  h.of (Nat.lt_of_lt_of_le h.1 hb.size) (fun o => hb.cell (p := ⟨g, o, none⟩) h.1) (fun o => hb.frozen (p := ⟨g, o, none⟩) h.1)
theorem CellsU.set {w : World} {g n : Nat} {F : Nat → Value} (h : CellsU w g n F) (o : Nat) (ho : o < n * 4) (v : Value) : CellsU (w.setCell ⟨g, o, none⟩ v) g n (fun i => if i = o then v else F i) := by
  refine ⟨by simpa using h.1, fun i hi => ?_, fun i => by rw [World.frozen?_setCell]; exact h.2.2 i⟩
  by_cases e : i = o
  · subst e
    rw [World.cell?_setCell_same _ _ _ (h.2.1 i hi)]
    simp
  · have hne : (⟨g, o, none⟩ : Addr) ≠ ⟨g, i, none⟩ := fun e' => e (congrArg Addr.off e').symm
    rw [World.cell?_setCell_other _ _ _ _ hne, h.2.1 i hi]
    simp [e]
theorem RowU.cellsU {w : World} {g : Nat} {ps : List Sx} (h : RowU w g ps) : ∃ F, CellsU w g ps.length F := by
  refine ⟨fun o => (w.cell? ⟨g, o, none⟩).getD (.string ByteArray.empty), h.1, fun o ho => ?_, h.2.2⟩
  have hj : o / 4 < ps.length := by omega
  obtain ⟨c0, c1, c2, c3⟩ := h.2.1 (o / 4) hj
  have e : o = o / 4 * 4 ∨ o = o / 4 * 4 + 1 ∨ o = o / 4 * 4 + 2 ∨ o = o / 4 * 4 + 3 := by omega
  rcases e with e | e | e | e
  · rw [← e] at c0; simp [c0]
  · rw [← e] at c1; simp [c1]
  · rw [← e] at c2; simp [c2]
  · rw [← e] at c3; simp [c3]

theorem remI3 (K : Nat) : ((K : Int) % 3 == 0) = decide (K % 3 = 0) := by
  by_cases e : K % 3 = 0
  · rw [decide_eq_true e]; simp; omega
  · rw [decide_eq_false e]; simp; omega

set_option maxRecDepth 100000 in
set_option maxHeartbeats 4000000 in
theorem markSetS_from (g n cap k0 : Nat) (F0 : Nat → Value) (hl : n ≤ 1048576) (hk1 : 1 ≤ k0) (hk0 : k0 + 4 * n ≤ 50000000) (w : World) (h : CellsU w g n F0) :
    Calls Try.prog 36 #[.slice (some ⟨g, 0, none⟩) n cap, .int .i64 k0] w fun e w' => e = .returned (.int .i64 ((k0 + 4 * n : Nat) : Int)) ∧ MarkU w' g n k0 ∧ Turn (· = g) w w' := by
  go_enter Try.func36, Try.ntmps36
  go_wp2
  go_loopw [1, 5] (fun kv i wr => ∃ (j K : Nat) (F : Nat → Value), j ≤ n ∧ i = .int .i64 j ∧ kv = .int .i64 K ∧ Hid (K = k0 + 4 * j) ∧ (∀ o, o < 4 * j → F o = mkU o (k0 + o)) ∧ CellsU wr g n F ∧ Turn (· = g) w wr) (fun _ i _ => n - (intOf i).toNat)
  case atStart => exact ⟨0, k0, F0, Nat.zero_le _, rfl, rfl, rfl, fun o ho => absurd ho (by omega), h, Turn.refl _ _⟩
  case round =>
    obtain ⟨j, K, F, hj, rfl, rfl, hK, hF, hR, hbe⟩ := hrel
    have HF := hide hF
    clear hF
    by_cases hlt : j < n
    · have hKb : K + 4 ≤ 50000000 ∧ 1 ≤ K := by have := hK.out; omega
      have hM0 := fun W => markText_any (K + 1) (by omega) (by omega) W
      have hM1 := fun W => markText_any (K + 2) (by omega) (by omega) W
      have hM2 := fun W => markText_any (K + 3) (by omega) (by omega) W
      have e0 : ((K + 1 : Nat) : Int) = (K : Int) + 1 := by omega
      have e1 : ((K + 2 : Nat) : Int) = (K : Int) + 1 + 1 := by omega
      have e2 : ((K + 3 : Nat) : Int) = (K : Int) + 1 + 1 + 1 := by omega
      rw [e0] at hM0
      rw [e1] at hM1
      rw [e2] at hM2
      have HM0 := hide hM0
      have HM1 := hide hM1
      have HM2 := hide hM2
      clear hM0 hM1 hM2 e0 e1 e2
      have HDQ := hide (remI3 K)
      have hcd := hR.2.1 (j * 4) (by omega)
      have hfd := hR.2.2 (j * 4)
      have r0 := hR.set (j * 4) (by omega) (.bool ((K : Int) % 3 == 0))
      have t0 := hbe.trans (Turn.set (S := (· = g)) wr ⟨g, j * 4, none⟩ (.bool ((K : Int) % 3 == 0)) rfl)
      clear hR hbe
      go_wp2_with fail
      refine (HM0.out _).mono ?_
      rintro e w1 ⟨rfl, b1⟩
      have hR1 := r0.below b1
      have hcn := hR1.2.1 (j * 4 + 1) (by omega)
      have hfn := hR1.2.2 (j * 4 + 1)
      have r1 := hR1.set (j * 4 + 1) (by omega) (.string (mt (K + 1)))
      have t1 := (t0.trans (Turn.of_below b1)).trans (Turn.set (S := (· = g)) w1 ⟨g, j * 4 + 1, none⟩ (.string (mt (K + 1))) rfl)
      clear r0 hR1 b1 t0
      go_wp2_with fail
      refine (HM1.out _).mono ?_
      rintro e w2 ⟨rfl, b2⟩
      have r2 := r1.below b2
      have hcn2 := r2.2.1 (j * 4 + 2) (by omega)
      have hfn2 := r2.2.2 (j * 4 + 2)
      have r3 := r2.set (j * 4 + 2) (by omega) (.string (mt (K + 2)))
      have t2 := (t1.trans (Turn.of_below b2)).trans (Turn.set (S := (· = g)) w2 ⟨g, j * 4 + 2, none⟩ (.string (mt (K + 2))) rfl)
      clear r1 r2 b2 t1
      go_wp2_with fail
      refine (HM2.out _).mono ?_
      rintro e w3 ⟨rfl, b3⟩
      have r4 := r3.below b3
      have hcn3 := r4.2.1 (j * 4 + 3) (by omega)
      have hfn3 := r4.2.2 (j * 4 + 3)
      have HR := hide (r4.set (j * 4 + 3) (by omega) (.string (mt (K + 3))))
      have HT := hide ((t2.trans (Turn.of_below b3)).trans (Turn.set (S := (· = g)) w3 ⟨g, j * 4 + 3, none⟩ (.string (mt (K + 3))) rfl))
      clear r3 r4 b3 t2
      go_wp2
      go_roundw
      case rel =>
        refine ⟨j + 1, K + 4, _, by omega, by go_num, by first | go_num | (congr 1; omega), ?_, ?_, HR.out, HT.out⟩
        · have := hK.out; show K + 4 = k0 + 4 * (j + 1); omega
        · intro o ho
          have hKo := hK.out
          by_cases e3 : o = j * 4 + 3
          · subst e3; rw [mkU1 (by omega)]; simp only [if_true]; congr 2; omega
          by_cases e2 : o = j * 4 + 2
          · subst e2; rw [mkU1 (by omega)]; simp only [show ¬ j * 4 + 2 = j * 4 + 3 by omega, if_true, if_false]; congr 2; omega
          by_cases e1 : o = j * 4 + 1
          · subst e1; rw [mkU1 (by omega)]; simp only [show ¬ j * 4 + 1 = j * 4 + 3 by omega, show ¬ j * 4 + 1 = j * 4 + 2 by omega, if_true, if_false]; congr 2; omega
          by_cases e0 : o = j * 4
          · subst e0
            rw [mkU0 (by omega), show k0 + j * 4 = K by omega, ← HDQ.out]
            simp only [show ¬ j * 4 = j * 4 + 3 by omega, show ¬ j * 4 = j * 4 + 2 by omega, show ¬ j * 4 = j * 4 + 1 by omega, if_true, if_false]
          · simp only [e0, e1, e2, e3, if_false]; exact HF.out o (by omega)
      case measure => simp [intOf]; omega
    · have hjn : j = n := by omega
      subst hjn
      have hKK : K = k0 + 4 * j := hK.out
      subst hKK
      go_wp2
      go_ret
      exact ⟨rfl, ⟨hR.1, fun o ho => by rw [hR.2.1 o ho, HF.out o (by omega)], hR.2.2⟩, hbe⟩

end Go.Proofs.Ytclnpfpaabmkcab
