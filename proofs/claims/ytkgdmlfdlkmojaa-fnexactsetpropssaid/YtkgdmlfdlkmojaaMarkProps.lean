/-
  What the laws' own helps do that mark what is known, and look whether the marks are still there.
-/
import Derived.Test.YtkgdmlfdlkmojaaProps
import Derived.Test.YtkgdmlfdlkmojaaMarkText
import Derived.Test.YtkgdmlfdlkmojaaTurn
import Derived.Deep.RegionHeld3
namespace Go.Proofs.Ytkgdmlfdlkmojaa
open Go.RowKit M
set_option linter.unusedVariables false

/-- A row of n of them, its cells, none of them frozen. -/
def CellsP (w : World) (g n : Nat) (F : Nat → Value) : Prop := g < w.heap.size ∧ (∀ o, o < n * 3 → w.cell? ⟨g, o, none⟩ = some (F o)) ∧ ∀ i, w.frozen? ⟨g, i, none⟩ = false
/-- .. marked from k on. -/
def MarkP (w : World) (g n k : Nat) : Prop := CellsP w g n (fun o => .string (mt (k + o)))

theorem CellsP.of {w w' : World} {g n : Nat} {F : Nat → Value} (h : CellsP w g n F) (hz : g < w'.heap.size) (e : ∀ o', w'.cell? ⟨g, o', none⟩ = w.cell? ⟨g, o', none⟩) (f : ∀ o', w'.frozen? ⟨g, o', none⟩ = w.frozen? ⟨g, o', none⟩) : CellsP w' g n F :=
  ⟨hz, fun o ho => by rw [e]; exact h.2.1 o ho, fun i => by rw [f]; exact h.2.2 i⟩
theorem CellsP.below {w w' : World} {g n : Nat} {F : Nat → Value} (h : CellsP w g n F) (hb : Below w.heap.size w w') : CellsP w' g n F :=
  h.of (Nat.lt_of_lt_of_le h.1 hb.size) (fun o => hb.cell (p := ⟨g, o, none⟩) h.1) (fun o => hb.frozen (p := ⟨g, o, none⟩) h.1)
theorem CellsP.set {w : World} {g n : Nat} {F : Nat → Value} (h : CellsP w g n F) (o : Nat) (ho : o < n * 3) (v : Value) : CellsP (w.setCell ⟨g, o, none⟩ v) g n (fun i => if i = o then v else F i) := by
  refine ⟨by simpa using h.1, fun i hi => ?_, fun i => by rw [World.frozen?_setCell]; exact h.2.2 i⟩
  by_cases e : i = o
  · subst e
    rw [World.cell?_setCell_same _ _ _ (h.2.1 i hi)]
    simp
  · have hne : (⟨g, o, none⟩ : Addr) ≠ ⟨g, i, none⟩ := fun e' => e (congrArg Addr.off e').symm
    rw [World.cell?_setCell_other _ _ _ _ hne, h.2.1 i hi]
    simp [e]
theorem RowP.cellsP {w : World} {g : Nat} {ps : List Pp} (h : RowP w g ps) : ∃ F, CellsP w g ps.length F := by
  refine ⟨fun o => (w.cell? ⟨g, o, none⟩).getD (.string ByteArray.empty), h.1, fun o ho => ?_, h.2.2⟩
  have hj : o / 3 < ps.length := by omega
  obtain ⟨c0, c1, c2⟩ := h.2.1 (o / 3) hj
  have e : o = o / 3 * 3 ∨ o = o / 3 * 3 + 1 ∨ o = o / 3 * 3 + 2 := by omega
  rcases e with e | e | e
  · rw [← e] at c0; simp [c0]
  · rw [← e] at c1; simp [c1]
  · rw [← e] at c2; simp [c2]

set_option maxHeartbeats 2000000 in
theorem markPropS_from (g n cap k0 : Nat) (F0 : Nat → Value) (hl : n ≤ 1048576) (hk1 : 1 ≤ k0) (hk0 : k0 + 3 * n ≤ 50000000) (w : World) (h : CellsP w g n F0) :
    Calls Try.prog 22 #[.slice (some ⟨g, 0, none⟩) n cap, .int .i64 k0] w fun e w' => e = .returned (.int .i64 ((k0 + 3 * n : Nat) : Int)) ∧ MarkP w' g n k0 ∧ Turn (· = g) w w' := by
  go_enter Try.func22, Try.ntmps22
  go_wp2
  go_loopw [1, 5] (fun kv i wr => ∃ (j K : Nat) (F : Nat → Value), j ≤ n ∧ i = .int .i64 j ∧ kv = .int .i64 K ∧ Hid (K = k0 + 3 * j) ∧ (∀ o, o < 3 * j → F o = .string (mt (k0 + o))) ∧ CellsP wr g n F ∧ Turn (· = g) w wr) (fun _ i _ => n - (intOf i).toNat)
  case atStart => exact ⟨0, k0, F0, Nat.zero_le _, rfl, rfl, rfl, fun o ho => absurd ho (by omega), h, Turn.refl _ _⟩
  case round =>
    obtain ⟨j, K, F, hj, rfl, rfl, hK, hF, hR, hbe⟩ := hrel
    have HF := hide hF
    clear hF
    by_cases hlt : j < n
    · have hKb : K + 3 ≤ 50000000 ∧ 1 ≤ K := by have := hK.out; omega
      have hM0 := fun W => markText_any K hKb.2 (by omega) W
      have hM1 := fun W => markText_any (K + 1) (by omega) (by omega) W
      have hM2 := fun W => markText_any (K + 2) (by omega) (by omega) W
      have e1 : ((K + 1 : Nat) : Int) = (K : Int) + 1 := by omega
      have e2 : ((K + 2 : Nat) : Int) = (K : Int) + 1 + 1 := by omega
      rw [e1] at hM1
      rw [e2] at hM2
      have HM0 := hide hM0
      have HM1 := hide hM1
      have HM2 := hide hM2
      clear hM0 hM1 hM2 e1 e2
      go_wp2_with fail
      refine (HM0.out wr).mono ?_
      rintro e w1 ⟨rfl, b1⟩
      have hR1 := hR.below b1
      have hcn := hR1.2.1 (j * 3) (by omega)
      have hfn := hR1.2.2 (j * 3)
      have r1 := hR1.set (j * 3) (by omega) (.string (mt K))
      have t1 := (hbe.trans (Turn.of_below b1)).trans (Turn.set (S := (· = g)) w1 ⟨g, j * 3, none⟩ (.string (mt K)) rfl)
      clear hR hR1 b1 hbe
      go_wp2_with fail
      refine (HM1.out _).mono ?_
      rintro e w2 ⟨rfl, b2⟩
      have r2 := r1.below b2
      have hcn2 := r2.2.1 (j * 3 + 1) (by omega)
      have hfn2 := r2.2.2 (j * 3 + 1)
      have r3 := r2.set (j * 3 + 1) (by omega) (.string (mt (K + 1)))
      have t2 := (t1.trans (Turn.of_below b2)).trans (Turn.set (S := (· = g)) w2 ⟨g, j * 3 + 1, none⟩ (.string (mt (K + 1))) rfl)
      clear r1 r2 b2 t1
      go_wp2_with fail
      refine (HM2.out _).mono ?_
      rintro e w3 ⟨rfl, b3⟩
      have r4 := r3.below b3
      have hcn3 := r4.2.1 (j * 3 + 2) (by omega)
      have hfn3 := r4.2.2 (j * 3 + 2)
      have HR := hide (r4.set (j * 3 + 2) (by omega) (.string (mt (K + 2))))
      have HT := hide ((t2.trans (Turn.of_below b3)).trans (Turn.set (S := (· = g)) w3 ⟨g, j * 3 + 2, none⟩ (.string (mt (K + 2))) rfl))
      clear r3 r4 b3 t2
      go_wp2
      go_roundw
      case rel =>
        refine ⟨j + 1, K + 3, _, by omega, by go_num, by first | go_num | (congr 1; omega), ?_, ?_, HR.out, HT.out⟩
        · have := hK.out; show K + 3 = k0 + 3 * (j + 1); omega
        · intro o ho
          have hKo := hK.out
          by_cases e2 : o = j * 3 + 2
          · subst e2; simp only [if_true]; congr 2; omega
          · by_cases e1 : o = j * 3 + 1
            · subst e1; simp only [show ¬ j * 3 + 1 = j * 3 + 2 by omega, if_true, if_false]; congr 2; omega
            · by_cases e0 : o = j * 3
              · subst e0; simp only [show ¬ j * 3 = j * 3 + 2 by omega, show ¬ j * 3 = j * 3 + 1 by omega, if_true, if_false]; congr 2; omega
              · simp only [e0, e1, e2, if_false]; exact HF.out o (by omega)
      case measure => simp [intOf]; omega
    · have hjn : j = n := by omega
      subst hjn
      have hKK : K = k0 + 3 * j := hK.out
      subst hKK
      go_wp2
      go_ret
      exact ⟨rfl, ⟨hR.1, fun o ho => by rw [hR.2.1 o ho, HF.out o (by omega)], hR.2.2⟩, hbe⟩

set_option maxHeartbeats 4000000 in
set_option maxRecDepth 100000 in
theorem heldPropS_from (g n cap k0 : Nat) (hl : n ≤ 1048576) (hk1 : 1 ≤ k0) (hk0 : k0 + 3 * n ≤ 50000000) (w : World) (h : MarkP w g n k0) :
    Calls Try.prog 24 #[.slice (some ⟨g, 0, none⟩) n cap, .int .i64 k0] w fun e w' => e = .returned (.int .i64 ((k0 + 3 * n : Nat) : Int)) ∧ Below w.heap.size w w' := by
  go_enter Try.func24, Try.ntmps24
  go_wp2
  go_loopw [1, 5] (fun kv i wr => ∃ (j K : Nat), j ≤ n ∧ i = .int .i64 j ∧ kv = .int .i64 K ∧ Hid (K = k0 + 3 * j) ∧ Below w.heap.size w wr) (fun _ i _ => n - (intOf i).toNat)
  case atStart => exact ⟨0, k0, Nat.zero_le _, rfl, rfl, rfl, Below.refl _ _⟩
  case round =>
    obtain ⟨j, K, hj, rfl, rfl, hK, hbe⟩ := hrel
    by_cases hlt : j < n
    · have hKb : K + 3 ≤ 50000000 ∧ 1 ≤ K := by have := hK.out; omega
      have hM0 := fun W => markText_any K hKb.2 (by omega) W
      have hM1 := fun W => markText_any (K + 1) (by omega) (by omega) W
      have hM2 := fun W => markText_any (K + 2) (by omega) (by omega) W
      have e1 : ((K + 1 : Nat) : Int) = (K : Int) + 1 := by omega
      have e2 : ((K + 2 : Nat) : Int) = (K : Int) + 1 + 1 := by omega
      rw [e1] at hM1
      rw [e2] at hM2
      have HM0 := hide hM0
      have HM1 := hide hM1
      have HM2 := hide hM2
      clear hM0 hM1 hM2 e1 e2
      have hR := h.below hbe
      have hg1 := hR.1
      have hc0 : wr.cell? ⟨g, j * 3, none⟩ = some (.string (mt K)) := by rw [hR.2.1 (j * 3) (by omega)]; show some (Value.string (mt (k0 + (j * 3)))) = _; rw [show k0 + (j * 3) = K by have := hK.out; omega]
      have hc1 : wr.cell? ⟨g, j * 3 + 1, none⟩ = some (.string (mt (K + 1))) := by rw [hR.2.1 (j * 3 + 1) (by omega)]; show some (Value.string (mt (k0 + (j * 3 + 1)))) = _; rw [show k0 + (j * 3 + 1) = K + 1 by have := hK.out; omega]
      have hc2 : wr.cell? ⟨g, j * 3 + 2, none⟩ = some (.string (mt (K + 2))) := by rw [hR.2.1 (j * 3 + 2) (by omega)]; show some (Value.string (mt (k0 + (j * 3 + 2)))) = _; rw [show k0 + (j * 3 + 2) = K + 2 by have := hK.out; omega]
      have hi0 : (0 : Int) ≤ (j : Int) := by omega
      have hi1 : (j : Int) < (n : Int) := by omega
      clear hR
      go_wp2
      go_region_held3 (fun w' => w'.cell? ⟨g, j * 3, none⟩ = some (.string (mt K))) (first | go_keep | (exact (b1.cell (p := ⟨g, j * 3, none⟩) (by first | omega | (simp; omega))).trans (by assumption))) ((go_at_call 56; refine (HM0.out _).mono ?_; rintro e w1 ⟨rfl, b1⟩))
      all_goals
        have hb1 : Below wr.heap.size wr w1 := ((Below.refl wr.heap.size wr).drew).trans b1
        have hd1 := (hb1.cell (p := ⟨g, j * 3 + 1, none⟩) hg1).trans hc1
        have hd2 := (hb1.cell (p := ⟨g, j * 3 + 2, none⟩) hg1).trans hc2
        have hg2 : g < w1.heap.size := Nat.lt_of_lt_of_le hg1 hb1.size
        have c1 := hbe.trans (hb1.mono hbe.size)
        clear b1 hb1
        go_wp2
        go_region_held3 (fun w' => w'.cell? ⟨g, j * 3 + 1, none⟩ = some (.string (mt (K + 1)))) (first | go_keep | (exact (b2.cell (p := ⟨g, j * 3 + 1, none⟩) (by first | omega | (simp; omega))).trans (by assumption))) ((go_at_call 56; refine (HM1.out _).mono ?_; rintro e w2 ⟨rfl, b2⟩))
        all_goals
          have hb2 : Below w1.heap.size w1 w2 := ((Below.refl w1.heap.size w1).drew).trans b2
          have hd3 := (hb2.cell (p := ⟨g, j * 3 + 2, none⟩) hg2).trans hd2
          have hg3 : g < w2.heap.size := Nat.lt_of_lt_of_le hg2 hb2.size
          have c2 := c1.trans (hb2.mono c1.size)
          clear b2 hb2
          go_wp2
          go_region_held3 (fun w' => w'.cell? ⟨g, j * 3 + 2, none⟩ = some (.string (mt (K + 2)))) (first | go_keep | (exact (b3.cell (p := ⟨g, j * 3 + 2, none⟩) (by first | omega | (simp; omega))).trans (by assumption))) ((go_at_call 56; refine (HM2.out _).mono ?_; rintro e w3 ⟨rfl, b3⟩))
          all_goals
            have hb3 : Below w2.heap.size w2 w3 := ((Below.refl w2.heap.size w2).drew).trans b3
            have c3 := c2.trans (hb3.mono c2.size)
            clear b3 hb3
            go_wp2
            go_roundw
            case rel => exact ⟨j + 1, K + 3, by omega, by go_num, by first | go_num | (congr 1; omega), (by have := hK.out; show K + 3 = k0 + 3 * (j + 1); omega), c3⟩
            case measure => simp [intOf]; omega
    · have hjn : j = n := by omega
      subst hjn
      have hKK : K = k0 + 3 * j := hK.out
      subst hKK
      go_wp2
      go_ret
      exact ⟨rfl, hbe⟩
end Go.Proofs.Ytkgdmlfdlkmojaa
