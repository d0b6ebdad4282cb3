/-
  Marked sets that are looked at again.
-/
import Derived.Test.YtclnpfpaabmkcabMarkSets
namespace Go.Proofs.Ytclnpfpaabmkcab
open Go.RowKit M
set_option linter.unusedVariables false

set_option maxHeartbeats 4000000 in
set_option maxRecDepth 100000 in
theorem heldSetS_from (g n cap k0 : Nat) (hl : n ≤ 1048576) (hk1 : 1 ≤ k0) (hk0 : k0 + 4 * n ≤ 50000000) (w : World) (h : MarkU w g n k0) :
    Calls Try.prog 37 #[.slice (some ⟨g, 0, none⟩) n cap, .int .i64 k0] w fun e w' => e = .returned (.int .i64 ((k0 + 4 * n : Nat) : Int)) ∧ Below w.heap.size w w' := by
  go_enter Try.func37, Try.ntmps37
  go_wp2
  go_loopw [1, 5] (fun kv i wr => ∃ (j K : Nat), j ≤ n ∧ i = .int .i64 j ∧ kv = .int .i64 K ∧ Hid (K = k0 + 4 * j) ∧ Below w.heap.size w wr) (fun _ i _ => n - (intOf i).toNat)
  case atStart => exact ⟨0, k0, Nat.zero_le _, rfl, rfl, rfl, Below.refl _ _⟩
  case round =>
    obtain ⟨j, K, hj, rfl, rfl, hK, hbe⟩ := hrel
    by_cases hlt : j < n
    · have hKb : K + 4 ≤ 50000000 ∧ 1 ≤ K := by have := hK.out; omega
      have hM0 := fun W => markText_any (K + 1) (by omega) (by omega) W
      have hM1 := fun W => markText_any (K + 2) (by omega) (by omega) W
      have hM2 := fun W => markText_any (K + 3) (by omega) (by omega) W
      have e0 : ((K + 1 : Nat) : Int) = (K : Int) + 1 := by omega
      have e1 : ((K + 2 : Nat) : Int) = (K : Int) + 1 + 1 := by omega
      have e2 : ((K + 3 : Nat) : Int) = (K : Int) + 1 + 1 + 1 := by omega
      rw [e0] at hM0
      rw [e1] at hM1
      rw [e2] at hM2
      have HM0 := hide hM0
      have HM1 := hide hM1
      have HM2 := hide hM2
      clear hM0 hM1 hM2 e0 e1 e2
      have hR := h.below hbe
      have hg1 := hR.1
      have hc0 : wr.cell? ⟨g, j * 4, none⟩ = some (.bool ((K : Int) % 3 == 0)) := by rw [hR.2.1 (j * 4) (by omega)]; show some (mkU (j * 4) (k0 + (j * 4))) = _; rw [mkU0 (by omega), show k0 + (j * 4) = K by have := hK.out; omega, remI3]
      have hc1 : wr.cell? ⟨g, j * 4 + 1, none⟩ = some (.string (mt (K + 1))) := by rw [hR.2.1 (j * 4 + 1) (by omega)]; show some (mkU (j * 4 + 1) (k0 + (j * 4 + 1))) = _; rw [mkU1 (by omega), show k0 + (j * 4 + 1) = K + 1 by have := hK.out; omega]
      have hc2 : wr.cell? ⟨g, j * 4 + 2, none⟩ = some (.string (mt (K + 2))) := by rw [hR.2.1 (j * 4 + 2) (by omega)]; show some (mkU (j * 4 + 2) (k0 + (j * 4 + 2))) = _; rw [mkU1 (by omega), show k0 + (j * 4 + 2) = K + 2 by have := hK.out; omega]
      have hc3 : wr.cell? ⟨g, j * 4 + 3, none⟩ = some (.string (mt (K + 3))) := by rw [hR.2.1 (j * 4 + 3) (by omega)]; show some (mkU (j * 4 + 3) (k0 + (j * 4 + 3))) = _; rw [mkU1 (by omega), show k0 + (j * 4 + 3) = K + 3 by have := hK.out; omega]
      have hi0 : (0 : Int) ≤ (j : Int) := by omega
      have hi1 : (j : Int) < (n : Int) := by omega
      have hbb : (((K : Int) % 3 == 0) != ((K : Int) % 3 == 0)) = false := by simp
      clear hR
      go_wp2
      go_region_held3 (fun w' => w'.cell? ⟨g, j * 4 + 1, none⟩ = some (.string (mt (K + 1)))) (first | go_keep | (exact (b1.cell (p := ⟨g, j * 4 + 1, none⟩) (by first | omega | (simp; omega))).trans (by assumption))) ((go_at_call 82; refine (HM0.out _).mono ?_; rintro e w1 ⟨rfl, b1⟩))
      all_goals
        have hb1 : Below wr.heap.size wr w1 := ((Below.refl wr.heap.size wr).drew).trans b1
        have hd2 := (hb1.cell (p := ⟨g, j * 4 + 2, none⟩) hg1).trans hc2
        have hd3 := (hb1.cell (p := ⟨g, j * 4 + 3, none⟩) hg1).trans hc3
        have hg2 : g < w1.heap.size := Nat.lt_of_lt_of_le hg1 hb1.size
        have c1 := hbe.trans (hb1.mono hbe.size)
        clear b1 hb1
        go_wp2
        go_region_held3 (fun w' => w'.cell? ⟨g, j * 4 + 2, none⟩ = some (.string (mt (K + 2)))) (first | go_keep | (exact (b2.cell (p := ⟨g, j * 4 + 2, none⟩) (by first | omega | (simp; omega))).trans (by assumption))) ((go_at_call 82; refine (HM1.out _).mono ?_; rintro e w2 ⟨rfl, b2⟩))
        all_goals
          have hb2 : Below w1.heap.size w1 w2 := ((Below.refl w1.heap.size w1).drew).trans b2
          have hd4 := (hb2.cell (p := ⟨g, j * 4 + 3, none⟩) hg2).trans hd3
          have hg3 : g < w2.heap.size := Nat.lt_of_lt_of_le hg2 hb2.size
          have c2 := c1.trans (hb2.mono c1.size)
          clear b2 hb2
          go_wp2
          go_region_held3 (fun w' => w'.cell? ⟨g, j * 4 + 3, none⟩ = some (.string (mt (K + 3)))) (first | go_keep | (exact (b3.cell (p := ⟨g, j * 4 + 3, none⟩) (by first | omega | (simp; omega))).trans (by assumption))) ((go_at_call 82; refine (HM2.out _).mono ?_; rintro e w3 ⟨rfl, b3⟩))
          all_goals
            have hb3 : Below w2.heap.size w2 w3 := ((Below.refl w2.heap.size w2).drew).trans b3
            have c3 := c2.trans (hb3.mono c2.size)
            clear b3 hb3
            go_wp2
            go_roundw
            case rel => exact ⟨j + 1, K + 4, by omega, by go_num, by first | go_num | (congr 1; omega), (by have := hK.out; show K + 4 = k0 + 4 * (j + 1); omega), c3⟩
            case measure => simp [intOf]; omega
    · have hjn : j = n := by omega
      subst hjn
      have hKK : K = k0 + 4 * j := hK.out
      subst hKK
      go_wp2
      go_ret
      exact ⟨rfl, hbe⟩
end Go.Proofs.Ytclnpfpaabmkcab
