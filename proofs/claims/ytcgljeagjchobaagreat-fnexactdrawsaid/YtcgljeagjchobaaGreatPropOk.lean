/-
  What impl.propOk, cmp.Or[int] and impl.lessProp do.
-/
import Derived.Test.YtcgljeagjchobaaGreatGenPick
import Derived.Test.YtcgljeagjchobaaGreatMathBack3
import Derived.Test.YtcgljeagjchobaaGreatDigit
import Derived.Test.YtcgljeagjchobaaGreatSpecSmall
import Derived.Deep.RegionHeld3
namespace Go.Proofs.YtcgljeagjchobaaGreat
open Go.RowKit M
set_option linter.unusedVariables false

set_option maxHeartbeats 2000000 in
theorem propOk_any (p : Pp) (w : World) (h1 : p.1.size ≤ maxLen) (h2 : p.2.1.size ≤ maxLen) (h3 : p.2.2.size ≤ maxLen) :
    Calls Tryz.prog 126 #[.agg #[.string p.1, .string p.2.1, .string p.2.2]] w fun e w' => e = .returned (.bool (propB p)) ∧ Below w.heap.size w w' := by
  obtain ⟨x, y, z⟩ := p
  simp only at *
  have HB0 := hide (show Below w.heap.size w (w.alloc (Obj.cells #[.string x, .string y, .string z] 108)) from (Below.refl _ _).alloc (Nat.le_refl _) _)
  have HX := hide (fun W => plain_any x W h1)
  have HY := hide (fun W => smallName_any y W h2)
  have HZ := hide (fun W => plain_any z W h3)
  have HF := hide (show propB (x, y, z) = (decide (x.size ≤ 20) && (allB x.data.toList [0] && (smB y.data.toList && (decide (z.size ≤ 20) && allB z.data.toList [0])))) from rfl)
  generalize propB (x, y, z) = R at *
  generalize allB x.data.toList [0] = bx at *
  generalize smB y.data.toList = by' at *
  generalize allB z.data.toList [0] = bz at *
  cases bx
  · have hr : R = false := by rw [HF.out]; simp
    subst hr
    go_enter Tryz.func126, Tryz.ntmps126
    go_wp2_with fail
    refine (HX.out _).mono ?_
    rintro e w1 ⟨rfl, b1⟩
    have c1 := HB0.out.trans (b1.mono (by simp))
    clear b1
    go_wp2
    go_ret
    exact ⟨rfl, c1⟩
  by_cases hx : x.size ≤ 20
  · cases by'
    · have hr : R = false := by rw [HF.out]; simp
      subst hr
      go_enter Tryz.func126, Tryz.ntmps126
      go_wp2_with fail
      refine (HX.out _).mono ?_
      rintro e w1 ⟨rfl, b1⟩
      have c1 := HB0.out.trans (b1.mono (by simp))
      obtain ⟨hc, _⟩ := bcellP b1
      go_wp2_with fail
      refine (HY.out _).mono ?_
      rintro e w2 ⟨rfl, b2⟩
      have c2 := c1.trans (b2.mono c1.size)
      clear b1 b2 hc
      go_wp2
      go_ret
      exact ⟨rfl, c2⟩
    · cases bz
      · have hr : R = false := by rw [HF.out]; simp
        subst hr
        go_enter Tryz.func126, Tryz.ntmps126
        go_wp2_with fail
        refine (HX.out _).mono ?_
        rintro e w1 ⟨rfl, b1⟩
        have c1 := HB0.out.trans (b1.mono (by simp))
        obtain ⟨hc, _⟩ := bcellP b1
        go_wp2_with fail
        refine (HY.out _).mono ?_
        rintro e w2 ⟨rfl, b2⟩
        have c2 := c1.trans (b2.mono c1.size)
        obtain ⟨hc, _⟩ := bcellP (b1.trans (b2.mono b1.size))
        clear b1 b2
        go_wp2_with fail
        refine (HZ.out _).mono ?_
        rintro e w3 ⟨rfl, b3⟩
        have c3 := c2.trans (b3.mono c2.size)
        clear b3
        go_wp2
        go_ret
        exact ⟨rfl, c3⟩
      · have hr : R = decide (z.size ≤ 20) := by rw [HF.out]; simp [hx]
        subst hr
        go_enter Tryz.func126, Tryz.ntmps126
        go_wp2_with fail
        refine (HX.out _).mono ?_
        rintro e w1 ⟨rfl, b1⟩
        have c1 := HB0.out.trans (b1.mono (by simp))
        obtain ⟨hc, _⟩ := bcellP b1
        go_wp2_with fail
        refine (HY.out _).mono ?_
        rintro e w2 ⟨rfl, b2⟩
        have c2 := c1.trans (b2.mono c1.size)
        have b12 := b1.trans (b2.mono b1.size)
        obtain ⟨hc, _⟩ := bcellP b12
        clear b1 b2
        go_wp2_with fail
        refine (HZ.out _).mono ?_
        rintro e w3 ⟨rfl, b3⟩
        have c3 := c2.trans (b3.mono c2.size)
        obtain ⟨hc, _⟩ := bcellP (b12.trans (b3.mono b12.size))
        clear b3 b12
        go_wp2
        go_ret
        exact ⟨ret_bool (by simp; omega), c3⟩
  · have hr : R = false := by rw [HF.out]; simp [hx]
    subst hr
    go_enter Tryz.func126, Tryz.ntmps126
    go_wp2_with fail
    refine (HX.out _).mono ?_
    rintro e w1 ⟨rfl, b1⟩
    have c1 := HB0.out.trans (b1.mono (by simp))
    obtain ⟨hc, _⟩ := bcellP b1
    clear b1
    go_wp2
    go_ret
    exact ⟨rfl, c1⟩

set_option maxHeartbeats 400000 in
theorem cmpOr_any (g : Nat) (x y : Int) (w : World) (h0 : w.cell? ⟨g, 0, none⟩ = some (.int .i64 x)) (h1 : w.cell? ⟨g, 1, none⟩ = some (.int .i64 y)) :
    Calls Tryz.prog 141 #[.slice (some ⟨g, 0, none⟩) 2 2] w fun e w' => e = .returned (.int .i64 (orI x y)) ∧ w' = w := by
  go_enter Tryz.func141, Tryz.ntmps141
  go_wp2
  go_loop [8] (fun i => ∃ k : Nat, k ≤ 2 ∧ i = .int .i64 k ∧ (0 < k → x = 0) ∧ (1 < k → y = 0)) (fun i => 2 - (intOf i).toNat)
  case atStart => exact ⟨0, Nat.zero_le _, rfl, fun h => absurd h (by omega), fun h => absurd h (by omega)⟩
  case round =>
    obtain ⟨k, hk, rfl, hx, hy⟩ := hrel
    match k, hk with
    | 0, _ =>
      by_cases e : x = 0
      · go_wp2
        go_round
        case rel => exact ⟨1, by omega, by go_num, fun _ => e, fun h => absurd h (by omega)⟩
        case measure => simp [intOf]
      · have HO := hide (orI_yes (y := y) e)
        go_wp2
        go_ret
        exact ⟨by rw [HO.out]; rfl, rfl⟩
    | 1, _ =>
      have e0 := hx (by omega)
      have HO := hide (orI_no (y := y) e0)
      have E0 := hide e0
      clear hx hy e0
      by_cases e : y = 0
      · go_wp2
        go_round
        case rel => exact ⟨2, by omega, by go_num, fun _ => E0.out, fun _ => e⟩
        case measure => simp [intOf]
      · go_wp2
        go_ret
        exact ⟨by rw [HO.out]; rfl, rfl⟩
    | 2, _ =>
      have e0 := hx (by omega)
      have e1 := hy (by omega)
      have HO := hide ((orI_no (y := y) e0).trans e1)
      clear hx hy e0 e1
      go_wp2
      go_ret
      exact ⟨by rw [HO.out]; rfl, rfl⟩
end Go.Proofs.YtcgljeagjchobaaGreat
