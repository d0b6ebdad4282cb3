/-
  What spec.l10Prop and spec.l10LessProp do.
-/
import Derived.Test.YtcgljeagjchobaaGreatGenPick
import Derived.Test.YtcgljeagjchobaaGreatMathBack3
import Derived.Test.YtcgljeagjchobaaGreatAbove
import Derived.Test.YtcgljeagjchobaaGreatSpecSm
import Derived.Test.YtcgljeagjchobaaGreatTokenOk
namespace Go.Proofs.YtcgljeagjchobaaGreat
open Go.RowKit M
set_option linter.unusedVariables false

set_option maxHeartbeats 2000000 in
theorem specProp_any (p : Pp) (w : World) (h1 : p.1.size ≤ maxLen) (h2 : p.2.1.size ≤ maxLen) (h3 : p.2.2.size ≤ maxLen) :
    Calls Tryz.prog 93 #[.agg #[.string p.1, .string p.2.1, .string p.2.2]] w fun e w' => e = .returned (.bool (propB p)) ∧ Below w.heap.size w w' := by
  obtain ⟨x, y, z⟩ := p
  simp only at *
  have HB0 := hide (show Below w.heap.size w (w.alloc (Obj.cells #[.string x, .string y, .string z] 108)) from (Below.refl _ _).alloc (Nat.le_refl _) _)
  have HX := hide (fun W => specPlain_any x W h1)
  have HY := hide (fun W => specSmallName_any y W h2)
  have HZ := hide (fun W => specPlain_any z W h3)
  have HF := hide (show propB (x, y, z) = (decide (x.size ≤ 20) && (allB x.data.toList [0] && (smB y.data.toList && (decide (z.size ≤ 20) && allB z.data.toList [0])))) from rfl)
  generalize propB (x, y, z) = R at *
  generalize allB x.data.toList [0] = bx at *
  generalize smB y.data.toList = by' at *
  generalize allB z.data.toList [0] = bz at *
  by_cases hx : x.size ≤ 20
  · cases bx
    · have hr : R = false := by rw [HF.out]; simp
      subst hr
      go_enter Tryz.func93, Tryz.ntmps93
      go_wp2_with fail
      refine (HX.out _).mono ?_
      rintro e w1 ⟨rfl, hw⟩
      obtain rfl := hw
      go_wp2
      go_ret
      exact ⟨rfl, HB0.out⟩
    · cases by'
      · have hr : R = false := by rw [HF.out]; simp
        subst hr
        go_enter Tryz.func93, Tryz.ntmps93
        go_wp2_with fail
        refine (HX.out _).mono ?_
        rintro e w1 ⟨rfl, hw⟩
        obtain rfl := hw
        go_wp2_with fail
        refine (HY.out _).mono ?_
        rintro e w1 ⟨rfl, hw⟩
        obtain rfl := hw
        go_wp2
        go_ret
        exact ⟨rfl, HB0.out⟩
      · by_cases hz : z.size ≤ 20
        · have hr : R = bz := by rw [HF.out]; simp [hx, hz]
          subst hr
          go_enter Tryz.func93, Tryz.ntmps93
          go_wp2_with fail
          refine (HX.out _).mono ?_
          rintro e w1 ⟨rfl, hw⟩
          obtain rfl := hw
          go_wp2_with fail
          refine (HY.out _).mono ?_
          rintro e w1 ⟨rfl, hw⟩
          obtain rfl := hw
          go_wp2_with fail
          refine (HZ.out _).mono ?_
          rintro e w1 ⟨rfl, hw⟩
          obtain rfl := hw
          go_wp2
          go_ret
          exact ⟨rfl, HB0.out⟩
        · have hr : R = false := by rw [HF.out]; simp [hz]
          subst hr
          go_enter Tryz.func93, Tryz.ntmps93
          go_wp2_with fail
          refine (HX.out _).mono ?_
          rintro e w1 ⟨rfl, hw⟩
          obtain rfl := hw
          go_wp2_with fail
          refine (HY.out _).mono ?_
          rintro e w1 ⟨rfl, hw⟩
          obtain rfl := hw
          go_wp2
          go_ret
          exact ⟨rfl, HB0.out⟩
  · have hr : R = false := by rw [HF.out]; simp [hx]
    subst hr
    go_enter Tryz.func93, Tryz.ntmps93
    go_wp2
    go_ret
    exact ⟨rfl, HB0.out⟩

set_option maxHeartbeats 1000000 in
theorem specLessProp_any (p q : Pp) (w : World) :
    Calls Tryz.prog 94 #[.agg #[.string p.1, .string p.2.1, .string p.2.2], .agg #[.string q.1, .string q.2.1, .string q.2.2]] w fun e w' => e = .returned (.bool (lessP p q)) ∧ Below w.heap.size w w' := by
  obtain ⟨x, y, z⟩ := p
  obtain ⟨x', y', z'⟩ := q
  simp only
  have hb0 : Below w.heap.size w ((w.alloc (Obj.cells #[.string x, .string y, .string z] 108)).alloc (Obj.cells #[.string x', .string y', .string z'] 108)) := ((Below.refl _ _).alloc (Nat.le_refl _) _).alloc (by simp) _
  by_cases e : x = x'
  · have HF := hide (show lessP (x, y, z) (x', y', z') = Op.bytesLess y.toList y'.toList by unfold lessP; rw [if_pos e]; rfl)
    have hq : (x.toList == x'.toList) = true := by rw [e]; simp
    generalize lessP (x, y, z) (x', y', z') = R at *
    clear e
    go_enter Tryz.func94, Tryz.ntmps94
    go_wp2
    go_ret
    exact ⟨ret_bool HF.out.symm, hb0⟩
  · have HF := hide (show lessP (x, y, z) (x', y', z') = Op.bytesLess x.toList x'.toList by unfold lessP; rw [if_neg e]; rfl)
    have hq : (x.toList == x'.toList) = false := by rw [beq_eq_false_iff_ne]; exact fun e' => e (strInjP e')
    generalize lessP (x, y, z) (x', y', z') = R at *
    clear e
    go_enter Tryz.func94, Tryz.ntmps94
    go_wp2
    go_ret
    exact ⟨ret_bool HF.out.symm, hb0⟩
end Go.Proofs.YtcgljeagjchobaaGreat
