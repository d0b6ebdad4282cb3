/-
  What impl.propOk, cmp.Or[int] and impl.lessProp do.
  What impl.lessProp does.
  What impl.ascending over what is known and impl.PropsOk do.
  What impl.verOk, impl.resOk, impl.lessRes and impl.ascending over things do.
  What impl.TreeOk does.
  What spec.Above does.
  A slice of integers as the row hands it in.
  Codes that are too long; what stays below what was there.
  The bytes of a draw as the row hands them in.
-/
import Derived.Test.YtifnolomekhmfaaGreatMathOrder
import Derived.Test.YtifnolomekhmfaaGreatEqBs
import Derived.Test.YtifnolomekhmfaaGreatSpecSmall
import Derived.Deep.RegionHeld3
import Derived.Test.YtifnolomekhmfaaGreatMathTree
import Derived.Test.YtifnolomekhmfaaGreatSpecLess
import Derived.Test.YtifnolomekhmfaaGreatIsColl
import Derived.Test.YtifnolomekhmfaaGreatHide
import Derived.Test.YtifnolomekhmfaaGreatMathPath
import Derived.Test.YtifnolomekhmfaaGreatRows
import Derived.OpenShut
import Derived.WalkKit
import Derived.WalkSpells
import Derived.WalkLawsBesides
namespace Go.Proofs.YtifnolomekhmfaaGreat
open Go.RowKit M
set_option linter.unusedVariables false

set_option maxHeartbeats 2000000 in
theorem propOk_any (p : Pp) (w : World) (h1 : p.1.size ≤ maxLen) (h2 : p.2.1.size ≤ maxLen) (h3 : p.2.2.size ≤ maxLen) :
    Calls Tryz.prog 91 #[.agg #[.string p.1, .string p.2.1, .string p.2.2]] w fun e w' => e = .returned (.bool (propB p)) ∧ Below w.heap.size w w' := by
  obtain ⟨x, y, z⟩ := p
  simp only at *
  have HB0 := hide (show Below w.heap.size w (w.alloc (Obj.cells #[.string x, .string y, .string z] 88)) from (Below.refl _ _).alloc (Nat.le_refl _) _)
  have HX := hide (fun W => plain_any x W h1)
  have HY := hide (fun W => smallName_any y W h2)
  have HZ := hide (fun W => plain_any z W h3)
  have HF := hide (show propB (x, y, z) = (decide (x.size ≤ 20) && (allB x.data.toList [0] && (smB y.data.toList && (decide (z.size ≤ 20) && allB z.data.toList [0])))) from rfl)
  generalize propB (x, y, z) = R at *
  generalize allB x.data.toList [0] = bx at *
  generalize smB y.data.toList = by' at *
  generalize allB z.data.toList [0] = bz at *
  cases bx
  · have hr : R = false := by rw [HF.out]; simp
    subst hr
    go_enter Tryz.func91, Tryz.ntmps91
    go_wp2_with fail
    refine (HX.out _).mono ?_
    rintro e w1 ⟨rfl, b1⟩
    have c1 := HB0.out.trans (b1.mono (by simp))
    clear b1
    go_wp2
    go_ret
    exact ⟨rfl, c1⟩
  by_cases hx : x.size ≤ 20
  · cases by'
    · have hr : R = false := by rw [HF.out]; simp
      subst hr
      go_enter Tryz.func91, Tryz.ntmps91
      go_wp2_with fail
      refine (HX.out _).mono ?_
      rintro e w1 ⟨rfl, b1⟩
      have c1 := HB0.out.trans (b1.mono (by simp))
      obtain ⟨hc, _⟩ := bcellP b1
      go_wp2_with fail
      refine (HY.out _).mono ?_
      rintro e w2 ⟨rfl, b2⟩
      have c2 := c1.trans (b2.mono c1.size)
      clear b1 b2 hc
      go_wp2
      go_ret
      exact ⟨rfl, c2⟩
    · cases bz
      · have hr : R = false := by rw [HF.out]; simp
        subst hr
        go_enter Tryz.func91, Tryz.ntmps91
        go_wp2_with fail
        refine (HX.out _).mono ?_
        rintro e w1 ⟨rfl, b1⟩
        have c1 := HB0.out.trans (b1.mono (by simp))
        obtain ⟨hc, _⟩ := bcellP b1
        go_wp2_with fail
        refine (HY.out _).mono ?_
        rintro e w2 ⟨rfl, b2⟩
        have c2 := c1.trans (b2.mono c1.size)
        obtain ⟨hc, _⟩ := bcellP (b1.trans (b2.mono b1.size))
        clear b1 b2
        go_wp2_with fail
        refine (HZ.out _).mono ?_
        rintro e w3 ⟨rfl, b3⟩
        have c3 := c2.trans (b3.mono c2.size)
        clear b3
        go_wp2
        go_ret
        exact ⟨rfl, c3⟩
      · have hr : R = decide (z.size ≤ 20) := by rw [HF.out]; simp [hx]
        subst hr
        go_enter Tryz.func91, Tryz.ntmps91
        go_wp2_with fail
        refine (HX.out _).mono ?_
        rintro e w1 ⟨rfl, b1⟩
        have c1 := HB0.out.trans (b1.mono (by simp))
        obtain ⟨hc, _⟩ := bcellP b1
        go_wp2_with fail
        refine (HY.out _).mono ?_
        rintro e w2 ⟨rfl, b2⟩
        have c2 := c1.trans (b2.mono c1.size)
        have b12 := b1.trans (b2.mono b1.size)
        obtain ⟨hc, _⟩ := bcellP b12
        clear b1 b2
        go_wp2_with fail
        refine (HZ.out _).mono ?_
        rintro e w3 ⟨rfl, b3⟩
        have c3 := c2.trans (b3.mono c2.size)
        obtain ⟨hc, _⟩ := bcellP (b12.trans (b3.mono b12.size))
        clear b3 b12
        go_wp2
        go_ret
        exact ⟨ret_bool (by simp; omega), c3⟩
  · have hr : R = false := by rw [HF.out]; simp [hx]
    subst hr
    go_enter Tryz.func91, Tryz.ntmps91
    go_wp2_with fail
    refine (HX.out _).mono ?_
    rintro e w1 ⟨rfl, b1⟩
    have c1 := HB0.out.trans (b1.mono (by simp))
    obtain ⟨hc, _⟩ := bcellP b1
    clear b1
    go_wp2
    go_ret
    exact ⟨rfl, c1⟩

set_option maxHeartbeats 400000 in
theorem cmpOr_any (g : Nat) (x y : Int) (w : World) (h0 : w.cell? ⟨g, 0, none⟩ = some (.int .i64 x)) (h1 : w.cell? ⟨g, 1, none⟩ = some (.int .i64 y)) :
    Calls Tryz.prog 126 #[.slice (some ⟨g, 0, none⟩) 2 2] w fun e w' => e = .returned (.int .i64 (orI x y)) ∧ w' = w := by
  go_enter Tryz.func126, Tryz.ntmps126
  go_wp2
  go_loop [8] (fun i => ∃ k : Nat, k ≤ 2 ∧ i = .int .i64 k ∧ (0 < k → x = 0) ∧ (1 < k → y = 0)) (fun i => 2 - (intOf i).toNat)
  case atStart => exact ⟨0, Nat.zero_le _, rfl, fun h => absurd h (by omega), fun h => absurd h (by omega)⟩
  case round =>
    obtain ⟨k, hk, rfl, hx, hy⟩ := hrel
    match k, hk with
    | 0, _ =>
      by_cases e : x = 0
      · go_wp2
        go_round
        case rel => exact ⟨1, by omega, by go_num, fun _ => e, fun h => absurd h (by omega)⟩
        case measure => simp [intOf]
      · have HO := hide (orI_yes (y := y) e)
        go_wp2
        go_ret
        exact ⟨by rw [HO.out]; rfl, rfl⟩
    | 1, _ =>
      have e0 := hx (by omega)
      have HO := hide (orI_no (y := y) e0)
      have E0 := hide e0
      clear hx hy e0
      by_cases e : y = 0
      · go_wp2
        go_round
        case rel => exact ⟨2, by omega, by go_num, fun _ => E0.out, fun _ => e⟩
        case measure => simp [intOf]
      · go_wp2
        go_ret
        exact ⟨by rw [HO.out]; rfl, rfl⟩
    | 2, _ =>
      have e0 := hx (by omega)
      have e1 := hy (by omega)
      have HO := hide ((orI_no (y := y) e0).trans e1)
      clear hx hy e0 e1
      go_wp2
      go_ret
      exact ⟨by rw [HO.out]; rfl, rfl⟩
end Go.Proofs.YtifnolomekhmfaaGreat
namespace Go.Proofs.YtifnolomekhmfaaGreat
open Go.RowKit M
set_option linter.unusedVariables false

theorem keepL {W : World} {a b c d : Addr} {x y u v : Value} (h : W.cell? a = some x ∧ W.cell? b = some y ∧ W.cell? c = some u ∧ W.cell? d = some v) (o : Obj) : (W.alloc o).cell? a = some x ∧ (W.alloc o).cell? b = some y ∧ (W.alloc o).cell? c = some u ∧ (W.alloc o).cell? d = some v := by
  rw [World.cell?_alloc_some W a o (by rw [h.1]; rfl), World.cell?_alloc_some W b o (by rw [h.2.1]; rfl), World.cell?_alloc_some W c o (by rw [h.2.2.1]; rfl), World.cell?_alloc_some W d o (by rw [h.2.2.2]; rfl)]
  exact h

theorem cell_new (W : World) (n : Nat) (cs : Array Value) (T : TypeId) (hn : n = W.heap.size) (i : Nat) (v : Value) (hi : cs[i]? = some v) : (W.alloc (.cells cs T)).drew.cell? ⟨n, i, none⟩ = some v := by
  subst hn
  show (W.alloc (.cells cs T)).cell? _ = _
  simp [hi]

set_option maxRecDepth 100000 in
set_option maxHeartbeats 4000000 in
theorem lessProp_any (p q : Pp) (w : World) :
    Calls Tryz.prog 93 #[.agg #[.string p.1, .string p.2.1, .string p.2.2], .agg #[.string q.1, .string q.2.1, .string q.2.2]] w fun e w' => e = .returned (.bool (lessP p q)) ∧ Below w.heap.size w w' := by
  have HF := hide (lessP_cmp p q)
  obtain ⟨x, y, z⟩ := p
  obtain ⟨x', y', z'⟩ := q
  simp only at *
  have HC := hide (fun W => compare_any x x' W)
  have HD := hide (fun W => compare_any y y' W)
  generalize lessP (x, y, z) (x', y', z') = R at *
  generalize cmpT x x' = c at *
  generalize cmpT y y' = d at *
  go_enter Tryz.func93, Tryz.ntmps93
  go_wp2
  refine wp_region_held_drew (S := (fun W => W.cell? ⟨w.heap.size, 0, none⟩ = some (.string x) ∧ W.cell? ⟨w.heap.size, 1, none⟩ = some (.string y) ∧ W.cell? ⟨w.heap.size + 1, 0, none⟩ = some (.string x') ∧ W.cell? ⟨w.heap.size + 1, 1, none⟩ = some (.string y'))) (by kernel_rfl) (by simp) (fun hHeld => ?_)
  simp only [List.size_toArray, List.length_cons, List.length_nil, Nat.reduceAdd, Array.replicate_succ, Array.replicate_zero, List.push_toArray, List.nil_append, List.cons_append]
  refine wpAnyH_take (i := 0) (v := ?_) rfl (by kernel_rfl) (by kernel_rfl) (by kernel_rfl) (fun _ _ _ h => h) (Or.inl ⟨by rfl, ?_⟩) (by assumption) ?_
  rotate_left
  · intro w hSw; (try dsimp only at hSw); go_simp; try with_reducible rfl
  simp only [Act.put, List.getElem_toArray, List.getElem_cons_zero, List.setIfInBounds_toArray, List.set_cons_zero]
  refine wpAnyH_take (i := 1) (v := ?_) rfl (by kernel_rfl) (by kernel_rfl) (by kernel_rfl) (fun _ _ _ h => h) (Or.inl ⟨by rfl, ?_⟩) (by assumption) ?_
  rotate_left
  · intro w hSw; (try dsimp only at hSw); go_simp; try with_reducible rfl
  simp only [Act.put, List.getElem_toArray, List.getElem_cons_succ, List.getElem_cons_zero, List.setIfInBounds_toArray, List.set_cons_succ, List.set_cons_zero]
  refine wpAnyH_take (i := 2) (v := ?_) rfl (by kernel_rfl) (by kernel_rfl) (by kernel_rfl) (fun _ _ _ h => h) (Or.inl ⟨by rfl, ?_⟩) (by assumption) ?_
  rotate_left
  · intro w hSw; (try dsimp only at hSw); go_simp; try with_reducible rfl
  simp only [Act.put, List.getElem_toArray, List.getElem_cons_succ, List.getElem_cons_zero, List.setIfInBounds_toArray, List.set_cons_succ, List.set_cons_zero]
  refine wpAnyH_take (i := 3) (v := ?_) rfl (by kernel_rfl) (by kernel_rfl) (by kernel_rfl) (fun _ _ _ h => h) (Or.inl ⟨by rfl, ?_⟩) (by assumption) ?_
  rotate_left
  · intro w hSw; (try dsimp only at hSw); go_simp; try with_reducible rfl
  simp only [Act.put, List.getElem_toArray, List.getElem_cons_succ, List.getElem_cons_zero, List.setIfInBounds_toArray, List.set_cons_succ, List.set_cons_zero]
  refine wpAnyH_take (i := 5) (v := ?_) rfl (by kernel_rfl) (by kernel_rfl) (by kernel_rfl) (fun _ _ _ h => h) (Or.inl ⟨by rfl, ?_⟩) (by assumption) ?_
  rotate_left
  · intro w hSw; (try dsimp only at hSw); go_simp; try with_reducible rfl
  simp only [Act.put, List.getElem_toArray, List.getElem_cons_succ, List.getElem_cons_zero, List.setIfInBounds_toArray, List.set_cons_succ, List.set_cons_zero]
  refine wpAnyH_take (i := 6) (v := ?_) rfl (by kernel_rfl) (by kernel_rfl) (by kernel_rfl) (fun _ _ _ h => h) (Or.inl ⟨by rfl, ?_⟩) (by assumption) ?_
  rotate_left
  · intro w hSw; (try dsimp only at hSw); go_simp; try with_reducible rfl
  simp only [Act.put, List.getElem_toArray, List.getElem_cons_succ, List.getElem_cons_zero, List.setIfInBounds_toArray, List.set_cons_succ, List.set_cons_zero]
  refine wpAnyH_take (i := 7) (v := ?_) rfl (by kernel_rfl) (by kernel_rfl) (by kernel_rfl) (fun _ _ _ h => h) (Or.inl ⟨by rfl, ?_⟩) (by assumption) ?_
  rotate_left
  · intro w hSw; (try dsimp only at hSw); go_simp; try with_reducible rfl
  simp only [Act.put, List.getElem_toArray, List.getElem_cons_succ, List.getElem_cons_zero, List.setIfInBounds_toArray, List.set_cons_succ, List.set_cons_zero]
  refine wpAnyH_take (i := 8) (v := ?_) rfl (by kernel_rfl) (by kernel_rfl) (by kernel_rfl) (fun _ _ _ h => h) (Or.inl ⟨by rfl, ?_⟩) (by assumption) ?_
  rotate_left
  · intro w hSw; (try dsimp only at hSw); go_simp; try with_reducible rfl
  simp only [Act.put, List.getElem_toArray, List.getElem_cons_succ, List.getElem_cons_zero, List.setIfInBounds_toArray, List.set_cons_succ, List.set_cons_zero]
  refine wpAnyH_ready (rs := [4]) (by kernel_rfl) (by simp) ?_
  refine AllReadyH.cons rfl (fun K hK => ?_) AllReadyH.nil
  go_simp
  refine (HC.out _).mono ?_
  rintro e w1 ⟨rfl, hw⟩
  obtain rfl := hw
  refine hK.out _ _ hHeld (fun hHeld2 => ?_)
  clear hK K hHeld
  have hHeld := hHeld2
  clear hHeld2
  simp only [List.setIfInBounds_toArray, List.set_cons_succ, List.set_cons_zero]
  refine wpAnyH_ready (rs := [9]) (by kernel_rfl) (by simp) ?_
  refine AllReadyH.cons rfl (fun K hK => ?_) AllReadyH.nil
  go_simp
  refine (HD.out _).mono ?_
  rintro e w2 ⟨rfl, hw⟩
  obtain rfl := hw
  refine hK.out _ _ hHeld (fun hHeld2 => ?_)
  clear hK K hHeld
  have hHeld := hHeld2
  clear hHeld2
  simp only [List.setIfInBounds_toArray, List.set_cons_succ, List.set_cons_zero]
  refine wpAnyH_ready (rs := [10]) (by kernel_rfl) (by simp) ?_
  refine AllReadyH.cons rfl (fun K hK => ?_) AllReadyH.nil
  go_simp
  refine hK.out _ _ (keepL hHeld _) (fun hHeld2 => ?_)
  clear hK K hHeld
  have hHeld := hHeld2
  clear hHeld2
  simp only [List.setIfInBounds_toArray, List.set_cons_succ, List.set_cons_zero]
  refine wpAnyH_ready (rs := [11]) (by kernel_rfl) (by simp) ?_
  refine AllReadyH.cons rfl (fun K hK => ?_) AllReadyH.nil
  go_simp
  refine (cmpOr_any _ c d _ (cell_new ((w.alloc _).alloc _) _ _ _ (by simp) 0 _ rfl) (cell_new ((w.alloc _).alloc _) _ _ _ (by simp) 1 _ rfl)).mono ?_
  rintro e w3 ⟨rfl, hw⟩
  obtain rfl := hw
  refine hK.out _ _ hHeld (fun hHeld2 => ?_)
  clear hK K hHeld
  have hHeld := hHeld2
  clear hHeld2
  simp only [List.setIfInBounds_toArray, List.set_cons_succ, List.set_cons_zero]
  refine wpAnyH_take (i := 12) (v := ?_) rfl (by kernel_rfl) (by kernel_rfl) (by kernel_rfl) (fun _ _ _ h => h) (Or.inl ⟨by rfl, ?_⟩) (by assumption) ?_
  rotate_left
  · intro w hSw; (try dsimp only at hSw); go_simp; try with_reducible rfl
  simp only [Act.put, List.getElem_toArray, List.getElem_cons_succ, List.getElem_cons_zero, List.setIfInBounds_toArray, List.set_cons_succ, List.set_cons_zero]
  refine wpAnyH_take (i := 13) (v := ?_) rfl (by kernel_rfl) (by kernel_rfl) (by kernel_rfl) (fun _ _ _ h => h) (Or.inl ⟨by rfl, ?_⟩) (by assumption) ?_
  rotate_left
  · intro w hSw; (try dsimp only at hSw); go_simp; try with_reducible rfl
  simp only [Act.put, List.getElem_toArray, List.getElem_cons_succ, List.getElem_cons_zero, List.setIfInBounds_toArray, List.set_cons_succ, List.set_cons_zero]
  refine wpAnyH_done (by kernel_rfl) ?_ _
  clear hHeld
  have HF2 := hide HF.out
  go_wp2
  go_ret
  refine ⟨ret_bool ?_, ?_⟩
  · exact HF2.out
  · exact below_drewP ((((Below.refl _ _).alloc (Nat.le_refl _) _).alloc (by simp) _).alloc (by simp; omega) _)
end Go.Proofs.YtifnolomekhmfaaGreat
namespace Go.Proofs.YtifnolomekhmfaaGreat
open Go.RowKit M
set_option linter.unusedVariables false

set_option maxRecDepth 100000 in
set_option maxHeartbeats 4000000 in
theorem ascProps_any (a : Option Addr) (ps : List Pp) (cap B : Nat) (w : World) (h : Pps w B a ps) (hB : B ≤ w.heap.size) (hl : ps.length ≤ maxLen) :
    Calls Tryz.prog 92 #[.slice a ps.length cap, .func (.func 93) #[] #[]] w fun e w' => e = .returned (.bool (ascB lessP ps)) ∧ Below w.heap.size w w' := by
  unfold maxLen at hl
  go_enter Tryz.func92, Tryz.ntmps92
  go_wp2
  go_loopw [5] (fun i wr => ∃ m : Nat, m ≤ ps.length ∧ i = .int .i64 ((m : Int) + 1) ∧ (∀ j (hj : j + 1 < ps.length), j < m → lessP ps[j] ps[j + 1] = true) ∧ Below w.heap.size w wr) (fun i _ => ps.length - (intOf i).toNat)
  case atStart => exact ⟨0, Nat.zero_le _, by simp, fun j _ hj => absurd hj (Nat.not_lt_zero _), Below.refl _ _⟩
  case round =>
    obtain ⟨m, hm, rfl, ht, hbe⟩ := hrel
    have HT := hide ht
    clear ht
    by_cases hlt : m + 1 < ps.length
    · obtain ⟨b, o, rfl, hb, hc⟩ := (h.below hbe hB) (by omega)
      obtain ⟨hx0, hx1, hx2⟩ := hc m (by omega)
      obtain ⟨hy0, hy1, hy2⟩ := hc (m + 1) hlt
      clear hc
      have hl1 : b < wr.drew.heap.size := by have := hbe.size; show b < wr.heap.size; omega
      have hbd : Below w.heap.size w wr.drew := below_drewP hbe
      have hq := lessProp_any ps[m] ps[m + 1] wr.drew
      have hi1 : IntKind.i64.wrap ((m : Int) + 1 - 1) = (m : Int) := by rw [IntKind.wrap_i64] <;> omega
      have hi2 : ((m : Int) + 1).toNat = m + 1 := by omega
      have hi3 : (m : Int) < (ps.length : Int) := by omega
      have hi4 : (m : Int) + 1 < (ps.length : Int) := by omega
      have hi5 : ¬ ((m : Int) + 1 < 0) := by omega
      have hi6 : IntKind.i64.wrap (m : Int) = (m : Int) := by rw [IntKind.wrap_i64] <;> omega
      have hi7 : (0 : Int) ≤ (m : Int) := by omega
      have hi8 : (0 : Int) ≤ (m : Int) + 1 := by omega
      obtain ⟨z, hz⟩ : ∃ z, lessP ps[m] ps[m + 1] = z := ⟨_, rfl⟩
      rw [hz] at hq
      have HZ := hide hz
      clear hz
      cases z
      · go_wp2
        go_region_held3 (fun W => W.cell? ⟨b, o + m * 3, none⟩ = some (.string ps[m].1) ∧ W.cell? ⟨b, o + m * 3 + 1, none⟩ = some (.string ps[m].2.1) ∧ W.cell? ⟨b, o + m * 3 + 2, none⟩ = some (.string ps[m].2.2) ∧ W.cell? ⟨b, o + (m + 1) * 3, none⟩ = some (.string ps[m + 1].1) ∧ W.cell? ⟨b, o + (m + 1) * 3 + 1, none⟩ = some (.string ps[m + 1].2.1) ∧ W.cell? ⟨b, o + (m + 1) * 3 + 2, none⟩ = some (.string ps[m + 1].2.2)) (first | exact ⟨hx0, hx1, hx2, hy0, hy1, hy2⟩ | (simp only [(bcellP hb3).1 b _ hl1]; exact ⟨hx0, hx1, hx2, hy0, hy1, hy2⟩)) ((go_at_call 93; refine hq.mono ?_; rintro e w1 ⟨rfl, hb3⟩))
        all_goals
          have c1 := hbd.trans (hb3.mono hbd.size)
          clear hq hb3
          go_wp2
          go_ret
          exact ⟨ret_bool (ascB_not lessP ps m hlt HZ.out).symm, c1⟩
      · go_wp2
        go_region_held3 (fun W => W.cell? ⟨b, o + m * 3, none⟩ = some (.string ps[m].1) ∧ W.cell? ⟨b, o + m * 3 + 1, none⟩ = some (.string ps[m].2.1) ∧ W.cell? ⟨b, o + m * 3 + 2, none⟩ = some (.string ps[m].2.2) ∧ W.cell? ⟨b, o + (m + 1) * 3, none⟩ = some (.string ps[m + 1].1) ∧ W.cell? ⟨b, o + (m + 1) * 3 + 1, none⟩ = some (.string ps[m + 1].2.1) ∧ W.cell? ⟨b, o + (m + 1) * 3 + 2, none⟩ = some (.string ps[m + 1].2.2)) (first | exact ⟨hx0, hx1, hx2, hy0, hy1, hy2⟩ | (simp only [(bcellP hb3).1 b _ hl1]; exact ⟨hx0, hx1, hx2, hy0, hy1, hy2⟩)) ((go_at_call 93; refine hq.mono ?_; rintro e w1 ⟨rfl, hb3⟩))
        all_goals
          have c1 := hbd.trans (hb3.mono hbd.size)
          clear hq hb3
          go_wp2
          go_roundw
          case rel => exact ⟨m + 1, by omega, by go_num, fun j hj hjm => by
                        by_cases e : j = m
                        · subst e; exact HZ.out
                        · exact HT.out j hj (by omega), c1⟩
          case measure => simp [intOf]; omega
    · have HE := hide (ascB_all lessP ps (fun j hj => HT.out j hj (by omega)))
      go_wp2
      go_ret
      exact ⟨ret_bool HE.out.symm, hbe⟩

set_option maxHeartbeats 2000000 in
theorem propsOk_any (a : Option Addr) (ps : List Pp) (cap B : Nat) (w : World) (h : Pps w B a ps) (hB : B ≤ w.heap.size) (hs : ShortPs ps) (hl : ps.length ≤ maxLen) :
    Calls Tryz.prog 40 #[.slice a ps.length cap] w fun e w' => e = .returned (.bool (propsB ps)) ∧ Below w.heap.size w w' := by
  have hl' := hl
  unfold maxLen at hl'
  by_cases h4 : ps.length ≤ 4
  · go_enter Tryz.func40, Tryz.ntmps40
    go_wp2
    go_loopw [10] (fun i wr => ∃ k : Nat, k ≤ ps.length ∧ i = .int .i64 k ∧ (∀ j (hj : j < ps.length), j < k → propB ps[j] = true) ∧ Below w.heap.size w wr) (fun i _ => ps.length - (intOf i).toNat)
    case atStart => exact ⟨0, Nat.zero_le _, rfl, fun j _ hj => absurd hj (Nat.not_lt_zero _), Below.refl _ _⟩
    case round =>
      obtain ⟨k, hk, rfl, ht, hbe⟩ := hrel
      have HT := hide ht
      clear ht
      by_cases hlt : k < ps.length
      · obtain ⟨b, o, rfl, hb, hc⟩ := (h.below hbe hB) (by omega)
        obtain ⟨hx0, hx1, hx2⟩ := hc k hlt
        have hsz := hs.at k hlt
        clear hc
        have HBA := hide ((Below.refl wr.heap.size wr).alloc (Nat.le_refl _) (Obj.cells #[.string (ps[k]).1, .string (ps[k]).2.1, .string (ps[k]).2.2] 88))
        have HQ := hide (propOk_any ps[k] (wr.alloc (Obj.cells #[.string (ps[k]).1, .string (ps[k]).2.1, .string (ps[k]).2.2] 88)) hsz.1 hsz.2.1 hsz.2.2)
        obtain ⟨z, hz⟩ : ∃ z, propB ps[k] = z := ⟨_, rfl⟩
        rw [hz] at HQ
        have HZ := hide hz
        clear hz hsz
        cases z
        · go_wp2_with fail
          refine HQ.out.mono ?_
          rintro e w1 ⟨rfl, hb3⟩
          have c1 := hbe.trans ((HBA.out.trans (hb3.mono HBA.out.size)).mono hbe.size)
          go_wp2
          go_ret
          exact ⟨ret_bool (propsB_bad k hlt HZ.out).symm, c1⟩
        · go_wp2_with fail
          refine HQ.out.mono ?_
          rintro e w1 ⟨rfl, hb3⟩
          have c1 := hbe.trans ((HBA.out.trans (hb3.mono HBA.out.size)).mono hbe.size)
          go_wp2
          go_roundw
          case rel => exact ⟨k + 1, by omega, by go_num, fun j hj hjk => by
                        by_cases e : j = k
                        · subst e; exact HZ.out
                        · exact HT.out j hj (by omega), c1⟩
          case measure => simp [intOf]; omega
      · have HE := hide (propsB_of (ps := ps) (fun j hj => HT.out j hj (by omega)))
        have HA := hide (ascProps_any a ps cap B wr (h.below hbe hB) (Nat.le_trans hB hbe.size) hl)
        go_wp2_with fail
        refine HA.out.mono ?_
        rintro e w1 ⟨rfl, hb1⟩
        have c1 := hbe.trans (hb1.mono hbe.size)
        go_wp2
        go_ret
        exact ⟨ret_bool (by rw [HE.out]; simp [h4]), c1⟩
  · have HE := hide (propsB_long h4)
    go_enter Tryz.func40, Tryz.ntmps40
    go_wp2
    go_ret
    exact ⟨ret_bool HE.out.symm, Below.refl _ _⟩
end Go.Proofs.YtifnolomekhmfaaGreat
namespace Go.Proofs.YtifnolomekhmfaaGreat
open Go.RowKit M
set_option linter.unusedVariables false

set_option maxHeartbeats 400000 in
theorem verOk_any (v : Int) (w : World) : Calls Tryz.prog 117 #[.int .i64 v] w fun e w' => e = .returned (.bool (inB v 0 99999)) ∧ w' = w := by
  by_cases h : 0 ≤ v
  · have HF := hide (show inB v 0 99999 = decide (v ≤ 99999) by unfold inB; simp [h])
    go_enter Tryz.func117, Tryz.ntmps117
    go_wp2
    go_ret
    exact ⟨ret_bool HF.out.symm, rfl⟩
  · have HF := hide (show inB v 0 99999 = false by unfold inB; simp [h])
    go_enter Tryz.func117, Tryz.ntmps117
    go_wp2
    go_ret
    exact ⟨ret_bool HF.out.symm, rfl⟩

theorem emptyT10 {x : ByteArray} (h : x.size = 0) : x.toList.isEmpty = true := by
  have : x.data.toList = [] := List.length_eq_zero_iff.1 h
  rw [ByteArray.toList_eq, this]; rfl
theorem emptyF10 {x : ByteArray} (h : ¬ x.size = 0) : x.toList.isEmpty = false := by
  have hl : x.data.toList.length = x.size := Array.length_toList
  rw [ByteArray.toList_eq]
  cases e : x.data.toList with
  | nil => rw [e] at hl; exact absurd hl.symm h
  | cons a b => rfl

set_option maxHeartbeats 4000000 in
theorem resOk_any (r : Rs) (pa : Option Addr) (pc : Nat) (qa : Option Addr) (qc B : Nat) (w : World) (h : RsIn w B r pa pc qa qc) (hB : B ≤ w.heap.size) (hs : ShortRs r) :
    Calls Tryz.prog 76 #[.agg #[.slice pa r.pa.length pc, .bool r.co, .string r.bo, .int .i64 r.ve, .slice qa r.ps.length qc]] w fun e w' => e = .returned (.bool (resB r)) ∧ Below w.heap.size w w' := by
  have h1 := h.ph
  have h2 := h.qh
  have s1 := hs.ps
  have s2 := hs.qs
  have l1 := hs.pl
  have l2 := hs.ql
  have lb := hs.bo
  clear h hs
  have HF := hide (show resB r = (decide (0 < r.pa.length) && (pathB r.pa && (decide (r.bo.size ≤ 200) && ((!r.co || decide (r.bo.size = 0)) && (inB r.ve 0 99999 && propsB r.ps))))) from rfl)
  generalize resB r = R at *
  obtain ⟨ss, co, bo, ve, ps⟩ := r
  simp only at *
  unfold maxLen at lb
  have hb0 : Below w.heap.size w (w.alloc (Obj.cells #[.slice pa ss.length pc, .bool co, .string bo, .int .i64 ve, .slice qa ps.length qc] 62)) := (Below.refl _ _).alloc (Nat.le_refl _) _
  have HB0 := hide hb0
  have k1 := (h1.below hb0 hB).mono (Nat.le_trans hB hb0.size)
  have HP := hide (pathOk_any pa ss pc _ k1 s1 l1)
  have H2 := hide h2
  have hl' := l1
  unfold maxLen at hl'
  clear hb0 k1 h1 h2
  by_cases a1 : 0 < ss.length
  rotate_left
  · have hr : R = false := by rw [HF.out]; simp [a1]
    subst hr
    go_enter Tryz.func76, Tryz.ntmps76
    go_wp2
    go_ret
    exact ⟨rfl, HB0.out⟩
  cases hp : pathB ss
  · have hr : R = false := by rw [HF.out, hp]; simp
    subst hr
    rw [hp] at HP
    go_enter Tryz.func76, Tryz.ntmps76
    go_wp2_with fail
    refine HP.out.mono ?_
    rintro e w1 ⟨rfl, b1⟩
    have c1 := HB0.out.trans (b1.mono (by simp))
    clear b1
    go_wp2
    go_ret
    exact ⟨rfl, c1⟩
  rw [hp] at HP
  by_cases a2 : bo.size ≤ 200
  rotate_left
  · have hr : R = false := by rw [HF.out]; simp [a2]
    subst hr
    go_enter Tryz.func76, Tryz.ntmps76
    go_wp2_with fail
    refine HP.out.mono ?_
    rintro e w1 ⟨rfl, b1⟩
    have c1 := HB0.out.trans (b1.mono (by simp))
    obtain ⟨hc, _⟩ := bcellP b1
    clear b1
    go_wp2
    go_ret
    exact ⟨rfl, c1⟩
  have HV := hide (fun W => verOk_any ve W)
  have HQ := hide (fun W (hb : Below w.heap.size w W) => propsOk_any qa ps qc B W (H2.out.below hb hB) (Nat.le_trans hB hb.size) s2 l2)
  have fin : ∀ (d : Bool), d = (!co || decide (bo.size = 0)) → Hid (R = (d && (inB ve 0 99999 && propsB ps))) := fun d hd => by
    show R = _
    rw [HF.out, hp, hd]
    simp [a1, a2]
  have FIN := hide fin
  clear fin HF
  generalize inB ve 0 99999 = bv at *
  generalize propsB ps = bq at *
  cases co
  · have hr := FIN.out true (by simp)
    clear FIN
    cases bv
    · have hr' : R = false := hr.out
      subst hr'
      go_enter Tryz.func76, Tryz.ntmps76
      go_wp2_with fail
      refine HP.out.mono ?_
      rintro e w1 ⟨rfl, b1⟩
      have c1 := HB0.out.trans (b1.mono (by simp))
      obtain ⟨hc, _⟩ := bcellP b1
      clear b1
      go_wp2_with fail
      refine (HV.out _).mono ?_
      rintro e w2 ⟨rfl, hw⟩
      obtain rfl := hw.symm
      go_wp2
      go_ret
      exact ⟨rfl, c1⟩
    · have hr' : R = bq := hr.out
      subst hr'
      go_enter Tryz.func76, Tryz.ntmps76
      go_wp2_with fail
      refine HP.out.mono ?_
      rintro e w1 ⟨rfl, b1⟩
      have c1 := HB0.out.trans (b1.mono (by simp))
      obtain ⟨hc, _⟩ := bcellP b1
      clear b1
      go_wp2_with fail
      refine (HV.out _).mono ?_
      rintro e w2 ⟨rfl, hw⟩
      obtain rfl := hw.symm
      have HQ1 := hide (HQ.out w1 c1)
      go_wp2_with fail
      refine HQ1.out.mono ?_
      rintro e w3 ⟨rfl, b3⟩
      have c3 := c1.trans (b3.mono c1.size)
      go_wp2
      go_ret
      exact ⟨rfl, c3⟩
  · by_cases a3 : bo.size = 0
    · have e3 := emptyT10 a3
      have hr := FIN.out true (by simp [a3])
      clear FIN
      have hz0 : bo.size ≤ 200 := a2
      clear a3
      cases bv
      · have hr' : R = false := hr.out
        subst hr'
        go_enter Tryz.func76, Tryz.ntmps76
        go_wp2_with fail
        refine HP.out.mono ?_
        rintro e w1 ⟨rfl, b1⟩
        have c1 := HB0.out.trans (b1.mono (by simp))
        obtain ⟨hc, _⟩ := bcellP b1
        clear b1
        go_wp2_with fail
        refine (HV.out _).mono ?_
        rintro e w2 ⟨rfl, hw⟩
        obtain rfl := hw.symm
        go_wp2
        go_ret
        exact ⟨rfl, c1⟩
      · have hr' : R = bq := hr.out
        subst hr'
        go_enter Tryz.func76, Tryz.ntmps76
        go_wp2_with fail
        refine HP.out.mono ?_
        rintro e w1 ⟨rfl, b1⟩
        have c1 := HB0.out.trans (b1.mono (by simp))
        obtain ⟨hc, _⟩ := bcellP b1
        clear b1
        go_wp2_with fail
        refine (HV.out _).mono ?_
        rintro e w2 ⟨rfl, hw⟩
        obtain rfl := hw.symm
        have HQ1 := hide (HQ.out w1 c1)
        go_wp2_with fail
        refine HQ1.out.mono ?_
        rintro e w3 ⟨rfl, b3⟩
        have c3 := c1.trans (b3.mono c1.size)
        go_wp2
        go_ret
        exact ⟨rfl, c3⟩
    · have e3 := emptyF10 a3
      have hr' : R = false := FIN.out false (by simp [a3])
      subst hr'
      clear FIN
      go_enter Tryz.func76, Tryz.ntmps76
      go_wp2_with fail
      refine HP.out.mono ?_
      rintro e w1 ⟨rfl, b1⟩
      have c1 := HB0.out.trans (b1.mono (by simp))
      obtain ⟨hc, _⟩ := bcellP b1
      clear b1
      go_wp2
      go_ret
      exact ⟨rfl, c1⟩

set_option maxHeartbeats 1000000 in
theorem lessRes_any (r s : Rs) (pa : Option Addr) (pc : Nat) (qa : Option Addr) (qc : Nat) (pa' : Option Addr) (pc' : Nat) (qa' : Option Addr) (qc' : Nat) (B C : Nat) (w : World) (h : RsIn w B r pa pc qa qc) (h' : RsIn w C s pa' pc' qa' qc') (hB : B ≤ w.heap.size) (hC : C ≤ w.heap.size) :
    Calls Tryz.prog 78 #[.agg #[.slice pa r.pa.length pc, .bool r.co, .string r.bo, .int .i64 r.ve, .slice qa r.ps.length qc], .agg #[.slice pa' s.pa.length pc', .bool s.co, .string s.bo, .int .i64 s.ve, .slice qa' s.ps.length qc']] w fun e w' => e = .returned (.bool (lessR r s)) ∧ Below w.heap.size w w' := by
  have l1 : r.pa.length ≤ maxLen := Nat.le_trans h.pl h.pm
  have l2 : s.pa.length ≤ maxLen := Nat.le_trans h'.pl h'.pm
  have p1 := h.ph
  have p2 := h'.ph
  have HF := hide (show lessR r s = lessL r.pa s.pa from rfl)
  generalize lessR r s = R at *
  clear h h'
  obtain ⟨ss, co, bo, ve, ps⟩ := r
  obtain ⟨ss', co', bo', ve', ps'⟩ := s
  simp only at *
  have hb0 : Below w.heap.size w ((w.alloc (Obj.cells #[.slice pa ss.length pc, .bool co, .string bo, .int .i64 ve, .slice qa ps.length qc] 62)).alloc (Obj.cells #[.slice pa' ss'.length pc', .bool co', .string bo', .int .i64 ve', .slice qa' ps'.length qc'] 62)) := ((Below.refl _ _).alloc (Nat.le_refl _) _).alloc (by simp) _
  have HE := hide (lessPath_any pa pa' ss ss' pc pc' B C _ (p1.below hb0 hB) (p2.below hb0 hC) l1 l2)
  have HB0 := hide hb0
  clear p1 p2 hb0
  go_enter Tryz.func78, Tryz.ntmps78
  go_wp2_with fail
  refine HE.out.mono ?_
  rintro e w1 ⟨rfl, hw⟩
  obtain rfl := hw
  go_wp2
  go_ret
  exact ⟨ret_bool HF.out.symm, HB0.out⟩

theorem keep10R {W w1 : World} {b o1 o2 : Nat} {r s : Rs} {pa : Option Addr} {pc : Nat} {qa : Option Addr} {qc : Nat} {pa' : Option Addr} {pc' : Nat} {qa' : Option Addr} {qc' : Nat} (hb : Below W.heap.size W w1) (h1 : b < W.heap.size)
    (h : RsAt W b o1 r pa pc qa qc ∧ RsAt W b o2 s pa' pc' qa' qc') : RsAt w1 b o1 r pa pc qa qc ∧ RsAt w1 b o2 s pa' pc' qa' qc' :=
  ⟨h.1.of (fun o' => (bcellP hb).1 b o' h1), h.2.of (fun o' => (bcellP hb).1 b o' h1)⟩

set_option maxRecDepth 100000 in
set_option maxHeartbeats 4000000 in
theorem ascRes_any (a : Option Addr) (rs : List Rs) (cap B : Nat) (w : World) (h : Rss w B a rs) (hB : B ≤ w.heap.size) (hl : rs.length ≤ maxLen) :
    Calls Tryz.prog 77 #[.slice a rs.length cap, .func (.func 78) #[] #[]] w fun e w' => e = .returned (.bool (ascB lessR rs)) ∧ Below w.heap.size w w' := by
  unfold maxLen at hl
  go_enter Tryz.func77, Tryz.ntmps77
  go_wp2
  go_loopw [5] (fun i wr => ∃ m : Nat, m ≤ rs.length ∧ i = .int .i64 ((m : Int) + 1) ∧ (∀ j (hj : j + 1 < rs.length), j < m → lessR rs[j] rs[j + 1] = true) ∧ Below w.heap.size w wr) (fun i _ => rs.length - (intOf i).toNat)
  case atStart => exact ⟨0, Nat.zero_le _, by simp, fun j _ hj => absurd hj (Nat.not_lt_zero _), Below.refl _ _⟩
  case round =>
    obtain ⟨m, hm, rfl, ht, hbe⟩ := hrel
    have HT := hide ht
    clear ht
    by_cases hlt : m + 1 < rs.length
    · obtain ⟨b, o, rfl, hb, hc⟩ := (h.below hbe hB) (by omega)
      obtain ⟨pa, pc, qa, qc, ha1, hi1⟩ := hc m (by omega)
      obtain ⟨pa', pc', qa', qc', ha2, hi2⟩ := hc (m + 1) hlt
      clear hc
      have hl1 : b < wr.drew.heap.size := by have := hbe.size; show b < wr.heap.size; omega
      have hbd : Below w.heap.size w wr.drew := below_drewP hbe
      have hq := lessRes_any rs[m] rs[m + 1] pa pc qa qc pa' pc' qa' qc' B B wr.drew hi1.drew hi2.drew (Nat.le_trans hB hbd.size) (Nat.le_trans hB hbd.size)
      have HX := hide (And.intro (ha1.of (w' := wr.drew) (fun _ => rfl)) (ha2.of (w' := wr.drew) (fun _ => rfl)))
      obtain ⟨hx0, hx1, hx2, hx3, hx4⟩ := ha1
      obtain ⟨hy0, hy1, hy2, hy3, hy4⟩ := ha2
      have hi1' : IntKind.i64.wrap ((m : Int) + 1 - 1) = (m : Int) := by rw [IntKind.wrap_i64] <;> omega
      have hi2' : ((m : Int) + 1).toNat = m + 1 := by omega
      have hi3 : (m : Int) < (rs.length : Int) := by omega
      have hi4 : (m : Int) + 1 < (rs.length : Int) := by omega
      have hi5 : ¬ ((m : Int) + 1 < 0) := by omega
      have hi6 : IntKind.i64.wrap (m : Int) = (m : Int) := by rw [IntKind.wrap_i64] <;> omega
      have hi7 : (0 : Int) ≤ (m : Int) := by omega
      have hi8 : (0 : Int) ≤ (m : Int) + 1 := by omega
      obtain ⟨z, hz⟩ : ∃ z, lessR rs[m] rs[m + 1] = z := ⟨_, rfl⟩
      rw [hz] at hq
      have HZ := hide hz
      clear hz hi1 hi2
      cases z
      · go_wp2
        go_region_held3 (fun W => (W.cell? ⟨b, o + m * 5, none⟩ = some (.slice pa rs[m].pa.length pc) ∧ W.cell? ⟨b, o + m * 5 + 1, none⟩ = some (.bool rs[m].co) ∧ W.cell? ⟨b, o + m * 5 + 2, none⟩ = some (.string rs[m].bo) ∧ W.cell? ⟨b, o + m * 5 + 3, none⟩ = some (.int .i64 rs[m].ve) ∧ W.cell? ⟨b, o + m * 5 + 4, none⟩ = some (.slice qa rs[m].ps.length qc)) ∧ (W.cell? ⟨b, o + (m + 1) * 5, none⟩ = some (.slice pa' rs[m + 1].pa.length pc') ∧ W.cell? ⟨b, o + (m + 1) * 5 + 1, none⟩ = some (.bool rs[m + 1].co) ∧ W.cell? ⟨b, o + (m + 1) * 5 + 2, none⟩ = some (.string rs[m + 1].bo) ∧ W.cell? ⟨b, o + (m + 1) * 5 + 3, none⟩ = some (.int .i64 rs[m + 1].ve) ∧ W.cell? ⟨b, o + (m + 1) * 5 + 4, none⟩ = some (.slice qa' rs[m + 1].ps.length qc'))) (first | exact HX.out | exact HX2.out) ((go_at_call 78; refine hq.mono ?_; rintro e w1 ⟨rfl, hb3⟩; have HX2 := hide (keep10R hb3 hl1 HX.out)))
        all_goals
          have c1 := hbd.trans (hb3.mono hbd.size)
          clear hq hb3
          go_wp2
          go_ret
          exact ⟨ret_bool (ascB_not lessR rs m hlt HZ.out).symm, c1⟩
      · go_wp2
        go_region_held3 (fun W => (W.cell? ⟨b, o + m * 5, none⟩ = some (.slice pa rs[m].pa.length pc) ∧ W.cell? ⟨b, o + m * 5 + 1, none⟩ = some (.bool rs[m].co) ∧ W.cell? ⟨b, o + m * 5 + 2, none⟩ = some (.string rs[m].bo) ∧ W.cell? ⟨b, o + m * 5 + 3, none⟩ = some (.int .i64 rs[m].ve) ∧ W.cell? ⟨b, o + m * 5 + 4, none⟩ = some (.slice qa rs[m].ps.length qc)) ∧ (W.cell? ⟨b, o + (m + 1) * 5, none⟩ = some (.slice pa' rs[m + 1].pa.length pc') ∧ W.cell? ⟨b, o + (m + 1) * 5 + 1, none⟩ = some (.bool rs[m + 1].co) ∧ W.cell? ⟨b, o + (m + 1) * 5 + 2, none⟩ = some (.string rs[m + 1].bo) ∧ W.cell? ⟨b, o + (m + 1) * 5 + 3, none⟩ = some (.int .i64 rs[m + 1].ve) ∧ W.cell? ⟨b, o + (m + 1) * 5 + 4, none⟩ = some (.slice qa' rs[m + 1].ps.length qc'))) (first | exact HX.out | exact HX2.out) ((go_at_call 78; refine hq.mono ?_; rintro e w1 ⟨rfl, hb3⟩; have HX2 := hide (keep10R hb3 hl1 HX.out)))
        all_goals
          have c1 := hbd.trans (hb3.mono hbd.size)
          clear hq hb3
          go_wp2
          go_roundw
          case rel => exact ⟨m + 1, by omega, by go_num, fun j hj hjm => by
                        by_cases e : j = m
                        · subst e; exact HZ.out
                        · exact HT.out j hj (by omega), c1⟩
          case measure => simp [intOf]; omega
    · have HE := hide (ascB_all lessR rs (fun j hj => HT.out j hj (by omega)))
      go_wp2
      go_ret
      exact ⟨ret_bool HE.out.symm, hbe⟩
end Go.Proofs.YtifnolomekhmfaaGreat
namespace Go.Proofs.YtifnolomekhmfaaGreat
open Go.RowKit Go.Maps M
set_option linter.unusedVariables false

set_option maxRecDepth 100000 in
set_option maxHeartbeats 4000000 in
theorem treeOk_any (a : Option Addr) (rs : List Rs) (cap B : Nat) (w : World) (h : Rss w B a rs) (hB : B ≤ w.heap.size) (hs : ShortT rs) (hl : rs.length ≤ maxLen) :
    Calls Tryz.prog 29 #[.slice a rs.length cap] w fun e w' => e = .returned (.bool (treeB rs)) ∧ Below w.heap.size w w' := by
  have hl' := hl
  unfold maxLen at hl'
  by_cases h12 : rs.length ≤ 12
  · go_enter Tryz.func29, Tryz.ntmps29
    go_wp2
    go_loopw [10] (fun i wr => ∃ k : Nat, k ≤ rs.length ∧ i = .int .i64 k ∧ (∀ j (hj : j < rs.length), j < k → resB rs[j] = true) ∧ Below w.heap.size w wr) (fun i _ => rs.length - (intOf i).toNat)
    case atStart => exact ⟨0, Nat.zero_le _, rfl, fun j _ hj => absurd hj (Nat.not_lt_zero _), Below.refl _ _⟩
    case round =>
      obtain ⟨k, hk, rfl, ht, hbe⟩ := hrel
      have HT := hide ht
      clear ht
      by_cases hlt : k < rs.length
      · obtain ⟨b1, o1, rfl, hb1, hcc⟩ := (h.below hbe hB) (by omega)
        obtain ⟨pa, pc, qa, qc, ⟨hc0, hc1, hc2, hc3, hc4⟩, hin⟩ := hcc k hlt
        clear hcc
        have HBA := hide ((Below.refl wr.heap.size wr).alloc (Nat.le_refl _) (Obj.cells #[.slice pa (rs[k]).pa.length pc, .bool (rs[k]).co, .string (rs[k]).bo, .int .i64 (rs[k]).ve, .slice qa (rs[k]).ps.length qc] 62))
        have HQ := hide (resOk_any rs[k] pa pc qa qc B _ (hin.below HBA.out (Nat.le_trans hB hbe.size)) (Nat.le_trans (Nat.le_trans hB hbe.size) HBA.out.size) (hs.at k hlt))
        obtain ⟨z, hz⟩ : ∃ z, resB rs[k] = z := ⟨_, rfl⟩
        rw [hz] at HQ
        have HZ := hide hz
        clear hz hin
        cases z
        · go_wp2_with fail
          refine HQ.out.mono ?_
          rintro e w1 ⟨rfl, hb3⟩
          have c1 := hbe.trans ((HBA.out.trans (hb3.mono HBA.out.size)).mono hbe.size)
          go_wp2
          go_ret
          exact ⟨ret_bool (treeB_bad k hlt HZ.out).symm, c1⟩
        · go_wp2_with fail
          refine HQ.out.mono ?_
          rintro e w1 ⟨rfl, hb3⟩
          have c1 := hbe.trans ((HBA.out.trans (hb3.mono HBA.out.size)).mono hbe.size)
          go_wp2
          go_roundw
          case rel => exact ⟨k + 1, by omega, by go_num, fun j hj hjk => by
                        by_cases e : j = k
                        · subst e; exact HZ.out
                        · exact HT.out j hj (by omega), c1⟩
          case measure => simp [intOf]; omega
      · have hres : ∀ j (hj : j < rs.length), resB rs[j] = true := fun j hj => HT.out j hj (by omega)
        have HE := hide (treeB_of hres)
        have hmem : ∀ r ∈ rs, resB r = true := fun r hr => by
          obtain ⟨j, hj, rfl⟩ := List.mem_iff_getElem.1 hr
          exact hres j hj
        have HA := hide (ascRes_any a rs cap B wr (h.below hbe hB) (Nat.le_trans hB hbe.size) hl)
        have HLN := hide (fun (e : ascB lessR rs = true) => left_none hmem e)
        have HLK := hide (fun W (hb : Below w.heap.size w W) => lacking_any a rs cap B W (h.below hb hB) (Nat.le_trans hB hb.size) h12 hmem)
        clear hres hmem
        obtain ⟨z, hz⟩ : ∃ z, ascB lessR rs = z := ⟨_, rfl⟩
        rw [hz] at HA HE HLN
        clear hz
        cases z
        · have HR0 := hide (show treeB rs = false by rw [HE.out]; simp)
          go_wp2_with fail
          refine HA.out.mono ?_
          rintro e w1 ⟨rfl, hb1⟩
          have c1 := hbe.trans (hb1.mono hbe.size)
          go_wp2
          go_ret
          exact ⟨ret_bool HR0.out.symm, c1⟩
        · have hr := hide (show treeB rs = rs.all (onB rs) by rw [HE.out]; simp [h12])
          go_wp2_with fail
          refine HA.out.mono ?_
          rintro e w1 ⟨rfl, hb1⟩
          have c1 := hbe.trans (hb1.mono hbe.size)
          have HL1 := hide (HLK.out w1 c1)
          clear hb1 HA HLK
          go_wp2_with fail
          refine HL1.out.mono ?_
          rintro e w2 ⟨rfl, ⟨n, D, hown, hho⟩, hb2⟩
          have c2 := c1.trans (hb2.mono c1.size)
          have hlen := fun ty => hown.len Tryz.underlying91 ty
          have HSZ := hide ((hho.size).trans (HLN.out (by trivial)))
          clear hb2 hown hho HL1 HLN
          go_wp2
          go_ret
          refine ⟨ret_bool ?_, c2⟩
          rw [hr.out]
          cases e : rs.all (onB rs)
          · rw [beq_eq_false_iff_ne]
            intro e2
            have e3 : Maps.size D = 0 := by omega
            have := HSZ.out.1 e3
            rw [e] at this
            cases this
          · rw [beq_iff_eq]
            have := HSZ.out.2 e
            omega
  · have HE := hide (treeB_long h12)
    go_enter Tryz.func29, Tryz.ntmps29
    go_wp2
    go_ret
    exact ⟨ret_bool HE.out.symm, Below.refl _ _⟩
end Go.Proofs.YtifnolomekhmfaaGreat
namespace Go.Proofs.YtifnolomekhmfaaGreat
open Go.RowKit M
set_option linter.unusedVariables false

/-- What a row of texts that the call owns holds, as a slice. -/
theorem owns_slice {w : World} {B n C : Nat} {v : Value} {ns : List ByteArray} (h : w.ownsRow B 9 1 v n (strCells ns)) (hn : ns.length = n) (hC : w.heap.size ≤ C) : ∃ a cap, v = .slice a n cap ∧ n ≤ cap ∧ cap ≤ maxLen ∧ Strs w C a ns := by
  subst hn
  rcases h.2 with ⟨rfl, h0⟩ | ⟨g, cap, cur, rfl, _, _, h1, h2, _⟩
  · exact ⟨none, 0, by rw [h0], by omega, Nat.zero_le _, fun hh => by omega⟩
  · refine ⟨_, cap, rfl, h1, h2, fun _ => ⟨g, 0, rfl, Nat.lt_of_lt_of_le (h.lt g rfl).2 hC, fun j hj => ?_⟩⟩
    rw [Nat.zero_add, h.cellAt j (by omega)]
    simp [strCells, List.getElem?_eq_getElem hj]

set_option maxHeartbeats 400000 in
theorem specAbove_any (g : Nat) (ss : List ByteArray) (cap B : Nat) (w : World) (h : Strs w B (some ⟨g, 0, none⟩) ss) (hB : B ≤ w.heap.size) (hl : ss.length ≤ 1048576) (hc : ss.length ≤ cap) (hc' : cap ≤ maxLen) :
    Calls Tryz.prog 46 #[.slice (some ⟨g, 0, none⟩) ss.length cap] w fun e w' => (∃ a2 c2, e = .returned (.slice a2 (aboveL ss).length c2) ∧ (aboveL ss).length ≤ c2 ∧ c2 ≤ maxLen ∧ Strs w' w'.heap.size a2 (aboveL ss)) ∧ Below w.heap.size w w' := by
  unfold maxLen at hc'
  by_cases h0 : ss.length = 0
  · have he : aboveL ss = [] := by rw [List.length_eq_zero_iff.1 h0]; rfl
    rw [he]
    rw [h0] at hc ⊢
    go_enter Tryz.func46, Tryz.ntmps46
    go_wp2
    go_ret
    exact ⟨⟨_, _, rfl, by simp, by unfold maxLen; omega, fun hh => absurd hh (by simp)⟩, (Below.refl _ _).alloc (Nat.le_refl _) _⟩
  · obtain ⟨n, hn⟩ : ∃ n, ss.length = n + 1 := ⟨ss.length - 1, by omega⟩
    have hn2 : n = (aboveL ss).length := by rw [aboveL_len, hn]; rfl
    have hcells : ∀ j (hj : j < (aboveL ss).length), w.cell? ⟨g, j, none⟩ = some (.string (aboveL ss)[j]) := by
      intro j hj
      obtain ⟨b, o, e, _, hc⟩ := (h.take (ss.length - 1)) (show 0 < (aboveL ss).length by omega)
      cases e
      have := hc j hj
      rw [Nat.zero_add] at this
      exact this
    have hgl : 0 < n → g < w.heap.size := by
      intro _
      obtain ⟨b, o, e, hb, _⟩ := h (by omega)
      cases e
      omega
    rw [← hn2, hn]
    have hl2 : n + 1 ≤ 1048576 := by omega
    have hc2 : n + 1 ≤ cap := by omega
    have HN := hide hn2
    have HC := hide hcells
    have HG := hide hgl
    clear hn2 hn hcells h0 hgl
    go_enter Tryz.func46, Tryz.ntmps46
    go_wp2_with (at_builtin; refine wp_append_all rfl _ _ rfl w.heap.size _ (aboveL ss) n HN.out rfl (World.ownsRow_made w #[] 0 (Nat.le_refl _) (by decide) rfl) g cap rfl ?c1 ?c2 ?c3 ?_)
    case c1 => intro j hj; rw [World.cell?_alloc_past _ g j (HG.out (by have := HN.out; omega))]; exact HC.out j hj
    case c2 => omega
    case c3 => simp
    intro v' w4 ho4 hb4
    obtain ⟨a2, c2, rfl, h1, h2, hst⟩ := owns_slice ho4 HN.out.symm (Nat.le_refl _)
    have HB := hide (((Below.refl w.heap.size w).alloc (Nat.le_refl _) (Obj.cells #[] 9)).trans hb4)
    clear hb4
    go_wp2
    go_ret
    exact ⟨⟨_, _, rfl, h1, h2, hst⟩, HB.out⟩
end Go.Proofs.YtifnolomekhmfaaGreat
namespace Go.Proofs.YtifnolomekhmfaaGreat
open Go.RowKit

/-- What the walk is told of a slice of integers that came in: it is nil; or it leads to a row of 'cap' cells, the numbers 'zs' (the first 'len' are its elements), each fitting its kind. -/
def IsRow (k : IntKind) (w : World) (a : Option Addr) (len cap : Nat) (zs : List Int) : Prop :=
  (a = none ∧ len = 0 ∧ cap = 0 ∧ zs = []) ∨
  ∃ x, a = some x ∧ len ≤ cap ∧ cap ≤ maxLen ∧ zs.length = cap ∧ (∀ i, i < zs.length → w.cell? (x.add i) = some (.int k (zs.getD i 0))) ∧ ∀ n ∈ zs, (Lit.int k n).wf = true
end Go.Proofs.YtifnolomekhmfaaGreat
namespace Go.Proofs.YtifnolomekhmfaaGreat
open Go.RowKit
set_option linter.unusedVariables false

set_option maxHeartbeats 400000 in
theorem big_any (a : Option Addr) (len cap : Nat) (w : World) (_hl : len ≤ maxLen) :
    Calls Tryz.prog 6 #[.slice a len cap] w fun e w' => e = .returned (.bool (decide ((1048576 : Int) < len))) ∧ w' = w := by
  unfold maxLen at _hl
  go_enter Tryz.func6, Tryz.ntmps6
  go_wp2
  go_ret
  exact ⟨rfl, rfl⟩

theorem row_len {w : World} {a : Option Addr} {len cap : Nat} {zs : List Int} (h : IsRow .u8 w a len cap zs) : len ≤ maxLen := by
  rcases h with ⟨_, rfl, _, _⟩ | ⟨x, _, hl, hm, _⟩
  · exact Nat.zero_le _
  · omega
end Go.Proofs.YtifnolomekhmfaaGreat
namespace Go.Proofs.YtifnolomekhmfaaGreat
open Go.RowKit M

theorem code_of_row {w : World} {a : Option Addr} {len cap : Nat} {zs : List Int} (h : IsRow .u8 w a len cap zs) (hlen : len ≤ 1048576) : CodeIn w w.heap.size a len zs := by
  rcases h with ⟨rfl, rfl, rfl, rfl⟩ | ⟨x, rfl, hl, hm, hz, hcell, hwz⟩
  · exact ⟨⟨Nat.le_refl _, fun j hj => absurd hj (Nat.not_lt_zero _), fun h => absurd h (Nat.lt_irrefl _)⟩, fun h => absurd h (Nat.lt_irrefl _), hlen, Nat.le_refl _⟩
  · obtain ⟨b, off, spot⟩ := x
    by_cases h0 : 0 < len
    · have hc := hcell 0 (by omega)
      have hspot : spot = none := by simpa [Addr.add] using World.cell?_spot hc
      subst hspot
      have hb : b < w.heap.size := by
        have := World.block_lt_of_cell? w _ hc
        simpa [Addr.add] using this
      refine ⟨⟨by omega, fun j hj => ?_, fun _ => ⟨b, off, rfl, fun j hj => ?_⟩⟩, fun _ b' off' e => ?_, hlen, Nat.le_refl _⟩
      · have hj' : j < zs.length := by omega
        refine bounds_u8 (hwz _ ?_)
        rw [List.getD_eq_getElem?_getD, List.getElem?_eq_getElem hj']
        exact List.getElem_mem hj'
      · have h1 := hcell j (by omega)
        have e : (⟨b, off, none⟩ : Addr).add j = ⟨b, off + j, none⟩ := by unfold Addr.add; split <;> simp_all
        rwa [e] at h1
      · cases e; exact hb
    · exact ⟨⟨by omega, fun j hj => absurd hj (by omega), fun h => absurd h h0⟩, fun h => absurd h h0, hlen, Nat.le_refl _⟩
end Go.Proofs.YtifnolomekhmfaaGreat
