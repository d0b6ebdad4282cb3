/-
  What the program's Plain does.
  What SmallName (the program's) does.
  What impl.propOk, cmp.Or[int] and impl.lessProp do.
  What impl.lessProp does.
  What impl.ascending over what is known and impl.PropsOk do.
  What impl.verOk, impl.resOk, impl.lessRes and impl.ascending over things do.
  What impl.TreeOk does.
  Whether two slices of texts hold the same: what slices.Equal[[]string,string] does.
  What the program's SamePath does.
  What impl.FindRes does.
  What impl.isThere does.
  What impl.isThere, impl.pathsOk and impl.askRefused do.
-/
import Derived.Test.YtclnpfpaabmkcaaGreatAllOf
import Derived.Test.YtclnpfpaabmkcaaGreatEqBs
import Derived.Test.YtclnpfpaabmkcaaGreatMathOrder
import Derived.Deep.RegionHeld3
import Derived.Test.YtclnpfpaabmkcaaGreatSpecPathOk
import Derived.Test.YtclnpfpaabmkcaaGreatHide
import Derived.Test.YtclnpfpaabmkcaaGreatMathPath
namespace Go.Proofs.YtclnpfpaabmkcaaGreat
open Go.RowKit M

set_option maxHeartbeats 400000 in
theorem plain_any (s : ByteArray) (w : World) (hs : s.size ≤ maxLen) :
    Calls Tryz.prog 127 #[.string s] w fun e w' => e = .returned (.bool (allB s.data.toList [0])) ∧ Below w.heap.size w w' := by
  go_enter Tryz.func127, Tryz.ntmps127
  go_wp2_with (go_at_call 144; refine (allOf_any s [0] 1 _ 0 1 _ rfl hs (by decide) ?_).mono ?_)
  · intro i hi
    have : i = 0 := by simp at hi; omega
    subst this
    simp
  · rintro e w' ⟨rfl, rfl⟩
    go_wp2
    go_ret
    exact ⟨rfl, (Below.refl _ _).alloc (Nat.le_refl _) _⟩
end Go.Proofs.YtclnpfpaabmkcaaGreat
namespace Go.Proofs.YtclnpfpaabmkcaaGreat
open Go.RowKit M

set_option maxHeartbeats 400000 in
theorem smallName_any (s : ByteArray) (w : World) (hs : s.size ≤ maxLen) :
    Calls Tryz.prog 128 #[.string s] w fun e w' => e = .returned (.bool (smB s.data.toList)) ∧ Below w.heap.size w w' := by
  have hs' := hs
  unfold maxLen at hs'
  by_cases h0 : s.size < 1
  · have := smB_long s (.inl h0)
    have H : Hid (smB s.data.toList = false) := this
    clear this
    go_enter Tryz.func128, Tryz.ntmps128
    go_wp2
    go_ret
    exact ⟨ret_bool H.out.symm, Below.refl _ _⟩
  · by_cases h20 : 20 < s.size
    · have H : Hid (smB s.data.toList = false) := smB_long s (.inr h20)
      go_enter Tryz.func128, Tryz.ntmps128
      go_wp2
      go_ret
      exact ⟨ret_bool H.out.symm, Below.refl _ _⟩
    · have h1 : 0 < s.size := by omega
      have H : Hid (smB s.data.toList = (isB ((s[0]).toNat : Int) 2 && allB s.data.toList [2, 4, 7])) := smB_impl s h1 (by omega)
      cases hsm : isB ((s[0]).toNat : Int) 2
      · go_enter Tryz.func128, Tryz.ntmps128
        go_wp2_with (go_at_call 145; refine (isOneOf_any _ [2] 1 _ 0 1 _ rfl (by decide) (cells1 w 2 136)).mono ?_; rintro e w' ⟨rfl, rfl⟩; rw [anyB_one, hsm])
        go_ret
        exact ⟨ret_bool (by rw [H.out, hsm]; rfl), (Below.refl _ _).alloc (Nat.le_refl _) _⟩
      · go_enter Tryz.func128, Tryz.ntmps128
        go_wp2_with (first | (go_at_call 145; refine (isOneOf_any _ [2] 1 _ 0 1 _ rfl (by decide) (cells1 w 2 136)).mono ?_; rintro e w' ⟨rfl, rfl⟩; rw [anyB_one, hsm]) | (go_at_call 144; refine (allOf_any s [2, 4, 7] 3 _ 0 3 _ rfl hs (by decide) ?c1).mono ?_; rotate_left; rintro e w' ⟨rfl, rfl⟩))
        case c1 => exact cells3 _ _ 2 4 7 136 (by simp)
        go_ret
        exact ⟨ret_bool (by rw [H.out, hsm]; rfl), ((Below.refl _ _).alloc (Nat.le_refl _) _).alloc (by simp) _⟩
end Go.Proofs.YtclnpfpaabmkcaaGreat
namespace Go.Proofs.YtclnpfpaabmkcaaGreat
open Go.RowKit M
set_option linter.unusedVariables false

set_option maxHeartbeats 2000000 in
theorem propOk_any (p : Pp) (w : World) (h1 : p.1.size ≤ maxLen) (h2 : p.2.1.size ≤ maxLen) (h3 : p.2.2.size ≤ maxLen) :
    Calls Tryz.prog 96 #[.agg #[.string p.1, .string p.2.1, .string p.2.2]] w fun e w' => e = .returned (.bool (propB p)) ∧ Below w.heap.size w w' := by
  obtain ⟨x, y, z⟩ := p
  simp only at *
  have HB0 := hide (show Below w.heap.size w (w.alloc (Obj.cells #[.string x, .string y, .string z] 84)) from (Below.refl _ _).alloc (Nat.le_refl _) _)
  have HX := hide (fun W => plain_any x W h1)
  have HY := hide (fun W => smallName_any y W h2)
  have HZ := hide (fun W => plain_any z W h3)
  have HF := hide (show propB (x, y, z) = (decide (x.size ≤ 20) && (allB x.data.toList [0] && (smB y.data.toList && (decide (z.size ≤ 20) && allB z.data.toList [0])))) from rfl)
  generalize propB (x, y, z) = R at *
  generalize allB x.data.toList [0] = bx at *
  generalize smB y.data.toList = by' at *
  generalize allB z.data.toList [0] = bz at *
  cases bx
  · have hr : R = false := by rw [HF.out]; simp
    subst hr
    go_enter Tryz.func96, Tryz.ntmps96
    go_wp2_with fail
    refine (HX.out _).mono ?_
    rintro e w1 ⟨rfl, b1⟩
    have c1 := HB0.out.trans (b1.mono (by simp))
    clear b1
    go_wp2
    go_ret
    exact ⟨rfl, c1⟩
  by_cases hx : x.size ≤ 20
  · cases by'
    · have hr : R = false := by rw [HF.out]; simp
      subst hr
      go_enter Tryz.func96, Tryz.ntmps96
      go_wp2_with fail
      refine (HX.out _).mono ?_
      rintro e w1 ⟨rfl, b1⟩
      have c1 := HB0.out.trans (b1.mono (by simp))
      obtain ⟨hc, _⟩ := bcellP b1
      go_wp2_with fail
      refine (HY.out _).mono ?_
      rintro e w2 ⟨rfl, b2⟩
      have c2 := c1.trans (b2.mono c1.size)
      clear b1 b2 hc
      go_wp2
      go_ret
      exact ⟨rfl, c2⟩
    · cases bz
      · have hr : R = false := by rw [HF.out]; simp
        subst hr
        go_enter Tryz.func96, Tryz.ntmps96
        go_wp2_with fail
        refine (HX.out _).mono ?_
        rintro e w1 ⟨rfl, b1⟩
        have c1 := HB0.out.trans (b1.mono (by simp))
        obtain ⟨hc, _⟩ := bcellP b1
        go_wp2_with fail
        refine (HY.out _).mono ?_
        rintro e w2 ⟨rfl, b2⟩
        have c2 := c1.trans (b2.mono c1.size)
        obtain ⟨hc, _⟩ := bcellP (b1.trans (b2.mono b1.size))
        clear b1 b2
        go_wp2_with fail
        refine (HZ.out _).mono ?_
        rintro e w3 ⟨rfl, b3⟩
        have c3 := c2.trans (b3.mono c2.size)
        clear b3
        go_wp2
        go_ret
        exact ⟨rfl, c3⟩
      · have hr : R = decide (z.size ≤ 20) := by rw [HF.out]; simp [hx]
        subst hr
        go_enter Tryz.func96, Tryz.ntmps96
        go_wp2_with fail
        refine (HX.out _).mono ?_
        rintro e w1 ⟨rfl, b1⟩
        have c1 := HB0.out.trans (b1.mono (by simp))
        obtain ⟨hc, _⟩ := bcellP b1
        go_wp2_with fail
        refine (HY.out _).mono ?_
        rintro e w2 ⟨rfl, b2⟩
        have c2 := c1.trans (b2.mono c1.size)
        have b12 := b1.trans (b2.mono b1.size)
        obtain ⟨hc, _⟩ := bcellP b12
        clear b1 b2
        go_wp2_with fail
        refine (HZ.out _).mono ?_
        rintro e w3 ⟨rfl, b3⟩
        have c3 := c2.trans (b3.mono c2.size)
        obtain ⟨hc, _⟩ := bcellP (b12.trans (b3.mono b12.size))
        clear b3 b12
        go_wp2
        go_ret
        exact ⟨ret_bool (by simp; omega), c3⟩
  · have hr : R = false := by rw [HF.out]; simp [hx]
    subst hr
    go_enter Tryz.func96, Tryz.ntmps96
    go_wp2_with fail
    refine (HX.out _).mono ?_
    rintro e w1 ⟨rfl, b1⟩
    have c1 := HB0.out.trans (b1.mono (by simp))
    obtain ⟨hc, _⟩ := bcellP b1
    clear b1
    go_wp2
    go_ret
    exact ⟨rfl, c1⟩

set_option maxHeartbeats 400000 in
theorem cmpOr_any (g : Nat) (x y : Int) (w : World) (h0 : w.cell? ⟨g, 0, none⟩ = some (.int .i64 x)) (h1 : w.cell? ⟨g, 1, none⟩ = some (.int .i64 y)) :
    Calls Tryz.prog 129 #[.slice (some ⟨g, 0, none⟩) 2 2] w fun e w' => e = .returned (.int .i64 (orI x y)) ∧ w' = w := by
  go_enter Tryz.func129, Tryz.ntmps129
  go_wp2
  go_loop [8] (fun i => ∃ k : Nat, k ≤ 2 ∧ i = .int .i64 k ∧ (0 < k → x = 0) ∧ (1 < k → y = 0)) (fun i => 2 - (intOf i).toNat)
  case atStart => exact ⟨0, Nat.zero_le _, rfl, fun h => absurd h (by omega), fun h => absurd h (by omega)⟩
  case round =>
    obtain ⟨k, hk, rfl, hx, hy⟩ := hrel
    match k, hk with
    | 0, _ =>
      by_cases e : x = 0
      · go_wp2
        go_round
        case rel => exact ⟨1, by omega, by go_num, fun _ => e, fun h => absurd h (by omega)⟩
        case measure => simp [intOf]
      · have HO := hide (orI_yes (y := y) e)
        go_wp2
        go_ret
        exact ⟨by rw [HO.out]; rfl, rfl⟩
    | 1, _ =>
      have e0 := hx (by omega)
      have HO := hide (orI_no (y := y) e0)
      have E0 := hide e0
      clear hx hy e0
      by_cases e : y = 0
      · go_wp2
        go_round
        case rel => exact ⟨2, by omega, by go_num, fun _ => E0.out, fun _ => e⟩
        case measure => simp [intOf]
      · go_wp2
        go_ret
        exact ⟨by rw [HO.out]; rfl, rfl⟩
    | 2, _ =>
      have e0 := hx (by omega)
      have e1 := hy (by omega)
      have HO := hide ((orI_no (y := y) e0).trans e1)
      clear hx hy e0 e1
      go_wp2
      go_ret
      exact ⟨by rw [HO.out]; rfl, rfl⟩
end Go.Proofs.YtclnpfpaabmkcaaGreat
namespace Go.Proofs.YtclnpfpaabmkcaaGreat
open Go.RowKit M
set_option linter.unusedVariables false

theorem keepL {W : World} {a b c d : Addr} {x y u v : Value} (h : W.cell? a = some x ∧ W.cell? b = some y ∧ W.cell? c = some u ∧ W.cell? d = some v) (o : Obj) : (W.alloc o).cell? a = some x ∧ (W.alloc o).cell? b = some y ∧ (W.alloc o).cell? c = some u ∧ (W.alloc o).cell? d = some v := by
  rw [World.cell?_alloc_some W a o (by rw [h.1]; rfl), World.cell?_alloc_some W b o (by rw [h.2.1]; rfl), World.cell?_alloc_some W c o (by rw [h.2.2.1]; rfl), World.cell?_alloc_some W d o (by rw [h.2.2.2]; rfl)]
  exact h

theorem cell_new (W : World) (n : Nat) (cs : Array Value) (T : TypeId) (hn : n = W.heap.size) (i : Nat) (v : Value) (hi : cs[i]? = some v) : (W.alloc (.cells cs T)).drew.cell? ⟨n, i, none⟩ = some v := by
  subst hn
  show (W.alloc (.cells cs T)).cell? _ = _
  simp [hi]

set_option maxRecDepth 100000 in
set_option maxHeartbeats 4000000 in
theorem lessProp_any (p q : Pp) (w : World) :
    Calls Tryz.prog 98 #[.agg #[.string p.1, .string p.2.1, .string p.2.2], .agg #[.string q.1, .string q.2.1, .string q.2.2]] w fun e w' => e = .returned (.bool (lessP p q)) ∧ Below w.heap.size w w' := by
  have HF := hide (lessP_cmp p q)
  obtain ⟨x, y, z⟩ := p
  obtain ⟨x', y', z'⟩ := q
  simp only at *
  have HC := hide (fun W => compare_any x x' W)
  have HD := hide (fun W => compare_any y y' W)
  generalize lessP (x, y, z) (x', y', z') = R at *
  generalize cmpT x x' = c at *
  generalize cmpT y y' = d at *
  go_enter Tryz.func98, Tryz.ntmps98
  go_wp2
  refine wp_region_held_drew (S := (fun W => W.cell? ⟨w.heap.size, 0, none⟩ = some (.string x) ∧ W.cell? ⟨w.heap.size, 1, none⟩ = some (.string y) ∧ W.cell? ⟨w.heap.size + 1, 0, none⟩ = some (.string x') ∧ W.cell? ⟨w.heap.size + 1, 1, none⟩ = some (.string y'))) (by kernel_rfl) (by simp) (fun hHeld => ?_)
  simp only [List.size_toArray, List.length_cons, List.length_nil, Nat.reduceAdd, Array.replicate_succ, Array.replicate_zero, List.push_toArray, List.nil_append, List.cons_append]
  refine wpAnyH_take (i := 0) (v := ?_) rfl (by kernel_rfl) (by kernel_rfl) (by kernel_rfl) (fun _ _ _ h => h) (Or.inl ⟨by rfl, ?_⟩) (by assumption) ?_
  rotate_left
  · intro w hSw; (try dsimp only at hSw); go_simp; try with_reducible rfl
  simp only [Act.put, List.getElem_toArray, List.getElem_cons_zero, List.setIfInBounds_toArray, List.set_cons_zero]
  refine wpAnyH_take (i := 1) (v := ?_) rfl (by kernel_rfl) (by kernel_rfl) (by kernel_rfl) (fun _ _ _ h => h) (Or.inl ⟨by rfl, ?_⟩) (by assumption) ?_
  rotate_left
  · intro w hSw; (try dsimp only at hSw); go_simp; try with_reducible rfl
  simp only [Act.put, List.getElem_toArray, List.getElem_cons_succ, List.getElem_cons_zero, List.setIfInBounds_toArray, List.set_cons_succ, List.set_cons_zero]
  refine wpAnyH_take (i := 2) (v := ?_) rfl (by kernel_rfl) (by kernel_rfl) (by kernel_rfl) (fun _ _ _ h => h) (Or.inl ⟨by rfl, ?_⟩) (by assumption) ?_
  rotate_left
  · intro w hSw; (try dsimp only at hSw); go_simp; try with_reducible rfl
  simp only [Act.put, List.getElem_toArray, List.getElem_cons_succ, List.getElem_cons_zero, List.setIfInBounds_toArray, List.set_cons_succ, List.set_cons_zero]
  refine wpAnyH_take (i := 3) (v := ?_) rfl (by kernel_rfl) (by kernel_rfl) (by kernel_rfl) (fun _ _ _ h => h) (Or.inl ⟨by rfl, ?_⟩) (by assumption) ?_
  rotate_left
  · intro w hSw; (try dsimp only at hSw); go_simp; try with_reducible rfl
  simp only [Act.put, List.getElem_toArray, List.getElem_cons_succ, List.getElem_cons_zero, List.setIfInBounds_toArray, List.set_cons_succ, List.set_cons_zero]
  refine wpAnyH_take (i := 5) (v := ?_) rfl (by kernel_rfl) (by kernel_rfl) (by kernel_rfl) (fun _ _ _ h => h) (Or.inl ⟨by rfl, ?_⟩) (by assumption) ?_
  rotate_left
  · intro w hSw; (try dsimp only at hSw); go_simp; try with_reducible rfl
  simp only [Act.put, List.getElem_toArray, List.getElem_cons_succ, List.getElem_cons_zero, List.setIfInBounds_toArray, List.set_cons_succ, List.set_cons_zero]
  refine wpAnyH_take (i := 6) (v := ?_) rfl (by kernel_rfl) (by kernel_rfl) (by kernel_rfl) (fun _ _ _ h => h) (Or.inl ⟨by rfl, ?_⟩) (by assumption) ?_
  rotate_left
  · intro w hSw; (try dsimp only at hSw); go_simp; try with_reducible rfl
  simp only [Act.put, List.getElem_toArray, List.getElem_cons_succ, List.getElem_cons_zero, List.setIfInBounds_toArray, List.set_cons_succ, List.set_cons_zero]
  refine wpAnyH_take (i := 7) (v := ?_) rfl (by kernel_rfl) (by kernel_rfl) (by kernel_rfl) (fun _ _ _ h => h) (Or.inl ⟨by rfl, ?_⟩) (by assumption) ?_
  rotate_left
  · intro w hSw; (try dsimp only at hSw); go_simp; try with_reducible rfl
  simp only [Act.put, List.getElem_toArray, List.getElem_cons_succ, List.getElem_cons_zero, List.setIfInBounds_toArray, List.set_cons_succ, List.set_cons_zero]
  refine wpAnyH_take (i := 8) (v := ?_) rfl (by kernel_rfl) (by kernel_rfl) (by kernel_rfl) (fun _ _ _ h => h) (Or.inl ⟨by rfl, ?_⟩) (by assumption) ?_
  rotate_left
  · intro w hSw; (try dsimp only at hSw); go_simp; try with_reducible rfl
  simp only [Act.put, List.getElem_toArray, List.getElem_cons_succ, List.getElem_cons_zero, List.setIfInBounds_toArray, List.set_cons_succ, List.set_cons_zero]
  refine wpAnyH_ready (rs := [4]) (by kernel_rfl) (by simp) ?_
  refine AllReadyH.cons rfl (fun K hK => ?_) AllReadyH.nil
  go_simp
  refine (HC.out _).mono ?_
  rintro e w1 ⟨rfl, hw⟩
  obtain rfl := hw
  refine hK.out _ _ hHeld (fun hHeld2 => ?_)
  clear hK K hHeld
  have hHeld := hHeld2
  clear hHeld2
  simp only [List.setIfInBounds_toArray, List.set_cons_succ, List.set_cons_zero]
  refine wpAnyH_ready (rs := [9]) (by kernel_rfl) (by simp) ?_
  refine AllReadyH.cons rfl (fun K hK => ?_) AllReadyH.nil
  go_simp
  refine (HD.out _).mono ?_
  rintro e w2 ⟨rfl, hw⟩
  obtain rfl := hw
  refine hK.out _ _ hHeld (fun hHeld2 => ?_)
  clear hK K hHeld
  have hHeld := hHeld2
  clear hHeld2
  simp only [List.setIfInBounds_toArray, List.set_cons_succ, List.set_cons_zero]
  refine wpAnyH_ready (rs := [10]) (by kernel_rfl) (by simp) ?_
  refine AllReadyH.cons rfl (fun K hK => ?_) AllReadyH.nil
  go_simp
  refine hK.out _ _ (keepL hHeld _) (fun hHeld2 => ?_)
  clear hK K hHeld
  have hHeld := hHeld2
  clear hHeld2
  simp only [List.setIfInBounds_toArray, List.set_cons_succ, List.set_cons_zero]
  refine wpAnyH_ready (rs := [11]) (by kernel_rfl) (by simp) ?_
  refine AllReadyH.cons rfl (fun K hK => ?_) AllReadyH.nil
  go_simp
  refine (cmpOr_any _ c d _ (cell_new ((w.alloc _).alloc _) _ _ _ (by simp) 0 _ rfl) (cell_new ((w.alloc _).alloc _) _ _ _ (by simp) 1 _ rfl)).mono ?_
  rintro e w3 ⟨rfl, hw⟩
  obtain rfl := hw
  refine hK.out _ _ hHeld (fun hHeld2 => ?_)
  clear hK K hHeld
  have hHeld := hHeld2
  clear hHeld2
  simp only [List.setIfInBounds_toArray, List.set_cons_succ, List.set_cons_zero]
  refine wpAnyH_take (i := 12) (v := ?_) rfl (by kernel_rfl) (by kernel_rfl) (by kernel_rfl) (fun _ _ _ h => h) (Or.inl ⟨by rfl, ?_⟩) (by assumption) ?_
  rotate_left
  · intro w hSw; (try dsimp only at hSw); go_simp; try with_reducible rfl
  simp only [Act.put, List.getElem_toArray, List.getElem_cons_succ, List.getElem_cons_zero, List.setIfInBounds_toArray, List.set_cons_succ, List.set_cons_zero]
  refine wpAnyH_take (i := 13) (v := ?_) rfl (by kernel_rfl) (by kernel_rfl) (by kernel_rfl) (fun _ _ _ h => h) (Or.inl ⟨by rfl, ?_⟩) (by assumption) ?_
  rotate_left
  · intro w hSw; (try dsimp only at hSw); go_simp; try with_reducible rfl
  simp only [Act.put, List.getElem_toArray, List.getElem_cons_succ, List.getElem_cons_zero, List.setIfInBounds_toArray, List.set_cons_succ, List.set_cons_zero]
  refine wpAnyH_done (by kernel_rfl) ?_ _
  clear hHeld
  have HF2 := hide HF.out
  go_wp2
  go_ret
  refine ⟨ret_bool ?_, ?_⟩
  · exact HF2.out
  · exact below_drewP ((((Below.refl _ _).alloc (Nat.le_refl _) _).alloc (by simp) _).alloc (by simp; omega) _)
end Go.Proofs.YtclnpfpaabmkcaaGreat
namespace Go.Proofs.YtclnpfpaabmkcaaGreat
open Go.RowKit M
set_option linter.unusedVariables false

set_option maxRecDepth 100000 in
set_option maxHeartbeats 4000000 in
theorem ascProps_any (a : Option Addr) (ps : List Pp) (cap B : Nat) (w : World) (h : Pps w B a ps) (hB : B ≤ w.heap.size) (hl : ps.length ≤ maxLen) :
    Calls Tryz.prog 97 #[.slice a ps.length cap, .func (.func 98) #[] #[]] w fun e w' => e = .returned (.bool (ascB lessP ps)) ∧ Below w.heap.size w w' := by
  unfold maxLen at hl
  go_enter Tryz.func97, Tryz.ntmps97
  go_wp2
  go_loopw [5] (fun i wr => ∃ m : Nat, m ≤ ps.length ∧ i = .int .i64 ((m : Int) + 1) ∧ (∀ j (hj : j + 1 < ps.length), j < m → lessP ps[j] ps[j + 1] = true) ∧ Below w.heap.size w wr) (fun i _ => ps.length - (intOf i).toNat)
  case atStart => exact ⟨0, Nat.zero_le _, by simp, fun j _ hj => absurd hj (Nat.not_lt_zero _), Below.refl _ _⟩
  case round =>
    obtain ⟨m, hm, rfl, ht, hbe⟩ := hrel
    have HT := hide ht
    clear ht
    by_cases hlt : m + 1 < ps.length
    · obtain ⟨b, o, rfl, hb, hc⟩ := (h.below hbe hB) (by omega)
      obtain ⟨hx0, hx1, hx2⟩ := hc m (by omega)
      obtain ⟨hy0, hy1, hy2⟩ := hc (m + 1) hlt
      clear hc
      have hl1 : b < wr.drew.heap.size := by have := hbe.size; show b < wr.heap.size; omega
      have hbd : Below w.heap.size w wr.drew := below_drewP hbe
      have hq := lessProp_any ps[m] ps[m + 1] wr.drew
      have hi1 : IntKind.i64.wrap ((m : Int) + 1 - 1) = (m : Int) := by rw [IntKind.wrap_i64] <;> omega
      have hi2 : ((m : Int) + 1).toNat = m + 1 := by omega
      have hi3 : (m : Int) < (ps.length : Int) := by omega
      have hi4 : (m : Int) + 1 < (ps.length : Int) := by omega
      have hi5 : ¬ ((m : Int) + 1 < 0) := by omega
      have hi6 : IntKind.i64.wrap (m : Int) = (m : Int) := by rw [IntKind.wrap_i64] <;> omega
      have hi7 : (0 : Int) ≤ (m : Int) := by omega
      have hi8 : (0 : Int) ≤ (m : Int) + 1 := by omega
      obtain ⟨z, hz⟩ : ∃ z, lessP ps[m] ps[m + 1] = z := ⟨_, rfl⟩
      rw [hz] at hq
      have HZ := hide hz
      clear hz
      cases z
      · go_wp2
        go_region_held3 (fun W => W.cell? ⟨b, o + m * 3, none⟩ = some (.string ps[m].1) ∧ W.cell? ⟨b, o + m * 3 + 1, none⟩ = some (.string ps[m].2.1) ∧ W.cell? ⟨b, o + m * 3 + 2, none⟩ = some (.string ps[m].2.2) ∧ W.cell? ⟨b, o + (m + 1) * 3, none⟩ = some (.string ps[m + 1].1) ∧ W.cell? ⟨b, o + (m + 1) * 3 + 1, none⟩ = some (.string ps[m + 1].2.1) ∧ W.cell? ⟨b, o + (m + 1) * 3 + 2, none⟩ = some (.string ps[m + 1].2.2)) (first | exact ⟨hx0, hx1, hx2, hy0, hy1, hy2⟩ | (simp only [(bcellP hb3).1 b _ hl1]; exact ⟨hx0, hx1, hx2, hy0, hy1, hy2⟩)) ((go_at_call 98; refine hq.mono ?_; rintro e w1 ⟨rfl, hb3⟩))
        all_goals
          have c1 := hbd.trans (hb3.mono hbd.size)
          clear hq hb3
          go_wp2
          go_ret
          exact ⟨ret_bool (ascB_not lessP ps m hlt HZ.out).symm, c1⟩
      · go_wp2
        go_region_held3 (fun W => W.cell? ⟨b, o + m * 3, none⟩ = some (.string ps[m].1) ∧ W.cell? ⟨b, o + m * 3 + 1, none⟩ = some (.string ps[m].2.1) ∧ W.cell? ⟨b, o + m * 3 + 2, none⟩ = some (.string ps[m].2.2) ∧ W.cell? ⟨b, o + (m + 1) * 3, none⟩ = some (.string ps[m + 1].1) ∧ W.cell? ⟨b, o + (m + 1) * 3 + 1, none⟩ = some (.string ps[m + 1].2.1) ∧ W.cell? ⟨b, o + (m + 1) * 3 + 2, none⟩ = some (.string ps[m + 1].2.2)) (first | exact ⟨hx0, hx1, hx2, hy0, hy1, hy2⟩ | (simp only [(bcellP hb3).1 b _ hl1]; exact ⟨hx0, hx1, hx2, hy0, hy1, hy2⟩)) ((go_at_call 98; refine hq.mono ?_; rintro e w1 ⟨rfl, hb3⟩))
        all_goals
          have c1 := hbd.trans (hb3.mono hbd.size)
          clear hq hb3
          go_wp2
          go_roundw
          case rel => exact ⟨m + 1, by omega, by go_num, fun j hj hjm => by
                        by_cases e : j = m
                        · subst e; exact HZ.out
                        · exact HT.out j hj (by omega), c1⟩
          case measure => simp [intOf]; omega
    · have HE := hide (ascB_all lessP ps (fun j hj => HT.out j hj (by omega)))
      go_wp2
      go_ret
      exact ⟨ret_bool HE.out.symm, hbe⟩

set_option maxHeartbeats 2000000 in
theorem propsOk_any (a : Option Addr) (ps : List Pp) (cap B : Nat) (w : World) (h : Pps w B a ps) (hB : B ≤ w.heap.size) (hs : ShortPs ps) (hl : ps.length ≤ maxLen) :
    Calls Tryz.prog 45 #[.slice a ps.length cap] w fun e w' => e = .returned (.bool (propsB ps)) ∧ Below w.heap.size w w' := by
  have hl' := hl
  unfold maxLen at hl'
  by_cases h4 : ps.length ≤ 4
  · go_enter Tryz.func45, Tryz.ntmps45
    go_wp2
    go_loopw [10] (fun i wr => ∃ k : Nat, k ≤ ps.length ∧ i = .int .i64 k ∧ (∀ j (hj : j < ps.length), j < k → propB ps[j] = true) ∧ Below w.heap.size w wr) (fun i _ => ps.length - (intOf i).toNat)
    case atStart => exact ⟨0, Nat.zero_le _, rfl, fun j _ hj => absurd hj (Nat.not_lt_zero _), Below.refl _ _⟩
    case round =>
      obtain ⟨k, hk, rfl, ht, hbe⟩ := hrel
      have HT := hide ht
      clear ht
      by_cases hlt : k < ps.length
      · obtain ⟨b, o, rfl, hb, hc⟩ := (h.below hbe hB) (by omega)
        obtain ⟨hx0, hx1, hx2⟩ := hc k hlt
        have hsz := hs.at k hlt
        clear hc
        have HBA := hide ((Below.refl wr.heap.size wr).alloc (Nat.le_refl _) (Obj.cells #[.string (ps[k]).1, .string (ps[k]).2.1, .string (ps[k]).2.2] 84))
        have HQ := hide (propOk_any ps[k] (wr.alloc (Obj.cells #[.string (ps[k]).1, .string (ps[k]).2.1, .string (ps[k]).2.2] 84)) hsz.1 hsz.2.1 hsz.2.2)
        obtain ⟨z, hz⟩ : ∃ z, propB ps[k] = z := ⟨_, rfl⟩
        rw [hz] at HQ
        have HZ := hide hz
        clear hz hsz
        cases z
        · go_wp2_with fail
          refine HQ.out.mono ?_
          rintro e w1 ⟨rfl, hb3⟩
          have c1 := hbe.trans ((HBA.out.trans (hb3.mono HBA.out.size)).mono hbe.size)
          go_wp2
          go_ret
          exact ⟨ret_bool (propsB_bad k hlt HZ.out).symm, c1⟩
        · go_wp2_with fail
          refine HQ.out.mono ?_
          rintro e w1 ⟨rfl, hb3⟩
          have c1 := hbe.trans ((HBA.out.trans (hb3.mono HBA.out.size)).mono hbe.size)
          go_wp2
          go_roundw
          case rel => exact ⟨k + 1, by omega, by go_num, fun j hj hjk => by
                        by_cases e : j = k
                        · subst e; exact HZ.out
                        · exact HT.out j hj (by omega), c1⟩
          case measure => simp [intOf]; omega
      · have HE := hide (propsB_of (ps := ps) (fun j hj => HT.out j hj (by omega)))
        have HA := hide (ascProps_any a ps cap B wr (h.below hbe hB) (Nat.le_trans hB hbe.size) hl)
        go_wp2_with fail
        refine HA.out.mono ?_
        rintro e w1 ⟨rfl, hb1⟩
        have c1 := hbe.trans (hb1.mono hbe.size)
        go_wp2
        go_ret
        exact ⟨ret_bool (by rw [HE.out]; simp [h4]), c1⟩
  · have HE := hide (propsB_long h4)
    go_enter Tryz.func45, Tryz.ntmps45
    go_wp2
    go_ret
    exact ⟨ret_bool HE.out.symm, Below.refl _ _⟩
end Go.Proofs.YtclnpfpaabmkcaaGreat
namespace Go.Proofs.YtclnpfpaabmkcaaGreat
open Go.RowKit M
set_option linter.unusedVariables false

set_option maxHeartbeats 400000 in
theorem verOk_any (v : Int) (w : World) : Calls Tryz.prog 118 #[.int .i64 v] w fun e w' => e = .returned (.bool (inB v 0 99999)) ∧ w' = w := by
  by_cases h : 0 ≤ v
  · have HF := hide (show inB v 0 99999 = decide (v ≤ 99999) by unfold inB; simp [h])
    go_enter Tryz.func118, Tryz.ntmps118
    go_wp2
    go_ret
    exact ⟨ret_bool HF.out.symm, rfl⟩
  · have HF := hide (show inB v 0 99999 = false by unfold inB; simp [h])
    go_enter Tryz.func118, Tryz.ntmps118
    go_wp2
    go_ret
    exact ⟨ret_bool HF.out.symm, rfl⟩

theorem emptyT10 {x : ByteArray} (h : x.size = 0) : x.toList.isEmpty = true := by
  have : x.data.toList = [] := List.length_eq_zero_iff.1 h
  rw [ByteArray.toList_eq, this]; rfl
theorem emptyF10 {x : ByteArray} (h : ¬ x.size = 0) : x.toList.isEmpty = false := by
  have hl : x.data.toList.length = x.size := Array.length_toList
  rw [ByteArray.toList_eq]
  cases e : x.data.toList with
  | nil => rw [e] at hl; exact absurd hl.symm h
  | cons a b => rfl

set_option maxHeartbeats 4000000 in
theorem resOk_any (r : Rs) (pa : Option Addr) (pc : Nat) (qa : Option Addr) (qc B : Nat) (w : World) (h : RsIn w B r pa pc qa qc) (hB : B ≤ w.heap.size) (hs : ShortRs r) :
    Calls Tryz.prog 70 #[.agg #[.slice pa r.pa.length pc, .bool r.co, .string r.bo, .int .i64 r.ve, .slice qa r.ps.length qc]] w fun e w' => e = .returned (.bool (resB r)) ∧ Below w.heap.size w w' := by
  have h1 := h.ph
  have h2 := h.qh
  have s1 := hs.ps
  have s2 := hs.qs
  have l1 := hs.pl
  have l2 := hs.ql
  have lb := hs.bo
  clear h hs
  have HF := hide (show resB r = (decide (0 < r.pa.length) && (pathB r.pa && (decide (r.bo.size ≤ 200) && ((!r.co || decide (r.bo.size = 0)) && (inB r.ve 0 99999 && propsB r.ps))))) from rfl)
  generalize resB r = R at *
  obtain ⟨ss, co, bo, ve, ps⟩ := r
  simp only at *
  unfold maxLen at lb
  have hb0 : Below w.heap.size w (w.alloc (Obj.cells #[.slice pa ss.length pc, .bool co, .string bo, .int .i64 ve, .slice qa ps.length qc] 35)) := (Below.refl _ _).alloc (Nat.le_refl _) _
  have HB0 := hide hb0
  have k1 := (h1.below hb0 hB).mono (Nat.le_trans hB hb0.size)
  have HP := hide (pathOk_any pa ss pc _ k1 s1 l1)
  have H2 := hide h2
  have hl' := l1
  unfold maxLen at hl'
  clear hb0 k1 h1 h2
  by_cases a1 : 0 < ss.length
  rotate_left
  · have hr : R = false := by rw [HF.out]; simp [a1]
    subst hr
    go_enter Tryz.func70, Tryz.ntmps70
    go_wp2
    go_ret
    exact ⟨rfl, HB0.out⟩
  cases hp : pathB ss
  · have hr : R = false := by rw [HF.out, hp]; simp
    subst hr
    rw [hp] at HP
    go_enter Tryz.func70, Tryz.ntmps70
    go_wp2_with fail
    refine HP.out.mono ?_
    rintro e w1 ⟨rfl, b1⟩
    have c1 := HB0.out.trans (b1.mono (by simp))
    clear b1
    go_wp2
    go_ret
    exact ⟨rfl, c1⟩
  rw [hp] at HP
  by_cases a2 : bo.size ≤ 200
  rotate_left
  · have hr : R = false := by rw [HF.out]; simp [a2]
    subst hr
    go_enter Tryz.func70, Tryz.ntmps70
    go_wp2_with fail
    refine HP.out.mono ?_
    rintro e w1 ⟨rfl, b1⟩
    have c1 := HB0.out.trans (b1.mono (by simp))
    obtain ⟨hc, _⟩ := bcellP b1
    clear b1
    go_wp2
    go_ret
    exact ⟨rfl, c1⟩
  have HV := hide (fun W => verOk_any ve W)
  have HQ := hide (fun W (hb : Below w.heap.size w W) => propsOk_any qa ps qc B W (H2.out.below hb hB) (Nat.le_trans hB hb.size) s2 l2)
  have fin : ∀ (d : Bool), d = (!co || decide (bo.size = 0)) → Hid (R = (d && (inB ve 0 99999 && propsB ps))) := fun d hd => by
    show R = _
    rw [HF.out, hp, hd]
    simp [a1, a2]
  have FIN := hide fin
  clear fin HF
  generalize inB ve 0 99999 = bv at *
  generalize propsB ps = bq at *
  cases co
  · have hr := FIN.out true (by simp)
    clear FIN
    cases bv
    · have hr' : R = false := hr.out
      subst hr'
      go_enter Tryz.func70, Tryz.ntmps70
      go_wp2_with fail
      refine HP.out.mono ?_
      rintro e w1 ⟨rfl, b1⟩
      have c1 := HB0.out.trans (b1.mono (by simp))
      obtain ⟨hc, _⟩ := bcellP b1
      clear b1
      go_wp2_with fail
      refine (HV.out _).mono ?_
      rintro e w2 ⟨rfl, hw⟩
      obtain rfl := hw.symm
      go_wp2
      go_ret
      exact ⟨rfl, c1⟩
    · have hr' : R = bq := hr.out
      subst hr'
      go_enter Tryz.func70, Tryz.ntmps70
      go_wp2_with fail
      refine HP.out.mono ?_
      rintro e w1 ⟨rfl, b1⟩
      have c1 := HB0.out.trans (b1.mono (by simp))
      obtain ⟨hc, _⟩ := bcellP b1
      clear b1
      go_wp2_with fail
      refine (HV.out _).mono ?_
      rintro e w2 ⟨rfl, hw⟩
      obtain rfl := hw.symm
      have HQ1 := hide (HQ.out w1 c1)
      go_wp2_with fail
      refine HQ1.out.mono ?_
      rintro e w3 ⟨rfl, b3⟩
      have c3 := c1.trans (b3.mono c1.size)
      go_wp2
      go_ret
      exact ⟨rfl, c3⟩
  · by_cases a3 : bo.size = 0
    · have e3 := emptyT10 a3
      have hr := FIN.out true (by simp [a3])
      clear FIN
      have hz0 : bo.size ≤ 200 := a2
      clear a3
      cases bv
      · have hr' : R = false := hr.out
        subst hr'
        go_enter Tryz.func70, Tryz.ntmps70
        go_wp2_with fail
        refine HP.out.mono ?_
        rintro e w1 ⟨rfl, b1⟩
        have c1 := HB0.out.trans (b1.mono (by simp))
        obtain ⟨hc, _⟩ := bcellP b1
        clear b1
        go_wp2_with fail
        refine (HV.out _).mono ?_
        rintro e w2 ⟨rfl, hw⟩
        obtain rfl := hw.symm
        go_wp2
        go_ret
        exact ⟨rfl, c1⟩
      · have hr' : R = bq := hr.out
        subst hr'
        go_enter Tryz.func70, Tryz.ntmps70
        go_wp2_with fail
        refine HP.out.mono ?_
        rintro e w1 ⟨rfl, b1⟩
        have c1 := HB0.out.trans (b1.mono (by simp))
        obtain ⟨hc, _⟩ := bcellP b1
        clear b1
        go_wp2_with fail
        refine (HV.out _).mono ?_
        rintro e w2 ⟨rfl, hw⟩
        obtain rfl := hw.symm
        have HQ1 := hide (HQ.out w1 c1)
        go_wp2_with fail
        refine HQ1.out.mono ?_
        rintro e w3 ⟨rfl, b3⟩
        have c3 := c1.trans (b3.mono c1.size)
        go_wp2
        go_ret
        exact ⟨rfl, c3⟩
    · have e3 := emptyF10 a3
      have hr' : R = false := FIN.out false (by simp [a3])
      subst hr'
      clear FIN
      go_enter Tryz.func70, Tryz.ntmps70
      go_wp2_with fail
      refine HP.out.mono ?_
      rintro e w1 ⟨rfl, b1⟩
      have c1 := HB0.out.trans (b1.mono (by simp))
      obtain ⟨hc, _⟩ := bcellP b1
      clear b1
      go_wp2
      go_ret
      exact ⟨rfl, c1⟩

set_option maxHeartbeats 1000000 in
theorem lessRes_any (r s : Rs) (pa : Option Addr) (pc : Nat) (qa : Option Addr) (qc : Nat) (pa' : Option Addr) (pc' : Nat) (qa' : Option Addr) (qc' : Nat) (B C : Nat) (w : World) (h : RsIn w B r pa pc qa qc) (h' : RsIn w C s pa' pc' qa' qc') (hB : B ≤ w.heap.size) (hC : C ≤ w.heap.size) :
    Calls Tryz.prog 72 #[.agg #[.slice pa r.pa.length pc, .bool r.co, .string r.bo, .int .i64 r.ve, .slice qa r.ps.length qc], .agg #[.slice pa' s.pa.length pc', .bool s.co, .string s.bo, .int .i64 s.ve, .slice qa' s.ps.length qc']] w fun e w' => e = .returned (.bool (lessR r s)) ∧ Below w.heap.size w w' := by
  have l1 : r.pa.length ≤ maxLen := Nat.le_trans h.pl h.pm
  have l2 : s.pa.length ≤ maxLen := Nat.le_trans h'.pl h'.pm
  have p1 := h.ph
  have p2 := h'.ph
  have HF := hide (show lessR r s = lessL r.pa s.pa from rfl)
  generalize lessR r s = R at *
  clear h h'
  obtain ⟨ss, co, bo, ve, ps⟩ := r
  obtain ⟨ss', co', bo', ve', ps'⟩ := s
  simp only at *
  have hb0 : Below w.heap.size w ((w.alloc (Obj.cells #[.slice pa ss.length pc, .bool co, .string bo, .int .i64 ve, .slice qa ps.length qc] 35)).alloc (Obj.cells #[.slice pa' ss'.length pc', .bool co', .string bo', .int .i64 ve', .slice qa' ps'.length qc'] 35)) := ((Below.refl _ _).alloc (Nat.le_refl _) _).alloc (by simp) _
  have HE := hide (lessPath_any pa pa' ss ss' pc pc' B C _ (p1.below hb0 hB) (p2.below hb0 hC) l1 l2)
  have HB0 := hide hb0
  clear p1 p2 hb0
  go_enter Tryz.func72, Tryz.ntmps72
  go_wp2_with fail
  refine HE.out.mono ?_
  rintro e w1 ⟨rfl, hw⟩
  obtain rfl := hw
  go_wp2
  go_ret
  exact ⟨ret_bool HF.out.symm, HB0.out⟩

theorem keep10R {W w1 : World} {b o1 o2 : Nat} {r s : Rs} {pa : Option Addr} {pc : Nat} {qa : Option Addr} {qc : Nat} {pa' : Option Addr} {pc' : Nat} {qa' : Option Addr} {qc' : Nat} (hb : Below W.heap.size W w1) (h1 : b < W.heap.size)
    (h : RsAt W b o1 r pa pc qa qc ∧ RsAt W b o2 s pa' pc' qa' qc') : RsAt w1 b o1 r pa pc qa qc ∧ RsAt w1 b o2 s pa' pc' qa' qc' :=
  ⟨h.1.of (fun o' => (bcellP hb).1 b o' h1), h.2.of (fun o' => (bcellP hb).1 b o' h1)⟩

set_option maxRecDepth 100000 in
set_option maxHeartbeats 4000000 in
theorem ascRes_any (a : Option Addr) (rs : List Rs) (cap B : Nat) (w : World) (h : Rss w B a rs) (hB : B ≤ w.heap.size) (hl : rs.length ≤ maxLen) :
    Calls Tryz.prog 71 #[.slice a rs.length cap, .func (.func 72) #[] #[]] w fun e w' => e = .returned (.bool (ascB lessR rs)) ∧ Below w.heap.size w w' := by
  unfold maxLen at hl
  go_enter Tryz.func71, Tryz.ntmps71
  go_wp2
  go_loopw [5] (fun i wr => ∃ m : Nat, m ≤ rs.length ∧ i = .int .i64 ((m : Int) + 1) ∧ (∀ j (hj : j + 1 < rs.length), j < m → lessR rs[j] rs[j + 1] = true) ∧ Below w.heap.size w wr) (fun i _ => rs.length - (intOf i).toNat)
  case atStart => exact ⟨0, Nat.zero_le _, by simp, fun j _ hj => absurd hj (Nat.not_lt_zero _), Below.refl _ _⟩
  case round =>
    obtain ⟨m, hm, rfl, ht, hbe⟩ := hrel
    have HT := hide ht
    clear ht
    by_cases hlt : m + 1 < rs.length
    · obtain ⟨b, o, rfl, hb, hc⟩ := (h.below hbe hB) (by omega)
      obtain ⟨pa, pc, qa, qc, ha1, hi1⟩ := hc m (by omega)
      obtain ⟨pa', pc', qa', qc', ha2, hi2⟩ := hc (m + 1) hlt
      clear hc
      have hl1 : b < wr.drew.heap.size := by have := hbe.size; show b < wr.heap.size; omega
      have hbd : Below w.heap.size w wr.drew := below_drewP hbe
      have hq := lessRes_any rs[m] rs[m + 1] pa pc qa qc pa' pc' qa' qc' B B wr.drew hi1.drew hi2.drew (Nat.le_trans hB hbd.size) (Nat.le_trans hB hbd.size)
      have HX := hide (And.intro (ha1.of (w' := wr.drew) (fun _ => rfl)) (ha2.of (w' := wr.drew) (fun _ => rfl)))
      obtain ⟨hx0, hx1, hx2, hx3, hx4⟩ := ha1
      obtain ⟨hy0, hy1, hy2, hy3, hy4⟩ := ha2
      have hi1' : IntKind.i64.wrap ((m : Int) + 1 - 1) = (m : Int) := by rw [IntKind.wrap_i64] <;> omega
      have hi2' : ((m : Int) + 1).toNat = m + 1 := by omega
      have hi3 : (m : Int) < (rs.length : Int) := by omega
      have hi4 : (m : Int) + 1 < (rs.length : Int) := by omega
      have hi5 : ¬ ((m : Int) + 1 < 0) := by omega
      have hi6 : IntKind.i64.wrap (m : Int) = (m : Int) := by rw [IntKind.wrap_i64] <;> omega
      have hi7 : (0 : Int) ≤ (m : Int) := by omega
      have hi8 : (0 : Int) ≤ (m : Int) + 1 := by omega
      obtain ⟨z, hz⟩ : ∃ z, lessR rs[m] rs[m + 1] = z := ⟨_, rfl⟩
      rw [hz] at hq
      have HZ := hide hz
      clear hz hi1 hi2
      cases z
      · go_wp2
        go_region_held3 (fun W => (W.cell? ⟨b, o + m * 5, none⟩ = some (.slice pa rs[m].pa.length pc) ∧ W.cell? ⟨b, o + m * 5 + 1, none⟩ = some (.bool rs[m].co) ∧ W.cell? ⟨b, o + m * 5 + 2, none⟩ = some (.string rs[m].bo) ∧ W.cell? ⟨b, o + m * 5 + 3, none⟩ = some (.int .i64 rs[m].ve) ∧ W.cell? ⟨b, o + m * 5 + 4, none⟩ = some (.slice qa rs[m].ps.length qc)) ∧ (W.cell? ⟨b, o + (m + 1) * 5, none⟩ = some (.slice pa' rs[m + 1].pa.length pc') ∧ W.cell? ⟨b, o + (m + 1) * 5 + 1, none⟩ = some (.bool rs[m + 1].co) ∧ W.cell? ⟨b, o + (m + 1) * 5 + 2, none⟩ = some (.string rs[m + 1].bo) ∧ W.cell? ⟨b, o + (m + 1) * 5 + 3, none⟩ = some (.int .i64 rs[m + 1].ve) ∧ W.cell? ⟨b, o + (m + 1) * 5 + 4, none⟩ = some (.slice qa' rs[m + 1].ps.length qc'))) (first | exact HX.out | exact HX2.out) ((go_at_call 72; refine hq.mono ?_; rintro e w1 ⟨rfl, hb3⟩; have HX2 := hide (keep10R hb3 hl1 HX.out)))
        all_goals
          have c1 := hbd.trans (hb3.mono hbd.size)
          clear hq hb3
          go_wp2
          go_ret
          exact ⟨ret_bool (ascB_not lessR rs m hlt HZ.out).symm, c1⟩
      · go_wp2
        go_region_held3 (fun W => (W.cell? ⟨b, o + m * 5, none⟩ = some (.slice pa rs[m].pa.length pc) ∧ W.cell? ⟨b, o + m * 5 + 1, none⟩ = some (.bool rs[m].co) ∧ W.cell? ⟨b, o + m * 5 + 2, none⟩ = some (.string rs[m].bo) ∧ W.cell? ⟨b, o + m * 5 + 3, none⟩ = some (.int .i64 rs[m].ve) ∧ W.cell? ⟨b, o + m * 5 + 4, none⟩ = some (.slice qa rs[m].ps.length qc)) ∧ (W.cell? ⟨b, o + (m + 1) * 5, none⟩ = some (.slice pa' rs[m + 1].pa.length pc') ∧ W.cell? ⟨b, o + (m + 1) * 5 + 1, none⟩ = some (.bool rs[m + 1].co) ∧ W.cell? ⟨b, o + (m + 1) * 5 + 2, none⟩ = some (.string rs[m + 1].bo) ∧ W.cell? ⟨b, o + (m + 1) * 5 + 3, none⟩ = some (.int .i64 rs[m + 1].ve) ∧ W.cell? ⟨b, o + (m + 1) * 5 + 4, none⟩ = some (.slice qa' rs[m + 1].ps.length qc'))) (first | exact HX.out | exact HX2.out) ((go_at_call 72; refine hq.mono ?_; rintro e w1 ⟨rfl, hb3⟩; have HX2 := hide (keep10R hb3 hl1 HX.out)))
        all_goals
          have c1 := hbd.trans (hb3.mono hbd.size)
          clear hq hb3
          go_wp2
          go_roundw
          case rel => exact ⟨m + 1, by omega, by go_num, fun j hj hjm => by
                        by_cases e : j = m
                        · subst e; exact HZ.out
                        · exact HT.out j hj (by omega), c1⟩
          case measure => simp [intOf]; omega
    · have HE := hide (ascB_all lessR rs (fun j hj => HT.out j hj (by omega)))
      go_wp2
      go_ret
      exact ⟨ret_bool HE.out.symm, hbe⟩
end Go.Proofs.YtclnpfpaabmkcaaGreat
namespace Go.Proofs.YtclnpfpaabmkcaaGreat
open Go.RowKit Go.Maps M
set_option linter.unusedVariables false

set_option maxRecDepth 100000 in
set_option maxHeartbeats 4000000 in
theorem treeOk_any (a : Option Addr) (rs : List Rs) (cap B : Nat) (w : World) (h : Rss w B a rs) (hB : B ≤ w.heap.size) (hs : ShortT rs) (hl : rs.length ≤ maxLen) :
    Calls Tryz.prog 18 #[.slice a rs.length cap] w fun e w' => e = .returned (.bool (treeB rs)) ∧ Below w.heap.size w w' := by
  have hl' := hl
  unfold maxLen at hl'
  by_cases h12 : rs.length ≤ 12
  · go_enter Tryz.func18, Tryz.ntmps18
    go_wp2
    go_loopw [10] (fun i wr => ∃ k : Nat, k ≤ rs.length ∧ i = .int .i64 k ∧ (∀ j (hj : j < rs.length), j < k → resB rs[j] = true) ∧ Below w.heap.size w wr) (fun i _ => rs.length - (intOf i).toNat)
    case atStart => exact ⟨0, Nat.zero_le _, rfl, fun j _ hj => absurd hj (Nat.not_lt_zero _), Below.refl _ _⟩
    case round =>
      obtain ⟨k, hk, rfl, ht, hbe⟩ := hrel
      have HT := hide ht
      clear ht
      by_cases hlt : k < rs.length
      · obtain ⟨b1, o1, rfl, hb1, hcc⟩ := (h.below hbe hB) (by omega)
        obtain ⟨pa, pc, qa, qc, ⟨hc0, hc1, hc2, hc3, hc4⟩, hin⟩ := hcc k hlt
        clear hcc
        have HBA := hide ((Below.refl wr.heap.size wr).alloc (Nat.le_refl _) (Obj.cells #[.slice pa (rs[k]).pa.length pc, .bool (rs[k]).co, .string (rs[k]).bo, .int .i64 (rs[k]).ve, .slice qa (rs[k]).ps.length qc] 35))
        have HQ := hide (resOk_any rs[k] pa pc qa qc B _ (hin.below HBA.out (Nat.le_trans hB hbe.size)) (Nat.le_trans (Nat.le_trans hB hbe.size) HBA.out.size) (hs.at k hlt))
        obtain ⟨z, hz⟩ : ∃ z, resB rs[k] = z := ⟨_, rfl⟩
        rw [hz] at HQ
        have HZ := hide hz
        clear hz hin
        cases z
        · go_wp2_with fail
          refine HQ.out.mono ?_
          rintro e w1 ⟨rfl, hb3⟩
          have c1 := hbe.trans ((HBA.out.trans (hb3.mono HBA.out.size)).mono hbe.size)
          go_wp2
          go_ret
          exact ⟨ret_bool (treeB_bad k hlt HZ.out).symm, c1⟩
        · go_wp2_with fail
          refine HQ.out.mono ?_
          rintro e w1 ⟨rfl, hb3⟩
          have c1 := hbe.trans ((HBA.out.trans (hb3.mono HBA.out.size)).mono hbe.size)
          go_wp2
          go_roundw
          case rel => exact ⟨k + 1, by omega, by go_num, fun j hj hjk => by
                        by_cases e : j = k
                        · subst e; exact HZ.out
                        · exact HT.out j hj (by omega), c1⟩
          case measure => simp [intOf]; omega
      · have hres : ∀ j (hj : j < rs.length), resB rs[j] = true := fun j hj => HT.out j hj (by omega)
        have HE := hide (treeB_of hres)
        have hmem : ∀ r ∈ rs, resB r = true := fun r hr => by
          obtain ⟨j, hj, rfl⟩ := List.mem_iff_getElem.1 hr
          exact hres j hj
        have HA := hide (ascRes_any a rs cap B wr (h.below hbe hB) (Nat.le_trans hB hbe.size) hl)
        have HLN := hide (fun (e : ascB lessR rs = true) => left_none hmem e)
        have HLK := hide (fun W (hb : Below w.heap.size w W) => lacking_any a rs cap B W (h.below hb hB) (Nat.le_trans hB hb.size) h12 hmem)
        clear hres hmem
        obtain ⟨z, hz⟩ : ∃ z, ascB lessR rs = z := ⟨_, rfl⟩
        rw [hz] at HA HE HLN
        clear hz
        cases z
        · have HR0 := hide (show treeB rs = false by rw [HE.out]; simp)
          go_wp2_with fail
          refine HA.out.mono ?_
          rintro e w1 ⟨rfl, hb1⟩
          have c1 := hbe.trans (hb1.mono hbe.size)
          go_wp2
          go_ret
          exact ⟨ret_bool HR0.out.symm, c1⟩
        · have hr := hide (show treeB rs = rs.all (onB rs) by rw [HE.out]; simp [h12])
          go_wp2_with fail
          refine HA.out.mono ?_
          rintro e w1 ⟨rfl, hb1⟩
          have c1 := hbe.trans (hb1.mono hbe.size)
          have HL1 := hide (HLK.out w1 c1)
          clear hb1 HA HLK
          go_wp2_with fail
          refine HL1.out.mono ?_
          rintro e w2 ⟨rfl, ⟨n, D, hown, hho⟩, hb2⟩
          have c2 := c1.trans (hb2.mono c1.size)
          have hlen := fun ty => hown.len Tryz.underlying86 ty
          have HSZ := hide ((hho.size).trans (HLN.out (by trivial)))
          clear hb2 hown hho HL1 HLN
          go_wp2
          go_ret
          refine ⟨ret_bool ?_, c2⟩
          rw [hr.out]
          cases e : rs.all (onB rs)
          · rw [beq_eq_false_iff_ne]
            intro e2
            have e3 : Maps.size D = 0 := by omega
            have := HSZ.out.1 e3
            rw [e] at this
            cases this
          · rw [beq_iff_eq]
            have := HSZ.out.2 e
            omega
  · have HE := hide (treeB_long h12)
    go_enter Tryz.func18, Tryz.ntmps18
    go_wp2
    go_ret
    exact ⟨ret_bool HE.out.symm, Below.refl _ _⟩
end Go.Proofs.YtclnpfpaabmkcaaGreat
namespace Go.Proofs.YtclnpfpaabmkcaaGreat
open Go.RowKit
set_option linter.unusedVariables false

set_option maxHeartbeats 400000 in
theorem slicesEqual_any (a b : Option Addr) (ss tt : List ByteArray) (cap cap' B C : Nat) (w : World) (h : Strs w B a ss) (h' : Strs w C b tt) (hl : ss.length ≤ maxLen) (hl' : tt.length ≤ maxLen) :
    Calls Tryz.prog 106 #[.slice a ss.length cap, .slice b tt.length cap'] w fun e w' => e = .returned (.bool (sameL ss tt)) ∧ ∀ D, Below D w w' := by
  unfold maxLen at hl hl'
  by_cases hlen : ss.length = tt.length
  · have HL : Hid (ss.length = tt.length) := hlen
    go_enter Tryz.func106, Tryz.ntmps106
    rw [← hlen]
    clear hlen
    go_wp2
    go_loopw [13] (fun i wr => ∃ k n : Nat, k ≤ ss.length ∧ i = .int .i64 k ∧ ss.take k = tt.take k ∧ wr = w.drewN n) (fun i _ => ss.length - (intOf i).toNat)
    case atStart => exact ⟨0, 0, Nat.zero_le _, rfl, rfl, rfl⟩
    case round =>
      obtain ⟨k, n, hk, rfl, ht, rfl⟩ := hrel
      have HT : Hid (ss.take k = tt.take k) := ht
      clear ht
      by_cases hlt : k < ss.length
      · have hlt' : k < tt.length := by have := HL.out; omega
        obtain ⟨b1, o1, rfl, hb1, hc1⟩ := h (by omega)
        obtain ⟨b2, o2, rfl, hb2, hc2⟩ := h' (by have := HL.out; omega)
        have hcx := hc1 k hlt
        have hcy := hc2 k hlt'
        go_wp2
        go_quiet (fail)
        go_wp2
        · rename_i hne
          have hne' : ¬ ss[k] = tt[k] := fun e => by rw [e] at hne; simp at hne
          go_ret
          exact ⟨ret_bool (sameL_not k hlt hlt' hne').symm, fun D => below_drewN (below_drewN (Below.refl _ _) _) _⟩
        · rename_i he
          have he' : ss[k] = tt[k] := str_inj (by simpa using he)
          go_roundw
          case rel => exact ⟨k + 1, n + nq, by omega, by go_num, take_same k hlt hlt' HT.out he', by simp⟩
          case measure => simp [intOf]; omega
      · go_wp2
        go_ret
        exact ⟨ret_bool (sameL_all HL.out k hlt HT.out).symm, fun D => below_drewN (Below.refl _ _) _⟩
  · have HS := sameL_len hlen
    go_enter Tryz.func106, Tryz.ntmps106
    go_wp2
    go_ret
    exact ⟨ret_bool HS.symm, fun D => Below.refl _ _⟩
end Go.Proofs.YtclnpfpaabmkcaaGreat
namespace Go.Proofs.YtclnpfpaabmkcaaGreat
open Go.RowKit
set_option linter.unusedVariables false

set_option maxHeartbeats 400000 in
theorem samePath_any (a b : Option Addr) (ss tt : List ByteArray) (cap cap' B C : Nat) (w : World) (h : Strs w B a ss) (h' : Strs w C b tt) (hl : ss.length ≤ maxLen) (hl' : tt.length ≤ maxLen) :
    Calls Tryz.prog 55 #[.slice a ss.length cap, .slice b tt.length cap'] w fun e w' => e = .returned (.bool (sameL ss tt)) ∧ ∀ D, Below D w w' := by
  go_enter Tryz.func55, Tryz.ntmps55
  go_wp2_with fail
  refine (slicesEqual_any a b ss tt cap cap' B C w h h' hl hl').mono ?_
  rintro e w1 ⟨rfl, hb⟩
  go_wp2
  go_ret
  exact ⟨rfl, hb⟩
end Go.Proofs.YtclnpfpaabmkcaaGreat
namespace Go.Proofs.YtclnpfpaabmkcaaGreat
open Go.RowKit M
set_option linter.unusedVariables false

theorem ret_int10 {a b : Int} (h : a = b) : Ending.returned (.int .i64 a) = .returned (.int .i64 b) := by rw [h]

set_option maxHeartbeats 1000000 in
theorem findRes1_any (r : Rs) (pa : Option Addr) (pc : Nat) (qa : Option Addr) (qc B : Nat) (a' : Option Addr) (p : List ByteArray) (cap' C c : Nat) (w : World) (h : RsIn w B r pa pc qa qc) (h' : Strs w C a' p) (hl' : p.length ≤ maxLen) (hc : w.cell? ⟨c, 0, none⟩ = some (.slice a' p.length cap')) (hB : B ≤ w.heap.size) (hC : C ≤ w.heap.size) (hcl : c < w.heap.size) :
    Calls Tryz.prog 68 #[.agg #[.slice pa r.pa.length pc, .bool r.co, .string r.bo, .int .i64 r.ve, .slice qa r.ps.length qc], .pointer (some ⟨c, 0, none⟩)] w fun e w' => e = .returned (.bool (sameL r.pa p)) ∧ Below w.heap.size w w' := by
  have l1 : r.pa.length ≤ maxLen := Nat.le_trans h.pl h.pm
  have p1 := h.ph
  clear h
  obtain ⟨ss, co, bo, ve, ps⟩ := r
  simp only at *
  have hb0 : Below w.heap.size w (w.alloc (Obj.cells #[.slice pa ss.length pc, .bool co, .string bo, .int .i64 ve, .slice qa ps.length qc] 35)) := (Below.refl _ _).alloc (Nat.le_refl _) _
  have HE := hide (samePath_any pa a' ss p pc cap' B C _ (p1.below hb0 hB) (h'.below hb0 hC) l1 hl')
  have HB0 := hide hb0
  have hc0 := (hb0.cell (p := ⟨c, 0, none⟩) hcl).trans hc
  clear p1 h' hb0 hc
  go_enter Tryz.func68, Tryz.ntmps68
  go_wp2_with fail
  refine HE.out.mono ?_
  rintro e w1 ⟨rfl, hb1⟩
  have HC1 := hide (HB0.out.trans (hb1 _))
  clear hb1
  go_wp2
  go_ret
  exact ⟨rfl, HC1.out⟩

set_option maxHeartbeats 1000000 in
theorem indexFunc_any (a : Option Addr) (rs : List Rs) (cap B : Nat) (a' : Option Addr) (p : List ByteArray) (cap' C c : Nat) (w : World) (h : Rss w B a rs) (h' : Strs w C a' p) (hl : rs.length ≤ maxLen) (hl' : p.length ≤ maxLen) (hc : w.cell? ⟨c, 0, none⟩ = some (.slice a' p.length cap')) (hB : B ≤ w.heap.size) (hC : C ≤ w.heap.size) (hcl : c < w.heap.size) :
    Calls Tryz.prog 67 #[.slice a rs.length cap, .func (.func 68) #[] #[.pointer (some ⟨c, 0, none⟩)]] w fun e w' => e = .returned (.int .i64 (findI rs p)) ∧ Below w.heap.size w w' := by
  unfold maxLen at hl
  go_enter Tryz.func67, Tryz.ntmps67
  go_wp2
  go_loopw [8] (fun i wr => ∃ k : Nat, k ≤ rs.length ∧ i = .int .i64 k ∧ (∀ j (hj : j < rs.length), j < k → sameL rs[j].pa p = false) ∧ Below w.heap.size w wr) (fun i _ => rs.length - (intOf i).toNat)
  case atStart => exact ⟨0, Nat.zero_le _, rfl, fun j _ hj => absurd hj (Nat.not_lt_zero _), Below.refl _ _⟩
  case round =>
    obtain ⟨k, hk, rfl, ht, hbe⟩ := hrel
    have HT := hide ht
    clear ht
    by_cases hlt : k < rs.length
    · obtain ⟨b, o, rfl, hb, hcc⟩ := (h.below hbe hB) (by omega)
      obtain ⟨pa, pc, qa, qc, ⟨hc0, hc1, hc2, hc3, hc4⟩, hin⟩ := hcc k hlt
      clear hcc
      have HC := hide (findRes1_any rs[k] pa pc qa qc B a' p cap' C c wr hin (h'.below hbe hC) hl' ((hbe.cell (p := ⟨c, 0, none⟩) hcl).trans hc) (Nat.le_trans hB hbe.size) (Nat.le_trans hC hbe.size) (Nat.lt_of_lt_of_le hcl hbe.size))
      obtain ⟨z, hz⟩ : ∃ z, sameL rs[k].pa p = z := ⟨_, rfl⟩
      rw [hz] at HC
      have HZ := hide hz
      clear hz hin
      go_wp2_with fail
      refine HC.out.mono ?_
      rintro e w1 ⟨rfl, hb1⟩
      have c1 := hbe.trans (hb1.mono hbe.size)
      clear HC
      cases z
      · go_wp2
        go_roundw
        case rel => exact ⟨k + 1, by omega, by go_num, fun j hj hjk => by
                      by_cases e : j = k
                      · subst e; exact HZ.out
                      · exact HT.out j hj (by omega), c1⟩
        case measure => simp [intOf]; omega
      · go_wp2
        go_ret
        exact ⟨ret_int10 (findI_at k hlt HT.out HZ.out).symm, c1⟩
    · have HE := hide (findI_none (rs := rs) (p := p) (fun j hj => HT.out j hj (by omega)))
      go_wp2
      go_ret
      exact ⟨ret_int10 HE.out.symm, hbe⟩

set_option maxHeartbeats 1000000 in
theorem findRes_any (a : Option Addr) (rs : List Rs) (cap B : Nat) (a' : Option Addr) (p : List ByteArray) (cap' C : Nat) (w : World) (h : Rss w B a rs) (h' : Strs w C a' p) (hl : rs.length ≤ maxLen) (hl' : p.length ≤ maxLen) (hB : B ≤ w.heap.size) (hC : C ≤ w.heap.size) :
    Calls Tryz.prog 14 #[.slice a rs.length cap, .slice a' p.length cap'] w fun e w' => e = .returned (.int .i64 (findI rs p)) ∧ Below w.heap.size w w' := by
  have hb0 : Below w.heap.size w (w.alloc (Obj.cells #[.slice a' p.length cap'] 25)) := (Below.refl _ _).alloc (Nat.le_refl _) _
  have HE := hide (indexFunc_any a rs cap B a' p cap' C w.heap.size _ (h.below hb0 hB) (h'.below hb0 hC) hl hl' (by simp) (Nat.le_trans hB hb0.size) (Nat.le_trans hC hb0.size) (by simp))
  have HB0 := hide hb0
  clear h h' hb0
  go_enter Tryz.func14, Tryz.ntmps14
  go_wp2_with fail
  refine HE.out.mono ?_
  rintro e w1 ⟨rfl, hb1⟩
  have c1 := HB0.out.trans (hb1.mono HB0.out.size)
  go_wp2
  go_ret
  exact ⟨rfl, c1⟩
end Go.Proofs.YtclnpfpaabmkcaaGreat
namespace Go.Proofs.YtclnpfpaabmkcaaGreat
open Go.RowKit M
set_option linter.unusedVariables false

/-- Whether it is the root, or there. -/
def thereB (rs : List Rs) (p : List ByteArray) : Bool := decide (p.length = 0) || decide (0 ≤ findI rs p)
theorem there_iff {rs : List Rs} {p : List ByteArray} : thereB rs p = true ↔ p.length = 0 ∨ 0 ≤ findI rs p := by unfold thereB; simp

set_option maxHeartbeats 1000000 in
theorem isThere_any (a : Option Addr) (rs : List Rs) (cap B : Nat) (a' : Option Addr) (p : List ByteArray) (cap' C : Nat) (w : World) (h : Rss w B a rs) (h' : Strs w C a' p) (hl : rs.length ≤ maxLen) (hl' : p.length ≤ maxLen) (hB : B ≤ w.heap.size) (hC : C ≤ w.heap.size) :
    Calls Tryz.prog 109 #[.slice a rs.length cap, .slice a' p.length cap'] w fun e w' => e = .returned (.bool (thereB rs p)) ∧ Below w.heap.size w w' := by
  have HF := hide (findRes_any a rs cap B a' p cap' C w h h' hl hl' hB hC)
  by_cases h0 : p.length = 0
  · have HZ := hide (show thereB rs p = true from there_iff.2 (.inl h0))
    clear HF
    go_enter Tryz.func109, Tryz.ntmps109
    go_wp2
    go_ret
    exact ⟨by rw [HZ.out]; rfl, Below.refl _ _⟩
  · have HZ := hide (show thereB rs p = decide (0 ≤ findI rs p) by unfold thereB; simp [h0])
    have e0 : ((p.length : Int) == 0) = false := by rw [beq_eq_false_iff_ne]; omega
    generalize thereB rs p = z at *
    generalize findI rs p = F at *
    go_enter Tryz.func109, Tryz.ntmps109
    go_wp2_with fail
    refine HF.out.mono ?_
    rintro e w1 ⟨rfl, b1⟩
    go_wp2
    go_ret
    exact ⟨by rw [HZ.out]; rfl, b1⟩
end Go.Proofs.YtclnpfpaabmkcaaGreat
namespace Go.Proofs.YtclnpfpaabmkcaaGreat
open Go.RowKit M
set_option linter.unusedVariables false

/-- One path as it is handed in: what it has, where it lies, its room. -/
abbrev PathV := List ByteArray × Option Addr × Nat
/-- What a list of paths holds that a call was handed. -/
structure PathsAt (w : World) (g : Nat) (ps : List PathV) : Prop where
  lt : g < w.heap.size
  cl : ∀ j (hj : j < ps.length), w.cell? ⟨g, j, none⟩ = some (.slice ps[j].2.1 ps[j].1.length ps[j].2.2)
  st : ∀ j (hj : j < ps.length), Strs w w.heap.size ps[j].2.1 ps[j].1 ∧ Short ps[j].1 ∧ ps[j].1.length ≤ maxLen
theorem PathsAt.below {w w' : World} {g : Nat} {ps : List PathV} (h : PathsAt w g ps) (hb : Below w.heap.size w w') : PathsAt w' g ps :=
  ⟨Nat.lt_of_lt_of_le h.lt hb.size, fun j hj => (hb.cell (p := ⟨g, j, none⟩) h.lt).trans (h.cl j hj), fun j hj => ⟨((h.st j hj).1.below hb (Nat.le_refl _)).mono hb.size, (h.st j hj).2⟩⟩
def pathsB (ps : List PathV) : Bool := ps.all fun p => pathB p.1

set_option maxHeartbeats 1000000 in
theorem pathsOk_any (g cap : Nat) (ps : List PathV) (hl : ps.length ≤ 1048576) (w : World) (h : PathsAt w g ps) :
    Calls Tryz.prog 125 #[.slice (some ⟨g, 0, none⟩) ps.length cap] w fun e w' => e = .returned (.bool (pathsB ps)) ∧ Below w.heap.size w w' := by
  go_enter Tryz.func125, Tryz.ntmps125
  go_wp2
  go_loopw [7] (fun i wr => ∃ k : Nat, k ≤ ps.length ∧ i = .int .i64 k ∧ (∀ j (hj : j < ps.length), j < k → pathB ps[j].1 = true) ∧ Below w.heap.size w wr) (fun i _ => ps.length - (intOf i).toNat)
  case atStart => exact ⟨0, Nat.zero_le _, rfl, fun j _ hj => absurd hj (Nat.not_lt_zero _), Below.refl _ _⟩
  case round =>
    obtain ⟨k, hk, rfl, hok, hbe⟩ := hrel
    have HOK := hide hok
    clear hok
    by_cases hlt : k < ps.length
    · have h1 := h.below hbe
      have hc := h1.cl k hlt
      obtain ⟨hst, hsh, hll⟩ := h1.st k hlt
      have HP := hide (pathOk_any ps[k].2.1 ps[k].1 ps[k].2.2 wr hst hsh hll)
      have HB := hide (show pathB ps[k].1 = pathB ps[k].1 from rfl)
      generalize hz : pathB ps[k].1 = z at HP HB
      have HZ := hide hz
      clear hz h1 hst hsh hll HB
      cases z
      · go_wp2_with fail
        refine HP.out.mono ?_
        rintro e w1 ⟨rfl, b1⟩
        have HF := hide (show pathsB ps = false by
          unfold pathsB
          rw [List.all_eq_false]
          exact ⟨ps[k], List.getElem_mem hlt, by rw [HZ.out]; simp⟩)
        go_wp2
        go_ret
        exact ⟨by rw [HF.out]; rfl, hbe.trans (b1.mono hbe.size)⟩
      · go_wp2_with fail
        refine HP.out.mono ?_
        rintro e w1 ⟨rfl, b1⟩
        have HO2 := hide (show ∀ j (hj : j < ps.length), j < k + 1 → pathB ps[j].1 = true from fun j hj hjk => by
          by_cases e : j = k
          · subst e; exact HZ.out
          · exact HOK.out j hj (by omega))
        go_wp2
        go_roundw
        case rel => exact ⟨k + 1, by omega, by go_num, HO2.out, hbe.trans (b1.mono hbe.size)⟩
        case measure => simp [intOf]; omega
    · have HF := hide (show pathsB ps = true by
        unfold pathsB
        rw [List.all_eq_true]
        intro p hp
        obtain ⟨j, hj, rfl⟩ := List.mem_iff_getElem.1 hp
        exact HOK.out j hj (by omega))
      go_wp2
      go_ret
      exact ⟨by rw [HF.out]; rfl, hbe⟩

/-- Why shelves cannot be turned, at these paths; 0: they can. -/
def askI (rs : List Rs) (v : Int) (pb : Bool) : Int := if treeB rs = false then 500 else if pb = false then 400 else if inB v 0 99999 = false then 507 else 0
theorem askI_one (rs : List Rs) (v : Int) (p : List ByteArray) (a : Option Addr) (c : Nat) : askI rs v (pathsB [(p, a, c)]) = mayI rs p v := by
  unfold askI mayI pathsB
  simp

set_option maxHeartbeats 1000000 in
theorem askRefused_any (a : Option Addr) (rs : List Rs) (cap B : Nat) (v : Int) (g cap' : Nat) (ps : List PathV) (hl' : ps.length ≤ 1048576) (w : World) (h : Rss w B a rs) (hB : B ≤ w.heap.size) (hs : ShortT rs) (hl : rs.length ≤ maxLen) (h' : PathsAt w g ps) :
    Calls Tryz.prog 81 #[.slice a rs.length cap, .int .i64 v, .slice (some ⟨g, 0, none⟩) ps.length cap'] w fun e w' => e = .returned (.int .i64 (askI rs v (pathsB ps))) ∧ Below w.heap.size w w' := by
  have HT := hide (treeOk_any a rs cap B w h hB hs hl)
  have HP := hide (fun W (hb : Below w.heap.size w W) => pathsOk_any g cap' ps hl' W (h'.below hb))
  have HV := hide (fun W => verOk_any v W)
  have HE := hide (show askI rs v (pathsB ps) = if treeB rs = false then 500 else if pathsB ps = false then 400 else if inB v 0 99999 = false then 507 else 0 from rfl)
  generalize askI rs v (pathsB ps) = E at *
  generalize treeB rs = z1 at *
  generalize pathsB ps = z2 at *
  generalize inB v 0 99999 = z3 at *
  cases z1
  · have HE' := hide (HE.out.trans (if_pos rfl))
    clear HE
    go_enter Tryz.func81, Tryz.ntmps81
    go_wp2_with fail
    refine HT.out.mono ?_
    rintro e w1 ⟨rfl, b1⟩
    go_wp2
    go_ret
    exact ⟨by rw [HE'.out]; rfl, b1⟩
  · cases z2
    · have HE' := hide (HE.out.trans ((if_neg (by simp)).trans (if_pos rfl)))
      clear HE
      go_enter Tryz.func81, Tryz.ntmps81
      go_wp2_with fail
      refine HT.out.mono ?_
      rintro e w1 ⟨rfl, b1⟩
      have X1 := hide (HP.out w1 b1)
      clear HT HP
      go_wp2_with fail
      refine X1.out.mono ?_
      rintro e w2 ⟨rfl, b2⟩
      go_wp2
      go_ret
      exact ⟨by rw [HE'.out]; rfl, b1.trans (b2.mono b1.size)⟩
    · cases z3
      · have HE' := hide (HE.out.trans ((if_neg (by simp)).trans ((if_neg (by simp)).trans (if_pos rfl))))
        clear HE
        go_enter Tryz.func81, Tryz.ntmps81
        go_wp2_with fail
        refine HT.out.mono ?_
        rintro e w1 ⟨rfl, b1⟩
        have X1 := hide (HP.out w1 b1)
        clear HT HP
        go_wp2_with fail
        refine X1.out.mono ?_
        rintro e w2 ⟨rfl, b2⟩
        go_wp2_with fail
        refine (HV.out w2).mono ?_
        rintro e w3 ⟨rfl, hw3⟩
        obtain rfl := hw3.symm
        go_wp2
        go_ret
        exact ⟨by rw [HE'.out]; rfl, b1.trans (b2.mono b1.size)⟩
      · have HE' := hide (HE.out.trans ((if_neg (by simp)).trans ((if_neg (by simp)).trans (if_neg (by simp)))))
        clear HE
        go_enter Tryz.func81, Tryz.ntmps81
        go_wp2_with fail
        refine HT.out.mono ?_
        rintro e w1 ⟨rfl, b1⟩
        have X1 := hide (HP.out w1 b1)
        clear HT HP
        go_wp2_with fail
        refine X1.out.mono ?_
        rintro e w2 ⟨rfl, b2⟩
        go_wp2_with fail
        refine (HV.out w2).mono ?_
        rintro e w3 ⟨rfl, hw3⟩
        obtain rfl := hw3.symm
        go_wp2
        go_ret
        exact ⟨by rw [HE'.out]; rfl, b1.trans (b2.mono b1.size)⟩
end Go.Proofs.YtclnpfpaabmkcaaGreat
