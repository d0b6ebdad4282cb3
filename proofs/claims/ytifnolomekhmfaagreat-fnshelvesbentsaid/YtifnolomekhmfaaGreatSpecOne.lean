/-
  What spec.l12One does.
-/
import Derived.Test.YtifnolomekhmfaaGreatMathOrder
import Derived.Test.YtifnolomekhmfaaGreatEqBs
import Derived.Deep.RegionHeld3
namespace Go.Proofs.YtifnolomekhmfaaGreat
open Go.RowKit M
set_option linter.unusedVariables false

/-- What is known at a place, and a set in a box. -/
def AtBox (W : World) (b o : Nat) (q : Pp) (N : Nat) (s : Sx) : Prop := PpAt W b o q ∧ StAt W N 0 s
theorem AtBox.below {W w1 : World} {b o N : Nat} {q : Pp} {s : Sx} (h : AtBox W b o q N s) (hb : Below W.heap.size W w1) : AtBox w1 b o q N s :=
  ⟨h.1.of (fun o' => (bcellP hb).1 b o' (World.block_lt_of_cell? W _ h.1.1)), h.2.of (fun o' => (bcellP hb).1 N o' (World.block_lt_of_cell? W _ h.2.1))⟩
theorem AtBox.grown {W w1 : World} {b o N : Nat} {q : Pp} {s : Sx} (h : AtBox W b o q N s) (hb : Below (N + 1) W w1) (hB : b < N + 1) : AtBox w1 b o q N s :=
  ⟨h.1.of (fun o' => hb.cell (p := ⟨b, o', none⟩) hB), h.2.of (fun o' => hb.cell (p := ⟨N, o', none⟩) (Nat.lt_succ_self _))⟩

theorem szA {w : World} {o : Obj} {C : Nat} {w' : World} (h : Below C (w.alloc o) w') : w.heap.size + 1 ≤ w'.heap.size := by have := h.size; simpa using this
theorem below_from_drewS {w w' : World} (h : Below w.drew.heap.size w.drew w') : Below w.heap.size w w' := ⟨h.os, h.tape, h.output, h.size, h.block⟩
set_option maxRecDepth 100000 in
set_option maxHeartbeats 8000000 in
theorem specOne_any (a : Option Addr) (ps : List Pp) (cap B : Nat) (d0 : Bool) (p : Pp) (w : World) (h : Pps w B a ps) (hB : B ≤ w.heap.size) (hl : ps.length ≤ 1048576000) :
    Calls Tryz.prog 132 #[.slice a ps.length cap, .agg #[.bool d0, .string p.1, .string p.2.1, .string p.2.2]] w fun e w' => (∃ g n cap', e = .returned (.slice (some ⟨g, 0, none⟩) n cap') ∧ n = (oneL ps (d0, p)).length ∧ OwnQ w' w.heap.size (.slice (some ⟨g, 0, none⟩) n cap') (oneL ps (d0, p))) ∧ Below w.heap.size w w' := by
  have HB0 := hide ((Below.refl w.heap.size w).alloc (Nat.le_refl _) (Obj.cells #[.bool d0, .string p.1, .string p.2.1, .string p.2.2] 119))
  have HB1 := hide ((Below.refl (w.heap.size + 1) (w.alloc (Obj.cells #[.bool d0, .string p.1, .string p.2.1, .string p.2.2] 119))).alloc (by simp) (Obj.cells #[] 88))
  have HBX := hide (show StAt ((w.alloc (Obj.cells #[.bool d0, .string p.1, .string p.2.1, .string p.2.2] 119)).alloc (Obj.cells #[] 88)) w.heap.size 0 (d0, p) by unfold StAt; simp)
  have HM := hide (OwnQ.made (w.alloc (Obj.cells #[.bool d0, .string p.1, .string p.2.1, .string p.2.2] 119)) (w.heap.size + 1) (by simp))
  have HEL := hide (oneL_len ps (d0, p))
  have HEQ := hide (show oneF d0 p ps = oneL ps (d0, p) from rfl)
  go_enter Tryz.func132, Tryz.ntmps132
  go_wp2
  go_loopw [5, 6, 7] (fun out dn i wr => ∃ (k : Nat) (d : Bool) (g n c : Nat) (acc : List Pp), k ≤ ps.length ∧ i = .int .i64 k ∧ dn = .bool d ∧ out = .slice (some ⟨g, 0, none⟩) n c ∧ Hid (n = acc.length) ∧ OwnQ wr (w.heap.size + 1) (.slice (some ⟨g, 0, none⟩) n c) acc ∧ Hid (acc ++ oneF d p (ps.drop k) = oneL ps (d0, p)) ∧ StAt wr w.heap.size 0 (d0, p) ∧ Below (w.heap.size + 1) (w.alloc (Obj.cells #[.bool d0, .string p.1, .string p.2.1, .string p.2.2] 119)) wr) (fun _ _ i _ => ps.length - (intOf i).toNat)
  case atStart => exact ⟨0, d0, w.heap.size + 1, 0, 0, [], Nat.zero_le _, rfl, rfl, (by simp), rfl, (by have := HM.out; simpa using this), HEQ.out, HBX.out, HB1.out⟩
  case round =>
    obtain ⟨k, d, g, n, c, acc, hk, rfl, rfl, rfl, hn, hO, hC, hbx, hbe⟩ := hrel
    have HAL := hide (show acc.length ≤ 1048576001 by have h1 := congrArg List.length hC.out; have h2 := HEL.out; rw [List.length_append] at h1; omega)
    have hsz := hbe.size
    simp only [World.size_alloc] at hsz
    by_cases hlt : k < ps.length
    · obtain ⟨b, o, rfl, hb, hc⟩ := ((h.below HB0.out hB).below (hbe.mono (by omega)) (Nat.le_refl _)) (by omega)
      have hbB : b < w.heap.size + 1 := by omega
      have hX0 : AtBox wr b (o + k * 3) ps[k] w.heap.size (d0, p) := ⟨hc k hlt, hbx⟩
      clear hc hbx
      have HDR := hide (show ps.drop k = ps[k] :: ps.drop (k + 1) from List.drop_eq_getElem_cons hlt)
      have HLE := hide (fun W => specLessProp_any ps[k] p W)
      have hk1 : (k : Int) < (ps.length : Int) := by omega
      have hk0 : (0 : Int) ≤ (k : Int) := by omega
      cases d
      · obtain ⟨u, hu⟩ : ∃ u, lessP ps[k] p = u := ⟨_, rfl⟩
        rw [hu] at HLE
        have HU := hide hu
        clear hu
        cases u
        · go_wp2
          refine wp_region_held_drew (S := (fun W => AtBox W b (o + k * 3) ps[k] w.heap.size (d0, p))) (by kernel_rfl) (by exact hX0) (fun hHeld => ?_)
          simp only [List.size_toArray, List.length_cons, List.length_nil, Nat.reduceAdd, Array.replicate_succ, Array.replicate_zero, List.push_toArray, List.nil_append, List.cons_append]
          refine wpAnyH_take (i := 0) (v := ?_) rfl (by kernel_rfl) (by kernel_rfl) (by kernel_rfl) (fun _ _ _ h => h) (Or.inl ⟨by rfl, ?_⟩) (by assumption) ?_
          rotate_left
          · intro w hSw; (try dsimp only at hSw); obtain ⟨⟨hs0, hs1, hs2⟩, ⟨hs3, hs4, hs5, hs6⟩⟩ := hSw; simp only [Nat.zero_add] at hs3 hs4 hs5 hs6; go_simp; try with_reducible rfl
          simp only [Act.put, List.getElem_toArray, List.getElem_cons_zero, List.setIfInBounds_toArray, List.set_cons_zero]
          refine wpAnyH_take (i := 1) (v := .bool true) rfl (by kernel_rfl) (by kernel_rfl) (by kernel_rfl) (fun _ _ _ h => h) (Or.inl ⟨by rfl, ?_⟩) (by assumption) ?_
          · intro w hSw; (try dsimp only at hSw); obtain ⟨⟨hs0, hs1, hs2⟩, ⟨hs3, hs4, hs5, hs6⟩⟩ := hSw; simp only [Nat.zero_add] at hs3 hs4 hs5 hs6; go_simp
          simp only [Act.put, List.getElem_toArray, List.getElem_cons_succ, List.getElem_cons_zero, List.setIfInBounds_toArray, List.set_cons_succ, List.set_cons_zero]
          refine wpAnyH_take (i := 2) (v := .bool true) rfl (by kernel_rfl) (by kernel_rfl) (by kernel_rfl) (fun _ _ _ h => h) (Or.inl ⟨by rfl, ?_⟩) (by assumption) ?_
          · intro w hSw; (try dsimp only at hSw); obtain ⟨⟨hs0, hs1, hs2⟩, ⟨hs3, hs4, hs5, hs6⟩⟩ := hSw; simp only [Nat.zero_add] at hs3 hs4 hs5 hs6; go_simp
          simp only [Act.put, List.getElem_toArray, List.getElem_cons_succ, List.getElem_cons_zero, List.setIfInBounds_toArray, List.set_cons_succ, List.set_cons_zero]
          refine wpAnyH_take (i := 3) (v := ?_) rfl (by kernel_rfl) (by kernel_rfl) (by kernel_rfl) (fun _ _ _ h => h) (Or.inl ⟨by rfl, ?_⟩) (by assumption) ?_
          rotate_left
          · intro w hSw; (try dsimp only at hSw); obtain ⟨⟨hs0, hs1, hs2⟩, ⟨hs3, hs4, hs5, hs6⟩⟩ := hSw; simp only [Nat.zero_add] at hs3 hs4 hs5 hs6; go_simp; try with_reducible rfl
          simp only [Act.put, List.getElem_toArray, List.getElem_cons_succ, List.getElem_cons_zero, List.setIfInBounds_toArray, List.set_cons_succ, List.set_cons_zero]
          refine wpAnyH_take (i := 4) (v := ?_) rfl (by kernel_rfl) (by kernel_rfl) (by kernel_rfl) (fun _ _ _ h => h) (Or.inl ⟨by rfl, ?_⟩) (by assumption) ?_
          rotate_left
          · intro w hSw; (try dsimp only at hSw); obtain ⟨⟨hs0, hs1, hs2⟩, ⟨hs3, hs4, hs5, hs6⟩⟩ := hSw; simp only [Nat.zero_add] at hs3 hs4 hs5 hs6; go_simp; try with_reducible rfl
          simp only [Act.put, List.getElem_toArray, List.getElem_cons_succ, List.getElem_cons_zero, List.setIfInBounds_toArray, List.set_cons_succ, List.set_cons_zero]
          refine wpAnyH_take (i := 5) (v := ?_) rfl (by kernel_rfl) (by kernel_rfl) (by kernel_rfl) (fun _ _ _ h => h) (Or.inl ⟨by rfl, ?_⟩) (by assumption) ?_
          rotate_left
          · intro w hSw; (try dsimp only at hSw); obtain ⟨⟨hs0, hs1, hs2⟩, ⟨hs3, hs4, hs5, hs6⟩⟩ := hSw; simp only [Nat.zero_add] at hs3 hs4 hs5 hs6; go_simp; try with_reducible rfl
          simp only [Act.put, List.getElem_toArray, List.getElem_cons_succ, List.getElem_cons_zero, List.setIfInBounds_toArray, List.set_cons_succ, List.set_cons_zero]
          refine wpAnyH_take (i := 6) (v := ?_) rfl (by kernel_rfl) (by kernel_rfl) (by kernel_rfl) (fun _ _ _ h => h) (Or.inl ⟨by rfl, ?_⟩) (by assumption) ?_
          rotate_left
          · intro w hSw; (try dsimp only at hSw); obtain ⟨⟨hs0, hs1, hs2⟩, ⟨hs3, hs4, hs5, hs6⟩⟩ := hSw; simp only [Nat.zero_add] at hs3 hs4 hs5 hs6; go_simp; try with_reducible rfl
          simp only [Act.put, List.getElem_toArray, List.getElem_cons_succ, List.getElem_cons_zero, List.setIfInBounds_toArray, List.set_cons_succ, List.set_cons_zero]
          refine wpAnyH_take (i := 7) (v := ?_) rfl (by kernel_rfl) (by kernel_rfl) (by kernel_rfl) (fun _ _ _ h => h) (Or.inl ⟨by rfl, ?_⟩) (by assumption) ?_
          rotate_left
          · intro w hSw; (try dsimp only at hSw); obtain ⟨⟨hs0, hs1, hs2⟩, ⟨hs3, hs4, hs5, hs6⟩⟩ := hSw; simp only [Nat.zero_add] at hs3 hs4 hs5 hs6; go_simp; try with_reducible rfl
          simp only [Act.put, List.getElem_toArray, List.getElem_cons_succ, List.getElem_cons_zero, List.setIfInBounds_toArray, List.set_cons_succ, List.set_cons_zero]
          refine wpAnyH_take (i := 8) (v := ?_) rfl (by kernel_rfl) (by kernel_rfl) (by kernel_rfl) (fun _ _ _ h => h) (Or.inl ⟨by rfl, ?_⟩) (by assumption) ?_
          rotate_left
          · intro w hSw; (try dsimp only at hSw); obtain ⟨⟨hs0, hs1, hs2⟩, ⟨hs3, hs4, hs5, hs6⟩⟩ := hSw; simp only [Nat.zero_add] at hs3 hs4 hs5 hs6; go_simp; try with_reducible rfl
          simp only [Act.put, List.getElem_toArray, List.getElem_cons_succ, List.getElem_cons_zero, List.setIfInBounds_toArray, List.set_cons_succ, List.set_cons_zero]
          refine wpAnyH_ready (rs := [9]) (by kernel_rfl) (by simp) ?_
          refine AllReadyH.cons rfl (fun K hK => ?_) AllReadyH.nil
          go_simp
          refine (HLE.out _).mono ?_
          rintro e w1 ⟨rfl, b1⟩
          refine hK.out _ _ (hHeld.below b1) (fun hHeld2 => ?_)
          clear hK K hHeld
          have hHeld := hHeld2
          clear hHeld2
          simp only [List.setIfInBounds_toArray, List.set_cons_succ, List.set_cons_zero]
          refine wpAnyH_take (i := 10) (v := .bool true) rfl (by kernel_rfl) (by kernel_rfl) (by kernel_rfl) (fun _ _ _ h => h) (Or.inl ⟨by rfl, ?_⟩) (by assumption) ?_
          · intro w hSw; (try dsimp only at hSw); obtain ⟨⟨hs0, hs1, hs2⟩, ⟨hs3, hs4, hs5, hs6⟩⟩ := hSw; simp only [Nat.zero_add] at hs3 hs4 hs5 hs6; go_simp
          simp only [Act.put, List.getElem_toArray, List.getElem_cons_succ, List.getElem_cons_zero, List.setIfInBounds_toArray, List.set_cons_succ, List.set_cons_zero]
          refine wpAnyH_take (i := 11) (v := .bool true) rfl (by kernel_rfl) (by kernel_rfl) (by kernel_rfl) (fun _ _ _ h => h) (Or.inl ⟨by rfl, ?_⟩) (by assumption) ?_
          · intro w hSw; (try dsimp only at hSw); obtain ⟨⟨hs0, hs1, hs2⟩, ⟨hs3, hs4, hs5, hs6⟩⟩ := hSw; simp only [Nat.zero_add] at hs3 hs4 hs5 hs6; go_simp
          simp only [Act.put, List.getElem_toArray, List.getElem_cons_succ, List.getElem_cons_zero, List.setIfInBounds_toArray, List.set_cons_succ, List.set_cons_zero]
          refine wpAnyH_done (by kernel_rfl) ?_ _
          have c1 := hbe.trans ((below_from_drewS b1).mono hsz)
          have hX1 := hHeld
          have hA1 := (hO.next (below_from_drewS b1)).alloc (Obj.cells #[.string p.1, .string p.2.1, .string p.2.2] 88)
          have HO1 := hide hA1
          have HX1 := hide (hX1.below ((Below.refl _ _).alloc (Nat.le_refl _) (Obj.cells #[.string p.1, .string p.2.1, .string p.2.2] 88)))
          have HC1 := hide (c1.alloc (szA c1) (Obj.cells #[.string p.1, .string p.2.1, .string p.2.2] 88))
          obtain ⟨⟨hs0, hs1, hs2⟩, ⟨hs3, hs4, hs5, hs6⟩⟩ := hX1
          simp only [Nat.zero_add] at hs3 hs4 hs5 hs6
          clear hHeld hX0 hO hA1 c1 b1
          have HLN := hide (show acc.length + 1 ≤ 1099511627776 by have := HAL.out; omega)
          go_wp2_with (at_builtin; refine wp_append_prop rfl _ _ rfl (w.heap.size + 1) _ acc rfl HO1.out _ p rfl ?_ ?_ ?_ HLN.out (szA HC1.out) ?_)
          · simp
          · simp
          · simp
          intro g2 n2 cap2 w2 hn2 hO2 hb2
          have c2 := HC1.out.trans (hb2.mono (Nat.le_refl _))
          have hX := HX1.out.grown hb2 hbB
          have HN2 := hide hn2
          clear hb2 hn2 hs0 hs1 hs2 hs3 hs4 hs5 hs6 HLN
          have hsz2 := c2.size
          simp only [World.size_alloc] at hsz2
          by_cases e1 : ps[k].1 = p.1
          · have q1 := eqBs e1
            by_cases e2 : ps[k].2.1 = p.2.1
            · have q2 := eqBs e2
              have HV := hide (show neP p ps[k] = false by unfold neP; rw [isP_yes e1 e2]; rfl)
              clear e1 e2
              go_wp2
              refine wp_region_held_drew (S := (fun W => AtBox W b (o + k * 3) ps[k] w.heap.size (d0, p))) (by kernel_rfl) (by exact hX) (fun hHeld => ?_)
              simp only [List.size_toArray, List.length_cons, List.length_nil, Nat.reduceAdd, Array.replicate_succ, Array.replicate_zero, List.push_toArray, List.nil_append, List.cons_append]
              refine wpAnyH_take (i := 0) (v := ?_) rfl (by kernel_rfl) (by kernel_rfl) (by kernel_rfl) (fun _ _ _ h => h) (Or.inl ⟨by rfl, ?_⟩) (by assumption) ?_
              rotate_left
              · intro w hSw; (try dsimp only at hSw); obtain ⟨⟨hs0, hs1, hs2⟩, ⟨hs3, hs4, hs5, hs6⟩⟩ := hSw; simp only [Nat.zero_add] at hs3 hs4 hs5 hs6; go_simp; try with_reducible rfl
              simp only [Act.put, List.getElem_toArray, List.getElem_cons_zero, List.setIfInBounds_toArray, List.set_cons_zero]
              refine wpAnyH_take (i := 1) (v := ?_) rfl (by kernel_rfl) (by kernel_rfl) (by kernel_rfl) (fun _ _ _ h => h) (Or.inl ⟨by rfl, ?_⟩) (by assumption) ?_
              rotate_left
              · intro w hSw; (try dsimp only at hSw); obtain ⟨⟨hs0, hs1, hs2⟩, ⟨hs3, hs4, hs5, hs6⟩⟩ := hSw; simp only [Nat.zero_add] at hs3 hs4 hs5 hs6; go_simp; try with_reducible rfl
              simp only [Act.put, List.getElem_toArray, List.getElem_cons_succ, List.getElem_cons_zero, List.setIfInBounds_toArray, List.set_cons_succ, List.set_cons_zero]
              refine wpAnyH_take (i := 2) (v := ?_) rfl (by kernel_rfl) (by kernel_rfl) (by kernel_rfl) (fun _ _ _ h => h) (Or.inl ⟨by rfl, ?_⟩) (by assumption) ?_
              rotate_left
              · intro w hSw; (try dsimp only at hSw); obtain ⟨⟨hs0, hs1, hs2⟩, ⟨hs3, hs4, hs5, hs6⟩⟩ := hSw; simp only [Nat.zero_add] at hs3 hs4 hs5 hs6; go_simp; try with_reducible rfl
              simp only [Act.put, List.getElem_toArray, List.getElem_cons_succ, List.getElem_cons_zero, List.setIfInBounds_toArray, List.set_cons_succ, List.set_cons_zero]
              refine wpAnyH_take (i := 3) (v := ?_) rfl (by kernel_rfl) (by kernel_rfl) (by kernel_rfl) (fun _ _ _ h => h) (Or.inl ⟨by rfl, ?_⟩) (by assumption) ?_
              rotate_left
              · intro w hSw; (try dsimp only at hSw); obtain ⟨⟨hs0, hs1, hs2⟩, ⟨hs3, hs4, hs5, hs6⟩⟩ := hSw; simp only [Nat.zero_add] at hs3 hs4 hs5 hs6; go_simp; try with_reducible rfl
              simp only [Act.put, List.getElem_toArray, List.getElem_cons_succ, List.getElem_cons_zero, List.setIfInBounds_toArray, List.set_cons_succ, List.set_cons_zero]
              refine wpAnyH_take (i := 4) (v := ?_) rfl (by kernel_rfl) (by kernel_rfl) (by kernel_rfl) (fun _ _ _ h => h) (Or.inl ⟨by rfl, ?_⟩) (by assumption) ?_
              rotate_left
              · intro w hSw; (try dsimp only at hSw); obtain ⟨⟨hs0, hs1, hs2⟩, ⟨hs3, hs4, hs5, hs6⟩⟩ := hSw; simp only [Nat.zero_add] at hs3 hs4 hs5 hs6; go_simp; try with_reducible rfl
              simp only [Act.put, List.getElem_toArray, List.getElem_cons_succ, List.getElem_cons_zero, List.setIfInBounds_toArray, List.set_cons_succ, List.set_cons_zero]
              refine wpAnyH_take (i := 5) (v := ?_) rfl (by kernel_rfl) (by kernel_rfl) (by kernel_rfl) (fun _ _ _ h => h) (Or.inl ⟨by rfl, ?_⟩) (by assumption) ?_
              rotate_left
              · intro w hSw; (try dsimp only at hSw); obtain ⟨⟨hs0, hs1, hs2⟩, ⟨hs3, hs4, hs5, hs6⟩⟩ := hSw; simp only [Nat.zero_add] at hs3 hs4 hs5 hs6; go_simp; try with_reducible rfl
              simp only [Act.put, List.getElem_toArray, List.getElem_cons_succ, List.getElem_cons_zero, List.setIfInBounds_toArray, List.set_cons_succ, List.set_cons_zero]
              refine wpAnyH_take (i := 6) (v := ?_) rfl (by kernel_rfl) (by kernel_rfl) (by kernel_rfl) (fun _ _ _ h => h) (Or.inl ⟨by rfl, ?_⟩) (by assumption) ?_
              rotate_left
              · intro w hSw; (try dsimp only at hSw); obtain ⟨⟨hs0, hs1, hs2⟩, ⟨hs3, hs4, hs5, hs6⟩⟩ := hSw; simp only [Nat.zero_add] at hs3 hs4 hs5 hs6; go_simp; try with_reducible rfl
              simp only [Act.put, List.getElem_toArray, List.getElem_cons_succ, List.getElem_cons_zero, List.setIfInBounds_toArray, List.set_cons_succ, List.set_cons_zero]
              refine wpAnyH_take (i := 7) (v := ?_) rfl (by kernel_rfl) (by kernel_rfl) (by kernel_rfl) (fun _ _ _ h => h) (Or.inl ⟨by rfl, ?_⟩) (by assumption) ?_
              rotate_left
              · intro w hSw; (try dsimp only at hSw); obtain ⟨⟨hs0, hs1, hs2⟩, ⟨hs3, hs4, hs5, hs6⟩⟩ := hSw; simp only [Nat.zero_add] at hs3 hs4 hs5 hs6; go_simp; try with_reducible rfl
              simp only [Act.put, List.getElem_toArray, List.getElem_cons_succ, List.getElem_cons_zero, List.setIfInBounds_toArray, List.set_cons_succ, List.set_cons_zero]
              refine wpAnyH_take (i := 8) (v := .bool false) rfl (by kernel_rfl) (by kernel_rfl) (by kernel_rfl) (fun _ _ _ h => h) (Or.inl ⟨by rfl, ?_⟩) (by assumption) ?_
              · intro w hSw; (try dsimp only at hSw); obtain ⟨⟨hs0, hs1, hs2⟩, ⟨hs3, hs4, hs5, hs6⟩⟩ := hSw; simp only [Nat.zero_add] at hs3 hs4 hs5 hs6; go_simp
              simp only [Act.put, List.getElem_toArray, List.getElem_cons_succ, List.getElem_cons_zero, List.setIfInBounds_toArray, List.set_cons_succ, List.set_cons_zero]
              refine wpAnyH_take (i := 9) (v := .bool false) rfl (by kernel_rfl) (by kernel_rfl) (by kernel_rfl) (fun _ _ _ h => h) (Or.inl ⟨by rfl, ?_⟩) (by assumption) ?_
              · intro w hSw; (try dsimp only at hSw); obtain ⟨⟨hs0, hs1, hs2⟩, ⟨hs3, hs4, hs5, hs6⟩⟩ := hSw; simp only [Nat.zero_add] at hs3 hs4 hs5 hs6; go_simp
              simp only [Act.put, List.getElem_toArray, List.getElem_cons_succ, List.getElem_cons_zero, List.setIfInBounds_toArray, List.set_cons_succ, List.set_cons_zero]
              refine wpAnyH_take (i := 10) (v := ?_) rfl (by kernel_rfl) (by kernel_rfl) (by kernel_rfl) (fun _ _ _ h => h) (Or.inl ⟨by rfl, ?_⟩) (by assumption) ?_
              rotate_left
              · intro w hSw; (try dsimp only at hSw); obtain ⟨⟨hs0, hs1, hs2⟩, ⟨hs3, hs4, hs5, hs6⟩⟩ := hSw; simp only [Nat.zero_add] at hs3 hs4 hs5 hs6; go_simp; try with_reducible rfl
              simp only [Act.put, List.getElem_toArray, List.getElem_cons_succ, List.getElem_cons_zero, List.setIfInBounds_toArray, List.set_cons_succ, List.set_cons_zero]
              refine wpAnyH_take (i := 11) (v := ?_) rfl (by kernel_rfl) (by kernel_rfl) (by kernel_rfl) (fun _ _ _ h => h) (Or.inl ⟨by rfl, ?_⟩) (by assumption) ?_
              rotate_left
              · intro w hSw; (try dsimp only at hSw); obtain ⟨⟨hs0, hs1, hs2⟩, ⟨hs3, hs4, hs5, hs6⟩⟩ := hSw; simp only [Nat.zero_add] at hs3 hs4 hs5 hs6; go_simp; try with_reducible rfl
              simp only [Act.put, List.getElem_toArray, List.getElem_cons_succ, List.getElem_cons_zero, List.setIfInBounds_toArray, List.set_cons_succ, List.set_cons_zero]
              refine wpAnyH_take (i := 12) (v := ?_) rfl (by kernel_rfl) (by kernel_rfl) (by kernel_rfl) (fun _ _ _ h => h) (Or.inl ⟨by rfl, ?_⟩) (by assumption) ?_
              rotate_left
              · intro w hSw; (try dsimp only at hSw); obtain ⟨⟨hs0, hs1, hs2⟩, ⟨hs3, hs4, hs5, hs6⟩⟩ := hSw; simp only [Nat.zero_add] at hs3 hs4 hs5 hs6; go_simp; try with_reducible rfl
              simp only [Act.put, List.getElem_toArray, List.getElem_cons_succ, List.getElem_cons_zero, List.setIfInBounds_toArray, List.set_cons_succ, List.set_cons_zero]
              refine wpAnyH_take (i := 13) (v := ?_) rfl (by kernel_rfl) (by kernel_rfl) (by kernel_rfl) (fun _ _ _ h => h) (Or.inl ⟨by rfl, ?_⟩) (by assumption) ?_
              rotate_left
              · intro w hSw; (try dsimp only at hSw); obtain ⟨⟨hs0, hs1, hs2⟩, ⟨hs3, hs4, hs5, hs6⟩⟩ := hSw; simp only [Nat.zero_add] at hs3 hs4 hs5 hs6; go_simp; try with_reducible rfl
              simp only [Act.put, List.getElem_toArray, List.getElem_cons_succ, List.getElem_cons_zero, List.setIfInBounds_toArray, List.set_cons_succ, List.set_cons_zero]
              refine wpAnyH_take (i := 14) (v := ?_) rfl (by kernel_rfl) (by kernel_rfl) (by kernel_rfl) (fun _ _ _ h => h) (Or.inl ⟨by rfl, ?_⟩) (by assumption) ?_
              rotate_left
              · intro w hSw; (try dsimp only at hSw); obtain ⟨⟨hs0, hs1, hs2⟩, ⟨hs3, hs4, hs5, hs6⟩⟩ := hSw; simp only [Nat.zero_add] at hs3 hs4 hs5 hs6; go_simp; try with_reducible rfl
              simp only [Act.put, List.getElem_toArray, List.getElem_cons_succ, List.getElem_cons_zero, List.setIfInBounds_toArray, List.set_cons_succ, List.set_cons_zero]
              refine wpAnyH_take (i := 15) (v := ?_) rfl (by kernel_rfl) (by kernel_rfl) (by kernel_rfl) (fun _ _ _ h => h) (Or.inl ⟨by rfl, ?_⟩) (by assumption) ?_
              rotate_left
              · intro w hSw; (try dsimp only at hSw); obtain ⟨⟨hs0, hs1, hs2⟩, ⟨hs3, hs4, hs5, hs6⟩⟩ := hSw; simp only [Nat.zero_add] at hs3 hs4 hs5 hs6; go_simp; try with_reducible rfl
              simp only [Act.put, List.getElem_toArray, List.getElem_cons_succ, List.getElem_cons_zero, List.setIfInBounds_toArray, List.set_cons_succ, List.set_cons_zero]
              refine wpAnyH_take (i := 16) (v := ?_) rfl (by kernel_rfl) (by kernel_rfl) (by kernel_rfl) (fun _ _ _ h => h) (Or.inl ⟨by rfl, ?_⟩) (by assumption) ?_
              rotate_left
              · intro w hSw; (try dsimp only at hSw); obtain ⟨⟨hs0, hs1, hs2⟩, ⟨hs3, hs4, hs5, hs6⟩⟩ := hSw; simp only [Nat.zero_add] at hs3 hs4 hs5 hs6; go_simp; try with_reducible rfl
              simp only [Act.put, List.getElem_toArray, List.getElem_cons_succ, List.getElem_cons_zero, List.setIfInBounds_toArray, List.set_cons_succ, List.set_cons_zero]
              refine wpAnyH_take (i := 17) (v := ?_) rfl (by kernel_rfl) (by kernel_rfl) (by kernel_rfl) (fun _ _ _ h => h) (Or.inl ⟨by rfl, ?_⟩) (by assumption) ?_
              rotate_left
              · intro w hSw; (try dsimp only at hSw); obtain ⟨⟨hs0, hs1, hs2⟩, ⟨hs3, hs4, hs5, hs6⟩⟩ := hSw; simp only [Nat.zero_add] at hs3 hs4 hs5 hs6; go_simp; try with_reducible rfl
              simp only [Act.put, List.getElem_toArray, List.getElem_cons_succ, List.getElem_cons_zero, List.setIfInBounds_toArray, List.set_cons_succ, List.set_cons_zero]
              refine wpAnyH_take (i := 18) (v := ?_) rfl (by kernel_rfl) (by kernel_rfl) (by kernel_rfl) (fun _ _ _ h => h) (Or.inl ⟨by rfl, ?_⟩) (by assumption) ?_
              rotate_left
              · intro w hSw; (try dsimp only at hSw); obtain ⟨⟨hs0, hs1, hs2⟩, ⟨hs3, hs4, hs5, hs6⟩⟩ := hSw; simp only [Nat.zero_add] at hs3 hs4 hs5 hs6; go_simp; try with_reducible rfl
              simp only [Act.put, List.getElem_toArray, List.getElem_cons_succ, List.getElem_cons_zero, List.setIfInBounds_toArray, List.set_cons_succ, List.set_cons_zero]
              refine wpAnyH_take (i := 19) (v := .bool false) rfl (by kernel_rfl) (by kernel_rfl) (by kernel_rfl) (fun _ _ _ h => h) (Or.inl ⟨by rfl, ?_⟩) (by assumption) ?_
              · intro w hSw; (try dsimp only at hSw); obtain ⟨⟨hs0, hs1, hs2⟩, ⟨hs3, hs4, hs5, hs6⟩⟩ := hSw; simp only [Nat.zero_add] at hs3 hs4 hs5 hs6; go_simp
              simp only [Act.put, List.getElem_toArray, List.getElem_cons_succ, List.getElem_cons_zero, List.setIfInBounds_toArray, List.set_cons_succ, List.set_cons_zero]
              refine wpAnyH_done (by kernel_rfl) ?_ _
              have c9 := below_drewP c2
              have hX9 := hHeld
              clear hHeld
              go_wp2
              go_roundw
              case rel => exact ⟨k + 1, true, _, _, _, (acc ++ [p]), by omega, by go_num, rfl, rfl, hide (by have := HN2.out; simpa using this), hO2.next (below_drewP (Below.refl _ _)), hide (by rw [← hC.out, HDR.out]; simp [oneF, HU.out, HV.out]), hX9.2, c9⟩
              case measure => simp [intOf]; omega
            · have q2 := neBs e2
              have HV := hide (show neP p ps[k] = true by unfold neP; rw [isP_no2 e2]; rfl)
              clear e1 e2
              go_wp2
              refine wp_region_held_drew (S := (fun W => AtBox W b (o + k * 3) ps[k] w.heap.size (d0, p))) (by kernel_rfl) (by exact hX) (fun hHeld => ?_)
              simp only [List.size_toArray, List.length_cons, List.length_nil, Nat.reduceAdd, Array.replicate_succ, Array.replicate_zero, List.push_toArray, List.nil_append, List.cons_append]
              refine wpAnyH_take (i := 0) (v := ?_) rfl (by kernel_rfl) (by kernel_rfl) (by kernel_rfl) (fun _ _ _ h => h) (Or.inl ⟨by rfl, ?_⟩) (by assumption) ?_
              rotate_left
              · intro w hSw; (try dsimp only at hSw); obtain ⟨⟨hs0, hs1, hs2⟩, ⟨hs3, hs4, hs5, hs6⟩⟩ := hSw; simp only [Nat.zero_add] at hs3 hs4 hs5 hs6; go_simp; try with_reducible rfl
              simp only [Act.put, List.getElem_toArray, List.getElem_cons_zero, List.setIfInBounds_toArray, List.set_cons_zero]
              refine wpAnyH_take (i := 1) (v := ?_) rfl (by kernel_rfl) (by kernel_rfl) (by kernel_rfl) (fun _ _ _ h => h) (Or.inl ⟨by rfl, ?_⟩) (by assumption) ?_
              rotate_left
              · intro w hSw; (try dsimp only at hSw); obtain ⟨⟨hs0, hs1, hs2⟩, ⟨hs3, hs4, hs5, hs6⟩⟩ := hSw; simp only [Nat.zero_add] at hs3 hs4 hs5 hs6; go_simp; try with_reducible rfl
              simp only [Act.put, List.getElem_toArray, List.getElem_cons_succ, List.getElem_cons_zero, List.setIfInBounds_toArray, List.set_cons_succ, List.set_cons_zero]
              refine wpAnyH_take (i := 2) (v := ?_) rfl (by kernel_rfl) (by kernel_rfl) (by kernel_rfl) (fun _ _ _ h => h) (Or.inl ⟨by rfl, ?_⟩) (by assumption) ?_
              rotate_left
              · intro w hSw; (try dsimp only at hSw); obtain ⟨⟨hs0, hs1, hs2⟩, ⟨hs3, hs4, hs5, hs6⟩⟩ := hSw; simp only [Nat.zero_add] at hs3 hs4 hs5 hs6; go_simp; try with_reducible rfl
              simp only [Act.put, List.getElem_toArray, List.getElem_cons_succ, List.getElem_cons_zero, List.setIfInBounds_toArray, List.set_cons_succ, List.set_cons_zero]
              refine wpAnyH_take (i := 3) (v := ?_) rfl (by kernel_rfl) (by kernel_rfl) (by kernel_rfl) (fun _ _ _ h => h) (Or.inl ⟨by rfl, ?_⟩) (by assumption) ?_
              rotate_left
              · intro w hSw; (try dsimp only at hSw); obtain ⟨⟨hs0, hs1, hs2⟩, ⟨hs3, hs4, hs5, hs6⟩⟩ := hSw; simp only [Nat.zero_add] at hs3 hs4 hs5 hs6; go_simp; try with_reducible rfl
              simp only [Act.put, List.getElem_toArray, List.getElem_cons_succ, List.getElem_cons_zero, List.setIfInBounds_toArray, List.set_cons_succ, List.set_cons_zero]
              refine wpAnyH_take (i := 4) (v := ?_) rfl (by kernel_rfl) (by kernel_rfl) (by kernel_rfl) (fun _ _ _ h => h) (Or.inl ⟨by rfl, ?_⟩) (by assumption) ?_
              rotate_left
              · intro w hSw; (try dsimp only at hSw); obtain ⟨⟨hs0, hs1, hs2⟩, ⟨hs3, hs4, hs5, hs6⟩⟩ := hSw; simp only [Nat.zero_add] at hs3 hs4 hs5 hs6; go_simp; try with_reducible rfl
              simp only [Act.put, List.getElem_toArray, List.getElem_cons_succ, List.getElem_cons_zero, List.setIfInBounds_toArray, List.set_cons_succ, List.set_cons_zero]
              refine wpAnyH_take (i := 5) (v := ?_) rfl (by kernel_rfl) (by kernel_rfl) (by kernel_rfl) (fun _ _ _ h => h) (Or.inl ⟨by rfl, ?_⟩) (by assumption) ?_
              rotate_left
              · intro w hSw; (try dsimp only at hSw); obtain ⟨⟨hs0, hs1, hs2⟩, ⟨hs3, hs4, hs5, hs6⟩⟩ := hSw; simp only [Nat.zero_add] at hs3 hs4 hs5 hs6; go_simp; try with_reducible rfl
              simp only [Act.put, List.getElem_toArray, List.getElem_cons_succ, List.getElem_cons_zero, List.setIfInBounds_toArray, List.set_cons_succ, List.set_cons_zero]
              refine wpAnyH_take (i := 6) (v := ?_) rfl (by kernel_rfl) (by kernel_rfl) (by kernel_rfl) (fun _ _ _ h => h) (Or.inl ⟨by rfl, ?_⟩) (by assumption) ?_
              rotate_left
              · intro w hSw; (try dsimp only at hSw); obtain ⟨⟨hs0, hs1, hs2⟩, ⟨hs3, hs4, hs5, hs6⟩⟩ := hSw; simp only [Nat.zero_add] at hs3 hs4 hs5 hs6; go_simp; try with_reducible rfl
              simp only [Act.put, List.getElem_toArray, List.getElem_cons_succ, List.getElem_cons_zero, List.setIfInBounds_toArray, List.set_cons_succ, List.set_cons_zero]
              refine wpAnyH_take (i := 7) (v := ?_) rfl (by kernel_rfl) (by kernel_rfl) (by kernel_rfl) (fun _ _ _ h => h) (Or.inl ⟨by rfl, ?_⟩) (by assumption) ?_
              rotate_left
              · intro w hSw; (try dsimp only at hSw); obtain ⟨⟨hs0, hs1, hs2⟩, ⟨hs3, hs4, hs5, hs6⟩⟩ := hSw; simp only [Nat.zero_add] at hs3 hs4 hs5 hs6; go_simp; try with_reducible rfl
              simp only [Act.put, List.getElem_toArray, List.getElem_cons_succ, List.getElem_cons_zero, List.setIfInBounds_toArray, List.set_cons_succ, List.set_cons_zero]
              refine wpAnyH_take (i := 8) (v := .bool false) rfl (by kernel_rfl) (by kernel_rfl) (by kernel_rfl) (fun _ _ _ h => h) (Or.inl ⟨by rfl, ?_⟩) (by assumption) ?_
              · intro w hSw; (try dsimp only at hSw); obtain ⟨⟨hs0, hs1, hs2⟩, ⟨hs3, hs4, hs5, hs6⟩⟩ := hSw; simp only [Nat.zero_add] at hs3 hs4 hs5 hs6; go_simp
              simp only [Act.put, List.getElem_toArray, List.getElem_cons_succ, List.getElem_cons_zero, List.setIfInBounds_toArray, List.set_cons_succ, List.set_cons_zero]
              refine wpAnyH_take (i := 9) (v := .bool false) rfl (by kernel_rfl) (by kernel_rfl) (by kernel_rfl) (fun _ _ _ h => h) (Or.inl ⟨by rfl, ?_⟩) (by assumption) ?_
              · intro w hSw; (try dsimp only at hSw); obtain ⟨⟨hs0, hs1, hs2⟩, ⟨hs3, hs4, hs5, hs6⟩⟩ := hSw; simp only [Nat.zero_add] at hs3 hs4 hs5 hs6; go_simp
              simp only [Act.put, List.getElem_toArray, List.getElem_cons_succ, List.getElem_cons_zero, List.setIfInBounds_toArray, List.set_cons_succ, List.set_cons_zero]
              refine wpAnyH_take (i := 10) (v := ?_) rfl (by kernel_rfl) (by kernel_rfl) (by kernel_rfl) (fun _ _ _ h => h) (Or.inl ⟨by rfl, ?_⟩) (by assumption) ?_
              rotate_left
              · intro w hSw; (try dsimp only at hSw); obtain ⟨⟨hs0, hs1, hs2⟩, ⟨hs3, hs4, hs5, hs6⟩⟩ := hSw; simp only [Nat.zero_add] at hs3 hs4 hs5 hs6; go_simp; try with_reducible rfl
              simp only [Act.put, List.getElem_toArray, List.getElem_cons_succ, List.getElem_cons_zero, List.setIfInBounds_toArray, List.set_cons_succ, List.set_cons_zero]
              refine wpAnyH_take (i := 11) (v := ?_) rfl (by kernel_rfl) (by kernel_rfl) (by kernel_rfl) (fun _ _ _ h => h) (Or.inl ⟨by rfl, ?_⟩) (by assumption) ?_
              rotate_left
              · intro w hSw; (try dsimp only at hSw); obtain ⟨⟨hs0, hs1, hs2⟩, ⟨hs3, hs4, hs5, hs6⟩⟩ := hSw; simp only [Nat.zero_add] at hs3 hs4 hs5 hs6; go_simp; try with_reducible rfl
              simp only [Act.put, List.getElem_toArray, List.getElem_cons_succ, List.getElem_cons_zero, List.setIfInBounds_toArray, List.set_cons_succ, List.set_cons_zero]
              refine wpAnyH_take (i := 12) (v := ?_) rfl (by kernel_rfl) (by kernel_rfl) (by kernel_rfl) (fun _ _ _ h => h) (Or.inl ⟨by rfl, ?_⟩) (by assumption) ?_
              rotate_left
              · intro w hSw; (try dsimp only at hSw); obtain ⟨⟨hs0, hs1, hs2⟩, ⟨hs3, hs4, hs5, hs6⟩⟩ := hSw; simp only [Nat.zero_add] at hs3 hs4 hs5 hs6; go_simp; try with_reducible rfl
              simp only [Act.put, List.getElem_toArray, List.getElem_cons_succ, List.getElem_cons_zero, List.setIfInBounds_toArray, List.set_cons_succ, List.set_cons_zero]
              refine wpAnyH_take (i := 13) (v := ?_) rfl (by kernel_rfl) (by kernel_rfl) (by kernel_rfl) (fun _ _ _ h => h) (Or.inl ⟨by rfl, ?_⟩) (by assumption) ?_
              rotate_left
              · intro w hSw; (try dsimp only at hSw); obtain ⟨⟨hs0, hs1, hs2⟩, ⟨hs3, hs4, hs5, hs6⟩⟩ := hSw; simp only [Nat.zero_add] at hs3 hs4 hs5 hs6; go_simp; try with_reducible rfl
              simp only [Act.put, List.getElem_toArray, List.getElem_cons_succ, List.getElem_cons_zero, List.setIfInBounds_toArray, List.set_cons_succ, List.set_cons_zero]
              refine wpAnyH_take (i := 14) (v := ?_) rfl (by kernel_rfl) (by kernel_rfl) (by kernel_rfl) (fun _ _ _ h => h) (Or.inl ⟨by rfl, ?_⟩) (by assumption) ?_
              rotate_left
              · intro w hSw; (try dsimp only at hSw); obtain ⟨⟨hs0, hs1, hs2⟩, ⟨hs3, hs4, hs5, hs6⟩⟩ := hSw; simp only [Nat.zero_add] at hs3 hs4 hs5 hs6; go_simp; try with_reducible rfl
              simp only [Act.put, List.getElem_toArray, List.getElem_cons_succ, List.getElem_cons_zero, List.setIfInBounds_toArray, List.set_cons_succ, List.set_cons_zero]
              refine wpAnyH_take (i := 15) (v := ?_) rfl (by kernel_rfl) (by kernel_rfl) (by kernel_rfl) (fun _ _ _ h => h) (Or.inl ⟨by rfl, ?_⟩) (by assumption) ?_
              rotate_left
              · intro w hSw; (try dsimp only at hSw); obtain ⟨⟨hs0, hs1, hs2⟩, ⟨hs3, hs4, hs5, hs6⟩⟩ := hSw; simp only [Nat.zero_add] at hs3 hs4 hs5 hs6; go_simp; try with_reducible rfl
              simp only [Act.put, List.getElem_toArray, List.getElem_cons_succ, List.getElem_cons_zero, List.setIfInBounds_toArray, List.set_cons_succ, List.set_cons_zero]
              refine wpAnyH_take (i := 16) (v := ?_) rfl (by kernel_rfl) (by kernel_rfl) (by kernel_rfl) (fun _ _ _ h => h) (Or.inl ⟨by rfl, ?_⟩) (by assumption) ?_
              rotate_left
              · intro w hSw; (try dsimp only at hSw); obtain ⟨⟨hs0, hs1, hs2⟩, ⟨hs3, hs4, hs5, hs6⟩⟩ := hSw; simp only [Nat.zero_add] at hs3 hs4 hs5 hs6; go_simp; try with_reducible rfl
              simp only [Act.put, List.getElem_toArray, List.getElem_cons_succ, List.getElem_cons_zero, List.setIfInBounds_toArray, List.set_cons_succ, List.set_cons_zero]
              refine wpAnyH_take (i := 17) (v := ?_) rfl (by kernel_rfl) (by kernel_rfl) (by kernel_rfl) (fun _ _ _ h => h) (Or.inl ⟨by rfl, ?_⟩) (by assumption) ?_
              rotate_left
              · intro w hSw; (try dsimp only at hSw); obtain ⟨⟨hs0, hs1, hs2⟩, ⟨hs3, hs4, hs5, hs6⟩⟩ := hSw; simp only [Nat.zero_add] at hs3 hs4 hs5 hs6; go_simp; try with_reducible rfl
              simp only [Act.put, List.getElem_toArray, List.getElem_cons_succ, List.getElem_cons_zero, List.setIfInBounds_toArray, List.set_cons_succ, List.set_cons_zero]
              refine wpAnyH_take (i := 18) (v := ?_) rfl (by kernel_rfl) (by kernel_rfl) (by kernel_rfl) (fun _ _ _ h => h) (Or.inl ⟨by rfl, ?_⟩) (by assumption) ?_
              rotate_left
              · intro w hSw; (try dsimp only at hSw); obtain ⟨⟨hs0, hs1, hs2⟩, ⟨hs3, hs4, hs5, hs6⟩⟩ := hSw; simp only [Nat.zero_add] at hs3 hs4 hs5 hs6; go_simp; try with_reducible rfl
              simp only [Act.put, List.getElem_toArray, List.getElem_cons_succ, List.getElem_cons_zero, List.setIfInBounds_toArray, List.set_cons_succ, List.set_cons_zero]
              refine wpAnyH_take (i := 19) (v := .bool true) rfl (by kernel_rfl) (by kernel_rfl) (by kernel_rfl) (fun _ _ _ h => h) (Or.inl ⟨by rfl, ?_⟩) (by assumption) ?_
              · intro w hSw; (try dsimp only at hSw); obtain ⟨⟨hs0, hs1, hs2⟩, ⟨hs3, hs4, hs5, hs6⟩⟩ := hSw; simp only [Nat.zero_add] at hs3 hs4 hs5 hs6; go_simp
              simp only [Act.put, List.getElem_toArray, List.getElem_cons_succ, List.getElem_cons_zero, List.setIfInBounds_toArray, List.set_cons_succ, List.set_cons_zero]
              refine wpAnyH_done (by kernel_rfl) ?_ _
              have c9 := below_drewP c2
              have hX9 := hHeld
              clear hHeld
              have hO9 := hO2.next (below_drewP (Below.refl _ _))
              obtain ⟨hs0, hs1, hs2⟩ := hX9.1
              have hA9 := hO9.alloc (Obj.cells #[.string ps[k].1, .string ps[k].2.1, .string ps[k].2.2] 88)
              have HO9 := hide hA9
              have HX9 := hide (hX9.below ((Below.refl _ _).alloc (Nat.le_refl _) (Obj.cells #[.string ps[k].1, .string ps[k].2.1, .string ps[k].2.2] 88)))
              have HC9 := hide (c9.alloc (szA c9) (Obj.cells #[.string ps[k].1, .string ps[k].2.1, .string ps[k].2.2] 88))
              clear hX9 hO9 hA9 c9
              have HLN := hide (show (acc ++ [p]).length + 1 ≤ 1099511627776 by have := HAL.out; simp; omega)
              go_wp2_with (at_builtin; refine wp_append_prop rfl _ _ rfl (w.heap.size + 1) _ (acc ++ [p]) rfl HO9.out _ ps[k] rfl ?_ ?_ ?_ HLN.out (szA HC9.out) ?_)
              · simp
              · simp
              · simp
              intro g9 n9 cap9 w9 hn9 hO9 hb9
              have c10 := HC9.out.trans (hb9.mono (Nat.le_refl _))
              have hX10 := HX9.out.grown hb9 hbB
              have HN9 := hide hn9
              clear hb9 hn9
              go_wp2
              go_roundw
              case rel => exact ⟨k + 1, true, _, _, _, (acc ++ [p] ++ [ps[k]]), by omega, by go_num, rfl, rfl, hide (by have := HN9.out; simpa using this), (by simpa using hO9), hide (by rw [← hC.out, HDR.out]; simp [oneF, HU.out, HV.out]), hX10.2, c10⟩
              case measure => simp [intOf]; omega
          · have q1 := neBs e1
            have HV := hide (show neP p ps[k] = true by unfold neP; rw [isP_no1 e1]; rfl)
            clear e1
            go_wp2
            refine wp_region_held_drew (S := (fun W => AtBox W b (o + k * 3) ps[k] w.heap.size (d0, p))) (by kernel_rfl) (by exact hX) (fun hHeld => ?_)
            simp only [List.size_toArray, List.length_cons, List.length_nil, Nat.reduceAdd, Array.replicate_succ, Array.replicate_zero, List.push_toArray, List.nil_append, List.cons_append]
            refine wpAnyH_take (i := 0) (v := ?_) rfl (by kernel_rfl) (by kernel_rfl) (by kernel_rfl) (fun _ _ _ h => h) (Or.inl ⟨by rfl, ?_⟩) (by assumption) ?_
            rotate_left
            · intro w hSw; (try dsimp only at hSw); obtain ⟨⟨hs0, hs1, hs2⟩, ⟨hs3, hs4, hs5, hs6⟩⟩ := hSw; simp only [Nat.zero_add] at hs3 hs4 hs5 hs6; go_simp; try with_reducible rfl
            simp only [Act.put, List.getElem_toArray, List.getElem_cons_zero, List.setIfInBounds_toArray, List.set_cons_zero]
            refine wpAnyH_take (i := 1) (v := ?_) rfl (by kernel_rfl) (by kernel_rfl) (by kernel_rfl) (fun _ _ _ h => h) (Or.inl ⟨by rfl, ?_⟩) (by assumption) ?_
            rotate_left
            · intro w hSw; (try dsimp only at hSw); obtain ⟨⟨hs0, hs1, hs2⟩, ⟨hs3, hs4, hs5, hs6⟩⟩ := hSw; simp only [Nat.zero_add] at hs3 hs4 hs5 hs6; go_simp; try with_reducible rfl
            simp only [Act.put, List.getElem_toArray, List.getElem_cons_succ, List.getElem_cons_zero, List.setIfInBounds_toArray, List.set_cons_succ, List.set_cons_zero]
            refine wpAnyH_take (i := 2) (v := ?_) rfl (by kernel_rfl) (by kernel_rfl) (by kernel_rfl) (fun _ _ _ h => h) (Or.inl ⟨by rfl, ?_⟩) (by assumption) ?_
            rotate_left
            · intro w hSw; (try dsimp only at hSw); obtain ⟨⟨hs0, hs1, hs2⟩, ⟨hs3, hs4, hs5, hs6⟩⟩ := hSw; simp only [Nat.zero_add] at hs3 hs4 hs5 hs6; go_simp; try with_reducible rfl
            simp only [Act.put, List.getElem_toArray, List.getElem_cons_succ, List.getElem_cons_zero, List.setIfInBounds_toArray, List.set_cons_succ, List.set_cons_zero]
            refine wpAnyH_take (i := 3) (v := ?_) rfl (by kernel_rfl) (by kernel_rfl) (by kernel_rfl) (fun _ _ _ h => h) (Or.inl ⟨by rfl, ?_⟩) (by assumption) ?_
            rotate_left
            · intro w hSw; (try dsimp only at hSw); obtain ⟨⟨hs0, hs1, hs2⟩, ⟨hs3, hs4, hs5, hs6⟩⟩ := hSw; simp only [Nat.zero_add] at hs3 hs4 hs5 hs6; go_simp; try with_reducible rfl
            simp only [Act.put, List.getElem_toArray, List.getElem_cons_succ, List.getElem_cons_zero, List.setIfInBounds_toArray, List.set_cons_succ, List.set_cons_zero]
            refine wpAnyH_take (i := 4) (v := ?_) rfl (by kernel_rfl) (by kernel_rfl) (by kernel_rfl) (fun _ _ _ h => h) (Or.inl ⟨by rfl, ?_⟩) (by assumption) ?_
            rotate_left
            · intro w hSw; (try dsimp only at hSw); obtain ⟨⟨hs0, hs1, hs2⟩, ⟨hs3, hs4, hs5, hs6⟩⟩ := hSw; simp only [Nat.zero_add] at hs3 hs4 hs5 hs6; go_simp; try with_reducible rfl
            simp only [Act.put, List.getElem_toArray, List.getElem_cons_succ, List.getElem_cons_zero, List.setIfInBounds_toArray, List.set_cons_succ, List.set_cons_zero]
            refine wpAnyH_take (i := 5) (v := ?_) rfl (by kernel_rfl) (by kernel_rfl) (by kernel_rfl) (fun _ _ _ h => h) (Or.inl ⟨by rfl, ?_⟩) (by assumption) ?_
            rotate_left
            · intro w hSw; (try dsimp only at hSw); obtain ⟨⟨hs0, hs1, hs2⟩, ⟨hs3, hs4, hs5, hs6⟩⟩ := hSw; simp only [Nat.zero_add] at hs3 hs4 hs5 hs6; go_simp; try with_reducible rfl
            simp only [Act.put, List.getElem_toArray, List.getElem_cons_succ, List.getElem_cons_zero, List.setIfInBounds_toArray, List.set_cons_succ, List.set_cons_zero]
            refine wpAnyH_take (i := 6) (v := ?_) rfl (by kernel_rfl) (by kernel_rfl) (by kernel_rfl) (fun _ _ _ h => h) (Or.inl ⟨by rfl, ?_⟩) (by assumption) ?_
            rotate_left
            · intro w hSw; (try dsimp only at hSw); obtain ⟨⟨hs0, hs1, hs2⟩, ⟨hs3, hs4, hs5, hs6⟩⟩ := hSw; simp only [Nat.zero_add] at hs3 hs4 hs5 hs6; go_simp; try with_reducible rfl
            simp only [Act.put, List.getElem_toArray, List.getElem_cons_succ, List.getElem_cons_zero, List.setIfInBounds_toArray, List.set_cons_succ, List.set_cons_zero]
            refine wpAnyH_take (i := 7) (v := ?_) rfl (by kernel_rfl) (by kernel_rfl) (by kernel_rfl) (fun _ _ _ h => h) (Or.inl ⟨by rfl, ?_⟩) (by assumption) ?_
            rotate_left
            · intro w hSw; (try dsimp only at hSw); obtain ⟨⟨hs0, hs1, hs2⟩, ⟨hs3, hs4, hs5, hs6⟩⟩ := hSw; simp only [Nat.zero_add] at hs3 hs4 hs5 hs6; go_simp; try with_reducible rfl
            simp only [Act.put, List.getElem_toArray, List.getElem_cons_succ, List.getElem_cons_zero, List.setIfInBounds_toArray, List.set_cons_succ, List.set_cons_zero]
            refine wpAnyH_take (i := 8) (v := .bool true) rfl (by kernel_rfl) (by kernel_rfl) (by kernel_rfl) (fun _ _ _ h => h) (Or.inl ⟨by rfl, ?_⟩) (by assumption) ?_
            · intro w hSw; (try dsimp only at hSw); obtain ⟨⟨hs0, hs1, hs2⟩, ⟨hs3, hs4, hs5, hs6⟩⟩ := hSw; simp only [Nat.zero_add] at hs3 hs4 hs5 hs6; go_simp
            simp only [Act.put, List.getElem_toArray, List.getElem_cons_succ, List.getElem_cons_zero, List.setIfInBounds_toArray, List.set_cons_succ, List.set_cons_zero]
            refine wpAnyH_take (i := 9) (v := .bool true) rfl (by kernel_rfl) (by kernel_rfl) (by kernel_rfl) (fun _ _ _ h => h) (Or.inl ⟨by rfl, ?_⟩) (by assumption) ?_
            · intro w hSw; (try dsimp only at hSw); obtain ⟨⟨hs0, hs1, hs2⟩, ⟨hs3, hs4, hs5, hs6⟩⟩ := hSw; simp only [Nat.zero_add] at hs3 hs4 hs5 hs6; go_simp
            simp only [Act.put, List.getElem_toArray, List.getElem_cons_succ, List.getElem_cons_zero, List.setIfInBounds_toArray, List.set_cons_succ, List.set_cons_zero]
            refine wpAnyH_take (i := 10) (v := undef) rfl (by kernel_rfl) (by kernel_rfl) (by kernel_rfl) (fun _ _ _ h => h) (Or.inr ⟨by rfl, rfl⟩) (by assumption) ?_
            simp only [Act.put, List.getElem_toArray, List.getElem_cons_succ, List.getElem_cons_zero, List.setIfInBounds_toArray, List.set_cons_succ, List.set_cons_zero]
            refine wpAnyH_take (i := 11) (v := undef) rfl (by kernel_rfl) (by kernel_rfl) (by kernel_rfl) (fun _ _ _ h => h) (Or.inr ⟨by rfl, rfl⟩) (by assumption) ?_
            simp only [Act.put, List.getElem_toArray, List.getElem_cons_succ, List.getElem_cons_zero, List.setIfInBounds_toArray, List.set_cons_succ, List.set_cons_zero]
            refine wpAnyH_take (i := 12) (v := undef) rfl (by kernel_rfl) (by kernel_rfl) (by kernel_rfl) (fun _ _ _ h => h) (Or.inr ⟨by rfl, rfl⟩) (by assumption) ?_
            simp only [Act.put, List.getElem_toArray, List.getElem_cons_succ, List.getElem_cons_zero, List.setIfInBounds_toArray, List.set_cons_succ, List.set_cons_zero]
            refine wpAnyH_take (i := 13) (v := undef) rfl (by kernel_rfl) (by kernel_rfl) (by kernel_rfl) (fun _ _ _ h => h) (Or.inr ⟨by rfl, rfl⟩) (by assumption) ?_
            simp only [Act.put, List.getElem_toArray, List.getElem_cons_succ, List.getElem_cons_zero, List.setIfInBounds_toArray, List.set_cons_succ, List.set_cons_zero]
            refine wpAnyH_take (i := 14) (v := undef) rfl (by kernel_rfl) (by kernel_rfl) (by kernel_rfl) (fun _ _ _ h => h) (Or.inr ⟨by rfl, rfl⟩) (by assumption) ?_
            simp only [Act.put, List.getElem_toArray, List.getElem_cons_succ, List.getElem_cons_zero, List.setIfInBounds_toArray, List.set_cons_succ, List.set_cons_zero]
            refine wpAnyH_take (i := 15) (v := undef) rfl (by kernel_rfl) (by kernel_rfl) (by kernel_rfl) (fun _ _ _ h => h) (Or.inr ⟨by rfl, rfl⟩) (by assumption) ?_
            simp only [Act.put, List.getElem_toArray, List.getElem_cons_succ, List.getElem_cons_zero, List.setIfInBounds_toArray, List.set_cons_succ, List.set_cons_zero]
            refine wpAnyH_take (i := 16) (v := undef) rfl (by kernel_rfl) (by kernel_rfl) (by kernel_rfl) (fun _ _ _ h => h) (Or.inr ⟨by rfl, rfl⟩) (by assumption) ?_
            simp only [Act.put, List.getElem_toArray, List.getElem_cons_succ, List.getElem_cons_zero, List.setIfInBounds_toArray, List.set_cons_succ, List.set_cons_zero]
            refine wpAnyH_take (i := 17) (v := undef) rfl (by kernel_rfl) (by kernel_rfl) (by kernel_rfl) (fun _ _ _ h => h) (Or.inr ⟨by rfl, rfl⟩) (by assumption) ?_
            simp only [Act.put, List.getElem_toArray, List.getElem_cons_succ, List.getElem_cons_zero, List.setIfInBounds_toArray, List.set_cons_succ, List.set_cons_zero]
            refine wpAnyH_take (i := 18) (v := undef) rfl (by kernel_rfl) (by kernel_rfl) (by kernel_rfl) (fun _ _ _ h => h) (Or.inr ⟨by rfl, rfl⟩) (by assumption) ?_
            simp only [Act.put, List.getElem_toArray, List.getElem_cons_succ, List.getElem_cons_zero, List.setIfInBounds_toArray, List.set_cons_succ, List.set_cons_zero]
            refine wpAnyH_take (i := 19) (v := .bool true) rfl (by kernel_rfl) (by kernel_rfl) (by kernel_rfl) (fun _ _ _ h => h) (Or.inl ⟨by rfl, ?_⟩) (by assumption) ?_
            · intro w hSw; (try dsimp only at hSw); obtain ⟨⟨hs0, hs1, hs2⟩, ⟨hs3, hs4, hs5, hs6⟩⟩ := hSw; simp only [Nat.zero_add] at hs3 hs4 hs5 hs6; go_simp
            simp only [Act.put, List.getElem_toArray, List.getElem_cons_succ, List.getElem_cons_zero, List.setIfInBounds_toArray, List.set_cons_succ, List.set_cons_zero]
            refine wpAnyH_done (by kernel_rfl) ?_ _
            have c9 := below_drewP c2
            have hX9 := hHeld
            clear hHeld
            have hO9 := hO2.next (below_drewP (Below.refl _ _))
            obtain ⟨hs0, hs1, hs2⟩ := hX9.1
            have hA9 := hO9.alloc (Obj.cells #[.string ps[k].1, .string ps[k].2.1, .string ps[k].2.2] 88)
            have HO9 := hide hA9
            have HX9 := hide (hX9.below ((Below.refl _ _).alloc (Nat.le_refl _) (Obj.cells #[.string ps[k].1, .string ps[k].2.1, .string ps[k].2.2] 88)))
            have HC9 := hide (c9.alloc (szA c9) (Obj.cells #[.string ps[k].1, .string ps[k].2.1, .string ps[k].2.2] 88))
            clear hX9 hO9 hA9 c9
            have HLN := hide (show (acc ++ [p]).length + 1 ≤ 1099511627776 by have := HAL.out; simp; omega)
            go_wp2_with (at_builtin; refine wp_append_prop rfl _ _ rfl (w.heap.size + 1) _ (acc ++ [p]) rfl HO9.out _ ps[k] rfl ?_ ?_ ?_ HLN.out (szA HC9.out) ?_)
            · simp
            · simp
            · simp
            intro g9 n9 cap9 w9 hn9 hO9 hb9
            have c10 := HC9.out.trans (hb9.mono (Nat.le_refl _))
            have hX10 := HX9.out.grown hb9 hbB
            have HN9 := hide hn9
            clear hb9 hn9
            go_wp2
            go_roundw
            case rel => exact ⟨k + 1, true, _, _, _, (acc ++ [p] ++ [ps[k]]), by omega, by go_num, rfl, rfl, hide (by have := HN9.out; simpa using this), (by simpa using hO9), hide (by rw [← hC.out, HDR.out]; simp [oneF, HU.out, HV.out]), hX10.2, c10⟩
            case measure => simp [intOf]; omega
        · go_wp2
          refine wp_region_held_drew (S := (fun W => AtBox W b (o + k * 3) ps[k] w.heap.size (d0, p))) (by kernel_rfl) (by exact hX0) (fun hHeld => ?_)
          simp only [List.size_toArray, List.length_cons, List.length_nil, Nat.reduceAdd, Array.replicate_succ, Array.replicate_zero, List.push_toArray, List.nil_append, List.cons_append]
          refine wpAnyH_take (i := 0) (v := ?_) rfl (by kernel_rfl) (by kernel_rfl) (by kernel_rfl) (fun _ _ _ h => h) (Or.inl ⟨by rfl, ?_⟩) (by assumption) ?_
          rotate_left
          · intro w hSw; (try dsimp only at hSw); obtain ⟨⟨hs0, hs1, hs2⟩, ⟨hs3, hs4, hs5, hs6⟩⟩ := hSw; simp only [Nat.zero_add] at hs3 hs4 hs5 hs6; go_simp; try with_reducible rfl
          simp only [Act.put, List.getElem_toArray, List.getElem_cons_zero, List.setIfInBounds_toArray, List.set_cons_zero]
          refine wpAnyH_take (i := 1) (v := .bool true) rfl (by kernel_rfl) (by kernel_rfl) (by kernel_rfl) (fun _ _ _ h => h) (Or.inl ⟨by rfl, ?_⟩) (by assumption) ?_
          · intro w hSw; (try dsimp only at hSw); obtain ⟨⟨hs0, hs1, hs2⟩, ⟨hs3, hs4, hs5, hs6⟩⟩ := hSw; simp only [Nat.zero_add] at hs3 hs4 hs5 hs6; go_simp
          simp only [Act.put, List.getElem_toArray, List.getElem_cons_succ, List.getElem_cons_zero, List.setIfInBounds_toArray, List.set_cons_succ, List.set_cons_zero]
          refine wpAnyH_take (i := 2) (v := .bool true) rfl (by kernel_rfl) (by kernel_rfl) (by kernel_rfl) (fun _ _ _ h => h) (Or.inl ⟨by rfl, ?_⟩) (by assumption) ?_
          · intro w hSw; (try dsimp only at hSw); obtain ⟨⟨hs0, hs1, hs2⟩, ⟨hs3, hs4, hs5, hs6⟩⟩ := hSw; simp only [Nat.zero_add] at hs3 hs4 hs5 hs6; go_simp
          simp only [Act.put, List.getElem_toArray, List.getElem_cons_succ, List.getElem_cons_zero, List.setIfInBounds_toArray, List.set_cons_succ, List.set_cons_zero]
          refine wpAnyH_take (i := 3) (v := ?_) rfl (by kernel_rfl) (by kernel_rfl) (by kernel_rfl) (fun _ _ _ h => h) (Or.inl ⟨by rfl, ?_⟩) (by assumption) ?_
          rotate_left
          · intro w hSw; (try dsimp only at hSw); obtain ⟨⟨hs0, hs1, hs2⟩, ⟨hs3, hs4, hs5, hs6⟩⟩ := hSw; simp only [Nat.zero_add] at hs3 hs4 hs5 hs6; go_simp; try with_reducible rfl
          simp only [Act.put, List.getElem_toArray, List.getElem_cons_succ, List.getElem_cons_zero, List.setIfInBounds_toArray, List.set_cons_succ, List.set_cons_zero]
          refine wpAnyH_take (i := 4) (v := ?_) rfl (by kernel_rfl) (by kernel_rfl) (by kernel_rfl) (fun _ _ _ h => h) (Or.inl ⟨by rfl, ?_⟩) (by assumption) ?_
          rotate_left
          · intro w hSw; (try dsimp only at hSw); obtain ⟨⟨hs0, hs1, hs2⟩, ⟨hs3, hs4, hs5, hs6⟩⟩ := hSw; simp only [Nat.zero_add] at hs3 hs4 hs5 hs6; go_simp; try with_reducible rfl
          simp only [Act.put, List.getElem_toArray, List.getElem_cons_succ, List.getElem_cons_zero, List.setIfInBounds_toArray, List.set_cons_succ, List.set_cons_zero]
          refine wpAnyH_take (i := 5) (v := ?_) rfl (by kernel_rfl) (by kernel_rfl) (by kernel_rfl) (fun _ _ _ h => h) (Or.inl ⟨by rfl, ?_⟩) (by assumption) ?_
          rotate_left
          · intro w hSw; (try dsimp only at hSw); obtain ⟨⟨hs0, hs1, hs2⟩, ⟨hs3, hs4, hs5, hs6⟩⟩ := hSw; simp only [Nat.zero_add] at hs3 hs4 hs5 hs6; go_simp; try with_reducible rfl
          simp only [Act.put, List.getElem_toArray, List.getElem_cons_succ, List.getElem_cons_zero, List.setIfInBounds_toArray, List.set_cons_succ, List.set_cons_zero]
          refine wpAnyH_take (i := 6) (v := ?_) rfl (by kernel_rfl) (by kernel_rfl) (by kernel_rfl) (fun _ _ _ h => h) (Or.inl ⟨by rfl, ?_⟩) (by assumption) ?_
          rotate_left
          · intro w hSw; (try dsimp only at hSw); obtain ⟨⟨hs0, hs1, hs2⟩, ⟨hs3, hs4, hs5, hs6⟩⟩ := hSw; simp only [Nat.zero_add] at hs3 hs4 hs5 hs6; go_simp; try with_reducible rfl
          simp only [Act.put, List.getElem_toArray, List.getElem_cons_succ, List.getElem_cons_zero, List.setIfInBounds_toArray, List.set_cons_succ, List.set_cons_zero]
          refine wpAnyH_take (i := 7) (v := ?_) rfl (by kernel_rfl) (by kernel_rfl) (by kernel_rfl) (fun _ _ _ h => h) (Or.inl ⟨by rfl, ?_⟩) (by assumption) ?_
          rotate_left
          · intro w hSw; (try dsimp only at hSw); obtain ⟨⟨hs0, hs1, hs2⟩, ⟨hs3, hs4, hs5, hs6⟩⟩ := hSw; simp only [Nat.zero_add] at hs3 hs4 hs5 hs6; go_simp; try with_reducible rfl
          simp only [Act.put, List.getElem_toArray, List.getElem_cons_succ, List.getElem_cons_zero, List.setIfInBounds_toArray, List.set_cons_succ, List.set_cons_zero]
          refine wpAnyH_take (i := 8) (v := ?_) rfl (by kernel_rfl) (by kernel_rfl) (by kernel_rfl) (fun _ _ _ h => h) (Or.inl ⟨by rfl, ?_⟩) (by assumption) ?_
          rotate_left
          · intro w hSw; (try dsimp only at hSw); obtain ⟨⟨hs0, hs1, hs2⟩, ⟨hs3, hs4, hs5, hs6⟩⟩ := hSw; simp only [Nat.zero_add] at hs3 hs4 hs5 hs6; go_simp; try with_reducible rfl
          simp only [Act.put, List.getElem_toArray, List.getElem_cons_succ, List.getElem_cons_zero, List.setIfInBounds_toArray, List.set_cons_succ, List.set_cons_zero]
          refine wpAnyH_ready (rs := [9]) (by kernel_rfl) (by simp) ?_
          refine AllReadyH.cons rfl (fun K hK => ?_) AllReadyH.nil
          go_simp
          refine (HLE.out _).mono ?_
          rintro e w1 ⟨rfl, b1⟩
          refine hK.out _ _ (hHeld.below b1) (fun hHeld2 => ?_)
          clear hK K hHeld
          have hHeld := hHeld2
          clear hHeld2
          simp only [List.setIfInBounds_toArray, List.set_cons_succ, List.set_cons_zero]
          refine wpAnyH_take (i := 10) (v := .bool false) rfl (by kernel_rfl) (by kernel_rfl) (by kernel_rfl) (fun _ _ _ h => h) (Or.inl ⟨by rfl, ?_⟩) (by assumption) ?_
          · intro w hSw; (try dsimp only at hSw); obtain ⟨⟨hs0, hs1, hs2⟩, ⟨hs3, hs4, hs5, hs6⟩⟩ := hSw; simp only [Nat.zero_add] at hs3 hs4 hs5 hs6; go_simp
          simp only [Act.put, List.getElem_toArray, List.getElem_cons_succ, List.getElem_cons_zero, List.setIfInBounds_toArray, List.set_cons_succ, List.set_cons_zero]
          refine wpAnyH_take (i := 11) (v := .bool false) rfl (by kernel_rfl) (by kernel_rfl) (by kernel_rfl) (fun _ _ _ h => h) (Or.inl ⟨by rfl, ?_⟩) (by assumption) ?_
          · intro w hSw; (try dsimp only at hSw); obtain ⟨⟨hs0, hs1, hs2⟩, ⟨hs3, hs4, hs5, hs6⟩⟩ := hSw; simp only [Nat.zero_add] at hs3 hs4 hs5 hs6; go_simp
          simp only [Act.put, List.getElem_toArray, List.getElem_cons_succ, List.getElem_cons_zero, List.setIfInBounds_toArray, List.set_cons_succ, List.set_cons_zero]
          refine wpAnyH_done (by kernel_rfl) ?_ _
          have c1 := hbe.trans ((below_from_drewS b1).mono hsz)
          have hX := hHeld
          have hO1 := hO.next (below_from_drewS b1)
          clear hHeld hX0 hO b1
          by_cases e1 : ps[k].1 = p.1
          · have q1 := eqBs e1
            by_cases e2 : ps[k].2.1 = p.2.1
            · have q2 := eqBs e2
              have HV := hide (show neP p ps[k] = false by unfold neP; rw [isP_yes e1 e2]; rfl)
              clear e1 e2
              go_wp2
              refine wp_region_held_drew (S := (fun W => AtBox W b (o + k * 3) ps[k] w.heap.size (d0, p))) (by kernel_rfl) (by exact hX) (fun hHeld => ?_)
              simp only [List.size_toArray, List.length_cons, List.length_nil, Nat.reduceAdd, Array.replicate_succ, Array.replicate_zero, List.push_toArray, List.nil_append, List.cons_append]
              refine wpAnyH_take (i := 0) (v := ?_) rfl (by kernel_rfl) (by kernel_rfl) (by kernel_rfl) (fun _ _ _ h => h) (Or.inl ⟨by rfl, ?_⟩) (by assumption) ?_
              rotate_left
              · intro w hSw; (try dsimp only at hSw); obtain ⟨⟨hs0, hs1, hs2⟩, ⟨hs3, hs4, hs5, hs6⟩⟩ := hSw; simp only [Nat.zero_add] at hs3 hs4 hs5 hs6; go_simp; try with_reducible rfl
              simp only [Act.put, List.getElem_toArray, List.getElem_cons_zero, List.setIfInBounds_toArray, List.set_cons_zero]
              refine wpAnyH_take (i := 1) (v := ?_) rfl (by kernel_rfl) (by kernel_rfl) (by kernel_rfl) (fun _ _ _ h => h) (Or.inl ⟨by rfl, ?_⟩) (by assumption) ?_
              rotate_left
              · intro w hSw; (try dsimp only at hSw); obtain ⟨⟨hs0, hs1, hs2⟩, ⟨hs3, hs4, hs5, hs6⟩⟩ := hSw; simp only [Nat.zero_add] at hs3 hs4 hs5 hs6; go_simp; try with_reducible rfl
              simp only [Act.put, List.getElem_toArray, List.getElem_cons_succ, List.getElem_cons_zero, List.setIfInBounds_toArray, List.set_cons_succ, List.set_cons_zero]
              refine wpAnyH_take (i := 2) (v := ?_) rfl (by kernel_rfl) (by kernel_rfl) (by kernel_rfl) (fun _ _ _ h => h) (Or.inl ⟨by rfl, ?_⟩) (by assumption) ?_
              rotate_left
              · intro w hSw; (try dsimp only at hSw); obtain ⟨⟨hs0, hs1, hs2⟩, ⟨hs3, hs4, hs5, hs6⟩⟩ := hSw; simp only [Nat.zero_add] at hs3 hs4 hs5 hs6; go_simp; try with_reducible rfl
              simp only [Act.put, List.getElem_toArray, List.getElem_cons_succ, List.getElem_cons_zero, List.setIfInBounds_toArray, List.set_cons_succ, List.set_cons_zero]
              refine wpAnyH_take (i := 3) (v := ?_) rfl (by kernel_rfl) (by kernel_rfl) (by kernel_rfl) (fun _ _ _ h => h) (Or.inl ⟨by rfl, ?_⟩) (by assumption) ?_
              rotate_left
              · intro w hSw; (try dsimp only at hSw); obtain ⟨⟨hs0, hs1, hs2⟩, ⟨hs3, hs4, hs5, hs6⟩⟩ := hSw; simp only [Nat.zero_add] at hs3 hs4 hs5 hs6; go_simp; try with_reducible rfl
              simp only [Act.put, List.getElem_toArray, List.getElem_cons_succ, List.getElem_cons_zero, List.setIfInBounds_toArray, List.set_cons_succ, List.set_cons_zero]
              refine wpAnyH_take (i := 4) (v := ?_) rfl (by kernel_rfl) (by kernel_rfl) (by kernel_rfl) (fun _ _ _ h => h) (Or.inl ⟨by rfl, ?_⟩) (by assumption) ?_
              rotate_left
              · intro w hSw; (try dsimp only at hSw); obtain ⟨⟨hs0, hs1, hs2⟩, ⟨hs3, hs4, hs5, hs6⟩⟩ := hSw; simp only [Nat.zero_add] at hs3 hs4 hs5 hs6; go_simp; try with_reducible rfl
              simp only [Act.put, List.getElem_toArray, List.getElem_cons_succ, List.getElem_cons_zero, List.setIfInBounds_toArray, List.set_cons_succ, List.set_cons_zero]
              refine wpAnyH_take (i := 5) (v := ?_) rfl (by kernel_rfl) (by kernel_rfl) (by kernel_rfl) (fun _ _ _ h => h) (Or.inl ⟨by rfl, ?_⟩) (by assumption) ?_
              rotate_left
              · intro w hSw; (try dsimp only at hSw); obtain ⟨⟨hs0, hs1, hs2⟩, ⟨hs3, hs4, hs5, hs6⟩⟩ := hSw; simp only [Nat.zero_add] at hs3 hs4 hs5 hs6; go_simp; try with_reducible rfl
              simp only [Act.put, List.getElem_toArray, List.getElem_cons_succ, List.getElem_cons_zero, List.setIfInBounds_toArray, List.set_cons_succ, List.set_cons_zero]
              refine wpAnyH_take (i := 6) (v := ?_) rfl (by kernel_rfl) (by kernel_rfl) (by kernel_rfl) (fun _ _ _ h => h) (Or.inl ⟨by rfl, ?_⟩) (by assumption) ?_
              rotate_left
              · intro w hSw; (try dsimp only at hSw); obtain ⟨⟨hs0, hs1, hs2⟩, ⟨hs3, hs4, hs5, hs6⟩⟩ := hSw; simp only [Nat.zero_add] at hs3 hs4 hs5 hs6; go_simp; try with_reducible rfl
              simp only [Act.put, List.getElem_toArray, List.getElem_cons_succ, List.getElem_cons_zero, List.setIfInBounds_toArray, List.set_cons_succ, List.set_cons_zero]
              refine wpAnyH_take (i := 7) (v := ?_) rfl (by kernel_rfl) (by kernel_rfl) (by kernel_rfl) (fun _ _ _ h => h) (Or.inl ⟨by rfl, ?_⟩) (by assumption) ?_
              rotate_left
              · intro w hSw; (try dsimp only at hSw); obtain ⟨⟨hs0, hs1, hs2⟩, ⟨hs3, hs4, hs5, hs6⟩⟩ := hSw; simp only [Nat.zero_add] at hs3 hs4 hs5 hs6; go_simp; try with_reducible rfl
              simp only [Act.put, List.getElem_toArray, List.getElem_cons_succ, List.getElem_cons_zero, List.setIfInBounds_toArray, List.set_cons_succ, List.set_cons_zero]
              refine wpAnyH_take (i := 8) (v := .bool false) rfl (by kernel_rfl) (by kernel_rfl) (by kernel_rfl) (fun _ _ _ h => h) (Or.inl ⟨by rfl, ?_⟩) (by assumption) ?_
              · intro w hSw; (try dsimp only at hSw); obtain ⟨⟨hs0, hs1, hs2⟩, ⟨hs3, hs4, hs5, hs6⟩⟩ := hSw; simp only [Nat.zero_add] at hs3 hs4 hs5 hs6; go_simp
              simp only [Act.put, List.getElem_toArray, List.getElem_cons_succ, List.getElem_cons_zero, List.setIfInBounds_toArray, List.set_cons_succ, List.set_cons_zero]
              refine wpAnyH_take (i := 9) (v := .bool false) rfl (by kernel_rfl) (by kernel_rfl) (by kernel_rfl) (fun _ _ _ h => h) (Or.inl ⟨by rfl, ?_⟩) (by assumption) ?_
              · intro w hSw; (try dsimp only at hSw); obtain ⟨⟨hs0, hs1, hs2⟩, ⟨hs3, hs4, hs5, hs6⟩⟩ := hSw; simp only [Nat.zero_add] at hs3 hs4 hs5 hs6; go_simp
              simp only [Act.put, List.getElem_toArray, List.getElem_cons_succ, List.getElem_cons_zero, List.setIfInBounds_toArray, List.set_cons_succ, List.set_cons_zero]
              refine wpAnyH_take (i := 10) (v := ?_) rfl (by kernel_rfl) (by kernel_rfl) (by kernel_rfl) (fun _ _ _ h => h) (Or.inl ⟨by rfl, ?_⟩) (by assumption) ?_
              rotate_left
              · intro w hSw; (try dsimp only at hSw); obtain ⟨⟨hs0, hs1, hs2⟩, ⟨hs3, hs4, hs5, hs6⟩⟩ := hSw; simp only [Nat.zero_add] at hs3 hs4 hs5 hs6; go_simp; try with_reducible rfl
              simp only [Act.put, List.getElem_toArray, List.getElem_cons_succ, List.getElem_cons_zero, List.setIfInBounds_toArray, List.set_cons_succ, List.set_cons_zero]
              refine wpAnyH_take (i := 11) (v := ?_) rfl (by kernel_rfl) (by kernel_rfl) (by kernel_rfl) (fun _ _ _ h => h) (Or.inl ⟨by rfl, ?_⟩) (by assumption) ?_
              rotate_left
              · intro w hSw; (try dsimp only at hSw); obtain ⟨⟨hs0, hs1, hs2⟩, ⟨hs3, hs4, hs5, hs6⟩⟩ := hSw; simp only [Nat.zero_add] at hs3 hs4 hs5 hs6; go_simp; try with_reducible rfl
              simp only [Act.put, List.getElem_toArray, List.getElem_cons_succ, List.getElem_cons_zero, List.setIfInBounds_toArray, List.set_cons_succ, List.set_cons_zero]
              refine wpAnyH_take (i := 12) (v := ?_) rfl (by kernel_rfl) (by kernel_rfl) (by kernel_rfl) (fun _ _ _ h => h) (Or.inl ⟨by rfl, ?_⟩) (by assumption) ?_
              rotate_left
              · intro w hSw; (try dsimp only at hSw); obtain ⟨⟨hs0, hs1, hs2⟩, ⟨hs3, hs4, hs5, hs6⟩⟩ := hSw; simp only [Nat.zero_add] at hs3 hs4 hs5 hs6; go_simp; try with_reducible rfl
              simp only [Act.put, List.getElem_toArray, List.getElem_cons_succ, List.getElem_cons_zero, List.setIfInBounds_toArray, List.set_cons_succ, List.set_cons_zero]
              refine wpAnyH_take (i := 13) (v := ?_) rfl (by kernel_rfl) (by kernel_rfl) (by kernel_rfl) (fun _ _ _ h => h) (Or.inl ⟨by rfl, ?_⟩) (by assumption) ?_
              rotate_left
              · intro w hSw; (try dsimp only at hSw); obtain ⟨⟨hs0, hs1, hs2⟩, ⟨hs3, hs4, hs5, hs6⟩⟩ := hSw; simp only [Nat.zero_add] at hs3 hs4 hs5 hs6; go_simp; try with_reducible rfl
              simp only [Act.put, List.getElem_toArray, List.getElem_cons_succ, List.getElem_cons_zero, List.setIfInBounds_toArray, List.set_cons_succ, List.set_cons_zero]
              refine wpAnyH_take (i := 14) (v := ?_) rfl (by kernel_rfl) (by kernel_rfl) (by kernel_rfl) (fun _ _ _ h => h) (Or.inl ⟨by rfl, ?_⟩) (by assumption) ?_
              rotate_left
              · intro w hSw; (try dsimp only at hSw); obtain ⟨⟨hs0, hs1, hs2⟩, ⟨hs3, hs4, hs5, hs6⟩⟩ := hSw; simp only [Nat.zero_add] at hs3 hs4 hs5 hs6; go_simp; try with_reducible rfl
              simp only [Act.put, List.getElem_toArray, List.getElem_cons_succ, List.getElem_cons_zero, List.setIfInBounds_toArray, List.set_cons_succ, List.set_cons_zero]
              refine wpAnyH_take (i := 15) (v := ?_) rfl (by kernel_rfl) (by kernel_rfl) (by kernel_rfl) (fun _ _ _ h => h) (Or.inl ⟨by rfl, ?_⟩) (by assumption) ?_
              rotate_left
              · intro w hSw; (try dsimp only at hSw); obtain ⟨⟨hs0, hs1, hs2⟩, ⟨hs3, hs4, hs5, hs6⟩⟩ := hSw; simp only [Nat.zero_add] at hs3 hs4 hs5 hs6; go_simp; try with_reducible rfl
              simp only [Act.put, List.getElem_toArray, List.getElem_cons_succ, List.getElem_cons_zero, List.setIfInBounds_toArray, List.set_cons_succ, List.set_cons_zero]
              refine wpAnyH_take (i := 16) (v := ?_) rfl (by kernel_rfl) (by kernel_rfl) (by kernel_rfl) (fun _ _ _ h => h) (Or.inl ⟨by rfl, ?_⟩) (by assumption) ?_
              rotate_left
              · intro w hSw; (try dsimp only at hSw); obtain ⟨⟨hs0, hs1, hs2⟩, ⟨hs3, hs4, hs5, hs6⟩⟩ := hSw; simp only [Nat.zero_add] at hs3 hs4 hs5 hs6; go_simp; try with_reducible rfl
              simp only [Act.put, List.getElem_toArray, List.getElem_cons_succ, List.getElem_cons_zero, List.setIfInBounds_toArray, List.set_cons_succ, List.set_cons_zero]
              refine wpAnyH_take (i := 17) (v := ?_) rfl (by kernel_rfl) (by kernel_rfl) (by kernel_rfl) (fun _ _ _ h => h) (Or.inl ⟨by rfl, ?_⟩) (by assumption) ?_
              rotate_left
              · intro w hSw; (try dsimp only at hSw); obtain ⟨⟨hs0, hs1, hs2⟩, ⟨hs3, hs4, hs5, hs6⟩⟩ := hSw; simp only [Nat.zero_add] at hs3 hs4 hs5 hs6; go_simp; try with_reducible rfl
              simp only [Act.put, List.getElem_toArray, List.getElem_cons_succ, List.getElem_cons_zero, List.setIfInBounds_toArray, List.set_cons_succ, List.set_cons_zero]
              refine wpAnyH_take (i := 18) (v := ?_) rfl (by kernel_rfl) (by kernel_rfl) (by kernel_rfl) (fun _ _ _ h => h) (Or.inl ⟨by rfl, ?_⟩) (by assumption) ?_
              rotate_left
              · intro w hSw; (try dsimp only at hSw); obtain ⟨⟨hs0, hs1, hs2⟩, ⟨hs3, hs4, hs5, hs6⟩⟩ := hSw; simp only [Nat.zero_add] at hs3 hs4 hs5 hs6; go_simp; try with_reducible rfl
              simp only [Act.put, List.getElem_toArray, List.getElem_cons_succ, List.getElem_cons_zero, List.setIfInBounds_toArray, List.set_cons_succ, List.set_cons_zero]
              refine wpAnyH_take (i := 19) (v := .bool false) rfl (by kernel_rfl) (by kernel_rfl) (by kernel_rfl) (fun _ _ _ h => h) (Or.inl ⟨by rfl, ?_⟩) (by assumption) ?_
              · intro w hSw; (try dsimp only at hSw); obtain ⟨⟨hs0, hs1, hs2⟩, ⟨hs3, hs4, hs5, hs6⟩⟩ := hSw; simp only [Nat.zero_add] at hs3 hs4 hs5 hs6; go_simp
              simp only [Act.put, List.getElem_toArray, List.getElem_cons_succ, List.getElem_cons_zero, List.setIfInBounds_toArray, List.set_cons_succ, List.set_cons_zero]
              refine wpAnyH_done (by kernel_rfl) ?_ _
              have c9 := below_drewP c1
              have hX9 := hHeld
              clear hHeld
              go_wp2
              go_roundw
              case rel => exact ⟨k + 1, false, _, _, _, (acc), by omega, by go_num, rfl, rfl, hide (by have := hn.out; simpa using this), hO1.next (below_drewP (Below.refl _ _)), hide (by rw [← hC.out, HDR.out]; simp [oneF, HU.out, HV.out]), hX9.2, c9⟩
              case measure => simp [intOf]; omega
            · have q2 := neBs e2
              have HV := hide (show neP p ps[k] = true by unfold neP; rw [isP_no2 e2]; rfl)
              clear e1 e2
              go_wp2
              refine wp_region_held_drew (S := (fun W => AtBox W b (o + k * 3) ps[k] w.heap.size (d0, p))) (by kernel_rfl) (by exact hX) (fun hHeld => ?_)
              simp only [List.size_toArray, List.length_cons, List.length_nil, Nat.reduceAdd, Array.replicate_succ, Array.replicate_zero, List.push_toArray, List.nil_append, List.cons_append]
              refine wpAnyH_take (i := 0) (v := ?_) rfl (by kernel_rfl) (by kernel_rfl) (by kernel_rfl) (fun _ _ _ h => h) (Or.inl ⟨by rfl, ?_⟩) (by assumption) ?_
              rotate_left
              · intro w hSw; (try dsimp only at hSw); obtain ⟨⟨hs0, hs1, hs2⟩, ⟨hs3, hs4, hs5, hs6⟩⟩ := hSw; simp only [Nat.zero_add] at hs3 hs4 hs5 hs6; go_simp; try with_reducible rfl
              simp only [Act.put, List.getElem_toArray, List.getElem_cons_zero, List.setIfInBounds_toArray, List.set_cons_zero]
              refine wpAnyH_take (i := 1) (v := ?_) rfl (by kernel_rfl) (by kernel_rfl) (by kernel_rfl) (fun _ _ _ h => h) (Or.inl ⟨by rfl, ?_⟩) (by assumption) ?_
              rotate_left
              · intro w hSw; (try dsimp only at hSw); obtain ⟨⟨hs0, hs1, hs2⟩, ⟨hs3, hs4, hs5, hs6⟩⟩ := hSw; simp only [Nat.zero_add] at hs3 hs4 hs5 hs6; go_simp; try with_reducible rfl
              simp only [Act.put, List.getElem_toArray, List.getElem_cons_succ, List.getElem_cons_zero, List.setIfInBounds_toArray, List.set_cons_succ, List.set_cons_zero]
              refine wpAnyH_take (i := 2) (v := ?_) rfl (by kernel_rfl) (by kernel_rfl) (by kernel_rfl) (fun _ _ _ h => h) (Or.inl ⟨by rfl, ?_⟩) (by assumption) ?_
              rotate_left
              · intro w hSw; (try dsimp only at hSw); obtain ⟨⟨hs0, hs1, hs2⟩, ⟨hs3, hs4, hs5, hs6⟩⟩ := hSw; simp only [Nat.zero_add] at hs3 hs4 hs5 hs6; go_simp; try with_reducible rfl
              simp only [Act.put, List.getElem_toArray, List.getElem_cons_succ, List.getElem_cons_zero, List.setIfInBounds_toArray, List.set_cons_succ, List.set_cons_zero]
              refine wpAnyH_take (i := 3) (v := ?_) rfl (by kernel_rfl) (by kernel_rfl) (by kernel_rfl) (fun _ _ _ h => h) (Or.inl ⟨by rfl, ?_⟩) (by assumption) ?_
              rotate_left
              · intro w hSw; (try dsimp only at hSw); obtain ⟨⟨hs0, hs1, hs2⟩, ⟨hs3, hs4, hs5, hs6⟩⟩ := hSw; simp only [Nat.zero_add] at hs3 hs4 hs5 hs6; go_simp; try with_reducible rfl
              simp only [Act.put, List.getElem_toArray, List.getElem_cons_succ, List.getElem_cons_zero, List.setIfInBounds_toArray, List.set_cons_succ, List.set_cons_zero]
              refine wpAnyH_take (i := 4) (v := ?_) rfl (by kernel_rfl) (by kernel_rfl) (by kernel_rfl) (fun _ _ _ h => h) (Or.inl ⟨by rfl, ?_⟩) (by assumption) ?_
              rotate_left
              · intro w hSw; (try dsimp only at hSw); obtain ⟨⟨hs0, hs1, hs2⟩, ⟨hs3, hs4, hs5, hs6⟩⟩ := hSw; simp only [Nat.zero_add] at hs3 hs4 hs5 hs6; go_simp; try with_reducible rfl
              simp only [Act.put, List.getElem_toArray, List.getElem_cons_succ, List.getElem_cons_zero, List.setIfInBounds_toArray, List.set_cons_succ, List.set_cons_zero]
              refine wpAnyH_take (i := 5) (v := ?_) rfl (by kernel_rfl) (by kernel_rfl) (by kernel_rfl) (fun _ _ _ h => h) (Or.inl ⟨by rfl, ?_⟩) (by assumption) ?_
              rotate_left
              · intro w hSw; (try dsimp only at hSw); obtain ⟨⟨hs0, hs1, hs2⟩, ⟨hs3, hs4, hs5, hs6⟩⟩ := hSw; simp only [Nat.zero_add] at hs3 hs4 hs5 hs6; go_simp; try with_reducible rfl
              simp only [Act.put, List.getElem_toArray, List.getElem_cons_succ, List.getElem_cons_zero, List.setIfInBounds_toArray, List.set_cons_succ, List.set_cons_zero]
              refine wpAnyH_take (i := 6) (v := ?_) rfl (by kernel_rfl) (by kernel_rfl) (by kernel_rfl) (fun _ _ _ h => h) (Or.inl ⟨by rfl, ?_⟩) (by assumption) ?_
              rotate_left
              · intro w hSw; (try dsimp only at hSw); obtain ⟨⟨hs0, hs1, hs2⟩, ⟨hs3, hs4, hs5, hs6⟩⟩ := hSw; simp only [Nat.zero_add] at hs3 hs4 hs5 hs6; go_simp; try with_reducible rfl
              simp only [Act.put, List.getElem_toArray, List.getElem_cons_succ, List.getElem_cons_zero, List.setIfInBounds_toArray, List.set_cons_succ, List.set_cons_zero]
              refine wpAnyH_take (i := 7) (v := ?_) rfl (by kernel_rfl) (by kernel_rfl) (by kernel_rfl) (fun _ _ _ h => h) (Or.inl ⟨by rfl, ?_⟩) (by assumption) ?_
              rotate_left
              · intro w hSw; (try dsimp only at hSw); obtain ⟨⟨hs0, hs1, hs2⟩, ⟨hs3, hs4, hs5, hs6⟩⟩ := hSw; simp only [Nat.zero_add] at hs3 hs4 hs5 hs6; go_simp; try with_reducible rfl
              simp only [Act.put, List.getElem_toArray, List.getElem_cons_succ, List.getElem_cons_zero, List.setIfInBounds_toArray, List.set_cons_succ, List.set_cons_zero]
              refine wpAnyH_take (i := 8) (v := .bool false) rfl (by kernel_rfl) (by kernel_rfl) (by kernel_rfl) (fun _ _ _ h => h) (Or.inl ⟨by rfl, ?_⟩) (by assumption) ?_
              · intro w hSw; (try dsimp only at hSw); obtain ⟨⟨hs0, hs1, hs2⟩, ⟨hs3, hs4, hs5, hs6⟩⟩ := hSw; simp only [Nat.zero_add] at hs3 hs4 hs5 hs6; go_simp
              simp only [Act.put, List.getElem_toArray, List.getElem_cons_succ, List.getElem_cons_zero, List.setIfInBounds_toArray, List.set_cons_succ, List.set_cons_zero]
              refine wpAnyH_take (i := 9) (v := .bool false) rfl (by kernel_rfl) (by kernel_rfl) (by kernel_rfl) (fun _ _ _ h => h) (Or.inl ⟨by rfl, ?_⟩) (by assumption) ?_
              · intro w hSw; (try dsimp only at hSw); obtain ⟨⟨hs0, hs1, hs2⟩, ⟨hs3, hs4, hs5, hs6⟩⟩ := hSw; simp only [Nat.zero_add] at hs3 hs4 hs5 hs6; go_simp
              simp only [Act.put, List.getElem_toArray, List.getElem_cons_succ, List.getElem_cons_zero, List.setIfInBounds_toArray, List.set_cons_succ, List.set_cons_zero]
              refine wpAnyH_take (i := 10) (v := ?_) rfl (by kernel_rfl) (by kernel_rfl) (by kernel_rfl) (fun _ _ _ h => h) (Or.inl ⟨by rfl, ?_⟩) (by assumption) ?_
              rotate_left
              · intro w hSw; (try dsimp only at hSw); obtain ⟨⟨hs0, hs1, hs2⟩, ⟨hs3, hs4, hs5, hs6⟩⟩ := hSw; simp only [Nat.zero_add] at hs3 hs4 hs5 hs6; go_simp; try with_reducible rfl
              simp only [Act.put, List.getElem_toArray, List.getElem_cons_succ, List.getElem_cons_zero, List.setIfInBounds_toArray, List.set_cons_succ, List.set_cons_zero]
              refine wpAnyH_take (i := 11) (v := ?_) rfl (by kernel_rfl) (by kernel_rfl) (by kernel_rfl) (fun _ _ _ h => h) (Or.inl ⟨by rfl, ?_⟩) (by assumption) ?_
              rotate_left
              · intro w hSw; (try dsimp only at hSw); obtain ⟨⟨hs0, hs1, hs2⟩, ⟨hs3, hs4, hs5, hs6⟩⟩ := hSw; simp only [Nat.zero_add] at hs3 hs4 hs5 hs6; go_simp; try with_reducible rfl
              simp only [Act.put, List.getElem_toArray, List.getElem_cons_succ, List.getElem_cons_zero, List.setIfInBounds_toArray, List.set_cons_succ, List.set_cons_zero]
              refine wpAnyH_take (i := 12) (v := ?_) rfl (by kernel_rfl) (by kernel_rfl) (by kernel_rfl) (fun _ _ _ h => h) (Or.inl ⟨by rfl, ?_⟩) (by assumption) ?_
              rotate_left
              · intro w hSw; (try dsimp only at hSw); obtain ⟨⟨hs0, hs1, hs2⟩, ⟨hs3, hs4, hs5, hs6⟩⟩ := hSw; simp only [Nat.zero_add] at hs3 hs4 hs5 hs6; go_simp; try with_reducible rfl
              simp only [Act.put, List.getElem_toArray, List.getElem_cons_succ, List.getElem_cons_zero, List.setIfInBounds_toArray, List.set_cons_succ, List.set_cons_zero]
              refine wpAnyH_take (i := 13) (v := ?_) rfl (by kernel_rfl) (by kernel_rfl) (by kernel_rfl) (fun _ _ _ h => h) (Or.inl ⟨by rfl, ?_⟩) (by assumption) ?_
              rotate_left
              · intro w hSw; (try dsimp only at hSw); obtain ⟨⟨hs0, hs1, hs2⟩, ⟨hs3, hs4, hs5, hs6⟩⟩ := hSw; simp only [Nat.zero_add] at hs3 hs4 hs5 hs6; go_simp; try with_reducible rfl
              simp only [Act.put, List.getElem_toArray, List.getElem_cons_succ, List.getElem_cons_zero, List.setIfInBounds_toArray, List.set_cons_succ, List.set_cons_zero]
              refine wpAnyH_take (i := 14) (v := ?_) rfl (by kernel_rfl) (by kernel_rfl) (by kernel_rfl) (fun _ _ _ h => h) (Or.inl ⟨by rfl, ?_⟩) (by assumption) ?_
              rotate_left
              · intro w hSw; (try dsimp only at hSw); obtain ⟨⟨hs0, hs1, hs2⟩, ⟨hs3, hs4, hs5, hs6⟩⟩ := hSw; simp only [Nat.zero_add] at hs3 hs4 hs5 hs6; go_simp; try with_reducible rfl
              simp only [Act.put, List.getElem_toArray, List.getElem_cons_succ, List.getElem_cons_zero, List.setIfInBounds_toArray, List.set_cons_succ, List.set_cons_zero]
              refine wpAnyH_take (i := 15) (v := ?_) rfl (by kernel_rfl) (by kernel_rfl) (by kernel_rfl) (fun _ _ _ h => h) (Or.inl ⟨by rfl, ?_⟩) (by assumption) ?_
              rotate_left
              · intro w hSw; (try dsimp only at hSw); obtain ⟨⟨hs0, hs1, hs2⟩, ⟨hs3, hs4, hs5, hs6⟩⟩ := hSw; simp only [Nat.zero_add] at hs3 hs4 hs5 hs6; go_simp; try with_reducible rfl
              simp only [Act.put, List.getElem_toArray, List.getElem_cons_succ, List.getElem_cons_zero, List.setIfInBounds_toArray, List.set_cons_succ, List.set_cons_zero]
              refine wpAnyH_take (i := 16) (v := ?_) rfl (by kernel_rfl) (by kernel_rfl) (by kernel_rfl) (fun _ _ _ h => h) (Or.inl ⟨by rfl, ?_⟩) (by assumption) ?_
              rotate_left
              · intro w hSw; (try dsimp only at hSw); obtain ⟨⟨hs0, hs1, hs2⟩, ⟨hs3, hs4, hs5, hs6⟩⟩ := hSw; simp only [Nat.zero_add] at hs3 hs4 hs5 hs6; go_simp; try with_reducible rfl
              simp only [Act.put, List.getElem_toArray, List.getElem_cons_succ, List.getElem_cons_zero, List.setIfInBounds_toArray, List.set_cons_succ, List.set_cons_zero]
              refine wpAnyH_take (i := 17) (v := ?_) rfl (by kernel_rfl) (by kernel_rfl) (by kernel_rfl) (fun _ _ _ h => h) (Or.inl ⟨by rfl, ?_⟩) (by assumption) ?_
              rotate_left
              · intro w hSw; (try dsimp only at hSw); obtain ⟨⟨hs0, hs1, hs2⟩, ⟨hs3, hs4, hs5, hs6⟩⟩ := hSw; simp only [Nat.zero_add] at hs3 hs4 hs5 hs6; go_simp; try with_reducible rfl
              simp only [Act.put, List.getElem_toArray, List.getElem_cons_succ, List.getElem_cons_zero, List.setIfInBounds_toArray, List.set_cons_succ, List.set_cons_zero]
              refine wpAnyH_take (i := 18) (v := ?_) rfl (by kernel_rfl) (by kernel_rfl) (by kernel_rfl) (fun _ _ _ h => h) (Or.inl ⟨by rfl, ?_⟩) (by assumption) ?_
              rotate_left
              · intro w hSw; (try dsimp only at hSw); obtain ⟨⟨hs0, hs1, hs2⟩, ⟨hs3, hs4, hs5, hs6⟩⟩ := hSw; simp only [Nat.zero_add] at hs3 hs4 hs5 hs6; go_simp; try with_reducible rfl
              simp only [Act.put, List.getElem_toArray, List.getElem_cons_succ, List.getElem_cons_zero, List.setIfInBounds_toArray, List.set_cons_succ, List.set_cons_zero]
              refine wpAnyH_take (i := 19) (v := .bool true) rfl (by kernel_rfl) (by kernel_rfl) (by kernel_rfl) (fun _ _ _ h => h) (Or.inl ⟨by rfl, ?_⟩) (by assumption) ?_
              · intro w hSw; (try dsimp only at hSw); obtain ⟨⟨hs0, hs1, hs2⟩, ⟨hs3, hs4, hs5, hs6⟩⟩ := hSw; simp only [Nat.zero_add] at hs3 hs4 hs5 hs6; go_simp
              simp only [Act.put, List.getElem_toArray, List.getElem_cons_succ, List.getElem_cons_zero, List.setIfInBounds_toArray, List.set_cons_succ, List.set_cons_zero]
              refine wpAnyH_done (by kernel_rfl) ?_ _
              have c9 := below_drewP c1
              have hX9 := hHeld
              clear hHeld
              have hO9 := hO1.next (below_drewP (Below.refl _ _))
              obtain ⟨hs0, hs1, hs2⟩ := hX9.1
              have hA9 := hO9.alloc (Obj.cells #[.string ps[k].1, .string ps[k].2.1, .string ps[k].2.2] 88)
              have HO9 := hide hA9
              have HX9 := hide (hX9.below ((Below.refl _ _).alloc (Nat.le_refl _) (Obj.cells #[.string ps[k].1, .string ps[k].2.1, .string ps[k].2.2] 88)))
              have HC9 := hide (c9.alloc (szA c9) (Obj.cells #[.string ps[k].1, .string ps[k].2.1, .string ps[k].2.2] 88))
              clear hX9 hO9 hA9 c9
              have HLN := hide (show (acc).length + 1 ≤ 1099511627776 by have := HAL.out; omega)
              go_wp2_with (at_builtin; refine wp_append_prop rfl _ _ rfl (w.heap.size + 1) _ (acc) rfl HO9.out _ ps[k] rfl ?_ ?_ ?_ HLN.out (szA HC9.out) ?_)
              · simp
              · simp
              · simp
              intro g9 n9 cap9 w9 hn9 hO9 hb9
              have c10 := HC9.out.trans (hb9.mono (Nat.le_refl _))
              have hX10 := HX9.out.grown hb9 hbB
              have HN9 := hide hn9
              clear hb9 hn9
              go_wp2
              go_roundw
              case rel => exact ⟨k + 1, false, _, _, _, (acc ++ [ps[k]]), by omega, by go_num, rfl, rfl, hide (by have := HN9.out; simpa using this), (by simpa using hO9), hide (by rw [← hC.out, HDR.out]; simp [oneF, HU.out, HV.out]), hX10.2, c10⟩
              case measure => simp [intOf]; omega
          · have q1 := neBs e1
            have HV := hide (show neP p ps[k] = true by unfold neP; rw [isP_no1 e1]; rfl)
            clear e1
            go_wp2
            refine wp_region_held_drew (S := (fun W => AtBox W b (o + k * 3) ps[k] w.heap.size (d0, p))) (by kernel_rfl) (by exact hX) (fun hHeld => ?_)
            simp only [List.size_toArray, List.length_cons, List.length_nil, Nat.reduceAdd, Array.replicate_succ, Array.replicate_zero, List.push_toArray, List.nil_append, List.cons_append]
            refine wpAnyH_take (i := 0) (v := ?_) rfl (by kernel_rfl) (by kernel_rfl) (by kernel_rfl) (fun _ _ _ h => h) (Or.inl ⟨by rfl, ?_⟩) (by assumption) ?_
            rotate_left
            · intro w hSw; (try dsimp only at hSw); obtain ⟨⟨hs0, hs1, hs2⟩, ⟨hs3, hs4, hs5, hs6⟩⟩ := hSw; simp only [Nat.zero_add] at hs3 hs4 hs5 hs6; go_simp; try with_reducible rfl
            simp only [Act.put, List.getElem_toArray, List.getElem_cons_zero, List.setIfInBounds_toArray, List.set_cons_zero]
            refine wpAnyH_take (i := 1) (v := ?_) rfl (by kernel_rfl) (by kernel_rfl) (by kernel_rfl) (fun _ _ _ h => h) (Or.inl ⟨by rfl, ?_⟩) (by assumption) ?_
            rotate_left
            · intro w hSw; (try dsimp only at hSw); obtain ⟨⟨hs0, hs1, hs2⟩, ⟨hs3, hs4, hs5, hs6⟩⟩ := hSw; simp only [Nat.zero_add] at hs3 hs4 hs5 hs6; go_simp; try with_reducible rfl
            simp only [Act.put, List.getElem_toArray, List.getElem_cons_succ, List.getElem_cons_zero, List.setIfInBounds_toArray, List.set_cons_succ, List.set_cons_zero]
            refine wpAnyH_take (i := 2) (v := ?_) rfl (by kernel_rfl) (by kernel_rfl) (by kernel_rfl) (fun _ _ _ h => h) (Or.inl ⟨by rfl, ?_⟩) (by assumption) ?_
            rotate_left
            · intro w hSw; (try dsimp only at hSw); obtain ⟨⟨hs0, hs1, hs2⟩, ⟨hs3, hs4, hs5, hs6⟩⟩ := hSw; simp only [Nat.zero_add] at hs3 hs4 hs5 hs6; go_simp; try with_reducible rfl
            simp only [Act.put, List.getElem_toArray, List.getElem_cons_succ, List.getElem_cons_zero, List.setIfInBounds_toArray, List.set_cons_succ, List.set_cons_zero]
            refine wpAnyH_take (i := 3) (v := ?_) rfl (by kernel_rfl) (by kernel_rfl) (by kernel_rfl) (fun _ _ _ h => h) (Or.inl ⟨by rfl, ?_⟩) (by assumption) ?_
            rotate_left
            · intro w hSw; (try dsimp only at hSw); obtain ⟨⟨hs0, hs1, hs2⟩, ⟨hs3, hs4, hs5, hs6⟩⟩ := hSw; simp only [Nat.zero_add] at hs3 hs4 hs5 hs6; go_simp; try with_reducible rfl
            simp only [Act.put, List.getElem_toArray, List.getElem_cons_succ, List.getElem_cons_zero, List.setIfInBounds_toArray, List.set_cons_succ, List.set_cons_zero]
            refine wpAnyH_take (i := 4) (v := ?_) rfl (by kernel_rfl) (by kernel_rfl) (by kernel_rfl) (fun _ _ _ h => h) (Or.inl ⟨by rfl, ?_⟩) (by assumption) ?_
            rotate_left
            · intro w hSw; (try dsimp only at hSw); obtain ⟨⟨hs0, hs1, hs2⟩, ⟨hs3, hs4, hs5, hs6⟩⟩ := hSw; simp only [Nat.zero_add] at hs3 hs4 hs5 hs6; go_simp; try with_reducible rfl
            simp only [Act.put, List.getElem_toArray, List.getElem_cons_succ, List.getElem_cons_zero, List.setIfInBounds_toArray, List.set_cons_succ, List.set_cons_zero]
            refine wpAnyH_take (i := 5) (v := ?_) rfl (by kernel_rfl) (by kernel_rfl) (by kernel_rfl) (fun _ _ _ h => h) (Or.inl ⟨by rfl, ?_⟩) (by assumption) ?_
            rotate_left
            · intro w hSw; (try dsimp only at hSw); obtain ⟨⟨hs0, hs1, hs2⟩, ⟨hs3, hs4, hs5, hs6⟩⟩ := hSw; simp only [Nat.zero_add] at hs3 hs4 hs5 hs6; go_simp; try with_reducible rfl
            simp only [Act.put, List.getElem_toArray, List.getElem_cons_succ, List.getElem_cons_zero, List.setIfInBounds_toArray, List.set_cons_succ, List.set_cons_zero]
            refine wpAnyH_take (i := 6) (v := ?_) rfl (by kernel_rfl) (by kernel_rfl) (by kernel_rfl) (fun _ _ _ h => h) (Or.inl ⟨by rfl, ?_⟩) (by assumption) ?_
            rotate_left
            · intro w hSw; (try dsimp only at hSw); obtain ⟨⟨hs0, hs1, hs2⟩, ⟨hs3, hs4, hs5, hs6⟩⟩ := hSw; simp only [Nat.zero_add] at hs3 hs4 hs5 hs6; go_simp; try with_reducible rfl
            simp only [Act.put, List.getElem_toArray, List.getElem_cons_succ, List.getElem_cons_zero, List.setIfInBounds_toArray, List.set_cons_succ, List.set_cons_zero]
            refine wpAnyH_take (i := 7) (v := ?_) rfl (by kernel_rfl) (by kernel_rfl) (by kernel_rfl) (fun _ _ _ h => h) (Or.inl ⟨by rfl, ?_⟩) (by assumption) ?_
            rotate_left
            · intro w hSw; (try dsimp only at hSw); obtain ⟨⟨hs0, hs1, hs2⟩, ⟨hs3, hs4, hs5, hs6⟩⟩ := hSw; simp only [Nat.zero_add] at hs3 hs4 hs5 hs6; go_simp; try with_reducible rfl
            simp only [Act.put, List.getElem_toArray, List.getElem_cons_succ, List.getElem_cons_zero, List.setIfInBounds_toArray, List.set_cons_succ, List.set_cons_zero]
            refine wpAnyH_take (i := 8) (v := .bool true) rfl (by kernel_rfl) (by kernel_rfl) (by kernel_rfl) (fun _ _ _ h => h) (Or.inl ⟨by rfl, ?_⟩) (by assumption) ?_
            · intro w hSw; (try dsimp only at hSw); obtain ⟨⟨hs0, hs1, hs2⟩, ⟨hs3, hs4, hs5, hs6⟩⟩ := hSw; simp only [Nat.zero_add] at hs3 hs4 hs5 hs6; go_simp
            simp only [Act.put, List.getElem_toArray, List.getElem_cons_succ, List.getElem_cons_zero, List.setIfInBounds_toArray, List.set_cons_succ, List.set_cons_zero]
            refine wpAnyH_take (i := 9) (v := .bool true) rfl (by kernel_rfl) (by kernel_rfl) (by kernel_rfl) (fun _ _ _ h => h) (Or.inl ⟨by rfl, ?_⟩) (by assumption) ?_
            · intro w hSw; (try dsimp only at hSw); obtain ⟨⟨hs0, hs1, hs2⟩, ⟨hs3, hs4, hs5, hs6⟩⟩ := hSw; simp only [Nat.zero_add] at hs3 hs4 hs5 hs6; go_simp
            simp only [Act.put, List.getElem_toArray, List.getElem_cons_succ, List.getElem_cons_zero, List.setIfInBounds_toArray, List.set_cons_succ, List.set_cons_zero]
            refine wpAnyH_take (i := 10) (v := undef) rfl (by kernel_rfl) (by kernel_rfl) (by kernel_rfl) (fun _ _ _ h => h) (Or.inr ⟨by rfl, rfl⟩) (by assumption) ?_
            simp only [Act.put, List.getElem_toArray, List.getElem_cons_succ, List.getElem_cons_zero, List.setIfInBounds_toArray, List.set_cons_succ, List.set_cons_zero]
            refine wpAnyH_take (i := 11) (v := undef) rfl (by kernel_rfl) (by kernel_rfl) (by kernel_rfl) (fun _ _ _ h => h) (Or.inr ⟨by rfl, rfl⟩) (by assumption) ?_
            simp only [Act.put, List.getElem_toArray, List.getElem_cons_succ, List.getElem_cons_zero, List.setIfInBounds_toArray, List.set_cons_succ, List.set_cons_zero]
            refine wpAnyH_take (i := 12) (v := undef) rfl (by kernel_rfl) (by kernel_rfl) (by kernel_rfl) (fun _ _ _ h => h) (Or.inr ⟨by rfl, rfl⟩) (by assumption) ?_
            simp only [Act.put, List.getElem_toArray, List.getElem_cons_succ, List.getElem_cons_zero, List.setIfInBounds_toArray, List.set_cons_succ, List.set_cons_zero]
            refine wpAnyH_take (i := 13) (v := undef) rfl (by kernel_rfl) (by kernel_rfl) (by kernel_rfl) (fun _ _ _ h => h) (Or.inr ⟨by rfl, rfl⟩) (by assumption) ?_
            simp only [Act.put, List.getElem_toArray, List.getElem_cons_succ, List.getElem_cons_zero, List.setIfInBounds_toArray, List.set_cons_succ, List.set_cons_zero]
            refine wpAnyH_take (i := 14) (v := undef) rfl (by kernel_rfl) (by kernel_rfl) (by kernel_rfl) (fun _ _ _ h => h) (Or.inr ⟨by rfl, rfl⟩) (by assumption) ?_
            simp only [Act.put, List.getElem_toArray, List.getElem_cons_succ, List.getElem_cons_zero, List.setIfInBounds_toArray, List.set_cons_succ, List.set_cons_zero]
            refine wpAnyH_take (i := 15) (v := undef) rfl (by kernel_rfl) (by kernel_rfl) (by kernel_rfl) (fun _ _ _ h => h) (Or.inr ⟨by rfl, rfl⟩) (by assumption) ?_
            simp only [Act.put, List.getElem_toArray, List.getElem_cons_succ, List.getElem_cons_zero, List.setIfInBounds_toArray, List.set_cons_succ, List.set_cons_zero]
            refine wpAnyH_take (i := 16) (v := undef) rfl (by kernel_rfl) (by kernel_rfl) (by kernel_rfl) (fun _ _ _ h => h) (Or.inr ⟨by rfl, rfl⟩) (by assumption) ?_
            simp only [Act.put, List.getElem_toArray, List.getElem_cons_succ, List.getElem_cons_zero, List.setIfInBounds_toArray, List.set_cons_succ, List.set_cons_zero]
            refine wpAnyH_take (i := 17) (v := undef) rfl (by kernel_rfl) (by kernel_rfl) (by kernel_rfl) (fun _ _ _ h => h) (Or.inr ⟨by rfl, rfl⟩) (by assumption) ?_
            simp only [Act.put, List.getElem_toArray, List.getElem_cons_succ, List.getElem_cons_zero, List.setIfInBounds_toArray, List.set_cons_succ, List.set_cons_zero]
            refine wpAnyH_take (i := 18) (v := undef) rfl (by kernel_rfl) (by kernel_rfl) (by kernel_rfl) (fun _ _ _ h => h) (Or.inr ⟨by rfl, rfl⟩) (by assumption) ?_
            simp only [Act.put, List.getElem_toArray, List.getElem_cons_succ, List.getElem_cons_zero, List.setIfInBounds_toArray, List.set_cons_succ, List.set_cons_zero]
            refine wpAnyH_take (i := 19) (v := .bool true) rfl (by kernel_rfl) (by kernel_rfl) (by kernel_rfl) (fun _ _ _ h => h) (Or.inl ⟨by rfl, ?_⟩) (by assumption) ?_
            · intro w hSw; (try dsimp only at hSw); obtain ⟨⟨hs0, hs1, hs2⟩, ⟨hs3, hs4, hs5, hs6⟩⟩ := hSw; simp only [Nat.zero_add] at hs3 hs4 hs5 hs6; go_simp
            simp only [Act.put, List.getElem_toArray, List.getElem_cons_succ, List.getElem_cons_zero, List.setIfInBounds_toArray, List.set_cons_succ, List.set_cons_zero]
            refine wpAnyH_done (by kernel_rfl) ?_ _
            have c9 := below_drewP c1
            have hX9 := hHeld
            clear hHeld
            have hO9 := hO1.next (below_drewP (Below.refl _ _))
            obtain ⟨hs0, hs1, hs2⟩ := hX9.1
            have hA9 := hO9.alloc (Obj.cells #[.string ps[k].1, .string ps[k].2.1, .string ps[k].2.2] 88)
            have HO9 := hide hA9
            have HX9 := hide (hX9.below ((Below.refl _ _).alloc (Nat.le_refl _) (Obj.cells #[.string ps[k].1, .string ps[k].2.1, .string ps[k].2.2] 88)))
            have HC9 := hide (c9.alloc (szA c9) (Obj.cells #[.string ps[k].1, .string ps[k].2.1, .string ps[k].2.2] 88))
            clear hX9 hO9 hA9 c9
            have HLN := hide (show (acc).length + 1 ≤ 1099511627776 by have := HAL.out; omega)
            go_wp2_with (at_builtin; refine wp_append_prop rfl _ _ rfl (w.heap.size + 1) _ (acc) rfl HO9.out _ ps[k] rfl ?_ ?_ ?_ HLN.out (szA HC9.out) ?_)
            · simp
            · simp
            · simp
            intro g9 n9 cap9 w9 hn9 hO9 hb9
            have c10 := HC9.out.trans (hb9.mono (Nat.le_refl _))
            have hX10 := HX9.out.grown hb9 hbB
            have HN9 := hide hn9
            clear hb9 hn9
            go_wp2
            go_roundw
            case rel => exact ⟨k + 1, false, _, _, _, (acc ++ [ps[k]]), by omega, by go_num, rfl, rfl, hide (by have := HN9.out; simpa using this), (by simpa using hO9), hide (by rw [← hC.out, HDR.out]; simp [oneF, HU.out, HV.out]), hX10.2, c10⟩
            case measure => simp [intOf]; omega
      · have HU := hide (trivial : True)
        go_wp2
        refine wp_region_held_drew (S := (fun W => AtBox W b (o + k * 3) ps[k] w.heap.size (d0, p))) (by kernel_rfl) (by exact hX0) (fun hHeld => ?_)
        simp only [List.size_toArray, List.length_cons, List.length_nil, Nat.reduceAdd, Array.replicate_succ, Array.replicate_zero, List.push_toArray, List.nil_append, List.cons_append]
        refine wpAnyH_take (i := 0) (v := ?_) rfl (by kernel_rfl) (by kernel_rfl) (by kernel_rfl) (fun _ _ _ h => h) (Or.inl ⟨by rfl, ?_⟩) (by assumption) ?_
        rotate_left
        · intro w hSw; (try dsimp only at hSw); obtain ⟨⟨hs0, hs1, hs2⟩, ⟨hs3, hs4, hs5, hs6⟩⟩ := hSw; simp only [Nat.zero_add] at hs3 hs4 hs5 hs6; go_simp; try with_reducible rfl
        simp only [Act.put, List.getElem_toArray, List.getElem_cons_zero, List.setIfInBounds_toArray, List.set_cons_zero]
        refine wpAnyH_take (i := 1) (v := .bool false) rfl (by kernel_rfl) (by kernel_rfl) (by kernel_rfl) (fun _ _ _ h => h) (Or.inl ⟨by rfl, ?_⟩) (by assumption) ?_
        · intro w hSw; (try dsimp only at hSw); obtain ⟨⟨hs0, hs1, hs2⟩, ⟨hs3, hs4, hs5, hs6⟩⟩ := hSw; simp only [Nat.zero_add] at hs3 hs4 hs5 hs6; go_simp
        simp only [Act.put, List.getElem_toArray, List.getElem_cons_succ, List.getElem_cons_zero, List.setIfInBounds_toArray, List.set_cons_succ, List.set_cons_zero]
        refine wpAnyH_take (i := 2) (v := .bool false) rfl (by kernel_rfl) (by kernel_rfl) (by kernel_rfl) (fun _ _ _ h => h) (Or.inl ⟨by rfl, ?_⟩) (by assumption) ?_
        · intro w hSw; (try dsimp only at hSw); obtain ⟨⟨hs0, hs1, hs2⟩, ⟨hs3, hs4, hs5, hs6⟩⟩ := hSw; simp only [Nat.zero_add] at hs3 hs4 hs5 hs6; go_simp
        simp only [Act.put, List.getElem_toArray, List.getElem_cons_succ, List.getElem_cons_zero, List.setIfInBounds_toArray, List.set_cons_succ, List.set_cons_zero]
        refine wpAnyH_take (i := 3) (v := undef) rfl (by kernel_rfl) (by kernel_rfl) (by kernel_rfl) (fun _ _ _ h => h) (Or.inr ⟨by rfl, rfl⟩) (by assumption) ?_
        simp only [Act.put, List.getElem_toArray, List.getElem_cons_succ, List.getElem_cons_zero, List.setIfInBounds_toArray, List.set_cons_succ, List.set_cons_zero]
        refine wpAnyH_take (i := 4) (v := undef) rfl (by kernel_rfl) (by kernel_rfl) (by kernel_rfl) (fun _ _ _ h => h) (Or.inr ⟨by rfl, rfl⟩) (by assumption) ?_
        simp only [Act.put, List.getElem_toArray, List.getElem_cons_succ, List.getElem_cons_zero, List.setIfInBounds_toArray, List.set_cons_succ, List.set_cons_zero]
        refine wpAnyH_take (i := 5) (v := undef) rfl (by kernel_rfl) (by kernel_rfl) (by kernel_rfl) (fun _ _ _ h => h) (Or.inr ⟨by rfl, rfl⟩) (by assumption) ?_
        simp only [Act.put, List.getElem_toArray, List.getElem_cons_succ, List.getElem_cons_zero, List.setIfInBounds_toArray, List.set_cons_succ, List.set_cons_zero]
        refine wpAnyH_take (i := 6) (v := undef) rfl (by kernel_rfl) (by kernel_rfl) (by kernel_rfl) (fun _ _ _ h => h) (Or.inr ⟨by rfl, rfl⟩) (by assumption) ?_
        simp only [Act.put, List.getElem_toArray, List.getElem_cons_succ, List.getElem_cons_zero, List.setIfInBounds_toArray, List.set_cons_succ, List.set_cons_zero]
        refine wpAnyH_take (i := 7) (v := undef) rfl (by kernel_rfl) (by kernel_rfl) (by kernel_rfl) (fun _ _ _ h => h) (Or.inr ⟨by rfl, rfl⟩) (by assumption) ?_
        simp only [Act.put, List.getElem_toArray, List.getElem_cons_succ, List.getElem_cons_zero, List.setIfInBounds_toArray, List.set_cons_succ, List.set_cons_zero]
        refine wpAnyH_take (i := 8) (v := undef) rfl (by kernel_rfl) (by kernel_rfl) (by kernel_rfl) (fun _ _ _ h => h) (Or.inr ⟨by rfl, rfl⟩) (by assumption) ?_
        simp only [Act.put, List.getElem_toArray, List.getElem_cons_succ, List.getElem_cons_zero, List.setIfInBounds_toArray, List.set_cons_succ, List.set_cons_zero]
        refine wpAnyH_take (i := 9) (v := undef) rfl (by kernel_rfl) (by kernel_rfl) (by kernel_rfl) (fun _ _ _ h => h) (Or.inr ⟨by rfl, rfl⟩) (by assumption) ?_
        simp only [Act.put, List.getElem_toArray, List.getElem_cons_succ, List.getElem_cons_zero, List.setIfInBounds_toArray, List.set_cons_succ, List.set_cons_zero]
        refine wpAnyH_take (i := 10) (v := undef) rfl (by kernel_rfl) (by kernel_rfl) (by kernel_rfl) (fun _ _ _ h => h) (Or.inr ⟨by rfl, rfl⟩) (by assumption) ?_
        simp only [Act.put, List.getElem_toArray, List.getElem_cons_succ, List.getElem_cons_zero, List.setIfInBounds_toArray, List.set_cons_succ, List.set_cons_zero]
        refine wpAnyH_take (i := 11) (v := .bool false) rfl (by kernel_rfl) (by kernel_rfl) (by kernel_rfl) (fun _ _ _ h => h) (Or.inl ⟨by rfl, ?_⟩) (by assumption) ?_
        · intro w hSw; (try dsimp only at hSw); obtain ⟨⟨hs0, hs1, hs2⟩, ⟨hs3, hs4, hs5, hs6⟩⟩ := hSw; simp only [Nat.zero_add] at hs3 hs4 hs5 hs6; go_simp
        simp only [Act.put, List.getElem_toArray, List.getElem_cons_succ, List.getElem_cons_zero, List.setIfInBounds_toArray, List.set_cons_succ, List.set_cons_zero]
        refine wpAnyH_done (by kernel_rfl) ?_ _
        have c1 := below_drewP hbe
        have hX := hHeld
        have hO1 := hO.next (below_drewP (Below.refl _ _))
        clear hHeld hX0 hO
        by_cases e1 : ps[k].1 = p.1
        · have q1 := eqBs e1
          by_cases e2 : ps[k].2.1 = p.2.1
          · have q2 := eqBs e2
            have HV := hide (show neP p ps[k] = false by unfold neP; rw [isP_yes e1 e2]; rfl)
            clear e1 e2
            go_wp2
            refine wp_region_held_drew (S := (fun W => AtBox W b (o + k * 3) ps[k] w.heap.size (d0, p))) (by kernel_rfl) (by exact hX) (fun hHeld => ?_)
            simp only [List.size_toArray, List.length_cons, List.length_nil, Nat.reduceAdd, Array.replicate_succ, Array.replicate_zero, List.push_toArray, List.nil_append, List.cons_append]
            refine wpAnyH_take (i := 0) (v := ?_) rfl (by kernel_rfl) (by kernel_rfl) (by kernel_rfl) (fun _ _ _ h => h) (Or.inl ⟨by rfl, ?_⟩) (by assumption) ?_
            rotate_left
            · intro w hSw; (try dsimp only at hSw); obtain ⟨⟨hs0, hs1, hs2⟩, ⟨hs3, hs4, hs5, hs6⟩⟩ := hSw; simp only [Nat.zero_add] at hs3 hs4 hs5 hs6; go_simp; try with_reducible rfl
            simp only [Act.put, List.getElem_toArray, List.getElem_cons_zero, List.setIfInBounds_toArray, List.set_cons_zero]
            refine wpAnyH_take (i := 1) (v := ?_) rfl (by kernel_rfl) (by kernel_rfl) (by kernel_rfl) (fun _ _ _ h => h) (Or.inl ⟨by rfl, ?_⟩) (by assumption) ?_
            rotate_left
            · intro w hSw; (try dsimp only at hSw); obtain ⟨⟨hs0, hs1, hs2⟩, ⟨hs3, hs4, hs5, hs6⟩⟩ := hSw; simp only [Nat.zero_add] at hs3 hs4 hs5 hs6; go_simp; try with_reducible rfl
            simp only [Act.put, List.getElem_toArray, List.getElem_cons_succ, List.getElem_cons_zero, List.setIfInBounds_toArray, List.set_cons_succ, List.set_cons_zero]
            refine wpAnyH_take (i := 2) (v := ?_) rfl (by kernel_rfl) (by kernel_rfl) (by kernel_rfl) (fun _ _ _ h => h) (Or.inl ⟨by rfl, ?_⟩) (by assumption) ?_
            rotate_left
            · intro w hSw; (try dsimp only at hSw); obtain ⟨⟨hs0, hs1, hs2⟩, ⟨hs3, hs4, hs5, hs6⟩⟩ := hSw; simp only [Nat.zero_add] at hs3 hs4 hs5 hs6; go_simp; try with_reducible rfl
            simp only [Act.put, List.getElem_toArray, List.getElem_cons_succ, List.getElem_cons_zero, List.setIfInBounds_toArray, List.set_cons_succ, List.set_cons_zero]
            refine wpAnyH_take (i := 3) (v := ?_) rfl (by kernel_rfl) (by kernel_rfl) (by kernel_rfl) (fun _ _ _ h => h) (Or.inl ⟨by rfl, ?_⟩) (by assumption) ?_
            rotate_left
            · intro w hSw; (try dsimp only at hSw); obtain ⟨⟨hs0, hs1, hs2⟩, ⟨hs3, hs4, hs5, hs6⟩⟩ := hSw; simp only [Nat.zero_add] at hs3 hs4 hs5 hs6; go_simp; try with_reducible rfl
            simp only [Act.put, List.getElem_toArray, List.getElem_cons_succ, List.getElem_cons_zero, List.setIfInBounds_toArray, List.set_cons_succ, List.set_cons_zero]
            refine wpAnyH_take (i := 4) (v := ?_) rfl (by kernel_rfl) (by kernel_rfl) (by kernel_rfl) (fun _ _ _ h => h) (Or.inl ⟨by rfl, ?_⟩) (by assumption) ?_
            rotate_left
            · intro w hSw; (try dsimp only at hSw); obtain ⟨⟨hs0, hs1, hs2⟩, ⟨hs3, hs4, hs5, hs6⟩⟩ := hSw; simp only [Nat.zero_add] at hs3 hs4 hs5 hs6; go_simp; try with_reducible rfl
            simp only [Act.put, List.getElem_toArray, List.getElem_cons_succ, List.getElem_cons_zero, List.setIfInBounds_toArray, List.set_cons_succ, List.set_cons_zero]
            refine wpAnyH_take (i := 5) (v := ?_) rfl (by kernel_rfl) (by kernel_rfl) (by kernel_rfl) (fun _ _ _ h => h) (Or.inl ⟨by rfl, ?_⟩) (by assumption) ?_
            rotate_left
            · intro w hSw; (try dsimp only at hSw); obtain ⟨⟨hs0, hs1, hs2⟩, ⟨hs3, hs4, hs5, hs6⟩⟩ := hSw; simp only [Nat.zero_add] at hs3 hs4 hs5 hs6; go_simp; try with_reducible rfl
            simp only [Act.put, List.getElem_toArray, List.getElem_cons_succ, List.getElem_cons_zero, List.setIfInBounds_toArray, List.set_cons_succ, List.set_cons_zero]
            refine wpAnyH_take (i := 6) (v := ?_) rfl (by kernel_rfl) (by kernel_rfl) (by kernel_rfl) (fun _ _ _ h => h) (Or.inl ⟨by rfl, ?_⟩) (by assumption) ?_
            rotate_left
            · intro w hSw; (try dsimp only at hSw); obtain ⟨⟨hs0, hs1, hs2⟩, ⟨hs3, hs4, hs5, hs6⟩⟩ := hSw; simp only [Nat.zero_add] at hs3 hs4 hs5 hs6; go_simp; try with_reducible rfl
            simp only [Act.put, List.getElem_toArray, List.getElem_cons_succ, List.getElem_cons_zero, List.setIfInBounds_toArray, List.set_cons_succ, List.set_cons_zero]
            refine wpAnyH_take (i := 7) (v := ?_) rfl (by kernel_rfl) (by kernel_rfl) (by kernel_rfl) (fun _ _ _ h => h) (Or.inl ⟨by rfl, ?_⟩) (by assumption) ?_
            rotate_left
            · intro w hSw; (try dsimp only at hSw); obtain ⟨⟨hs0, hs1, hs2⟩, ⟨hs3, hs4, hs5, hs6⟩⟩ := hSw; simp only [Nat.zero_add] at hs3 hs4 hs5 hs6; go_simp; try with_reducible rfl
            simp only [Act.put, List.getElem_toArray, List.getElem_cons_succ, List.getElem_cons_zero, List.setIfInBounds_toArray, List.set_cons_succ, List.set_cons_zero]
            refine wpAnyH_take (i := 8) (v := .bool false) rfl (by kernel_rfl) (by kernel_rfl) (by kernel_rfl) (fun _ _ _ h => h) (Or.inl ⟨by rfl, ?_⟩) (by assumption) ?_
            · intro w hSw; (try dsimp only at hSw); obtain ⟨⟨hs0, hs1, hs2⟩, ⟨hs3, hs4, hs5, hs6⟩⟩ := hSw; simp only [Nat.zero_add] at hs3 hs4 hs5 hs6; go_simp
            simp only [Act.put, List.getElem_toArray, List.getElem_cons_succ, List.getElem_cons_zero, List.setIfInBounds_toArray, List.set_cons_succ, List.set_cons_zero]
            refine wpAnyH_take (i := 9) (v := .bool false) rfl (by kernel_rfl) (by kernel_rfl) (by kernel_rfl) (fun _ _ _ h => h) (Or.inl ⟨by rfl, ?_⟩) (by assumption) ?_
            · intro w hSw; (try dsimp only at hSw); obtain ⟨⟨hs0, hs1, hs2⟩, ⟨hs3, hs4, hs5, hs6⟩⟩ := hSw; simp only [Nat.zero_add] at hs3 hs4 hs5 hs6; go_simp
            simp only [Act.put, List.getElem_toArray, List.getElem_cons_succ, List.getElem_cons_zero, List.setIfInBounds_toArray, List.set_cons_succ, List.set_cons_zero]
            refine wpAnyH_take (i := 10) (v := ?_) rfl (by kernel_rfl) (by kernel_rfl) (by kernel_rfl) (fun _ _ _ h => h) (Or.inl ⟨by rfl, ?_⟩) (by assumption) ?_
            rotate_left
            · intro w hSw; (try dsimp only at hSw); obtain ⟨⟨hs0, hs1, hs2⟩, ⟨hs3, hs4, hs5, hs6⟩⟩ := hSw; simp only [Nat.zero_add] at hs3 hs4 hs5 hs6; go_simp; try with_reducible rfl
            simp only [Act.put, List.getElem_toArray, List.getElem_cons_succ, List.getElem_cons_zero, List.setIfInBounds_toArray, List.set_cons_succ, List.set_cons_zero]
            refine wpAnyH_take (i := 11) (v := ?_) rfl (by kernel_rfl) (by kernel_rfl) (by kernel_rfl) (fun _ _ _ h => h) (Or.inl ⟨by rfl, ?_⟩) (by assumption) ?_
            rotate_left
            · intro w hSw; (try dsimp only at hSw); obtain ⟨⟨hs0, hs1, hs2⟩, ⟨hs3, hs4, hs5, hs6⟩⟩ := hSw; simp only [Nat.zero_add] at hs3 hs4 hs5 hs6; go_simp; try with_reducible rfl
            simp only [Act.put, List.getElem_toArray, List.getElem_cons_succ, List.getElem_cons_zero, List.setIfInBounds_toArray, List.set_cons_succ, List.set_cons_zero]
            refine wpAnyH_take (i := 12) (v := ?_) rfl (by kernel_rfl) (by kernel_rfl) (by kernel_rfl) (fun _ _ _ h => h) (Or.inl ⟨by rfl, ?_⟩) (by assumption) ?_
            rotate_left
            · intro w hSw; (try dsimp only at hSw); obtain ⟨⟨hs0, hs1, hs2⟩, ⟨hs3, hs4, hs5, hs6⟩⟩ := hSw; simp only [Nat.zero_add] at hs3 hs4 hs5 hs6; go_simp; try with_reducible rfl
            simp only [Act.put, List.getElem_toArray, List.getElem_cons_succ, List.getElem_cons_zero, List.setIfInBounds_toArray, List.set_cons_succ, List.set_cons_zero]
            refine wpAnyH_take (i := 13) (v := ?_) rfl (by kernel_rfl) (by kernel_rfl) (by kernel_rfl) (fun _ _ _ h => h) (Or.inl ⟨by rfl, ?_⟩) (by assumption) ?_
            rotate_left
            · intro w hSw; (try dsimp only at hSw); obtain ⟨⟨hs0, hs1, hs2⟩, ⟨hs3, hs4, hs5, hs6⟩⟩ := hSw; simp only [Nat.zero_add] at hs3 hs4 hs5 hs6; go_simp; try with_reducible rfl
            simp only [Act.put, List.getElem_toArray, List.getElem_cons_succ, List.getElem_cons_zero, List.setIfInBounds_toArray, List.set_cons_succ, List.set_cons_zero]
            refine wpAnyH_take (i := 14) (v := ?_) rfl (by kernel_rfl) (by kernel_rfl) (by kernel_rfl) (fun _ _ _ h => h) (Or.inl ⟨by rfl, ?_⟩) (by assumption) ?_
            rotate_left
            · intro w hSw; (try dsimp only at hSw); obtain ⟨⟨hs0, hs1, hs2⟩, ⟨hs3, hs4, hs5, hs6⟩⟩ := hSw; simp only [Nat.zero_add] at hs3 hs4 hs5 hs6; go_simp; try with_reducible rfl
            simp only [Act.put, List.getElem_toArray, List.getElem_cons_succ, List.getElem_cons_zero, List.setIfInBounds_toArray, List.set_cons_succ, List.set_cons_zero]
            refine wpAnyH_take (i := 15) (v := ?_) rfl (by kernel_rfl) (by kernel_rfl) (by kernel_rfl) (fun _ _ _ h => h) (Or.inl ⟨by rfl, ?_⟩) (by assumption) ?_
            rotate_left
            · intro w hSw; (try dsimp only at hSw); obtain ⟨⟨hs0, hs1, hs2⟩, ⟨hs3, hs4, hs5, hs6⟩⟩ := hSw; simp only [Nat.zero_add] at hs3 hs4 hs5 hs6; go_simp; try with_reducible rfl
            simp only [Act.put, List.getElem_toArray, List.getElem_cons_succ, List.getElem_cons_zero, List.setIfInBounds_toArray, List.set_cons_succ, List.set_cons_zero]
            refine wpAnyH_take (i := 16) (v := ?_) rfl (by kernel_rfl) (by kernel_rfl) (by kernel_rfl) (fun _ _ _ h => h) (Or.inl ⟨by rfl, ?_⟩) (by assumption) ?_
            rotate_left
            · intro w hSw; (try dsimp only at hSw); obtain ⟨⟨hs0, hs1, hs2⟩, ⟨hs3, hs4, hs5, hs6⟩⟩ := hSw; simp only [Nat.zero_add] at hs3 hs4 hs5 hs6; go_simp; try with_reducible rfl
            simp only [Act.put, List.getElem_toArray, List.getElem_cons_succ, List.getElem_cons_zero, List.setIfInBounds_toArray, List.set_cons_succ, List.set_cons_zero]
            refine wpAnyH_take (i := 17) (v := ?_) rfl (by kernel_rfl) (by kernel_rfl) (by kernel_rfl) (fun _ _ _ h => h) (Or.inl ⟨by rfl, ?_⟩) (by assumption) ?_
            rotate_left
            · intro w hSw; (try dsimp only at hSw); obtain ⟨⟨hs0, hs1, hs2⟩, ⟨hs3, hs4, hs5, hs6⟩⟩ := hSw; simp only [Nat.zero_add] at hs3 hs4 hs5 hs6; go_simp; try with_reducible rfl
            simp only [Act.put, List.getElem_toArray, List.getElem_cons_succ, List.getElem_cons_zero, List.setIfInBounds_toArray, List.set_cons_succ, List.set_cons_zero]
            refine wpAnyH_take (i := 18) (v := ?_) rfl (by kernel_rfl) (by kernel_rfl) (by kernel_rfl) (fun _ _ _ h => h) (Or.inl ⟨by rfl, ?_⟩) (by assumption) ?_
            rotate_left
            · intro w hSw; (try dsimp only at hSw); obtain ⟨⟨hs0, hs1, hs2⟩, ⟨hs3, hs4, hs5, hs6⟩⟩ := hSw; simp only [Nat.zero_add] at hs3 hs4 hs5 hs6; go_simp; try with_reducible rfl
            simp only [Act.put, List.getElem_toArray, List.getElem_cons_succ, List.getElem_cons_zero, List.setIfInBounds_toArray, List.set_cons_succ, List.set_cons_zero]
            refine wpAnyH_take (i := 19) (v := .bool false) rfl (by kernel_rfl) (by kernel_rfl) (by kernel_rfl) (fun _ _ _ h => h) (Or.inl ⟨by rfl, ?_⟩) (by assumption) ?_
            · intro w hSw; (try dsimp only at hSw); obtain ⟨⟨hs0, hs1, hs2⟩, ⟨hs3, hs4, hs5, hs6⟩⟩ := hSw; simp only [Nat.zero_add] at hs3 hs4 hs5 hs6; go_simp
            simp only [Act.put, List.getElem_toArray, List.getElem_cons_succ, List.getElem_cons_zero, List.setIfInBounds_toArray, List.set_cons_succ, List.set_cons_zero]
            refine wpAnyH_done (by kernel_rfl) ?_ _
            have c9 := below_drewP c1
            have hX9 := hHeld
            clear hHeld
            go_wp2
            go_roundw
            case rel => exact ⟨k + 1, true, _, _, _, (acc), by omega, by go_num, rfl, rfl, hide (by have := hn.out; simpa using this), hO1.next (below_drewP (Below.refl _ _)), hide (by rw [← hC.out, HDR.out]; simp [oneF, HV.out]), hX9.2, c9⟩
            case measure => simp [intOf]; omega
          · have q2 := neBs e2
            have HV := hide (show neP p ps[k] = true by unfold neP; rw [isP_no2 e2]; rfl)
            clear e1 e2
            go_wp2
            refine wp_region_held_drew (S := (fun W => AtBox W b (o + k * 3) ps[k] w.heap.size (d0, p))) (by kernel_rfl) (by exact hX) (fun hHeld => ?_)
            simp only [List.size_toArray, List.length_cons, List.length_nil, Nat.reduceAdd, Array.replicate_succ, Array.replicate_zero, List.push_toArray, List.nil_append, List.cons_append]
            refine wpAnyH_take (i := 0) (v := ?_) rfl (by kernel_rfl) (by kernel_rfl) (by kernel_rfl) (fun _ _ _ h => h) (Or.inl ⟨by rfl, ?_⟩) (by assumption) ?_
            rotate_left
            · intro w hSw; (try dsimp only at hSw); obtain ⟨⟨hs0, hs1, hs2⟩, ⟨hs3, hs4, hs5, hs6⟩⟩ := hSw; simp only [Nat.zero_add] at hs3 hs4 hs5 hs6; go_simp; try with_reducible rfl
            simp only [Act.put, List.getElem_toArray, List.getElem_cons_zero, List.setIfInBounds_toArray, List.set_cons_zero]
            refine wpAnyH_take (i := 1) (v := ?_) rfl (by kernel_rfl) (by kernel_rfl) (by kernel_rfl) (fun _ _ _ h => h) (Or.inl ⟨by rfl, ?_⟩) (by assumption) ?_
            rotate_left
            · intro w hSw; (try dsimp only at hSw); obtain ⟨⟨hs0, hs1, hs2⟩, ⟨hs3, hs4, hs5, hs6⟩⟩ := hSw; simp only [Nat.zero_add] at hs3 hs4 hs5 hs6; go_simp; try with_reducible rfl
            simp only [Act.put, List.getElem_toArray, List.getElem_cons_succ, List.getElem_cons_zero, List.setIfInBounds_toArray, List.set_cons_succ, List.set_cons_zero]
            refine wpAnyH_take (i := 2) (v := ?_) rfl (by kernel_rfl) (by kernel_rfl) (by kernel_rfl) (fun _ _ _ h => h) (Or.inl ⟨by rfl, ?_⟩) (by assumption) ?_
            rotate_left
            · intro w hSw; (try dsimp only at hSw); obtain ⟨⟨hs0, hs1, hs2⟩, ⟨hs3, hs4, hs5, hs6⟩⟩ := hSw; simp only [Nat.zero_add] at hs3 hs4 hs5 hs6; go_simp; try with_reducible rfl
            simp only [Act.put, List.getElem_toArray, List.getElem_cons_succ, List.getElem_cons_zero, List.setIfInBounds_toArray, List.set_cons_succ, List.set_cons_zero]
            refine wpAnyH_take (i := 3) (v := ?_) rfl (by kernel_rfl) (by kernel_rfl) (by kernel_rfl) (fun _ _ _ h => h) (Or.inl ⟨by rfl, ?_⟩) (by assumption) ?_
            rotate_left
            · intro w hSw; (try dsimp only at hSw); obtain ⟨⟨hs0, hs1, hs2⟩, ⟨hs3, hs4, hs5, hs6⟩⟩ := hSw; simp only [Nat.zero_add] at hs3 hs4 hs5 hs6; go_simp; try with_reducible rfl
            simp only [Act.put, List.getElem_toArray, List.getElem_cons_succ, List.getElem_cons_zero, List.setIfInBounds_toArray, List.set_cons_succ, List.set_cons_zero]
            refine wpAnyH_take (i := 4) (v := ?_) rfl (by kernel_rfl) (by kernel_rfl) (by kernel_rfl) (fun _ _ _ h => h) (Or.inl ⟨by rfl, ?_⟩) (by assumption) ?_
            rotate_left
            · intro w hSw; (try dsimp only at hSw); obtain ⟨⟨hs0, hs1, hs2⟩, ⟨hs3, hs4, hs5, hs6⟩⟩ := hSw; simp only [Nat.zero_add] at hs3 hs4 hs5 hs6; go_simp; try with_reducible rfl
            simp only [Act.put, List.getElem_toArray, List.getElem_cons_succ, List.getElem_cons_zero, List.setIfInBounds_toArray, List.set_cons_succ, List.set_cons_zero]
            refine wpAnyH_take (i := 5) (v := ?_) rfl (by kernel_rfl) (by kernel_rfl) (by kernel_rfl) (fun _ _ _ h => h) (Or.inl ⟨by rfl, ?_⟩) (by assumption) ?_
            rotate_left
            · intro w hSw; (try dsimp only at hSw); obtain ⟨⟨hs0, hs1, hs2⟩, ⟨hs3, hs4, hs5, hs6⟩⟩ := hSw; simp only [Nat.zero_add] at hs3 hs4 hs5 hs6; go_simp; try with_reducible rfl
            simp only [Act.put, List.getElem_toArray, List.getElem_cons_succ, List.getElem_cons_zero, List.setIfInBounds_toArray, List.set_cons_succ, List.set_cons_zero]
            refine wpAnyH_take (i := 6) (v := ?_) rfl (by kernel_rfl) (by kernel_rfl) (by kernel_rfl) (fun _ _ _ h => h) (Or.inl ⟨by rfl, ?_⟩) (by assumption) ?_
            rotate_left
            · intro w hSw; (try dsimp only at hSw); obtain ⟨⟨hs0, hs1, hs2⟩, ⟨hs3, hs4, hs5, hs6⟩⟩ := hSw; simp only [Nat.zero_add] at hs3 hs4 hs5 hs6; go_simp; try with_reducible rfl
            simp only [Act.put, List.getElem_toArray, List.getElem_cons_succ, List.getElem_cons_zero, List.setIfInBounds_toArray, List.set_cons_succ, List.set_cons_zero]
            refine wpAnyH_take (i := 7) (v := ?_) rfl (by kernel_rfl) (by kernel_rfl) (by kernel_rfl) (fun _ _ _ h => h) (Or.inl ⟨by rfl, ?_⟩) (by assumption) ?_
            rotate_left
            · intro w hSw; (try dsimp only at hSw); obtain ⟨⟨hs0, hs1, hs2⟩, ⟨hs3, hs4, hs5, hs6⟩⟩ := hSw; simp only [Nat.zero_add] at hs3 hs4 hs5 hs6; go_simp; try with_reducible rfl
            simp only [Act.put, List.getElem_toArray, List.getElem_cons_succ, List.getElem_cons_zero, List.setIfInBounds_toArray, List.set_cons_succ, List.set_cons_zero]
            refine wpAnyH_take (i := 8) (v := .bool false) rfl (by kernel_rfl) (by kernel_rfl) (by kernel_rfl) (fun _ _ _ h => h) (Or.inl ⟨by rfl, ?_⟩) (by assumption) ?_
            · intro w hSw; (try dsimp only at hSw); obtain ⟨⟨hs0, hs1, hs2⟩, ⟨hs3, hs4, hs5, hs6⟩⟩ := hSw; simp only [Nat.zero_add] at hs3 hs4 hs5 hs6; go_simp
            simp only [Act.put, List.getElem_toArray, List.getElem_cons_succ, List.getElem_cons_zero, List.setIfInBounds_toArray, List.set_cons_succ, List.set_cons_zero]
            refine wpAnyH_take (i := 9) (v := .bool false) rfl (by kernel_rfl) (by kernel_rfl) (by kernel_rfl) (fun _ _ _ h => h) (Or.inl ⟨by rfl, ?_⟩) (by assumption) ?_
            · intro w hSw; (try dsimp only at hSw); obtain ⟨⟨hs0, hs1, hs2⟩, ⟨hs3, hs4, hs5, hs6⟩⟩ := hSw; simp only [Nat.zero_add] at hs3 hs4 hs5 hs6; go_simp
            simp only [Act.put, List.getElem_toArray, List.getElem_cons_succ, List.getElem_cons_zero, List.setIfInBounds_toArray, List.set_cons_succ, List.set_cons_zero]
            refine wpAnyH_take (i := 10) (v := ?_) rfl (by kernel_rfl) (by kernel_rfl) (by kernel_rfl) (fun _ _ _ h => h) (Or.inl ⟨by rfl, ?_⟩) (by assumption) ?_
            rotate_left
            · intro w hSw; (try dsimp only at hSw); obtain ⟨⟨hs0, hs1, hs2⟩, ⟨hs3, hs4, hs5, hs6⟩⟩ := hSw; simp only [Nat.zero_add] at hs3 hs4 hs5 hs6; go_simp; try with_reducible rfl
            simp only [Act.put, List.getElem_toArray, List.getElem_cons_succ, List.getElem_cons_zero, List.setIfInBounds_toArray, List.set_cons_succ, List.set_cons_zero]
            refine wpAnyH_take (i := 11) (v := ?_) rfl (by kernel_rfl) (by kernel_rfl) (by kernel_rfl) (fun _ _ _ h => h) (Or.inl ⟨by rfl, ?_⟩) (by assumption) ?_
            rotate_left
            · intro w hSw; (try dsimp only at hSw); obtain ⟨⟨hs0, hs1, hs2⟩, ⟨hs3, hs4, hs5, hs6⟩⟩ := hSw; simp only [Nat.zero_add] at hs3 hs4 hs5 hs6; go_simp; try with_reducible rfl
            simp only [Act.put, List.getElem_toArray, List.getElem_cons_succ, List.getElem_cons_zero, List.setIfInBounds_toArray, List.set_cons_succ, List.set_cons_zero]
            refine wpAnyH_take (i := 12) (v := ?_) rfl (by kernel_rfl) (by kernel_rfl) (by kernel_rfl) (fun _ _ _ h => h) (Or.inl ⟨by rfl, ?_⟩) (by assumption) ?_
            rotate_left
            · intro w hSw; (try dsimp only at hSw); obtain ⟨⟨hs0, hs1, hs2⟩, ⟨hs3, hs4, hs5, hs6⟩⟩ := hSw; simp only [Nat.zero_add] at hs3 hs4 hs5 hs6; go_simp; try with_reducible rfl
            simp only [Act.put, List.getElem_toArray, List.getElem_cons_succ, List.getElem_cons_zero, List.setIfInBounds_toArray, List.set_cons_succ, List.set_cons_zero]
            refine wpAnyH_take (i := 13) (v := ?_) rfl (by kernel_rfl) (by kernel_rfl) (by kernel_rfl) (fun _ _ _ h => h) (Or.inl ⟨by rfl, ?_⟩) (by assumption) ?_
            rotate_left
            · intro w hSw; (try dsimp only at hSw); obtain ⟨⟨hs0, hs1, hs2⟩, ⟨hs3, hs4, hs5, hs6⟩⟩ := hSw; simp only [Nat.zero_add] at hs3 hs4 hs5 hs6; go_simp; try with_reducible rfl
            simp only [Act.put, List.getElem_toArray, List.getElem_cons_succ, List.getElem_cons_zero, List.setIfInBounds_toArray, List.set_cons_succ, List.set_cons_zero]
            refine wpAnyH_take (i := 14) (v := ?_) rfl (by kernel_rfl) (by kernel_rfl) (by kernel_rfl) (fun _ _ _ h => h) (Or.inl ⟨by rfl, ?_⟩) (by assumption) ?_
            rotate_left
            · intro w hSw; (try dsimp only at hSw); obtain ⟨⟨hs0, hs1, hs2⟩, ⟨hs3, hs4, hs5, hs6⟩⟩ := hSw; simp only [Nat.zero_add] at hs3 hs4 hs5 hs6; go_simp; try with_reducible rfl
            simp only [Act.put, List.getElem_toArray, List.getElem_cons_succ, List.getElem_cons_zero, List.setIfInBounds_toArray, List.set_cons_succ, List.set_cons_zero]
            refine wpAnyH_take (i := 15) (v := ?_) rfl (by kernel_rfl) (by kernel_rfl) (by kernel_rfl) (fun _ _ _ h => h) (Or.inl ⟨by rfl, ?_⟩) (by assumption) ?_
            rotate_left
            · intro w hSw; (try dsimp only at hSw); obtain ⟨⟨hs0, hs1, hs2⟩, ⟨hs3, hs4, hs5, hs6⟩⟩ := hSw; simp only [Nat.zero_add] at hs3 hs4 hs5 hs6; go_simp; try with_reducible rfl
            simp only [Act.put, List.getElem_toArray, List.getElem_cons_succ, List.getElem_cons_zero, List.setIfInBounds_toArray, List.set_cons_succ, List.set_cons_zero]
            refine wpAnyH_take (i := 16) (v := ?_) rfl (by kernel_rfl) (by kernel_rfl) (by kernel_rfl) (fun _ _ _ h => h) (Or.inl ⟨by rfl, ?_⟩) (by assumption) ?_
            rotate_left
            · intro w hSw; (try dsimp only at hSw); obtain ⟨⟨hs0, hs1, hs2⟩, ⟨hs3, hs4, hs5, hs6⟩⟩ := hSw; simp only [Nat.zero_add] at hs3 hs4 hs5 hs6; go_simp; try with_reducible rfl
            simp only [Act.put, List.getElem_toArray, List.getElem_cons_succ, List.getElem_cons_zero, List.setIfInBounds_toArray, List.set_cons_succ, List.set_cons_zero]
            refine wpAnyH_take (i := 17) (v := ?_) rfl (by kernel_rfl) (by kernel_rfl) (by kernel_rfl) (fun _ _ _ h => h) (Or.inl ⟨by rfl, ?_⟩) (by assumption) ?_
            rotate_left
            · intro w hSw; (try dsimp only at hSw); obtain ⟨⟨hs0, hs1, hs2⟩, ⟨hs3, hs4, hs5, hs6⟩⟩ := hSw; simp only [Nat.zero_add] at hs3 hs4 hs5 hs6; go_simp; try with_reducible rfl
            simp only [Act.put, List.getElem_toArray, List.getElem_cons_succ, List.getElem_cons_zero, List.setIfInBounds_toArray, List.set_cons_succ, List.set_cons_zero]
            refine wpAnyH_take (i := 18) (v := ?_) rfl (by kernel_rfl) (by kernel_rfl) (by kernel_rfl) (fun _ _ _ h => h) (Or.inl ⟨by rfl, ?_⟩) (by assumption) ?_
            rotate_left
            · intro w hSw; (try dsimp only at hSw); obtain ⟨⟨hs0, hs1, hs2⟩, ⟨hs3, hs4, hs5, hs6⟩⟩ := hSw; simp only [Nat.zero_add] at hs3 hs4 hs5 hs6; go_simp; try with_reducible rfl
            simp only [Act.put, List.getElem_toArray, List.getElem_cons_succ, List.getElem_cons_zero, List.setIfInBounds_toArray, List.set_cons_succ, List.set_cons_zero]
            refine wpAnyH_take (i := 19) (v := .bool true) rfl (by kernel_rfl) (by kernel_rfl) (by kernel_rfl) (fun _ _ _ h => h) (Or.inl ⟨by rfl, ?_⟩) (by assumption) ?_
            · intro w hSw; (try dsimp only at hSw); obtain ⟨⟨hs0, hs1, hs2⟩, ⟨hs3, hs4, hs5, hs6⟩⟩ := hSw; simp only [Nat.zero_add] at hs3 hs4 hs5 hs6; go_simp
            simp only [Act.put, List.getElem_toArray, List.getElem_cons_succ, List.getElem_cons_zero, List.setIfInBounds_toArray, List.set_cons_succ, List.set_cons_zero]
            refine wpAnyH_done (by kernel_rfl) ?_ _
            have c9 := below_drewP c1
            have hX9 := hHeld
            clear hHeld
            have hO9 := hO1.next (below_drewP (Below.refl _ _))
            obtain ⟨hs0, hs1, hs2⟩ := hX9.1
            have hA9 := hO9.alloc (Obj.cells #[.string ps[k].1, .string ps[k].2.1, .string ps[k].2.2] 88)
            have HO9 := hide hA9
            have HX9 := hide (hX9.below ((Below.refl _ _).alloc (Nat.le_refl _) (Obj.cells #[.string ps[k].1, .string ps[k].2.1, .string ps[k].2.2] 88)))
            have HC9 := hide (c9.alloc (szA c9) (Obj.cells #[.string ps[k].1, .string ps[k].2.1, .string ps[k].2.2] 88))
            clear hX9 hO9 hA9 c9
            have HLN := hide (show (acc).length + 1 ≤ 1099511627776 by have := HAL.out; omega)
            go_wp2_with (at_builtin; refine wp_append_prop rfl _ _ rfl (w.heap.size + 1) _ (acc) rfl HO9.out _ ps[k] rfl ?_ ?_ ?_ HLN.out (szA HC9.out) ?_)
            · simp
            · simp
            · simp
            intro g9 n9 cap9 w9 hn9 hO9 hb9
            have c10 := HC9.out.trans (hb9.mono (Nat.le_refl _))
            have hX10 := HX9.out.grown hb9 hbB
            have HN9 := hide hn9
            clear hb9 hn9
            go_wp2
            go_roundw
            case rel => exact ⟨k + 1, true, _, _, _, (acc ++ [ps[k]]), by omega, by go_num, rfl, rfl, hide (by have := HN9.out; simpa using this), (by simpa using hO9), hide (by rw [← hC.out, HDR.out]; simp [oneF, HV.out]), hX10.2, c10⟩
            case measure => simp [intOf]; omega
        · have q1 := neBs e1
          have HV := hide (show neP p ps[k] = true by unfold neP; rw [isP_no1 e1]; rfl)
          clear e1
          go_wp2
          refine wp_region_held_drew (S := (fun W => AtBox W b (o + k * 3) ps[k] w.heap.size (d0, p))) (by kernel_rfl) (by exact hX) (fun hHeld => ?_)
          simp only [List.size_toArray, List.length_cons, List.length_nil, Nat.reduceAdd, Array.replicate_succ, Array.replicate_zero, List.push_toArray, List.nil_append, List.cons_append]
          refine wpAnyH_take (i := 0) (v := ?_) rfl (by kernel_rfl) (by kernel_rfl) (by kernel_rfl) (fun _ _ _ h => h) (Or.inl ⟨by rfl, ?_⟩) (by assumption) ?_
          rotate_left
          · intro w hSw; (try dsimp only at hSw); obtain ⟨⟨hs0, hs1, hs2⟩, ⟨hs3, hs4, hs5, hs6⟩⟩ := hSw; simp only [Nat.zero_add] at hs3 hs4 hs5 hs6; go_simp; try with_reducible rfl
          simp only [Act.put, List.getElem_toArray, List.getElem_cons_zero, List.setIfInBounds_toArray, List.set_cons_zero]
          refine wpAnyH_take (i := 1) (v := ?_) rfl (by kernel_rfl) (by kernel_rfl) (by kernel_rfl) (fun _ _ _ h => h) (Or.inl ⟨by rfl, ?_⟩) (by assumption) ?_
          rotate_left
          · intro w hSw; (try dsimp only at hSw); obtain ⟨⟨hs0, hs1, hs2⟩, ⟨hs3, hs4, hs5, hs6⟩⟩ := hSw; simp only [Nat.zero_add] at hs3 hs4 hs5 hs6; go_simp; try with_reducible rfl
          simp only [Act.put, List.getElem_toArray, List.getElem_cons_succ, List.getElem_cons_zero, List.setIfInBounds_toArray, List.set_cons_succ, List.set_cons_zero]
          refine wpAnyH_take (i := 2) (v := ?_) rfl (by kernel_rfl) (by kernel_rfl) (by kernel_rfl) (fun _ _ _ h => h) (Or.inl ⟨by rfl, ?_⟩) (by assumption) ?_
          rotate_left
          · intro w hSw; (try dsimp only at hSw); obtain ⟨⟨hs0, hs1, hs2⟩, ⟨hs3, hs4, hs5, hs6⟩⟩ := hSw; simp only [Nat.zero_add] at hs3 hs4 hs5 hs6; go_simp; try with_reducible rfl
          simp only [Act.put, List.getElem_toArray, List.getElem_cons_succ, List.getElem_cons_zero, List.setIfInBounds_toArray, List.set_cons_succ, List.set_cons_zero]
          refine wpAnyH_take (i := 3) (v := ?_) rfl (by kernel_rfl) (by kernel_rfl) (by kernel_rfl) (fun _ _ _ h => h) (Or.inl ⟨by rfl, ?_⟩) (by assumption) ?_
          rotate_left
          · intro w hSw; (try dsimp only at hSw); obtain ⟨⟨hs0, hs1, hs2⟩, ⟨hs3, hs4, hs5, hs6⟩⟩ := hSw; simp only [Nat.zero_add] at hs3 hs4 hs5 hs6; go_simp; try with_reducible rfl
          simp only [Act.put, List.getElem_toArray, List.getElem_cons_succ, List.getElem_cons_zero, List.setIfInBounds_toArray, List.set_cons_succ, List.set_cons_zero]
          refine wpAnyH_take (i := 4) (v := ?_) rfl (by kernel_rfl) (by kernel_rfl) (by kernel_rfl) (fun _ _ _ h => h) (Or.inl ⟨by rfl, ?_⟩) (by assumption) ?_
          rotate_left
          · intro w hSw; (try dsimp only at hSw); obtain ⟨⟨hs0, hs1, hs2⟩, ⟨hs3, hs4, hs5, hs6⟩⟩ := hSw; simp only [Nat.zero_add] at hs3 hs4 hs5 hs6; go_simp; try with_reducible rfl
          simp only [Act.put, List.getElem_toArray, List.getElem_cons_succ, List.getElem_cons_zero, List.setIfInBounds_toArray, List.set_cons_succ, List.set_cons_zero]
          refine wpAnyH_take (i := 5) (v := ?_) rfl (by kernel_rfl) (by kernel_rfl) (by kernel_rfl) (fun _ _ _ h => h) (Or.inl ⟨by rfl, ?_⟩) (by assumption) ?_
          rotate_left
          · intro w hSw; (try dsimp only at hSw); obtain ⟨⟨hs0, hs1, hs2⟩, ⟨hs3, hs4, hs5, hs6⟩⟩ := hSw; simp only [Nat.zero_add] at hs3 hs4 hs5 hs6; go_simp; try with_reducible rfl
          simp only [Act.put, List.getElem_toArray, List.getElem_cons_succ, List.getElem_cons_zero, List.setIfInBounds_toArray, List.set_cons_succ, List.set_cons_zero]
          refine wpAnyH_take (i := 6) (v := ?_) rfl (by kernel_rfl) (by kernel_rfl) (by kernel_rfl) (fun _ _ _ h => h) (Or.inl ⟨by rfl, ?_⟩) (by assumption) ?_
          rotate_left
          · intro w hSw; (try dsimp only at hSw); obtain ⟨⟨hs0, hs1, hs2⟩, ⟨hs3, hs4, hs5, hs6⟩⟩ := hSw; simp only [Nat.zero_add] at hs3 hs4 hs5 hs6; go_simp; try with_reducible rfl
          simp only [Act.put, List.getElem_toArray, List.getElem_cons_succ, List.getElem_cons_zero, List.setIfInBounds_toArray, List.set_cons_succ, List.set_cons_zero]
          refine wpAnyH_take (i := 7) (v := ?_) rfl (by kernel_rfl) (by kernel_rfl) (by kernel_rfl) (fun _ _ _ h => h) (Or.inl ⟨by rfl, ?_⟩) (by assumption) ?_
          rotate_left
          · intro w hSw; (try dsimp only at hSw); obtain ⟨⟨hs0, hs1, hs2⟩, ⟨hs3, hs4, hs5, hs6⟩⟩ := hSw; simp only [Nat.zero_add] at hs3 hs4 hs5 hs6; go_simp; try with_reducible rfl
          simp only [Act.put, List.getElem_toArray, List.getElem_cons_succ, List.getElem_cons_zero, List.setIfInBounds_toArray, List.set_cons_succ, List.set_cons_zero]
          refine wpAnyH_take (i := 8) (v := .bool true) rfl (by kernel_rfl) (by kernel_rfl) (by kernel_rfl) (fun _ _ _ h => h) (Or.inl ⟨by rfl, ?_⟩) (by assumption) ?_
          · intro w hSw; (try dsimp only at hSw); obtain ⟨⟨hs0, hs1, hs2⟩, ⟨hs3, hs4, hs5, hs6⟩⟩ := hSw; simp only [Nat.zero_add] at hs3 hs4 hs5 hs6; go_simp
          simp only [Act.put, List.getElem_toArray, List.getElem_cons_succ, List.getElem_cons_zero, List.setIfInBounds_toArray, List.set_cons_succ, List.set_cons_zero]
          refine wpAnyH_take (i := 9) (v := .bool true) rfl (by kernel_rfl) (by kernel_rfl) (by kernel_rfl) (fun _ _ _ h => h) (Or.inl ⟨by rfl, ?_⟩) (by assumption) ?_
          · intro w hSw; (try dsimp only at hSw); obtain ⟨⟨hs0, hs1, hs2⟩, ⟨hs3, hs4, hs5, hs6⟩⟩ := hSw; simp only [Nat.zero_add] at hs3 hs4 hs5 hs6; go_simp
          simp only [Act.put, List.getElem_toArray, List.getElem_cons_succ, List.getElem_cons_zero, List.setIfInBounds_toArray, List.set_cons_succ, List.set_cons_zero]
          refine wpAnyH_take (i := 10) (v := undef) rfl (by kernel_rfl) (by kernel_rfl) (by kernel_rfl) (fun _ _ _ h => h) (Or.inr ⟨by rfl, rfl⟩) (by assumption) ?_
          simp only [Act.put, List.getElem_toArray, List.getElem_cons_succ, List.getElem_cons_zero, List.setIfInBounds_toArray, List.set_cons_succ, List.set_cons_zero]
          refine wpAnyH_take (i := 11) (v := undef) rfl (by kernel_rfl) (by kernel_rfl) (by kernel_rfl) (fun _ _ _ h => h) (Or.inr ⟨by rfl, rfl⟩) (by assumption) ?_
          simp only [Act.put, List.getElem_toArray, List.getElem_cons_succ, List.getElem_cons_zero, List.setIfInBounds_toArray, List.set_cons_succ, List.set_cons_zero]
          refine wpAnyH_take (i := 12) (v := undef) rfl (by kernel_rfl) (by kernel_rfl) (by kernel_rfl) (fun _ _ _ h => h) (Or.inr ⟨by rfl, rfl⟩) (by assumption) ?_
          simp only [Act.put, List.getElem_toArray, List.getElem_cons_succ, List.getElem_cons_zero, List.setIfInBounds_toArray, List.set_cons_succ, List.set_cons_zero]
          refine wpAnyH_take (i := 13) (v := undef) rfl (by kernel_rfl) (by kernel_rfl) (by kernel_rfl) (fun _ _ _ h => h) (Or.inr ⟨by rfl, rfl⟩) (by assumption) ?_
          simp only [Act.put, List.getElem_toArray, List.getElem_cons_succ, List.getElem_cons_zero, List.setIfInBounds_toArray, List.set_cons_succ, List.set_cons_zero]
          refine wpAnyH_take (i := 14) (v := undef) rfl (by kernel_rfl) (by kernel_rfl) (by kernel_rfl) (fun _ _ _ h => h) (Or.inr ⟨by rfl, rfl⟩) (by assumption) ?_
          simp only [Act.put, List.getElem_toArray, List.getElem_cons_succ, List.getElem_cons_zero, List.setIfInBounds_toArray, List.set_cons_succ, List.set_cons_zero]
          refine wpAnyH_take (i := 15) (v := undef) rfl (by kernel_rfl) (by kernel_rfl) (by kernel_rfl) (fun _ _ _ h => h) (Or.inr ⟨by rfl, rfl⟩) (by assumption) ?_
          simp only [Act.put, List.getElem_toArray, List.getElem_cons_succ, List.getElem_cons_zero, List.setIfInBounds_toArray, List.set_cons_succ, List.set_cons_zero]
          refine wpAnyH_take (i := 16) (v := undef) rfl (by kernel_rfl) (by kernel_rfl) (by kernel_rfl) (fun _ _ _ h => h) (Or.inr ⟨by rfl, rfl⟩) (by assumption) ?_
          simp only [Act.put, List.getElem_toArray, List.getElem_cons_succ, List.getElem_cons_zero, List.setIfInBounds_toArray, List.set_cons_succ, List.set_cons_zero]
          refine wpAnyH_take (i := 17) (v := undef) rfl (by kernel_rfl) (by kernel_rfl) (by kernel_rfl) (fun _ _ _ h => h) (Or.inr ⟨by rfl, rfl⟩) (by assumption) ?_
          simp only [Act.put, List.getElem_toArray, List.getElem_cons_succ, List.getElem_cons_zero, List.setIfInBounds_toArray, List.set_cons_succ, List.set_cons_zero]
          refine wpAnyH_take (i := 18) (v := undef) rfl (by kernel_rfl) (by kernel_rfl) (by kernel_rfl) (fun _ _ _ h => h) (Or.inr ⟨by rfl, rfl⟩) (by assumption) ?_
          simp only [Act.put, List.getElem_toArray, List.getElem_cons_succ, List.getElem_cons_zero, List.setIfInBounds_toArray, List.set_cons_succ, List.set_cons_zero]
          refine wpAnyH_take (i := 19) (v := .bool true) rfl (by kernel_rfl) (by kernel_rfl) (by kernel_rfl) (fun _ _ _ h => h) (Or.inl ⟨by rfl, ?_⟩) (by assumption) ?_
          · intro w hSw; (try dsimp only at hSw); obtain ⟨⟨hs0, hs1, hs2⟩, ⟨hs3, hs4, hs5, hs6⟩⟩ := hSw; simp only [Nat.zero_add] at hs3 hs4 hs5 hs6; go_simp
          simp only [Act.put, List.getElem_toArray, List.getElem_cons_succ, List.getElem_cons_zero, List.setIfInBounds_toArray, List.set_cons_succ, List.set_cons_zero]
          refine wpAnyH_done (by kernel_rfl) ?_ _
          have c9 := below_drewP c1
          have hX9 := hHeld
          clear hHeld
          have hO9 := hO1.next (below_drewP (Below.refl _ _))
          obtain ⟨hs0, hs1, hs2⟩ := hX9.1
          have hA9 := hO9.alloc (Obj.cells #[.string ps[k].1, .string ps[k].2.1, .string ps[k].2.2] 88)
          have HO9 := hide hA9
          have HX9 := hide (hX9.below ((Below.refl _ _).alloc (Nat.le_refl _) (Obj.cells #[.string ps[k].1, .string ps[k].2.1, .string ps[k].2.2] 88)))
          have HC9 := hide (c9.alloc (szA c9) (Obj.cells #[.string ps[k].1, .string ps[k].2.1, .string ps[k].2.2] 88))
          clear hX9 hO9 hA9 c9
          have HLN := hide (show (acc).length + 1 ≤ 1099511627776 by have := HAL.out; omega)
          go_wp2_with (at_builtin; refine wp_append_prop rfl _ _ rfl (w.heap.size + 1) _ (acc) rfl HO9.out _ ps[k] rfl ?_ ?_ ?_ HLN.out (szA HC9.out) ?_)
          · simp
          · simp
          · simp
          intro g9 n9 cap9 w9 hn9 hO9 hb9
          have c10 := HC9.out.trans (hb9.mono (Nat.le_refl _))
          have hX10 := HX9.out.grown hb9 hbB
          have HN9 := hide hn9
          clear hb9 hn9
          go_wp2
          go_roundw
          case rel => exact ⟨k + 1, true, _, _, _, (acc ++ [ps[k]]), by omega, by go_num, rfl, rfl, hide (by have := HN9.out; simpa using this), (by simpa using hO9), hide (by rw [← hC.out, HDR.out]; simp [oneF, HV.out]), hX10.2, c10⟩
          case measure => simp [intOf]; omega
    · have HD := hide (show ps.drop k = [] from List.drop_eq_nil_of_le (by omega))
      obtain ⟨hs3, hs4, hs5, hs6⟩ := hbx
      simp only [Nat.zero_add] at hs3 hs4 hs5 hs6
      cases d
      · have HA1 := hide (hO.alloc (Obj.cells #[.string p.1, .string p.2.1, .string p.2.2] 88))
        have HC1 := hide (hbe.alloc (szA hbe) (Obj.cells #[.string p.1, .string p.2.1, .string p.2.2] 88))
        have HLN := hide (show acc.length + 1 ≤ 1099511627776 by have := HAL.out; omega)
        have HE := hide (show acc ++ [p] = oneL ps (d0, p) by have := hC.out; rw [HD.out] at this; simpa [oneF] using this)
        go_wp2_with (at_builtin; refine wp_append_prop rfl _ _ rfl (w.heap.size + 1) _ acc rfl HA1.out _ p rfl ?_ ?_ ?_ HLN.out (szA HC1.out) ?_)
        · simp
        · simp
        · simp
        intro g2 n2 cap2 w2 hn2 hO2 hb2
        have HN2 := hide (show n2 = (oneL ps (d0, p)).length by rw [← HE.out]; simpa using hn2)
        rw [HE.out] at hO2
        have c2 := HC1.out.trans (hb2.mono (Nat.le_refl _))
        clear hb2 hn2
        go_wp2
        go_ret
        exact ⟨⟨_, _, _, rfl, HN2.out, hO2.base (by omega)⟩, HB0.out.trans (c2.mono (by omega))⟩
      · have HE := hide (show acc = oneL ps (d0, p) by have := hC.out; rw [HD.out] at this; simpa [oneF] using this)
        go_wp2
        go_ret
        refine ⟨⟨_, _, _, rfl, ?_, ?_⟩, HB0.out.trans (hbe.mono (by omega))⟩
        · rw [← HE.out]; exact hn.out
        · rw [← HE.out]; exact hO.base (by omega)
end Go.Proofs.YtifnolomekhmfaaGreat
