/-
  What impl.davNode, impl.nodeOfSet and impl.SetsNode do.
-/
import Derived.Test.YtkgdmlfdlkmojaaMathSetN
import Derived.Test.YtkgdmlfdlkmojaaSets
import Derived.Test.YtkgdmlfdlkmojaaRowsN
import Derived.Test.YtkgdmlfdlkmojaaClone
import Derived.Test.YtkgdmlfdlkmojaaBx4
import Derived.Deep.RegionHeld3
namespace Go.Proofs.Ytkgdmlfdlkmojaa
open Go.RowKit M
set_option linter.unusedVariables false

theorem OwnK.setC {w : World} {a : Option Addr} {ks : List Nd} {S : Nat → Prop} {b k : Nat} (h : OwnK w a ks S) (v : Value) (hb : ∀ x, S x → x ≠ b) : OwnK (w.setCell ⟨b, k, none⟩ v) a ks S :=
  h.keep (fun x o hx => World.cell?_of_block (a := ⟨x, o, none⟩) (Below.heap_setCell _ _ _ _ (hb x hx))) (fun x o hx => by rw [World.frozen?_setCell])
/-- One node in a row of its own. -/
theorem OwnK.made (W : World) (n : Nd) (an : Option Addr) (cn : Nat) (T : TypeId) (lo : Nat) (hlo : lo ≤ W.heap.size) (h : OwnK W an n.ks (Ivl lo W.heap.size)) :
    OwnK (W.alloc (Obj.cells #[.string n.ns, .string n.nm, .string n.tx, .slice an n.ks.length cn] T)) (some ⟨W.heap.size, 0, none⟩) [n] (Ivl lo (W.heap.size + 1)) := by
  have hb := (Below.refl W.heap.size W).alloc (Nat.le_refl _) (Obj.cells #[.string n.ns, .string n.nm, .string n.tx, .slice an n.ks.length cn] T)
  refine .row W.heap.size 0 [n] (fun _ => an) (fun _ => cn) (fun _ => Ivl lo W.heap.size) _ ⟨hlo, Nat.lt_succ_self _⟩ (fun j hj => ?_) (fun i => World.frozen?_alloc_new W _ _ i) (fun j hj => ?_) (fun j x hj hx => ⟨⟨hx.1, by have := hx.2; omega⟩, by have := hx.2; omega⟩) (fun i j x hij hj => ?_)
  · have e : j = 0 := by simp at hj; exact hj
    subst e
    simp
  · have e : j = 0 := by simp at hj; exact hj
    subst e
    exact h.stays hb (fun x hx => hx.2)
  · simp at hj; omega

set_option maxHeartbeats 1000000 in
theorem davNode_any (x : ByteArray) (a : Option Addr) (n c : Nat) (w : World) :
    Calls Try.prog 66 #[.string x, .slice a n c] w fun e w' => e = .returned (.agg #[.string davT, .string x, .string ⟨#[]⟩, .slice a n c]) ∧ Below w.heap.size w w' := by
  go_enter Try.func66, Try.ntmps66
  go_wp2
  refine bodyPost_ret (v := .agg #[.string davT, .string x, .string ⟨#[]⟩, .slice a n c]) (by simp [results, Try.results66, go_sem, davT]) rfl ⟨rfl, ?_⟩
  exact (Below.refl _ _).alloc (Nat.le_refl _) _

/-- A set in a box, and the answer's box, as they stand. -/
structure NB (w : World) (s : Sx) (W : World) : Prop where
  x : W.cell? ⟨w.heap.size, 0, none⟩ = some (.bool s.1) ∧ W.cell? ⟨w.heap.size, 1, none⟩ = some (.string s.2.1) ∧ W.cell? ⟨w.heap.size, 2, none⟩ = some (.string s.2.2.1) ∧ W.cell? ⟨w.heap.size, 3, none⟩ = some (.string s.2.2.2)
  r : Bx W (w.heap.size + 1) (.string ⟨#[]⟩) (.string ⟨#[]⟩) (.string ⟨#[]⟩) (.slice none 0 0)
  b : Below w.heap.size w W
  sz : w.heap.size + 2 ≤ W.heap.size
theorem NB.below {w W w1 : World} {s : Sx} (h : NB w s W) (hb : Below W.heap.size W w1) : NB w s w1 := by
  have hl : w.heap.size < W.heap.size := by have := h.sz; omega
  have e : ∀ o, w1.cell? ⟨w.heap.size, o, none⟩ = W.cell? ⟨w.heap.size, o, none⟩ := fun o => hb.cell (p := ⟨w.heap.size, o, none⟩) hl
  refine ⟨by simp only [e]; exact h.x, h.r.next hb (by have := h.sz; omega), h.b.trans (hb.mono h.b.size), Nat.le_trans h.sz hb.size⟩
theorem NB.alloc {w W : World} {s : Sx} (h : NB w s W) (o : Obj) : NB w s (W.alloc o) := h.below ((Below.refl _ _).alloc (Nat.le_refl _) o)
theorem NB.setM {w W : World} {s : Sx} {M k : Nat} {v : Value} (h : NB w s W) (hM : w.heap.size + 2 ≤ M) : NB w s (W.setCell ⟨M, k, none⟩ v) := by
  have e : ∀ o, (W.setCell ⟨M, k, none⟩ v).cell? ⟨w.heap.size, o, none⟩ = W.cell? ⟨w.heap.size, o, none⟩ := fun o => World.cell?_of_block (a := ⟨w.heap.size, o, none⟩) (Below.heap_setCell _ _ _ _ (by show w.heap.size ≠ M; omega))
  refine ⟨by simp only [e]; exact h.x, h.r.other v (by omega), h.b.setCell (by show w.heap.size ≤ M; omega) _, by simpa using h.sz⟩

set_option maxRecDepth 100000 in
set_option maxHeartbeats 16000000 in
theorem nodeOfSet_any (d : Bool) (p : Pp) (w : World) (hz : p.1.size ≤ 281474976710656 ∧ p.2.1.size ≤ 281474976710656 ∧ p.2.2.size ≤ 281474976710656) :
    Calls Try.prog 65 #[.agg #[.bool d, .string p.1, .string p.2.1, .string p.2.2]] w fun e w' => (∃ g, e = .returned (.agg #[.string (setN (d, p)).ns, .string (setN (d, p)).nm, .string (setN (d, p)).tx, .slice (some ⟨g, 0, none⟩) 1 1]) ∧ OwnK w' (some ⟨g, 0, none⟩) [prpN (d, p)] (Ivl w.heap.size w'.heap.size)) ∧ Below w.heap.size w w' := by
  have HNB := hide (show NB w (d, p) ((w.alloc (Obj.cells #[.bool d, .string p.1, .string p.2.1, .string p.2.2] 38)).alloc (Obj.cells #[Value.string { data := #[] }, Value.string { data := #[] }, Value.string { data := #[] }, Value.slice none 0 0] 58)) from ⟨by simp [go_sem], by have := Bx.made (w.alloc (Obj.cells #[.bool d, .string p.1, .string p.2.1, .string p.2.2] 38)) (.string ⟨#[]⟩) (.string ⟨#[]⟩) (.string ⟨#[]⟩) (.slice none 0 0) 58; simpa using this, ((Below.refl _ _).alloc (Nat.le_refl _) _).alloc (by simp) _, by simp⟩)
  obtain ⟨W0, hW0⟩ : ∃ W, (w.alloc (Obj.cells #[.bool d, .string p.1, .string p.2.1, .string p.2.2] 38)).alloc (Obj.cells #[Value.string { data := #[] }, Value.string { data := #[] }, Value.string { data := #[] }, Value.slice none 0 0] 58) = W := ⟨_, rfl⟩
  rw [hW0] at HNB
  cases d
  · show Calls Try.prog 65 _ w fun e w' => (∃ g, e = .returned (.agg #[.string davT, .string setT, .string ⟨#[]⟩, .slice (some ⟨g, 0, none⟩) 1 1]) ∧ OwnK w' (some ⟨g, 0, none⟩) [prpN (false, p)] (Ivl w.heap.size w'.heap.size)) ∧ Below w.heap.size w w'
    go_enter Try.func65, Try.ntmps65
    go_wp2_with fail
    try rw [hW0]
    clear hW0
    refine wp_region_held_drew (S := (fun W => NB w (false, p) W)) (by kernel_rfl) (by exact HNB.out.below (below_drewP (Below.refl _ _))) (fun hHeld => ?_)
    simp only [List.size_toArray, List.length_cons, List.length_nil, Nat.reduceAdd, Array.replicate_succ, Array.replicate_zero, List.push_toArray, List.nil_append, List.cons_append]
    refine wpAnyH_take (i := 0) (v := ?_) rfl (by kernel_rfl) (by kernel_rfl) (by kernel_rfl) (fun _ _ _ h => h) (Or.inl ⟨by rfl, ?_⟩) (by assumption) ?_
    rotate_left
    · intro w hSw; (try dsimp only at hSw); obtain ⟨hs0, hs1, hs2, hs3⟩ := hSw.x; go_simp; try with_reducible rfl
    simp only [Act.put, List.getElem_toArray, List.getElem_cons_zero, List.setIfInBounds_toArray, List.set_cons_zero]
    refine wpAnyH_take (i := 1) (v := ?_) rfl (by kernel_rfl) (by kernel_rfl) (by kernel_rfl) (fun _ _ _ h => h) (Or.inl ⟨by rfl, ?_⟩) (by assumption) ?_
    rotate_left
    · intro w hSw; (try dsimp only at hSw); obtain ⟨hs0, hs1, hs2, hs3⟩ := hSw.x; go_simp; try with_reducible rfl
    simp only [Act.put, List.getElem_toArray, List.getElem_cons_succ, List.getElem_cons_zero, List.setIfInBounds_toArray, List.set_cons_succ, List.set_cons_zero]
    refine wpAnyH_take (i := 2) (v := ?_) rfl (by kernel_rfl) (by kernel_rfl) (by kernel_rfl) (fun _ _ _ h => h) (Or.inl ⟨by rfl, ?_⟩) (by assumption) ?_
    rotate_left
    · intro w hSw; (try dsimp only at hSw); obtain ⟨hs0, hs1, hs2, hs3⟩ := hSw.x; go_simp; try with_reducible rfl
    simp only [Act.put, List.getElem_toArray, List.getElem_cons_succ, List.getElem_cons_zero, List.setIfInBounds_toArray, List.set_cons_succ, List.set_cons_zero]
    refine wpAnyH_take (i := 4) (v := ?_) rfl (by kernel_rfl) (by kernel_rfl) (by kernel_rfl) (fun _ _ _ h => h) (Or.inl ⟨by rfl, ?_⟩) (by assumption) ?_
    rotate_left
    · intro w hSw; (try dsimp only at hSw); obtain ⟨hs0, hs1, hs2, hs3⟩ := hSw.x; go_simp; try with_reducible rfl
    simp only [Act.put, List.getElem_toArray, List.getElem_cons_succ, List.getElem_cons_zero, List.setIfInBounds_toArray, List.set_cons_succ, List.set_cons_zero]
    refine wpAnyH_take (i := 5) (v := ?_) rfl (by kernel_rfl) (by kernel_rfl) (by kernel_rfl) (fun _ _ _ h => h) (Or.inl ⟨by rfl, ?_⟩) (by assumption) ?_
    rotate_left
    · intro w hSw; (try dsimp only at hSw); obtain ⟨hs0, hs1, hs2, hs3⟩ := hSw.x; go_simp; try with_reducible rfl
    simp only [Act.put, List.getElem_toArray, List.getElem_cons_succ, List.getElem_cons_zero, List.setIfInBounds_toArray, List.set_cons_succ, List.set_cons_zero]
    refine wpAnyH_take (i := 6) (v := ?_) rfl (by kernel_rfl) (by kernel_rfl) (by kernel_rfl) (fun _ _ _ h => h) (Or.inl ⟨by rfl, ?_⟩) (by assumption) ?_
    rotate_left
    · intro w hSw; (try dsimp only at hSw); obtain ⟨hs0, hs1, hs2, hs3⟩ := hSw.x; go_simp; try with_reducible rfl
    simp only [Act.put, List.getElem_toArray, List.getElem_cons_succ, List.getElem_cons_zero, List.setIfInBounds_toArray, List.set_cons_succ, List.set_cons_zero]
    refine wpAnyH_ready (rs := [3, 9]) (by kernel_rfl) (by simp) ?_
    refine AllReadyH.cons rfl (fun K hK => ?_) (AllReadyH.cons rfl (fun K hK => ?_) AllReadyH.nil)
    · go_simp
      refine (clone_any p.1 _ hz.1).mono ?_
      rintro e w3 ⟨rfl, b3⟩
      refine hK.out _ _ (hHeld.below b3) (fun hHeld2 => ?_)
      clear hK K hHeld
      have hHeld := hHeld2
      clear hHeld2
      simp only [List.setIfInBounds_toArray, List.set_cons_succ, List.set_cons_zero]
      refine wpAnyH_ready (rs := [7, 9]) (by kernel_rfl) (by simp) ?_
      refine AllReadyH.cons rfl (fun K hK => ?_) (AllReadyH.cons rfl (fun K hK => ?_) AllReadyH.nil)
      · go_simp
        refine (clone_any p.2.1 _ hz.2.1).mono ?_
        rintro e w4 ⟨rfl, b4⟩
        refine hK.out _ _ (hHeld.below b4) (fun hHeld2 => ?_)
        clear hK K hHeld
        have hHeld := hHeld2
        clear hHeld2
        simp only [List.setIfInBounds_toArray, List.set_cons_succ, List.set_cons_zero]
        refine wpAnyH_take (i := 8) (v := ?_) rfl (by kernel_rfl) (by kernel_rfl) (by kernel_rfl) (fun _ _ _ h => h) (Or.inl ⟨by rfl, ?_⟩) (by assumption) ?_
        rotate_left
        · intro w hSw; (try dsimp only at hSw); obtain ⟨hs0, hs1, hs2, hs3⟩ := hSw.x; go_simp; try with_reducible rfl
        simp only [Act.put, List.getElem_toArray, List.getElem_cons_succ, List.getElem_cons_zero, List.setIfInBounds_toArray, List.set_cons_succ, List.set_cons_zero]
        refine wpAnyH_ready (rs := [9]) (by kernel_rfl) (by simp) ?_
        refine AllReadyH.cons rfl (fun K hK => ?_) AllReadyH.nil
        go_simp
        have BM104 : Bx (w4.alloc (Obj.cells #[Value.string { data := #[] }, Value.string { data := #[] }, Value.string { data := #[] }, Value.slice none 0 0] 58)) w4.heap.size (.string ⟨#[]⟩) (.string ⟨#[]⟩) (.string ⟨#[]⟩) (.slice none 0 0) := Bx.made w4 (.string ⟨#[]⟩) (.string ⟨#[]⟩) (.string ⟨#[]⟩) (.slice none 0 0) 58
        have hM0 : w.heap.size + 2 ≤ w4.heap.size := hHeld.sz
        have hPrev := hHeld
        refine hK.out _ _ (hHeld.alloc _) (fun hHeld2 => ?_)
        clear hK K hHeld
        have hHeld := hHeld2
        clear hHeld2
        simp only [List.setIfInBounds_toArray, List.set_cons_succ, List.set_cons_zero]
        refine wpAnyH_ready (rs := [10]) (by kernel_rfl) (by simp) ?_
        refine AllReadyH.cons rfl (fun K hK => ?_) AllReadyH.nil
        have BMZ : Bx (w4.alloc (Obj.cells #[.string p.1, .string p.2.1, .string ⟨#[]⟩, .slice none 0 0] 58)) w4.heap.size (.string p.1) (.string p.2.1) (.string ⟨#[]⟩) (.slice none 0 0) := Bx.made w4 _ _ _ _ 58
        go_simp
        refine hK.out _ _ (hPrev.alloc _) (fun hHeld2 => ?_)
        clear hPrev
        clear hK K hHeld
        have hHeld := hHeld2
        clear hHeld2
        simp only [List.setIfInBounds_toArray, List.set_cons_succ, List.set_cons_zero]
        refine wpAnyH_done (by kernel_rfl) ?_ _
        have hMM : w.heap.size + 2 ≤ w4.heap.size := hM0
        obtain ⟨MM, hMMe⟩ : ∃ M, w4.heap.size = M := ⟨_, rfl⟩
        obtain ⟨W5, hW5⟩ : ∃ W, (w4.alloc (Obj.cells #[.string p.1, .string p.2.1, .string ⟨#[]⟩, .slice none 0 0] 58)) = W := ⟨_, rfl⟩
        rw [hW5] at hHeld BMZ ⊢
        rw [hMMe] at hMM BMZ ⊢
        clear hW5 hMMe hM0
        have hnl := BMZ.lt
        obtain ⟨_, y2⟩ := And.intro trivial hHeld.x
        obtain ⟨x0, x1, x2, x3⟩ := hHeld.x
        obtain ⟨_, n0, n1, n2, n3, nz⟩ := BMZ
        go_wp2_with fail
        refine (clone_any p.2.2 _ hz.2.2).mono ?_
        rintro e w9 ⟨rfl, b9⟩
        have hH9 := hHeld.below b9
        have BM9 := (Bx.mk (w := W5) hnl n0 n1 n2 n3 nz).next b9 hnl
        have BMs := BM9.set2 (.string p.2.2)
        have hHs := hH9.setM (k := 2) (v := .string p.2.2) hMM
        obtain ⟨W6, hW6⟩ : ∃ W, w9.setCell ⟨MM, 2, none⟩ (.string p.2.2) = W := ⟨_, rfl⟩
        rw [hW6] at BMs hHs
        obtain ⟨_, n0, n1, n2, n3, nz⟩ := BMs
        obtain ⟨_, q0, q1, q2, q3, qz⟩ := BM9
        clear hHeld
        have hHeld := hHs
        clear hHs hH9
        have K1 := OwnK.made W6 (leafN (false, p)) none 0 58 (w.heap.size + 2) hHeld.sz (OwnK.nil none _)
        have B1 := hHeld.below ((Below.refl W6.heap.size W6).alloc (Nat.le_refl _) (Obj.cells #[.string p.1, .string p.2.1, .string p.2.2, .slice none 0 0] 58))
        have HD1 := hide (davNode_any prpT (some ⟨W6.heap.size, 0, none⟩) 1 1 (W6.alloc (Obj.cells #[.string p.1, .string p.2.1, .string p.2.2, .slice none 0 0] 58)))
        have HK1 := hide K1
        have HB1 := hide B1
        clear K1 B1
        go_wp2_with fail
        refine HD1.out.mono ?_
        rintro e w6 ⟨rfl, b6⟩
        have hH6 := HB1.out.below b6
        have K2 := OwnK.made w6 (prpN (false, p)) (some ⟨W6.heap.size, 0, none⟩) 1 58 (w.heap.size + 2) hH6.sz ((HK1.out.stays (C := W6.heap.size + 1) (b6.mono (by simp)) (fun x hx => hx.2)).wide (fun x hx => ⟨hx.1, by have := b6.size; simp at this; have := hx.2; omega⟩))
        have B2 := hH6.below ((Below.refl w6.heap.size w6).alloc (Nat.le_refl _) (Obj.cells #[.string davT, .string prpT, .string ⟨#[]⟩, .slice (some ⟨W6.heap.size, 0, none⟩) 1 1] 58))
        have HD2 := hide (davNode_any setT (some ⟨w6.heap.size, 0, none⟩) 1 1 (w6.alloc (Obj.cells #[.string davT, .string prpT, .string ⟨#[]⟩, .slice (some ⟨W6.heap.size, 0, none⟩) 1 1] 58)))
        have HK2 := hide K2
        have HB2 := hide B2
        clear K2 B2 HD1 hH6
        go_wp2_with fail
        refine HD2.out.mono ?_
        rintro e w7 ⟨rfl, b7⟩
        have hH7 := HB2.out.below b7
        obtain ⟨_, r0, r1, r2, r3, rz⟩ := hH7.r
        have HK3 := hide ((HK2.out.stays (C := w6.heap.size + 1) (b7.mono (by simp)) (fun x hx => hx.2)).wide (T := fun x => Ivl (w.heap.size + 2) w7.heap.size x) (fun x hx => ⟨hx.1, by have := b7.size; simp at this; have := hx.2; omega⟩))
        have HB7 := hide hH7.b
        clear HD2 HB2 hH7
        go_wp2
        refine bodyPost_ret (v := .agg #[.string davT, .string setT, .string ⟨#[]⟩, .slice (some ⟨w6.heap.size, 0, none⟩) 1 1]) (by simp [results, Try.results65, go_sem, r0, r1, r2, r3]) rfl ⟨⟨w6.heap.size, rfl, ?_⟩, ?_⟩
        · refine ((((HK3.out.setC _ ?_).setC _ ?_).setC _ ?_).setC _ ?_).wide (fun x hx => ⟨by have := hx.1; omega, by simpa using hx.2⟩)
          all_goals exact fun x hx e => by have := hx.1; omega
        · exact (((HB7.out.setCell (by simp) _).setCell (by simp) _).setCell (by simp) _).setCell (by simp) _
      · go_simp
        have BM103 : Bx (w3.alloc (Obj.cells #[Value.string { data := #[] }, Value.string { data := #[] }, Value.string { data := #[] }, Value.slice none 0 0] 58)) w3.heap.size (.string ⟨#[]⟩) (.string ⟨#[]⟩) (.string ⟨#[]⟩) (.slice none 0 0) := Bx.made w3 (.string ⟨#[]⟩) (.string ⟨#[]⟩) (.string ⟨#[]⟩) (.slice none 0 0) 58
        have hM0 : w.heap.size + 2 ≤ w3.heap.size := hHeld.sz
        have hPrev := hHeld
        refine hK.out _ _ (hHeld.alloc _) (fun hHeld2 => ?_)
        clear hK K hHeld
        have hHeld := hHeld2
        clear hHeld2
        simp only [List.setIfInBounds_toArray, List.set_cons_succ, List.set_cons_zero]
        refine wpAnyH_ready (rs := [7]) (by kernel_rfl) (by simp) ?_
        refine AllReadyH.cons rfl (fun K hK => ?_) AllReadyH.nil
        go_simp
        refine (clone_any p.2.1 _ hz.2.1).mono ?_
        rintro e w4 ⟨rfl, b4⟩
        have BM4 := BM103.next b4 BM103.lt
        refine hK.out _ _ (hHeld.below b4) (fun hHeld2 => ?_)
        clear hK K hHeld
        have hHeld := hHeld2
        clear hHeld2
        simp only [List.setIfInBounds_toArray, List.set_cons_succ, List.set_cons_zero]
        refine wpAnyH_take (i := 8) (v := ?_) rfl (by kernel_rfl) (by kernel_rfl) (by kernel_rfl) (fun _ _ _ h => h) (Or.inl ⟨by rfl, ?_⟩) (by assumption) ?_
        rotate_left
        · intro w hSw; (try dsimp only at hSw); obtain ⟨hs0, hs1, hs2, hs3⟩ := hSw.x; go_simp; try with_reducible rfl
        simp only [Act.put, List.getElem_toArray, List.getElem_cons_succ, List.getElem_cons_zero, List.setIfInBounds_toArray, List.set_cons_succ, List.set_cons_zero]
        refine wpAnyH_ready (rs := [10]) (by kernel_rfl) (by simp) ?_
        refine AllReadyH.cons rfl (fun K hK => ?_) AllReadyH.nil
        have BMZ := Bx.put4 BM4 (.string p.1) (.string p.2.1) (.string ⟨#[]⟩) (.slice none 0 0)
        obtain ⟨_, m0, m1, m2, m3, mz⟩ := BM4
        go_simp
        refine hK.out _ _ ((((hHeld.setM hM0).setM hM0).setM hM0).setM hM0) (fun hHeld2 => ?_)
        clear hK K hHeld
        have hHeld := hHeld2
        clear hHeld2
        simp only [List.setIfInBounds_toArray, List.set_cons_succ, List.set_cons_zero]
        refine wpAnyH_done (by kernel_rfl) ?_ _
        have hMM : w.heap.size + 2 ≤ w3.heap.size := hM0
        obtain ⟨MM, hMMe⟩ : ∃ M, w3.heap.size = M := ⟨_, rfl⟩
        obtain ⟨W5, hW5⟩ : ∃ W, ((((w4.setCell ⟨w3.heap.size, 0, none⟩ (.string p.1)).setCell ⟨w3.heap.size, 1, none⟩ (.string p.2.1)).setCell ⟨w3.heap.size, 2, none⟩ (.string ⟨#[]⟩)).setCell ⟨w3.heap.size, 3, none⟩ (.slice none 0 0)) = W := ⟨_, rfl⟩
        rw [hW5] at hHeld BMZ ⊢
        rw [hMMe] at hMM BMZ ⊢
        clear hW5 hMMe hM0
        have hnl := BMZ.lt
        obtain ⟨_, y2⟩ := And.intro trivial hHeld.x
        obtain ⟨x0, x1, x2, x3⟩ := hHeld.x
        obtain ⟨_, n0, n1, n2, n3, nz⟩ := BMZ
        go_wp2_with fail
        refine (clone_any p.2.2 _ hz.2.2).mono ?_
        rintro e w9 ⟨rfl, b9⟩
        have hH9 := hHeld.below b9
        have BM9 := (Bx.mk (w := W5) hnl n0 n1 n2 n3 nz).next b9 hnl
        have BMs := BM9.set2 (.string p.2.2)
        have hHs := hH9.setM (k := 2) (v := .string p.2.2) hMM
        obtain ⟨W6, hW6⟩ : ∃ W, w9.setCell ⟨MM, 2, none⟩ (.string p.2.2) = W := ⟨_, rfl⟩
        rw [hW6] at BMs hHs
        obtain ⟨_, n0, n1, n2, n3, nz⟩ := BMs
        obtain ⟨_, q0, q1, q2, q3, qz⟩ := BM9
        clear hHeld
        have hHeld := hHs
        clear hHs hH9
        have K1 := OwnK.made W6 (leafN (false, p)) none 0 58 (w.heap.size + 2) hHeld.sz (OwnK.nil none _)
        have B1 := hHeld.below ((Below.refl W6.heap.size W6).alloc (Nat.le_refl _) (Obj.cells #[.string p.1, .string p.2.1, .string p.2.2, .slice none 0 0] 58))
        have HD1 := hide (davNode_any prpT (some ⟨W6.heap.size, 0, none⟩) 1 1 (W6.alloc (Obj.cells #[.string p.1, .string p.2.1, .string p.2.2, .slice none 0 0] 58)))
        have HK1 := hide K1
        have HB1 := hide B1
        clear K1 B1
        go_wp2_with fail
        refine HD1.out.mono ?_
        rintro e w6 ⟨rfl, b6⟩
        have hH6 := HB1.out.below b6
        have K2 := OwnK.made w6 (prpN (false, p)) (some ⟨W6.heap.size, 0, none⟩) 1 58 (w.heap.size + 2) hH6.sz ((HK1.out.stays (C := W6.heap.size + 1) (b6.mono (by simp)) (fun x hx => hx.2)).wide (fun x hx => ⟨hx.1, by have := b6.size; simp at this; have := hx.2; omega⟩))
        have B2 := hH6.below ((Below.refl w6.heap.size w6).alloc (Nat.le_refl _) (Obj.cells #[.string davT, .string prpT, .string ⟨#[]⟩, .slice (some ⟨W6.heap.size, 0, none⟩) 1 1] 58))
        have HD2 := hide (davNode_any setT (some ⟨w6.heap.size, 0, none⟩) 1 1 (w6.alloc (Obj.cells #[.string davT, .string prpT, .string ⟨#[]⟩, .slice (some ⟨W6.heap.size, 0, none⟩) 1 1] 58)))
        have HK2 := hide K2
        have HB2 := hide B2
        clear K2 B2 HD1 hH6
        go_wp2_with fail
        refine HD2.out.mono ?_
        rintro e w7 ⟨rfl, b7⟩
        have hH7 := HB2.out.below b7
        obtain ⟨_, r0, r1, r2, r3, rz⟩ := hH7.r
        have HK3 := hide ((HK2.out.stays (C := w6.heap.size + 1) (b7.mono (by simp)) (fun x hx => hx.2)).wide (T := fun x => Ivl (w.heap.size + 2) w7.heap.size x) (fun x hx => ⟨hx.1, by have := b7.size; simp at this; have := hx.2; omega⟩))
        have HB7 := hide hH7.b
        clear HD2 HB2 hH7
        go_wp2
        refine bodyPost_ret (v := .agg #[.string davT, .string setT, .string ⟨#[]⟩, .slice (some ⟨w6.heap.size, 0, none⟩) 1 1]) (by simp [results, Try.results65, go_sem, r0, r1, r2, r3]) rfl ⟨⟨w6.heap.size, rfl, ?_⟩, ?_⟩
        · refine ((((HK3.out.setC _ ?_).setC _ ?_).setC _ ?_).setC _ ?_).wide (fun x hx => ⟨by have := hx.1; omega, by simpa using hx.2⟩)
          all_goals exact fun x hx e => by have := hx.1; omega
        · exact (((HB7.out.setCell (by simp) _).setCell (by simp) _).setCell (by simp) _).setCell (by simp) _
    · go_simp
      have BM102 : Bx (W0.drew.alloc (Obj.cells #[Value.string { data := #[] }, Value.string { data := #[] }, Value.string { data := #[] }, Value.slice none 0 0] 58)) W0.heap.size (.string ⟨#[]⟩) (.string ⟨#[]⟩) (.string ⟨#[]⟩) (.slice none 0 0) := Bx.made W0.drew (.string ⟨#[]⟩) (.string ⟨#[]⟩) (.string ⟨#[]⟩) (.slice none 0 0) 58
      have hM0 : w.heap.size + 2 ≤ W0.heap.size := hHeld.sz
      have hPrev := hHeld
      refine hK.out _ _ (hHeld.alloc _) (fun hHeld2 => ?_)
      clear hK K hHeld
      have hHeld := hHeld2
      clear hHeld2
      simp only [List.setIfInBounds_toArray, List.set_cons_succ, List.set_cons_zero]
      refine wpAnyH_ready (rs := [3]) (by kernel_rfl) (by simp) ?_
      refine AllReadyH.cons rfl (fun K hK => ?_) AllReadyH.nil
      go_simp
      refine (clone_any p.1 _ hz.1).mono ?_
      rintro e w3 ⟨rfl, b3⟩
      have BM3 := BM102.next b3 BM102.lt
      refine hK.out _ _ (hHeld.below b3) (fun hHeld2 => ?_)
      clear hK K hHeld
      have hHeld := hHeld2
      clear hHeld2
      simp only [List.setIfInBounds_toArray, List.set_cons_succ, List.set_cons_zero]
      refine wpAnyH_ready (rs := [7]) (by kernel_rfl) (by simp) ?_
      refine AllReadyH.cons rfl (fun K hK => ?_) AllReadyH.nil
      go_simp
      refine (clone_any p.2.1 _ hz.2.1).mono ?_
      rintro e w4 ⟨rfl, b4⟩
      have BM4 := BM3.next b4 BM3.lt
      refine hK.out _ _ (hHeld.below b4) (fun hHeld2 => ?_)
      clear hK K hHeld
      have hHeld := hHeld2
      clear hHeld2
      simp only [List.setIfInBounds_toArray, List.set_cons_succ, List.set_cons_zero]
      refine wpAnyH_take (i := 8) (v := ?_) rfl (by kernel_rfl) (by kernel_rfl) (by kernel_rfl) (fun _ _ _ h => h) (Or.inl ⟨by rfl, ?_⟩) (by assumption) ?_
      rotate_left
      · intro w hSw; (try dsimp only at hSw); obtain ⟨hs0, hs1, hs2, hs3⟩ := hSw.x; go_simp; try with_reducible rfl
      simp only [Act.put, List.getElem_toArray, List.getElem_cons_succ, List.getElem_cons_zero, List.setIfInBounds_toArray, List.set_cons_succ, List.set_cons_zero]
      refine wpAnyH_ready (rs := [10]) (by kernel_rfl) (by simp) ?_
      refine AllReadyH.cons rfl (fun K hK => ?_) AllReadyH.nil
      have BMZ := Bx.put4 BM4 (.string p.1) (.string p.2.1) (.string ⟨#[]⟩) (.slice none 0 0)
      obtain ⟨_, m0, m1, m2, m3, mz⟩ := BM4
      go_simp
      refine hK.out _ _ ((((hHeld.setM hM0).setM hM0).setM hM0).setM hM0) (fun hHeld2 => ?_)
      clear hK K hHeld
      have hHeld := hHeld2
      clear hHeld2
      simp only [List.setIfInBounds_toArray, List.set_cons_succ, List.set_cons_zero]
      refine wpAnyH_done (by kernel_rfl) ?_ _
      have hMM : w.heap.size + 2 ≤ W0.heap.size := hM0
      obtain ⟨MM, hMMe⟩ : ∃ M, W0.heap.size = M := ⟨_, rfl⟩
      obtain ⟨W5, hW5⟩ : ∃ W, ((((w4.setCell ⟨W0.heap.size, 0, none⟩ (.string p.1)).setCell ⟨W0.heap.size, 1, none⟩ (.string p.2.1)).setCell ⟨W0.heap.size, 2, none⟩ (.string ⟨#[]⟩)).setCell ⟨W0.heap.size, 3, none⟩ (.slice none 0 0)) = W := ⟨_, rfl⟩
      rw [hW5] at hHeld BMZ ⊢
      rw [hMMe] at hMM BMZ ⊢
      clear hW5 hMMe hM0
      have hnl := BMZ.lt
      obtain ⟨_, y2⟩ := And.intro trivial hHeld.x
      obtain ⟨x0, x1, x2, x3⟩ := hHeld.x
      obtain ⟨_, n0, n1, n2, n3, nz⟩ := BMZ
      go_wp2_with fail
      refine (clone_any p.2.2 _ hz.2.2).mono ?_
      rintro e w9 ⟨rfl, b9⟩
      have hH9 := hHeld.below b9
      have BM9 := (Bx.mk (w := W5) hnl n0 n1 n2 n3 nz).next b9 hnl
      have BMs := BM9.set2 (.string p.2.2)
      have hHs := hH9.setM (k := 2) (v := .string p.2.2) hMM
      obtain ⟨W6, hW6⟩ : ∃ W, w9.setCell ⟨MM, 2, none⟩ (.string p.2.2) = W := ⟨_, rfl⟩
      rw [hW6] at BMs hHs
      obtain ⟨_, n0, n1, n2, n3, nz⟩ := BMs
      obtain ⟨_, q0, q1, q2, q3, qz⟩ := BM9
      clear hHeld
      have hHeld := hHs
      clear hHs hH9
      have K1 := OwnK.made W6 (leafN (false, p)) none 0 58 (w.heap.size + 2) hHeld.sz (OwnK.nil none _)
      have B1 := hHeld.below ((Below.refl W6.heap.size W6).alloc (Nat.le_refl _) (Obj.cells #[.string p.1, .string p.2.1, .string p.2.2, .slice none 0 0] 58))
      have HD1 := hide (davNode_any prpT (some ⟨W6.heap.size, 0, none⟩) 1 1 (W6.alloc (Obj.cells #[.string p.1, .string p.2.1, .string p.2.2, .slice none 0 0] 58)))
      have HK1 := hide K1
      have HB1 := hide B1
      clear K1 B1
      go_wp2_with fail
      refine HD1.out.mono ?_
      rintro e w6 ⟨rfl, b6⟩
      have hH6 := HB1.out.below b6
      have K2 := OwnK.made w6 (prpN (false, p)) (some ⟨W6.heap.size, 0, none⟩) 1 58 (w.heap.size + 2) hH6.sz ((HK1.out.stays (C := W6.heap.size + 1) (b6.mono (by simp)) (fun x hx => hx.2)).wide (fun x hx => ⟨hx.1, by have := b6.size; simp at this; have := hx.2; omega⟩))
      have B2 := hH6.below ((Below.refl w6.heap.size w6).alloc (Nat.le_refl _) (Obj.cells #[.string davT, .string prpT, .string ⟨#[]⟩, .slice (some ⟨W6.heap.size, 0, none⟩) 1 1] 58))
      have HD2 := hide (davNode_any setT (some ⟨w6.heap.size, 0, none⟩) 1 1 (w6.alloc (Obj.cells #[.string davT, .string prpT, .string ⟨#[]⟩, .slice (some ⟨W6.heap.size, 0, none⟩) 1 1] 58)))
      have HK2 := hide K2
      have HB2 := hide B2
      clear K2 B2 HD1 hH6
      go_wp2_with fail
      refine HD2.out.mono ?_
      rintro e w7 ⟨rfl, b7⟩
      have hH7 := HB2.out.below b7
      obtain ⟨_, r0, r1, r2, r3, rz⟩ := hH7.r
      have HK3 := hide ((HK2.out.stays (C := w6.heap.size + 1) (b7.mono (by simp)) (fun x hx => hx.2)).wide (T := fun x => Ivl (w.heap.size + 2) w7.heap.size x) (fun x hx => ⟨hx.1, by have := b7.size; simp at this; have := hx.2; omega⟩))
      have HB7 := hide hH7.b
      clear HD2 HB2 hH7
      go_wp2
      refine bodyPost_ret (v := .agg #[.string davT, .string setT, .string ⟨#[]⟩, .slice (some ⟨w6.heap.size, 0, none⟩) 1 1]) (by simp [results, Try.results65, go_sem, r0, r1, r2, r3]) rfl ⟨⟨w6.heap.size, rfl, ?_⟩, ?_⟩
      · refine ((((HK3.out.setC _ ?_).setC _ ?_).setC _ ?_).setC _ ?_).wide (fun x hx => ⟨by have := hx.1; omega, by simpa using hx.2⟩)
        all_goals exact fun x hx e => by have := hx.1; omega
      · exact (((HB7.out.setCell (by simp) _).setCell (by simp) _).setCell (by simp) _).setCell (by simp) _
  · show Calls Try.prog 65 _ w fun e w' => (∃ g, e = .returned (.agg #[.string davT, .string remT, .string ⟨#[]⟩, .slice (some ⟨g, 0, none⟩) 1 1]) ∧ OwnK w' (some ⟨g, 0, none⟩) [prpN (true, p)] (Ivl w.heap.size w'.heap.size)) ∧ Below w.heap.size w w'
    go_enter Try.func65, Try.ntmps65
    go_wp2_with fail
    try rw [hW0]
    clear hW0
    refine wp_region_held_drew (S := (fun W => NB w (true, p) W)) (by kernel_rfl) (by exact HNB.out.below (below_drewP (Below.refl _ _))) (fun hHeld => ?_)
    simp only [List.size_toArray, List.length_cons, List.length_nil, Nat.reduceAdd, Array.replicate_succ, Array.replicate_zero, List.push_toArray, List.nil_append, List.cons_append]
    refine wpAnyH_take (i := 0) (v := ?_) rfl (by kernel_rfl) (by kernel_rfl) (by kernel_rfl) (fun _ _ _ h => h) (Or.inl ⟨by rfl, ?_⟩) (by assumption) ?_
    rotate_left
    · intro w hSw; (try dsimp only at hSw); obtain ⟨hs0, hs1, hs2, hs3⟩ := hSw.x; go_simp; try with_reducible rfl
    simp only [Act.put, List.getElem_toArray, List.getElem_cons_zero, List.setIfInBounds_toArray, List.set_cons_zero]
    refine wpAnyH_take (i := 1) (v := ?_) rfl (by kernel_rfl) (by kernel_rfl) (by kernel_rfl) (fun _ _ _ h => h) (Or.inl ⟨by rfl, ?_⟩) (by assumption) ?_
    rotate_left
    · intro w hSw; (try dsimp only at hSw); obtain ⟨hs0, hs1, hs2, hs3⟩ := hSw.x; go_simp; try with_reducible rfl
    simp only [Act.put, List.getElem_toArray, List.getElem_cons_succ, List.getElem_cons_zero, List.setIfInBounds_toArray, List.set_cons_succ, List.set_cons_zero]
    refine wpAnyH_take (i := 2) (v := ?_) rfl (by kernel_rfl) (by kernel_rfl) (by kernel_rfl) (fun _ _ _ h => h) (Or.inl ⟨by rfl, ?_⟩) (by assumption) ?_
    rotate_left
    · intro w hSw; (try dsimp only at hSw); obtain ⟨hs0, hs1, hs2, hs3⟩ := hSw.x; go_simp; try with_reducible rfl
    simp only [Act.put, List.getElem_toArray, List.getElem_cons_succ, List.getElem_cons_zero, List.setIfInBounds_toArray, List.set_cons_succ, List.set_cons_zero]
    refine wpAnyH_take (i := 4) (v := ?_) rfl (by kernel_rfl) (by kernel_rfl) (by kernel_rfl) (fun _ _ _ h => h) (Or.inl ⟨by rfl, ?_⟩) (by assumption) ?_
    rotate_left
    · intro w hSw; (try dsimp only at hSw); obtain ⟨hs0, hs1, hs2, hs3⟩ := hSw.x; go_simp; try with_reducible rfl
    simp only [Act.put, List.getElem_toArray, List.getElem_cons_succ, List.getElem_cons_zero, List.setIfInBounds_toArray, List.set_cons_succ, List.set_cons_zero]
    refine wpAnyH_take (i := 5) (v := ?_) rfl (by kernel_rfl) (by kernel_rfl) (by kernel_rfl) (fun _ _ _ h => h) (Or.inl ⟨by rfl, ?_⟩) (by assumption) ?_
    rotate_left
    · intro w hSw; (try dsimp only at hSw); obtain ⟨hs0, hs1, hs2, hs3⟩ := hSw.x; go_simp; try with_reducible rfl
    simp only [Act.put, List.getElem_toArray, List.getElem_cons_succ, List.getElem_cons_zero, List.setIfInBounds_toArray, List.set_cons_succ, List.set_cons_zero]
    refine wpAnyH_take (i := 6) (v := ?_) rfl (by kernel_rfl) (by kernel_rfl) (by kernel_rfl) (fun _ _ _ h => h) (Or.inl ⟨by rfl, ?_⟩) (by assumption) ?_
    rotate_left
    · intro w hSw; (try dsimp only at hSw); obtain ⟨hs0, hs1, hs2, hs3⟩ := hSw.x; go_simp; try with_reducible rfl
    simp only [Act.put, List.getElem_toArray, List.getElem_cons_succ, List.getElem_cons_zero, List.setIfInBounds_toArray, List.set_cons_succ, List.set_cons_zero]
    refine wpAnyH_ready (rs := [3, 9]) (by kernel_rfl) (by simp) ?_
    refine AllReadyH.cons rfl (fun K hK => ?_) (AllReadyH.cons rfl (fun K hK => ?_) AllReadyH.nil)
    · go_simp
      refine (clone_any p.1 _ hz.1).mono ?_
      rintro e w3 ⟨rfl, b3⟩
      refine hK.out _ _ (hHeld.below b3) (fun hHeld2 => ?_)
      clear hK K hHeld
      have hHeld := hHeld2
      clear hHeld2
      simp only [List.setIfInBounds_toArray, List.set_cons_succ, List.set_cons_zero]
      refine wpAnyH_ready (rs := [7, 9]) (by kernel_rfl) (by simp) ?_
      refine AllReadyH.cons rfl (fun K hK => ?_) (AllReadyH.cons rfl (fun K hK => ?_) AllReadyH.nil)
      · go_simp
        refine (clone_any p.2.1 _ hz.2.1).mono ?_
        rintro e w4 ⟨rfl, b4⟩
        refine hK.out _ _ (hHeld.below b4) (fun hHeld2 => ?_)
        clear hK K hHeld
        have hHeld := hHeld2
        clear hHeld2
        simp only [List.setIfInBounds_toArray, List.set_cons_succ, List.set_cons_zero]
        refine wpAnyH_take (i := 8) (v := ?_) rfl (by kernel_rfl) (by kernel_rfl) (by kernel_rfl) (fun _ _ _ h => h) (Or.inl ⟨by rfl, ?_⟩) (by assumption) ?_
        rotate_left
        · intro w hSw; (try dsimp only at hSw); obtain ⟨hs0, hs1, hs2, hs3⟩ := hSw.x; go_simp; try with_reducible rfl
        simp only [Act.put, List.getElem_toArray, List.getElem_cons_succ, List.getElem_cons_zero, List.setIfInBounds_toArray, List.set_cons_succ, List.set_cons_zero]
        refine wpAnyH_ready (rs := [9]) (by kernel_rfl) (by simp) ?_
        refine AllReadyH.cons rfl (fun K hK => ?_) AllReadyH.nil
        go_simp
        have BM104 : Bx (w4.alloc (Obj.cells #[Value.string { data := #[] }, Value.string { data := #[] }, Value.string { data := #[] }, Value.slice none 0 0] 58)) w4.heap.size (.string ⟨#[]⟩) (.string ⟨#[]⟩) (.string ⟨#[]⟩) (.slice none 0 0) := Bx.made w4 (.string ⟨#[]⟩) (.string ⟨#[]⟩) (.string ⟨#[]⟩) (.slice none 0 0) 58
        have hM0 : w.heap.size + 2 ≤ w4.heap.size := hHeld.sz
        have hPrev := hHeld
        refine hK.out _ _ (hHeld.alloc _) (fun hHeld2 => ?_)
        clear hK K hHeld
        have hHeld := hHeld2
        clear hHeld2
        simp only [List.setIfInBounds_toArray, List.set_cons_succ, List.set_cons_zero]
        refine wpAnyH_ready (rs := [10]) (by kernel_rfl) (by simp) ?_
        refine AllReadyH.cons rfl (fun K hK => ?_) AllReadyH.nil
        have BMZ : Bx (w4.alloc (Obj.cells #[.string p.1, .string p.2.1, .string ⟨#[]⟩, .slice none 0 0] 58)) w4.heap.size (.string p.1) (.string p.2.1) (.string ⟨#[]⟩) (.slice none 0 0) := Bx.made w4 _ _ _ _ 58
        go_simp
        refine hK.out _ _ (hPrev.alloc _) (fun hHeld2 => ?_)
        clear hPrev
        clear hK K hHeld
        have hHeld := hHeld2
        clear hHeld2
        simp only [List.setIfInBounds_toArray, List.set_cons_succ, List.set_cons_zero]
        refine wpAnyH_done (by kernel_rfl) ?_ _
        have hMM : w.heap.size + 2 ≤ w4.heap.size := hM0
        obtain ⟨MM, hMMe⟩ : ∃ M, w4.heap.size = M := ⟨_, rfl⟩
        obtain ⟨W5, hW5⟩ : ∃ W, (w4.alloc (Obj.cells #[.string p.1, .string p.2.1, .string ⟨#[]⟩, .slice none 0 0] 58)) = W := ⟨_, rfl⟩
        rw [hW5] at hHeld BMZ ⊢
        rw [hMMe] at hMM BMZ ⊢
        clear hW5 hMMe hM0
        have hnl := BMZ.lt
        obtain ⟨x0, x1, x2, x3⟩ := hHeld.x
        obtain ⟨_, n0, n1, n2, n3, nz⟩ := BMZ
        have K1 := OwnK.made W5 (leafN (true, p)) none 0 58 (w.heap.size + 2) hHeld.sz (OwnK.nil none _)
        have B1 := hHeld.below ((Below.refl W5.heap.size W5).alloc (Nat.le_refl _) (Obj.cells #[.string p.1, .string p.2.1, .string ⟨#[]⟩, .slice none 0 0] 58))
        have HD1 := hide (davNode_any prpT (some ⟨W5.heap.size, 0, none⟩) 1 1 (W5.alloc (Obj.cells #[.string p.1, .string p.2.1, .string ⟨#[]⟩, .slice none 0 0] 58)))
        have HK1 := hide K1
        have HB1 := hide B1
        clear K1 B1
        go_wp2_with fail
        refine HD1.out.mono ?_
        rintro e w6 ⟨rfl, b6⟩
        have hH6 := HB1.out.below b6
        have K2 := OwnK.made w6 (prpN (true, p)) (some ⟨W5.heap.size, 0, none⟩) 1 58 (w.heap.size + 2) hH6.sz ((HK1.out.stays (C := W5.heap.size + 1) (b6.mono (by simp)) (fun x hx => hx.2)).wide (fun x hx => ⟨hx.1, by have := b6.size; simp at this; have := hx.2; omega⟩))
        have B2 := hH6.below ((Below.refl w6.heap.size w6).alloc (Nat.le_refl _) (Obj.cells #[.string davT, .string prpT, .string ⟨#[]⟩, .slice (some ⟨W5.heap.size, 0, none⟩) 1 1] 58))
        have HD2 := hide (davNode_any remT (some ⟨w6.heap.size, 0, none⟩) 1 1 (w6.alloc (Obj.cells #[.string davT, .string prpT, .string ⟨#[]⟩, .slice (some ⟨W5.heap.size, 0, none⟩) 1 1] 58)))
        have HK2 := hide K2
        have HB2 := hide B2
        clear K2 B2 HD1 hH6
        go_wp2_with fail
        refine HD2.out.mono ?_
        rintro e w7 ⟨rfl, b7⟩
        have hH7 := HB2.out.below b7
        obtain ⟨_, r0, r1, r2, r3, rz⟩ := hH7.r
        have HK3 := hide ((HK2.out.stays (C := w6.heap.size + 1) (b7.mono (by simp)) (fun x hx => hx.2)).wide (T := fun x => Ivl (w.heap.size + 2) w7.heap.size x) (fun x hx => ⟨hx.1, by have := b7.size; simp at this; have := hx.2; omega⟩))
        have HB7 := hide hH7.b
        clear HD2 HB2 hH7
        go_wp2
        refine bodyPost_ret (v := .agg #[.string davT, .string remT, .string ⟨#[]⟩, .slice (some ⟨w6.heap.size, 0, none⟩) 1 1]) (by simp [results, Try.results65, go_sem, r0, r1, r2, r3]) rfl ⟨⟨w6.heap.size, rfl, ?_⟩, ?_⟩
        · refine ((((HK3.out.setC _ ?_).setC _ ?_).setC _ ?_).setC _ ?_).wide (fun x hx => ⟨by have := hx.1; omega, by simpa using hx.2⟩)
          all_goals exact fun x hx e => by have := hx.1; omega
        · exact (((HB7.out.setCell (by simp) _).setCell (by simp) _).setCell (by simp) _).setCell (by simp) _
      · go_simp
        have BM103 : Bx (w3.alloc (Obj.cells #[Value.string { data := #[] }, Value.string { data := #[] }, Value.string { data := #[] }, Value.slice none 0 0] 58)) w3.heap.size (.string ⟨#[]⟩) (.string ⟨#[]⟩) (.string ⟨#[]⟩) (.slice none 0 0) := Bx.made w3 (.string ⟨#[]⟩) (.string ⟨#[]⟩) (.string ⟨#[]⟩) (.slice none 0 0) 58
        have hM0 : w.heap.size + 2 ≤ w3.heap.size := hHeld.sz
        have hPrev := hHeld
        refine hK.out _ _ (hHeld.alloc _) (fun hHeld2 => ?_)
        clear hK K hHeld
        have hHeld := hHeld2
        clear hHeld2
        simp only [List.setIfInBounds_toArray, List.set_cons_succ, List.set_cons_zero]
        refine wpAnyH_ready (rs := [7]) (by kernel_rfl) (by simp) ?_
        refine AllReadyH.cons rfl (fun K hK => ?_) AllReadyH.nil
        go_simp
        refine (clone_any p.2.1 _ hz.2.1).mono ?_
        rintro e w4 ⟨rfl, b4⟩
        have BM4 := BM103.next b4 BM103.lt
        refine hK.out _ _ (hHeld.below b4) (fun hHeld2 => ?_)
        clear hK K hHeld
        have hHeld := hHeld2
        clear hHeld2
        simp only [List.setIfInBounds_toArray, List.set_cons_succ, List.set_cons_zero]
        refine wpAnyH_take (i := 8) (v := ?_) rfl (by kernel_rfl) (by kernel_rfl) (by kernel_rfl) (fun _ _ _ h => h) (Or.inl ⟨by rfl, ?_⟩) (by assumption) ?_
        rotate_left
        · intro w hSw; (try dsimp only at hSw); obtain ⟨hs0, hs1, hs2, hs3⟩ := hSw.x; go_simp; try with_reducible rfl
        simp only [Act.put, List.getElem_toArray, List.getElem_cons_succ, List.getElem_cons_zero, List.setIfInBounds_toArray, List.set_cons_succ, List.set_cons_zero]
        refine wpAnyH_ready (rs := [10]) (by kernel_rfl) (by simp) ?_
        refine AllReadyH.cons rfl (fun K hK => ?_) AllReadyH.nil
        have BMZ := Bx.put4 BM4 (.string p.1) (.string p.2.1) (.string ⟨#[]⟩) (.slice none 0 0)
        obtain ⟨_, m0, m1, m2, m3, mz⟩ := BM4
        go_simp
        refine hK.out _ _ ((((hHeld.setM hM0).setM hM0).setM hM0).setM hM0) (fun hHeld2 => ?_)
        clear hK K hHeld
        have hHeld := hHeld2
        clear hHeld2
        simp only [List.setIfInBounds_toArray, List.set_cons_succ, List.set_cons_zero]
        refine wpAnyH_done (by kernel_rfl) ?_ _
        have hMM : w.heap.size + 2 ≤ w3.heap.size := hM0
        obtain ⟨MM, hMMe⟩ : ∃ M, w3.heap.size = M := ⟨_, rfl⟩
        obtain ⟨W5, hW5⟩ : ∃ W, ((((w4.setCell ⟨w3.heap.size, 0, none⟩ (.string p.1)).setCell ⟨w3.heap.size, 1, none⟩ (.string p.2.1)).setCell ⟨w3.heap.size, 2, none⟩ (.string ⟨#[]⟩)).setCell ⟨w3.heap.size, 3, none⟩ (.slice none 0 0)) = W := ⟨_, rfl⟩
        rw [hW5] at hHeld BMZ ⊢
        rw [hMMe] at hMM BMZ ⊢
        clear hW5 hMMe hM0
        have hnl := BMZ.lt
        obtain ⟨x0, x1, x2, x3⟩ := hHeld.x
        obtain ⟨_, n0, n1, n2, n3, nz⟩ := BMZ
        have K1 := OwnK.made W5 (leafN (true, p)) none 0 58 (w.heap.size + 2) hHeld.sz (OwnK.nil none _)
        have B1 := hHeld.below ((Below.refl W5.heap.size W5).alloc (Nat.le_refl _) (Obj.cells #[.string p.1, .string p.2.1, .string ⟨#[]⟩, .slice none 0 0] 58))
        have HD1 := hide (davNode_any prpT (some ⟨W5.heap.size, 0, none⟩) 1 1 (W5.alloc (Obj.cells #[.string p.1, .string p.2.1, .string ⟨#[]⟩, .slice none 0 0] 58)))
        have HK1 := hide K1
        have HB1 := hide B1
        clear K1 B1
        go_wp2_with fail
        refine HD1.out.mono ?_
        rintro e w6 ⟨rfl, b6⟩
        have hH6 := HB1.out.below b6
        have K2 := OwnK.made w6 (prpN (true, p)) (some ⟨W5.heap.size, 0, none⟩) 1 58 (w.heap.size + 2) hH6.sz ((HK1.out.stays (C := W5.heap.size + 1) (b6.mono (by simp)) (fun x hx => hx.2)).wide (fun x hx => ⟨hx.1, by have := b6.size; simp at this; have := hx.2; omega⟩))
        have B2 := hH6.below ((Below.refl w6.heap.size w6).alloc (Nat.le_refl _) (Obj.cells #[.string davT, .string prpT, .string ⟨#[]⟩, .slice (some ⟨W5.heap.size, 0, none⟩) 1 1] 58))
        have HD2 := hide (davNode_any remT (some ⟨w6.heap.size, 0, none⟩) 1 1 (w6.alloc (Obj.cells #[.string davT, .string prpT, .string ⟨#[]⟩, .slice (some ⟨W5.heap.size, 0, none⟩) 1 1] 58)))
        have HK2 := hide K2
        have HB2 := hide B2
        clear K2 B2 HD1 hH6
        go_wp2_with fail
        refine HD2.out.mono ?_
        rintro e w7 ⟨rfl, b7⟩
        have hH7 := HB2.out.below b7
        obtain ⟨_, r0, r1, r2, r3, rz⟩ := hH7.r
        have HK3 := hide ((HK2.out.stays (C := w6.heap.size + 1) (b7.mono (by simp)) (fun x hx => hx.2)).wide (T := fun x => Ivl (w.heap.size + 2) w7.heap.size x) (fun x hx => ⟨hx.1, by have := b7.size; simp at this; have := hx.2; omega⟩))
        have HB7 := hide hH7.b
        clear HD2 HB2 hH7
        go_wp2
        refine bodyPost_ret (v := .agg #[.string davT, .string remT, .string ⟨#[]⟩, .slice (some ⟨w6.heap.size, 0, none⟩) 1 1]) (by simp [results, Try.results65, go_sem, r0, r1, r2, r3]) rfl ⟨⟨w6.heap.size, rfl, ?_⟩, ?_⟩
        · refine ((((HK3.out.setC _ ?_).setC _ ?_).setC _ ?_).setC _ ?_).wide (fun x hx => ⟨by have := hx.1; omega, by simpa using hx.2⟩)
          all_goals exact fun x hx e => by have := hx.1; omega
        · exact (((HB7.out.setCell (by simp) _).setCell (by simp) _).setCell (by simp) _).setCell (by simp) _
    · go_simp
      have BM102 : Bx (W0.drew.alloc (Obj.cells #[Value.string { data := #[] }, Value.string { data := #[] }, Value.string { data := #[] }, Value.slice none 0 0] 58)) W0.heap.size (.string ⟨#[]⟩) (.string ⟨#[]⟩) (.string ⟨#[]⟩) (.slice none 0 0) := Bx.made W0.drew (.string ⟨#[]⟩) (.string ⟨#[]⟩) (.string ⟨#[]⟩) (.slice none 0 0) 58
      have hM0 : w.heap.size + 2 ≤ W0.heap.size := hHeld.sz
      have hPrev := hHeld
      refine hK.out _ _ (hHeld.alloc _) (fun hHeld2 => ?_)
      clear hK K hHeld
      have hHeld := hHeld2
      clear hHeld2
      simp only [List.setIfInBounds_toArray, List.set_cons_succ, List.set_cons_zero]
      refine wpAnyH_ready (rs := [3]) (by kernel_rfl) (by simp) ?_
      refine AllReadyH.cons rfl (fun K hK => ?_) AllReadyH.nil
      go_simp
      refine (clone_any p.1 _ hz.1).mono ?_
      rintro e w3 ⟨rfl, b3⟩
      have BM3 := BM102.next b3 BM102.lt
      refine hK.out _ _ (hHeld.below b3) (fun hHeld2 => ?_)
      clear hK K hHeld
      have hHeld := hHeld2
      clear hHeld2
      simp only [List.setIfInBounds_toArray, List.set_cons_succ, List.set_cons_zero]
      refine wpAnyH_ready (rs := [7]) (by kernel_rfl) (by simp) ?_
      refine AllReadyH.cons rfl (fun K hK => ?_) AllReadyH.nil
      go_simp
      refine (clone_any p.2.1 _ hz.2.1).mono ?_
      rintro e w4 ⟨rfl, b4⟩
      have BM4 := BM3.next b4 BM3.lt
      refine hK.out _ _ (hHeld.below b4) (fun hHeld2 => ?_)
      clear hK K hHeld
      have hHeld := hHeld2
      clear hHeld2
      simp only [List.setIfInBounds_toArray, List.set_cons_succ, List.set_cons_zero]
      refine wpAnyH_take (i := 8) (v := ?_) rfl (by kernel_rfl) (by kernel_rfl) (by kernel_rfl) (fun _ _ _ h => h) (Or.inl ⟨by rfl, ?_⟩) (by assumption) ?_
      rotate_left
      · intro w hSw; (try dsimp only at hSw); obtain ⟨hs0, hs1, hs2, hs3⟩ := hSw.x; go_simp; try with_reducible rfl
      simp only [Act.put, List.getElem_toArray, List.getElem_cons_succ, List.getElem_cons_zero, List.setIfInBounds_toArray, List.set_cons_succ, List.set_cons_zero]
      refine wpAnyH_ready (rs := [10]) (by kernel_rfl) (by simp) ?_
      refine AllReadyH.cons rfl (fun K hK => ?_) AllReadyH.nil
      have BMZ := Bx.put4 BM4 (.string p.1) (.string p.2.1) (.string ⟨#[]⟩) (.slice none 0 0)
      obtain ⟨_, m0, m1, m2, m3, mz⟩ := BM4
      go_simp
      refine hK.out _ _ ((((hHeld.setM hM0).setM hM0).setM hM0).setM hM0) (fun hHeld2 => ?_)
      clear hK K hHeld
      have hHeld := hHeld2
      clear hHeld2
      simp only [List.setIfInBounds_toArray, List.set_cons_succ, List.set_cons_zero]
      refine wpAnyH_done (by kernel_rfl) ?_ _
      have hMM : w.heap.size + 2 ≤ W0.heap.size := hM0
      obtain ⟨MM, hMMe⟩ : ∃ M, W0.heap.size = M := ⟨_, rfl⟩
      obtain ⟨W5, hW5⟩ : ∃ W, ((((w4.setCell ⟨W0.heap.size, 0, none⟩ (.string p.1)).setCell ⟨W0.heap.size, 1, none⟩ (.string p.2.1)).setCell ⟨W0.heap.size, 2, none⟩ (.string ⟨#[]⟩)).setCell ⟨W0.heap.size, 3, none⟩ (.slice none 0 0)) = W := ⟨_, rfl⟩
      rw [hW5] at hHeld BMZ ⊢
      rw [hMMe] at hMM BMZ ⊢
      clear hW5 hMMe hM0
      have hnl := BMZ.lt
      obtain ⟨x0, x1, x2, x3⟩ := hHeld.x
      obtain ⟨_, n0, n1, n2, n3, nz⟩ := BMZ
      have K1 := OwnK.made W5 (leafN (true, p)) none 0 58 (w.heap.size + 2) hHeld.sz (OwnK.nil none _)
      have B1 := hHeld.below ((Below.refl W5.heap.size W5).alloc (Nat.le_refl _) (Obj.cells #[.string p.1, .string p.2.1, .string ⟨#[]⟩, .slice none 0 0] 58))
      have HD1 := hide (davNode_any prpT (some ⟨W5.heap.size, 0, none⟩) 1 1 (W5.alloc (Obj.cells #[.string p.1, .string p.2.1, .string ⟨#[]⟩, .slice none 0 0] 58)))
      have HK1 := hide K1
      have HB1 := hide B1
      clear K1 B1
      go_wp2_with fail
      refine HD1.out.mono ?_
      rintro e w6 ⟨rfl, b6⟩
      have hH6 := HB1.out.below b6
      have K2 := OwnK.made w6 (prpN (true, p)) (some ⟨W5.heap.size, 0, none⟩) 1 58 (w.heap.size + 2) hH6.sz ((HK1.out.stays (C := W5.heap.size + 1) (b6.mono (by simp)) (fun x hx => hx.2)).wide (fun x hx => ⟨hx.1, by have := b6.size; simp at this; have := hx.2; omega⟩))
      have B2 := hH6.below ((Below.refl w6.heap.size w6).alloc (Nat.le_refl _) (Obj.cells #[.string davT, .string prpT, .string ⟨#[]⟩, .slice (some ⟨W5.heap.size, 0, none⟩) 1 1] 58))
      have HD2 := hide (davNode_any remT (some ⟨w6.heap.size, 0, none⟩) 1 1 (w6.alloc (Obj.cells #[.string davT, .string prpT, .string ⟨#[]⟩, .slice (some ⟨W5.heap.size, 0, none⟩) 1 1] 58)))
      have HK2 := hide K2
      have HB2 := hide B2
      clear K2 B2 HD1 hH6
      go_wp2_with fail
      refine HD2.out.mono ?_
      rintro e w7 ⟨rfl, b7⟩
      have hH7 := HB2.out.below b7
      obtain ⟨_, r0, r1, r2, r3, rz⟩ := hH7.r
      have HK3 := hide ((HK2.out.stays (C := w6.heap.size + 1) (b7.mono (by simp)) (fun x hx => hx.2)).wide (T := fun x => Ivl (w.heap.size + 2) w7.heap.size x) (fun x hx => ⟨hx.1, by have := b7.size; simp at this; have := hx.2; omega⟩))
      have HB7 := hide hH7.b
      clear HD2 HB2 hH7
      go_wp2
      refine bodyPost_ret (v := .agg #[.string davT, .string remT, .string ⟨#[]⟩, .slice (some ⟨w6.heap.size, 0, none⟩) 1 1]) (by simp [results, Try.results65, go_sem, r0, r1, r2, r3]) rfl ⟨⟨w6.heap.size, rfl, ?_⟩, ?_⟩
      · refine ((((HK3.out.setC _ ?_).setC _ ?_).setC _ ?_).setC _ ?_).wide (fun x hx => ⟨by have := hx.1; omega, by simpa using hx.2⟩)
        all_goals exact fun x hx e => by have := hx.1; omega
      · exact (((HB7.out.setCell (by simp) _).setCell (by simp) _).setCell (by simp) _).setCell (by simp) _
end Go.Proofs.Ytkgdmlfdlkmojaa
