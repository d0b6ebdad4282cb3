/-
  What impl.copyRes does.
-/
import Derived.Test.YtkgdmlfdlkmojaaGreatQuote
import Derived.Test.YtkgdmlfdlkmojaaGreatMathFind
import Derived.Test.YtkgdmlfdlkmojaaGreatCopyProps
import Derived.Deep.RegionHeld3
namespace Go.Proofs.YtkgdmlfdlkmojaaGreat
open Go.RowKit M
set_option linter.unusedVariables false

theorem keep5B {W w1 : World} {N : Nat} {x y z u v : Value} (hb : Below W.heap.size W w1) (h : W.cell? ⟨N, 0, none⟩ = some x ∧ W.cell? ⟨N, 1, none⟩ = some y ∧ W.cell? ⟨N, 2, none⟩ = some z ∧ W.cell? ⟨N, 3, none⟩ = some u ∧ W.cell? ⟨N, 4, none⟩ = some v) : w1.cell? ⟨N, 0, none⟩ = some x ∧ w1.cell? ⟨N, 1, none⟩ = some y ∧ w1.cell? ⟨N, 2, none⟩ = some z ∧ w1.cell? ⟨N, 3, none⟩ = some u ∧ w1.cell? ⟨N, 4, none⟩ = some v := by
  have hN : N < W.heap.size := World.block_lt_of_cell? W _ h.1
  simp only [(bcellP hb).1 N _ hN]
  exact h
/-- Five stores into a block. -/
def set5 (W : World) (g : Nat) (v0 v1 v2 v3 v4 : Value) : World := ((((W.setCell ⟨g, 0, none⟩ v0).setCell ⟨g, 1, none⟩ v1).setCell ⟨g, 2, none⟩ v2).setCell ⟨g, 3, none⟩ v3).setCell ⟨g, 4, none⟩ v4
theorem keep5S {W : World} {N g : Nat} {x y z u v : Value} (h : W.cell? ⟨N, 0, none⟩ = some x ∧ W.cell? ⟨N, 1, none⟩ = some y ∧ W.cell? ⟨N, 2, none⟩ = some z ∧ W.cell? ⟨N, 3, none⟩ = some u ∧ W.cell? ⟨N, 4, none⟩ = some v) (hne : g ≠ N) (v0 v1 v2 v3 v4 : Value) : (set5 W g v0 v1 v2 v3 v4).cell? ⟨N, 0, none⟩ = some x ∧ (set5 W g v0 v1 v2 v3 v4).cell? ⟨N, 1, none⟩ = some y ∧ (set5 W g v0 v1 v2 v3 v4).cell? ⟨N, 2, none⟩ = some z ∧ (set5 W g v0 v1 v2 v3 v4).cell? ⟨N, 3, none⟩ = some u ∧ (set5 W g v0 v1 v2 v3 v4).cell? ⟨N, 4, none⟩ = some v := by
  have e : ∀ (W : World) (o p : Nat) (v : Value), (W.setCell ⟨g, p, none⟩ v).cell? ⟨N, o, none⟩ = W.cell? ⟨N, o, none⟩ := fun W o p v => World.cell?_setCell_other _ _ _ _ (fun e => hne (congrArg Addr.block e))
  simp only [set5, e]
  exact h

/-- The cells of a block that was just made. -/
theorem fresh5 (W0 W : World) (n : Nat) (v0 v1 v2 v3 v4 : Value) (T : TypeId) (hn : n = W0.heap.size) (hb : Below (W0.alloc (Obj.cells #[v0, v1, v2, v3, v4] T)).drew.heap.size (W0.alloc (Obj.cells #[v0, v1, v2, v3, v4] T)).drew W) : W.cell? ⟨n, 0, none⟩ = some v0 ∧ W.cell? ⟨n, 1, none⟩ = some v1 ∧ W.cell? ⟨n, 2, none⟩ = some v2 ∧ W.cell? ⟨n, 3, none⟩ = some v3 ∧ W.cell? ⟨n, 4, none⟩ = some v4 ∧ W.frozen? ⟨n, 0, none⟩ = false ∧ W.frozen? ⟨n, 1, none⟩ = false ∧ W.frozen? ⟨n, 2, none⟩ = false ∧ W.frozen? ⟨n, 3, none⟩ = false ∧ W.frozen? ⟨n, 4, none⟩ = false := by
  subst hn
  have hl : W0.heap.size < (W0.alloc (Obj.cells #[v0, v1, v2, v3, v4] T)).drew.heap.size := by show W0.heap.size < (W0.alloc (Obj.cells #[v0, v1, v2, v3, v4] T)).heap.size; simp
  simp only [(bcellP hb).1 _ _ hl, (bcellP hb).2 _ _ hl]
  simp

set_option maxRecDepth 100000 in
set_option maxHeartbeats 4000000 in
theorem copyRes_any (r : Rs) (pa : Option Addr) (pc : Nat) (qa : Option Addr) (qc B : Nat) (w : World) (h : RsIn w B r pa pc qa qc) (hB : B ≤ w.heap.size) (hp : r.pa.length ≤ 1048576) (hq : r.ps.length ≤ 1048576) (hps : ∀ s ∈ r.pa, s.size ≤ 281474976710656) (hbo : r.bo.size ≤ 281474976710656) (hqs : ∀ p ∈ r.ps, p.1.size ≤ 281474976710656 ∧ p.2.1.size ≤ 281474976710656 ∧ p.2.2.size ≤ 281474976710656) :
    Calls Tryz.prog 51 #[.agg #[.slice pa r.pa.length pc, .bool r.co, .string r.bo, .int .i64 r.ve, .slice qa r.ps.length qc]] w fun e w' => (∃ p q : Nat, e = .returned (.agg #[.slice (some ⟨p, 0, none⟩) r.pa.length r.pa.length, .bool r.co, .string r.bo, .int .i64 r.ve, .slice (some ⟨q, 0, none⟩) r.ps.length r.ps.length]) ∧ w.heap.size ≤ p ∧ p < q ∧ RowS w' p r.pa ∧ RowP w' q r.ps) ∧ Below w.heap.size w w' := by
  have h1 := h.ph
  have h2 := h.qh
  clear h
  obtain ⟨ss, co, bo, ve, ps⟩ := r
  simp only at *
  go_enter Tryz.func51, Tryz.ntmps51
  have CA : Below w.heap.size w ((w.alloc (Obj.cells #[.slice pa ss.length pc, .bool co, .string bo, .int .i64 ve, .slice qa ps.length qc] 57)).alloc (Obj.cells #[.slice none 0 0, .bool false, .string { data := #[] }, .int .i64 0, .slice none 0 0] 57)).drew := below_drewP (((Below.refl _ _).alloc (Nat.le_refl _) _).alloc (by simp) _)
  have HCR := hide (fun (W : World) (hb : Below ((w.alloc (Obj.cells #[.slice pa ss.length pc, .bool co, .string bo, .int .i64 ve, .slice qa ps.length qc] 57)).alloc (Obj.cells #[.slice none 0 0, .bool false, .string { data := #[] }, .int .i64 0, .slice none 0 0] 57)).drew.heap.size ((w.alloc (Obj.cells #[.slice pa ss.length pc, .bool co, .string bo, .int .i64 ve, .slice qa ps.length qc] 57)).alloc (Obj.cells #[.slice none 0 0, .bool false, .string { data := #[] }, .int .i64 0, .slice none 0 0] 57)).drew W) => fresh5 (w.alloc (Obj.cells #[.slice pa ss.length pc, .bool co, .string bo, .int .i64 ve, .slice qa ps.length qc] 57)) W (w.heap.size + 1) _ _ _ _ _ 57 (by simp) hb)
  go_wp2
  refine wp_region_held_drew (S := (fun W => W.cell? ⟨w.heap.size, 0, none⟩ = some (.slice pa ss.length pc) ∧ W.cell? ⟨w.heap.size, 1, none⟩ = some (.bool co) ∧ W.cell? ⟨w.heap.size, 2, none⟩ = some (.string bo) ∧ W.cell? ⟨w.heap.size, 3, none⟩ = some (.int .i64 ve) ∧ W.cell? ⟨w.heap.size, 4, none⟩ = some (.slice qa ps.length qc))) (by kernel_rfl) (by simp) (fun hHeld => ?_)
  simp only [List.size_toArray, List.length_cons, List.length_nil, Nat.reduceAdd, Array.replicate_succ, Array.replicate_zero, List.push_toArray, List.nil_append, List.cons_append]
  refine wpAnyH_take (i := 0) (v := ?_) rfl (by kernel_rfl) (by kernel_rfl) (by kernel_rfl) (fun _ _ _ h => h) (Or.inl ⟨by rfl, ?_⟩) (by assumption) ?_
  rotate_left
  · intro w hSw; (try dsimp only at hSw); go_simp; try with_reducible rfl
  simp only [Act.put, List.getElem_toArray, List.getElem_cons_zero, List.setIfInBounds_toArray, List.set_cons_zero]
  refine wpAnyH_take (i := 1) (v := ?_) rfl (by kernel_rfl) (by kernel_rfl) (by kernel_rfl) (fun _ _ _ h => h) (Or.inl ⟨by rfl, ?_⟩) (by assumption) ?_
  rotate_left
  · intro w hSw; (try dsimp only at hSw); go_simp; try with_reducible rfl
  simp only [Act.put, List.getElem_toArray, List.getElem_cons_succ, List.getElem_cons_zero, List.setIfInBounds_toArray, List.set_cons_succ, List.set_cons_zero]
  refine wpAnyH_take (i := 3) (v := ?_) rfl (by kernel_rfl) (by kernel_rfl) (by kernel_rfl) (fun _ _ _ h => h) (Or.inl ⟨by rfl, ?_⟩) (by assumption) ?_
  rotate_left
  · intro w hSw; (try dsimp only at hSw); go_simp; try with_reducible rfl
  simp only [Act.put, List.getElem_toArray, List.getElem_cons_succ, List.getElem_cons_zero, List.setIfInBounds_toArray, List.set_cons_succ, List.set_cons_zero]
  refine wpAnyH_take (i := 4) (v := ?_) rfl (by kernel_rfl) (by kernel_rfl) (by kernel_rfl) (fun _ _ _ h => h) (Or.inl ⟨by rfl, ?_⟩) (by assumption) ?_
  rotate_left
  · intro w hSw; (try dsimp only at hSw); go_simp; try with_reducible rfl
  simp only [Act.put, List.getElem_toArray, List.getElem_cons_succ, List.getElem_cons_zero, List.setIfInBounds_toArray, List.set_cons_succ, List.set_cons_zero]
  refine wpAnyH_take (i := 5) (v := ?_) rfl (by kernel_rfl) (by kernel_rfl) (by kernel_rfl) (fun _ _ _ h => h) (Or.inl ⟨by rfl, ?_⟩) (by assumption) ?_
  rotate_left
  · intro w hSw; (try dsimp only at hSw); go_simp; try with_reducible rfl
  simp only [Act.put, List.getElem_toArray, List.getElem_cons_succ, List.getElem_cons_zero, List.setIfInBounds_toArray, List.set_cons_succ, List.set_cons_zero]
  refine wpAnyH_take (i := 6) (v := ?_) rfl (by kernel_rfl) (by kernel_rfl) (by kernel_rfl) (fun _ _ _ h => h) (Or.inl ⟨by rfl, ?_⟩) (by assumption) ?_
  rotate_left
  · intro w hSw; (try dsimp only at hSw); go_simp; try with_reducible rfl
  simp only [Act.put, List.getElem_toArray, List.getElem_cons_succ, List.getElem_cons_zero, List.setIfInBounds_toArray, List.set_cons_succ, List.set_cons_zero]
  refine wpAnyH_take (i := 8) (v := ?_) rfl (by kernel_rfl) (by kernel_rfl) (by kernel_rfl) (fun _ _ _ h => h) (Or.inl ⟨by rfl, ?_⟩) (by assumption) ?_
  rotate_left
  · intro w hSw; (try dsimp only at hSw); go_simp; try with_reducible rfl
  simp only [Act.put, List.getElem_toArray, List.getElem_cons_succ, List.getElem_cons_zero, List.setIfInBounds_toArray, List.set_cons_succ, List.set_cons_zero]
  refine wpAnyH_take (i := 9) (v := ?_) rfl (by kernel_rfl) (by kernel_rfl) (by kernel_rfl) (fun _ _ _ h => h) (Or.inl ⟨by rfl, ?_⟩) (by assumption) ?_
  rotate_left
  · intro w hSw; (try dsimp only at hSw); go_simp; try with_reducible rfl
  simp only [Act.put, List.getElem_toArray, List.getElem_cons_succ, List.getElem_cons_zero, List.setIfInBounds_toArray, List.set_cons_succ, List.set_cons_zero]
  refine wpAnyH_take (i := 10) (v := ?_) rfl (by kernel_rfl) (by kernel_rfl) (by kernel_rfl) (fun _ _ _ h => h) (Or.inl ⟨by rfl, ?_⟩) (by assumption) ?_
  rotate_left
  · intro w hSw; (try dsimp only at hSw); go_simp; try with_reducible rfl
  simp only [Act.put, List.getElem_toArray, List.getElem_cons_succ, List.getElem_cons_zero, List.setIfInBounds_toArray, List.set_cons_succ, List.set_cons_zero]
  refine wpAnyH_take (i := 11) (v := ?_) rfl (by kernel_rfl) (by kernel_rfl) (by kernel_rfl) (fun _ _ _ h => h) (Or.inl ⟨by rfl, ?_⟩) (by assumption) ?_
  rotate_left
  · intro w hSw; (try dsimp only at hSw); go_simp; try with_reducible rfl
  simp only [Act.put, List.getElem_toArray, List.getElem_cons_succ, List.getElem_cons_zero, List.setIfInBounds_toArray, List.set_cons_succ, List.set_cons_zero]
  refine wpAnyH_ready (rs := [2]) (by kernel_rfl) (by simp) ?_
  refine AllReadyH.cons rfl (fun K hK => ?_) AllReadyH.nil
  go_simp
  refine (copyPath_any pa ss pc B _ (h1.below CA hB) (Nat.le_trans hB CA.size) hp hps).mono ?_
  rintro e w1 ⟨rfl, r1, b1⟩
  have c1 := CA.trans (b1.mono CA.size)
  have K1 := hide (keep5B b1 hHeld)
  have R1 := hide r1
  refine hK.out _ _ K1.out (fun hHeld2 => ?_)
  clear hK K hHeld
  have hHeld := hHeld2
  clear hHeld2
  simp only [List.setIfInBounds_toArray, List.set_cons_succ, List.set_cons_zero]
  refine wpAnyH_ready (rs := [7]) (by kernel_rfl) (by simp) ?_
  refine AllReadyH.cons rfl (fun K hK => ?_) AllReadyH.nil
  go_simp
  refine (clone_any bo _ hbo).mono ?_
  rintro e w2 ⟨rfl, b2⟩
  have c2 := c1.trans (b2.mono c1.size)
  have K2 := hide (keep5B b2 hHeld)
  have R2 := hide (R1.out.below b2)
  refine hK.out _ _ K2.out (fun hHeld2 => ?_)
  clear hK K hHeld
  have hHeld := hHeld2
  clear hHeld2
  simp only [List.setIfInBounds_toArray, List.set_cons_succ, List.set_cons_zero]
  refine wpAnyH_ready (rs := [12]) (by kernel_rfl) (by simp) ?_
  refine AllReadyH.cons rfl (fun K hK => ?_) AllReadyH.nil
  go_simp
  refine (copyProps_any qa ps qc B _ (h2.below c2 hB) (Nat.le_trans hB c2.size) hq hqs).mono ?_
  rintro e w3 ⟨rfl, r3, b3⟩
  have c3 := c2.trans (b3.mono c2.size)
  have K3 := hide (keep5B b3 hHeld)
  have R3 := hide (R2.out.below b3)
  have Q3 := hide r3
  have hcr := HCR.out w3 ((b1.trans (b2.mono b1.size)).trans (b3.mono (Nat.le_trans b1.size b2.size)))
  refine hK.out _ _ K3.out (fun hHeld2 => ?_)
  clear hK K hHeld
  have hHeld := hHeld2
  clear hHeld2
  simp only [List.setIfInBounds_toArray, List.set_cons_succ, List.set_cons_zero]
  refine wpAnyH_take (i := 13) (v := ?_) rfl (by kernel_rfl) (by kernel_rfl) (by kernel_rfl) (fun _ _ _ h => h) (Or.inl ⟨by rfl, ?_⟩) (by assumption) ?_
  rotate_left
  · intro w hSw; (try dsimp only at hSw); go_simp; try with_reducible rfl
  simp only [Act.put, List.getElem_toArray, List.getElem_cons_succ, List.getElem_cons_zero, List.setIfInBounds_toArray, List.set_cons_succ, List.set_cons_zero]
  obtain ⟨g0, g1, g2, g3, g4, f0, f1, f2, f3, f4⟩ := hcr
  refine wpAnyH_ready (rs := [14]) (by kernel_rfl) (by simp) ?_
  refine AllReadyH.cons rfl (fun K hK => ?_) AllReadyH.nil
  go_simp
  refine hK.out _ _ (keep5S K3.out (by omega) _ _ _ _ _) (fun hHeld2 => ?_)
  clear hK K hHeld
  have hHeld := hHeld2
  clear hHeld2
  simp only [List.setIfInBounds_toArray, List.set_cons_succ, List.set_cons_zero]
  refine wpAnyH_done (by kernel_rfl) ?_ _
  have z1 := c1.size
  have y1 : w.heap.size + 1 + 1 < w1.heap.size := by have := R1.out.1; simpa using this
  have R4 := hide (show RowS w3 (w.heap.size + 1 + 1) ss by have := R3.out; simpa using this)
  have y2 := b2.size
  clear hHeld K1 K2 K3 b1 b2 b3 HCR R1 R2 h1 h2
  go_wp2
  refine bodyPost_ret (v := .agg #[.slice (some ⟨w.heap.size + 1 + 1, 0, none⟩) ss.length ss.length, .bool co, .string bo, .int .i64 ve, .slice (some ⟨w2.heap.size, 0, none⟩) ps.length ps.length]) (by simp [results, Tryz.results51, go_sem, g0, g1, g2, g3, g4]) rfl ⟨⟨_, _, rfl, by omega, ?_, ?_, ?_⟩, ?_⟩
  · omega
  · exact ((((R4.out.setCell _ _ (by simp)).setCell _ _ (by simp)).setCell _ _ (by simp)).setCell _ _ (by simp)).setCell _ _ (by simp)
  · exact ((((Q3.out.setCell _ _ (by simp; omega)).setCell _ _ (by simp; omega)).setCell _ _ (by simp; omega)).setCell _ _ (by simp; omega)).setCell _ _ (by simp; omega)
  · exact ((((c3.setCell (by simp) _).setCell (by simp) _).setCell (by simp) _).setCell (by simp) _).setCell (by simp) _
end Go.Proofs.YtkgdmlfdlkmojaaGreat
