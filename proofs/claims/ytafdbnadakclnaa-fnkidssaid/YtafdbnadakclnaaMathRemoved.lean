/-
  What impl.copyRes does.
  Rows of things that one call makes, one by one.
  What impl.copyTree does.
  What a turn of the program hands back; one path as a list of paths.
  What the program's Under does.
  What impl.isDeep does.
  What impl.without does.
  What is taken away: no program in sight.
  What impl.removeRefused and impl.Remove do.
  What impl.DeepOf does.
  What impl.DeepOf hands back.
  What is left where something is taken away: no program in sight.
-/
import Derived.Test.YtafdbnadakclnaaPlain
import Derived.Test.YtafdbnadakclnaaDrawC
import Derived.Test.YtafdbnadakclnaaCopyProps
import Derived.Deep.RegionHeld3
import Derived.Test.YtafdbnadakclnaaAskRef
import Derived.Test.YtafdbnadakclnaaSliceEq
import Derived.Test.YtafdbnadakclnaaSameTexts
import Derived.Test.YtafdbnadakclnaaSamePathI
import Derived.Test.YtafdbnadakclnaaSpecCopyAll
namespace Go.Proofs.Ytafdbnadakclnaa
open Go.RowKit M
set_option linter.unusedVariables false

theorem keep5B {W w1 : World} {N : Nat} {x y z u v : Value} (hb : Below W.heap.size W w1) (h : W.cell? ⟨N, 0, none⟩ = some x ∧ W.cell? ⟨N, 1, none⟩ = some y ∧ W.cell? ⟨N, 2, none⟩ = some z ∧ W.cell? ⟨N, 3, none⟩ = some u ∧ W.cell? ⟨N, 4, none⟩ = some v) : w1.cell? ⟨N, 0, none⟩ = some x ∧ w1.cell? ⟨N, 1, none⟩ = some y ∧ w1.cell? ⟨N, 2, none⟩ = some z ∧ w1.cell? ⟨N, 3, none⟩ = some u ∧ w1.cell? ⟨N, 4, none⟩ = some v := by
  have hN : N < W.heap.size := World.block_lt_of_cell? W _ h.1
  simp only [(bcellP hb).1 N _ hN]
  exact h
/-- Five stores into a block. -/
def set5 (W : World) (g : Nat) (v0 v1 v2 v3 v4 : Value) : World := ((((W.setCell ⟨g, 0, none⟩ v0).setCell ⟨g, 1, none⟩ v1).setCell ⟨g, 2, none⟩ v2).setCell ⟨g, 3, none⟩ v3).setCell ⟨g, 4, none⟩ v4
theorem keep5S {W : World} {N g : Nat} {x y z u v : Value} (h : W.cell? ⟨N, 0, none⟩ = some x ∧ W.cell? ⟨N, 1, none⟩ = some y ∧ W.cell? ⟨N, 2, none⟩ = some z ∧ W.cell? ⟨N, 3, none⟩ = some u ∧ W.cell? ⟨N, 4, none⟩ = some v) (hne : g ≠ N) (v0 v1 v2 v3 v4 : Value) : (set5 W g v0 v1 v2 v3 v4).cell? ⟨N, 0, none⟩ = some x ∧ (set5 W g v0 v1 v2 v3 v4).cell? ⟨N, 1, none⟩ = some y ∧ (set5 W g v0 v1 v2 v3 v4).cell? ⟨N, 2, none⟩ = some z ∧ (set5 W g v0 v1 v2 v3 v4).cell? ⟨N, 3, none⟩ = some u ∧ (set5 W g v0 v1 v2 v3 v4).cell? ⟨N, 4, none⟩ = some v := by
  have e : ∀ (W : World) (o p : Nat) (v : Value), (W.setCell ⟨g, p, none⟩ v).cell? ⟨N, o, none⟩ = W.cell? ⟨N, o, none⟩ := fun W o p v => World.cell?_setCell_other _ _ _ _ (fun e => hne (congrArg Addr.block e))
  simp only [set5, e]
  exact h

/-- The cells of a block that was just made. -/
theorem fresh5 (W0 W : World) (n : Nat) (v0 v1 v2 v3 v4 : Value) (T : TypeId) (hn : n = W0.heap.size) (hb : Below (W0.alloc (Obj.cells #[v0, v1, v2, v3, v4] T)).drew.heap.size (W0.alloc (Obj.cells #[v0, v1, v2, v3, v4] T)).drew W) : W.cell? ⟨n, 0, none⟩ = some v0 ∧ W.cell? ⟨n, 1, none⟩ = some v1 ∧ W.cell? ⟨n, 2, none⟩ = some v2 ∧ W.cell? ⟨n, 3, none⟩ = some v3 ∧ W.cell? ⟨n, 4, none⟩ = some v4 ∧ W.frozen? ⟨n, 0, none⟩ = false ∧ W.frozen? ⟨n, 1, none⟩ = false ∧ W.frozen? ⟨n, 2, none⟩ = false ∧ W.frozen? ⟨n, 3, none⟩ = false ∧ W.frozen? ⟨n, 4, none⟩ = false := by
  subst hn
  have hl : W0.heap.size < (W0.alloc (Obj.cells #[v0, v1, v2, v3, v4] T)).drew.heap.size := by show W0.heap.size < (W0.alloc (Obj.cells #[v0, v1, v2, v3, v4] T)).heap.size; simp
  simp only [(bcellP hb).1 _ _ hl, (bcellP hb).2 _ _ hl]
  simp

set_option maxRecDepth 100000 in
set_option maxHeartbeats 4000000 in
theorem copyRes_any (r : Rs) (pa : Option Addr) (pc : Nat) (qa : Option Addr) (qc B : Nat) (w : World) (h : RsIn w B r pa pc qa qc) (hB : B ≤ w.heap.size) (hp : r.pa.length ≤ 1048576) (hq : r.ps.length ≤ 1048576) (hps : ∀ s ∈ r.pa, s.size ≤ 281474976710656) (hbo : r.bo.size ≤ 281474976710656) (hqs : ∀ p ∈ r.ps, p.1.size ≤ 281474976710656 ∧ p.2.1.size ≤ 281474976710656 ∧ p.2.2.size ≤ 281474976710656) :
    Calls Try.prog 33 #[.agg #[.slice pa r.pa.length pc, .bool r.co, .string r.bo, .int .i64 r.ve, .slice qa r.ps.length qc]] w fun e w' => (∃ p q : Nat, e = .returned (.agg #[.slice (some ⟨p, 0, none⟩) r.pa.length r.pa.length, .bool r.co, .string r.bo, .int .i64 r.ve, .slice (some ⟨q, 0, none⟩) r.ps.length r.ps.length]) ∧ w.heap.size ≤ p ∧ p < q ∧ RowS w' p r.pa ∧ RowP w' q r.ps) ∧ Below w.heap.size w w' := by
  have h1 := h.ph
  have h2 := h.qh
  clear h
  obtain ⟨ss, co, bo, ve, ps⟩ := r
  simp only at *
  go_enter Try.func33, Try.ntmps33
  have CA : Below w.heap.size w ((w.alloc (Obj.cells #[.slice pa ss.length pc, .bool co, .string bo, .int .i64 ve, .slice qa ps.length qc] 35)).alloc (Obj.cells #[.slice none 0 0, .bool false, .string { data := #[] }, .int .i64 0, .slice none 0 0] 35)).drew := below_drewP (((Below.refl _ _).alloc (Nat.le_refl _) _).alloc (by simp) _)
  have HCR := hide (fun (W : World) (hb : Below ((w.alloc (Obj.cells #[.slice pa ss.length pc, .bool co, .string bo, .int .i64 ve, .slice qa ps.length qc] 35)).alloc (Obj.cells #[.slice none 0 0, .bool false, .string { data := #[] }, .int .i64 0, .slice none 0 0] 35)).drew.heap.size ((w.alloc (Obj.cells #[.slice pa ss.length pc, .bool co, .string bo, .int .i64 ve, .slice qa ps.length qc] 35)).alloc (Obj.cells #[.slice none 0 0, .bool false, .string { data := #[] }, .int .i64 0, .slice none 0 0] 35)).drew W) => fresh5 (w.alloc (Obj.cells #[.slice pa ss.length pc, .bool co, .string bo, .int .i64 ve, .slice qa ps.length qc] 35)) W (w.heap.size + 1) _ _ _ _ _ 35 (by simp) hb)
  go_wp2
  refine wp_region_held_drew (S := (fun W => W.cell? ⟨w.heap.size, 0, none⟩ = some (.slice pa ss.length pc) ∧ W.cell? ⟨w.heap.size, 1, none⟩ = some (.bool co) ∧ W.cell? ⟨w.heap.size, 2, none⟩ = some (.string bo) ∧ W.cell? ⟨w.heap.size, 3, none⟩ = some (.int .i64 ve) ∧ W.cell? ⟨w.heap.size, 4, none⟩ = some (.slice qa ps.length qc))) (by kernel_rfl) (by simp) (fun hHeld => ?_)
  simp only [List.size_toArray, List.length_cons, List.length_nil, Nat.reduceAdd, Array.replicate_succ, Array.replicate_zero, List.push_toArray, List.nil_append, List.cons_append]
  refine wpAnyH_take (i := 0) (v := ?_) rfl (by kernel_rfl) (by kernel_rfl) (by kernel_rfl) (fun _ _ _ h => h) (Or.inl ⟨by rfl, ?_⟩) (by assumption) ?_
  rotate_left
  · intro w hSw; (try dsimp only at hSw); go_simp; try with_reducible rfl
  simp only [Act.put, List.getElem_toArray, List.getElem_cons_zero, List.setIfInBounds_toArray, List.set_cons_zero]
  refine wpAnyH_take (i := 1) (v := ?_) rfl (by kernel_rfl) (by kernel_rfl) (by kernel_rfl) (fun _ _ _ h => h) (Or.inl ⟨by rfl, ?_⟩) (by assumption) ?_
  rotate_left
  · intro w hSw; (try dsimp only at hSw); go_simp; try with_reducible rfl
  simp only [Act.put, List.getElem_toArray, List.getElem_cons_succ, List.getElem_cons_zero, List.setIfInBounds_toArray, List.set_cons_succ, List.set_cons_zero]
  refine wpAnyH_take (i := 3) (v := ?_) rfl (by kernel_rfl) (by kernel_rfl) (by kernel_rfl) (fun _ _ _ h => h) (Or.inl ⟨by rfl, ?_⟩) (by assumption) ?_
  rotate_left
  · intro w hSw; (try dsimp only at hSw); go_simp; try with_reducible rfl
  simp only [Act.put, List.getElem_toArray, List.getElem_cons_succ, List.getElem_cons_zero, List.setIfInBounds_toArray, List.set_cons_succ, List.set_cons_zero]
  refine wpAnyH_take (i := 4) (v := ?_) rfl (by kernel_rfl) (by kernel_rfl) (by kernel_rfl) (fun _ _ _ h => h) (Or.inl ⟨by rfl, ?_⟩) (by assumption) ?_
  rotate_left
  · intro w hSw; (try dsimp only at hSw); go_simp; try with_reducible rfl
  simp only [Act.put, List.getElem_toArray, List.getElem_cons_succ, List.getElem_cons_zero, List.setIfInBounds_toArray, List.set_cons_succ, List.set_cons_zero]
  refine wpAnyH_take (i := 5) (v := ?_) rfl (by kernel_rfl) (by kernel_rfl) (by kernel_rfl) (fun _ _ _ h => h) (Or.inl ⟨by rfl, ?_⟩) (by assumption) ?_
  rotate_left
  · intro w hSw; (try dsimp only at hSw); go_simp; try with_reducible rfl
  simp only [Act.put, List.getElem_toArray, List.getElem_cons_succ, List.getElem_cons_zero, List.setIfInBounds_toArray, List.set_cons_succ, List.set_cons_zero]
  refine wpAnyH_take (i := 6) (v := ?_) rfl (by kernel_rfl) (by kernel_rfl) (by kernel_rfl) (fun _ _ _ h => h) (Or.inl ⟨by rfl, ?_⟩) (by assumption) ?_
  rotate_left
  · intro w hSw; (try dsimp only at hSw); go_simp; try with_reducible rfl
  simp only [Act.put, List.getElem_toArray, List.getElem_cons_succ, List.getElem_cons_zero, List.setIfInBounds_toArray, List.set_cons_succ, List.set_cons_zero]
  refine wpAnyH_take (i := 8) (v := ?_) rfl (by kernel_rfl) (by kernel_rfl) (by kernel_rfl) (fun _ _ _ h => h) (Or.inl ⟨by rfl, ?_⟩) (by assumption) ?_
  rotate_left
  · intro w hSw; (try dsimp only at hSw); go_simp; try with_reducible rfl
  simp only [Act.put, List.getElem_toArray, List.getElem_cons_succ, List.getElem_cons_zero, List.setIfInBounds_toArray, List.set_cons_succ, List.set_cons_zero]
  refine wpAnyH_take (i := 9) (v := ?_) rfl (by kernel_rfl) (by kernel_rfl) (by kernel_rfl) (fun _ _ _ h => h) (Or.inl ⟨by rfl, ?_⟩) (by assumption) ?_
  rotate_left
  · intro w hSw; (try dsimp only at hSw); go_simp; try with_reducible rfl
  simp only [Act.put, List.getElem_toArray, List.getElem_cons_succ, List.getElem_cons_zero, List.setIfInBounds_toArray, List.set_cons_succ, List.set_cons_zero]
  refine wpAnyH_take (i := 10) (v := ?_) rfl (by kernel_rfl) (by kernel_rfl) (by kernel_rfl) (fun _ _ _ h => h) (Or.inl ⟨by rfl, ?_⟩) (by assumption) ?_
  rotate_left
  · intro w hSw; (try dsimp only at hSw); go_simp; try with_reducible rfl
  simp only [Act.put, List.getElem_toArray, List.getElem_cons_succ, List.getElem_cons_zero, List.setIfInBounds_toArray, List.set_cons_succ, List.set_cons_zero]
  refine wpAnyH_take (i := 11) (v := ?_) rfl (by kernel_rfl) (by kernel_rfl) (by kernel_rfl) (fun _ _ _ h => h) (Or.inl ⟨by rfl, ?_⟩) (by assumption) ?_
  rotate_left
  · intro w hSw; (try dsimp only at hSw); go_simp; try with_reducible rfl
  simp only [Act.put, List.getElem_toArray, List.getElem_cons_succ, List.getElem_cons_zero, List.setIfInBounds_toArray, List.set_cons_succ, List.set_cons_zero]
  refine wpAnyH_ready (rs := [2]) (by kernel_rfl) (by simp) ?_
  refine AllReadyH.cons rfl (fun K hK => ?_) AllReadyH.nil
  go_simp
  refine (copyPath_any pa ss pc B _ (h1.below CA hB) (Nat.le_trans hB CA.size) hp hps).mono ?_
  rintro e w1 ⟨rfl, r1, b1⟩
  have c1 := CA.trans (b1.mono CA.size)
  have K1 := hide (keep5B b1 hHeld)
  have R1 := hide r1
  refine hK.out _ _ K1.out (fun hHeld2 => ?_)
  clear hK K hHeld
  have hHeld := hHeld2
  clear hHeld2
  simp only [List.setIfInBounds_toArray, List.set_cons_succ, List.set_cons_zero]
  refine wpAnyH_ready (rs := [7]) (by kernel_rfl) (by simp) ?_
  refine AllReadyH.cons rfl (fun K hK => ?_) AllReadyH.nil
  go_simp
  refine (clone_any bo _ hbo).mono ?_
  rintro e w2 ⟨rfl, b2⟩
  have c2 := c1.trans (b2.mono c1.size)
  have K2 := hide (keep5B b2 hHeld)
  have R2 := hide (R1.out.below b2)
  refine hK.out _ _ K2.out (fun hHeld2 => ?_)
  clear hK K hHeld
  have hHeld := hHeld2
  clear hHeld2
  simp only [List.setIfInBounds_toArray, List.set_cons_succ, List.set_cons_zero]
  refine wpAnyH_ready (rs := [12]) (by kernel_rfl) (by simp) ?_
  refine AllReadyH.cons rfl (fun K hK => ?_) AllReadyH.nil
  go_simp
  refine (copyProps_any qa ps qc B _ (h2.below c2 hB) (Nat.le_trans hB c2.size) hq hqs).mono ?_
  rintro e w3 ⟨rfl, r3, b3⟩
  have c3 := c2.trans (b3.mono c2.size)
  have K3 := hide (keep5B b3 hHeld)
  have R3 := hide (R2.out.below b3)
  have Q3 := hide r3
  have hcr := HCR.out w3 ((b1.trans (b2.mono b1.size)).trans (b3.mono (Nat.le_trans b1.size b2.size)))
  refine hK.out _ _ K3.out (fun hHeld2 => ?_)
  clear hK K hHeld
  have hHeld := hHeld2
  clear hHeld2
  simp only [List.setIfInBounds_toArray, List.set_cons_succ, List.set_cons_zero]
  refine wpAnyH_take (i := 13) (v := ?_) rfl (by kernel_rfl) (by kernel_rfl) (by kernel_rfl) (fun _ _ _ h => h) (Or.inl ⟨by rfl, ?_⟩) (by assumption) ?_
  rotate_left
  · intro w hSw; (try dsimp only at hSw); go_simp; try with_reducible rfl
  simp only [Act.put, List.getElem_toArray, List.getElem_cons_succ, List.getElem_cons_zero, List.setIfInBounds_toArray, List.set_cons_succ, List.set_cons_zero]
  obtain ⟨g0, g1, g2, g3, g4, f0, f1, f2, f3, f4⟩ := hcr
  refine wpAnyH_ready (rs := [14]) (by kernel_rfl) (by simp) ?_
  refine AllReadyH.cons rfl (fun K hK => ?_) AllReadyH.nil
  go_simp
  refine hK.out _ _ (keep5S K3.out (by omega) _ _ _ _ _) (fun hHeld2 => ?_)
  clear hK K hHeld
  have hHeld := hHeld2
  clear hHeld2
  simp only [List.setIfInBounds_toArray, List.set_cons_succ, List.set_cons_zero]
  refine wpAnyH_done (by kernel_rfl) ?_ _
  have z1 := c1.size
  have y1 : w.heap.size + 1 + 1 < w1.heap.size := by have := R1.out.1; simpa using this
  have R4 := hide (show RowS w3 (w.heap.size + 1 + 1) ss by have := R3.out; simpa using this)
  have y2 := b2.size
  clear hHeld K1 K2 K3 b1 b2 b3 HCR R1 R2 h1 h2
  go_wp2
  refine bodyPost_ret (v := .agg #[.slice (some ⟨w.heap.size + 1 + 1, 0, none⟩) ss.length ss.length, .bool co, .string bo, .int .i64 ve, .slice (some ⟨w2.heap.size, 0, none⟩) ps.length ps.length]) (by simp [results, Try.results33, go_sem, g0, g1, g2, g3, g4]) rfl ⟨⟨_, _, rfl, by omega, ?_, ?_, ?_⟩, ?_⟩
  · omega
  · exact ((((R4.out.setCell _ _ (by simp)).setCell _ _ (by simp)).setCell _ _ (by simp)).setCell _ _ (by simp)).setCell _ _ (by simp)
  · exact ((((Q3.out.setCell _ _ (by simp; omega)).setCell _ _ (by simp; omega)).setCell _ _ (by simp; omega)).setCell _ _ (by simp; omega)).setCell _ _ (by simp; omega)
  · exact ((((c3.setCell (by simp) _).setCell (by simp) _).setCell (by simp) _).setCell (by simp) _).setCell (by simp) _
end Go.Proofs.Ytafdbnadakclnaa
namespace Go.Proofs.Ytafdbnadakclnaa
open Go.RowKit M
set_option linter.unusedVariables false

theorem run_make_ress (n : Nat) (hn : n ≤ 1048576) (w : World) :
    (Instr.makeSlice 24 (.int .i64 (n : Int)) (.int .i64 (n : Int))).run Try.prog w = .ok (.slice (some ⟨w.heap.size, 0, none⟩) n n) (w.alloc (.cells (madeCells #[.slice none 0 0, .bool false, .string ByteArray.empty, .int .i64 0, .slice none 0 0] (n * 5)) 35)) := by
  obtain ⟨i, hi, hz, hs, hb⟩ := info_parts info_res
  have hr := run_make (P := Try.prog) w 24 35 i _ Try.underlying24 hi hz .i64 .i64 n n (by omega) (Int.le_refl _) (by rw [hb]; omega) (by omega)
  simp only [Int.toNat_natCast, hs] at hr
  exact hr

/-- What is made so far. -/
def MadeR (w : World) (g : Nat) (rs : List Rs) (k : Nat) : Prop :=
  ∃ F : Nat → Value, w.rowIs g 35 (rs.length * 5) F ∧ ∃ pb qb : Nat → Nat, ∀ j (hj : j < rs.length), j < k →
    F (j * 5) = .slice (some ⟨pb j, 0, none⟩) rs[j].pa.length rs[j].pa.length ∧ F (j * 5 + 1) = .bool rs[j].co ∧ F (j * 5 + 2) = .string rs[j].bo ∧ F (j * 5 + 3) = .int .i64 rs[j].ve ∧ F (j * 5 + 4) = .slice (some ⟨qb j, 0, none⟩) rs[j].ps.length rs[j].ps.length ∧
    RowS w (pb j) rs[j].pa ∧ RowP w (qb j) rs[j].ps ∧ g < pb j ∧ pb j < qb j ∧ ∀ i, i < j → qb i < pb j

theorem MadeR.start (w : World) (rs : List Rs) : MadeR (w.alloc (.cells (madeCells #[.slice none 0 0, .bool false, .string ByteArray.empty, .int .i64 0, .slice none 0 0] (rs.length * 5)) 35)) w.heap.size rs 0 := by
  have hr := World.rowIs_alloc w (madeCells #[.slice none 0 0, .bool false, .string ByteArray.empty, .int .i64 0, .slice none 0 0] (rs.length * 5)) 35 (fun i => ((madeCells #[.slice none 0 0, .bool false, .string ByteArray.empty, .int .i64 0, .slice none 0 0] (rs.length * 5))[i]?).getD (.string ByteArray.empty)) (fun i hi => by rw [Array.getElem?_eq_getElem hi]; rfl)
  rw [size_madeCells] at hr
  exact ⟨_, hr, fun _ => 0, fun _ => 0, fun j _ hj => absurd hj (Nat.not_lt_zero _)⟩
theorem MadeR.below {w w1 : World} {g : Nat} {rs : List Rs} {k : Nat} (m : MadeR w g rs k) (hb : Below w.heap.size w w1) : MadeR w1 g rs k := by
  obtain ⟨F, hr, pb, qb, hj⟩ := m
  refine ⟨F, hr.of_block (w' := w1) (hb.block _ hr.lt), pb, qb, fun j hjl hjk => ?_⟩
  obtain ⟨e0, e1, e2, e3, e4, e5, e6, e7⟩ := hj j hjl hjk
  exact ⟨e0, e1, e2, e3, e4, e5.below hb, e6.below hb, e7⟩
theorem MadeR.lt {w : World} {g : Nat} {rs : List Rs} {k : Nat} (m : MadeR w g rs k) : g < w.heap.size := by obtain ⟨F, hr, _⟩ := m; exact hr.lt
theorem MadeR.cells {w : World} {g : Nat} {rs : List Rs} {k : Nat} (m : MadeR w g rs k) (hk : k < rs.length) : ∃ v0 v1 v2 v3 v4, w.cell? ⟨g, k * 5, none⟩ = some v0 ∧ w.cell? ⟨g, k * 5 + 1, none⟩ = some v1 ∧ w.cell? ⟨g, k * 5 + 2, none⟩ = some v2 ∧ w.cell? ⟨g, k * 5 + 3, none⟩ = some v3 ∧ w.cell? ⟨g, k * 5 + 4, none⟩ = some v4 ∧ w.frozen? ⟨g, k * 5, none⟩ = false ∧ w.frozen? ⟨g, k * 5 + 1, none⟩ = false ∧ w.frozen? ⟨g, k * 5 + 2, none⟩ = false ∧ w.frozen? ⟨g, k * 5 + 3, none⟩ = false ∧ w.frozen? ⟨g, k * 5 + 4, none⟩ = false := by
  obtain ⟨F, hr, _⟩ := m
  exact ⟨_, _, _, _, _, hr.cell (by omega), hr.cell (by omega), hr.cell (by omega), hr.cell (by omega), hr.cell (by omega), hr.frozen _, hr.frozen _, hr.frozen _, hr.frozen _, hr.frozen _⟩
theorem MadeR.next {w w1 : World} {g : Nat} {rs : List Rs} {k : Nat} (m : MadeR w g rs k) (hb : Below w.heap.size w w1) (hk : k < rs.length) (p q : Nat) (hp : w.heap.size ≤ p) (hpq : p < q) (rp : RowS w1 p rs[k].pa) (rq : RowP w1 q rs[k].ps) :
    MadeR (((((w1.setCell ⟨g, k * 5, none⟩ (.slice (some ⟨p, 0, none⟩) rs[k].pa.length rs[k].pa.length)).setCell ⟨g, k * 5 + 1, none⟩ (.bool rs[k].co)).setCell ⟨g, k * 5 + 2, none⟩ (.string rs[k].bo)).setCell ⟨g, k * 5 + 3, none⟩ (.int .i64 rs[k].ve)).setCell ⟨g, k * 5 + 4, none⟩ (.slice (some ⟨q, 0, none⟩) rs[k].ps.length rs[k].ps.length)) g rs (k + 1) := by
  have m1 := m.below hb
  have hgl := m.lt
  obtain ⟨F0, hr0, pb0, qb0, hj0⟩ := m
  have hlast : ∀ (pb qb : Nat → Nat), True := fun _ _ => trivial
  clear hlast
  refine ⟨_, (((((hr0.of_block (w' := w1) (hb.block _ hr0.lt)).set (k * 5) (.slice (some ⟨p, 0, none⟩) rs[k].pa.length rs[k].pa.length)).set (k * 5 + 1) (.bool rs[k].co)).set (k * 5 + 2) (.string rs[k].bo)).set (k * 5 + 3) (.int .i64 rs[k].ve)).set (k * 5 + 4) (.slice (some ⟨q, 0, none⟩) rs[k].ps.length rs[k].ps.length), fun i => if i = k then p else pb0 i, fun i => if i = k then q else qb0 i, fun j hjl hjk => ?_⟩
  by_cases e : j = k
  · subst e
    refine ⟨by simp, by simp, by simp, by simp, by simp, ?_, ?_, by simp; omega, by simpa using hpq, fun i hi => ?_⟩
    · simp only [if_true]
      exact ((((rp.setCell _ _ (by simp; omega)).setCell _ _ (by simp; omega)).setCell _ _ (by simp; omega)).setCell _ _ (by simp; omega)).setCell _ _ (by simp; omega)
    · simp only [if_true]
      exact ((((rq.setCell _ _ (by simp; omega)).setCell _ _ (by simp; omega)).setCell _ _ (by simp; omega)).setCell _ _ (by simp; omega)).setCell _ _ (by simp; omega)
    · simp only [show ¬ i = j by omega, if_true, if_false]
      have := (hj0 i (by omega) hi).2.2.2.2.2.2.1.1
      omega
  · obtain ⟨e0, e1, e2, e3, e4, e5, e6, e7, e8, e9⟩ := hj0 j hjl (by omega)
    have f5 := e5.below hb
    have f6 := e6.below hb
    simp only [e, if_false]
    refine ⟨?_, ?_, ?_, ?_, ?_, ?_, ?_, e7, e8, fun i hi => ?_⟩
    · simp only [show ¬ j * 5 = k * 5 + 4 by omega, show ¬ j * 5 = k * 5 + 3 by omega, show ¬ j * 5 = k * 5 + 2 by omega, show ¬ j * 5 = k * 5 + 1 by omega, show ¬ j * 5 = k * 5 by omega, if_false]; exact e0
    · simp only [show ¬ j * 5 + 1 = k * 5 + 4 by omega, show ¬ j * 5 + 1 = k * 5 + 3 by omega, show ¬ j * 5 + 1 = k * 5 + 2 by omega, show ¬ j * 5 + 1 = k * 5 + 1 by omega, show ¬ j * 5 + 1 = k * 5 by omega, if_false]; exact e1
    · simp only [show ¬ j * 5 + 2 = k * 5 + 4 by omega, show ¬ j * 5 + 2 = k * 5 + 3 by omega, show ¬ j * 5 + 2 = k * 5 + 2 by omega, show ¬ j * 5 + 2 = k * 5 + 1 by omega, show ¬ j * 5 + 2 = k * 5 by omega, if_false]; exact e2
    · simp only [show ¬ j * 5 + 3 = k * 5 + 4 by omega, show ¬ j * 5 + 3 = k * 5 + 3 by omega, show ¬ j * 5 + 3 = k * 5 + 2 by omega, show ¬ j * 5 + 3 = k * 5 + 1 by omega, show ¬ j * 5 + 3 = k * 5 by omega, if_false]; exact e3
    · simp only [show ¬ j * 5 + 4 = k * 5 + 4 by omega, show ¬ j * 5 + 4 = k * 5 + 3 by omega, show ¬ j * 5 + 4 = k * 5 + 2 by omega, show ¬ j * 5 + 4 = k * 5 + 1 by omega, show ¬ j * 5 + 4 = k * 5 by omega, if_false]; exact e4
    · exact ((((f5.setCell _ _ (by simp; omega)).setCell _ _ (by simp; omega)).setCell _ _ (by simp; omega)).setCell _ _ (by simp; omega)).setCell _ _ (by simp; omega)
    · exact ((((f6.setCell _ _ (by simp; omega)).setCell _ _ (by simp; omega)).setCell _ _ (by simp; omega)).setCell _ _ (by simp; omega)).setCell _ _ (by simp; omega)
    · simp only [show ¬ i = k by omega, if_false]
      exact e9 i hi
theorem MadeR.done {w : World} {g : Nat} {rs : List Rs} {k : Nat} (m : MadeR w g rs k) (hk : ¬ k < rs.length) : ∃ pb qb, OwnR w g w.heap.size g rs pb qb := by
  obtain ⟨F, hr, pb, qb, hj⟩ := m
  refine ⟨pb, qb, Nat.le_refl _, hr.lt, hr.lt, fun i => hr.frozen i, fun j hjl => ?_, fun j hjl => (hj j hjl (by omega)).2.2.2.2.2.1, fun j hjl => (hj j hjl (by omega)).2.2.2.2.2.2.1, fun j hjl => ?_, fun i j hij hjl => ?_⟩
  · obtain ⟨e0, e1, e2, e3, e4, _⟩ := hj j hjl (by omega)
    exact ⟨by rw [hr.cell (by omega), e0], by rw [hr.cell (by omega), e1], by rw [hr.cell (by omega), e2], by rw [hr.cell (by omega), e3], by rw [hr.cell (by omega), e4]⟩
  · obtain ⟨_, _, _, _, _, e5, e6, e7, e8, _⟩ := hj j hjl (by omega)
    have := e6.1
    omega
  · obtain ⟨_, _, _, _, _, _, _, _, e8, e9⟩ := hj j hjl (by omega)
    obtain ⟨_, _, _, _, _, _, _, _, d8, _⟩ := hj i (by omega) (by omega)
    have o1 := e9 i hij
    exact ⟨by omega, by omega, by omega, by omega⟩

end Go.Proofs.Ytafdbnadakclnaa
namespace Go.Proofs.Ytafdbnadakclnaa
open Go.RowKit M
set_option linter.unusedVariables false

/-- How long what a thing has may be. -/
abbrev SzT (rs : List Rs) : Prop := ∀ r ∈ rs, r.pa.length ≤ 1048576 ∧ r.ps.length ≤ 1048576 ∧ (∀ s ∈ r.pa, s.size ≤ 281474976710656) ∧ r.bo.size ≤ 281474976710656 ∧ ∀ p ∈ r.ps, p.1.size ≤ 281474976710656 ∧ p.2.1.size ≤ 281474976710656 ∧ p.2.2.size ≤ 281474976710656

set_option maxRecDepth 100000 in
set_option maxHeartbeats 2000000 in
theorem copyTree_any (a : Option Addr) (rs : List Rs) (cap B : Nat) (w : World) (h : Rss w B a rs) (hB : B ≤ w.heap.size) (hl : rs.length ≤ 1048576) (hs : SzT rs) :
    Calls Try.prog 22 #[.slice a rs.length cap] w fun e w' => e = .returned (.slice (some ⟨w.heap.size, 0, none⟩) rs.length rs.length) ∧ (∃ pb qb, OwnR w' w.heap.size w'.heap.size w.heap.size rs pb qb) ∧ Below w.heap.size w w' := by
  have HS := hide hs
  clear hs
  have hmk := run_make_ress rs.length hl w
  go_enter Try.func22, Try.ntmps22
  go_wp2
  clear hmk
  go_loopw [11] (fun i wr => ∃ k : Nat, k ≤ rs.length ∧ i = .int .i64 k ∧ MadeR wr w.heap.size rs k ∧ Below w.heap.size w wr) (fun i _ => rs.length - (intOf i).toNat)
  case atStart => exact ⟨0, Nat.zero_le _, rfl, MadeR.start w rs, (Below.refl _ _).alloc (Nat.le_refl _) _⟩
  case round =>
    obtain ⟨k, hk, rfl, hrow, hbe⟩ := hrel
    by_cases hlt : k < rs.length
    · obtain ⟨b, o, rfl, hb, hc⟩ := (h.below hbe hB) (by omega)
      obtain ⟨pa, pc, qa, qc, ⟨hc0, hc1, hc2, hc3, hc4⟩, hin⟩ := hc k hlt
      clear hc
      have HSK := hide (HS.out _ (List.getElem_mem hlt))
      have hBA := (Below.refl wr.heap.size wr).alloc (Nat.le_refl _) (Obj.cells #[.slice pa (rs[k]).pa.length pc, .bool (rs[k]).co, .string (rs[k]).bo, .int .i64 (rs[k]).ve, .slice qa (rs[k]).ps.length qc] 35)
      have HC := hide (copyRes_any rs[k] pa pc qa qc B (wr.alloc (Obj.cells #[.slice pa (rs[k]).pa.length pc, .bool (rs[k]).co, .string (rs[k]).bo, .int .i64 (rs[k]).ve, .slice qa (rs[k]).ps.length qc] 35)) (hin.below hBA (Nat.le_trans hB hbe.size)) (by have := hbe.size; simp; omega) HSK.out.1 HSK.out.2.1 HSK.out.2.2.1 HSK.out.2.2.2.1 HSK.out.2.2.2.2)
      have HBA := hide hBA
      have hr0 := hrow.below hBA
      have HR0 := hide hr0
      clear hin hBA hr0 hrow
      go_wp2_with fail
      refine HC.out.mono ?_
      rintro e w1 ⟨⟨p, q, rfl, hp, hpq, rp, rq⟩, hb1⟩
      have c1 := (hbe.trans (HBA.out.mono hbe.size)).trans (hb1.mono (by have := hbe.size; simp; omega))
      obtain ⟨v0, v1, v2, v3, v4, hd0, hd1, hd2, hd3, hd4, hf0, hf1, hf2, hf3, hf4⟩ := (HR0.out.below hb1).cells hlt
      have HR := hide (HR0.out.next hb1 hlt p q hp hpq rp rq)
      clear rp rq hp hpq HC HBA HR0
      go_wp2
      go_roundw
      case rel => exact ⟨k + 1, by omega, by go_num, HR.out, ((((c1.setCell (Nat.le_refl _) _).setCell (Nat.le_refl _) _).setCell (Nat.le_refl _) _).setCell (Nat.le_refl _) _).setCell (Nat.le_refl _) _⟩
      case measure => simp [intOf]; omega
    · go_wp2
      go_ret
      exact ⟨rfl, hrow.done hlt, hbe⟩
end Go.Proofs.Ytafdbnadakclnaa
namespace Go.Proofs.Ytafdbnadakclnaa
open Go.RowKit M
/-- Things handed back that one call made, and a code. -/
def GaveIs (w w' : World) (e : Ending) (rs : List Rs) (c : Int) : Prop := ∃ (g cap : Nat) (pb qb : Nat → Nat), e = .returned (.tuple #[.slice (some ⟨g, 0, none⟩) rs.length cap, .int .i64 c]) ∧ OwnR w' w.heap.size w'.heap.size g rs pb qb

theorem PathsAt.one {w : World} {b : Option Addr} {p : List ByteArray} {cap C : Nat} (h : Strs w C b p) (hC : C ≤ w.heap.size) (hs : Short p) (hl : p.length ≤ maxLen) : PathsAt (w.alloc (Obj.cells #[.slice b p.length cap] 25)) w.heap.size [(p, b, cap)] := by
  have hb := (Below.refl w.heap.size w).alloc (Nat.le_refl _) (Obj.cells #[.slice b p.length cap] 25)
  refine ⟨by simp, fun j hj => ?_, fun j hj => ?_⟩
  · obtain rfl : j = 0 := by simp at hj; omega
    simp
  · obtain rfl : j = 0 := by simp at hj; omega
    exact ⟨(h.below hb hC).mono (by simp; omega), hs, hl⟩

theorem OwnR.down {w : World} {lo lo' hi g : Nat} {rs : List Rs} {pb qb : Nat → Nat} (h : OwnR w lo hi g rs pb qb) (hl : lo' ≤ lo) : OwnR w lo' hi g rs pb qb :=
  ⟨Nat.le_trans hl h.gl, h.gh, h.gs, h.fz, h.cl, h.rp, h.rq, fun j hj => by obtain ⟨k1, k2⟩ := h.bnd j hj; exact ⟨Nat.le_trans hl k1, k2⟩, h.ord⟩
end Go.Proofs.Ytafdbnadakclnaa
namespace Go.Proofs.Ytafdbnadakclnaa
open Go.RowKit
set_option linter.unusedVariables false

set_option maxHeartbeats 400000 in
theorem under_any (a b : Option Addr) (ss tt : List ByteArray) (cap cap' B C : Nat) (w : World) (h : Strs w B a ss) (h' : Strs w C b tt) (hl : ss.length ≤ maxLen) (hl' : tt.length ≤ maxLen) (hc : ss.length ≤ cap) (hc' : cap ≤ maxLen) :
    Calls Try.prog 11 #[.slice a ss.length cap, .slice b tt.length cap'] w fun e w' => e = .returned (.bool (underB ss tt)) ∧ ∀ D, Below D w w' := by
  have hl1 := hl
  have hl2 := hl'
  have hc2 := hc'
  unfold maxLen at hl hl' hc'
  by_cases hlt : tt.length < ss.length
  · have ht : (ss.take tt.length).length = tt.length := by rw [List.length_take]; omega
    have cE := fun w1 cap1 (hh : Strs w1 B a ss) (hh' : Strs w1 C b tt) => slicesEqual_any a b (ss.take tt.length) tt cap1 cap' B C w1 (hh.take _) hh' (by omega) hl2
    rw [ht] at cE
    obtain ⟨b1, o1, rfl, _, _⟩ := h (by omega)
    go_enter Try.func11, Try.ntmps11
    go_wp2_with fail
    refine (cE _ _ h h').mono ?_
    rintro e w1 ⟨rfl, hb⟩
    go_wp2
    go_ret
    exact ⟨ret_bool (by simp [underB, hlt]), hb⟩
  · go_enter Try.func11, Try.ntmps11
    go_wp2
    go_ret
    exact ⟨ret_bool (by simp [underB, hlt]), fun D => Below.refl _ _⟩

end Go.Proofs.Ytafdbnadakclnaa
namespace Go.Proofs.Ytafdbnadakclnaa
open Go.RowKit M
set_option linter.unusedVariables false

/-- Whether the first is the second, or stands under it. -/
def deepP (ss tt : List ByteArray) : Bool := sameL ss tt || underB ss tt

set_option maxHeartbeats 1000000 in
theorem isDeep_any (a b : Option Addr) (ss tt : List ByteArray) (cap cap' B C : Nat) (w : World) (h : Strs w B a ss) (h' : Strs w C b tt) (hl : ss.length ≤ maxLen) (hl' : tt.length ≤ maxLen) (hc : ss.length ≤ cap) (hm : cap ≤ maxLen) :
    Calls Try.prog 32 #[.slice a ss.length cap, .slice b tt.length cap'] w fun e w' => e = .returned (.bool (deepP ss tt)) ∧ ∀ D, Below D w w' := by
  have HQ1 := hide (samePath_any a b ss tt cap cap' B C w h h' hl hl')
  have HQ2 := hide (fun W (x : Strs W B a ss) (y : Strs W C b tt) => under_any a b ss tt cap cap' B C W x y hl hl' hc hm)
  have HD := hide (show deepP ss tt = (sameL ss tt || underB ss tt) from rfl)
  generalize deepP ss tt = z at *
  generalize sameL ss tt = z1 at *
  generalize underB ss tt = z2 at *
  cases z1
  · go_enter Try.func32, Try.ntmps32
    go_wp2_with fail
    refine HQ1.out.mono ?_
    rintro e w1 ⟨rfl, hb1⟩
    have X1 := hide (HQ2.out w1 (h.below (hb1 B) (Nat.le_refl _)) (h'.below (hb1 C) (Nat.le_refl _)))
    clear HQ1 HQ2
    go_wp2_with fail
    refine X1.out.mono ?_
    rintro e w2 ⟨rfl, hb2⟩
    have HZ := hide (HD.out.trans (Bool.false_or z2))
    clear HD X1
    go_wp2
    go_ret
    exact ⟨by rw [HZ.out]; rfl, fun D => (hb1 D).trans (hb2 D)⟩
  · have HZ := hide (HD.out.trans (Bool.true_or z2))
    clear HD
    go_enter Try.func32, Try.ntmps32
    go_wp2_with fail
    refine HQ1.out.mono ?_
    rintro e w1 ⟨rfl, hb1⟩
    go_wp2
    go_ret
    exact ⟨by rw [HZ.out]; rfl, hb1⟩
end Go.Proofs.Ytafdbnadakclnaa
namespace Go.Proofs.Ytafdbnadakclnaa
open Go.RowKit M
set_option linter.unusedVariables false
set_option linter.unusedSimpArgs false

set_option maxRecDepth 100000 in
set_option maxHeartbeats 4000000 in
theorem without_grow (a : Option Addr) (rs : List Rs) (cap B : Nat) (b : Option Addr) (p : List ByteArray) (cap' C : Nat) (w : World) (h : Rss w B a rs) (h' : Strs w C b p) (hB : B ≤ w.heap.size) (hC : C ≤ w.heap.size) (hl : rs.length ≤ 1048576) (hl' : p.length ≤ 1048576) (hs : ∀ r ∈ rs, r.pa.length ≤ 1048576 ∧ r.ps.length ≤ 1048576 ∧ (∀ s ∈ r.pa, s.size ≤ 281474976710656) ∧ r.bo.size ≤ 281474976710656 ∧ ∀ p ∈ r.ps, p.1.size ≤ 281474976710656 ∧ p.2.1.size ≤ 281474976710656 ∧ p.2.2.size ≤ 281474976710656) :
    Calls Try.prog 23 #[.slice a rs.length cap, .slice b p.length cap'] w fun e w' => (∃ (v : Value) (ts : List RsT), e = .returned v ∧ GrowR w' w.heap.size v ts w'.heap.size ∧ ts.map (·.r) = withoutL rs p ∧ (∀ j (hj : j < ts.length), ts[j].pc = ts[j].r.pa.length ∧ ts[j].qc = ts[j].r.ps.length)) ∧ Below w.heap.size w w' := by
  have HS := hide hs
  have hpm : p.length ≤ maxLen := by unfold maxLen; omega
  clear hs
  go_enter Try.func23, Try.ntmps23
  go_wp2
  go_loopw [5, 11] (fun v i wr => ∃ (k lo : Nat) (ts : List RsT), k ≤ rs.length ∧ i = .int .i64 k ∧ GrowR wr w.heap.size v ts lo ∧ w.heap.size ≤ lo ∧ ts.map (·.r) = (rs.take k).filter (fun r => !deepB p r) ∧ (∀ j (hj : j < ts.length), ts[j].pc = ts[j].r.pa.length ∧ ts[j].qc = ts[j].r.ps.length) ∧ Below w.heap.size w wr) (fun _ i _ => rs.length - (intOf i).toNat)
  case atStart => exact ⟨0, w.heap.size + 1, [], Nat.zero_le _, rfl, GrowR.made w w.heap.size (Nat.le_refl _), by omega, rfl, fun j hj => absurd hj (Nat.not_lt_zero _), (Below.refl _ _).alloc (Nat.le_refl _) _⟩
  case round =>
    obtain ⟨k, lo, ts, hk, rfl, hG, hlo, hts, hcc, hbe⟩ := hrel
    have HG := hide hG
    have HTS := hide hts
    have HCC := hide hcc
    clear hG hts hcc
    by_cases hlt : k < rs.length
    · obtain ⟨b1, o1, rfl, hb1, hcc⟩ := (h.below hbe hB) (by omega)
      obtain ⟨pa, pc, qa, qc, ⟨hc0, hc1, hc2, hc3, hc4⟩, hin⟩ := hcc k hlt
      clear hcc
      have hsk := HS.out _ (List.getElem_mem hlt)
      have HBA := hide ((Below.refl wr.heap.size wr).alloc (Nat.le_refl _) (Obj.cells #[.slice pa (rs[k]).pa.length pc, .bool (rs[k]).co, .string (rs[k]).bo, .int .i64 (rs[k]).ve, .slice qa (rs[k]).ps.length qc] 35))
      have hin2 := hin.below HBA.out (Nat.le_trans hB hbe.size)
      have hp2 := (h'.below hbe hC).below HBA.out (Nat.le_trans hC hbe.size)
      have hkm : (rs[k]).pa.length ≤ maxLen := Nat.le_trans hin2.pl hin2.pm
      have HQ1 := hide (isDeep_any pa b rs[k].pa p pc cap' B C _ hin2.ph hp2 hkm hpm hin2.pl hin2.pm)
      have HI := hide hin2
      have HSK := hide hsk
      have HD := hide (show deepB p rs[k] = deepP rs[k].pa p from rfl)
      generalize deepP rs[k].pa p = z1 at *
      clear hin hin2 hsk hp2 hkm
      -- the one that is not taken
      have no : z1 = true → Hid ((rs.take (k + 1)).filter (fun r => !deepB p r) = (rs.take k).filter (fun r => !deepB p r)) := fun e1 => filter_no (q := (fun r => !deepB p r)) hlt (by simp only [HD.out, e1, Bool.not_true, Bool.not_false])
      have yes : z1 = false → Hid ((rs.take (k + 1)).filter (fun r => !deepB p r) = (rs.take k).filter (fun r => !deepB p r) ++ [rs[k]]) := fun e1 => filter_yes (q := (fun r => !deepB p r)) hlt (by simp only [HD.out, e1, Bool.not_true, Bool.not_false])
      have NO := hide no
      have YES := hide yes
      have HL := hide (show ts.length ≤ rs.length by
        have e1 : ts.length = ((rs.take k).filter (fun r => !deepB p r)).length := by have := congrArg List.length HTS.out; simpa using this
        rw [e1]; exact filter_len rs k)
      clear no yes HD
      by_cases ez : z1 = true
      · subst ez
        have HF := NO.out rfl
        clear NO YES HSK
        go_wp2_with fail
        refine HQ1.out.mono ?_
        rintro e w1 ⟨rfl, hb3⟩
        have b4 := HBA.out.trans (hb3 _)
        have c1 := hbe.trans (b4.mono hbe.size)
        have HG2 := hide (HG.out.next b4)
        clear hb3 b4 HQ1
        go_wp2
        go_roundw
        case rel => exact ⟨k + 1, lo, ts, by omega, by go_num, HG2.out, hlo, by rw [HF.out]; exact HTS.out, HCC.out, c1⟩
        case measure => simp [intOf]; omega
      · obtain rfl : z1 = false := by cases z1 <;> simp at ez ⊢
        clear ez
        have HF := YES.out rfl
        clear NO YES
        go_wp2_with fail
        refine HQ1.out.mono ?_
        rintro e w2 ⟨rfl, hall⟩
        have b4 := HBA.out.trans (hall _)
        have HI2 := hide (HI.out.below (hall B) (Nat.le_refl _))
        clear HQ1
        have hc5 : ∀ o v, (wr.alloc (Obj.cells #[.slice pa (rs[k]).pa.length pc, .bool (rs[k]).co, .string (rs[k]).bo, .int .i64 (rs[k]).ve, .slice qa (rs[k]).ps.length qc] 35)).cell? ⟨wr.heap.size, o, none⟩ = some v → w2.cell? ⟨wr.heap.size, o, none⟩ = some v := fun o v hv => ((hall (wr.heap.size + 1)).cell (p := ⟨wr.heap.size, o, none⟩) (Nat.lt_succ_self _)).trans hv
        have d0 := hc5 0 (.slice pa (rs[k]).pa.length pc) (by simp)
        have d1 := hc5 1 (.bool (rs[k]).co) (by simp)
        have d2 := hc5 2 (.string (rs[k]).bo) (by simp)
        have d3 := hc5 3 (.int .i64 (rs[k]).ve) (by simp)
        have d4 := hc5 4 (.slice qa (rs[k]).ps.length qc) (by simp)
        have c1 := hbe.trans (b4.mono hbe.size)
        have HG2 := hide (HG.out.next b4)
        have hlo2 : lo ≤ w2.heap.size := Nat.le_trans HG.out.top b4.size
        have HCp := hide (copyRes_any rs[k] pa pc qa qc B w2 HI2.out (Nat.le_trans hB c1.size) HSK.out.1 HSK.out.2.1 HSK.out.2.2.1 HSK.out.2.2.2.1 HSK.out.2.2.2.2)
        have hlen := HL.out
        have hk1 := HSK.out.1
        have hk2 := HSK.out.2.1
        clear hc5 hall b4 HI2
        go_wp2_with fail
        refine HCp.out.mono ?_
        rintro e w3 ⟨⟨pp, qq, rfl, hpp, hpq, r3, q3⟩, b5⟩
        have c3 := c1.trans (b5.mono c1.size)
        have bA := (Below.refl w3.heap.size w3).alloc (Nat.le_refl _) (Obj.cells #[.slice (some ⟨pp, 0, none⟩) (rs[k]).pa.length (rs[k]).pa.length, .bool (rs[k]).co, .string (rs[k]).bo, .int .i64 (rs[k]).ve, .slice (some ⟨qq, 0, none⟩) (rs[k]).ps.length (rs[k]).ps.length] 35)
        have HG4 := hide ((HG2.out.next b5).next bA)
        have HR := hide (r3.below bA)
        have HQ := hide (q3.below bA)
        have HC4 := hide (c3.trans (bA.mono c3.size))
        clear r3 q3 b5 bA c1 c3 d0 d1 d2 d3 d4 HCp
        go_wp2_with (at_builtin; refine wp_append_res rfl _ _ rfl w.heap.size lo _ ts rfl HG4.out w3.heap.size ⟨rs[k], pp, (rs[k]).pa.length, qq, (rs[k]).ps.length⟩ rfl ?_ ?_ hlo (Nat.le_trans hlo2 hpp) hpq HR.out HQ.out ?_ ?_)
        · exact ⟨by simp, by simp, by simp, by simp, by simp⟩
        · omega
        · exact ⟨by unfold maxLen; omega, by unfold maxLen; omega⟩
        · intro v' w' hG' hB'
          have HG' := hide hG'
          have HC' := hide (HC4.out.trans hB')
          clear hG' hB'
          go_wp2
          go_roundw
          case rel => exact ⟨k + 1, _, _, by omega, by go_num, HG'.out, HC'.out.size, by rw [HF.out, List.map_append, HTS.out]; rfl, caps_snoc HCC.out, HC'.out⟩
          case measure => simp [intOf]; omega
    · have HF := hide (filter_end (q := (fun r => !deepB p r)) hlt)
      have HM := hide (show ts.map (·.r) = withoutL rs p by rw [HTS.out, HF.out]; rfl)
      have HG3 := hide (HG.out.up HG.out.top (Nat.le_refl _))
      clear HTS HF
      go_wp2
      go_ret
      exact ⟨⟨_, ts, rfl, HG3.out, HM.out, HCC.out⟩, hbe⟩
end Go.Proofs.Ytafdbnadakclnaa
namespace Go.Proofs.Ytafdbnadakclnaa
open M
/-- What Remove says, and answers. -/
def remI (rs : List Rs) (p : List ByteArray) : Int := if mayI rs p 0 ≠ 0 then mayI rs p 0 else if p.length = 0 then 403 else if findI rs p < 0 then 404 else 0
def remR (rs : List Rs) (p : List ByteArray) : List Rs := if remI rs p = 0 then withoutL rs p else rs
def remC (c : Int) : Int := if c = 0 then 204 else c

end Go.Proofs.Ytafdbnadakclnaa
namespace Go.Proofs.Ytafdbnadakclnaa
open Go.RowKit M
set_option linter.unusedVariables false

set_option maxHeartbeats 1000000 in
theorem removeRefused_any (a : Option Addr) (rs : List Rs) (cap B : Nat) (b : Option Addr) (p : List ByteArray) (cap' C : Nat) (w : World) (h : Rss w B a rs) (h' : Strs w C b p) (hB : B ≤ w.heap.size) (hC : C ≤ w.heap.size) (hs : ShortT rs) (hl : rs.length ≤ maxLen) (hs' : Short p) (hl' : p.length ≤ maxLen) :
    Calls Try.prog 21 #[.slice a rs.length cap, .slice b p.length cap'] w fun e w' => e = .returned (.int .i64 (remI rs p)) ∧ Below w.heap.size w w' := by
  have hb0 := (Below.refl w.heap.size w).alloc (Nat.le_refl _) (Obj.cells #[.slice b p.length cap'] 25)
  have hA := askRefused_any a rs cap B 0 w.heap.size 1 [(p, b, cap')] (by simp) (w.alloc (Obj.cells #[.slice b p.length cap'] 25)) (h.below hb0 hB) (by simp; omega) hs hl (PathsAt.one h' hC hs' hl')
  rw [askI_one] at hA
  have HA := hide hA
  have HB0 := hide hb0
  have HT := hide (fun W (hb : Below w.heap.size w W) => isThere_any a rs cap B b p cap' C W (h.below hb hB) (h'.below hb hC) hl hl' (Nat.le_trans hB hb.size) (Nat.le_trans hC hb.size))
  have HE := hide (show remI rs p = if mayI rs p 0 ≠ 0 then mayI rs p 0 else if p.length = 0 then 403 else if findI rs p < 0 then 404 else 0 from rfl)
  have HH := hide (show thereB rs p = (decide (p.length = 0) || decide (0 ≤ findI rs p)) from rfl)
  generalize remI rs p = E at *
  generalize mayI rs p 0 = m at *
  generalize findI rs p = F at *
  generalize thereB rs p = z at *
  clear hA hb0
  by_cases hm : m = 0
  · subst hm
    by_cases h0 : p.length = 0
    · have HE' := hide (HE.out.trans ((if_neg (by simp)).trans (if_pos h0)))
      have e0 : ((p.length : Int) == 0) = true := by rw [h0]; rfl
      clear HE HH h0
      go_enter Try.func21, Try.ntmps21
      go_wp2_with fail
      refine HA.out.mono ?_
      rintro e w1 ⟨rfl, b1⟩
      have c1 := HB0.out.trans (b1.mono HB0.out.size)
      clear HA HT
      go_wp2
      go_ret
      exact ⟨by rw [HE'.out]; rfl, c1⟩
    · have e0 : ((p.length : Int) == 0) = false := by rw [beq_eq_false_iff_ne]; omega
      have HZ := hide (show z = decide (0 ≤ F) by rw [HH.out]; simp [h0])
      by_cases hF : F < 0
      · have HE' := hide (HE.out.trans ((if_neg (by simp)).trans ((if_neg h0).trans (if_pos hF))))
        obtain rfl : z = false := by rw [HZ.out]; simp; omega
        clear HE HH HZ
        go_enter Try.func21, Try.ntmps21
        go_wp2_with fail
        refine HA.out.mono ?_
        rintro e w1 ⟨rfl, b1⟩
        have c1 := HB0.out.trans (b1.mono HB0.out.size)
        have X1 := hide (HT.out w1 c1)
        clear HA HT
        go_wp2_with fail
        refine X1.out.mono ?_
        rintro e w2 ⟨rfl, b2⟩
        go_wp2
        go_ret
        exact ⟨by rw [HE'.out]; rfl, c1.trans (b2.mono c1.size)⟩
      · have HE' := hide (HE.out.trans ((if_neg (by simp)).trans ((if_neg h0).trans (if_neg hF))))
        obtain rfl : z = true := by rw [HZ.out]; simp; omega
        clear HE HH HZ
        go_enter Try.func21, Try.ntmps21
        go_wp2_with fail
        refine HA.out.mono ?_
        rintro e w1 ⟨rfl, b1⟩
        have c1 := HB0.out.trans (b1.mono HB0.out.size)
        have X1 := hide (HT.out w1 c1)
        clear HA HT
        go_wp2_with fail
        refine X1.out.mono ?_
        rintro e w2 ⟨rfl, b2⟩
        go_wp2
        go_ret
        exact ⟨by rw [HE'.out]; rfl, c1.trans (b2.mono c1.size)⟩
  · have HE' := hide (HE.out.trans (if_pos hm))
    have e0 : (m == 0) = false := by rw [beq_eq_false_iff_ne]; exact hm
    clear HE HH
    go_enter Try.func21, Try.ntmps21
    go_wp2_with fail
    refine HA.out.mono ?_
    rintro e w1 ⟨rfl, b1⟩
    have c1 := HB0.out.trans (b1.mono HB0.out.size)
    clear HA HT
    go_wp2
    go_ret
    exact ⟨by rw [HE'.out]; rfl, c1⟩

set_option maxHeartbeats 1000000 in
theorem remove_any (a : Option Addr) (rs : List Rs) (cap B : Nat) (b : Option Addr) (p : List ByteArray) (cap' C : Nat) (w : World) (h : Rss w B a rs) (h' : Strs w C b p) (hB : B ≤ w.heap.size) (hC : C ≤ w.heap.size) (hs : ShortT rs) (hl : rs.length ≤ 1048576) (hz : SzT rs) (hs' : Short p) (hl' : p.length ≤ 1048576) :
    Calls Try.prog 7 #[.slice a rs.length cap, .slice b p.length cap'] w fun e w' => GaveIs w w' e (remR rs p) (remC (remI rs p)) ∧ Below w.heap.size w w' := by
  have hlm : rs.length ≤ maxLen := by unfold maxLen; omega
  have hlm' : p.length ≤ maxLen := by unfold maxLen; omega
  have HA := hide (removeRefused_any a rs cap B b p cap' C w h h' hB hC hs hlm hs' hlm')
  have HC := hide (fun W (hb : Below w.heap.size w W) => copyTree_any a rs cap B W (h.below hb hB) (Nat.le_trans hB hb.size) hl hz)
  have HW := hide (fun W (hb : Below w.heap.size w W) => without_grow a rs cap B b p cap' C W (h.below hb hB) (h'.below hb hC) (Nat.le_trans hB hb.size) (Nat.le_trans hC hb.size) hl hl' hz)
  have HR := hide (show remR rs p = if remI rs p = 0 then withoutL rs p else rs from rfl)
  generalize remR rs p = R at *
  generalize remI rs p = m at *
  by_cases hm : m = 0
  · subst hm
    have HR' := hide (HR.out.trans (if_pos rfl))
    clear HR
    go_enter Try.func7, Try.ntmps7
    go_wp2_with fail
    refine HA.out.mono ?_
    rintro e w1 ⟨rfl, b1⟩
    have X1 := hide (HW.out w1 b1)
    clear HA HC HW
    go_wp2_with fail
    refine X1.out.mono ?_
    rintro e w2 ⟨⟨v, ts, rfl, hG, hm, hcp⟩, b2⟩
    obtain ⟨g, cap2, hv, hO⟩ := hG.done hcp
    rw [hm, ← HR'.out] at hO
    have hll : ts.length = R.length := by rw [HR'.out, ← hm]; simp
    rw [hll] at hv
    subst hv
    have HO := hide (show OwnR w2 w.heap.size w2.heap.size g R _ _ from ⟨Nat.le_trans b1.size hO.gl, hO.gh, hO.gs, hO.fz, hO.cl, hO.rp, hO.rq, fun j hj => by obtain ⟨k1, k2⟩ := hO.bnd j hj; exact ⟨Nat.le_trans b1.size k1, k2⟩, hO.ord⟩)
    clear hO hG hm hll X1
    go_wp2
    go_ret2
    exact ⟨⟨g, cap2, _, _, rfl, HO.out⟩, b1.trans (b2.mono b1.size)⟩
  · have HR' := hide (HR.out.trans (if_neg hm))
    have HM := hide (show remC m = m by unfold remC; rw [if_neg hm])
    have e0 : (m == 0) = false := by rw [beq_eq_false_iff_ne]; exact hm
    clear HR
    go_enter Try.func7, Try.ntmps7
    go_wp2_with fail
    refine HA.out.mono ?_
    rintro e w1 ⟨rfl, b1⟩
    have X1 := hide (HC.out w1 b1)
    clear HA HC HW
    go_wp2_with fail
    refine X1.out.mono ?_
    rintro e w2 ⟨rfl, ⟨pb, qb, hO⟩, b2⟩
    have HO := hide (show OwnR w2 w.heap.size w2.heap.size w1.heap.size rs _ _ from ⟨b1.size, hO.gh, hO.gs, hO.fz, hO.cl, hO.rp, hO.rq, fun j hj => by obtain ⟨k1, k2⟩ := hO.bnd j hj; exact ⟨Nat.le_trans b1.size k1, k2⟩, hO.ord⟩)
    clear hO X1
    go_wp2
    go_ret2
    exact ⟨⟨w1.heap.size, rs.length, _, _, by rw [HR'.out, HM.out]; rfl, by rw [HR'.out]; exact HO.out⟩, b1.trans (b2.mono b1.size)⟩
end Go.Proofs.Ytafdbnadakclnaa
namespace Go.Proofs.Ytafdbnadakclnaa
open Go.RowKit M
set_option linter.unusedVariables false
set_option linter.unusedSimpArgs false

set_option maxRecDepth 100000 in
set_option maxHeartbeats 4000000 in
theorem deepOf_grow (a : Option Addr) (rs : List Rs) (cap B : Nat) (b : Option Addr) (p : List ByteArray) (cap' C : Nat) (w : World) (h : Rss w B a rs) (h' : Strs w C b p) (hB : B ≤ w.heap.size) (hC : C ≤ w.heap.size) (hl : rs.length ≤ 1048576) (hl' : p.length ≤ 1048576) (hs : ∀ r ∈ rs, r.pa.length ≤ 1048576 ∧ r.ps.length ≤ 1048576 ∧ (∀ s ∈ r.pa, s.size ≤ 281474976710656) ∧ r.bo.size ≤ 281474976710656 ∧ ∀ p ∈ r.ps, p.1.size ≤ 281474976710656 ∧ p.2.1.size ≤ 281474976710656 ∧ p.2.2.size ≤ 281474976710656) :
    Calls Try.prog 13 #[.slice a rs.length cap, .slice b p.length cap'] w fun e w' => (∃ (v : Value) (ts : List RsT), e = .returned v ∧ GrowR w' w.heap.size v ts w'.heap.size ∧ ts.map (·.r) = deepL rs p ∧ (∀ j (hj : j < ts.length), ts[j].pc = ts[j].r.pa.length ∧ ts[j].qc = ts[j].r.ps.length)) ∧ Below w.heap.size w w' := by
  have HS := hide hs
  have hpm : p.length ≤ maxLen := by unfold maxLen; omega
  clear hs
  go_enter Try.func13, Try.ntmps13
  go_wp2
  go_loopw [5, 11] (fun v i wr => ∃ (k lo : Nat) (ts : List RsT), k ≤ rs.length ∧ i = .int .i64 k ∧ GrowR wr w.heap.size v ts lo ∧ w.heap.size ≤ lo ∧ ts.map (·.r) = (rs.take k).filter (deepB p) ∧ (∀ j (hj : j < ts.length), ts[j].pc = ts[j].r.pa.length ∧ ts[j].qc = ts[j].r.ps.length) ∧ Below w.heap.size w wr) (fun _ i _ => rs.length - (intOf i).toNat)
  case atStart => exact ⟨0, w.heap.size + 1, [], Nat.zero_le _, rfl, GrowR.made w w.heap.size (Nat.le_refl _), by omega, rfl, fun j hj => absurd hj (Nat.not_lt_zero _), (Below.refl _ _).alloc (Nat.le_refl _) _⟩
  case round =>
    obtain ⟨k, lo, ts, hk, rfl, hG, hlo, hts, hcc, hbe⟩ := hrel
    have HG := hide hG
    have HTS := hide hts
    have HCC := hide hcc
    clear hG hts hcc
    by_cases hlt : k < rs.length
    · obtain ⟨b1, o1, rfl, hb1, hcc⟩ := (h.below hbe hB) (by omega)
      obtain ⟨pa, pc, qa, qc, ⟨hc0, hc1, hc2, hc3, hc4⟩, hin⟩ := hcc k hlt
      clear hcc
      have hsk := HS.out _ (List.getElem_mem hlt)
      have HBA := hide ((Below.refl wr.heap.size wr).alloc (Nat.le_refl _) (Obj.cells #[.slice pa (rs[k]).pa.length pc, .bool (rs[k]).co, .string (rs[k]).bo, .int .i64 (rs[k]).ve, .slice qa (rs[k]).ps.length qc] 35))
      have hin2 := hin.below HBA.out (Nat.le_trans hB hbe.size)
      have hp2 := (h'.below hbe hC).below HBA.out (Nat.le_trans hC hbe.size)
      have hkm : (rs[k]).pa.length ≤ maxLen := Nat.le_trans hin2.pl hin2.pm
      have HQ1 := hide (isDeep_any pa b rs[k].pa p pc cap' B C _ hin2.ph hp2 hkm hpm hin2.pl hin2.pm)
      have HI := hide hin2
      have HSK := hide hsk
      have HD := hide (show deepB p rs[k] = deepP rs[k].pa p from rfl)
      generalize deepP rs[k].pa p = z1 at *
      clear hin hin2 hsk hp2 hkm
      -- the one that is not taken
      have no : z1 = false → Hid ((rs.take (k + 1)).filter (deepB p) = (rs.take k).filter (deepB p)) := fun e1 => filter_no (q := (deepB p)) hlt (by simp only [HD.out, e1, Bool.not_true, Bool.not_false])
      have yes : z1 = true → Hid ((rs.take (k + 1)).filter (deepB p) = (rs.take k).filter (deepB p) ++ [rs[k]]) := fun e1 => filter_yes (q := (deepB p)) hlt (by simp only [HD.out, e1, Bool.not_true, Bool.not_false])
      have NO := hide no
      have YES := hide yes
      have HL := hide (show ts.length ≤ rs.length by
        have e1 : ts.length = ((rs.take k).filter (deepB p)).length := by have := congrArg List.length HTS.out; simpa using this
        rw [e1]; exact filter_len rs k)
      clear no yes HD
      by_cases ez : z1 = false
      · subst ez
        have HF := NO.out rfl
        clear NO YES HSK
        go_wp2_with fail
        refine HQ1.out.mono ?_
        rintro e w1 ⟨rfl, hb3⟩
        have b4 := HBA.out.trans (hb3 _)
        have c1 := hbe.trans (b4.mono hbe.size)
        have HG2 := hide (HG.out.next b4)
        clear hb3 b4 HQ1
        go_wp2
        go_roundw
        case rel => exact ⟨k + 1, lo, ts, by omega, by go_num, HG2.out, hlo, by rw [HF.out]; exact HTS.out, HCC.out, c1⟩
        case measure => simp [intOf]; omega
      · obtain rfl : z1 = true := by cases z1 <;> simp at ez ⊢
        clear ez
        have HF := YES.out rfl
        clear NO YES
        go_wp2_with fail
        refine HQ1.out.mono ?_
        rintro e w2 ⟨rfl, hall⟩
        have b4 := HBA.out.trans (hall _)
        have HI2 := hide (HI.out.below (hall B) (Nat.le_refl _))
        clear HQ1
        have hc5 : ∀ o v, (wr.alloc (Obj.cells #[.slice pa (rs[k]).pa.length pc, .bool (rs[k]).co, .string (rs[k]).bo, .int .i64 (rs[k]).ve, .slice qa (rs[k]).ps.length qc] 35)).cell? ⟨wr.heap.size, o, none⟩ = some v → w2.cell? ⟨wr.heap.size, o, none⟩ = some v := fun o v hv => ((hall (wr.heap.size + 1)).cell (p := ⟨wr.heap.size, o, none⟩) (Nat.lt_succ_self _)).trans hv
        have d0 := hc5 0 (.slice pa (rs[k]).pa.length pc) (by simp)
        have d1 := hc5 1 (.bool (rs[k]).co) (by simp)
        have d2 := hc5 2 (.string (rs[k]).bo) (by simp)
        have d3 := hc5 3 (.int .i64 (rs[k]).ve) (by simp)
        have d4 := hc5 4 (.slice qa (rs[k]).ps.length qc) (by simp)
        have c1 := hbe.trans (b4.mono hbe.size)
        have HG2 := hide (HG.out.next b4)
        have hlo2 : lo ≤ w2.heap.size := Nat.le_trans HG.out.top b4.size
        have HCp := hide (copyRes_any rs[k] pa pc qa qc B w2 HI2.out (Nat.le_trans hB c1.size) HSK.out.1 HSK.out.2.1 HSK.out.2.2.1 HSK.out.2.2.2.1 HSK.out.2.2.2.2)
        have hlen := HL.out
        have hk1 := HSK.out.1
        have hk2 := HSK.out.2.1
        clear hc5 hall b4 HI2
        go_wp2_with fail
        refine HCp.out.mono ?_
        rintro e w3 ⟨⟨pp, qq, rfl, hpp, hpq, r3, q3⟩, b5⟩
        have c3 := c1.trans (b5.mono c1.size)
        have bA := (Below.refl w3.heap.size w3).alloc (Nat.le_refl _) (Obj.cells #[.slice (some ⟨pp, 0, none⟩) (rs[k]).pa.length (rs[k]).pa.length, .bool (rs[k]).co, .string (rs[k]).bo, .int .i64 (rs[k]).ve, .slice (some ⟨qq, 0, none⟩) (rs[k]).ps.length (rs[k]).ps.length] 35)
        have HG4 := hide ((HG2.out.next b5).next bA)
        have HR := hide (r3.below bA)
        have HQ := hide (q3.below bA)
        have HC4 := hide (c3.trans (bA.mono c3.size))
        clear r3 q3 b5 bA c1 c3 d0 d1 d2 d3 d4 HCp
        go_wp2_with (at_builtin; refine wp_append_res rfl _ _ rfl w.heap.size lo _ ts rfl HG4.out w3.heap.size ⟨rs[k], pp, (rs[k]).pa.length, qq, (rs[k]).ps.length⟩ rfl ?_ ?_ hlo (Nat.le_trans hlo2 hpp) hpq HR.out HQ.out ?_ ?_)
        · exact ⟨by simp, by simp, by simp, by simp, by simp⟩
        · omega
        · exact ⟨by unfold maxLen; omega, by unfold maxLen; omega⟩
        · intro v' w' hG' hB'
          have HG' := hide hG'
          have HC' := hide (HC4.out.trans hB')
          clear hG' hB'
          go_wp2
          go_roundw
          case rel => exact ⟨k + 1, _, _, by omega, by go_num, HG'.out, HC'.out.size, by rw [HF.out, List.map_append, HTS.out]; rfl, caps_snoc HCC.out, HC'.out⟩
          case measure => simp [intOf]; omega
    · have HF := hide (filter_end (q := (deepB p)) hlt)
      have HM := hide (show ts.map (·.r) = deepL rs p by rw [HTS.out, HF.out]; rfl)
      have HG3 := hide (HG.out.up HG.out.top (Nat.le_refl _))
      clear HTS HF
      go_wp2
      go_ret
      exact ⟨⟨_, ts, rfl, HG3.out, HM.out, HCC.out⟩, hbe⟩
end Go.Proofs.Ytafdbnadakclnaa
namespace Go.Proofs.Ytafdbnadakclnaa
open Go.RowKit M
set_option linter.unusedVariables false

theorem deepOf_any (a : Option Addr) (rs : List Rs) (cap B : Nat) (b : Option Addr) (p : List ByteArray) (cap' C : Nat) (w : World) (h : Rss w B a rs) (h' : Strs w C b p) (hB : B ≤ w.heap.size) (hC : C ≤ w.heap.size) (hl : rs.length ≤ 1048576) (hl' : p.length ≤ 1048576) (hs : ∀ r ∈ rs, r.pa.length ≤ 1048576 ∧ r.ps.length ≤ 1048576 ∧ (∀ s ∈ r.pa, s.size ≤ 281474976710656) ∧ r.bo.size ≤ 281474976710656 ∧ ∀ p ∈ r.ps, p.1.size ≤ 281474976710656 ∧ p.2.1.size ≤ 281474976710656 ∧ p.2.2.size ≤ 281474976710656) :
    Calls Try.prog 13 #[.slice a rs.length cap, .slice b p.length cap'] w fun e w' => (∃ g cap2 pb qb, e = .returned (.slice (some ⟨g, 0, none⟩) (deepL rs p).length cap2) ∧ OwnR w' w.heap.size w'.heap.size g (deepL rs p) pb qb) ∧ Below w.heap.size w w' := by
  refine (deepOf_grow a rs cap B b p cap' C w h h' hB hC hl hl' hs).mono ?_
  rintro e w' ⟨⟨v, ts, rfl, hG, hm, hcp⟩, hb⟩
  obtain ⟨g, cap2, hv, hO⟩ := hG.done hcp
  rw [hm] at hO
  have hll : ts.length = (deepL rs p).length := by rw [← hm]; simp
  rw [hll] at hv
  subst hv
  exact ⟨⟨g, cap2, _, _, rfl, hO⟩, hb⟩
end Go.Proofs.Ytafdbnadakclnaa
namespace Go.Proofs.Ytafdbnadakclnaa
open M

theorem without_mem {rs : List Rs} {p : List ByteArray} {r : Rs} : r ∈ withoutL rs p ↔ r ∈ rs ∧ deepB p r = false := by
  unfold withoutL
  rw [List.mem_filter]
  simp
/-- What is left of right things is right. -/
theorem without_tree {rs : List Rs} {p : List ByteArray} (h : treeB rs = true) : treeB (withoutL rs p) = true := by
  have ha := tree_asc h
  unfold treeB at h
  simp only [Bool.and_eq_true, decide_eq_true_eq, List.all_eq_true] at h
  obtain ⟨h1, h2, h3, h4⟩ := h
  have hw := without_asc ha p
  unfold treeB
  simp only [Bool.and_eq_true, decide_eq_true_eq, List.all_eq_true]
  refine ⟨Nat.le_trans (List.length_filter_le _ _) h1, fun r hr => h2 r (without_mem.1 hr).1, asc_to hw, fun r hr => ?_⟩
  obtain ⟨hm, hd⟩ := without_mem.1 hr
  have hon := h4 r hm
  unfold onB at hon ⊢
  rw [coll_iff ha] at hon
  rw [coll_iff hw]
  rcases hon with h0 | ⟨s, hs, he, hc⟩
  · exact .inl h0
  · refine .inr ⟨s, without_mem.2 ⟨hs, ?_⟩, he, hc⟩
    cases e : deepB p s
    · rfl
    · have h5 := deep_iff.1 e
      rw [he] at h5
      have h6 : p <+: r.pa := h5.trans (List.take_prefix _ _)
      rw [deep_iff.2 h6] at hd
      cases hd
/-- It is gone just where it was, or stood under it. -/
theorem without_find {rs : List Rs} {p : List ByteArray} {y : Rs} (hy : y ∈ rs) : findI (withoutL rs p) y.pa < 0 ↔ deepB p y = true := by
  constructor
  · intro hf
    cases e : deepB p y
    · exact absurd rfl (not_there hf y (without_mem.2 ⟨hy, e⟩))
    · rfl
  · intro hd
    rcases findI_cases (withoutL rs p) y.pa with e | ⟨k, hk, _, hs⟩
    · omega
    · exfalso
      have hm := List.getElem_mem hk
      have hd2 := (without_mem.1 hm).2
      have he : (withoutL rs p)[k].pa = y.pa := by unfold sameL at hs; exact of_decide_eq_true hs
      have h1 := deep_iff.1 hd
      rw [← he] at h1
      rw [deep_iff.2 h1] at hd2
      cases hd2
theorem without_count (rs : List Rs) (p : List ByteArray) : (withoutL rs p).length + (deepL rs p).length = rs.length := by
  unfold withoutL deepL
  induction rs with
  | nil => rfl
  | cons r l ih =>
    rw [List.filter_cons, List.filter_cons]
    cases deepB p r <;> simp <;> omega
theorem without_deep (rs : List Rs) (p : List ByteArray) : deepL (withoutL rs p) p = [] := by
  unfold deepL
  rw [List.filter_eq_nil_iff]
  intro r hr
  rw [(without_mem.1 hr).2]
  simp
end Go.Proofs.Ytafdbnadakclnaa
