/-
  What the specification's FeedAll does.
-/
import Derived.Test.YtkhnkockdfmkgabGreatDoorSpecFeed
import Derived.Test.YtkhnkockdfmkgabGreatDoorIsByt
namespace Go.Proofs.YtkhnkockdfmkgabGreatDoor
open Go.RowKit M
set_option linter.unusedVariables false

/-- A row of requests of the call's own; their heads lie anywhere. -/
structure RowsR (w : World) (B : Nat) (v : Value) (qs : List Rv) : Prop where
  own : w.ownsRow B 47 4 v qs.length (rvCells qs)
  heads : ∀ q ∈ qs, ∃ a c, q.2 = .slice a q.1.hs.length c ∧ Hds w w.heap.size a q.1.hs ∧ ∀ g, q.2.ownBlock = some g → B ≤ g
theorem ownsQ_below {B : Nat} {v : Value} {n : Nat} {xs : List Value} {w w' : World} (h : w.ownsRow B 47 4 v n xs) (hb : Below w.heap.size w w') : w'.ownsRow B 47 4 v n xs :=
  h.kept (row := none) ⟨hb.os, hb.tape, hb.output, hb.size, fun k hk _ => hb.block k hk⟩ (Classical.em _)
theorem RowsR.next {w w' : World} {B : Nat} {v : Value} {qs : List Rv} (h : RowsR w B v qs) (hb : Below w.heap.size w w') : RowsR w' B v qs := by
  refine ⟨ownsQ_below h.own hb, fun q hq => ?_⟩
  obtain ⟨a, c, e, hd, hl⟩ := h.heads q hq
  exact ⟨a, c, e, (hd.below hb (Nat.le_refl _)).mono hb.size, hl⟩
theorem RowsQ.rowsR {w : World} {B : Nat} {v : Value} {qs : List Rv} (h : RowsQ w B v qs) : RowsR w B v qs := by
  refine ⟨h.own, fun q hq => ?_⟩
  obtain ⟨a, c, e, hd⟩ := RowsH.hds (h.heads q hq)
  exact ⟨a, c, e, hd, fun g hg => ((h.heads q hq).lt g hg).1⟩
theorem RowsR.rq {w : World} {B : Nat} {v : Value} {qs : List Rv} {rs : List Rq} (h : RowsR w B v qs) (e : qs.map Prod.fst = rs) : ∃ a c, v = .slice a rs.length c ∧ Rqs w w.heap.size a rs := by
  have hl : rs.length = qs.length := by rw [← e, List.length_map]
  rcases h.own.2 with ⟨e1, h0⟩ | ⟨g, cap, cur, e1, hB, hh, h1, h2, h3, h4⟩
  · have e0 : qs = [] := List.length_eq_zero_iff.1 h0
    subst e0
    subst e
    exact ⟨none, 0, e1, fun h => absurd h (Nat.lt_irrefl _)⟩
  · subst e1
    refine ⟨_, cap, by rw [hl], fun _ => ⟨g, 0, rfl, (Array.getElem?_eq_some_iff.1 hh).1, fun j hj => ?_⟩⟩
    have hj' : j < qs.length := by omega
    have hx := rvCells_at qs j hj'
    have hlc := rvCells_length qs
    obtain ⟨aj, cj, hv, hd, _⟩ := h.heads qs[j] (List.getElem_mem hj')
    have hown : w.ownsRow B 47 4 (.slice (some ⟨g, 0, none⟩) qs.length cap) qs.length (rvCells qs) := h.own
    have er : rs[j] = qs[j].1 := by subst e; exact List.getElem_map _
    rw [Nat.zero_add, er]
    refine ⟨aj, cj, ?_, ?_, ?_, ?_, hd⟩
    · rw [hown.cellAt (j * 4) (by omega)]; exact hx.1
    · rw [hown.cellAt (j * 4 + 1) (by omega)]; exact hx.2.1
    · rw [hown.cellAt (j * 4 + 2) (by omega), hx.2.2.1, hv]
    · rw [hown.cellAt (j * 4 + 3) (by omega)]; exact hx.2.2.2

/-- 'all = append(all, got...)'. -/
theorem run_append_reqs (w : World) (B C : Nat) (v v2 : Value) (qs ps : List Rv) (ty : TypeId) (hown : RowsR w B v qs) (h2 : RowsQ w C v2 ps) (hap : ∀ g, v.ownBlock = some g → v2.ownBlock ≠ some g ∧ ∀ q ∈ ps, q.2.ownBlock ≠ some g) (hqa : ∀ q ∈ qs, 0 < q.1.hs.length → ∀ g, v.ownBlock = some g → q.2.ownBlock ≠ some g) (hlen : qs.length + ps.length ≤ 1000000000) (hB : B ≤ w.heap.size) (hBC : B ≤ C) :
    ∃ v' w', (Builtin.append_ #[27, 27] ty #[v, v2]).run Tryz.prog w = .ok v' w' ∧ RowsR w' B v' (qs ++ ps) ∧ w.grownBy w' v.ownBlock ∧ (v'.ownBlock = v.ownBlock ∨ v'.ownBlock = some w.heap.size) := by
  obtain ⟨i0, hi, hz0, hz1, hz2⟩ := info_parts infoRq
  have hkeep : ∀ w', w.grownBy w' v.ownBlock → ∀ q ∈ qs ++ ps, ∃ a c, q.2 = .slice a q.1.hs.length c ∧ Hds w' w'.heap.size a q.1.hs ∧ ∀ g, q.2.ownBlock = some g → B ≤ g := by
    intro w' hg q hq
    obtain ⟨a, c, e, hd, hbl, hne⟩ : ∃ a c, q.2 = .slice a q.1.hs.length c ∧ Hds w w.heap.size a q.1.hs ∧ (∀ g, q.2.ownBlock = some g → B ≤ g) ∧ (0 < q.1.hs.length → ∀ g, v.ownBlock = some g → q.2.ownBlock ≠ some g) := by
      rcases List.mem_append.1 hq with hq | hq
      · obtain ⟨a, c, e, hd, hbl⟩ := hown.heads q hq
        exact ⟨a, c, e, hd, hbl, hqa q hq⟩
      · obtain ⟨a, c, e, hd, hbl⟩ := h2.rowsR.heads q hq
        exact ⟨a, c, e, hd, fun g hg => Nat.le_trans hBC (hbl g hg), fun _ g hg => (hap g hg).2 q hq⟩
    refine ⟨a, c, e, fun h0 => ?_, hbl⟩
    obtain ⟨b, o, e2, hb, hc⟩ := hd h0
    subst e2
    have hbk : w'.heap[b]? = w.heap[b]? := hg.block b hb (fun e3 => hne h0 b e3.symm (by rw [e]; rfl))
    refine ⟨b, o, rfl, Nat.lt_of_lt_of_le hb hg.size, fun j hj => ?_⟩
    have := hc j hj
    exact ⟨(World.cell?_of_block (a := ⟨b, _, none⟩) hbk).trans this.1, (World.cell?_of_block (a := ⟨b, _, none⟩) hbk).trans this.2⟩
  rcases h2.own.2 with ⟨rfl, h0⟩ | ⟨g2, cap2, cur2, rfl, hB2, hh2, k1, k2, k3, k4⟩
  · have e0 : ps = [] := List.length_eq_zero_iff.1 h0
    subst e0
    refine ⟨v, w, ?_, ⟨by rw [List.append_nil]; exact hown.own, hkeep w ⟨rfl, rfl, rfl, Nat.le_refl _, fun _ _ _ => rfl⟩⟩, ⟨rfl, rfl, rfl, Nat.le_refl _, fun _ _ _ => rfl⟩, .inl rfl⟩
    rcases hown.own.2 with ⟨rfl, h1⟩ | ⟨g, cap, cur, rfl, _, _, hn, _⟩
    · simp [Builtin.append_, run_underlying Tryz.underlying27, sizeOf, typeInfo, hi, Builtin.lenOf, Builtin.firstCells]
    · simp [Builtin.append_, run_underlying Tryz.underlying27, sizeOf, typeInfo, hi, Builtin.lenOf, Builtin.firstCells, storeCells, hn]
  · have hown2 : w.ownsRow C 47 4 (.slice (some ⟨g2, 0, none⟩) ps.length cap2) ps.length (rvCells ps) := h2.own
    have hnews : ∀ j u, (rvCells ps)[j]? = some u → w.cell? ((⟨g2, 0, none⟩ : Addr).add j) = some u := fun j u hj => hown2.cells (g := g2) rfl j u hj
    have hone : ∀ u ∈ rvCells ps, u.oneCell' = true := by
      intro u hu
      obtain ⟨q, hq, hu⟩ := List.mem_flatMap.1 hu
      obtain ⟨aq, cq, hvq, _, _⟩ := h2.rowsR.heads q hq
      simp only [List.mem_cons, List.not_mem_nil, or_false] at hu
      rcases hu with rfl | rfl | rfl | rfl
      · rfl
      · rfl
      · rw [hvq]; rfl
      · rfl
    obtain ⟨v', w', hrun, ho', hg, _, hwh⟩ := run_append_own_at (P := Tryz.prog) w B 27 ty 47 i0 _ 4 72 Tryz.underlying27 hi hz0 hz1 hz2 rfl (by decide) v qs.length _ hown.own ⟨g2, 0, none⟩ ps.length cap2 (rvCells ps) (rvCells_length ps) hnews hone (by unfold maxLen; omega) (by omega) hB
    exact ⟨v', w', hrun, ⟨by rw [rvCells_append, List.length_append]; exact ho', hkeep w' hg⟩, hg, hwh⟩
theorem wp_append_reqs {w : World} {ops : Array Oper} {rest : List Oper} {o : Oper} {a : Act} {Q : Exit → Act → World → Prop} (hgd : o.guard = none) (s x : Operand)
    (ho : o.op = .call { callee := .builtin .append, args := #[s, x], argTypes := #[27, 27] })
    (B C : Nat) (v v2 : Value) (qs ps : List Rv) (hs : a.eval s = v) (hx : a.eval x = v2) (hown : RowsR w B v qs) (h2 : RowsQ w C v2 ps) (hap : ∀ g, v.ownBlock = some g → v2.ownBlock ≠ some g ∧ ∀ q ∈ ps, q.2.ownBlock ≠ some g) (hqa : ∀ q ∈ qs, 0 < q.1.hs.length → ∀ g, v.ownBlock = some g → q.2.ownBlock ≠ some g) (hlen : qs.length + ps.length ≤ 1000000000) (hB : B ≤ w.heap.size) (hBC : B ≤ C)
    (h : ∀ v' w', RowsR w' B v' (qs ++ ps) → w.grownBy w' v.ownBlock → (v'.ownBlock = v.ownBlock ∨ v'.ownBlock = some w.heap.size) → wpList Tryz.prog ops Q rest (a.put o.dst v') w') : wpList Tryz.prog ops Q (o :: rest) a w := by
  obtain ⟨v', w', hrun, h1, h3, h4⟩ := run_append_reqs w B C v v2 qs ps o.type hown h2 hap hqa hlen hB hBC
  refine wpList_plain hgd fun K hK => ?_
  unfold Oper.wp execOp
  simp only [ho, resolve, invoke, builtin, Sem.run_bind, Sem.run_pure, Result.andThen_ok, List.map_toArray, List.map_cons, List.map_nil, hs, hx, hrun]
  exact hK _ _ (h v' w' h1 h3 h4)

theorem results_sall (tmps : Array Value) (N : Nat) (W : World) (v0 v1 x : Value) (h2 : tmps.getD 2 undef = .pointer (some ⟨N, 0, none⟩)) (h3 : tmps.getD 3 undef = x) (hg : W.heap[N]? = some (Obj.cells #[v0, v1] 26)) :
    (results Tryz.f19 tmps).run Tryz.prog W = .ok (.tuple #[.agg #[v0, v1], x]) W := by
  have hl := run_loadVar_row (P := Tryz.prog) W N 26 26 #[v0, v1] (0, 0) _ hg Tryz.underlying26 rfl (by kernel_rfl)
  simp at h2 h3
  simp [results, Tryz.results19, h2, h3, asAddr, hl]
/-- What the specification's FeedAll hands back. -/
def SAllIs (w : World) (d : List Rq × List UInt8 × Int) (e : Ending) : Prop :=
  ∃ a c a2 c2, e = .returned (.tuple #[.agg #[.slice a d.2.1.length c, .int .i64 d.2.2], .slice a2 d.1.length c2]) ∧ Byt w w.heap.size a d.2.1 ∧ Rqs w w.heap.size a2 d.1
/-- In the course of it: the wire in its box, and all that was read. -/
structure AllSt (w : World) (B N M : Nat) (d : List Rq × List UInt8 × Int) (aw : Option Addr) (cw : Nat) (v : Value) (qs : List Rv) : Prop where
  box : BoxW w N (.slice aw d.2.1.length cw) d.2.2
  res : BoxW w M (.slice none 0 0) 0
  byt : Byt w w.heap.size aw d.2.1
  row : RowsR w B v qs
  eq : qs.map Prod.fst = d.1
  sepq : ∀ q ∈ qs, 0 < q.1.hs.length → ∀ g, v.ownBlock = some g → q.2.ownBlock ≠ some g
  sepb : ∀ g, v.ownBlock = some g → 0 < d.2.1.length → ∀ x, aw = some x → x.block ≠ g
  sepm : 0 < d.2.1.length → ∀ x, aw = some x → x.block ≠ M
theorem AllSt.next {w w' : World} {B N M : Nat} {d : List Rq × List UInt8 × Int} {aw : Option Addr} {cw : Nat} {v : Value} {qs : List Rv} (h : AllSt w B N M d aw cw v qs) (hb : Below w.heap.size w w') : AllSt w' B N M d aw cw v qs :=
  ⟨h.box.next hb, h.res.next hb, (h.byt.below hb (Nat.le_refl _)).mono hb.size, h.row.next hb, h.eq, h.sepq, h.sepb, h.sepm⟩
theorem RowsR.lt {w : World} {B : Nat} {v : Value} {qs : List Rv} (h : RowsR w B v qs) : ∀ g, v.ownBlock = some g → B ≤ g ∧ g < w.heap.size := fun g hg => World.ownsRow.lt h.own g hg
theorem RowsR.hlt {w : World} {B : Nat} {v : Value} {qs : List Rv} (h : RowsR w B v qs) : ∀ q ∈ qs, ∀ g, 0 < q.1.hs.length → q.2.ownBlock = some g → g < w.heap.size := fun q hq g h0 hg => by
  obtain ⟨a, c, e, hd, _⟩ := h.heads q hq
  obtain ⟨b, o, e2, hb, _⟩ := hd h0
  subst e2
  rw [e] at hg
  have : b = g := Option.some.inj hg
  omega
theorem RowsR.set {w : World} {B N : Nat} {v : Value} {qs : List Rv} (h : RowsR w B v qs) (hN : N < B) (o : Nat) (u : Value) : RowsR (w.setCell ⟨N, o, none⟩ u) B v qs := by
  refine ⟨ownsRow_setCell_below h.own hN u, fun q hq => ?_⟩
  obtain ⟨a, c, e, hd, hl⟩ := h.heads q hq
  refine ⟨a, c, e, fun h0 => ?_, hl⟩
  obtain ⟨b, o', e2, hb, hc⟩ := hd h0
  subst e2
  have hb2 : B ≤ b := hl b (by rw [e]; rfl)
  have hne : b ≠ N := by omega
  have hbk : (w.setCell ⟨N, o, none⟩ u).heap[b]? = w.heap[b]? := Below.heap_setCell _ _ _ _ hne
  refine ⟨b, o', rfl, by simpa [World.setCell] using hb, fun j hj => ?_⟩
  have := hc j hj
  exact ⟨(World.cell?_of_block (a := ⟨b, _, none⟩) hbk).trans this.1, (World.cell?_of_block (a := ⟨b, _, none⟩) hbk).trans this.2⟩
/-- One piece more. -/
theorem AllSt.step {W2 w3 : World} {B N M L : Nat} {rs rs2 : List Rq} {buf2 : List UInt8} {bd2 : Int} {a1 : Option Addr} {c1 : Nat} {v v' qv : Value} {qs ps : List Rv}
    (hbox : BoxW W2 N (.slice a1 buf2.length c1) bd2) (hres : BoxW W2 M (.slice none 0 0) 0) (hy : Byt W2 W2.heap.size a1 buf2) (hyb : 0 < buf2.length → ∀ x, a1 = some x → L ≤ x.block) (hrow : RowsR W2 B v qs) (hvl : ∀ g, v.ownBlock = some g → g < L) (hq : RowsQ W2 L qv ps) (hsq : ∀ q ∈ qs, 0 < q.1.hs.length → ∀ g, v.ownBlock = some g → q.2.ownBlock ≠ some g) (he : qs.map Prod.fst = rs) (he2 : ps.map Prod.fst = rs2) (hN : N < B) (hM : M < B) (hBL : B ≤ L)
    (hr3 : RowsR w3 B v' (qs ++ ps)) (hg : W2.grownBy w3 v.ownBlock) (hwh : v'.ownBlock = v.ownBlock ∨ v'.ownBlock = some W2.heap.size) : AllSt w3 B N M (rs ++ rs2, buf2, bd2) a1 c1 v' (qs ++ ps) := by
  have hvB := hrow.lt
  refine ⟨(hg.block N hbox.lt (fun e => by have := (hvB N e.symm).1; omega)).trans hbox, (hg.block M hres.lt (fun e => by have := (hvB M e.symm).1; omega)).trans hres, fun h0 => ?_, hr3, by rw [List.map_append, he, he2], fun q hqq h0 g hgv => ?_, fun g hgv h0 x hx => ?_, fun h0 x hx e => ?_⟩
  · obtain ⟨b, o, e, hb, hc⟩ := hy h0
    have hL := hyb h0 _ e
    have hbk : w3.heap[b]? = W2.heap[b]? := hg.block b hb (fun e3 => by have := hvl b e3.symm; simp at hL; omega)
    exact ⟨b, o, e, Nat.lt_of_lt_of_le hb hg.size, fun j hj => (World.cell?_of_block (a := ⟨b, _, none⟩) hbk).trans (hc j hj)⟩
  · rcases hwh with e | e
    · rw [e] at hgv
      rcases List.mem_append.1 hqq with hqq | hqq
      · exact hsq q hqq h0 g hgv
      · intro e2
        have h1 := (hq.lt g (.inr ⟨q, hqq, e2⟩)).1
        have h2 := hvl g hgv
        omega
    · rw [e] at hgv
      have hgz : W2.heap.size = g := Option.some.inj hgv
      intro e2
      rcases List.mem_append.1 hqq with hqq | hqq
      · have := hrow.hlt q hqq g h0 e2; omega
      · have := (hq.lt g (.inr ⟨q, hqq, e2⟩)).2; omega
  · have h0' : 0 < buf2.length := h0
    have hL := hyb h0' x hx
    obtain ⟨b, o, e, hb, _⟩ := hy h0'
    rw [hx] at e
    have ex : x = ⟨b, o, none⟩ := Option.some.inj e
    subst ex
    rcases hwh with e | e
    · rw [e] at hgv
      have h2 := hvl g hgv
      simp at hL ⊢
      omega
    · rw [e] at hgv
      have hgz : W2.heap.size = g := Option.some.inj hgv
      show b ≠ g
      omega
  · have := hyb h0 x hx
    omega
/-- The box of what one piece gave was there, and is written now. -/
theorem way_setX {w0 w1 : World} {N : Nat} {v a0 a1 : Value} {bad : Int} (b : Below w0.heap.size w0 w1) (hz : w1.heap[N]? = some (Obj.cells #[a0, a1] 26)) (hN : w0.heap.size ≤ N) :
    ∃ W, (w1.setCell ⟨N, 0, none⟩ v).setCell ⟨N, 1, none⟩ (.int .i64 bad) = W ∧ W.heap[N]? = some (Obj.cells #[v, .int .i64 bad] 26) ∧ (∀ k, k ≠ N → W.heap[k]? = w1.heap[k]?) ∧ W.heap.size = w1.heap.size ∧ Below w0.heap.size w0 W :=
  ⟨_, rfl, set2_heap hz _ _, (fun k hk => by rw [Below.heap_setCell _ _ _ _ hk, Below.heap_setCell _ _ _ _ hk]), by simp [World.setCell], (b.setCell (p := ⟨N, 0, none⟩) hN _).setCell (p := ⟨N, 1, none⟩) hN _⟩

set_option maxRecDepth 100000 in
set_option maxHeartbeats 8000000 in
theorem specFeedAll_any (a : Option Addr) (ls : List (List UInt8)) (cap : Nat) (w : World) (h : Bss w w.heap.size a ls) (hl : ls.length ≤ 1048576) (hs : sumB ls ≤ 4194304) :
    Calls Tryz.prog 19 #[.slice a ls.length cap] w fun e w' => SAllIs w' (feedsM ls [] 0) e ∧ Below w.heap.size w w' := by
  obtain ⟨w0, hw0⟩ : ∃ w0, ((w.alloc (Obj.cells #[.slice none 0 0, .int .i64 0] 26)).alloc (Obj.cells #[.slice none 0 0, .int .i64 0] 26)).alloc (Obj.cells #[] 47) = w0 := ⟨_, rfl⟩
  have n1 : (w.alloc (Obj.cells #[.slice none 0 0, .int .i64 0] 26)).heap.size = w.heap.size + 1 := by simp
  have n2 : ((w.alloc (Obj.cells #[.slice none 0 0, .int .i64 0] 26)).alloc (Obj.cells #[.slice none 0 0, .int .i64 0] 26)).heap.size = w.heap.size + 2 := by simp
  have b0 : Below w.heap.size w w0 := by rw [← hw0]; exact (((Below.refl _ _).alloc (Nat.le_refl _) _).alloc (by rw [n1]; omega) _).alloc (by rw [n2]; omega) _
  have h0 : w0.heap[w.heap.size]? = some (Obj.cells #[.slice none 0 0, .int .i64 0] 26) := by
    rw [← hw0, Below.heap_alloc _ _ _ (by rw [n2]; omega), Below.heap_alloc _ _ _ (by rw [n1]; omega)]
    exact heap_alloc_new w _
  have h1 : w0.heap[w.heap.size + 1]? = some (Obj.cells #[.slice none 0 0, .int .i64 0] 26) := by
    rw [← hw0, Below.heap_alloc _ _ _ (by rw [n2]; omega)]
    have := heap_alloc_new (w.alloc (Obj.cells #[.slice none 0 0, .int .i64 0] 26)) (Obj.cells #[.slice none 0 0, .int .i64 0] 26)
    rwa [n1] at this
  have h2 : w0.heap[w.heap.size + 2]? = some (Obj.cells #[] 47) := by
    have := heap_alloc_new ((w.alloc (Obj.cells #[.slice none 0 0, .int .i64 0] 26)).alloc (Obj.cells #[.slice none 0 0, .int .i64 0] 26)) (Obj.cells #[] 47)
    rw [n2] at this
    rw [← hw0]; exact this
  have S0 : AllSt w0 (w.heap.size + 2) (w.heap.size + 1) w.heap.size (feedsM (ls.take 0) [] 0) none 0 (.slice (some ⟨w.heap.size + 2, 0, none⟩) 0 0) [] := ⟨h1, h0, Byt.nil _ _ _, (RowsQ.bare h2 (Nat.le_refl _)).rowsR, rfl, (fun q hq => by cases hq), (fun g _ _ x e => by cases e), (fun _ x e => by cases e)⟩
  have HS0 := hide S0
  have HB := hide h
  have B0 := hide b0
  have HCnt := hide (fun k => feedsM_all (ls.take k) [] 0)
  clear h h0 h1 h2 b0 n1 n2 S0
  go_enter Tryz.func19, Tryz.ntmps19
  go_wp2_with fail
  try rw [hw0]
  go_loopw [5, 6] (fun v i wr => ∃ (k : Nat) (aw : Option Addr) (cw : Nat) (qs : List Rv), k ≤ ls.length ∧ i = .int .i64 k ∧ AllSt wr (w.heap.size + 2) (w.heap.size + 1) w.heap.size (feedsM (ls.take k) [] 0) aw cw v qs ∧ Below w.heap.size w wr) (fun _ i _ => ls.length - (intOf i).toNat)
  case atStart => exact ⟨0, none, 0, [], Nat.zero_le _, rfl, HS0.out, B0.out⟩
  case round =>
    obtain ⟨k, aw, cw, qs, hk, rfl, hst, hbe⟩ := hrel
    have hcnt := (HCnt.out k).2
    simp only [List.length_nil, Nat.zero_add] at hcnt
    rw [sumB_flat] at hcnt
    by_cases hlt : k < ls.length
    · obtain ⟨b, o, rfl, hb, hc⟩ := HB.out (by omega)
      obtain ⟨aj, cj, hc1, hy, hlc, hcm⟩ := hc k hlt
      have h1 := sumB_snoc ls k hlt
      have h2 := sumB_le ls (k + 1)
      have HSn := hide (feedsM_snoc (ls.take k) ls[k] [] 0)
      rw [← List.take_succ_eq_append_getElem hlt] at HSn
      have hcnt2 := feedM_count (feedsM (ls.take k) [] 0).2.1 (feedsM (ls.take k) [] 0).2.2 ls[k]
      obtain ⟨rs, buf, bd, hD⟩ : ∃ rs buf bd, feedsM (ls.take k) [] 0 = (rs, buf, bd) := ⟨_, _, _, rfl⟩
      rw [hD] at hst HSn hcnt hcnt2
      obtain ⟨av, cv, hvv, _⟩ := hst.row.rq hst.eq
      subst hvv
      have hlen : rs.length + buf.length ≤ 4194304 := by have : rs.length + buf.length ≤ sumB (ls.take k) := hcnt; omega
      have hlen2 : buf.length + (ls[k]).length ≤ 4194304 := by have : rs.length + buf.length ≤ sumB (ls.take k) := hcnt; omega
      have HFd := hide (fun (W : World) (hW : Below wr.heap.size wr W) => specFeed_any aw buf cw bd aj ls[k] cj W ((hst.byt.below hW (Nat.le_refl _)).mono hW.size) ((hy.below (hbe.trans (hW.mono hbe.size)) (Nat.le_refl _)).mono (Nat.le_trans hbe.size hW.size)) hlen2)
      have KX := hide (fun (W : World) (hW : Below wr.heap.size wr W) => (⟨⟨(hst.box.next hW).cells.1, (hst.box.next hW).cells.2⟩, ((hbe.trans (hW.mono hbe.size)).cell (p := ⟨b, o + k, none⟩) hb).trans hc1⟩ : (W.cell? ⟨w.heap.size + 1, 0, none⟩ = some (.slice aw buf.length cw) ∧ W.cell? ⟨w.heap.size + 1, 1, none⟩ = some (.int .i64 bd)) ∧ W.cell? ⟨b, o + k, none⟩ = some (.slice aj (ls[k]).length cj)))
      obtain ⟨rs2, buf2, bd2, hD2⟩ : ∃ rs2 buf2 bd2, feedM buf bd ls[k] = (rs2, buf2, bd2) := ⟨_, _, _, rfl⟩
      simp only at HSn hcnt2
      rw [hD2] at HFd HSn hcnt2
      have HS := hide hst
      have HBe := hide hbe
      have hzr := hst.box.lt
      have hvr := hst.row.lt
      have HVr := hide hvr
      clear hst hbe hc hc1 hy hlc hcm h1 h2 hcnt hD hD2 hvr
      go_wp2_with fail
      go_region_held3 (fun W => (W.cell? ⟨w.heap.size + 1, 0, none⟩ = some (.slice aw buf.length cw) ∧ W.cell? ⟨w.heap.size + 1, 1, none⟩ = some (.int .i64 bd)) ∧ W.cell? ⟨b, o + k, none⟩ = some (.slice aj (ls[k]).length cj)) (first | exact KX.out _ (Below.refl _ _) | exact KX.out _ ((Below.refl _ wr).drew) | exact KX.out _ ((Below.refl _ wr).alloc (Nat.le_refl _) _).drew | exact KX.out _ c1 | exact KX.out _ (c1.alloc c1.size _) | exact KX.out _ ((c1.setCell (p := ⟨wr.heap.size, 0, none⟩) (Nat.le_refl _) _).setCell (p := ⟨wr.heap.size, 1, none⟩) (Nat.le_refl _) _))
        ((
          go_at_call 6
          first
            | (refine (HFd.out wr.drew ((Below.refl _ wr).drew)).mono ?_
               rintro e w1 ⟨⟨a1, c1', qv1, ps1, rfl, y1, r1, e1, g1⟩, b1⟩
               have c1 : Below wr.heap.size wr w1 := ((Below.refl _ wr).drew).trans b1)
            | (refine (HFd.out _ ((Below.refl _ wr).alloc (Nat.le_refl _) _).drew).mono ?_
               rintro e w1 ⟨⟨a1, c1', qv1, ps1, rfl, y1, r1, e1, g1⟩, b1⟩
               have c1 : Below wr.heap.size wr w1 := (((Below.refl _ wr).alloc (Nat.le_refl _) _).drew).trans (b1.mono (by simp))
               have hz := (b1.block wr.heap.size (by simp)).trans (heap_alloc_new wr (Obj.cells #[.slice none 0 0, .int .i64 0] 26))
               obtain ⟨u0, u1, t0, t1⟩ := cells2 hz)))
      all_goals
        obtain ⟨aq1, cq1, hq1, _⟩ := r1.rqs
        subst hq1
        first
          | (obtain ⟨W, hW, hbx, hkp, hsz, cW⟩ := way_setX (v := .slice a1 buf2.length c1') (bad := bd2) c1 hz (Nat.le_refl _)
             have hLX : ∀ g, wr.heap.size + 1 ≤ g → g ≠ wr.heap.size := fun g hg => by omega
             have hyW : Byt W W.heap.size a1 buf2 := fun h0 => by
               obtain ⟨b', o', e', hb', hc'⟩ := y1 h0
               obtain ⟨g', eg, hg'⟩ := g1 h0
               rw [e'] at eg
               have ebg : b' = g' := congrArg Addr.block (Option.some.inj eg)
               have hg2 : wr.heap.size + 1 ≤ g' := by simpa using hg'
               exact ⟨b', o', e', by omega, fun j hj => (World.cell?_of_block (a := ⟨b', _, none⟩) (hkp b' (by omega))).trans (hc' j hj)⟩
             have hyB : 0 < buf2.length → ∀ x, a1 = some x → wr.heap.size ≤ x.block := fun h0 x hx => by
               obtain ⟨g', eg, hg'⟩ := g1 h0
               rw [hx] at eg
               have ebg : x.block = g' := congrArg Addr.block (Option.some.inj eg)
               have hg2 : wr.heap.size + 1 ≤ g' := by simpa using hg'
               omega
             have hqW : RowsQ W wr.heap.size (.slice aq1 ps1.length cq1) ps1 := (r1.of (fun g hg => hkp g (by have h3 := (r1.lt g hg).1; simp at h3; omega))).base (by simp)
             rw [hW]
             obtain ⟨X, hX⟩ : ∃ X, wr.heap.size = X := ⟨_, rfl⟩
             rw [hX] at hbx ⊢
             have hXl : wr.heap.size ≤ X := Nat.le_of_eq hX
             clear hX)
          | (obtain ⟨W, hW⟩ : ∃ W, w1.alloc (Obj.cells #[.slice a1 buf2.length c1', .int .i64 bd2] 26) = W := ⟨_, rfl⟩
             have hbx : W.heap[w1.heap.size]? = some (Obj.cells #[.slice a1 buf2.length c1', .int .i64 bd2] 26) := by rw [← hW]; exact heap_alloc_new w1 _
             have bW : Below w1.heap.size w1 W := by rw [← hW]; exact (Below.refl _ _).alloc (Nat.le_refl _) _
             have cW : Below wr.heap.size wr W := c1.trans (bW.mono c1.size)
             have hyW : Byt W W.heap.size a1 buf2 := (y1.below bW (Nat.le_refl _)).mono bW.size
             have hyB : 0 < buf2.length → ∀ x, a1 = some x → wr.heap.size ≤ x.block := fun h0 x hx => by
               obtain ⟨g', eg, hg'⟩ := g1 h0
               rw [hx] at eg
               have ebg : x.block = g' := congrArg Addr.block (Option.some.inj eg)
               have hg2 : wr.heap.size ≤ g' := hg'
               omega
             have hqW : RowsQ W wr.heap.size (.slice aq1 ps1.length cq1) ps1 := r1.next bW
             rw [hW]
             obtain ⟨X, hX⟩ : ∃ X, w1.heap.size = X := ⟨_, rfl⟩
             have hXl : wr.heap.size ≤ X := hX ▸ c1.size
             rw [hX] at hbx ⊢
             clear hX)
        have E1 := hide e1
        have SW := HS.out.next cW
        have hXW : X < W.heap.size := (Array.getElem?_eq_some_iff.1 hbx).1
        obtain ⟨p0, p1, _, _⟩ := cells2 hbx
        obtain ⟨q0, q1, f0, f1⟩ := cells2 SW.box
        obtain ⟨W2, hW2⟩ : ∃ W2, (W.setCell ⟨w.heap.size + 1, 0, none⟩ (.slice a1 buf2.length c1')).setCell ⟨w.heap.size + 1, 1, none⟩ (.int .i64 bd2) = W2 := ⟨_, rfl⟩
        have hk2 : ∀ k, k ≠ w.heap.size + 1 → W2.heap[k]? = W.heap[k]? := fun k hk => by
          rw [← hW2, Below.heap_setCell _ _ _ _ hk, Below.heap_setCell _ _ _ _ hk]
        have hz2 : W2.heap.size = W.heap.size := by rw [← hW2]; simp [World.setCell]
        have hbox2 : BoxW W2 (w.heap.size + 1) (.slice a1 buf2.length c1') bd2 := by rw [← hW2]; exact set2_heap SW.box _ _
        have hres2 : BoxW W2 w.heap.size (.slice none 0 0) 0 := (hk2 _ (by omega)).trans SW.res
        have hy2 : Byt W2 W2.heap.size a1 buf2 := fun h0 => by
          obtain ⟨b', o', e', hb', hc'⟩ := hyW h0
          have hB' : wr.heap.size ≤ b' := hyB h0 _ e'
          exact ⟨b', o', e', by omega, fun j hj => (World.cell?_of_block (a := ⟨b', _, none⟩) (hk2 b' (by omega))).trans (hc' j hj)⟩
        have hrow2 : RowsR W2 (w.heap.size + 2) (.slice av rs.length cv) qs := by rw [← hW2]; exact (SW.row.set (Nat.lt_succ_self _) _ _).set (Nat.lt_succ_self _) _ _
        have hq2 : RowsQ W2 wr.heap.size (.slice aq1 ps1.length cq1) ps1 := hqW.same (fun k hk _ => hk2 k (by omega))
        have hvl : ∀ g, (Value.slice av rs.length cv).ownBlock = some g → g < wr.heap.size := fun g hg => (HVr.out g hg).2
        have hcW2 : Below w.heap.size w W2 := by
          rw [← hW2]
          exact ((HBe.out.trans (cW.mono HBe.out.size)).setCell (p := ⟨w.heap.size + 1, 0, none⟩) (Nat.le_succ _) _).setCell (p := ⟨w.heap.size + 1, 1, none⟩) (Nat.le_succ _) _
        have hap : ∀ g, (Value.slice av rs.length cv).ownBlock = some g → (Value.slice aq1 ps1.length cq1).ownBlock ≠ some g ∧ ∀ q ∈ ps1, q.2.ownBlock ≠ some g := fun g hg => by
          have h1 := hvl g hg
          refine ⟨fun e => ?_, fun q hq e => ?_⟩
          · have := (hq2.lt g (.inl e)).1; omega
          · have := (hq2.lt g (.inr ⟨q, hq, e⟩)).1; omega
        have hql : qs.length = rs.length := by have := congrArg List.length HS.out.eq; rwa [List.length_map] at this
        have hpl : ps1.length = rs2.length := by have := congrArg List.length E1.out; rwa [List.length_map] at this
        have hcz : rs2.length + buf2.length ≤ buf.length + (ls[k]).length := hcnt2
        have HR2 := hide hrow2
        have HQ2 := hide hq2
        have HAp := hide hap
        have HSt := hide (fun (v' : Value) (w3 : World) (hr3 : RowsR w3 (w.heap.size + 2) v' (qs ++ ps1)) (hg : W2.grownBy w3 (Value.slice av rs.length cv).ownBlock) (hwh : v'.ownBlock = (Value.slice av rs.length cv).ownBlock ∨ v'.ownBlock = some W2.heap.size) => AllSt.step hbox2 hres2 hy2 hyB hrow2 hvl hq2 HS.out.sepq HS.out.eq E1.out (Nat.lt_succ_self _) (by omega) (by omega) hr3 hg hwh)
        have HCW := hide hcW2
        have HRl := hide hrow2.lt
        have hlen3 : qs.length + ps1.length ≤ 1000000000 := by omega
        have hsz3 : w.heap.size + 2 ≤ W2.heap.size := by omega
        have hsz4 : w.heap.size + 2 ≤ wr.heap.size := by omega
        clear y1 r1 e1 g1 b1 c1 hW hbx SW hyW hyB hqW hXW hbox2 hres2 hy2 hrow2 hq2 hvl hcW2 hap hk2 hz2 cW
        go_wp2_with (at_builtin; refine wp_append_reqs rfl _ _ rfl (w.heap.size + 2) wr.heap.size (.slice av rs.length cv) (.slice aq1 ps1.length cq1) qs ps1 rfl rfl HR2.out HQ2.out HAp.out HS.out.sepq hlen3 hsz3 hsz4 ?_)
        intro v' w3 hr3 hg hwh
        have S3 := HSt.out v' w3 hr3 hg hwh
        have c3 : Below w.heap.size w w3 := HCW.out.grown hg HCW.out.size (fun k hk => by have := (HRl.out k hk).1; omega)
        have HF : Hid (∃ (k' : Nat) (aw : Option Addr) (cw : Nat) (qs : List Rv), k' ≤ ls.length ∧ Value.int .i64 ((k : Int) + 1) = .int .i64 k' ∧ AllSt w3 (w.heap.size + 2) (w.heap.size + 1) w.heap.size (feedsM (ls.take k') [] 0) aw cw v' qs ∧ Below w.heap.size w w3) := by
          refine ⟨k + 1, a1, c1', qs ++ ps1, by omega, rfl, ?_, c3⟩
          rw [HSn.out]
          exact S3
        clear hr3 hg hwh S3 c3 HSt HR2 HQ2 HAp HCW HRl
        go_wp2
        go_roundw
        case rel => exact HF.out
        case measure => simp [intOf]; omega
    · have hall : ls.take k = ls := List.take_of_length_le (by omega)
      rw [hall] at hst
      obtain ⟨rs, buf, bd, hD⟩ : ∃ rs buf bd, feedsM ls [] 0 = (rs, buf, bd) := ⟨_, _, _, rfl⟩
      rw [hD] at hst
      obtain ⟨av, cv, hvv, hrq⟩ := hst.row.rq hst.eq
      subst hvv
      obtain ⟨q0, q1, _, _⟩ := cells2 hst.box
      obtain ⟨m0, m1, n0, n1⟩ := cells2 hst.res
      have hML := hst.res.lt
      have HRes := hide hst.res
      have HFin : Hid (∀ v0 v1, SAllIs ((wr.setCell ⟨w.heap.size, 0, none⟩ v0).setCell ⟨w.heap.size, 1, none⟩ v1) (feedsM ls [] 0) (.returned (.tuple #[.agg #[.slice aw buf.length cw, .int .i64 bd], .slice av rs.length cv])) ∧ Below w.heap.size w ((wr.setCell ⟨w.heap.size, 0, none⟩ v0).setCell ⟨w.heap.size, 1, none⟩ v1)) := by
        intro v0 v1
        have hrf : RowsR ((wr.setCell ⟨w.heap.size, 0, none⟩ v0).setCell ⟨w.heap.size, 1, none⟩ v1) (w.heap.size + 2) (.slice av rs.length cv) qs := (hst.row.set (by omega) _ _).set (by omega) _ _
        obtain ⟨av', cv', e1, hrq'⟩ := hrf.rq hst.eq
        cases e1
        rw [hD]
        refine ⟨⟨aw, cw, av, cv, rfl, ?_, hrq'⟩, (hbe.setCell (p := ⟨w.heap.size, 0, none⟩) (Nat.le_refl _) _).setCell (p := ⟨w.heap.size, 1, none⟩) (Nat.le_refl _) _⟩
        intro h0
        obtain ⟨b', o', e', hb', hc'⟩ := hst.byt h0
        have hne : b' ≠ w.heap.size := hst.sepm h0 _ e'
        have hk2 : ((wr.setCell ⟨w.heap.size, 0, none⟩ v0).setCell ⟨w.heap.size, 1, none⟩ v1).heap[b']? = wr.heap[b']? := by rw [Below.heap_setCell _ _ _ _ hne, Below.heap_setCell _ _ _ _ hne]
        exact ⟨b', o', e', by simpa [World.setCell] using hb', fun j hj => (World.cell?_of_block (a := ⟨b', _, none⟩) hk2).trans (hc' j hj)⟩
      clear hst hbe hrq hall hcnt hD
      go_wp2
      refine bodyPost_ret (results_sall _ w.heap.size _ _ _ _ rfl rfl (set2_heap HRes.out _ _)) rfl ?_
      exact HFin.out _ _
end Go.Proofs.YtkhnkockdfmkgabGreatDoor
