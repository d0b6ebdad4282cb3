/-
  Rows of things put together.
-/
import Derived.Test.YtclnpfpaabmkcaaGreatInsertAt
import Derived.Test.YtclnpfpaabmkcaaGreatSameTexts
import Derived.Test.YtclnpfpaabmkcaaGreatSpecCopyAll
namespace Go.Proofs.YtclnpfpaabmkcaaGreat
open Go.RowKit M
set_option linter.unusedVariables false

theorem rsCells_append (xs ys : List RsT) : rsCells (xs ++ ys) = rsCells xs ++ rsCells ys := by unfold rsCells; rw [List.flatMap_append]
theorem rsCells_take (ts : List RsT) (i : Nat) (hi : i ≤ ts.length) : (rsCells ts).take (i * 5) = rsCells (ts.take i) := by
  have e : rsCells ts = rsCells (ts.take i) ++ rsCells (ts.drop i) := by rw [← rsCells_append, List.take_append_drop]
  have l : (rsCells (ts.take i)).length = i * 5 := by rw [rsCells_length, List.length_take, Nat.min_eq_left hi]
  rw [e, List.take_append_of_le_length (by omega), List.take_of_length_le (by omega)]
theorem rsCells_drop (ts : List RsT) (i : Nat) (hi : i ≤ ts.length) : (rsCells ts).drop (i * 5) = rsCells (ts.drop i) := by
  have e : rsCells ts = rsCells (ts.take i) ++ rsCells (ts.drop i) := by rw [← rsCells_append, List.take_append_drop]
  have l : (rsCells (ts.take i)).length = i * 5 := by rw [rsCells_length, List.length_take, Nat.min_eq_left hi]
  rw [e, List.drop_append_of_le_length (by omega), List.drop_of_length_le (by omega), List.nil_append]
theorem rsCells_one (ts : List RsT) : ∀ u ∈ rsCells ts, u.oneCell' = true := by
  intro u hu
  unfold rsCells at hu
  obtain ⟨t, _, h⟩ := List.mem_flatMap.1 hu
  simp only [rsCells1, List.mem_cons, List.not_mem_nil, or_false] at h
  rcases h with rfl | rfl | rfl | rfl | rfl <;> rfl

/-- What one call made, thing by thing. -/
def tsOf (cs : List Rs) (pb qb : Nat → Nat) : List RsT := cs.mapIdx fun j r => ⟨r, pb j, r.pa.length, qb j, r.ps.length⟩
theorem tsOf_length (cs : List Rs) (pb qb : Nat → Nat) : (tsOf cs pb qb).length = cs.length := by unfold tsOf; simp
theorem tsOf_at (cs : List Rs) (pb qb : Nat → Nat) (j : Nat) (hj : j < (tsOf cs pb qb).length) : (tsOf cs pb qb)[j] = ⟨cs[j]'(by rw [tsOf_length] at hj; exact hj), pb j, (cs[j]'(by rw [tsOf_length] at hj; exact hj)).pa.length, qb j, (cs[j]'(by rw [tsOf_length] at hj; exact hj)).ps.length⟩ := by
  simp only [tsOf, List.getElem_mapIdx]
theorem tsOf_map (cs : List Rs) (pb qb : Nat → Nat) : (tsOf cs pb qb).map (·.r) = cs := by
  apply List.ext_getElem
  · simp [tsOf_length]
  · intro j h1 h2
    rw [List.getElem_map, tsOf_at]
theorem OwnR.cells {w : World} {lo hi g : Nat} {cs : List Rs} {pb qb : Nat → Nat} (h : OwnR w lo hi g cs pb qb) : ∀ j u, (rsCells (tsOf cs pb qb))[j]? = some u → w.cell? ⟨g, j, none⟩ = some u := by
  intro j u hj
  have hjl : j < (rsCells (tsOf cs pb qb)).length := (List.getElem?_eq_some_iff.1 hj).1
  rw [rsCells_length, tsOf_length] at hjl
  have hq : j / 5 < cs.length := by omega
  have hq' : j / 5 < (tsOf cs pb qb).length := by rw [tsOf_length]; exact hq
  obtain ⟨c0, c1, c2, c3, c4⟩ := rsCells_at (tsOf cs pb qb) (j / 5) hq'
  obtain ⟨d0, d1, d2, d3, d4⟩ := h.cl (j / 5) hq
  rw [tsOf_at] at c0 c1 c2 c3 c4
  have hcase : j = j / 5 * 5 ∨ j = j / 5 * 5 + 1 ∨ j = j / 5 * 5 + 2 ∨ j = j / 5 * 5 + 3 ∨ j = j / 5 * 5 + 4 := by omega
  rcases hcase with e | e | e | e | e <;> rw [e] at hj ⊢
  · rw [c0] at hj; cases hj; exact d0
  · rw [c1] at hj; cases hj; exact d1
  · rw [c2] at hj; cases hj; exact d2
  · rw [c3] at hj; cases hj; exact d3
  · rw [c4] at hj; cases hj; exact d4

/-- Where one thing's lists lie, and that no one else's do. -/
structure ThingAt (w : World) (lo hi g : Nat) (t : RsT) : Prop where
  a : lo ≤ t.p
  b : t.p < t.q
  c : t.q < hi
  d : t.p ≠ g
  e : t.q ≠ g
  f : RowS w t.p t.r.pa
  g' : RowP w t.q t.r.ps
  k : t.pc = t.r.pa.length ∧ t.qc = t.r.ps.length
def ApartT (x y : RsT) : Prop := x.p ≠ y.p ∧ x.p ≠ y.q ∧ x.q ≠ y.p ∧ x.q ≠ y.q
theorem ApartT.symm {x y : RsT} (h : ApartT x y) : ApartT y x := ⟨h.1.symm, h.2.2.1.symm, h.2.1.symm, h.2.2.2.symm⟩

theorem own_done {w : World} {base lo hi g cap n : Nat} {vs : List RsT} (hown : w.ownsRow base 35 5 (.slice (some ⟨g, 0, none⟩) n cap) n (rsCells vs)) (hn : n = vs.length) (hl : lo ≤ g) (hg : g < hi) (ht : ∀ t ∈ vs, ThingAt w lo hi g t) (hp : vs.Pairwise ApartT) : ∃ pb qb, OwnR w lo hi g (vs.map (·.r)) pb qb := by
  subst hn
  have hlt := hown.lt g rfl
  have hfz : ∀ i, w.frozen? ⟨g, i, none⟩ = false := by
    rcases hown.2 with ⟨h, _⟩ | ⟨g', cap', cur, e, _, hh, _⟩
    · cases h
    · cases e
      exact fun i => rowsR_frozen hh i
  refine ⟨fun j => if hj : j < vs.length then vs[j].p else 0, fun j => if hj : j < vs.length then vs[j].q else 0, hl, hg, hlt.2, hfz, fun j hj => ?_, fun j hj => ?_, fun j hj => ?_, fun j hj => ?_, fun i j hij hj => ?_⟩
  · have hj' : j < vs.length := by simpa using hj
    have hk := (ht _ (List.getElem_mem hj')).k
    obtain ⟨c0, c1, c2, c3, c4⟩ := rsCells_at vs j hj'
    simp only [List.getElem_map, hj', dif_pos]
    rw [hk.1] at c0
    rw [hk.2] at c4
    refine ⟨?_, ?_, ?_, ?_, ?_⟩
    · rw [hown.cellAt (j * 5) (by omega)]; exact c0
    · rw [hown.cellAt (j * 5 + 1) (by omega)]; exact c1
    · rw [hown.cellAt (j * 5 + 2) (by omega)]; exact c2
    · rw [hown.cellAt (j * 5 + 3) (by omega)]; exact c3
    · rw [hown.cellAt (j * 5 + 4) (by omega)]; exact c4
  · have hj' : j < vs.length := by simpa using hj
    simp only [List.getElem_map, hj', dif_pos]
    exact (ht _ (List.getElem_mem hj')).f
  · have hj' : j < vs.length := by simpa using hj
    simp only [List.getElem_map, hj', dif_pos]
    exact (ht _ (List.getElem_mem hj')).g'
  · have hj' : j < vs.length := by simpa using hj
    have h := ht _ (List.getElem_mem hj')
    simp only [hj', dif_pos]
    exact ⟨h.a, h.b, h.c, h.d, h.e⟩
  · have hj' : j < vs.length := by simpa using hj
    simp only [hj', show i < vs.length by omega, dif_pos]
    exact (List.pairwise_iff_getElem.1 hp) i j (by omega) hj' hij

/-- How many stand ahead. -/
theorem while_at {to : List ByteArray} : ∀ {st : List Rs} {k : Nat}, k ≤ st.length → (∀ j (hj : j < st.length), j < k → lessL st[j].pa to = true) → (∀ hk : k < st.length, lessL st[k].pa to = false) → st.takeWhile (aheadB to) = st.take k ∧ st.dropWhile (aheadB to) = st.drop k
  | [], k, _, _, _ => by simp
  | x :: st, 0, _, _, h => by
    have h0 : lessL x.pa to = false := h (by simp)
    have e : aheadB to x = false := h0
    rw [List.takeWhile_cons, List.dropWhile_cons, e]
    simp
  | x :: st, k + 1, hk, h1, h2 => by
    have h0 : lessL x.pa to = true := h1 0 (by simp) (by omega)
    have e : aheadB to x = true := h0
    obtain ⟨i1, i2⟩ := while_at (to := to) (st := st) (k := k) (by simpa using hk) (fun j hj hjk => by have := h1 (j + 1) (by simpa using hj) (by omega); simpa using this) (fun hk' => by have := h2 (by simpa using hk'); simpa using this)
    rw [List.takeWhile_cons, List.dropWhile_cons, e]
    simp [i1, i2]

theorem whole_put {w w' : World} {B1 lo1 B2 hi2 L g caps g2 i : Nat} {ts : List RsT} {st cs : List Rs} {to : List ByteArray} {pb qb : Nat → Nat} {v' : Value} (hG : GrowR w B1 (.slice (some ⟨g, 0, none⟩) st.length caps) ts lo1) (hts : ts.map (·.r) = st) (hcp : ∀ j (hj : j < ts.length), ts[j].pc = ts[j].r.pa.length ∧ ts[j].qc = ts[j].r.ps.length) (hO : OwnR w B2 hi2 g2 cs pb qb) (hap : lo1 ≤ B2 ∨ hi2 ≤ B1) (h2 : hi2 ≤ w.heap.size) (hL1 : L ≤ B1) (hL2 : L ≤ B2) (hL3 : L ≤ w.heap.size) (hi : i ≤ st.length)
    (hw : st.takeWhile (aheadB to) = st.take i ∧ st.dropWhile (aheadB to) = st.drop i) (hI : InsIs w w' B1 g v' (st.length + cs.length) ((rsCells ts).take (i * 5) ++ (rsCells (tsOf cs pb qb) ++ (rsCells ts).drop (i * 5)))) :
    ∃ g' cap' pb' qb', v' = .slice (some ⟨g', 0, none⟩) (wholeL st to cs).length cap' ∧ OwnR w' L w'.heap.size g' (wholeL st to cs) pb' qb' := by
  have htl : ts.length = st.length := by rw [← hts]; simp
  rw [rsCells_take ts i (by omega), rsCells_drop ts i (by omega), ← rsCells_append, ← rsCells_append] at hI
  have hgl := hG.own.lt g rfl
  have hglo : g < lo1 := by
    obtain ⟨g0, c0, e, h⟩ := hG.blk
    injection e with e1 e2 e3
    have e4 : g = g0 := congrArg Addr.block (Option.some.inj e1)
    omega
  have hto := hG.top
  -- the new row
  obtain ⟨g', cap', ev, hgL, hgc⟩ : ∃ g' cap', v' = .slice (some ⟨g', 0, none⟩) (st.length + cs.length) cap' ∧ L ≤ g' ∧ (g' = g ∨ w.heap.size ≤ g') := by
    rcases hI.own.2 with ⟨h, _⟩ | ⟨g', cap', cur, e, hb, _⟩
    · subst h
      rcases hI.blk with h | ⟨b, h, _⟩ <;> simp [Value.ownBlock] at h
    · refine ⟨g', cap', e, Nat.le_trans hL1 hb, ?_⟩
      subst e
      rcases hI.blk with h | ⟨b, h, hb'⟩
      · exact .inl (Option.some.inj h)
      · right
        have : g' = b := Option.some.inj h
        omega
  subst ev
  have hown := hI.own
  have hlt' := hown.lt g' rfl
  have hsz := hI.grew.size
  have hkeep : ∀ b, b < w.heap.size → b ≠ g → w'.heap[b]? = w.heap[b]? := fun b hb hne => hI.grew.block b hb (fun e => hne (Option.some.inj e))
  have hkS : ∀ b l, RowS w b l → b ≠ g → RowS w' b l := fun b l h hne => ⟨Nat.lt_of_lt_of_le h.1 hsz, fun j hj => by
    have e := hkeep b h.1 hne
    have := h.2 j hj
    simp only [World.cell?, World.frozen?] at this ⊢
    rw [e]
    exact this⟩
  have hkP : ∀ b l, RowP w b l → b ≠ g → RowP w' b l := fun b l h hne => h.of (Nat.lt_of_lt_of_le h.1 hsz) (fun o => by simp only [World.cell?, hkeep b h.1 hne]) (fun o => by simp only [World.frozen?, hkeep b h.1 hne])
  have e0 : (ts.take i ++ (tsOf cs pb qb ++ ts.drop i)).map (·.r) = wholeL st to cs := by
    unfold wholeL
    rw [hw.1, hw.2, List.map_append, List.map_append, tsOf_map, List.map_take, List.map_drop, hts]
  have hlen : st.length + cs.length = (ts.take i ++ (tsOf cs pb qb ++ ts.drop i)).length := by
    simp only [List.length_append, List.length_take, List.length_drop, tsOf_length, htl]
    omega
  have hT1 : ∀ t ∈ ts, ThingAt w' L w'.heap.size g' t ∧ B1 ≤ t.p ∧ t.q < lo1 := fun t ht => by
    obtain ⟨j, hj, rfl⟩ := List.mem_iff_getElem.1 ht
    obtain ⟨k1, k2, k3, k4, k5, k6, k7⟩ := hG.el j hj
    have n1 : ts[j].p ≠ g := fun e => k6 (by rw [e]; rfl)
    have n2 : ts[j].q ≠ g := fun e => k7 (by rw [e]; rfl)
    have := k4.1
    have := k5.1
    exact ⟨⟨by omega, k2, by omega, by omega, by omega, hkS _ _ k4 n1, hkP _ _ k5 n2, hcp j hj⟩, k1, k3⟩
  have hT2 : ∀ t ∈ tsOf cs pb qb, ThingAt w' L w'.heap.size g' t ∧ B2 ≤ t.p ∧ t.q < hi2 := fun t ht => by
    obtain ⟨j, hj, rfl⟩ := List.mem_iff_getElem.1 ht
    have hj' : j < cs.length := by rw [tsOf_length] at hj; exact hj
    rw [tsOf_at]
    obtain ⟨k1, k2, k3, k4, k5⟩ := hO.bnd j hj'
    have r1 := hO.rp j hj'
    have r2 := hO.rq j hj'
    have := r1.1
    have := r2.1
    have n1 : pb j ≠ g := by omega
    have n2 : qb j ≠ g := by omega
    exact ⟨⟨by show L ≤ pb j; omega, k2, by show qb j < _; omega, by show pb j ≠ g'; omega, by show qb j ≠ g'; omega, hkS _ _ r1 n1, hkP _ _ r2 n2, ⟨rfl, rfl⟩⟩, k1, k3⟩
  have hP1 : ts.Pairwise ApartT := List.pairwise_iff_getElem.2 fun i j hi hj hij => by
    have o1 := hG.ord i j hij hj
    have o2 := (hG.el i hi).2.1
    have o3 := (hG.el j hj).2.1
    exact ⟨by omega, by omega, by omega, by omega⟩
  have hP2 : (tsOf cs pb qb).Pairwise ApartT := List.pairwise_iff_getElem.2 fun i j hi hj hij => by
    rw [tsOf_at, tsOf_at]
    exact hO.ord i j hij (by rw [tsOf_length] at hj; exact hj)
  have hX : ∀ t ∈ ts, ∀ u ∈ tsOf cs pb qb, ApartT t u := fun t ht u hu => by
    obtain ⟨a1, a2, a3⟩ := hT1 t ht
    obtain ⟨b1, b2, b3⟩ := hT2 u hu
    have := a1.b
    have := b1.b
    unfold ApartT
    omega
  have hPall : (ts.take i ++ (tsOf cs pb qb ++ ts.drop i)).Pairwise ApartT := by
    have h0 := hP1
    rw [← List.take_append_drop i ts] at h0
    obtain ⟨p1, p2, p3⟩ := List.pairwise_append.1 h0
    refine List.pairwise_append.2 ⟨p1, List.pairwise_append.2 ⟨hP2, p2, fun u hu t ht => (hX t (List.mem_of_mem_drop ht) u hu).symm⟩, fun t ht u hu => ?_⟩
    rcases List.mem_append.1 hu with hu | hu
    · exact hX t (List.mem_of_mem_take ht) u hu
    · exact p3 t ht u hu
  obtain ⟨pb', qb', hR⟩ := own_done (lo := L) (hi := w'.heap.size) hown hlen hgL hlt'.2 (fun t ht => by
    rcases List.mem_append.1 ht with h | h
    · exact (hT1 t (List.mem_of_mem_take h)).1
    · rcases List.mem_append.1 h with h | h
      · exact (hT2 t h).1
      · exact (hT1 t (List.mem_of_mem_drop h)).1) hPall
  rw [e0] at hR
  refine ⟨g', cap', pb', qb', ?_, hR⟩
  rw [show (wholeL st to cs).length = st.length + cs.length by rw [← e0, List.length_map, ← hlen]]
end Go.Proofs.YtclnpfpaabmkcaaGreat
