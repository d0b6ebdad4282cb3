/-
  Rows of locks whose paths lie elsewhere.
-/
import Derived.Test.YtclnpfpaabmkcaaGenPick
import Derived.Test.YtclnpfpaabmkcaaCopyCells
import Derived.Maps.AppendAt
import Derived.Laws.OwnMore
namespace Go.Proofs.Ytclnpfpaabmkcaa
open Go.RowKit M
set_option linter.unusedVariables false

/-- A lock in a row: where its path lies, and that slice's room. -/
structure LkT where
  r : Lk
  pa : Option Addr
  pc : Nat
def lkC1 (t : LkT) : List Value := [.int .i64 t.r.tk, .slice t.pa t.r.pa.length t.pc, .bool t.r.de, .bool t.r.sh, .int .i64 t.r.un]
def lkCells (ts : List LkT) : List Value := ts.flatMap lkC1
theorem lkCells_length (ts : List LkT) : (lkCells ts).length = ts.length * 5 := by
  induction ts with
  | nil => rfl
  | cons t l ih => simp only [lkCells, List.flatMap_cons, List.length_append, List.length_cons] at *; rw [ih]; simp only [lkC1, List.length_cons, List.length_nil]; omega
theorem lkCells_append (a b : List LkT) : lkCells (a ++ b) = lkCells a ++ lkCells b := by simp [lkCells]
theorem lkCells_at (ts : List LkT) : ∀ j (hj : j < ts.length) i, i < 5 → (lkCells ts)[j * 5 + i]? = (lkC1 ts[j])[i]? := by
  induction ts with
  | nil => intro j hj; exact absurd hj (Nat.not_lt_zero _)
  | cons t l ih =>
    intro j hj i hi
    have e : lkCells (t :: l) = lkC1 t ++ lkCells l := by simp [lkCells]
    rw [e]
    have hl : (lkC1 t).length = 5 := rfl
    match j, hj with
    | 0, _ => rw [Nat.zero_mul, Nat.zero_add, List.getElem?_append_left (by omega)]; rfl
    | j + 1, hj =>
      rw [List.getElem?_append_right (by rw [hl]; omega), hl, show (j + 1) * 5 + i - 5 = j * 5 + i by omega]
      simpa using ih j (by simpa using hj) i hi
theorem lkCells_one (ts : List LkT) : ∀ v ∈ lkCells ts, v.oneCell' = true := fun v hv => by
  obtain ⟨t, _, ht⟩ := List.mem_flatMap.1 hv
  simp only [lkC1, List.mem_cons, List.not_mem_nil, or_false] at ht
  rcases ht with rfl | rfl | rfl | rfl | rfl <;> rfl

/-- What a row of them holds. -/
def RowV (w : World) (g : Nat) (ts : List LkT) : Prop := g < w.heap.size ∧ (∀ j (hj : j < ts.length), LkAt w g (j * 5) ts[j].r ts[j].pa ts[j].pc) ∧ ∀ i, w.frozen? ⟨g, i, none⟩ = false
theorem RowV.of {w w' : World} {g : Nat} {ts : List LkT} (h : RowV w g ts) (hz : g < w'.heap.size) (e : ∀ o, w'.cell? ⟨g, o, none⟩ = w.cell? ⟨g, o, none⟩) (f : ∀ o, w'.frozen? ⟨g, o, none⟩ = w.frozen? ⟨g, o, none⟩) : RowV w' g ts :=
  ⟨hz, fun j hj => (h.2.1 j hj).of e, fun i => by rw [f]; exact h.2.2 i⟩
theorem RowV.below {w w' : World} {g : Nat} {ts : List LkT} (h : RowV w g ts) (hb : Below w.heap.size w w') : RowV w' g ts :=
  h.of (Nat.lt_of_lt_of_le h.1 hb.size) (fun o => hb.cell (p := ⟨g, o, none⟩) h.1) (fun o => hb.frozen (p := ⟨g, o, none⟩) h.1)
theorem RowV.heap {w : World} {g : Nat} {ts : List LkT} {cs : Array Value} {T : TypeId} (h : w.heap[g]? = some (.cells cs T (0, 0))) (e : ∀ i, i < ts.length * 5 → cs[i]? = (lkCells ts)[i]?) : RowV w g ts := by
  have hc : ∀ o, w.cell? ⟨g, o, none⟩ = cs[o]? := fun o => by simp [World.cell?, h]
  have hf : ∀ o, w.frozen? ⟨g, o, none⟩ = false := fun o => by
    simp only [World.frozen?, h, Bool.and_eq_false_iff, decide_eq_false_iff_not]
    right; omega
  refine ⟨(Array.getElem?_eq_some_iff.1 h).1, fun j hj => ?_, hf⟩
  have h5 : ∀ i, i < 5 → w.cell? ⟨g, j * 5 + i, none⟩ = (lkC1 ts[j])[i]? := fun i hi => by
    rw [hc, e _ (by omega), lkCells_at ts j hj i hi]
  exact ⟨h5 0 (by omega), h5 1 (by omega), h5 2 (by omega), h5 3 (by omega), h5 4 (by omega)⟩
/-- Its paths lie below B. -/
def InV (w : World) (B : Nat) (ts : List LkT) : Prop := ∀ t ∈ ts, LkIn w B t.r t.pa t.pc
theorem InV.below {w w' : World} {B C : Nat} {ts : List LkT} (h : InV w B ts) (hb : Below C w w') (hB : B ≤ C) : InV w' B ts := fun t ht => (h t ht).below hb hB
theorem RowV.lks {w : World} {g B C : Nat} {ts : List LkT} (h : RowV w g ts) (hi : InV w B ts) (hC : g < C) (hB : B ≤ C) : Lks w C (some ⟨g, 0, none⟩) (ts.map (·.r)) := fun _ => by
  refine ⟨g, 0, rfl, hC, fun j hj => ?_⟩
  have hj' : j < ts.length := by simpa using hj
  simp only [List.getElem_map]
  exact ⟨_, _, by rw [Nat.zero_add]; exact h.2.1 j hj', (hi _ (List.getElem_mem hj')).mono hB⟩
/-- A slice of locks as such. -/
theorem Lks.ts {w : World} {B : Nat} {a : Option Addr} {l : List Lk} (h : Lks w B a l) : ∃ ts : List LkT, ts.map (·.r) = l ∧ InV w B ts ∧ (0 < l.length → ∃ b o, a = some ⟨b, o, none⟩ ∧ b < B ∧ ∀ j (hj : j < ts.length), LkAt w b (o + j * 5) ts[j].r ts[j].pa ts[j].pc) := by
  by_cases h0 : 0 < l.length
  · obtain ⟨b, o, ea, hb, hc⟩ := h h0
    have each : ∀ j, j < l.length → ∃ t : LkT, (∀ hj : j < l.length, t.r = l[j]) ∧ LkAt w b (o + j * 5) t.r t.pa t.pc ∧ LkIn w B t.r t.pa t.pc := fun j hj => by
      obtain ⟨pa, pc, h1, h2⟩ := hc j hj
      exact ⟨⟨l[j], pa, pc⟩, fun _ => rfl, h1, h2⟩
    obtain ⟨ts, hl, ht⟩ := pick_gen each
    refine ⟨ts, ?_, fun t hm => ?_, fun _ => ⟨b, o, ea, hb, fun j hj => (ht j hj).2.1⟩⟩
    · apply List.ext_getElem
      · rw [List.length_map, hl]
      · intro j h1 h2
        rw [List.getElem_map]
        exact (ht j (by omega)).1 h2
    · obtain ⟨j, hj, rfl⟩ := List.mem_iff_getElem.1 hm
      exact (ht j hj).2.2
  · have : l = [] := List.eq_nil_of_length_eq_zero (by omega)
    subst this
    exact ⟨[], rfl, fun t h => (by cases h), fun h => absurd h (Nat.lt_irrefl _)⟩
/-- The cells of a part of it, as copy reads them. -/
theorem lks_src {w : World} {b o : Nat} {ts : List LkT} (h : ∀ j (hj : j < ts.length), LkAt w b (o + j * 5) ts[j].r ts[j].pa ts[j].pc) : ∀ i v, (lkCells ts)[i]? = some v → w.cell? ((⟨b, o, none⟩ : Addr).add i) = some v := fun i v hv => by
  have hi := (List.getElem?_eq_some_iff.1 hv).1
  rw [lkCells_length] at hi
  have hj : i / 5 < ts.length := by omega
  have ei : i = i / 5 * 5 + i % 5 := by omega
  have h5 := lkCells_at ts (i / 5) hj (i % 5) (by omega)
  rw [← ei, hv] at h5
  rw [add_pick]
  obtain ⟨c0, c1, c2, c3, c4⟩ := h (i / 5) hj
  have hm : i % 5 = 0 ∨ i % 5 = 1 ∨ i % 5 = 2 ∨ i % 5 = 3 ∨ i % 5 = 4 := by omega
  rcases hm with e | e | e | e | e <;> rw [e] at h5 ei <;> rw [ei] <;> simp only [lkC1, List.getElem?_cons_zero, List.getElem?_cons_succ] at h5
  · rw [Nat.add_zero, h5]; exact c0
  · rw [← Nat.add_assoc, h5]; exact c1
  · rw [← Nat.add_assoc, h5]; exact c2
  · rw [← Nat.add_assoc, h5]; exact c3
  · rw [← Nat.add_assoc, h5]; exact c4

/-- A growing row of them that the call owns. -/
def OwnT (w : World) (B : Nat) (v : Value) (ts : List LkT) : Prop := w.ownsRow B 27 5 v ts.length (lkCells ts)
theorem OwnT.made (w : World) (B : Nat) (hB : B ≤ w.heap.size) : OwnT (w.alloc (Obj.cells #[] 27)) B (.slice (some ⟨w.heap.size, 0, none⟩) 0 0) [] :=
  ⟨rfl, .inr ⟨w.heap.size, 0, #[], rfl, hB, heap_alloc_new w _, Nat.le_refl _, Nat.zero_le _, rfl, rfl⟩⟩
theorem OwnT.next {w w' : World} {B : Nat} {v : Value} {ts : List LkT} (h : OwnT w B v ts) (hb : Below w.heap.size w w') : OwnT w' B v ts :=
  World.ownsRow.kept (row := none) h ⟨hb.os, hb.tape, hb.output, hb.size, fun k hk _ => hb.block k hk⟩ (Classical.em _)
theorem OwnT.keepB {w w' : World} {B g n c : Nat} {ts : List LkT} (h : OwnT w B (.slice (some ⟨g, 0, none⟩) n c) ts) (e : w'.heap[g]? = w.heap[g]?) : OwnT w' B (.slice (some ⟨g, 0, none⟩) n c) ts := by
  refine ⟨h.1, ?_⟩
  rcases h.2 with ⟨h0, _⟩ | ⟨g', c', cur, hv, hB, hh, hr⟩
  · cases h0
  · cases hv
    exact .inr ⟨g, c, cur, rfl, hB, e.trans hh, hr⟩
theorem RowS.hp {w w' : World} {b : Nat} {l : List ByteArray} (h : RowS w b l) (hz : w.heap.size ≤ w'.heap.size) (e : w'.heap[b]? = w.heap[b]?) : RowS w' b l :=
  ⟨Nat.lt_of_lt_of_le h.1 hz, fun j hj => by simp only [World.cell?, World.frozen?, e]; exact h.2 j hj⟩
theorem OwnT.row {w : World} {B g n c : Nat} {ts : List LkT} (h : OwnT w B (.slice (some ⟨g, 0, none⟩) n c) ts) : n = ts.length ∧ RowV w g ts ∧ n ≤ c ∧ c ≤ maxLen ∧ B ≤ g := by
  have hlt := World.ownsRow.lt h g rfl
  rcases h.2 with ⟨e, _⟩ | ⟨g', c', cur, e, hB, hh, h1, h2, _⟩
  · cases e
  · cases e
    have hl := lkCells_length ts
    have hcc : ∀ j (hj : j < ts.length) i, i < 5 → w.cell? ⟨g, j * 5 + i, none⟩ = (lkC1 ts[j])[i]? := fun j hj i hi => by
      rw [World.ownsRow.cellAt h (j * 5 + i) (by omega)]
      exact lkCells_at ts j hj i hi
    refine ⟨rfl, ⟨hlt.2, fun j hj => ⟨hcc j hj 0 (by omega), hcc j hj 1 (by omega), hcc j hj 2 (by omega), hcc j hj 3 (by omega), hcc j hj 4 (by omega)⟩, fun i => ?_⟩, h1, h2, hB⟩
    simp only [World.frozen?, hh, Bool.and_eq_false_iff, decide_eq_false_iff_not]
    right; omega
theorem below_grownT {w w' : World} {B n : Nat} {v : Value} {xs : List Value} (hown : w.ownsRow B 27 5 v n xs) (hB : B ≤ w.heap.size) (hg : w.grownBy w' v.ownBlock) : Below B w w' :=
  ⟨hg.os, hg.tape, hg.output, hg.size, fun k hk => hg.block k (by omega) (fun e => by have := (hown.lt k e.symm).1; omega)⟩

/-- 'l = append(l, x)' on a row that the call owns. -/
theorem wp_append_lkT {w : World} {ops : Array Oper} {rest : List Oper} {o : Oper} {a : Act} {Q : Exit → Act → World → Prop} (T : TypeId) (hu : Try.prog.underlying T = some (.slice 27)) (hgd : o.guard = none) (s x : Operand)
    (ho : o.op = .call { callee := .builtin .append, args := #[s, x], argTypes := #[T, T] })
    (B : Nat) (v : Value) (l : List LkT) (hs : a.eval s = v) (hown : OwnT w B v l)
    (N : Nat) (t : LkT) (hx : a.eval x = .slice (some ⟨N, 0, none⟩) 1 1) (hc0 : LkAt w N 0 t.r t.pa t.pc) (hlen : l.length + 1 ≤ 1099511627776) (hB : B ≤ w.heap.size)
    (h : ∀ g n cap w', n = (l ++ [t]).length → OwnT w' B (.slice (some ⟨g, 0, none⟩) n cap) (l ++ [t]) → Below B w w' → w.grownBy w' v.ownBlock → ((Value.slice (some ⟨g, 0, none⟩) n cap).ownBlock = v.ownBlock ∨ (Value.slice (some ⟨g, 0, none⟩) n cap).ownBlock = some w.heap.size) → wpList Try.prog ops Q rest (a.put o.dst (.slice (some ⟨g, 0, none⟩) n cap)) w') : wpList Try.prog ops Q (o :: rest) a w := by
  obtain ⟨i0, hi, hz0, hz1, hz2⟩ := info_parts info_lock
  refine wpList_append_own_at w hgd s x T ho B 27 i0 _ 5 48 hu hi hz0 hz1 hz2 rfl (by decide) v l.length _ hs hown ⟨N, 0, none⟩ 1 1 (lkC1 t) hx rfl ?_ ?_ ?_ ?_ hB ?_
  · intro j u hj
    rw [add_pick]
    obtain ⟨c0, c1, c2, c3, c4⟩ := hc0
    simp only [Nat.zero_add] at c0 c1 c2 c3 c4 ⊢
    unfold lkC1 at hj
    match j, hj with
    | 0, hj => simp at hj; subst hj; exact c0
    | 1, hj => simp at hj; subst hj; exact c1
    | 2, hj => simp at hj; subst hj; exact c2
    | 3, hj => simp at hj; subst hj; exact c3
    | 4, hj => simp at hj; subst hj; exact c4
  · intro u hu; simp [lkC1] at hu; rcases hu with rfl | rfl | rfl | rfl | rfl <;> rfl
  · unfold maxLen; omega
  · omega
  · intro v' w' ho' hg _ hat
    obtain ⟨g, cap, rfl⟩ : ∃ g cap, v' = .slice (some ⟨g, 0, none⟩) (l.length + 1) cap := by
      rcases ho'.2 with ⟨_, h0⟩ | ⟨g, cap, cur, hv, _⟩
      · omega
      · exact ⟨g, cap, hv⟩
    refine h g (l.length + 1) cap w' (by simp) ?_ (below_grownT hown hB hg) hg hat
    unfold OwnT
    rw [lkCells_append, show lkCells [t] = lkC1 t by simp [lkCells], show (l ++ [t]).length = l.length + 1 by simp]
    exact ho'
/-- 'append(l, x)' or 'append(l, more...)' as one step of a region that draws. -/
theorem step_append_lkT {ops : Array Oper} {o : Oper} {a : Act} {w : World} {K : Act → World → Prop} {Q : Exit → Act → World → Prop} {E : Prop} (T : TypeId) (hu : Try.prog.underlying T = some (.slice 27)) (hgd : o.guard = none) (s x : Operand)
    (ho : o.op = .call { callee := .builtin .append, args := #[s, x], argTypes := #[T, T] })
    (B : Nat) (v : Value) (l : List LkT) (hs : a.eval s = v) (hown : OwnT w B v l)
    (b off n c : Nat) (us : List LkT) (hx : a.eval x = .slice (some ⟨b, off, none⟩) n c) (hn : n = us.length) (hc : ∀ j (hj : j < us.length), LkAt w b (off + j * 5) us[j].r us[j].pa us[j].pc) (hlen : l.length + us.length ≤ 1099511627776) (hB : B ≤ w.heap.size) (h0 : 0 < us.length)
    (h : ∀ g n cap w', n = (l ++ us).length → OwnT w' B (.slice (some ⟨g, 0, none⟩) n cap) (l ++ us) → Below B w w' → w.grownBy w' v.ownBlock → ((Value.slice (some ⟨g, 0, none⟩) n cap).ownBlock = v.ownBlock ∨ (Value.slice (some ⟨g, 0, none⟩) n cap).ownBlock = some w.heap.size) → K (a.put o.dst (.slice (some ⟨g, 0, none⟩) n cap)) w') :
    if Region.wanted o (yielded ops a.tmps) = true then Oper.wp Try.prog o a w K Q else E := by
  have hw : Region.wanted o (yielded ops a.tmps) = true := by simp [Region.wanted, hgd]
  rw [if_pos hw]
  obtain ⟨i0, hi, hz0, hz1, hz2⟩ := info_parts info_lock
  obtain ⟨v', w', hr, ho', hg, _, hat⟩ := run_append_own_at (P := Try.prog) (w := w) B T o.type 27 i0 _ 5 48 hu hi hz0 hz1 hz2 rfl (by decide) v l.length _ hown ⟨b, off, none⟩ n c (lkCells us) (by rw [lkCells_length, hn]) (fun j u hj => lks_src hc j u hj) (lkCells_one us) (by unfold maxLen; omega) (by omega) hB
  unfold Oper.wp execOp
  simp only [ho, resolve, invoke, builtin, Sem.run_bind, Sem.run_pure, Result.andThen_ok, List.map_toArray, List.map_cons, List.map_nil, hs, hx, hr]
  obtain ⟨g, cap, rfl⟩ : ∃ g cap, v' = .slice (some ⟨g, 0, none⟩) (l.length + n) cap := by
    rcases ho'.2 with ⟨_, h1⟩ | ⟨g, cap, cur, hv, _⟩
    · omega
    · exact ⟨g, cap, hv⟩
  refine h g (l.length + n) cap w' (by rw [List.length_append, hn]) ?_ (below_grownT hown hB hg) hg hat
  unfold OwnT
  rw [lkCells_append, List.length_append, ← hn]
  exact ho'
theorem step_append_lkNil {ops : Array Oper} {o : Oper} {a : Act} {w : World} {K : Act → World → Prop} {Q : Exit → Act → World → Prop} {E : Prop} (T : TypeId) (hu : Try.prog.underlying T = some (.slice 27)) (hgd : o.guard = none) (s x : Operand)
    (ho : o.op = .call { callee := .builtin .append, args := #[s, x], argTypes := #[T, T] })
    (B : Nat) (v : Value) (l : List LkT) (hs : a.eval s = v) (hown : OwnT w B v l)
    (ad : Option Addr) (c : Nat) (hx : a.eval x = .slice ad 0 c) (hc : ad = none → c = 0) (hB : B ≤ w.heap.size) (hv0 : v ≠ .slice none 0 0) (hlen : l.length ≤ 1099511627776)
    (h : ∀ g n cap w', n = l.length → OwnT w' B (.slice (some ⟨g, 0, none⟩) n cap) l → Below B w w' → w.grownBy w' v.ownBlock → ((Value.slice (some ⟨g, 0, none⟩) n cap).ownBlock = v.ownBlock ∨ (Value.slice (some ⟨g, 0, none⟩) n cap).ownBlock = some w.heap.size) → K (a.put o.dst (.slice (some ⟨g, 0, none⟩) n cap)) w') :
    if Region.wanted o (yielded ops a.tmps) = true then Oper.wp Try.prog o a w K Q else E := by
  have hw : Region.wanted o (yielded ops a.tmps) = true := by simp [Region.wanted, hgd]
  rw [if_pos hw]
  obtain ⟨i0, hi, hz0, hz1, hz2⟩ := info_parts info_lock
  cases ad with
  | none =>
    obtain rfl := hc rfl
    have hr := run_append_owned_none (P := Try.prog) (w := w) B T o.type 27 i0 5 hu hi _ _ _ hown
    obtain ⟨g, cap, rfl⟩ : ∃ g cap, v = .slice (some ⟨g, 0, none⟩) l.length cap := by
      rcases hown.2 with ⟨h1, _⟩ | ⟨g, cap, cur, hv, _⟩
      · exact absurd h1 hv0
      · exact ⟨g, cap, hv⟩
    unfold Oper.wp execOp
    simp only [ho, resolve, invoke, builtin, Sem.run_bind, Sem.run_pure, Result.andThen_ok, List.map_toArray, List.map_cons, List.map_nil, hs, hx, hr]
    exact h g l.length cap w rfl hown (Below.refl _ _) ⟨rfl, rfl, rfl, Nat.le_refl _, fun _ _ _ => rfl⟩ (.inl rfl)
  | some ad =>
    obtain ⟨v', w', hr, ho', hg, hnn, hat⟩ := run_append_own_at (P := Try.prog) (w := w) B T o.type 27 i0 _ 5 48 hu hi hz0 hz1 hz2 rfl (by decide) v l.length _ hown ad 0 c [] (by simp) (fun j u hj => by simp at hj) (fun u hu => by cases hu) (by unfold maxLen; omega) (by omega) hB
    unfold Oper.wp execOp
    simp only [ho, resolve, invoke, builtin, Sem.run_bind, Sem.run_pure, Result.andThen_ok, List.map_toArray, List.map_cons, List.map_nil, hs, hx, hr]
    obtain ⟨g, cap, rfl⟩ : ∃ g cap, v' = .slice (some ⟨g, 0, none⟩) (l.length + 0) cap := by
      rcases ho'.2 with ⟨h1, _⟩ | ⟨g, cap, cur, hv, _⟩
      · exact absurd (hnn.1 h1).1 hv0
      · exact ⟨g, cap, hv⟩
    refine h g _ cap w' rfl ?_ (below_grownT hown hB hg) hg hat
    unfold OwnT
    rw [List.append_nil] at ho'
    exact ho'
end Go.Proofs.Ytclnpfpaabmkcaa
