/-
  Rows of things that grow.
  A growing row of things stays where its blocks do.
  A row of locks, as a slice.
  Rows of texts that the call itself made: one more behind, one taken away, what it hands on.
  'append([]string{}, p...)' of whatever slice of texts.
  What spec.l13Copy does.
  What a value holds in blocks between two bounds, wherever else the world turns.
  'append([]int{}, l...)' of whatever slice of numbers, as a step of a drawn region.
  'append([]impl.Prop{}, l...)' of whatever slice of what is known.
  What spec.l10Copy does.
  Growing rows of things whose lists have no room besides.
  What spec.l10CopyAll does.
-/
import Derived.Test.YtcgljeagjchobaaGreatGenPick
import Derived.Maps.AppendAt
import Derived.Test.YtcgljeagjchobaaGreatPlaceB
import Derived.Test.YtcgljeagjchobaaGreatGenSrv
import Derived.Test.YtcgljeagjchobaaGreatDigit
import Derived.WalkSmall
import Derived.Laws.OwnMore
import Derived.Test.YtcgljeagjchobaaGreatTurnG
import Derived.Test.YtcgljeagjchobaaGreatRowsI
import Derived.ArgAppend
import Derived.Deep.Upon
import Derived.Deep.RegionHeld3
namespace Go.Proofs.YtcgljeagjchobaaGreat
open Go.RowKit M
set_option linter.unusedVariables false

/-- One thing of a growing row: its parts, the blocks of its two lists, their room. -/
structure RsT where
  r : Rs
  p : Nat
  pc : Nat
  q : Nat
  qc : Nat
def rsCells1 (t : RsT) : List Value := [.slice (some ⟨t.p, 0, none⟩) t.r.pa.length t.pc, .bool t.r.co, .string t.r.bo, .int .i64 t.r.ve, .slice (some ⟨t.q, 0, none⟩) t.r.ps.length t.qc]
def rsCells (ts : List RsT) : List Value := ts.flatMap rsCells1
theorem rsCells_length (ts : List RsT) : (rsCells ts).length = ts.length * 5 := by
  induction ts with
  | nil => rfl
  | cons t l ih => simp only [rsCells, List.flatMap_cons, List.length_append, List.length_cons] at *; rw [ih]; simp only [rsCells1, List.length_cons, List.length_nil]; omega
theorem rsCells_at (ts : List RsT) : ∀ j (hj : j < ts.length), (rsCells ts)[j * 5]? = some (.slice (some ⟨ts[j].p, 0, none⟩) ts[j].r.pa.length ts[j].pc) ∧ (rsCells ts)[j * 5 + 1]? = some (.bool ts[j].r.co) ∧ (rsCells ts)[j * 5 + 2]? = some (.string ts[j].r.bo) ∧ (rsCells ts)[j * 5 + 3]? = some (.int .i64 ts[j].r.ve) ∧ (rsCells ts)[j * 5 + 4]? = some (.slice (some ⟨ts[j].q, 0, none⟩) ts[j].r.ps.length ts[j].qc) := by
  induction ts with
  | nil => intro j hj; exact absurd hj (Nat.not_lt_zero _)
  | cons t l ih =>
    intro j hj
    have e : rsCells (t :: l) = rsCells1 t ++ rsCells l := by simp [rsCells]
    rw [e]
    match j, hj with
    | 0, _ => simp [rsCells1]
    | j + 1, hj =>
      have h1 := ih j (by simpa using hj)
      have hl : (rsCells1 t).length = 5 := rfl
      rw [List.getElem?_append_right (by rw [hl]; omega), List.getElem?_append_right (by rw [hl]; omega), List.getElem?_append_right (by rw [hl]; omega), List.getElem?_append_right (by rw [hl]; omega), List.getElem?_append_right (by rw [hl]; omega), hl]
      rw [show (j + 1) * 5 - 5 = j * 5 by omega, show (j + 1) * 5 + 1 - 5 = j * 5 + 1 by omega, show (j + 1) * 5 + 2 - 5 = j * 5 + 2 by omega, show (j + 1) * 5 + 3 - 5 = j * 5 + 3 by omega, show (j + 1) * 5 + 4 - 5 = j * 5 + 4 by omega]
      simpa using h1

/-- A growing row: it is the call's own from B on, and so are its lists. -/
structure GrowR (w : World) (B : Nat) (v : Value) (ts : List RsT) (lo : Nat) : Prop where
  own : w.ownsRow B 45 5 v ts.length (rsCells ts)
  blk : ∃ g cap, v = .slice (some ⟨g, 0, none⟩) ts.length cap ∧ g < lo
  top : lo ≤ w.heap.size
  el : ∀ j (hj : j < ts.length), B ≤ ts[j].p ∧ ts[j].p < ts[j].q ∧ ts[j].q < lo ∧ RowS w ts[j].p ts[j].r.pa ∧ RowP w ts[j].q ts[j].r.ps ∧ some ts[j].p ≠ v.ownBlock ∧ some ts[j].q ≠ v.ownBlock
  ord : ∀ i j (hij : i < j) (hj : j < ts.length), (ts[i]'(by omega)).q < ts[j].p
  caps : ∀ j (hj : j < ts.length), ts[j].r.pa.length ≤ ts[j].pc ∧ ts[j].pc ≤ maxLen ∧ ts[j].r.ps.length ≤ ts[j].qc ∧ ts[j].qc ≤ maxLen

theorem GrowR.made (w : World) (B : Nat) (hB : B ≤ w.heap.size) : GrowR (w.alloc (Obj.cells #[] 45)) B (.slice (some ⟨w.heap.size, 0, none⟩) 0 0) [] (w.heap.size + 1) :=
  ⟨⟨rfl, .inr ⟨w.heap.size, 0, #[], rfl, hB, heap_alloc_new w _, Nat.le_refl _, Nat.zero_le _, rfl, rfl⟩⟩, ⟨_, _, rfl, Nat.lt_succ_self _⟩, by simp, fun j hj => absurd hj (Nat.not_lt_zero _), fun i j _ hj => absurd hj (Nat.not_lt_zero _), fun j hj => absurd hj (Nat.not_lt_zero _)⟩
theorem GrowR.next {w w' : World} {B lo : Nat} {v : Value} {ts : List RsT} (g : GrowR w B v ts lo) (hb : Below w.heap.size w w') : GrowR w' B v ts lo := by
  refine ⟨⟨g.own.1, ?_⟩, g.blk, Nat.le_trans g.top hb.size, fun j hj => ?_, g.ord, g.caps⟩
  · rcases g.own.2 with h | ⟨g, cap, cur, e, hB, hh, hr⟩
    · exact .inl h
    · exact .inr ⟨g, cap, cur, e, hB, (hb.block g (Array.getElem?_eq_some_iff.1 hh).1).trans hh, hr⟩
  · obtain ⟨h1, h2, h3, h4, h5, h6⟩ := g.el j hj
    exact ⟨h1, h2, h3, h4.below hb, h5.below hb, h6⟩
theorem rowsR_frozen {w : World} {g : Nat} {cur : Array Value} {e : TypeId} (hh : w.heap[g]? = some (.cells cur e (0, 0))) (i : Nat) : w.frozen? ⟨g, i, none⟩ = false := by
  simp only [World.frozen?, hh, Bool.and_eq_false_iff, decide_eq_false_iff_not]
  right
  omega
theorem GrowR.at {w : World} {B lo : Nat} {v : Value} {ts : List RsT} (g : GrowR w B v ts lo) {b cap : Nat} (hv : v = .slice (some ⟨b, 0, none⟩) ts.length cap) (j : Nat) (hj : j < ts.length) : RsAt w b (j * 5) ts[j].r (some ⟨ts[j].p, 0, none⟩) ts[j].pc (some ⟨ts[j].q, 0, none⟩) ts[j].qc := by
  subst hv
  obtain ⟨c0, c1, c2, c3, c4⟩ := rsCells_at ts j hj
  have hown := g.own
  refine ⟨?_, ?_, ?_, ?_, ?_⟩
  · rw [hown.cellAt (j * 5) (by omega)]; exact c0
  · rw [hown.cellAt (j * 5 + 1) (by omega)]; exact c1
  · rw [hown.cellAt (j * 5 + 2) (by omega)]; exact c2
  · rw [hown.cellAt (j * 5 + 3) (by omega)]; exact c3
  · rw [hown.cellAt (j * 5 + 4) (by omega)]; exact c4
/-- What was made, as a slice. -/
theorem GrowR.rss {w : World} {B lo C : Nat} {v : Value} {ts : List RsT} (g : GrowR w B v ts lo) (hC : w.heap.size ≤ C) : ∃ b cap, v = .slice (some ⟨b, 0, none⟩) ts.length cap ∧ Rss w C (some ⟨b, 0, none⟩) (ts.map (·.r)) := by
  obtain ⟨b, cap, hv, hb⟩ := g.blk
  have ht := g.top
  refine ⟨b, cap, hv, fun _ => ⟨b, 0, rfl, by omega, fun j hj => ?_⟩⟩
  have hj' : j < ts.length := by simpa using hj
  obtain ⟨h1, h2, h3, h4, h5, h6⟩ := g.el j hj'
  obtain ⟨k1, k2, k3, k4⟩ := g.caps j hj'
  simp only [List.getElem_map]
  exact ⟨_, _, _, _, by rw [Nat.zero_add]; exact g.at hv j hj', ⟨h4.strs' (by omega), h5.pps (by omega), k1, k3, k2, k4, (fun e => by cases e), (fun e => by cases e)⟩⟩
/-- What was made is its own, where each list has no room besides. -/
theorem GrowR.done {w : World} {B lo : Nat} {v : Value} {ts : List RsT} (g : GrowR w B v ts lo) (hc : ∀ j (hj : j < ts.length), ts[j].pc = ts[j].r.pa.length ∧ ts[j].qc = ts[j].r.ps.length) : ∃ b cap, v = .slice (some ⟨b, 0, none⟩) ts.length cap ∧ OwnR w B w.heap.size b (ts.map (·.r)) (fun j => if hj : j < ts.length then ts[j].p else 0) (fun j => if hj : j < ts.length then ts[j].q else 0) := by
  obtain ⟨b, cap, hv, hb⟩ := g.blk
  have hat := fun j hj => g.at hv j hj
  have hlt := g.own.lt b (by rw [hv]; rfl)
  have ht := g.top
  have hfz : ∀ i, w.frozen? ⟨b, i, none⟩ = false := by
    rcases g.own.2 with ⟨e, _⟩ | ⟨b', cap', cur, e, _, hh, _⟩
    · rw [hv] at e; cases e
    · rw [hv] at e; cases e; exact fun i => rowsR_frozen hh i
  refine ⟨b, cap, hv, hlt.1, hlt.2, hlt.2, hfz, fun j hj => ?_, fun j hj => ?_, fun j hj => ?_, fun j hj => ?_, fun i j hij hj => ?_⟩
  · have hj' : j < ts.length := by simpa using hj
    simp only [List.getElem_map, hj', dif_pos]
    have := hat j hj'
    rw [(hc j hj').1, (hc j hj').2] at this
    exact this
  · have hj' : j < ts.length := by simpa using hj
    simp only [List.getElem_map, hj', dif_pos]
    exact (g.el j hj').2.2.2.1
  · have hj' : j < ts.length := by simpa using hj
    simp only [List.getElem_map, hj', dif_pos]
    exact (g.el j hj').2.2.2.2.1
  · have hj' : j < ts.length := by simpa using hj
    obtain ⟨h1, h2, h3, h4, h5, h6, h7⟩ := g.el j hj'
    simp only [hj', dif_pos]
    exact ⟨h1, h2, by omega, fun e => h6 (by rw [e, hv]; rfl), fun e => h7 (by rw [e, hv]; rfl)⟩
  · have hj' : j < ts.length := by simpa using hj
    simp only [hj', show i < ts.length by omega, dif_pos]
    have o1 := g.ord i j hij hj'
    have o2 := (g.el i (by omega)).2.1
    have o3 := (g.el j hj').2.1
    exact ⟨by omega, by omega, by omega, by omega⟩

/-- 'l = append(l, x)'. -/
theorem wp_append_res {w : World} {ops : Array Oper} {rest : List Oper} {o : Oper} {a : Act} {Q : Exit → Act → World → Prop} (hgd : o.guard = none) (s x : Operand)
    (ho : o.op = .call { callee := .builtin .append, args := #[s, x], argTypes := #[29, 29] })
    (B lo : Nat) (v : Value) (ts : List RsT) (hs : a.eval s = v) (hown : GrowR w B v ts lo)
    (N : Nat) (t : RsT) (hx : a.eval x = .slice (some ⟨N, 0, none⟩) 1 1) (hc0 : RsAt w N 0 t.r (some ⟨t.p, 0, none⟩) t.pc (some ⟨t.q, 0, none⟩) t.qc)
    (hlen : ts.length + 1 ≤ 1000000000) (hBl : B ≤ lo) (hp : lo ≤ t.p) (hpq : t.p < t.q) (hr : RowS w t.p t.r.pa) (hr2 : RowP w t.q t.r.ps) (hcap : t.r.pa.length ≤ t.pc ∧ t.pc ≤ maxLen ∧ t.r.ps.length ≤ t.qc ∧ t.qc ≤ maxLen)
    (h : ∀ v' w', GrowR w' B v' (ts ++ [t]) w'.heap.size → Below B w w' → wpList Tryz.prog ops Q rest (a.put o.dst v') w') : wpList Tryz.prog ops Q (o :: rest) a w := by
  obtain ⟨i0, hi, hz0, hz1, hz2⟩ := info_parts info_res
  have hlt := World.ownsRow.lt hown.own
  obtain ⟨g0, cap0, hv0, hg0⟩ := hown.blk
  have l2 := hown.top
  refine wpList_append_own_at w hgd s x 29 ho B 45 i0 _ 5 80 Tryz.underlying29 hi hz0 hz1 hz2 rfl (by decide) v ts.length _ hs hown.own ⟨N, 0, none⟩ 1 1 (rsCells1 t) hx rfl ?_ ?_ ?_ ?_ (by omega) ?_
  · intro j u hj
    have e : ∀ k, (⟨N, 0, none⟩ : Addr).add k = ⟨N, k, none⟩ := fun k => by unfold Addr.add; split <;> simp_all
    rw [e]
    obtain ⟨c0, c1, c2, c3, c4⟩ := hc0
    simp only [Nat.zero_add] at c0 c1 c2 c3 c4
    unfold rsCells1 at hj
    match j, hj with
    | 0, hj => simp at hj; subst hj; exact c0
    | 1, hj => simp at hj; subst hj; exact c1
    | 2, hj => simp at hj; subst hj; exact c2
    | 3, hj => simp at hj; subst hj; exact c3
    | 4, hj => simp at hj; subst hj; exact c4
  · intro u hu
    simp only [rsCells1, List.mem_cons, List.not_mem_nil, or_false] at hu
    rcases hu with rfl | rfl | rfl | rfl | rfl <;> rfl
  · unfold maxLen; omega
  · omega
  · intro v' w' ho' hg _ hat
    obtain ⟨g, cap, rfl⟩ : ∃ g cap, v' = .slice (some ⟨g, 0, none⟩) (ts.length + 1) cap := by
      rcases ho'.2 with ⟨_, h0⟩ | ⟨g, cap, cur, hv, _⟩
      · omega
      · exact ⟨g, cap, hv⟩
    subst hv0
    have hat' : g = g0 ∨ g = w.heap.size := by
      rcases hat with e | e
      · exact .inl (Option.some.inj e)
      · exact .inr (Option.some.inj e)
    have hblk : ∀ b, b < w.heap.size → b ≠ g0 → w'.heap[b]? = w.heap[b]? := fun b hb hne => hg.block b hb (fun e => hne (Option.some.inj e))
    have hkS : ∀ b l, RowS w b l → b ≠ g0 → RowS w' b l := fun b l hb hne => by
      have e := hblk b hb.1 hne
      refine ⟨Nat.lt_of_lt_of_le hb.1 hg.size, fun j hj => ?_⟩
      simp only [World.cell?, World.frozen?, e]
      exact hb.2 j hj
    have hkP : ∀ b l, RowP w b l → b ≠ g0 → RowP w' b l := fun b l hb hne => by
      have e := hblk b hb.1 hne
      exact hb.of (Nat.lt_of_lt_of_le hb.1 hg.size) (fun o => by simp only [World.cell?, e]) (fun o => by simp only [World.frozen?, e])
    have hgw : g < w'.heap.size := by
      have ho2 : w'.ownsRow B 45 5 (.slice (some ⟨g, 0, none⟩) (ts.length + 1) cap) (ts.length + 1) (rsCells ts ++ rsCells1 t) := ho'
      exact (ho2.lt g rfl).2
    have hz := hg.size
    have hl' : (ts ++ [t]).length = ts.length + 1 := by simp
    refine h _ w' ⟨?_, ⟨g, cap, by rw [hl'], hgw⟩, Nat.le_refl _, fun j hj => ?_, fun i j hij hj => ?_, fun j hj => ?_⟩ ⟨hg.os, hg.tape, hg.output, hg.size, fun k hk => hg.block k (by omega) (fun e => by have := (hlt k e.symm).1; omega)⟩
    · have e : rsCells (ts ++ [t]) = rsCells ts ++ rsCells1 t := by simp [rsCells]
      rw [e, hl']
      exact ho'
    · by_cases e : j < ts.length
      · rw [List.getElem_append_left e]
        obtain ⟨h1, h2, h3, h4, h5, h6, h7⟩ := hown.el j e
        have hne : ts[j].p ≠ g0 := fun e' => h6 (by rw [e']; rfl)
        have hne2 : ts[j].q ≠ g0 := fun e' => h7 (by rw [e']; rfl)
        have := h4.1
        have := h5.1
        refine ⟨h1, h2, by omega, hkS _ _ h4 hne, hkP _ _ h5 hne2, fun e' => ?_, fun e' => ?_⟩
        · have : ts[j].p = g := Option.some.inj e'
          rcases hat' with e2 | e2 <;> omega
        · have : ts[j].q = g := Option.some.inj e'
          rcases hat' with e2 | e2 <;> omega
      · have ej : j = ts.length := by omega
        subst ej
        rw [List.getElem_append_right (Nat.le_refl _)]
        simp only [Nat.sub_self, List.getElem_cons_zero]
        have hr1 := hr.1
        have hr21 := hr2.1
        refine ⟨by omega, hpq, by omega, hkS _ _ hr (by omega), hkP _ _ hr2 (by omega), fun e' => ?_, fun e' => ?_⟩
        · have : t.p = g := Option.some.inj e'
          rcases hat' with e2 | e2 <;> omega
        · have : t.q = g := Option.some.inj e'
          rcases hat' with e2 | e2 <;> omega
    · by_cases e : j < ts.length
      · rw [List.getElem_append_left e, List.getElem_append_left (by omega)]
        exact hown.ord i j hij e
      · have ej : j = ts.length := by omega
        subst ej
        rw [List.getElem_append_right (Nat.le_refl _), List.getElem_append_left hij]
        simp only [Nat.sub_self, List.getElem_cons_zero]
        have := (hown.el i hij).2.2.1
        omega
    · by_cases e : j < ts.length
      · rw [List.getElem_append_left e]; exact hown.caps j e
      · have ej : j = ts.length := by omega
        subst ej
        rw [List.getElem_append_right (Nat.le_refl _)]
        simp only [Nat.sub_self, List.getElem_cons_zero]
        exact hcap
end Go.Proofs.YtcgljeagjchobaaGreat
namespace Go.Proofs.YtcgljeagjchobaaGreat
open Go.RowKit M
set_option linter.unusedVariables false

/-- All that keeps the blocks from B on keeps a growing row. -/
theorem GrowR.heap {w w' : World} {B lo : Nat} {v : Value} {ts : List RsT} (g : GrowR w B v ts lo) (hz : w.heap.size ≤ w'.heap.size) (e : ∀ b, B ≤ b → b < w.heap.size → w'.heap[b]? = w.heap[b]?) : GrowR w' B v ts lo := by
  refine ⟨⟨g.own.1, ?_⟩, g.blk, Nat.le_trans g.top hz, fun j hj => ?_, g.ord, g.caps⟩
  · rcases g.own.2 with h | ⟨g, cap, cur, ev, hB, hh, hr⟩
    · exact .inl h
    · exact .inr ⟨g, cap, cur, ev, hB, (e g hB (Array.getElem?_eq_some_iff.1 hh).1).trans hh, hr⟩
  · obtain ⟨h1, h2, h3, h4, h5, h6⟩ := g.el j hj
    refine ⟨h1, h2, h3, ⟨Nat.lt_of_lt_of_le h4.1 hz, fun i hi => ?_⟩, h5.of (Nat.lt_of_lt_of_le h5.1 hz) (fun o => by simp only [World.cell?, e _ (by omega) h5.1]) (fun o => by simp only [World.frozen?, e _ (by omega) h5.1]), h6⟩
    have := h4.2 i hi
    simp only [World.cell?, World.frozen?] at this ⊢
    rw [e _ h1 h4.1]
    exact this
end Go.Proofs.YtcgljeagjchobaaGreat
namespace Go.Proofs.YtcgljeagjchobaaGreat
open Go.RowKit M
theorem lks_of_rowV {w : World} {g B : Nat} {ts : List LkT} {l : List Lk} (e : ts.map (·.r) = l) (h : RowV w g ts) (hi : InV w B ts) (hB : B ≤ w.heap.size) : Lks w w.heap.size (some ⟨g, 0, none⟩) l := by
  rw [← e]; exact h.lks hi h.1 hB
end Go.Proofs.YtcgljeagjchobaaGreat
namespace Go.Proofs.YtcgljeagjchobaaGreat
open Go.RowKit
set_option linter.unusedVariables false

def strCells (ss : List ByteArray) : List Value := ss.map Value.string
theorem strCells_length (ss : List ByteArray) : (strCells ss).length = ss.length := by simp [strCells]
theorem strCells_append (ss tt : List ByteArray) : strCells (ss ++ tt) = strCells ss ++ strCells tt := by simp [strCells]

/-- A row that the call owns stays where only new memory is laid. -/
theorem owns_below {B : Nat} {e : TypeId} {v : Value} {n : Nat} {xs : List Value} {w w' : World} (h : w.ownsRow B e 1 v n xs) (hb : Below w.heap.size w w') : w'.ownsRow B e 1 v n xs :=
  h.kept (row := none) ⟨hb.os, hb.tape, hb.output, hb.size, fun k hk _ => hb.block k hk⟩ (Classical.em _)

/-- 'l = append(l, s)' on a row of texts that the call owns. -/
theorem wp_append_str {w : World} {ops : Array Oper} {rest : List Oper} {o : Oper} {a : Act} {Q : Exit → Act → World → Prop} (hgd : o.guard = none) (s x : Operand)
    (ho : o.op = .call { callee := .builtin .append, args := #[s, x], argTypes := #[42, 42] })
    (B : Nat) (v : Value) (n : Nat) (l : List ByteArray) (hs : a.eval s = v) (hown : w.ownsRow B 9 1 v n (strCells l))
    (ad : Addr) (c : ByteArray) (hx : a.eval x = .slice (some ad) 1 1) (hcell : w.cell? ad = some (.string c)) (hlen : n + 1 ≤ 1099511627776) (hB : B ≤ w.heap.size)
    (h : ∀ g cap w', w'.ownsRow B 9 1 (.slice (some ⟨g, 0, none⟩) (n + 1) cap) (n + 1) (strCells (l ++ [c])) → Below B w w' → wpList Tryz.prog ops Q rest (a.put o.dst (.slice (some ⟨g, 0, none⟩) (n + 1) cap)) w') : wpList Tryz.prog ops Q (o :: rest) a w := by
  obtain ⟨i0, hi, hz0, hz1, hz2⟩ := info_parts info_str
  refine wpList_append_own w hgd s x 42 ho B 9 i0 (.string ByteArray.empty) 1 16 Tryz.underlying42 hi hz0 hz1 hz2 rfl (by decide) v n _ hs hown ad 1 1 [.string c] hx rfl ?_ ?_ ?_ ?_ hB ?_
  · intro j u hj
    match j, hj with
    | 0, hj =>
      simp at hj; subst hj
      have : ad.add 0 = ad := by unfold Addr.add; split <;> simp_all
      rw [this]; exact hcell
  · intro u hu; simp at hu; subst hu; rfl
  · unfold maxLen; omega
  · omega
  · intro v' w' ho' hg _
    obtain ⟨g, cap, rfl⟩ : ∃ g cap, v' = .slice (some ⟨g, 0, none⟩) (n + 1) cap := by
      rcases ho'.2 with ⟨_, h0⟩ | ⟨g, cap, cur, hv, _⟩
      · omega
      · exact ⟨g, cap, hv⟩
    refine h g cap w' ?_ (below_grown hown hB hg)
    rw [strCells_append]
    exact ho'

/-- A new row of texts, in a block from B on, none of them frozen. -/
def OwnS (w : World) (B : Nat) (v : Value) (ns : List ByteArray) : Prop :=
  ∃ g cap, v = .slice (some ⟨g, 0, none⟩) ns.length cap ∧ ns.length ≤ cap ∧ cap ≤ maxLen ∧ B ≤ g ∧ g < w.heap.size ∧ ∀ j (hj : j < ns.length), w.cell? ⟨g, j, none⟩ = some (.string ns[j]) ∧ w.frozen? ⟨g, j, none⟩ = false

theorem OwnS.of {w : World} {B g n cap : Nat} {ns : List ByteArray} (h : w.ownsRow B 9 1 (.slice (some ⟨g, 0, none⟩) n cap) n (strCells ns)) (hn : ns.length = n) : OwnS w B (.slice (some ⟨g, 0, none⟩) n cap) ns := by
  subst hn
  have hlt := h.lt g rfl
  have hcap : ns.length ≤ cap ∧ cap ≤ maxLen := by
    rcases h.2 with ⟨e, _⟩ | ⟨g', cap', cur, hv, _, _, h1, h2, _⟩
    · cases e
    · cases hv; exact ⟨h1, h2⟩
  refine ⟨g, cap, rfl, hcap.1, hcap.2, hlt.1, hlt.2, fun j hj => ⟨?_, h.frozenAt j⟩⟩
  rw [h.cellAt j (by omega)]
  simp [strCells, List.getElem?_eq_getElem hj]

/-- .. cut at its length. -/
theorem OwnS.clip {w : World} {B g n cap : Nat} {ns : List ByteArray} (h : OwnS w B (.slice (some ⟨g, 0, none⟩) n cap) ns) : OwnS w B (.slice (some ⟨g, 0, none⟩) n n) ns := by
  obtain ⟨g', cap', hv, h1, h2, h3, h4, h5⟩ := h
  cases hv
  exact ⟨g, ns.length, rfl, Nat.le_refl _, Nat.le_trans h1 h2, h3, h4, h5⟩

theorem OwnS.strs {w : World} {B C : Nat} {a : Option Addr} {n cap : Nat} {ns : List ByteArray} (h : OwnS w B (.slice a n cap) ns) (hC : w.heap.size ≤ C) : Strs w C a ns := fun h0 => by
  obtain ⟨g, cap', hv, _, _, _, h4, h5⟩ := h
  cases hv
  exact ⟨g, 0, rfl, by omega, fun j hj => by rw [Nat.zero_add]; exact (h5 j hj).1⟩

theorem OwnS.below {w w' : World} {B : Nat} {v : Value} {ns : List ByteArray} (h : OwnS w B v ns) (hb : Below w.heap.size w w') : OwnS w' B v ns := by
  obtain ⟨g, cap, hv, h1, h2, h3, h4, h5⟩ := h
  refine ⟨g, cap, hv, h1, h2, h3, Nat.lt_of_lt_of_le h4 hb.size, fun j hj => ?_⟩
  rw [hb.cell (p := ⟨g, j, none⟩) h4, hb.frozen (p := ⟨g, j, none⟩) h4]
  exact h5 j hj

theorem OwnS.made (w : World) (B : Nat) (hB : B ≤ w.heap.size) (cs : Array Value) (T : TypeId) : OwnS (w.alloc (.cells cs T)) B (.slice (some ⟨w.heap.size, 0, none⟩) 0 0) [] :=
  ⟨w.heap.size, 0, rfl, Nat.le_refl _, Nat.zero_le _, hB, by simp, fun j hj => absurd hj (Nat.not_lt_zero _)⟩
end Go.Proofs.YtcgljeagjchobaaGreat
namespace Go.Proofs.YtcgljeagjchobaaGreat
open Go.RowKit
set_option linter.unusedVariables false

theorem owns_rowS {w : World} {B g n cap : Nat} {ns : List ByteArray} (h : w.ownsRow B 9 1 (.slice (some ⟨g, 0, none⟩) n cap) n (strCells ns)) (hn : ns.length = n) : RowS w g ns ∧ B ≤ g ∧ n ≤ cap ∧ cap ≤ maxLen := by
  subst hn
  have hlt := h.lt g rfl
  have hcap : ns.length ≤ cap ∧ cap ≤ maxLen := by
    rcases h.2 with ⟨e, _⟩ | ⟨g', cap', cur, hv, _, _, h1, h2, _⟩
    · cases e
    · cases hv; exact ⟨h1, h2⟩
  refine ⟨⟨hlt.2, fun j hj => ⟨?_, h.frozenAt j⟩⟩, hlt.1, hcap.1, hcap.2⟩
  rw [h.cellAt j (by omega)]
  simp [strCells, List.getElem?_eq_getElem hj]

/-- The same texts, in a new row. -/
theorem wp_append_strs {w : World} {ops : Array Oper} {rest : List Oper} {o : Oper} {a : Act} {Q : Exit → Act → World → Prop} (hgd : o.guard = none) (s x : Operand)
    (ho : o.op = .call { callee := .builtin .append, args := #[s, x], argTypes := #[42, 42] })
    (B g0 : Nat) (l : List ByteArray) (n : Nat) (hn : n = l.length) (hs : a.eval s = .slice (some ⟨g0, 0, none⟩) 0 0) (hown : w.ownsRow B 9 1 (.slice (some ⟨g0, 0, none⟩) 0 0) 0 [])
    (C : Nat) (pa : Option Addr) (pc : Nat) (hx : a.eval x = .slice pa n pc) (hst : Strs w C pa l) (hpn : pa = none → pc = 0) (hlen : n ≤ 1099511627776) (hB : B ≤ w.heap.size)
    (h : ∀ g cap w', RowS w' g l → B ≤ g → n ≤ cap → cap ≤ maxLen → Below B w w' → wpList Tryz.prog ops Q rest (a.put o.dst (.slice (some ⟨g, 0, none⟩) n cap)) w') : wpList Tryz.prog ops Q (o :: rest) a w := by
  obtain ⟨i0, hi, hz0, hz1, hz2⟩ := info_parts info_str
  cases pa with
  | none =>
    have h0 : n = 0 := by
      rw [hn]
      by_cases e : 0 < l.length
      · obtain ⟨_, _, e', _⟩ := hst e; cases e'
      · omega
    have hl : l = [] := List.length_eq_zero_iff.1 (by omega)
    subst hl h0
    rw [hpn rfl] at hx
    have hr := run_append_owned_none (P := Tryz.prog) (w := w) B 42 o.type 9 i0 1 Tryz.underlying42 hi _ _ _ hown
    refine wpList_plain hgd fun K hK => ?_
    unfold Oper.wp execOp
    simp only [ho, resolve, invoke, builtin, Sem.run_bind, Sem.run_pure, Result.andThen_ok, List.map_toArray, List.map_cons, List.map_nil, hs, hx, hr]
    obtain ⟨r1, r2, r3, r4⟩ := owns_rowS (ns := []) (n := 0) hown rfl
    exact hK _ _ (h g0 0 w r1 r2 r3 r4 (Below.refl _ _))
  | some ad =>
    refine wpList_append_own w hgd s x 42 ho B 9 i0 (.string ByteArray.empty) 1 16 Tryz.underlying42 hi hz0 hz1 hz2 rfl (by decide) _ 0 _ hs hown ad n pc (strCells l) hx (by rw [strCells_length, hn, Nat.mul_one]) ?_ ?_ ?_ ?_ hB ?_
    · intro j u hj
      have hjl : j < l.length := by have := (List.getElem?_eq_some_iff.1 hj).1; rwa [strCells_length] at this
      obtain ⟨b, o', e, _, hc⟩ := hst (by omega)
      have e' : ad = ⟨b, o', none⟩ := by cases e; rfl
      subst e'
      have e2 : (⟨b, o', none⟩ : Addr).add j = ⟨b, o' + j, none⟩ := by unfold Addr.add; split <;> simp_all
      rw [e2, hc j hjl]
      unfold strCells at hj
      rw [List.getElem?_map, List.getElem?_eq_getElem hjl] at hj
      exact hj
    · intro u hu
      unfold strCells at hu
      obtain ⟨y, _, rfl⟩ := List.mem_map.1 hu
      rfl
    · unfold maxLen; omega
    · omega
    · intro v' w' ho' hg hnn
      rw [Nat.zero_add] at ho'
      obtain ⟨g, cap, rfl⟩ : ∃ g cap, v' = .slice (some ⟨g, 0, none⟩) n cap := by
        rcases ho'.2 with ⟨e, h0⟩ | ⟨g, cap, cur, hv, _⟩
        · have := (hnn.1 e).1; cases this
        · exact ⟨g, cap, hv⟩
      have ho2 : w'.ownsRow B 9 1 (.slice (some ⟨g, 0, none⟩) n cap) n (strCells l) := ho'
      obtain ⟨r1, r2, r3, r4⟩ := owns_rowS ho2 hn.symm
      exact h g cap w' r1 r2 r3 r4 (below_grown hown hB hg)
end Go.Proofs.YtcgljeagjchobaaGreat
namespace Go.Proofs.YtcgljeagjchobaaGreat
open Go.RowKit M
set_option linter.unusedVariables false

theorem RowV.hp {w w' : World} {g : Nat} {ts : List LkT} (h : RowV w g ts) (hz : w.heap.size ≤ w'.heap.size) (e : w'.heap[g]? = w.heap[g]?) : RowV w' g ts :=
  h.of (Nat.lt_of_lt_of_le h.1 hz) (fun o => by simp only [World.cell?, e]) (fun o => by simp only [World.frozen?, e])
/-- Its paths, each in a block of its own choosing, none of them g. -/
def PathsV (w : World) (lo g : Nat) (ts : List LkT) : Prop := ∀ t ∈ ts, ∃ p, t.pa = some ⟨p, 0, none⟩ ∧ RowS w p t.r.pa ∧ p ≠ g ∧ lo ≤ p ∧ t.r.pa.length ≤ t.pc ∧ t.pc ≤ maxLen
theorem PathsV.next {w w' : World} {lo g : Nat} {ts : List LkT} (h : PathsV w lo g ts) (hb : Below w.heap.size w w') : PathsV w' lo g ts := fun t ht => by
  obtain ⟨p, h1, h2, h3⟩ := h t ht
  exact ⟨p, h1, h2.below hb, h3⟩
theorem PathsV.keepB {w w' : World} {lo g g' : Nat} {ts : List LkT} (h : PathsV w lo g ts) (hz : w.heap.size ≤ w'.heap.size) (e : ∀ x, x < w.heap.size → x ≠ g → w'.heap[x]? = w.heap[x]?) (hg : g' = g ∨ w.heap.size ≤ g') : PathsV w' lo g' ts := fun t ht => by
  obtain ⟨p, h1, h2, h3, h4⟩ := h t ht
  have := h2.1
  exact ⟨p, h1, h2.hp hz (e p h2.1 h3), by omega, h4⟩
theorem PathsV.inV {w : World} {lo g : Nat} {ts : List LkT} (h : PathsV w lo g ts) : InV w w.heap.size ts := fun t ht => by
  obtain ⟨p, h1, h2, h3, _, h4, h5⟩ := h t ht
  rw [h1]
  exact ⟨h2.strs' h2.1, h4, h5, fun e => by cases e⟩

/-- Of what two rows hold: one grows. -/
theorem PickV.next {w w9 : World} {lo g g0 g9 : Nat} {ts0 : List LkT} (hrow : RowV w g0 ts0) (hp : PathsV w lo g ts0) (hne : g0 ≠ g) (hz : w.heap.size ≤ w9.heap.size) (e : ∀ x, x < w.heap.size → x ≠ g → w9.heap[x]? = w.heap[x]?) (hg : g9 = g ∨ w.heap.size ≤ g9) : RowV w9 g0 ts0 ∧ PathsV w9 lo g9 ts0 ∧ g0 ≠ g9 :=
  ⟨hrow.hp hz (e g0 hrow.1 hne), hp.keepB hz e hg, by have := hrow.1; omega⟩
set_option maxRecDepth 100000 in
set_option maxHeartbeats 4000000 in
theorem l13Copy_own (a : Option Addr) (l : List Lk) (cap B : Nat) (w : World) (h : Lks w B a l) (hB : B ≤ w.heap.size) (hl : l.length ≤ 1048577) (hs : ∀ r ∈ l, r.pa.length ≤ 1048576) :
    Calls Tryz.prog 81 #[.slice a l.length cap] w fun e w' => (∃ (g c : Nat) (ts : List LkT), e = .returned (.slice (some ⟨g, 0, none⟩) l.length c) ∧ ts.map (·.r) = l ∧ RowV w' g ts ∧ PathsV w' w.heap.size g ts ∧ w.heap.size ≤ g ∧ l.length ≤ c ∧ c ≤ maxLen ∧ OwnT w' w.heap.size (.slice (some ⟨g, 0, none⟩) l.length c) ts) ∧ Below w.heap.size w w' := by
  have HH := hide h
  have HS := hide hs
  have HO := hide (OwnT.made w w.heap.size (Nat.le_refl _))
  clear h hs
  go_enter Tryz.func81, Tryz.ntmps81
  go_wp2
  go_loopw [3, 4] (fun v i wr => ∃ (k g c : Nat) (ts : List LkT), k ≤ l.length ∧ i = .int .i64 k ∧ v = .slice (some ⟨g, 0, none⟩) k c ∧ Hid (OwnT wr w.heap.size (.slice (some ⟨g, 0, none⟩) k c) ts) ∧ Hid (ts.map (·.r) = l.take k) ∧ Hid (PathsV wr w.heap.size g ts) ∧ Below w.heap.size w wr) (fun _ i _ => l.length - (intOf i).toNat)
  case atStart => exact ⟨0, _, _, [], Nat.zero_le _, rfl, rfl, HO, (by show _ = _; simp), (fun t ht => by cases ht), (Below.refl _ _).alloc (Nat.le_refl _) _⟩
  case round =>
    obtain ⟨k, g, c, ts, hk, rfl, rfl, HOW, HTS, HPV, hbe⟩ := hrel
    by_cases hlt : k < l.length
    · obtain ⟨b, o, rfl, hb, hc⟩ := (HH.out.below hbe hB) (by omega)
      obtain ⟨pa, pc, ⟨hc0, hc1, hc2, hc3, hc4⟩, hin⟩ := hc k hlt
      have hBr := Nat.le_trans hB hbe.size
      have b1 := (Below.refl wr.heap.size wr).alloc (Nat.le_refl _) (Obj.cells #[.int .i64 l[k].tk, .slice pa l[k].pa.length pc, .bool l[k].de, .bool l[k].sh, .int .i64 l[k].un] 48)
      have b2 := b1.alloc b1.size (Obj.cells #[] 9)
      have hown := World.ownsRow_made (e := 9) (size := 1) (base := wr.heap.size + 1) (wr.alloc (Obj.cells #[.int .i64 l[k].tk, .slice pa l[k].pa.length pc, .bool l[k].de, .bool l[k].sh, .int .i64 l[k].un] 48)) #[] 0 (by simp) (by decide) rfl
      have hz : (wr.alloc (Obj.cells #[.int .i64 l[k].tk, .slice pa l[k].pa.length pc, .bool l[k].de, .bool l[k].sh, .int .i64 l[k].un] 48)).heap.size = wr.heap.size + 1 := by simp
      rw [hz] at hown
      have HOWN := hide hown
      have HX := hide ((BoxV.made wr [.int .i64 l[k].tk, .slice pa l[k].pa.length pc, .bool l[k].de, .bool l[k].sh, .int .i64 l[k].un] 48).alloc (Obj.cells #[] 9))
      have HST := hide ((hin.below b2 hBr).ph)
      have HPN := hide hin.pn
      have HC2 := hide (hbe.trans (b2.mono hbe.size))
      have HF := hide (show l.take (k + 1) = l.take k ++ [l[k]] from List.take_succ_eq_append_getElem hlt)
      have hsx : l[k].pa.length ≤ 1099511627776 := by have := HS.out _ (List.getElem_mem hlt); omega
      have hlow : (wr.heap.size + 1 : Nat) ≤ ((wr.alloc (Obj.cells #[.int .i64 l[k].tk, .slice pa l[k].pa.length pc, .bool l[k].de, .bool l[k].sh, .int .i64 l[k].un] 48)).alloc (Obj.cells #[] 9)).heap.size := by simp
      have HBR := hide hBr
      have hcp := (b2.cell (p := ⟨b, o + k * 5 + 1, none⟩) (by show b < wr.heap.size; omega)).trans hc1
      have hz0 := hbe.size
      have hgx : g < wr.heap.size := (OwnT.row HOW.out).2.1.1
      have hz2 := HC2.out.size
      have hz3 : ((wr.alloc (Obj.cells #[.int .i64 l[k].tk, .slice pa l[k].pa.length pc, .bool l[k].de, .bool l[k].sh, .int .i64 l[k].un] 48)).alloc (Obj.cells #[] 9)).heap.size = wr.heap.size + 1 + 1 := by simp
      have HZ3 := hide hz3
      have hb2b := hide b2
      clear hc hin b1 b2 hown hz hBr hz3
      go_wp2_with (at_builtin; refine wp_append_strs rfl _ _ rfl (wr.heap.size + 1) _ l[k].pa l[k].pa.length rfl rfl HOWN.out B pa pc rfl HST.out HPN.out hsx hlow ?_)
      intro g2 c2 w2 r2 hg2 hc21 hc22 hb2
      have hz2' := hb2.size
      rw [HZ3.out] at hz2'
      have HX2 := hide (show BoxV w2 wr.heap.size [.int .i64 l[k].tk, .slice pa l[k].pa.length pc, .bool l[k].de, .bool l[k].sh, .int .i64 l[k].un] from ⟨by omega, fun i v hv => by rw [hb2.cell (p := ⟨wr.heap.size, i, none⟩) (Nat.lt_succ_self _), hb2.frozen (p := ⟨wr.heap.size, i, none⟩) (Nat.lt_succ_self _)]; exact HX.out.2 i v hv⟩)
      have y0 := (HX2.out.2 0 _ rfl).1
      obtain ⟨y1, f1⟩ := HX2.out.2 1 _ rfl
      have y2 := (HX2.out.2 2 _ rfl).1
      have y3 := (HX2.out.2 3 _ rfl).1
      have y4 := (HX2.out.2 4 _ rfl).1
      obtain ⟨w3, hw3⟩ : ∃ W, w2.setCell ⟨wr.heap.size, 1, none⟩ (.slice (some ⟨g2, 0, none⟩) l[k].pa.length c2) = W := ⟨_, rfl⟩
      have hz4 : w3.heap.size = w2.heap.size := by rw [← hw3]; simp
      have hge : ∀ x, x < wr.heap.size → w3.heap[x]? = wr.heap[x]? := fun x hx => by
        rw [← hw3, Below.heap_setCell _ _ _ _ (by show x ≠ wr.heap.size; omega), hb2.block x (by omega)]
        exact hb2b.out.block x hx
      have HX3 := hide (show BoxV w3 wr.heap.size [.int .i64 l[k].tk, .slice (some ⟨g2, 0, none⟩) l[k].pa.length c2, .bool l[k].de, .bool l[k].sh, .int .i64 l[k].un] by rw [← hw3]; exact HX2.out.set 1 (by simp) _)
      have HC3 := hide (show Below w.heap.size w w3 by rw [← hw3]; exact (HC2.out.trans (hb2.mono (by omega))).setCell (p := ⟨wr.heap.size, 1, none⟩) hbe.size _)
      have HR3 := hide (show RowS w3 g2 l[k].pa by rw [← hw3]; exact r2.setCellL _ _ (by simp; omega))
      have HO3 := hide (HOW.out.keepB (w' := w3) (hge g hgx))
      have HP3 := hide (HPV.out.keepB (w' := w3) (g' := g) (by omega) (fun x hx _ => hge x hx) (.inl rfl))
      have bA := (Below.refl w3.heap.size w3).alloc (Nat.le_refl _) (Obj.cells #[.int .i64 l[k].tk, .slice (some ⟨g2, 0, none⟩) l[k].pa.length c2, .bool l[k].de, .bool l[k].sh, .int .i64 l[k].un] 48)
      have HO4 := hide (HO3.out.next bA)
      have HP4 := hide (HP3.out.next bA)
      have HR4 := hide (HR3.out.below bA)
      have HC4 := hide (HC3.out.trans (bA.mono HC3.out.size))
      have hln : ts.length + 1 ≤ 1099511627776 := by have := (OwnT.row HOW.out).1; omega
      have hs4 := HC4.out.size
      have hz5 : (w3.alloc (Obj.cells #[.int .i64 l[k].tk, .slice (some ⟨g2, 0, none⟩) l[k].pa.length c2, .bool l[k].de, .bool l[k].sh, .int .i64 l[k].un] 48)).heap.size = w3.heap.size + 1 := by simp
      obtain ⟨u0, u1, u2, u3, u4⟩ : w3.cell? ⟨wr.heap.size, 0, none⟩ = some (.int .i64 l[k].tk) ∧ w3.cell? ⟨wr.heap.size, 1, none⟩ = some (.slice (some ⟨g2, 0, none⟩) l[k].pa.length c2) ∧ w3.cell? ⟨wr.heap.size, 2, none⟩ = some (.bool l[k].de) ∧ w3.cell? ⟨wr.heap.size, 3, none⟩ = some (.bool l[k].sh) ∧ w3.cell? ⟨wr.heap.size, 4, none⟩ = some (.int .i64 l[k].un) := ⟨(HX3.out.2 0 _ rfl).1, (HX3.out.2 1 _ rfl).1, (HX3.out.2 2 _ rfl).1, (HX3.out.2 3 _ rfl).1, (HX3.out.2 4 _ rfl).1⟩
      have HN := hide (OwnT.row HOW.out).1
      have HAT := hide (show LkAt (w3.alloc (Obj.cells #[.int .i64 l[k].tk, .slice (some ⟨g2, 0, none⟩) l[k].pa.length c2, .bool l[k].de, .bool l[k].sh, .int .i64 l[k].un] 48)) w2.heap.size 0 l[k] (some ⟨g2, 0, none⟩) c2 by rw [← hz4]; refine ⟨?_, ?_, ?_, ?_, ?_⟩ <;> simp [go_sem])
      have HCC := hide (And.intro hc21 hc22)
      clear bA HOW HPV HO3 HP3 HR3 HC3 hb2 r2 hge HX HX2 HX3 HST HOWN hb2b HC2
      go_wp2_with (at_builtin; refine wp_append_lkT 30 Tryz.underlying30 rfl _ _ rfl w.heap.size _ ts rfl (by first | exact HO4.out | (rw [hw3]; exact HO4.out)) _ ⟨l[k], some ⟨g2, 0, none⟩, c2⟩ rfl HAT.out hln (by first | exact hs4 | (rw [hw3]; exact hs4)) ?_)
      intro g9 n9 c9 w9 hn9 hO9 hb9 hg9 hat
      obtain ⟨e1, e2, e3, e4, e5⟩ := hO9.row
      have hgn : g9 = g ∨ w3.heap.size + 1 ≤ g9 := by
        rcases hat with e | e
        · exact .inl (Option.some.inj e)
        · have e := Option.some.inj e
          simp at e
          right; omega
      have hkeep : ∀ x, x < w3.heap.size + 1 → x ≠ g → w9.heap[x]? = (w3.alloc (Obj.cells #[.int .i64 l[k].tk, .slice (some ⟨g2, 0, none⟩) l[k].pa.length c2, .bool l[k].de, .bool l[k].sh, .int .i64 l[k].un] 48)).heap[x]? := fun x hx hne => hg9.block x (by rw [hz5]; omega) (fun e => hne (Option.some.inj e))
      have hz9 : w3.heap.size + 1 ≤ w9.heap.size := by have := hg9.size; rw [hz5] at this; exact this
      have HP9 := hide (show PathsV w9 w.heap.size g9 (ts ++ [⟨l[k], some ⟨g2, 0, none⟩, c2⟩]) from fun t ht => by
        rcases List.mem_append.1 ht with h | h
        · exact HP4.out.keepB (by rw [hz5]; exact hz9) (fun x hx hne => hkeep x (by rw [hz5] at hx; exact hx) hne) (by rw [hz5]; exact hgn) t h
        · obtain rfl := List.mem_singleton.1 h
          have h4 := HR4.out.1
          rw [hz5] at h4
          refine ⟨g2, rfl, HR4.out.hp (by rw [hz5]; exact hz9) (hkeep g2 h4 (by omega)), by omega, by omega, HCC.out.1, HCC.out.2⟩)
      have HO9 := hide hO9
      have HB9 := hide (HC4.out.trans hb9)
      have HN9 := hide (show (n9 : Nat) = k + 1 by rw [hn9]; have := HN.out; simp; omega)
      have HT9 := hide (show (ts ++ [(⟨l[k], some ⟨g2, 0, none⟩, c2⟩ : LkT)]).map (·.r) = l.take (k + 1) by rw [HF.out, List.map_append, HTS.out]; rfl)
      clear hO9 hb9 hg9 hn9 hat e1 e2 e3 e4 e5 hgn hkeep HO4 HP4 HR4 HC4 hw3
      rw [HN9.out] at HO9 ⊢
      go_wp2
      go_roundw
      case rel => exact ⟨k + 1, g9, c9, _, by omega, by go_num, rfl, HO9, HT9, HP9, HB9.out⟩
      case measure => simp [intOf]; omega
    · have hkl : k = l.length := by omega
      subst hkl
      obtain ⟨e1, e2, e3, e4, e5⟩ := HOW.out.row
      have HEE := hide (And.intro e2 (And.intro e3 (And.intro e4 e5)))
      have HF := hide (show ts.map (·.r) = l by rw [HTS.out, List.take_length])
      clear e1 e2 e3 e4 e5
      go_wp2
      go_ret
      exact ⟨⟨g, c, ts, rfl, HF.out, HEE.out.1, HPV.out, HEE.out.2.2.2, HEE.out.2.1, HEE.out.2.2.1, HOW.out⟩, hbe⟩
theorem l13Copy_any (a : Option Addr) (l : List Lk) (cap B : Nat) (w : World) (h : Lks w B a l) (hB : B ≤ w.heap.size) (hl : l.length ≤ 1048577) (hs : ∀ r ∈ l, r.pa.length ≤ 1048576) :
    Calls Tryz.prog 81 #[.slice a l.length cap] w fun e w' => (∃ (g c : Nat) (ts : List LkT), e = .returned (.slice (some ⟨g, 0, none⟩) l.length c) ∧ ts.map (·.r) = l ∧ RowV w' g ts ∧ PathsV w' w.heap.size g ts ∧ w.heap.size ≤ g ∧ l.length ≤ c ∧ c ≤ maxLen) ∧ Below w.heap.size w w' := by
  refine (l13Copy_own a l cap B w h hB hl hs).mono ?_
  rintro e w' ⟨⟨g, c, ts, rfl, h1, h2, h3, h4, h5, h6, _⟩, hb⟩
  exact ⟨⟨g, c, ts, rfl, h1, h2, h3, h4, h5, h6⟩, hb⟩
end Go.Proofs.YtcgljeagjchobaaGreat
namespace Go.Proofs.YtcgljeagjchobaaGreat
open Go.RowKit M
set_option linter.unusedVariables false

def Vw (w : World) (lo hi : Nat) (v : Value) (x : Lf) : Prop := hi ≤ w.heap.size ∧ ∀ w' : World, w.heap.size ≤ w'.heap.size → (∀ b, lo ≤ b → b < hi → w'.heap[b]? = w.heap[b]?) → View w' w'.heap.size v x
theorem Vw.view {w : World} {lo hi : Nat} {v : Value} {x : Lf} (h : Vw w lo hi v x) : View w w.heap.size v x := h.2 w (Nat.le_refl _) (fun _ _ _ => rfl)
theorem Vw.to {w w' : World} {lo hi : Nat} {v : Value} {x : Lf} (h : Vw w lo hi v x) (hz : w.heap.size ≤ w'.heap.size) (e : ∀ b, lo ≤ b → b < hi → w'.heap[b]? = w.heap[b]?) : Vw w' lo hi v x :=
  ⟨Nat.le_trans h.1 hz, fun W hW eW => h.2 W (Nat.le_trans hz hW) (fun b h1 h2 => (eW b h1 h2).trans (e b h1 h2))⟩
theorem Vw.next {w w' : World} {lo hi : Nat} {v : Value} {x : Lf} (h : Vw w lo hi v x) (hb : Below w.heap.size w w') : Vw w' lo hi v x :=
  h.to hb.size (fun b _ h2 => hb.block b (Nat.lt_of_lt_of_le h2 h.1))
theorem Vw.grown {w w' : World} {lo hi g : Nat} {v : Value} {x : Lf} (h : Vw w lo hi v x) (hg : w.grownBy w' (some g)) (ho : g < lo ∨ hi ≤ g) : Vw w' lo hi v x :=
  h.to hg.size (fun b h1 h2 => hg.block b (Nat.lt_of_lt_of_le h2 h.1) (fun e => by have := Option.some.inj e; omega))
theorem Vw.setCell {w : World} {lo hi : Nat} {v : Value} {x : Lf} (h : Vw w lo hi v x) (p : Addr) (u : Value) (ho : p.block < lo ∨ hi ≤ p.block) : Vw (w.setCell p u) lo hi v x :=
  h.to (by simp) (fun b h1 h2 => Below.heap_setCell w p u b (by omega))
theorem vw_of_grow {w : World} {B : Nat} {v : Value} {ts : List RsT} {l : List Rs} (g : GrowR w B v ts w.heap.size) (e : ts.map (·.r) = l) : (∃ b cap, v = .slice (some ⟨b, 0, none⟩) l.length cap) ∧ Vw w B w.heap.size v (.l (l.map dRs)) := by
  subst e
  have hl : (ts.map (·.r)).length = ts.length := List.length_map ..
  obtain ⟨b, cap, hv, _⟩ := g.rss (Nat.le_refl _)
  refine ⟨⟨b, cap, by rw [hl]; exact hv⟩, Nat.le_refl _, fun w' hz eq => ?_⟩
  have g' := GrowR.heap g hz eq
  obtain ⟨b', cap', hv', hr⟩ := g'.rss (Nat.le_refl _)
  rw [hv'] at hv
  cases hv
  rw [hv', ← hl]
  have hc : ts.length ≤ cap ∧ cap ≤ maxLen := by
    rcases g'.own.2 with ⟨e, _⟩ | ⟨_, _, _, e, _, _, h1, h2, _⟩
    · rw [hv'] at e; cases e
    · rw [hv'] at e; cases e; exact ⟨h1, h2⟩
  exact view_of_rss hr (by omega) hc.2 (fun e => by cases e)
theorem vw_of_rowV {w : World} {lo g c : Nat} {ts : List LkT} {l : List Lk} (e : ts.map (·.r) = l) (h : RowV w g ts) (hp : PathsV w lo g ts) (hg : lo ≤ g) (h1 : l.length ≤ c) (h2 : c ≤ maxLen) : Vw w lo w.heap.size (.slice (some ⟨g, 0, none⟩) l.length c) (.l (l.map dLk)) := by
  refine ⟨Nat.le_refl _, fun w' hz eq => ?_⟩
  have hr : RowV w' g ts := h.hp hz (eq g hg h.1)
  refine view_of_lks (lks_of_rowV e hr (B := w'.heap.size) (fun t ht => ?_) (Nat.le_refl _)) h1 h2 (fun e => by cases e)
  have hp' : PathsV w' lo g ts := fun t ht => by
    obtain ⟨p, e1, e2, e3, e4, e5⟩ := hp t ht
    refine ⟨p, e1, ⟨Nat.lt_of_lt_of_le e2.1 hz, fun i hi => ?_⟩, e3, e4, e5⟩
    have := e2.2 i hi
    simp only [World.cell?, World.frozen?] at this ⊢
    rw [eq p e4 e2.1]
    exact this
  exact hp'.inV t ht
end Go.Proofs.YtcgljeagjchobaaGreat
namespace Go.Proofs.YtcgljeagjchobaaGreat
open Go.RowKit M
set_option linter.unusedVariables false

theorem run_append_ints0 (ty : TypeId) (w : World) (B g0 : Nat) (hown : OwnG 3 1 ci w B (.slice (some ⟨g0, 0, none⟩) 0 0) []) (C : Nat) (ad : Option Addr) (l : List Int) (c : Nat) (hI : Ints w C ad l) (hnn : ad = none → c = 0) (hl : l.length ≤ 1048577) (hB : B ≤ w.heap.size) :
    ∃ g cap w', (Builtin.append_ #[24, 24] ty #[.slice (some ⟨g0, 0, none⟩) 0 0, .slice ad l.length c]).run Tryz.prog w = .ok (.slice (some ⟨g, 0, none⟩) l.length cap) w' ∧ OwnG 3 1 ci w' B (.slice (some ⟨g, 0, none⟩) l.length cap) l ∧ Below w.heap.size w w' ∧ (g = g0 ∨ w.heap.size ≤ g) := by
  obtain ⟨i0, hi, hz0, hz1, hz2⟩ := info_parts infoI
  by_cases h0 : 0 < l.length
  · obtain ⟨b, o, rfl, hbB, hc⟩ := hI h0
    have hf : (l.flatMap ci).length = l.length * 1 := flat_length ci_len l
    obtain ⟨v', w', hr, ho, hg⟩ := run_append_arg_grows (P := Tryz.prog) (w := w) 24 ty 3 i0 (.int .i64 0) 1 8 Tryz.underlying24 hi hz0 hz1 hz2 rfl (by decide) ⟨g0, 0, none⟩ 0 0 [] rfl (fun j u hj => by cases hj) ⟨b, o, none⟩ l.length c (l.flatMap ci) hf (fun j u hj => by
      have hjl : j < l.length := by have := (List.getElem?_eq_some_iff.1 hj).1; omega
      have h1 := flat_at ci_len l j hjl 0 (by decide)
      rw [Nat.mul_one, Nat.add_zero] at h1
      rw [h1] at hj
      cases hj
      rw [add_pick]
      exact hc j hjl) (by omega) (by unfold maxLen; omega) (by omega)
    rw [Nat.zero_add, List.nil_append] at ho
    obtain ⟨g, cap, cur, rfl, hbg, e1, e2, e3, e4, e5⟩ : ∃ g cap cur, v' = .slice (some ⟨g, 0, none⟩) l.length cap ∧ w.heap.size ≤ g ∧ w'.heap[g]? = some (.cells cur 3 (0, 0)) ∧ l.length ≤ cap ∧ cap ≤ maxLen ∧ cur.size = cap * 1 ∧ cur.toList.take (l.flatMap ci).length = l.flatMap ci := by
      rcases ho.2 with ⟨_, h1⟩ | ⟨g, cap, cur, hv, h1, h2, h3, h4, h5, h6⟩
      · omega
      · exact ⟨g, cap, cur, hv, h1, h2, h3, h4, h5, by rw [hf]; exact h6⟩
    have hlt : g < w'.heap.size := by
      rcases Nat.lt_or_ge g w'.heap.size with h | h
      · exact h
      · rw [Array.getElem?_eq_none h] at e1; cases e1
    exact ⟨g, cap, w', hr, ⟨hf, .inr ⟨g, cap, cur, rfl, Nat.le_trans hB hbg, e1, e2, e3, e4, by rw [hf] at e5; exact e5⟩⟩, ⟨hg.os, hg.tape, hg.output, hg.size, fun k hk => hg.block k hk (fun e => by cases e)⟩, .inr hbg⟩
  · have : l = [] := List.eq_nil_of_length_eq_zero (by omega)
    subst this
    have hs : Src Tryz.prog i0.size 24 (.slice ad 0 c) 0 [] w := by
      cases ad with
      | none => exact Src.ofNil w Tryz.underlying24 c
      | some b => exact Src.ofSlice w Tryz.underlying24 b 0 c [] (by simp) (fun j u hj => by cases hj) (fun u hu => by cases hu)
    have hr := run_append_nothing (P := Tryz.prog) w 24 24 ty 3 i0 Tryz.underlying24 hi (some ⟨g0, 0, none⟩) 0 0 (Nat.le_refl _) (.slice ad 0 c) hs
    exact ⟨g0, 0, w, hr, hown, Below.refl _ _, .inl rfl⟩

theorem step_append_ints0 {ops : Array Oper} {o : Oper} {a : Act} {w : World} {K : Act → World → Prop} {Q : Exit → Act → World → Prop} {E : Prop} (hgd : o.guard = none) (s x : Operand)
    (ho : o.op = .call { callee := .builtin .append, args := #[s, x], argTypes := #[24, 24] })
    (B g0 : Nat) (hs : a.eval s = .slice (some ⟨g0, 0, none⟩) 0 0) (hown : OwnG 3 1 ci w B (.slice (some ⟨g0, 0, none⟩) 0 0) []) (C : Nat) (ad : Option Addr) (l : List Int) (c : Nat) (hx : a.eval x = .slice ad l.length c) (hI : Ints w C ad l) (hnn : ad = none → c = 0) (hl : l.length ≤ 1048577) (hB : B ≤ w.heap.size)
    (h : ∀ g cap w', OwnG 3 1 ci w' B (.slice (some ⟨g, 0, none⟩) l.length cap) l → Below w.heap.size w w' → (g = g0 ∨ w.heap.size ≤ g) → K (a.put o.dst (.slice (some ⟨g, 0, none⟩) l.length cap)) w') :
    if Region.wanted o (yielded ops a.tmps) = true then Oper.wp Tryz.prog o a w K Q else E := by
  have hw : Region.wanted o (yielded ops a.tmps) = true := by simp [Region.wanted, hgd]
  rw [if_pos hw]
  obtain ⟨g, cap, w', hr, r1, r2, r3⟩ := run_append_ints0 o.type w B g0 hown C ad l c hI hnn hl hB
  unfold Oper.wp execOp
  simp only [ho, resolve, invoke, builtin, Sem.run_bind, Sem.run_pure, Result.andThen_ok, List.map_toArray, List.map_cons, List.map_nil, hs, hx, hr]
  exact h g cap w' r1 r2 r3
end Go.Proofs.YtcgljeagjchobaaGreat
namespace Go.Proofs.YtcgljeagjchobaaGreat
open Go.RowKit M
set_option linter.unusedVariables false

def ppCells (ps : List Pp) : List Value := ps.flatMap fun p => [.string p.1, .string p.2.1, .string p.2.2]
theorem ppCells_length (ps : List Pp) : (ppCells ps).length = ps.length * 3 := by
  induction ps with
  | nil => rfl
  | cons t l ih => simp only [ppCells, List.flatMap_cons, List.length_append, List.length_cons] at *; rw [ih]; simp only [List.length_nil]; omega
theorem ppCells_at (ps : List Pp) : ∀ j (hj : j < ps.length), (ppCells ps)[j * 3]? = some (.string ps[j].1) ∧ (ppCells ps)[j * 3 + 1]? = some (.string ps[j].2.1) ∧ (ppCells ps)[j * 3 + 2]? = some (.string ps[j].2.2) := by
  induction ps with
  | nil => intro j hj; exact absurd hj (Nat.not_lt_zero _)
  | cons t l ih =>
    intro j hj
    have e : ppCells (t :: l) = [.string t.1, .string t.2.1, .string t.2.2] ++ ppCells l := by simp [ppCells]
    rw [e]
    match j, hj with
    | 0, _ => simp
    | j + 1, hj =>
      have h1 := ih j (by simpa using hj)
      have hl : ([.string t.1, .string t.2.1, .string t.2.2] : List Value).length = 3 := rfl
      rw [List.getElem?_append_right (by rw [hl]; omega), List.getElem?_append_right (by rw [hl]; omega), List.getElem?_append_right (by rw [hl]; omega), hl]
      rw [show (j + 1) * 3 - 3 = j * 3 by omega, show (j + 1) * 3 + 1 - 3 = j * 3 + 1 by omega, show (j + 1) * 3 + 2 - 3 = j * 3 + 2 by omega]
      simpa using h1
theorem frozenP {w : World} {g : Nat} {cur : Array Value} {e : TypeId} (hh : w.heap[g]? = some (.cells cur e (0, 0))) (i : Nat) : w.frozen? ⟨g, i, none⟩ = false := by
  simp only [World.frozen?, hh, Bool.and_eq_false_iff, decide_eq_false_iff_not]
  right
  omega
theorem below_grownP {w w' : World} {B n : Nat} {v : Value} {xs : List Value} (hown : w.ownsRow B 108 3 v n xs) (hB : B ≤ w.heap.size) (hg : w.grownBy w' v.ownBlock) : Below B w w' :=
  ⟨hg.os, hg.tape, hg.output, hg.size, fun k hk => hg.block k (by omega) (fun e => by have := (World.ownsRow.lt hown k e.symm).1; omega)⟩
theorem owns_rowP {w : World} {B g n cap : Nat} {ps : List Pp} (h : w.ownsRow B 108 3 (.slice (some ⟨g, 0, none⟩) n cap) n (ppCells ps)) (hn : ps.length = n) : RowP w g ps ∧ B ≤ g ∧ n ≤ cap ∧ cap ≤ maxLen := by
  subst hn
  have hlt := h.lt g rfl
  rcases h.2 with ⟨e, _⟩ | ⟨g', cap', cur, hv, hB, hh, h1, h2, _⟩
  · cases e
  · cases hv
    refine ⟨⟨hlt.2, fun j hj => ?_, fun i => frozenP hh i⟩, hlt.1, h1, h2⟩
    obtain ⟨c0, c1, c2⟩ := ppCells_at ps j hj
    have hl := ppCells_length ps
    refine ⟨?_, ?_, ?_⟩
    · rw [h.cellAt (j * 3) (by omega)]; exact c0
    · rw [h.cellAt (j * 3 + 1) (by omega)]; exact c1
    · rw [h.cellAt (j * 3 + 2) (by omega)]; exact c2

/-- The same, in a new row. -/
theorem wp_append_props {w : World} {ops : Array Oper} {rest : List Oper} {o : Oper} {a : Act} {Q : Exit → Act → World → Prop} (hgd : o.guard = none) (s x : Operand)
    (ho : o.op = .call { callee := .builtin .append, args := #[s, x], argTypes := #[43, 43] })
    (B g0 : Nat) (l : List Pp) (n : Nat) (hn : n = l.length) (hs : a.eval s = .slice (some ⟨g0, 0, none⟩) 0 0) (hown : w.ownsRow B 108 3 (.slice (some ⟨g0, 0, none⟩) 0 0) 0 [])
    (C : Nat) (pa : Option Addr) (pc : Nat) (hx : a.eval x = .slice pa n pc) (hst : Pps w C pa l) (hpn : pa = none → pc = 0) (hlen : n ≤ 1048576) (hB : B ≤ w.heap.size)
    (h : ∀ g cap w', RowP w' g l → B ≤ g → n ≤ cap → cap ≤ maxLen → Below B w w' → wpList Tryz.prog ops Q rest (a.put o.dst (.slice (some ⟨g, 0, none⟩) n cap)) w') : wpList Tryz.prog ops Q (o :: rest) a w := by
  obtain ⟨i0, hi, hz0, hz1, hz2⟩ := info_parts info_prop
  cases pa with
  | none =>
    have h0 : n = 0 := by
      rw [hn]
      by_cases e : 0 < l.length
      · obtain ⟨_, _, e', _⟩ := hst e; cases e'
      · omega
    have hl : l = [] := List.length_eq_zero_iff.1 (by omega)
    subst hl h0
    rw [hpn rfl] at hx
    have hr := run_append_owned_none (P := Tryz.prog) (w := w) B 43 o.type 108 i0 3 Tryz.underlying43 hi _ _ _ hown
    refine wpList_plain hgd fun K hK => ?_
    unfold Oper.wp execOp
    simp only [ho, resolve, invoke, builtin, Sem.run_bind, Sem.run_pure, Result.andThen_ok, List.map_toArray, List.map_cons, List.map_nil, hs, hx, hr]
    obtain ⟨r1, r2, r3, r4⟩ := owns_rowP (ps := []) (n := 0) hown rfl
    exact hK _ _ (h g0 0 w r1 r2 r3 r4 (Below.refl _ _))
  | some ad =>
    refine wpList_append_own w hgd s x 43 ho B 108 i0 _ 3 48 Tryz.underlying43 hi hz0 hz1 hz2 rfl (by decide) _ 0 _ hs hown ad n pc (ppCells l) hx (by rw [ppCells_length, hn]) ?_ ?_ ?_ ?_ hB ?_
    · intro j u hj
      have hjl : j < l.length * 3 := by have := (List.getElem?_eq_some_iff.1 hj).1; rwa [ppCells_length] at this
      obtain ⟨b, o', e, _, hc⟩ := hst (by omega)
      have e' : ad = ⟨b, o', none⟩ := by cases e; rfl
      subst e'
      have e2 : (⟨b, o', none⟩ : Addr).add j = ⟨b, o' + j, none⟩ := by unfold Addr.add; split <;> simp_all
      rw [e2]
      obtain ⟨d0, d1, d2⟩ := hc (j / 3) (by omega)
      obtain ⟨c0, c1, c2⟩ := ppCells_at l (j / 3) (by omega)
      have e3 : j = j / 3 * 3 ∨ j = j / 3 * 3 + 1 ∨ j = j / 3 * 3 + 2 := by omega
      rcases e3 with e3 | e3 | e3
      · rw [← e3] at c0 d0; rw [d0, ← c0]; exact hj
      · rw [← e3] at c1; rw [show o' + j = o' + j / 3 * 3 + 1 by omega, d1, ← c1]; exact hj
      · rw [← e3] at c2; rw [show o' + j = o' + j / 3 * 3 + 2 by omega, d2, ← c2]; exact hj
    · intro u hu
      unfold ppCells at hu
      obtain ⟨y, _, hy⟩ := List.mem_flatMap.1 hu
      simp only [List.mem_cons, List.not_mem_nil, or_false] at hy
      rcases hy with rfl | rfl | rfl <;> rfl
    · unfold maxLen; omega
    · omega
    · intro v' w' ho' hg hnn
      rw [Nat.zero_add] at ho'
      obtain ⟨g, cap, rfl⟩ : ∃ g cap, v' = .slice (some ⟨g, 0, none⟩) n cap := by
        rcases ho'.2 with ⟨e, h0⟩ | ⟨g, cap, cur, hv, _⟩
        · have := (hnn.1 e).1; cases this
        · exact ⟨g, cap, hv⟩
      have ho2 : w'.ownsRow B 108 3 (.slice (some ⟨g, 0, none⟩) n cap) n (ppCells l) := ho'
      obtain ⟨r1, r2, r3, r4⟩ := owns_rowP ho2 hn.symm
      exact h g cap w' r1 r2 r3 r4 (below_grownP hown hB hg)
end Go.Proofs.YtcgljeagjchobaaGreat
namespace Go.Proofs.YtcgljeagjchobaaGreat
open Go.RowKit M
set_option linter.unusedVariables false

theorem cellSA {w1 : World} {p : Addr} {n i : Nat} {u : Value} (h : w1.cell? ⟨n, i, none⟩ = some u) (hne : p ≠ ⟨n, i, none⟩) (v : Value) (o : Obj) : ((w1.setCell p v).alloc o).cell? ⟨n, i, none⟩ = some u := by
  have e : (w1.setCell p v).cell? ⟨n, i, none⟩ = some u := by rw [World.cell?_setCell_other _ _ _ _ hne]; exact h
  rw [World.cell?_alloc_lt _ _ _ (World.block_lt_of_cell? _ _ e)]
  exact e
theorem cellSA0 {w1 : World} {p : Addr} {u : Value} (h : w1.cell? p = some u) (v : Value) (o : Obj) : ((w1.setCell p v).alloc o).cell? p = some v := by
  have e : (w1.setCell p v).cell? p = some v := World.cell?_setCell_same _ _ _ h
  rw [World.cell?_alloc_lt _ _ _ (World.block_lt_of_cell? _ _ e)]
  exact e
theorem frozSA {w1 : World} {n i : Nat} (h : w1.frozen? ⟨n, i, none⟩ = false) (hn : n < w1.heap.size) (p : Addr) (v : Value) (o : Obj) : ((w1.setCell p v).alloc o).frozen? ⟨n, i, none⟩ = false := by
  have b := (Below.refl (w1.setCell p v).heap.size (w1.setCell p v)).alloc (Nat.le_refl _) o
  rw [b.frozen (p := ⟨n, i, none⟩) (by simpa using hn), World.frozen?_setCell]
  exact h
theorem bcellQ {B : Nat} {W w1 : World} (hb : Below B W w1) : (∀ b o, b < B → w1.cell? ⟨b, o, none⟩ = W.cell? ⟨b, o, none⟩) ∧ (∀ b o, b < B → w1.frozen? ⟨b, o, none⟩ = W.frozen? ⟨b, o, none⟩) :=
  ⟨fun b o h => hb.cell (p := ⟨b, o, none⟩) h, fun b o h => hb.frozen (p := ⟨b, o, none⟩) h⟩

set_option maxRecDepth 100000 in
set_option maxHeartbeats 4000000 in
theorem specCopy_any (r : Rs) (pa : Option Addr) (pc : Nat) (qa : Option Addr) (qc B : Nat) (w : World) (h : RsIn w B r pa pc qa qc) (hB : B ≤ w.heap.size) (hp : r.pa.length ≤ 1048576) (hq : r.ps.length ≤ 1048576) :
    Calls Tryz.prog 113 #[.agg #[.slice pa r.pa.length pc, .bool r.co, .string r.bo, .int .i64 r.ve, .slice qa r.ps.length qc]] w fun e w' => (∃ p c q d : Nat, e = .returned (.agg #[.slice (some ⟨p, 0, none⟩) r.pa.length c, .bool r.co, .string r.bo, .int .i64 r.ve, .slice (some ⟨q, 0, none⟩) r.ps.length d]) ∧ w.heap.size ≤ p ∧ p < q ∧ RowS w' p r.pa ∧ RowP w' q r.ps ∧ r.pa.length ≤ c ∧ c ≤ maxLen ∧ r.ps.length ≤ d ∧ d ≤ maxLen) ∧ Below w.heap.size w w' := by
  have h1 := h.ph
  have h2 := h.qh
  have n1 := h.pn
  have n2 := h.qn
  clear h
  obtain ⟨ss, co, bo, ve, ps⟩ := r
  simp only at *
  have H1 := hide h1
  have H2 := hide h2
  have N1 := hide n1
  have N2 := hide n2
  clear h1 h2 n1 n2
  go_enter Tryz.func113, Tryz.ntmps113
  have hb0 : Below w.heap.size w (((w.alloc (Obj.cells #[Value.slice pa ss.length pc, Value.bool co, Value.string bo, Value.int .i64 ve, Value.slice qa ps.length qc] 45)).alloc (Obj.cells #[Value.slice none 0 0, Value.bool false, Value.string { data := #[] }, Value.int .i64 0, Value.slice none 0 0] 45)).alloc (Obj.cells #[Value.slice pa ss.length pc, Value.bool co, Value.string bo, Value.int .i64 ve, Value.slice qa ps.length qc] 45)) := (((Below.refl _ _).alloc (Nat.le_refl _) _).alloc (by simp) _).alloc (by simp; omega) _
  have hb1 := hb0.alloc hb0.size (Obj.cells #[] 9)
  have hown := World.ownsRow_made (e := 9) (size := 1) (base := w.heap.size + 1 + 1 + 1) (((w.alloc (Obj.cells #[Value.slice pa ss.length pc, Value.bool co, Value.string bo, Value.int .i64 ve, Value.slice qa ps.length qc] 45)).alloc (Obj.cells #[Value.slice none 0 0, Value.bool false, Value.string { data := #[] }, Value.int .i64 0, Value.slice none 0 0] 45)).alloc (Obj.cells #[Value.slice pa ss.length pc, Value.bool co, Value.string bo, Value.int .i64 ve, Value.slice qa ps.length qc] 45)) #[] 0 (by simp) (by decide) rfl
  have hz : (((w.alloc (Obj.cells #[Value.slice pa ss.length pc, Value.bool co, Value.string bo, Value.int .i64 ve, Value.slice qa ps.length qc] 45)).alloc (Obj.cells #[Value.slice none 0 0, Value.bool false, Value.string { data := #[] }, Value.int .i64 0, Value.slice none 0 0] 45)).alloc (Obj.cells #[Value.slice pa ss.length pc, Value.bool co, Value.string bo, Value.int .i64 ve, Value.slice qa ps.length qc] 45)).heap.size = w.heap.size + 1 + 1 + 1 := by simp
  rw [hz] at hown
  have HST := hide (H1.out.below hb1 hB)
  have HB1 := hide hb1
  have HOWN := hide hown
  clear hb0 hb1 hown hz
  go_wp2_with (at_builtin; refine wp_append_strs rfl _ _ rfl (w.heap.size + 1 + 1 + 1) _ ss ss.length rfl rfl HOWN.out B pa pc rfl HST.out N1.out (by omega) (by simp) ?_)
  intro g c w1 r1 hg hc1 hc2 b1
  have fr := bcellQ b1
  have d4 : w1.cell? ⟨w.heap.size, 4, none⟩ = some (.slice qa ps.length qc) := by rw [fr.1 _ _ (by omega)]; simp [go_sem, go_sem]
  have e0 : w1.cell? ⟨w.heap.size + 1 + 1, 0, none⟩ = some (.slice pa ss.length pc) := by rw [fr.1 _ _ (by omega)]; simp [go_sem, go_sem]
  have f0 : w1.frozen? ⟨w.heap.size + 1 + 1, 0, none⟩ = false := by rw [fr.2 _ _ (by omega)]; simp [go_sem, go_sem]
  have z0 : w1.cell? ⟨w.heap.size + 1, 0, none⟩ = some (.slice none 0 0) := by rw [fr.1 _ _ (by omega)]; simp [go_sem, go_sem]
  have y0 : w1.frozen? ⟨w.heap.size + 1, 0, none⟩ = false := by rw [fr.2 _ _ (by omega)]; simp [go_sem, go_sem]
  have e1 : w1.cell? ⟨w.heap.size + 1 + 1, 1, none⟩ = some (.bool co) := by rw [fr.1 _ _ (by omega)]; simp [go_sem, go_sem]
  have f1 : w1.frozen? ⟨w.heap.size + 1 + 1, 1, none⟩ = false := by rw [fr.2 _ _ (by omega)]; simp [go_sem, go_sem]
  have z1 : w1.cell? ⟨w.heap.size + 1, 1, none⟩ = some (.bool false) := by rw [fr.1 _ _ (by omega)]; simp [go_sem, go_sem]
  have y1 : w1.frozen? ⟨w.heap.size + 1, 1, none⟩ = false := by rw [fr.2 _ _ (by omega)]; simp [go_sem, go_sem]
  have e2 : w1.cell? ⟨w.heap.size + 1 + 1, 2, none⟩ = some (.string bo) := by rw [fr.1 _ _ (by omega)]; simp [go_sem, go_sem]
  have f2 : w1.frozen? ⟨w.heap.size + 1 + 1, 2, none⟩ = false := by rw [fr.2 _ _ (by omega)]; simp [go_sem, go_sem]
  have z2 : w1.cell? ⟨w.heap.size + 1, 2, none⟩ = some (.string { data := #[] }) := by rw [fr.1 _ _ (by omega)]; simp [go_sem, go_sem]
  have y2 : w1.frozen? ⟨w.heap.size + 1, 2, none⟩ = false := by rw [fr.2 _ _ (by omega)]; simp [go_sem, go_sem]
  have e3 : w1.cell? ⟨w.heap.size + 1 + 1, 3, none⟩ = some (.int .i64 ve) := by rw [fr.1 _ _ (by omega)]; simp [go_sem, go_sem]
  have f3 : w1.frozen? ⟨w.heap.size + 1 + 1, 3, none⟩ = false := by rw [fr.2 _ _ (by omega)]; simp [go_sem, go_sem]
  have z3 : w1.cell? ⟨w.heap.size + 1, 3, none⟩ = some (.int .i64 0) := by rw [fr.1 _ _ (by omega)]; simp [go_sem, go_sem]
  have y3 : w1.frozen? ⟨w.heap.size + 1, 3, none⟩ = false := by rw [fr.2 _ _ (by omega)]; simp [go_sem, go_sem]
  have e4 : w1.cell? ⟨w.heap.size + 1 + 1, 4, none⟩ = some (.slice qa ps.length qc) := by rw [fr.1 _ _ (by omega)]; simp [go_sem, go_sem]
  have f4 : w1.frozen? ⟨w.heap.size + 1 + 1, 4, none⟩ = false := by rw [fr.2 _ _ (by omega)]; simp [go_sem, go_sem]
  have z4 : w1.cell? ⟨w.heap.size + 1, 4, none⟩ = some (.slice none 0 0) := by rw [fr.1 _ _ (by omega)]; simp [go_sem, go_sem]
  have y4 : w1.frozen? ⟨w.heap.size + 1, 4, none⟩ = false := by rw [fr.2 _ _ (by omega)]; simp [go_sem, go_sem]
  have hgz := r1.1
  have hNz : w.heap.size < w1.heap.size := by omega
  have hNy : w.heap.size + 1 < w1.heap.size := by omega
  have hNx : w.heap.size + 1 + 1 < w1.heap.size := by omega
  have c1 := HB1.out.trans (b1.mono (by omega))
  have c2 := c1.setCell (p := ⟨w.heap.size + 1 + 1, 0, none⟩) (by simp; omega) (.slice (some ⟨g, 0, none⟩) ss.length c)
  have c3 := c2.alloc c2.size (Obj.cells #[] 108)
  have hown2 := World.ownsRow_made (e := 108) (size := 3) (base := w1.heap.size) (w1.setCell ⟨w.heap.size + 1 + 1, 0, none⟩ (.slice (some ⟨g, 0, none⟩) ss.length c)) #[] 0 (by simp) (by decide) rfl
  have hz2 : (w1.setCell ⟨w.heap.size + 1 + 1, 0, none⟩ (.slice (some ⟨g, 0, none⟩) ss.length c)).heap.size = w1.heap.size := by simp
  rw [hz2] at hown2
  have HST2 := hide (H2.out.below c3 hB)
  have HOWN2 := hide hown2
  have HC3 := hide c3
  have hc1z : w.heap.size ≤ w1.heap.size := c1.size
  have r2 := (r1.setCell ⟨w.heap.size + 1 + 1, 0, none⟩ (.slice (some ⟨g, 0, none⟩) ss.length c) (by simp; omega)).below ((Below.refl _ _).alloc (Nat.le_refl _) (Obj.cells #[] 108))
  have R2 := hide r2
  clear fr c1 c2 c3 hown2 hz2 r1 r2 b1 HOWN HST HB1
  go_wp2_with (at_builtin; refine wp_append_props rfl _ _ rfl w1.heap.size _ ps ps.length rfl rfl HOWN2.out B qa qc rfl HST2.out N2.out (by omega) (by simp) ?_)
  intro q d w2 r3 hq3 hd1 hd2 b3
  have fr := bcellQ b3
  have hgw : w.heap.size + 1 + 1 < w1.heap.size := by omega
  have e0' : w2.cell? ⟨w.heap.size + 1 + 1, 0, none⟩ = some (.slice (some ⟨g, 0, none⟩) ss.length c) := by rw [fr.1 _ _ hgw]; exact cellSA0 e0 _ _
  have f0' : w2.frozen? ⟨w.heap.size + 1 + 1, 0, none⟩ = false := by rw [fr.2 _ _ hgw]; exact frozSA f0 (by omega) _ _ _
  have z0' : w2.cell? ⟨w.heap.size + 1, 0, none⟩ = some (.slice none 0 0) := by rw [fr.1 _ _ (by omega)]; exact cellSA z0 (by simp) _ _
  have y0' : w2.frozen? ⟨w.heap.size + 1, 0, none⟩ = false := by rw [fr.2 _ _ (by omega)]; exact frozSA y0 (by omega) _ _ _
  have e1' : w2.cell? ⟨w.heap.size + 1 + 1, 1, none⟩ = some (.bool co) := by rw [fr.1 _ _ hgw]; exact cellSA e1 (by simp) _ _
  have f1' : w2.frozen? ⟨w.heap.size + 1 + 1, 1, none⟩ = false := by rw [fr.2 _ _ hgw]; exact frozSA f1 (by omega) _ _ _
  have z1' : w2.cell? ⟨w.heap.size + 1, 1, none⟩ = some (.bool false) := by rw [fr.1 _ _ (by omega)]; exact cellSA z1 (by simp) _ _
  have y1' : w2.frozen? ⟨w.heap.size + 1, 1, none⟩ = false := by rw [fr.2 _ _ (by omega)]; exact frozSA y1 (by omega) _ _ _
  have e2' : w2.cell? ⟨w.heap.size + 1 + 1, 2, none⟩ = some (.string bo) := by rw [fr.1 _ _ hgw]; exact cellSA e2 (by simp) _ _
  have f2' : w2.frozen? ⟨w.heap.size + 1 + 1, 2, none⟩ = false := by rw [fr.2 _ _ hgw]; exact frozSA f2 (by omega) _ _ _
  have z2' : w2.cell? ⟨w.heap.size + 1, 2, none⟩ = some (.string { data := #[] }) := by rw [fr.1 _ _ (by omega)]; exact cellSA z2 (by simp) _ _
  have y2' : w2.frozen? ⟨w.heap.size + 1, 2, none⟩ = false := by rw [fr.2 _ _ (by omega)]; exact frozSA y2 (by omega) _ _ _
  have e3' : w2.cell? ⟨w.heap.size + 1 + 1, 3, none⟩ = some (.int .i64 ve) := by rw [fr.1 _ _ hgw]; exact cellSA e3 (by simp) _ _
  have f3' : w2.frozen? ⟨w.heap.size + 1 + 1, 3, none⟩ = false := by rw [fr.2 _ _ hgw]; exact frozSA f3 (by omega) _ _ _
  have z3' : w2.cell? ⟨w.heap.size + 1, 3, none⟩ = some (.int .i64 0) := by rw [fr.1 _ _ (by omega)]; exact cellSA z3 (by simp) _ _
  have y3' : w2.frozen? ⟨w.heap.size + 1, 3, none⟩ = false := by rw [fr.2 _ _ (by omega)]; exact frozSA y3 (by omega) _ _ _
  have e4' : w2.cell? ⟨w.heap.size + 1 + 1, 4, none⟩ = some (.slice qa ps.length qc) := by rw [fr.1 _ _ hgw]; exact cellSA e4 (by simp) _ _
  have f4' : w2.frozen? ⟨w.heap.size + 1 + 1, 4, none⟩ = false := by rw [fr.2 _ _ hgw]; exact frozSA f4 (by omega) _ _ _
  have z4' : w2.cell? ⟨w.heap.size + 1, 4, none⟩ = some (.slice none 0 0) := by rw [fr.1 _ _ (by omega)]; exact cellSA z4 (by simp) _ _
  have y4' : w2.frozen? ⟨w.heap.size + 1, 4, none⟩ = false := by rw [fr.2 _ _ (by omega)]; exact frozSA y4 (by omega) _ _ _
  have R3 := hide (show RowS w2 g ss from by
    refine ⟨Nat.lt_of_lt_of_le hgz (by have := b3.size; simp at this; omega), fun j hj => ?_⟩
    rw [fr.1 _ _ hgz, fr.2 _ _ hgz]
    exact R2.out.2 j hj)
  have Q3 := hide r3
  have C4 := hide (HC3.out.trans (b3.mono hc1z))
  have hd1' := hd1
  have hqz : w.heap.size + 1 + 1 < q := by omega
  have hgq : g < q := by omega
  clear fr e0 e1 e2 e3 e4 f0 f1 f2 f3 f4 z0 z1 z2 z3 z4 y0 y1 y2 y3 y4 d4 b3 r3 HOWN2 HST2 HC3 R2 H1 H2 N1 N2
  go_wp2
  refine bodyPost_ret (v := .agg #[.slice (some ⟨g, 0, none⟩) ss.length c, .bool co, .string bo, .int .i64 ve, .slice (some ⟨q, 0, none⟩) ps.length d]) (by simp [results, Tryz.results113, go_sem, z0', z1', z2', z3', z4']) rfl ⟨⟨_, _, _, _, rfl, by omega, hgq, ?_, ?_, hc1, hc2, hd1, hd2⟩, ?_⟩
  · exact (((((R3.out.setCell _ _ (by first | (simp; done) | (simp; omega))).setCell _ _ (by first | (simp; done) | (simp; omega))).setCell _ _ (by first | (simp; done) | (simp; omega))).setCell _ _ (by first | (simp; done) | (simp; omega))).setCell _ _ (by first | (simp; done) | (simp; omega))).setCell _ _ (by first | (simp; done) | (simp; omega))
  · exact (((((Q3.out.setCell _ _ (by first | (simp; done) | (simp; omega))).setCell _ _ (by first | (simp; done) | (simp; omega))).setCell _ _ (by first | (simp; done) | (simp; omega))).setCell _ _ (by first | (simp; done) | (simp; omega))).setCell _ _ (by first | (simp; done) | (simp; omega))).setCell _ _ (by first | (simp; done) | (simp; omega))
  · exact (((((C4.out.setCell (by first | (simp; done) | (simp; omega)) _).setCell (by first | (simp; done) | (simp; omega)) _).setCell (by first | (simp; done) | (simp; omega)) _).setCell (by first | (simp; done) | (simp; omega)) _).setCell (by first | (simp; done) | (simp; omega)) _).setCell (by first | (simp; done) | (simp; omega)) _
end Go.Proofs.YtcgljeagjchobaaGreat
namespace Go.Proofs.YtcgljeagjchobaaGreat
open Go.RowKit M
set_option linter.unusedVariables false

theorem GrowR.up {w : World} {B lo lo' : Nat} {v : Value} {ts : List RsT} (g : GrowR w B v ts lo) (h1 : lo ≤ lo') (h2 : lo' ≤ w.heap.size) : GrowR w B v ts lo' := by
  obtain ⟨b, cap, hv, hb⟩ := g.blk
  exact ⟨g.own, ⟨b, cap, hv, Nat.lt_of_lt_of_le hb h1⟩, h2, fun j hj => by obtain ⟨k1, k2, k3, k4⟩ := g.el j hj; exact ⟨k1, k2, Nat.lt_of_lt_of_le k3 h1, k4⟩, g.ord, g.caps⟩
theorem caps_snoc {ts : List RsT} {r : Rs} {p q : Nat} (h : ∀ j (hj : j < ts.length), ts[j].pc = ts[j].r.pa.length ∧ ts[j].qc = ts[j].r.ps.length) : ∀ j (hj : j < (ts ++ [(⟨r, p, r.pa.length, q, r.ps.length⟩ : RsT)]).length), (ts ++ [(⟨r, p, r.pa.length, q, r.ps.length⟩ : RsT)])[j].pc = (ts ++ [(⟨r, p, r.pa.length, q, r.ps.length⟩ : RsT)])[j].r.pa.length ∧ (ts ++ [(⟨r, p, r.pa.length, q, r.ps.length⟩ : RsT)])[j].qc = (ts ++ [(⟨r, p, r.pa.length, q, r.ps.length⟩ : RsT)])[j].r.ps.length := by
  intro j hj
  by_cases e : j < ts.length
  · rw [List.getElem_append_left e]; exact h j e
  · have ej : j = ts.length := by simp at hj; omega
    subst ej
    simp
end Go.Proofs.YtcgljeagjchobaaGreat
namespace Go.Proofs.YtcgljeagjchobaaGreat
open Go.RowKit M
set_option linter.unusedVariables false

theorem take_snocR {rs : List Rs} {ts : List RsT} {k : Nat} (h : ts.map (·.r) = rs.take k) (hk : k < rs.length) (p c q d : Nat) : (ts ++ [(⟨rs[k], p, c, q, d⟩ : RsT)]).map (·.r) = rs.take (k + 1) := by
  rw [List.map_append, h, List.take_succ_eq_append_getElem hk]; rfl

set_option maxRecDepth 100000 in
set_option maxHeartbeats 4000000 in
theorem specCopyAll_any (a : Option Addr) (rs : List Rs) (cap B : Nat) (w : World) (h : Rss w B a rs) (hB : B ≤ w.heap.size) (hl : rs.length ≤ 1048576) (hs : ∀ r ∈ rs, r.pa.length ≤ 1048576 ∧ r.ps.length ≤ 1048576) :
    Calls Tryz.prog 80 #[.slice a rs.length cap] w fun e w' => (∃ v ts, e = .returned v ∧ GrowR w' w.heap.size v ts w'.heap.size ∧ ts.map (·.r) = rs) ∧ Below w.heap.size w w' := by
  have HS := hide hs
  clear hs
  go_enter Tryz.func80, Tryz.ntmps80
  go_wp2
  go_loopw [3, 4] (fun v i wr => ∃ (k lo : Nat) (ts : List RsT), k ≤ rs.length ∧ i = .int .i64 k ∧ GrowR wr w.heap.size v ts lo ∧ w.heap.size ≤ lo ∧ ts.map (·.r) = rs.take k ∧ Below w.heap.size w wr) (fun _ i _ => rs.length - (intOf i).toNat)
  case atStart => exact ⟨0, w.heap.size + 1, [], Nat.zero_le _, rfl, GrowR.made w w.heap.size (Nat.le_refl _), by omega, rfl, (Below.refl _ _).alloc (Nat.le_refl _) _⟩
  case round =>
    obtain ⟨k, lo, ts, hk, rfl, hG, hlo, hts, hbe⟩ := hrel
    have HG := hide hG
    have HTS := hide hts
    clear hG hts
    by_cases hlt : k < rs.length
    · obtain ⟨b1, o1, rfl, hb1, hcc⟩ := (h.below hbe hB) (by omega)
      obtain ⟨pa, pc, qa, qc, ⟨hc0, hc1, hc2, hc3, hc4⟩, hin⟩ := hcc k hlt
      clear hcc
      have hsk := HS.out _ (List.getElem_mem hlt)
      have hlo2 : lo ≤ wr.heap.size := HG.out.top
      have HCp := hide (specCopy_any rs[k] pa pc qa qc B wr hin (Nat.le_trans hB hbe.size) hsk.1 hsk.2)
      have hlen : ts.length ≤ 1048576 := by
        have := congrArg List.length HTS.out
        simp only [List.length_map, List.length_take] at this
        omega
      clear hin hsk
      go_wp2_with fail
      refine HCp.out.mono ?_
      rintro e w3 ⟨⟨pp, cc, qq, dd, rfl, hpp, hpq, r3, q3, k1, k2, k3, k4⟩, b5⟩
      have c3 := hbe.trans (b5.mono hbe.size)
      have bA := (Below.refl w3.heap.size w3).alloc (Nat.le_refl _) (Obj.cells #[.slice (some ⟨pp, 0, none⟩) (rs[k]).pa.length cc, .bool (rs[k]).co, .string (rs[k]).bo, .int .i64 (rs[k]).ve, .slice (some ⟨qq, 0, none⟩) (rs[k]).ps.length dd] 45)
      have HG4 := hide ((HG.out.next b5).next bA)
      have HR := hide (r3.below bA)
      have HQ := hide (q3.below bA)
      have HC4 := hide (c3.trans (bA.mono c3.size))
      have HKK := hide (And.intro k1 (And.intro k2 (And.intro k3 k4)))
      clear r3 q3 b5 bA c3 HCp k1 k2 k3 k4 hc0 hc1 hc2 hc3 hc4
      go_wp2_with (at_builtin; refine wp_append_res rfl _ _ rfl w.heap.size lo _ ts rfl HG4.out w3.heap.size ⟨rs[k], pp, cc, qq, dd⟩ rfl ?_ ?_ hlo (Nat.le_trans hlo2 hpp) hpq HR.out HQ.out HKK.out ?_)
      · exact ⟨by simp, by simp, by simp, by simp, by simp⟩
      · omega
      · intro v' w' hG' hB'
        have HG' := hide hG'
        have HC' := hide (HC4.out.trans hB')
        clear hG' hB'
        go_wp2
        go_roundw
        case rel => exact ⟨k + 1, _, _, by omega, by go_num, HG'.out, HC'.out.size, take_snocR HTS.out hlt _ _ _ _, HC'.out⟩
        case measure => simp [intOf]; omega
    · have hm : ts.map (·.r) = rs := by rw [HTS.out, List.take_of_length_le (by omega)]
      have HM := hide hm
      clear hm
      go_wp2
      go_ret
      exact ⟨⟨_, ts, rfl, HG.out.up HG.out.top (Nat.le_refl _), HM.out⟩, hbe⟩
end Go.Proofs.YtcgljeagjchobaaGreat
