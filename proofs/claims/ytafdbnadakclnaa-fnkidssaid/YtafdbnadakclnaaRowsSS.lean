/-
  Rows of lists of texts: what they hold; rows that grow.
-/
import Derived.Test.YtafdbnadakclnaaSpecLess
import Derived.Test.YtafdbnadakclnaaDrawC
import Derived.Maps.AppendAt
namespace Go.Proofs.Ytafdbnadakclnaa
open Go.RowKit
set_option linter.unusedVariables false

/-- What a slice of lists of texts holds, in blocks below B. -/
def Sss (w : World) (B : Nat) (a : Option Addr) (ls : List (List ByteArray)) : Prop :=
  0 < ls.length → ∃ b o, a = some ⟨b, o, none⟩ ∧ b < B ∧ ∀ j (hj : j < ls.length), ∃ pa pc, w.cell? ⟨b, o + j, none⟩ = some (.slice pa ls[j].length pc) ∧ Strs w B pa ls[j]
theorem Sss.of {w w' : World} {B : Nat} {a : Option Addr} {ls : List (List ByteArray)} (h : Sss w B a ls) (e : ∀ b o, b < B → w'.cell? ⟨b, o, none⟩ = w.cell? ⟨b, o, none⟩) : Sss w' B a ls := fun h0 => by
  obtain ⟨b, o, ea, hb, hc⟩ := h h0
  refine ⟨b, o, ea, hb, fun j hj => ?_⟩
  obtain ⟨pa, pc, h1, h2⟩ := hc j hj
  refine ⟨pa, pc, by rw [e _ _ hb]; exact h1, fun h0' => ?_⟩
  obtain ⟨b', o', ea', hb', hc'⟩ := h2 h0'
  exact ⟨b', o', ea', hb', fun i hi => (e _ _ hb').trans (hc' i hi)⟩
theorem Sss.below {w w' : World} {B C : Nat} {a : Option Addr} {ls : List (List ByteArray)} (h : Sss w B a ls) (hb : Below C w w') (hB : B ≤ C) : Sss w' B a ls :=
  h.of (fun b o hbB => hb.cell (p := ⟨b, o, none⟩) (Nat.lt_of_lt_of_le hbB hB))
theorem Sss.drew {w : World} {B : Nat} {a : Option Addr} {ls : List (List ByteArray)} (h : Sss w B a ls) : Sss w.drew B a ls := h.of (fun _ _ _ => rfl)

/-- A row of lists of texts that one call made: each list in a block of its own; all from lo on and below hi. -/
structure OwnSS (w : World) (lo hi g : Nat) (ls : List (List ByteArray)) (pb : Nat → Nat) : Prop where
  gl : lo ≤ g
  gh : g < hi
  gs : g < w.heap.size
  cl : ∀ j (hj : j < ls.length), ∃ pc, w.cell? ⟨g, j, none⟩ = some (.slice (some ⟨pb j, 0, none⟩) ls[j].length pc)
  rp : ∀ j (hj : j < ls.length), RowS w (pb j) ls[j]
  bnd : ∀ j, j < ls.length → lo ≤ pb j ∧ pb j < hi ∧ pb j ≠ g
  ord : ∀ i j, i < j → j < ls.length → pb i < pb j
theorem OwnSS.of {w w' : World} {lo hi g : Nat} {ls : List (List ByteArray)} {pb : Nat → Nat} (h : OwnSS w lo hi g ls pb) (hz : w.heap.size ≤ w'.heap.size) (e : ∀ b o, lo ≤ b → b < hi → b < w.heap.size → w'.cell? ⟨b, o, none⟩ = w.cell? ⟨b, o, none⟩) (f : ∀ b o, lo ≤ b → b < hi → b < w.heap.size → w'.frozen? ⟨b, o, none⟩ = w.frozen? ⟨b, o, none⟩) : OwnSS w' lo hi g ls pb := by
  refine ⟨h.gl, h.gh, Nat.lt_of_lt_of_le h.gs hz, fun j hj => ?_, fun j hj => ?_, h.bnd, h.ord⟩
  · obtain ⟨pc, hc⟩ := h.cl j hj
    exact ⟨pc, by rw [e g j h.gl h.gh h.gs]; exact hc⟩
  · obtain ⟨b1, b2, _⟩ := h.bnd j hj
    have hp := (h.rp j hj).1
    refine ⟨Nat.lt_of_lt_of_le hp hz, fun i hi => ?_⟩
    rw [e _ _ b1 b2 hp, f _ _ b1 b2 hp]
    exact (h.rp j hj).2 i hi
theorem OwnSS.below {w w' : World} {lo hi g : Nat} {ls : List (List ByteArray)} {pb : Nat → Nat} (h : OwnSS w lo hi g ls pb) (hb : Below w.heap.size w w') : OwnSS w' lo hi g ls pb :=
  h.of hb.size (fun b o _ _ hz => hb.cell (p := ⟨b, o, none⟩) hz) (fun b o _ _ hz => hb.frozen (p := ⟨b, o, none⟩) hz)
theorem OwnSS.sss {w : World} {lo hi g C : Nat} {ls : List (List ByteArray)} {pb : Nat → Nat} (h : OwnSS w lo hi g ls pb) (hC : hi ≤ C) : Sss w C (some ⟨g, 0, none⟩) ls := fun _ => by
  refine ⟨g, 0, rfl, Nat.lt_of_lt_of_le h.gh hC, fun j hj => ?_⟩
  obtain ⟨pc, hc⟩ := h.cl j hj
  exact ⟨_, pc, by rw [Nat.zero_add]; exact hc, (h.rp j hj).strs' (by have := (h.bnd j hj).2.1; omega)⟩

/-- One list of a growing row: its texts, its block, its room. -/
structure SsT where
  l : List ByteArray
  p : Nat
  pc : Nat
def ssCells (ts : List SsT) : List Value := ts.map fun t => Value.slice (some ⟨t.p, 0, none⟩) t.l.length t.pc
theorem ssCells_length (ts : List SsT) : (ssCells ts).length = ts.length := by simp [ssCells]

/-- A growing row: it is the call's own from B on, and so are its lists. -/
structure GrowS (w : World) (B : Nat) (v : Value) (ts : List SsT) (lo : Nat) : Prop where
  own : w.ownsRow B 25 1 v ts.length (ssCells ts)
  blk : ∃ g cap, v = .slice (some ⟨g, 0, none⟩) ts.length cap ∧ g < lo
  top : lo ≤ w.heap.size
  el : ∀ j (hj : j < ts.length), B ≤ ts[j].p ∧ ts[j].p < lo ∧ RowS w ts[j].p ts[j].l ∧ some ts[j].p ≠ v.ownBlock
  ord : ∀ i j (hij : i < j) (hj : j < ts.length), (ts[i]'(by omega)).p < ts[j].p

theorem info_strs : (Try.prog.info? 25).map (fun i => (i.zero, i.size, i.bytes)) = some (some (.slice none 0 0), 1, 24) := by kernel_rfl

theorem GrowS.made (w : World) (B : Nat) (hB : B ≤ w.heap.size) : GrowS (w.alloc (Obj.cells #[] 25)) B (.slice (some ⟨w.heap.size, 0, none⟩) 0 0) [] (w.heap.size + 1) :=
  ⟨⟨rfl, .inr ⟨w.heap.size, 0, #[], rfl, hB, heap_alloc_new w _, Nat.le_refl _, Nat.zero_le _, rfl, rfl⟩⟩, ⟨_, _, rfl, Nat.lt_succ_self _⟩, by simp, fun j hj => absurd hj (Nat.not_lt_zero _), fun i j _ hj => absurd hj (Nat.not_lt_zero _)⟩
theorem GrowS.next {w w' : World} {B lo : Nat} {v : Value} {ts : List SsT} (g : GrowS w B v ts lo) (hb : Below w.heap.size w w') : GrowS w' B v ts lo := by
  refine ⟨⟨g.own.1, ?_⟩, g.blk, Nat.le_trans g.top hb.size, fun j hj => ?_, g.ord⟩
  · rcases g.own.2 with h | ⟨g, cap, cur, e, hB, hh, hr⟩
    · exact .inl h
    · exact .inr ⟨g, cap, cur, e, hB, (hb.block g (Array.getElem?_eq_some_iff.1 hh).1).trans hh, hr⟩
  · obtain ⟨h1, h2, h3, h4⟩ := g.el j hj
    exact ⟨h1, h2, h3.below hb, h4⟩
theorem GrowS.done {w : World} {B lo : Nat} {v : Value} {ts : List SsT} (g : GrowS w B v ts lo) : ∃ b cap, v = .slice (some ⟨b, 0, none⟩) ts.length cap ∧ OwnSS w B w.heap.size b (ts.map (·.l)) (fun j => if hj : j < ts.length then ts[j].p else 0) := by
  obtain ⟨b, cap, rfl, hb⟩ := g.blk
  have hlt := g.own.lt b rfl
  have ht := g.top
  refine ⟨b, cap, rfl, hlt.1, hlt.2, hlt.2, fun j hj => ?_, fun j hj => ?_, fun j hj => ?_, fun i j hij hj => ?_⟩
  · have hj' : j < ts.length := by simpa using hj
    refine ⟨ts[j].pc, ?_⟩
    rw [g.own.cellAt j (by omega)]
    simp [ssCells, hj']
  · have hj' : j < ts.length := by simpa using hj
    simp only [List.getElem_map, hj', dif_pos]
    exact (g.el j hj').2.2.1
  · have hj' : j < ts.length := by simpa using hj
    obtain ⟨h1, h2, h3, h4⟩ := g.el j hj'
    simp only [hj', dif_pos]
    exact ⟨h1, by omega, fun e => h4 (by rw [e]; rfl)⟩
  · have hj' : j < ts.length := by simpa using hj
    simp only [hj', show i < ts.length by omega, dif_pos]
    exact g.ord i j hij hj'

/-- 'l = append(l, x)': x a list in a new block. -/
theorem wp_append_ss {w : World} {ops : Array Oper} {rest : List Oper} {o : Oper} {a : Act} {Q : Exit → Act → World → Prop} (hgd : o.guard = none) (s x : Operand)
    (ho : o.op = .call { callee := .builtin .append, args := #[s, x], argTypes := #[38, 38] })
    (B lo : Nat) (v : Value) (ts : List SsT) (hs : a.eval s = v) (hown : GrowS w B v ts lo)
    (N : Nat) (t : SsT) (hx : a.eval x = .slice (some ⟨N, 0, none⟩) 1 1) (hc0 : w.cell? ⟨N, 0, none⟩ = some (.slice (some ⟨t.p, 0, none⟩) t.l.length t.pc))
    (hlen : ts.length + 1 ≤ 1000000000) (hBl : B ≤ lo) (hp : lo ≤ t.p) (hr : RowS w t.p t.l)
    (h : ∀ v' w', GrowS w' B v' (ts ++ [t]) w'.heap.size → Below B w w' → wpList Try.prog ops Q rest (a.put o.dst v') w') : wpList Try.prog ops Q (o :: rest) a w := by
  obtain ⟨i0, hi, hz0, hz1, hz2⟩ := info_parts info_strs
  have hlt := World.ownsRow.lt hown.own
  obtain ⟨g0, cap0, hv0, hg0⟩ := hown.blk
  have l2 := hown.top
  refine wpList_append_own_at w hgd s x 38 ho B 25 i0 _ 1 24 Try.underlying38 hi hz0 hz1 hz2 rfl (by decide) v ts.length _ hs hown.own ⟨N, 0, none⟩ 1 1 [.slice (some ⟨t.p, 0, none⟩) t.l.length t.pc] hx rfl ?_ ?_ ?_ ?_ (by omega) ?_
  · intro j u hj
    have e : ∀ k, (⟨N, 0, none⟩ : Addr).add k = ⟨N, k, none⟩ := fun k => by unfold Addr.add; split <;> simp_all
    rw [e]
    match j, hj with
    | 0, hj => simp at hj; subst hj; exact hc0
  · intro u hu
    simp only [List.mem_cons, List.not_mem_nil, or_false] at hu
    subst hu; rfl
  · unfold maxLen; omega
  · omega
  · intro v' w' ho' hg _ hat
    obtain ⟨g, cap, rfl⟩ : ∃ g cap, v' = .slice (some ⟨g, 0, none⟩) (ts.length + 1) cap := by
      rcases ho'.2 with ⟨_, h0⟩ | ⟨g, cap, cur, hv, _⟩
      · omega
      · exact ⟨g, cap, hv⟩
    subst hv0
    have hat' : g = g0 ∨ g = w.heap.size := by
      rcases hat with e | e
      · exact .inl (Option.some.inj e)
      · exact .inr (Option.some.inj e)
    have hkeep : ∀ b l, RowS w b l → b ≠ g0 → RowS w' b l := fun b l hb hne => by
      have e := hg.block b hb.1 (fun e => hne (Option.some.inj e))
      refine ⟨Nat.lt_of_lt_of_le hb.1 hg.size, fun j hj => ?_⟩
      simp only [World.cell?, World.frozen?, e]
      exact hb.2 j hj
    have hgw : g < w'.heap.size := by
      have ho2 : w'.ownsRow B 25 1 (.slice (some ⟨g, 0, none⟩) (ts.length + 1) cap) (ts.length + 1) (ssCells ts ++ [.slice (some ⟨t.p, 0, none⟩) t.l.length t.pc]) := ho'
      exact (ho2.lt g rfl).2
    have hz := hg.size
    have hl' : (ts ++ [t]).length = ts.length + 1 := by simp
    refine h _ w' ⟨?_, ⟨g, cap, by rw [hl'], hgw⟩, Nat.le_refl _, fun j hj => ?_, fun i j hij hj => ?_⟩ ⟨hg.os, hg.tape, hg.output, hg.size, fun k hk => hg.block k (by omega) (fun e => by have := (hlt k e.symm).1; omega)⟩
    · have e : ssCells (ts ++ [t]) = ssCells ts ++ [.slice (some ⟨t.p, 0, none⟩) t.l.length t.pc] := by simp [ssCells]
      rw [e, hl']
      exact ho'
    · by_cases e : j < ts.length
      · rw [List.getElem_append_left e]
        obtain ⟨h1, h2, h3, h4⟩ := hown.el j e
        have hne : ts[j].p ≠ g0 := fun e' => h4 (by rw [e']; rfl)
        refine ⟨h1, by omega, hkeep _ _ h3 hne, fun e' => ?_⟩
        have : ts[j].p = g := Option.some.inj e'
        have := h3.1
        rcases hat' with e2 | e2 <;> omega
      · have ej : j = ts.length := by omega
        subst ej
        rw [List.getElem_append_right (Nat.le_refl _)]
        simp only [Nat.sub_self, List.getElem_cons_zero]
        have hr1 := hr.1
        refine ⟨by omega, by omega, hkeep _ _ hr (by omega), fun e' => ?_⟩
        have : t.p = g := Option.some.inj e'
        rcases hat' with e2 | e2 <;> omega
    · by_cases e : j < ts.length
      · rw [List.getElem_append_left e, List.getElem_append_left (by omega)]
        exact hown.ord i j hij e
      · have ej : j = ts.length := by omega
        subst ej
        rw [List.getElem_append_right (Nat.le_refl _), List.getElem_append_left hij]
        simp only [Nat.sub_self, List.getElem_cons_zero]
        have := (hown.el i hij).2.1
        omega
end Go.Proofs.Ytafdbnadakclnaa
