/-
  Rows of what is known that the call itself made: one more behind, and what they hold.
  Slices of sets: what they hold, and that it stays.
  What slices.IndexFunc at what is known and impl.placeOf do.
  What impl.nameOfProp does.
  Two names held against one another.
-/
import Derived.Test.YtkgdmlfdlkmojaaGreatAppendP
import Derived.Test.YtkgdmlfdlkmojaaGreatMathFind
import Derived.Test.YtkgdmlfdlkmojaaGreatLessProp
import Derived.Laws.StructEq
namespace Go.Proofs.YtkgdmlfdlkmojaaGreat
open Go.RowKit M
set_option linter.unusedVariables false

theorem ppCells_append (ps ts : List Pp) : ppCells (ps ++ ts) = ppCells ps ++ ppCells ts := by simp [ppCells]
/-- A row that the call owns, or nil. -/
def OwnQ (w : World) (B : Nat) (v : Value) (ps : List Pp) : Prop := w.ownsRow B 59 3 v ps.length (ppCells ps)
theorem OwnQ.made (w : World) (B : Nat) (hB : B ≤ w.heap.size) : OwnQ (w.alloc (Obj.cells #[] 59)) B (.slice (some ⟨w.heap.size, 0, none⟩) 0 0) [] :=
  ⟨rfl, .inr ⟨w.heap.size, 0, #[], rfl, hB, heap_alloc_new w _, Nat.le_refl _, Nat.zero_le _, rfl, rfl⟩⟩
theorem OwnQ.nil (w : World) (B : Nat) : OwnQ w B (.slice none 0 0) [] := ⟨rfl, .inl ⟨rfl, rfl⟩⟩
theorem OwnQ.alloc {w : World} {B : Nat} {v : Value} {ps : List Pp} (h : OwnQ w B v ps) (o : Obj) : OwnQ (w.alloc o) B v ps := World.ownsRow.alloc h o
theorem OwnQ.next {w w' : World} {B : Nat} {v : Value} {ps : List Pp} (h : OwnQ w B v ps) (hb : Below w.heap.size w w') : OwnQ w' B v ps :=
  World.ownsRow.kept (row := none) h ⟨hb.os, hb.tape, hb.output, hb.size, fun k hk _ => hb.block k hk⟩ (Classical.em _)
theorem OwnQ.slice {w : World} {B : Nat} {v : Value} {ps : List Pp} (h : OwnQ w B v ps) : ∃ a cap, v = .slice a ps.length cap ∧ (a = none → cap = 0) ∧ Pps w w.heap.size a ps ∧ cap ≤ maxLen := by
  rcases h.2 with ⟨e, h0⟩ | ⟨g, cap, cur, hv, hB, hh, h1, h2, _⟩
  · have hl : ps = [] := List.length_eq_zero_iff.1 h0
    subst hl
    exact ⟨none, 0, e, fun _ => rfl, Pps.nil _ _ _, Nat.zero_le _⟩
  · subst hv
    refine ⟨some ⟨g, 0, none⟩, cap, rfl, (fun e => by cases e), fun h0 => ⟨g, 0, rfl, (World.ownsRow.lt h g rfl).2, fun j hj => ?_⟩, h2⟩
    obtain ⟨c0, c1, c2⟩ := ppCells_at ps j hj
    have hl := ppCells_length ps
    rw [Nat.zero_add]
    refine ⟨?_, ?_, ?_⟩
    · rw [World.ownsRow.cellAt h (j * 3) (by omega)]; exact c0
    · rw [World.ownsRow.cellAt h (j * 3 + 1) (by omega)]; exact c1
    · rw [World.ownsRow.cellAt h (j * 3 + 2) (by omega)]; exact c2
theorem OwnQ.base {w : World} {B C : Nat} {v : Value} {ps : List Pp} (h : OwnQ w B v ps) (hC : C ≤ B) : OwnQ w C v ps := by
  refine ⟨h.1, ?_⟩
  rcases h.2 with h | ⟨g, cap, cur, e, hB, hr⟩
  · exact .inl h
  · exact .inr ⟨g, cap, cur, e, Nat.le_trans hC hB, hr⟩
/-- A row with an address. -/
theorem OwnQ.row {w : World} {B : Nat} {g n cap : Nat} {ps : List Pp} (h : OwnQ w B (.slice (some ⟨g, 0, none⟩) n cap) ps) (hn : n = ps.length) : RowP w g ps ∧ B ≤ g ∧ n ≤ cap ∧ cap ≤ maxLen := by
  subst hn
  exact owns_rowP h rfl

/-- 'l = append(l, p)' on a row that the call owns. -/
theorem wp_append_prop {w : World} {ops : Array Oper} {rest : List Oper} {o : Oper} {a : Act} {Q : Exit → Act → World → Prop} (hgd : o.guard = none) (s x : Operand)
    (ho : o.op = .call { callee := .builtin .append, args := #[s, x], argTypes := #[53, 53] })
    (B : Nat) (v : Value) (l : List Pp) (hs : a.eval s = v) (hown : OwnQ w B v l)
    (N : Nat) (c : Pp) (hx : a.eval x = .slice (some ⟨N, 0, none⟩) 1 1) (hc0 : w.cell? ⟨N, 0, none⟩ = some (.string c.1)) (hc1 : w.cell? ⟨N, 1, none⟩ = some (.string c.2.1)) (hc2 : w.cell? ⟨N, 2, none⟩ = some (.string c.2.2)) (hlen : l.length + 1 ≤ 1099511627776) (hB : B ≤ w.heap.size)
    (h : ∀ g n cap w', n = (l ++ [c]).length → OwnQ w' B (.slice (some ⟨g, 0, none⟩) n cap) (l ++ [c]) → Below B w w' → wpList Tryz.prog ops Q rest (a.put o.dst (.slice (some ⟨g, 0, none⟩) n cap)) w') : wpList Tryz.prog ops Q (o :: rest) a w := by
  obtain ⟨i0, hi, hz0, hz1, hz2⟩ := info_parts info_prop
  refine wpList_append_own w hgd s x 53 ho B 59 i0 _ 3 48 Tryz.underlying53 hi hz0 hz1 hz2 rfl (by decide) v l.length _ hs hown ⟨N, 0, none⟩ 1 1 [.string c.1, .string c.2.1, .string c.2.2] hx rfl ?_ ?_ ?_ ?_ hB ?_
  · intro j u hj
    have e : ∀ k, (⟨N, 0, none⟩ : Addr).add k = ⟨N, k, none⟩ := fun k => by unfold Addr.add; split <;> simp_all
    rw [e]
    match j, hj with
    | 0, hj => simp at hj; subst hj; exact hc0
    | 1, hj => simp at hj; subst hj; exact hc1
    | 2, hj => simp at hj; subst hj; exact hc2
  · intro u hu; simp at hu; rcases hu with rfl | rfl | rfl <;> rfl
  · unfold maxLen; omega
  · omega
  · intro v' w' ho' hg _
    obtain ⟨g, cap, rfl⟩ : ∃ g cap, v' = .slice (some ⟨g, 0, none⟩) (l.length + 1) cap := by
      rcases ho'.2 with ⟨_, h0⟩ | ⟨g, cap, cur, hv, _⟩
      · omega
      · exact ⟨g, cap, hv⟩
    refine h g (l.length + 1) cap w' (by simp) ?_ (below_grownP hown hB hg)
    unfold OwnQ
    rw [ppCells_append, show (l ++ [c]).length = l.length + 1 by simp]
    exact ho'

/-- 'append([]impl.Prop{}, l...)', as a row that the call owns. -/
theorem wp_append_propsO {w : World} {ops : Array Oper} {rest : List Oper} {o : Oper} {a : Act} {Q : Exit → Act → World → Prop} (hgd : o.guard = none) (s x : Operand)
    (ho : o.op = .call { callee := .builtin .append, args := #[s, x], argTypes := #[53, 53] })
    (B g0 : Nat) (l : List Pp) (n : Nat) (hn : n = l.length) (hs : a.eval s = .slice (some ⟨g0, 0, none⟩) 0 0) (hown : w.ownsRow B 59 3 (.slice (some ⟨g0, 0, none⟩) 0 0) 0 [])
    (C : Nat) (pa : Option Addr) (pc : Nat) (hx : a.eval x = .slice pa n pc) (hst : Pps w C pa l) (hpn : pa = none → pc = 0) (hlen : n ≤ 1048576000) (hB : B ≤ w.heap.size)
    (h : ∀ g cap w', OwnQ w' B (.slice (some ⟨g, 0, none⟩) n cap) l → Below B w w' → wpList Tryz.prog ops Q rest (a.put o.dst (.slice (some ⟨g, 0, none⟩) n cap)) w') : wpList Tryz.prog ops Q (o :: rest) a w := by
  obtain ⟨i0, hi, hz0, hz1, hz2⟩ := info_parts info_prop
  cases pa with
  | none =>
    have h0 : n = 0 := by
      rw [hn]
      by_cases e : 0 < l.length
      · obtain ⟨_, _, e', _⟩ := hst e; cases e'
      · omega
    have hl : l = [] := List.length_eq_zero_iff.1 (by omega)
    subst hl h0
    rw [hpn rfl] at hx
    have hr := run_append_owned_none (P := Tryz.prog) (w := w) B 53 o.type 59 i0 3 Tryz.underlying53 hi _ _ _ hown
    refine wpList_plain hgd fun K hK => ?_
    unfold Oper.wp execOp
    simp only [ho, resolve, invoke, builtin, Sem.run_bind, Sem.run_pure, Result.andThen_ok, List.map_toArray, List.map_cons, List.map_nil, hs, hx, hr]
    exact hK _ _ (h g0 0 w hown (Below.refl _ _))
  | some ad =>
    refine wpList_append_own w hgd s x 53 ho B 59 i0 _ 3 48 Tryz.underlying53 hi hz0 hz1 hz2 rfl (by decide) _ 0 _ hs hown ad n pc (ppCells l) hx (by rw [ppCells_length, hn]) ?_ ?_ ?_ ?_ hB ?_
    · intro j u hj
      have hjl : j < l.length * 3 := by have := (List.getElem?_eq_some_iff.1 hj).1; rwa [ppCells_length] at this
      obtain ⟨b, o', e, _, hc⟩ := hst (by omega)
      have e' : ad = ⟨b, o', none⟩ := by cases e; rfl
      subst e'
      have e2 : (⟨b, o', none⟩ : Addr).add j = ⟨b, o' + j, none⟩ := by unfold Addr.add; split <;> simp_all
      rw [e2]
      obtain ⟨d0, d1, d2⟩ := hc (j / 3) (by omega)
      obtain ⟨c0, c1, c2⟩ := ppCells_at l (j / 3) (by omega)
      have e3 : j = j / 3 * 3 ∨ j = j / 3 * 3 + 1 ∨ j = j / 3 * 3 + 2 := by omega
      rcases e3 with e3 | e3 | e3
      · rw [← e3] at c0 d0; rw [d0, ← c0]; exact hj
      · rw [← e3] at c1; rw [show o' + j = o' + j / 3 * 3 + 1 by omega, d1, ← c1]; exact hj
      · rw [← e3] at c2; rw [show o' + j = o' + j / 3 * 3 + 2 by omega, d2, ← c2]; exact hj
    · intro u hu
      unfold ppCells at hu
      obtain ⟨y, _, hy⟩ := List.mem_flatMap.1 hu
      simp only [List.mem_cons, List.not_mem_nil, or_false] at hy
      rcases hy with rfl | rfl | rfl <;> rfl
    · unfold maxLen; omega
    · omega
    · intro v' w' ho' hg hnn
      rw [Nat.zero_add] at ho'
      obtain ⟨g, cap, rfl⟩ : ∃ g cap, v' = .slice (some ⟨g, 0, none⟩) n cap := by
        rcases ho'.2 with ⟨e, h0⟩ | ⟨g, cap, cur, hv, _⟩
        · have := (hnn.1 e).1; cases this
        · exact ⟨g, cap, hv⟩
      have ho2 : OwnQ w' B (.slice (some ⟨g, 0, none⟩) n cap) l := by
        unfold OwnQ
        rw [← hn]
        exact ho'
      exact h g cap w' ho2 (below_grownP hown hB hg)
end Go.Proofs.YtkgdmlfdlkmojaaGreat
namespace Go.Proofs.YtkgdmlfdlkmojaaGreat
open Go.RowKit M

/-- One of them, at a place. -/
def StAt (w : World) (b o : Nat) (p : St) : Prop := w.cell? ⟨b, o, none⟩ = some (.bool p.1) ∧ w.cell? ⟨b, o + 1, none⟩ = some (.string p.2.1) ∧ w.cell? ⟨b, o + 2, none⟩ = some (.string p.2.2.1) ∧ w.cell? ⟨b, o + 3, none⟩ = some (.string p.2.2.2)
/-- What a slice of them holds, in a block below B. -/
def Sts (w : World) (B : Nat) (a : Option Addr) (ps : List St) : Prop :=
  0 < ps.length → ∃ b o, a = some ⟨b, o, none⟩ ∧ b < B ∧ ∀ j (hj : j < ps.length), StAt w b (o + j * 4) ps[j]

theorem StAt.of {w w' : World} {b o : Nat} {p : St} (h : StAt w b o p) (e : ∀ o', w'.cell? ⟨b, o', none⟩ = w.cell? ⟨b, o', none⟩) : StAt w' b o p := by
  unfold StAt at *
  simp only [e]
  exact h
theorem Sts.of {w w' : World} {B : Nat} {a : Option Addr} {ps : List St} (h : Sts w B a ps) (e : ∀ b o, b < B → w'.cell? ⟨b, o, none⟩ = w.cell? ⟨b, o, none⟩) : Sts w' B a ps := fun h0 => by
  obtain ⟨b, o, ea, hb, hc⟩ := h h0
  exact ⟨b, o, ea, hb, fun j hj => (hc j hj).of (fun o' => e b o' hb)⟩
theorem Sts.below {w w' : World} {B C : Nat} {a : Option Addr} {ps : List St} (h : Sts w B a ps) (hb : Below C w w') (hB : B ≤ C) : Sts w' B a ps :=
  h.of (fun b o hbB => hb.cell (p := ⟨b, o, none⟩) (Nat.lt_of_lt_of_le hbB hB))
theorem Sts.mono {w : World} {B C : Nat} {a : Option Addr} {ps : List St} (h : Sts w B a ps) (hB : B ≤ C) : Sts w C a ps := fun h0 => by
  obtain ⟨b, o, e, hbB, hc⟩ := h h0
  exact ⟨b, o, e, Nat.lt_of_lt_of_le hbB hB, hc⟩
theorem Sts.nil (w : World) (B : Nat) (a : Option Addr) : Sts w B a [] := fun h => absurd h (Nat.lt_irrefl _)

/-- A row of them in block g, none of them frozen. -/
def RowU (w : World) (g : Nat) (ps : List St) : Prop := g < w.heap.size ∧ (∀ j (hj : j < ps.length), StAt w g (j * 4) ps[j]) ∧ ∀ i, w.frozen? ⟨g, i, none⟩ = false
theorem RowU.of {w w' : World} {g : Nat} {ps : List St} (h : RowU w g ps) (hz : g < w'.heap.size) (e : ∀ o', w'.cell? ⟨g, o', none⟩ = w.cell? ⟨g, o', none⟩) (f : ∀ o', w'.frozen? ⟨g, o', none⟩ = w.frozen? ⟨g, o', none⟩) : RowU w' g ps :=
  ⟨hz, fun j hj => (h.2.1 j hj).of e, fun i => by rw [f]; exact h.2.2 i⟩
theorem RowU.below {w w' : World} {g : Nat} {ps : List St} (h : RowU w g ps) (hb : Below w.heap.size w w') : RowU w' g ps :=
  h.of (Nat.lt_of_lt_of_le h.1 hb.size) (fun o => hb.cell (p := ⟨g, o, none⟩) h.1) (fun o => hb.frozen (p := ⟨g, o, none⟩) h.1)
theorem RowU.sts {w : World} {g C : Nat} {ps : List St} (h : RowU w g ps) (hC : g < C) : Sts w C (some ⟨g, 0, none⟩) ps := fun _ =>
  ⟨g, 0, rfl, hC, fun j hj => by rw [Nat.zero_add]; exact h.2.1 j hj⟩

/-- All of them short enough. -/
def ShortSs (ps : List St) : Prop := ∀ p ∈ ps, p.2.1.size ≤ maxLen ∧ p.2.2.1.size ≤ maxLen ∧ p.2.2.2.size ≤ maxLen
theorem ShortSs.at {ps : List St} (h : ShortSs ps) (k : Nat) (hk : k < ps.length) : (ps[k]).2.1.size ≤ maxLen ∧ (ps[k]).2.2.1.size ≤ maxLen ∧ (ps[k]).2.2.2.size ≤ maxLen := h _ (List.getElem_mem hk)

theorem info_set : (Tryz.prog.info? 61).map (fun i => (i.zero, i.size, i.bytes)) = some (some (.agg #[.bool false, .string ByteArray.empty, .string ByteArray.empty, .string ByteArray.empty]), 4, 56) := by kernel_rfl
theorem run_make_sets (n : Nat) (hn : n ≤ 1048576) (w : World) :
    (Instr.makeSlice 33 (.int .i64 (n : Int)) (.int .i64 (n : Int))).run Tryz.prog w = .ok (.slice (some ⟨w.heap.size, 0, none⟩) n n) (w.alloc (.cells (madeCells #[.bool false, .string ByteArray.empty, .string ByteArray.empty, .string ByteArray.empty] (n * 4)) 61)) := by
  obtain ⟨i, hi, hz, hs, hb⟩ := info_parts info_set
  have hr := run_make (P := Tryz.prog) w 33 61 i _ Tryz.underlying33 hi hz .i64 .i64 n n (by omega) (Int.le_refl _) (by rw [hb]; omega) (by omega)
  simp only [Int.toNat_natCast, hs] at hr
  exact hr

/-- What is made so far of a row of them. -/
def MadeU (w : World) (g : Nat) (ps : List St) (k : Nat) : Prop := ∃ F : Nat → Value, w.rowIs g 61 (ps.length * 4) F ∧ ∀ j (hj : j < ps.length), j < k → F (j * 4) = .bool ps[j].1 ∧ F (j * 4 + 1) = .string ps[j].2.1 ∧ F (j * 4 + 2) = .string ps[j].2.2.1 ∧ F (j * 4 + 3) = .string ps[j].2.2.2
theorem MadeU.start (w : World) (ps : List St) : MadeU (w.alloc (.cells (madeCells #[.bool false, .string ByteArray.empty, .string ByteArray.empty, .string ByteArray.empty] (ps.length * 4)) 61)) w.heap.size ps 0 := by
  have hr := World.rowIs_alloc w (madeCells #[.bool false, .string ByteArray.empty, .string ByteArray.empty, .string ByteArray.empty] (ps.length * 4)) 61 (fun i => ((madeCells #[.bool false, .string ByteArray.empty, .string ByteArray.empty, .string ByteArray.empty] (ps.length * 4))[i]?).getD (.bool false)) (fun i hi => by rw [Array.getElem?_eq_getElem hi]; rfl)
  rw [size_madeCells] at hr
  exact ⟨_, hr, fun j _ hj => absurd hj (Nat.not_lt_zero _)⟩
theorem MadeU.below {w w1 : World} {g : Nat} {ps : List St} {k : Nat} (m : MadeU w g ps k) (hb : Below w.heap.size w w1) : MadeU w1 g ps k := by
  obtain ⟨F, hr, hj⟩ := m
  exact ⟨F, hr.of_block (w' := w1) (hb.block _ hr.lt), hj⟩
theorem MadeU.lt {w : World} {g : Nat} {ps : List St} {k : Nat} (m : MadeU w g ps k) : g < w.heap.size := by obtain ⟨F, hr, _⟩ := m; exact hr.lt
theorem MadeU.cells {w : World} {g : Nat} {ps : List St} {k : Nat} (m : MadeU w g ps k) (hk : k < ps.length) : ∃ v0 v1 v2 v3, w.cell? ⟨g, k * 4, none⟩ = some v0 ∧ w.cell? ⟨g, k * 4 + 1, none⟩ = some v1 ∧ w.cell? ⟨g, k * 4 + 2, none⟩ = some v2 ∧ w.cell? ⟨g, k * 4 + 3, none⟩ = some v3 ∧ w.frozen? ⟨g, k * 4, none⟩ = false ∧ w.frozen? ⟨g, k * 4 + 1, none⟩ = false ∧ w.frozen? ⟨g, k * 4 + 2, none⟩ = false ∧ w.frozen? ⟨g, k * 4 + 3, none⟩ = false := by
  obtain ⟨F, hr, _⟩ := m
  exact ⟨_, _, _, _, hr.cell (by omega), hr.cell (by omega), hr.cell (by omega), hr.cell (by omega), hr.frozen _, hr.frozen _, hr.frozen _, hr.frozen _⟩
theorem MadeU.next {w : World} {g : Nat} {ps : List St} {k : Nat} (m : MadeU w g ps k) (hk : k < ps.length) : MadeU ((((w.setCell ⟨g, k * 4, none⟩ (.bool ps[k].1)).setCell ⟨g, k * 4 + 1, none⟩ (.string ps[k].2.1)).setCell ⟨g, k * 4 + 2, none⟩ (.string ps[k].2.2.1)).setCell ⟨g, k * 4 + 3, none⟩ (.string ps[k].2.2.2)) g ps (k + 1) := by
  obtain ⟨F, hr, hj⟩ := m
  refine ⟨_, (((hr.set (k * 4) (.bool ps[k].1)).set (k * 4 + 1) (.string ps[k].2.1)).set (k * 4 + 2) (.string ps[k].2.2.1)).set (k * 4 + 3) (.string ps[k].2.2.2), fun j hjl hjk => ?_⟩
  by_cases e : j = k
  · subst e
    refine ⟨?_, ?_, ?_, ?_⟩ <;> simp
  · obtain ⟨e0, e1, e2, e3⟩ := hj j hjl (by omega)
    refine ⟨?_, ?_, ?_, ?_⟩
    · simp only [show ¬ j * 4 = k * 4 + 3 by omega, show ¬ j * 4 = k * 4 + 2 by omega, show ¬ j * 4 = k * 4 + 1 by omega, show ¬ j * 4 = k * 4 by omega, if_false]; exact e0
    · simp only [show ¬ j * 4 + 1 = k * 4 + 3 by omega, show ¬ j * 4 + 1 = k * 4 + 2 by omega, show ¬ j * 4 + 1 = k * 4 + 1 by omega, show ¬ j * 4 + 1 = k * 4 by omega, if_false]; exact e1
    · simp only [show ¬ j * 4 + 2 = k * 4 + 3 by omega, show ¬ j * 4 + 2 = k * 4 + 2 by omega, show ¬ j * 4 + 2 = k * 4 + 1 by omega, show ¬ j * 4 + 2 = k * 4 by omega, if_false]; exact e2
    · simp only [show ¬ j * 4 + 3 = k * 4 + 3 by omega, show ¬ j * 4 + 3 = k * 4 + 2 by omega, show ¬ j * 4 + 3 = k * 4 + 1 by omega, show ¬ j * 4 + 3 = k * 4 by omega, if_false]; exact e3
theorem MadeU.done {w : World} {g : Nat} {ps : List St} {k : Nat} (m : MadeU w g ps k) (hk : ¬ k < ps.length) : RowU w g ps := by
  obtain ⟨F, hr, hj⟩ := m
  refine ⟨hr.lt, fun j hjl => ?_, fun i => hr.frozen i⟩
  obtain ⟨e0, e1, e2, e3⟩ := hj j hjl (by omega)
  exact ⟨by rw [hr.cell (by omega), e0], by rw [hr.cell (by omega), e1], by rw [hr.cell (by omega), e2], by rw [hr.cell (by omega), e3]⟩
end Go.Proofs.YtkgdmlfdlkmojaaGreat
namespace Go.Proofs.YtkgdmlfdlkmojaaGreat
open Go.RowKit M
set_option linter.unusedVariables false

def Cell3 (W : World) (N : Nat) (p : Pp) : Prop := W.cell? ⟨N, 0, none⟩ = some (.string p.1) ∧ W.cell? ⟨N, 1, none⟩ = some (.string p.2.1) ∧ W.cell? ⟨N, 2, none⟩ = some (.string p.2.2)
theorem Cell3.below {W w1 : World} {N : Nat} {p : Pp} (h : Cell3 W N p) (hb : Below W.heap.size W w1) : Cell3 w1 N p := by
  have hN : N < W.heap.size := World.block_lt_of_cell? W _ h.1
  unfold Cell3
  simp only [(bcellP hb).1 N _ hN]
  exact h

set_option maxHeartbeats 1000000 in
theorem notLess_any (q p : Pp) (N : Nat) (w : World) (h : Cell3 w N p) :
    Calls Tryz.prog 92 #[.agg #[.string q.1, .string q.2.1, .string q.2.2], .pointer (some ⟨N, 0, none⟩)] w fun e w' => e = .returned (.bool (!lessP q p)) ∧ Below w.heap.size w w' := by
  have HL := hide (fun W => lessProp_any q p W)
  have HB := hide ((Below.refl w.heap.size w).alloc (Nat.le_refl _) (Obj.cells #[.string q.1, .string q.2.1, .string q.2.2] 59))
  obtain ⟨h0, h1, h2⟩ := h.below HB.out
  go_enter Tryz.func92, Tryz.ntmps92
  go_wp2_with fail
  refine (HL.out _).mono ?_
  rintro e w1 ⟨rfl, b1⟩
  have c1 := HB.out.trans (b1.mono HB.out.size)
  go_wp2
  go_ret
  exact ⟨rfl, c1⟩

/-- The place as slices.IndexFunc tells it. -/
def plcI (p : Pp) (ps : List Pp) : Int := if plcL p ps < ps.length then (plcL p ps : Int) else -1

set_option maxHeartbeats 2000000 in
theorem indexProp_any (a : Option Addr) (ps : List Pp) (cap B N : Nat) (p : Pp) (w : World) (h : Pps w B a ps) (hB : B ≤ w.heap.size) (hl : ps.length ≤ maxLen) (hN : Cell3 w N p) :
    Calls Tryz.prog 91 #[.slice a ps.length cap, .func (.func 92) #[] #[.pointer (some ⟨N, 0, none⟩)]] w fun e w' => e = .returned (.int .i64 (plcI p ps)) ∧ Below w.heap.size w w' := by
  unfold maxLen at hl
  go_enter Tryz.func91, Tryz.ntmps91
  go_wp2
  go_loopw [8] (fun i wr => ∃ k : Nat, k ≤ ps.length ∧ i = .int .i64 k ∧ Hid (∀ j (hj : j < ps.length), j < k → lessP ps[j] p = true) ∧ Below w.heap.size w wr) (fun i _ => ps.length - (intOf i).toNat)
  case atStart => exact ⟨0, Nat.zero_le _, rfl, fun j _ hj => absurd hj (by omega), Below.refl _ _⟩
  case round =>
    obtain ⟨k, hk, rfl, hn, hbe⟩ := hrel
    by_cases hlt : k < ps.length
    · obtain ⟨b, o, rfl, hb, hc⟩ := (h.below hbe hB) (by omega)
      obtain ⟨hcx, hcy, hcz⟩ := hc k hlt
      clear hc
      have HQ := hide (notLess_any ps[k] p N wr (hN.below hbe))
      have HAT := hide (fun e => plc_at p ps k hlt hn.out e)
      obtain ⟨z, hz⟩ : ∃ z, lessP ps[k] p = z := ⟨_, rfl⟩
      rw [hz] at HQ
      have HZ := hide hz
      clear hz
      go_wp2_with fail
      refine HQ.out.mono ?_
      rintro e w1 ⟨rfl, b1⟩
      have c1 := hbe.trans (b1.mono hbe.size)
      cases z
      · have HE := hide (show plcI p ps = (k : Int) by unfold plcI; rw [HAT.out HZ.out, if_pos hlt])
        go_wp2
        go_ret
        rw [HE.out]
        exact ⟨rfl, c1⟩
      · go_wp2
        go_roundw
        case rel => exact ⟨k + 1, by omega, by go_num, fun j hj hjk => if e : j = k then by subst e; exact HZ.out else hn.out j hj (by omega), c1⟩
        case measure => simp [intOf]; omega
    · have HE := hide (show plcI p ps = -1 by unfold plcI; rw [plc_none p ps (fun j hj => hn.out j hj (by omega)), if_neg (Nat.lt_irrefl _)])
      go_wp2
      go_ret
      rw [HE.out]
      exact ⟨rfl, hbe⟩

set_option maxHeartbeats 2000000 in
theorem placeOf_any (a : Option Addr) (ps : List Pp) (cap B : Nat) (p : Pp) (w : World) (h : Pps w B a ps) (hB : B ≤ w.heap.size) (hl : ps.length ≤ maxLen) :
    Calls Tryz.prog 76 #[.slice a ps.length cap, .agg #[.string p.1, .string p.2.1, .string p.2.2]] w fun e w' => e = .returned (.int .i64 (plcL p ps)) ∧ Below w.heap.size w w' := by
  have hmf : ∀ (fn : Fn) (first cap : Array Value) (w : World), (Instr.makeFunc fn first cap).run Tryz.prog w = .ok (.func fn first cap) w := fun _ _ _ _ => rfl
  have HB := hide ((Below.refl w.heap.size w).alloc (Nat.le_refl _) (Obj.cells #[.string p.1, .string p.2.1, .string p.2.2] 59))
  have HI := hide (indexProp_any a ps cap B w.heap.size p _ (h.below HB.out hB) (Nat.le_trans hB HB.out.size) hl (by unfold Cell3; simp))
  have HLE := hide (plc_le p ps)
  have HE := hide (show plcI p ps = if plcL p ps < ps.length then (plcL p ps : Int) else -1 from rfl)
  generalize plcI p ps = r at *
  go_enter Tryz.func76, Tryz.ntmps76
  go_wp2_with fail
  refine HI.out.mono ?_
  rintro e w1 ⟨rfl, b1⟩
  have c1 := HB.out.trans (b1.mono HB.out.size)
  by_cases hlt : plcL p ps < ps.length
  · have hr : r = (plcL p ps : Int) := by rw [HE.out, if_pos hlt]
    subst hr
    go_wp2
    go_ret
    exact ⟨rfl, c1⟩
  · have hr : r = -1 := by rw [HE.out, if_neg hlt]
    subst hr
    have HQ := hide (show plcL p ps = ps.length by have := HLE.out; omega)
    clear hlt
    go_wp2
    go_ret
    rw [HQ.out]
    exact ⟨rfl, c1⟩
end Go.Proofs.YtkgdmlfdlkmojaaGreat
namespace Go.Proofs.YtkgdmlfdlkmojaaGreat
open Go.RowKit M
set_option linter.unusedVariables false

set_option maxHeartbeats 1000000 in
theorem nameOfProp_any (x y z : ByteArray) (w : World) :
    Calls Tryz.prog 78 #[.agg #[.string x, .string y, .string z]] w fun e w' => e = .returned (.agg #[.string x, .string y]) ∧ Below w.heap.size w w' := by
  go_enter Tryz.func78, Tryz.ntmps78
  go_wp2
  exact bodyPost_ret (v := .agg #[.string x, .string y]) (by simp [results, Tryz.results78, go_sem]) rfl ⟨rfl, ((Below.refl _ _).alloc (Nat.le_refl _) _).alloc (by simp) _⟩
end Go.Proofs.YtkgdmlfdlkmojaaGreat
namespace Go.Proofs.YtkgdmlfdlkmojaaGreat
open Go.RowKit

/-- What '==' says of two names. -/
theorem eqIn_name (x y x' y' : ByteArray) (w : World) : (Op.equalIn 10000 91 (.agg #[.string x, .string y]) (.agg #[.string x', .string y'])).run Tryz.prog w = .ok (x.toList == x'.toList && y.toList == y'.toList) w := by
  have u3 := Tryz.underlying9
  have a3 := Tryz.isAgg9
  have z3 := Tryz.sizeOf9
  have hS : Tryz.prog.underlying 91 = some (.struct (Tryz.prog.fieldsOf 91)) := by kernel_rfl
  have hp : Tryz.prog.stoodInHeld 91 = false := by kernel_rfl
  rw [show (10000 : Nat) = 9999 + 1 from rfl, run_equalIn_agg w 9999 91 _ _ hS hp]
  simp only [Program.fieldsOf, Tryz.underlying91]
  go_simp
  by_cases h1 : x.toList = x'.toList <;> by_cases h2 : y.toList = y'.toList <;> simp [h1, h2]
theorem neq_name (x y x' y' : ByteArray) (w : World) : (binOp .neq 91 (.agg #[.string x, .string y]) (.agg #[.string x', .string y'])).run Tryz.prog w = .ok (.bool (!(x.toList == x'.toList && y.toList == y'.toList))) w := by
  rw [run_neq_struct, eqIn_name]; rfl
theorem eql_name (x y x' y' : ByteArray) (w : World) : (binOp .eql 91 (.agg #[.string x, .string y]) (.agg #[.string x', .string y'])).run Tryz.prog w = .ok (.bool (x.toList == x'.toList && y.toList == y'.toList)) w := by
  rw [run_eql_struct, eqIn_name]; rfl
end Go.Proofs.YtkgdmlfdlkmojaaGreat
