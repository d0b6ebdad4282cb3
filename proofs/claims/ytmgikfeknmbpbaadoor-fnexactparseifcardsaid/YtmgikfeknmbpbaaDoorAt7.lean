/-
  Rows that a call makes by append, of whatever elements: each has the same number of cells.
  What slices of what must be hold.
  Plain facts on small names: no program in sight.
  Plain facts on marks and texts one behind the other: no program in sight.
  Plain facts on how a text is read back, a byte at a time, by places: no program in sight.
  Names ahead in a text, by places: no program in sight.
  Bytes held against a constant, in the forms that a walk wants; texts held against a constant.
  Two answers that are the same.
  What the specification's l1In does; a byte as an int.
  What the specification's l7At does.
-/
import Derived.Test.YtmgikfeknmbpbaaDoorGenPick
import Derived.Test.YtmgikfeknmbpbaaDoorTurn
import Derived.Maps.AppendAt
import Derived.WalkKit
import Derived.Deep.OwnRows
import Derived.Test.YtmgikfeknmbpbaaDoorGenCond
import Derived.Test.YtmgikfeknmbpbaaDoorGenBox
import Derived.Test.YtmgikfeknmbpbaaDoorMathMark
import Derived.Test.YtmgikfeknmbpbaaDoorRows
import Derived.WalkSpells
import Derived.WalkLawsBesides
import Derived.Deep.Light
namespace Go.Proofs.YtmgikfeknmbpbaaDoor
open Go.RowKit
set_option linter.unusedVariables false

section
variable {α : Type} {cs : α → List Value} {K : Nat} {tE : TypeId}
/-- A row that the call owns from block B on. -/
def OwnG (tE : TypeId) (K : Nat) (cs : α → List Value) (w : World) (B : Nat) (v : Value) (l : List α) : Prop := w.ownsRow B tE K v l.length (l.flatMap cs)
theorem flat_length (hK : ∀ x, (cs x).length = K) (l : List α) : (l.flatMap cs).length = l.length * K := by
  induction l with
  | nil => simp
  | cons x l ih => rw [List.flatMap_cons, List.length_append, ih, hK, List.length_cons, Nat.add_mul]; omega
theorem flat_at (hK : ∀ x, (cs x).length = K) (l : List α) : ∀ j (hj : j < l.length) i, i < K → (l.flatMap cs)[j * K + i]? = (cs l[j])[i]? := by
  induction l with
  | nil => intro j hj; exact absurd hj (Nat.not_lt_zero _)
  | cons x l ih =>
    intro j hj i hi
    rw [List.flatMap_cons]
    match j, hj with
    | 0, _ => rw [Nat.zero_mul, Nat.zero_add, List.getElem?_append_left (by rw [hK]; omega)]; rfl
    | j + 1, hj =>
      rw [List.getElem?_append_right (by rw [hK, Nat.add_mul]; omega), hK, show (j + 1) * K + i - K = j * K + i by rw [Nat.add_mul]; omega]
      simpa using ih j (by simpa using hj) i hi
theorem OwnG.made (w : World) (B : Nat) (hB : B ≤ w.heap.size) : OwnG tE K cs (w.alloc (Obj.cells #[] tE)) B (.slice (some ⟨w.heap.size, 0, none⟩) 0 0) [] :=
  ⟨by simp, .inr ⟨w.heap.size, 0, #[], rfl, hB, heap_alloc_new w _, Nat.le_refl _, Nat.zero_le _, by simp, by simp⟩⟩
theorem OwnG.next {w w' : World} {B : Nat} {v : Value} {l : List α} (h : OwnG tE K cs w B v l) (hb : Below w.heap.size w w') : OwnG tE K cs w' B v l :=
  World.ownsRow.kept (row := none) h ⟨hb.os, hb.tape, hb.output, hb.size, fun k hk _ => hb.block k hk⟩ (Classical.em _)
theorem OwnG.keepB {w w' : World} {B g n c : Nat} {l : List α} (h : OwnG tE K cs w B (.slice (some ⟨g, 0, none⟩) n c) l) (e : w'.heap[g]? = w.heap[g]?) : OwnG tE K cs w' B (.slice (some ⟨g, 0, none⟩) n c) l := by
  refine ⟨h.1, ?_⟩
  rcases h.2 with ⟨h0, _⟩ | ⟨g', c', cur, hv, hB, hh, hr⟩
  · cases h0
  · cases hv
    exact .inr ⟨g, c, cur, rfl, hB, e.trans hh, hr⟩
theorem OwnG.row {w : World} {B g n c : Nat} {l : List α} (hK : ∀ x, (cs x).length = K) (h : OwnG tE K cs w B (.slice (some ⟨g, 0, none⟩) n c) l) :
    n = l.length ∧ n ≤ c ∧ c ≤ maxLen ∧ B ≤ g ∧ g < w.heap.size ∧ (∀ i, w.frozen? ⟨g, i, none⟩ = false) ∧ ∀ j (hj : j < l.length) i v, (cs l[j])[i]? = some v → w.cell? ⟨g, j * K + i, none⟩ = some v := by
  have hlt := World.ownsRow.lt h g rfl
  rcases h.2 with ⟨e, _⟩ | ⟨g', c', cur, e, hB, hh, h1, h2, _⟩
  · cases e
  · cases e
    refine ⟨rfl, h1, h2, hB, hlt.2, fun i => ?_, fun j hj i v hv => ?_⟩
    · simp only [World.frozen?, hh, Bool.and_eq_false_iff, decide_eq_false_iff_not]
      right; omega
    · have hi : i < K := by have := (List.getElem?_eq_some_iff.1 hv).1; rwa [hK] at this
      have hjl : j * K + i < l.length * K := by
        have := Nat.mul_le_mul_right K (show j + 1 ≤ l.length from hj)
        rw [Nat.add_mul] at this
        omega
      rw [World.ownsRow.cellAt h (j * K + i) hjl, flat_at hK l j hj i hi]
      exact hv
theorem below_grownG {w w' : World} {B n : Nat} {v : Value} {xs : List Value} (hown : w.ownsRow B tE K v n xs) (hB : B ≤ w.heap.size) (hg : w.grownBy w' v.ownBlock) : Below B w w' :=
  ⟨hg.os, hg.tape, hg.output, hg.size, fun k hk => hg.block k (by omega) (fun e => by have := (hown.lt k e.symm).1; omega)⟩

/-- 'l = append(l, x)' on a row that the call owns. -/
theorem wp_append_gen {P : Program} {w : World} {ops : Array Oper} {rest : List Oper} {o : Oper} {a : Act} {Q : Exit → Act → World → Prop} (T : TypeId) (hu : P.underlying T = some (.slice tE)) (zero : Value) (bytes : Nat) (hinfo : (P.info? tE).map (fun i => (i.zero, i.size, i.bytes)) = some (some zero, K, bytes)) (hz : zero.cells.size = K) (hK0 : 0 < K) (hby : bytes ≤ 512) (hgd : o.guard = none) (s x : Operand)
    (ho : o.op = .call { callee := .builtin .append, args := #[s, x], argTypes := #[T, T] })
    (B : Nat) (v : Value) (l : List α) (hs : a.eval s = v) (hown : OwnG tE K cs w B v l) (hK : ∀ x, (cs x).length = K)
    (N : Nat) (t : α) (hx : a.eval x = .slice (some ⟨N, 0, none⟩) 1 1) (hc : ∀ i v, (cs t)[i]? = some v → w.cell? ⟨N, i, none⟩ = some v) (h1 : ∀ v ∈ cs t, v.oneCell' = true) (hlen : l.length + 1 ≤ 100000000000) (hB : B ≤ w.heap.size)
    (h : ∀ g n cap w', n = (l ++ [t]).length → OwnG tE K cs w' B (.slice (some ⟨g, 0, none⟩) n cap) (l ++ [t]) → Below B w w' → w.grownBy w' v.ownBlock → (v.ownBlock = some g ∨ g = w.heap.size) → wpList P ops Q rest (a.put o.dst (.slice (some ⟨g, 0, none⟩) n cap)) w') : wpList P ops Q (o :: rest) a w := by
  obtain ⟨i0, hi, hz0, hz1, hz2⟩ := info_parts hinfo
  refine wpList_append_own_at w hgd s x T ho B tE i0 zero K bytes hu hi hz0 hz1 hz2 hz hK0 v l.length _ hs hown ⟨N, 0, none⟩ 1 1 (cs t) hx (by rw [hK]; omega) (fun j u hj => by rw [add_pick, Nat.zero_add]; exact hc j u hj) h1 (by unfold maxLen; omega) ?_ hB ?_
  · have := Nat.mul_le_mul hlen hby
    omega
  · intro v' w' ho' hg _ hat
    obtain ⟨g, cap, rfl⟩ : ∃ g cap, v' = .slice (some ⟨g, 0, none⟩) (l.length + 1) cap := by
      rcases ho'.2 with ⟨_, h0⟩ | ⟨g, cap, cur, hv, _⟩
      · omega
      · exact ⟨g, cap, hv⟩
    refine h g (l.length + 1) cap w' (by simp) ?_ (below_grownG hown hB hg) hg (by
      rcases hat with e | e
      · exact .inl e.symm
      · exact .inr (Option.some.inj e))
    unfold OwnG
    rw [List.flatMap_append, show [t].flatMap cs = cs t by simp, show (l ++ [t]).length = l.length + 1 by simp]
    exact ho'
end
end Go.Proofs.YtmgikfeknmbpbaaDoor
namespace Go.Proofs.YtmgikfeknmbpbaaDoor
open Go.RowKit M
set_option linter.unusedVariables false

/-- One, in three cells. -/
def CnAt (w : World) (b o : Nat) (c : Cn) : Prop := w.cell? ⟨b, o, none⟩ = some (.bool c.no) ∧ w.cell? ⟨b, o + 1, none⟩ = some (.int .i64 c.tk) ∧ w.cell? ⟨b, o + 2, none⟩ = some (.string c.tg)
def Cns (w : World) (B : Nat) (a : Option Addr) (cs : List Cn) : Prop := 0 < cs.length → ∃ b o, a = some ⟨b, o, none⟩ ∧ b < B ∧ ∀ j (hj : j < cs.length), CnAt w b (o + j * 3) cs[j]
structure CsIn (w : World) (B : Nat) (a : Option Addr) (cs : List Cn) (c : Nat) : Prop where
  ps : Cns w B a cs
  pl : cs.length ≤ c
  pm : c ≤ maxLen
  pn : a = none → c = 0
def Cnss (w : World) (B : Nat) (a : Option Addr) (ls : List (List Cn)) : Prop := 0 < ls.length → ∃ b o, a = some ⟨b, o, none⟩ ∧ b < B ∧ ∀ j (hj : j < ls.length), ∃ pa pc, w.cell? ⟨b, o + j, none⟩ = some (.slice pa ls[j].length pc) ∧ CsIn w B pa ls[j] pc

theorem CnAt.of {w w' : World} {b o : Nat} {c : Cn} (h : CnAt w b o c) (e : ∀ i, w'.cell? ⟨b, i, none⟩ = w.cell? ⟨b, i, none⟩) : CnAt w' b o c := ⟨(e _).trans h.1, (e _).trans h.2.1, (e _).trans h.2.2⟩
theorem Cns.below {w w' : World} {B C : Nat} {a : Option Addr} {cs : List Cn} (h : Cns w B a cs) (hb : Below C w w') (hB : B ≤ C) : Cns w' B a cs := fun h0 => by
  obtain ⟨b, o, e, hbB, hc⟩ := h h0
  exact ⟨b, o, e, hbB, fun j hj => (hc j hj).of (fun i => hb.cell (p := ⟨b, i, none⟩) (Nat.lt_of_lt_of_le hbB hB))⟩
theorem CsIn.below {w w' : World} {B C c : Nat} {a : Option Addr} {cs : List Cn} (h : CsIn w B a cs c) (hb : Below C w w') (hB : B ≤ C) : CsIn w' B a cs c := ⟨h.ps.below hb hB, h.pl, h.pm, h.pn⟩
theorem Cnss.below {w w' : World} {B C : Nat} {a : Option Addr} {ls : List (List Cn)} (h : Cnss w B a ls) (hb : Below C w w') (hB : B ≤ C) : Cnss w' B a ls := fun h0 => by
  obtain ⟨b, o, e, hbB, hc⟩ := h h0
  refine ⟨b, o, e, hbB, fun j hj => ?_⟩
  obtain ⟨pa, pc, h1, h2⟩ := hc j hj
  exact ⟨pa, pc, (hb.cell (p := ⟨b, _, none⟩) (Nat.lt_of_lt_of_le hbB hB)).trans h1, h2.below hb hB⟩

theorem cns_of_view {w : World} {B : Nat} {v : Value} {l : List Cn} (h : View w B v (.l (l.map dCn))) : ∃ a c, v = .slice a l.length c ∧ CsIn w B a l c := by
  obtain ⟨a, cap, h1, h2, h3, h4, h5⟩ := h.rows 3 (fun _ => rfl)
  refine ⟨a, cap, h1, fun h0 => ?_, h2, h3, h4⟩
  obtain ⟨b, o, C, e, hb, hc⟩ := h5 h0
  refine ⟨b, o, e, hb, fun j hj => ?_⟩
  obtain ⟨c0, v0⟩ := hc j hj 0 (.c (.bool l[j].no)) rfl
  obtain ⟨c1, v1⟩ := hc j hj 1 (.c (.int .i64 l[j].tk)) rfl
  obtain ⟨c2, v2⟩ := hc j hj 2 (.c (.string l[j].tg)) rfl
  rw [v0.inv] at c0
  rw [v1.inv] at c1
  rw [v2.inv] at c2
  exact ⟨c0, c1, c2⟩
theorem cnss_of_view {w : World} {B : Nat} {v : Value} {l : List (List Cn)} (h : View w B v (.l (l.map dCs))) : ∃ a c, v = .slice a l.length c ∧ l.length ≤ c ∧ c ≤ maxLen ∧ (a = none → c = 0) ∧ Cnss w B a l := by
  obtain ⟨a, cap, h1, h2, h3, h4, h5⟩ := h.rows 1 (fun _ => rfl)
  refine ⟨a, cap, h1, h2, h3, h4, fun h0 => ?_⟩
  obtain ⟨b, o, C, e, hb, hc⟩ := h5 h0
  refine ⟨b, o, e, hb, fun j hj => ?_⟩
  obtain ⟨c0, v0⟩ := hc j hj 0 (.l (l[j].map dCn)) rfl
  obtain ⟨pa, pc, e1, e2⟩ := cns_of_view v0
  rw [e1] at c0
  exact ⟨pa, pc, by simpa using c0, e2⟩

/-! Their sizes. -/
theorem sz_dCn (r : Cn) : szR (dCn r) = r.tg.size := by simp [dCn, szR, szF, szV]
theorem sz_dCs (l : List Cn) : szR (dCs l) = szRs (l.map dCn) := by simp [dCs, szR, szF]
theorem cn_small {l : List Cn} {N : Nat} (h : szRs (l.map dCn) ≤ N) : l.length ≤ N ∧ ∀ c ∈ l, c.tg.size ≤ N := by
  refine ⟨?_, fun c hc => ?_⟩
  · have := szRs_len (l.map dCn)
    rw [List.length_map] at this
    omega
  · have := szRs_mem _ _ (List.mem_map_of_mem (f := dCn) hc)
    rw [sz_dCn] at this
    omega
theorem cns_small {l : List (List Cn)} {N : Nat} (h : szRs (l.map dCs) ≤ N) : l.length ≤ N ∧ ∀ cs ∈ l, cs.length ≤ N ∧ ∀ c ∈ cs, c.tg.size ≤ N := by
  refine ⟨?_, fun cs hc => ?_⟩
  · have := szRs_len (l.map dCs)
    rw [List.length_map] at this
    omega
  · have := szRs_mem _ _ (List.mem_map_of_mem (f := dCs) hc)
    rw [sz_dCs] at this
    exact cn_small (by omega)
theorem flat_small {l : List (List Cn)} {N : Nat} (h : szRs (l.map dCs) ≤ N) : l.flatten.length ≤ N := by
  have key : ∀ l : List (List Cn), l.flatten.length ≤ szRs (l.map dCs) := fun l => by
    induction l with
    | nil => simp
    | cons x r ih =>
      rw [List.flatten_cons, List.length_append, List.map_cons, szRs_cons, sz_dCs]
      have := szRs_len (x.map dCn)
      rw [List.length_map] at this
      omega
  have := key l
  omega

/-! Rows that a call makes of them. -/
def ciC (c : Cn) : List Value := [.bool c.no, .int .i64 c.tk, .string c.tg]
theorem ciC_len : ∀ x, (ciC x).length = 3 := fun _ => rfl
theorem ciC_one (c : Cn) : ∀ v ∈ ciC c, v.oneCell' = true := fun v hv => by
  simp only [ciC, List.mem_cons, List.not_mem_nil, or_false] at hv
  rcases hv with rfl | rfl | rfl <;> rfl
/-- A slice as it lies in a cell. -/
structure Sl where
  b : Nat
  n : Nat
  c : Nat
def Sl.v (s : Sl) : Value := .slice (some ⟨s.b, 0, none⟩) s.n s.c
def ciS (s : Sl) : List Value := [s.v]
theorem ciS_len : ∀ x, (ciS x).length = 1 := fun _ => rfl
theorem ciS_one (s : Sl) : ∀ v ∈ ciS s, v.oneCell' = true := fun v hv => by
  simp only [ciS, List.mem_cons, List.not_mem_nil, or_false] at hv
  rcases hv with rfl
  rfl
theorem cond_cells {tE : TypeId} {w : World} {B g n c : Nat} {l : List Cn} (h : OwnG tE 3 ciC w B (.slice (some ⟨g, 0, none⟩) n c) l) : n = l.length ∧ n ≤ c ∧ c ≤ maxLen ∧ B ≤ g ∧ g < w.heap.size ∧ (∀ i, w.frozen? ⟨g, i, none⟩ = false) ∧ ∀ j (hj : j < l.length), CnAt w g (j * 3) l[j] := by
  obtain ⟨e1, e2, e3, e4, e5, e6, e7⟩ := h.row ciC_len
  exact ⟨e1, e2, e3, e4, e5, e6, fun j hj => ⟨e7 j hj 0 _ rfl, e7 j hj 1 _ rfl, e7 j hj 2 _ rfl⟩⟩
def cnVal (r : Cn) (i : Nat) : Value := (([.bool r.no, .int .i64 r.tk, .string r.tg] : List Value)[i]?).getD (.bool false)
theorem own_of_conds {tE : TypeId} {w : World} {B g n c : Nat} {l : List Cn} (h : OwnG tE 3 ciC w B (.slice (some ⟨g, 0, none⟩) n c) l) : Own w (.slice (some ⟨g, 0, none⟩) n c) (.l (l.map dCn)) (fun y => y = g) := by
  obtain ⟨e1, e2, e3, e4, e5, e6, e7⟩ := cond_cells h
  have e : n = (l.map dCn).length := by rw [List.length_map]; exact e1
  rw [e]
  refine .row g 0 c 3 _ (fun j i => match l[j]? with | some s => cnVal s i | none => .bool false) (fun _ _ _ => False) _ rfl e5 (by rw [← e]; exact e2) e3 (fun r hr => by obtain ⟨x, _, rfl⟩ := List.mem_map.1 hr; rfl) (fun j i x hx => ?_) (fun j i x hx => ?_) (fun j i y hy => hy.elim) (fun j i j' i' y _ hy => hy.elim)
  all_goals
    unfold cellAt at hx
    by_cases hj : j < l.length
    · rw [map_at dCn l j hj] at hx
      have hi : i < 3 := (List.getElem?_eq_some_iff.1 hx).1
      rw [List.getElem?_eq_getElem hj]
      obtain ⟨c0, c1, c2⟩ := e7 j hj
      match i, hi with
      | 0, _ => cases hx; first | exact .c _ _ | exact ⟨by rw [Nat.zero_add]; exact c0, e6 _⟩
      | 1, _ => cases hx; first | exact .c _ _ | exact ⟨by rw [Nat.zero_add]; exact c1, e6 _⟩
      | 2, _ => cases hx; first | exact .c _ _ | exact ⟨by rw [Nat.zero_add]; exact c2, e6 _⟩
    · rw [List.getElem?_eq_none (by simp; omega)] at hx; cases hx

/-- A row of lists that the call owns, each in blocks of its own; all of them and the row below H. -/
structure RowsO (tS : TypeId) (w : World) (B g n c H : Nat) (ss : List Sl) (ls : List (List Cn)) : Prop where
  own : OwnG tS 1 ciS w B (.slice (some ⟨g, 0, none⟩) n c) ss
  len : ss.length = ls.length
  top : H ≤ w.heap.size
  gH : g < H
  bl : ∃ lo hi : Nat → Nat, ∀ j (hj : j < ls.length) (hs : j < ss.length), Own w ss[j].v (.l (ls[j].map dCn)) (IvG (lo j) (hi j)) ∧ B ≤ lo j ∧ hi j ≤ H ∧ (g < lo j ∨ hi j ≤ g) ∧ ∀ i, i < j → hi i ≤ lo j
theorem RowsO.made (tS : TypeId) (w : World) (B : Nat) (hB : B ≤ w.heap.size) : RowsO tS (w.alloc (Obj.cells #[] tS)) B w.heap.size 0 0 (w.heap.size + 1) [] [] :=
  ⟨OwnG.made w B hB, rfl, by simp, Nat.lt_succ_self _, fun _ => 0, fun _ => 0, fun j hj => absurd hj (Nat.not_lt_zero _)⟩
theorem RowsO.next {tS : TypeId} {w w' : World} {B g n c H : Nat} {ss : List Sl} {ls : List (List Cn)} (h : RowsO tS w B g n c H ss ls) (hb : Below w.heap.size w w') : RowsO tS w' B g n c H ss ls := by
  obtain ⟨lo, hi, h5⟩ := h.bl
  exact ⟨h.own.next hb, h.len, Nat.le_trans h.top hb.size, h.gH, lo, hi, fun j hj hs => ⟨(h5 j hj hs).1.next hb, (h5 j hj hs).2⟩⟩
theorem RowsO.num {tS : TypeId} {w : World} {B g n c H : Nat} {ss : List Sl} {ls : List (List Cn)} (h : RowsO tS w B g n c H ss ls) : n = ls.length ∧ n ≤ c ∧ c ≤ maxLen ∧ B ≤ g := by
  have := h.own.row ciS_len
  exact ⟨this.1.trans h.len, this.2.1, this.2.2.1, this.2.2.2.1⟩
/-- One more list, made behind all that is there, is appended. -/
theorem RowsO.snoc {tS : TypeId} {w w' : World} {B g n c H g' n' c' : Nat} {ss : List Sl} {ls : List (List Cn)} {s : Sl} {cs : List Cn} (h : RowsO tS w B g n c H ss ls)
    (ho : OwnG tS 1 ciS w' B (.slice (some ⟨g', 0, none⟩) n' c') (ss ++ [s])) (hg : w.grownBy w' (some g)) (hat : g' = g ∨ g' = w.heap.size) (lo hi : Nat) (hs : Own w s.v (.l (cs.map dCn)) (IvG lo hi)) (hl : H ≤ lo) (hh : hi ≤ w.heap.size) :
    RowsO tS w' B g' n' c' w'.heap.size (ss ++ [s]) (ls ++ [cs]) := by
  obtain ⟨lo0, hi0, h5⟩ := h.bl
  have hgw : g < w.heap.size := Nat.lt_of_lt_of_le h.gH h.top
  have hr := ho.row ciS_len
  have hsz := hg.size
  have hgB := h.num.2.2.2
  have keep : ∀ v x S, Own w v x S → (∀ y, S y → y ≠ g) → Own w' v x S := fun v x S hv hne =>
    hv.keep hsz (fun b o hb hz => by
      have := hg.block b hz (fun e => hne b hb (Option.some.inj e))
      simp only [World.cell?, this]) (fun b o hb hz => by
      have := hg.block b hz (fun e => hne b hb (Option.some.inj e))
      simp only [World.frozen?, this])
  refine ⟨ho, by rw [List.length_append, List.length_append, h.len]; rfl, Nat.le_refl _, hr.2.2.2.2.1, fun j => if j < ls.length then lo0 j else lo, fun j => if j < ls.length then hi0 j else hi, fun j hj hj2 => ?_⟩
  by_cases e : j < ls.length
  · have e2 : j < ss.length := by rw [h.len]; exact e
    obtain ⟨q1, q2, q3, q4, q5⟩ := h5 j e e2
    simp only [e, if_true, List.getElem_append_left e, List.getElem_append_left e2]
    refine ⟨keep _ _ _ q1 (fun y hy e3 => by have := hy.1; have := hy.2; omega), q2, Nat.le_trans (Nat.le_trans q3 h.top) hsz, ?_, fun i hij => ?_⟩
    · rcases hat with rfl | rfl
      · exact q4
      · right; exact Nat.le_trans q3 h.top
    · rw [if_pos (by omega)]
      exact q5 i hij
  · have ej : j = ls.length := by rw [List.length_append] at hj; simp at hj; omega
    subst ej
    have e2 : ¬ ls.length < ss.length := by rw [h.len]; exact Nat.lt_irrefl _
    have g1 : (ss ++ [s])[ls.length]'hj2 = s := by
      have : ls.length = ss.length := h.len.symm
      simp [this]
    have g2 : (ls ++ [cs])[ls.length]'hj = cs := by simp
    simp only [Nat.lt_irrefl, if_false]
    rw [g1, g2]
    refine ⟨keep _ _ _ hs (fun y hy e3 => by have := hy.1; have := h.gH; omega), by have := h.gH; omega, Nat.le_trans hh hsz, ?_, fun i hij => ?_⟩
    · rcases hat with rfl | rfl
      · left; have := h.gH; omega
      · right; exact hh
    · rw [if_pos hij]
      obtain ⟨_, _, q3, _, _⟩ := h5 i hij (by rw [h.len]; exact hij)
      exact Nat.le_trans q3 hl
theorem RowsO.done {tS : TypeId} {w : World} {B g n c H : Nat} {ss : List Sl} {ls : List (List Cn)} (h : RowsO tS w B g n c H ss ls) : Own w (.slice (some ⟨g, 0, none⟩) n c) (.l (ls.map dCs)) (IvG B w.heap.size) := by
  obtain ⟨lo, hi, h5⟩ := h.bl
  obtain ⟨e1, e2, e3, e4, e5, e6, e7⟩ := h.own.row ciS_len
  have e : n = (ls.map dCs).length := by rw [List.length_map]; exact h.num.1
  have hgw := Nat.lt_of_lt_of_le h.gH h.top
  rw [e]
  refine .row g 0 c 1 _ (fun j i => match ss[j]? with | some s => s.v | none => .bool false) (fun j i y => j < ls.length ∧ i = 0 ∧ IvG (lo j) (hi j) y) _ ⟨e4, hgw⟩ hgw (by rw [← e]; exact e2) e3 (fun r hr => by obtain ⟨x, _, rfl⟩ := List.mem_map.1 hr; rfl) (fun j i x hx => ?_) (fun j i x hx => ?_) (fun j i y hy => ?_) (fun j i j' i' y hne hy hy' => ?_)
  · unfold cellAt at hx
    by_cases hj : j < ls.length
    · rw [map_at dCs ls j hj] at hx
      have hs : j < ss.length := by rw [h.len]; exact hj
      match i with
      | 0 =>
        rw [List.getElem?_eq_getElem hs]
        have := e7 j hs 0 _ rfl
        exact ⟨by simpa using this, e6 _⟩
      | i + 1 => cases hx
    · rw [List.getElem?_eq_none (by simp; omega)] at hx; cases hx
  · unfold cellAt at hx
    by_cases hj : j < ls.length
    · rw [map_at dCs ls j hj] at hx
      have hs : j < ss.length := by rw [h.len]; exact hj
      match i with
      | 0 =>
        rw [List.getElem?_eq_getElem hs]
        cases hx
        exact (h5 j hj hs).1.wide (fun y hy => ⟨hj, rfl, hy⟩)
      | i + 1 => cases hx
    · rw [List.getElem?_eq_none (by simp; omega)] at hx; cases hx
  · obtain ⟨hj, _, h1, h2⟩ := hy
    obtain ⟨_, q2, q3, q4, _⟩ := h5 j hj (by rw [h.len]; exact hj)
    have := h.top
    exact ⟨⟨by omega, by omega⟩, by omega⟩
  · obtain ⟨hj, i0, h1, h2⟩ := hy
    obtain ⟨hj', i0', h1', h2'⟩ := hy'
    rcases Nat.lt_trichotomy j j' with hh | hh | hh
    · have := (h5 j' hj' (by rw [h.len]; exact hj')).2.2.2.2 j hh
      omega
    · omega
    · have := (h5 j hj (by rw [h.len]; exact hj)).2.2.2.2 j' hh
      omega
end Go.Proofs.YtmgikfeknmbpbaaDoor
namespace Go.Proofs.YtmgikfeknmbpbaaDoor.M

/-- A small name: a small letter, then small letters, digits and hyphens, at most 20 in all. -/
def smB : List UInt8 → Bool
  | [] => false
  | c :: r => decide ((c :: r).length ≤ 20) && isB (c.toNat : Int) 2 && allB (c :: r) [2, 4, 7]

/-- What the specification asks of the byte at place i. -/
def okAt (i : Nat) (c : Int) : Bool := isB c 2 || (i != 0 && (isB c 4 || c == 45))

theorem anyB_3 (c : Int) : anyB c [2, 4, 7] = (isB c 2 || (isB c 4 || c == 45)) := by
  simp [anyB, isB]

theorem okAt_any {i : Nat} {c : Int} (h : okAt i c = true) : anyB c [2, 4, 7] = true := by
  rw [anyB_3]
  unfold okAt at h
  cases h1 : isB c 2 <;> simp_all

theorem ok1 {k : Nat} {c : Int} (h : isB c 2 = true) : okAt k c = true := by simp [okAt, h]
theorem no2 {k : Nat} {c : Int} (h : ¬ isB c 2 = true) (h1 : k = 0) : okAt k c = false := by simp [okAt, h1]; simpa using h
theorem ok3 {k : Nat} {c : Int} (h1 : ¬ k = 0) (h2 : isB c 4 = true) : okAt k c = true := by simp [okAt, h1, h2]
theorem no4 {k : Nat} {c : Int} (h : ¬ isB c 2 = true) (h1 : ¬ k = 0) (h2 : ¬ isB c 4 = true) (h3 : ((k : Int) == 0) = true ∨ (c != 45) = true) : okAt k c = false := by
  rcases h3 with h3 | h3
  · simp at h3; exact absurd h3 h1
  · simp at h h2 h3; simp [okAt, h, h2, h3]
theorem ok5 {k : Nat} {c : Int} (h1 : ¬ k = 0) (h3 : ((k : Int) == 0) = false ∧ (c != 45) = false) : okAt k c = true := by
  obtain ⟨_, h3⟩ := h3
  simp at h3
  simp [okAt, h1, h3]

theorem smB_notL (l : List UInt8) (k : Nat) (h' : k < l.length) (h1 : okAt k (l[k].toNat : Int) = false) : smB l = false := by
  match l, k, h', h1 with
  | c :: r, 0, h', h1 =>
    have h2 : okAt 0 (c.toNat : Int) = false := h1
    simp [okAt] at h2
    simp [smB, h2]
  | c :: r, k + 1, h', h1 =>
    simp only [List.getElem_cons_succ] at h1
    have h2 : anyB (r[k]'(by simpa using h')).toNat [2, 4, 7] = false := by
      rw [anyB_3]; simpa [okAt] using h1
    have h3 : allB (c :: r) [2, 4, 7] = false := by
      unfold allB
      rw [List.all_eq_false]
      exact ⟨_, List.mem_cons_of_mem _ (List.getElem_mem (by simpa using h')), by simp [h2]⟩
    simp [smB, h3]

theorem smB_not (s : ByteArray) (k : Nat) (h : k < s.size) (h1 : okAt k (s[k].toNat : Int) = false) : smB s.data.toList = false := by
  have e : s.data.toList.length = s.size := Array.length_toList
  exact smB_notL s.data.toList k (by omega) h1

theorem smB_allL (l : List UInt8) (h2 : ∀ i (hi : i < l.length), okAt i (l[i].toNat : Int) = true) : smB l = inB (l.length : Int) 1 20 := by
  match l, h2 with
  | [], _ => simp [smB, inB]
  | c :: r, h2 =>
    have h0 : okAt 0 (c.toNat : Int) = true := h2 0 (by simp)
    have h3 : isB (c.toNat : Int) 2 = true := by simpa [okAt] using h0
    have h4 : allB (c :: r) [2, 4, 7] = true := by
      unfold allB
      rw [List.all_eq_true]
      intro x hx
      obtain ⟨i, hi, rfl⟩ := List.mem_iff_getElem.1 hx
      exact okAt_any (h2 i hi)
    simp only [smB, h3, h4, inB]
    rw [Bool.and_true, Bool.and_true, Bool.eq_iff_iff]
    simp
    omega

theorem smB_all (s : ByteArray) (h : ∀ i (hi : i < s.size), okAt i (s[i].toNat : Int) = true) : smB s.data.toList = inB (s.size : Int) 1 20 := by
  have e : s.data.toList.length = s.size := Array.length_toList
  rw [← e]
  exact smB_allL s.data.toList fun i hi => h i (by omega)

theorem smB_implL (l : List UInt8) (h0 : 0 < l.length) (h1 : l.length ≤ 20) : smB l = (isB (l[0].toNat : Int) 2 && allB l [2, 4, 7]) := by
  match l, h0, h1 with
  | c :: r, h0, h1 =>
    have h1' : r.length + 1 ≤ 20 := by simpa using h1
    show smB (c :: r) = (isB (c.toNat : Int) 2 && allB (c :: r) [2, 4, 7])
    simp [smB, h1']

/-- The program's own way to it. -/
theorem smB_impl (s : ByteArray) (h0 : 0 < s.size) (h1 : s.size ≤ 20) : smB s.data.toList = (isB ((s[0]).toNat : Int) 2 && allB s.data.toList [2, 4, 7]) := by
  have e : s.data.toList.length = s.size := Array.length_toList
  exact smB_implL s.data.toList (by omega) (by omega)

theorem smB_longL (l : List UInt8) (h : l.length < 1 ∨ 20 < l.length) : smB l = false := by
  match l, h with
  | [], _ => rfl
  | c :: r, h =>
    have h' : ¬ r.length + 1 ≤ 20 := by simp at h; omega
    simp [smB, h']

theorem smB_long (s : ByteArray) (h : s.size < 1 ∨ 20 < s.size) : smB s.data.toList = false := by
  have e : s.data.toList.length = s.size := Array.length_toList
  exact smB_longL _ (by omega)

end Go.Proofs.YtmgikfeknmbpbaaDoor.M
namespace Go.Proofs.YtmgikfeknmbpbaaDoor.M

/-- A piece. -/
structure Pce where
  k : Int
  name : ByteArray
  ns : ByteArray
  has : Bool
  s : ByteArray
deriving DecidableEq

def noB : ByteArray := ⟨#[]⟩
def spcS : List UInt8 := [32, 120, 109, 108, 110, 115, 61, 34]

/-- What a piece's text is. -/
def spcT (p : Pce) : List UInt8 := if p.has then spcS ++ escL p.ns.data.toList ++ [34] else []
def markT (p : Pce) : List UInt8 :=
  if p.k = 1 then [60] ++ p.name.data.toList ++ spcT p ++ [62]
  else if p.k = 2 then [60, 47] ++ p.name.data.toList ++ [62]
  else if p.k = 3 then [60] ++ p.name.data.toList ++ spcT p ++ [47, 62]
  else escL p.s.data.toList

/-- A name ahead, and what is behind it. -/
def nameP (c : UInt8) : Bool := anyB (c.toNat : Int) [2, 4, 7]
def nmL (l : List UInt8) : List UInt8 := l.takeWhile nameP
def nmR (l : List UInt8) : List UInt8 := l.dropWhile nameP

def closeP (n : List UInt8) : Pce := ⟨2, bytesOf n, noB, false, noB⟩
def openP (k : Int) (n : List UInt8) (sp : Bool × List UInt8) : Pce := ⟨k, bytesOf n, bytesOf sp.2, sp.1, noB⟩
def textP (t : List UInt8) : Pce := ⟨4, noB, noB, false, bytesOf t⟩

def closeL (r : List UInt8) : Option (Pce × List UInt8) :=
  if smB (nmL r) && [62].isPrefixOf (nmR r) then some (closeP (nmL r), (nmR r).drop 1) else none
def spcL (r : List UInt8) : Option ((Bool × List UInt8) × List UInt8) :=
  if spcS.isPrefixOf r then
    (if fromB 34 (r.drop 8) = [] then none else
     match unesc (upTo 34 (r.drop 8)) with
     | some ns => if ns.length ≤ 20 then some ((true, ns), (fromB 34 (r.drop 8)).tail) else none
     | none => none)
  else some ((false, []), r)
def endM (n : List UInt8) (sp : Bool × List UInt8) (q : List UInt8) : Option (Pce × List UInt8) :=
  if [47, 62].isPrefixOf q then some (openP 3 n sp, q.drop 2) else if [62].isPrefixOf q then some (openP 1 n sp, q.drop 1) else none
def openL (r : List UInt8) : Option (Pce × List UInt8) :=
  if smB (nmL r) then
    (match spcL (nmR r) with
     | some x => endM (nmL r) x.1 x.2
     | none => none)
  else none
def textL7 (l : List UInt8) : Option (Pce × List UInt8) :=
  match unesc (upTo 60 l) with
  | some t => some (textP t, fromB 60 l)
  | none => none
def markL (l : List UInt8) : Option (Pce × List UInt8) :=
  if [60, 47].isPrefixOf l then closeL (l.drop 2) else if [60].isPrefixOf l then openL (l.drop 1) else textL7 l

theorem nmR_le (l : List UInt8) : (nmR l).length ≤ l.length := by
  induction l with
  | nil => simp [nmR]
  | cons b l ih =>
    simp only [nmR, List.dropWhile_cons] at *
    split
    · simp; omega
    · simp
theorem nm_from (l : List UInt8) : nmL l ++ nmR l = l := List.takeWhile_append_dropWhile
theorem nmL_le (l : List UInt8) : (nmL l).length ≤ l.length := by
  have := congrArg List.length (nm_from l)
  rw [List.length_append] at this
  omega

theorem closeL_le {r q : List UInt8} {p : Pce} (h : closeL r = some (p, q)) : q.length ≤ r.length := by
  unfold closeL at h
  split at h
  · obtain ⟨_, rfl⟩ := Prod.mk.inj (Option.some.inj h)
    have := nmR_le r
    simp; omega
  · cases h
theorem spcL_le {r q : List UInt8} {sp : Bool × List UInt8} (h : spcL r = some (sp, q)) : q.length ≤ r.length ∧ sp.2.length ≤ 20 := by
  unfold spcL at h
  split at h
  · split at h
    · cases h
    · split at h
      · split at h
        · obtain ⟨rfl, rfl⟩ := Prod.mk.inj (Option.some.inj h)
          have := fromB_le 34 (r.drop 8)
          simp at this ⊢
          refine ⟨by omega, by assumption⟩
        · cases h
      · cases h
  · obtain ⟨rfl, rfl⟩ := Prod.mk.inj (Option.some.inj h)
    exact ⟨Nat.le_refl _, Nat.zero_le _⟩
theorem endM_le {n r q : List UInt8} {sp : Bool × List UInt8} {p : Pce} (h : endM n sp r = some (p, q)) : q.length ≤ r.length := by
  unfold endM at h
  split at h
  · obtain ⟨_, rfl⟩ := Prod.mk.inj (Option.some.inj h); simp
  split at h
  · obtain ⟨_, rfl⟩ := Prod.mk.inj (Option.some.inj h); simp
  · cases h
theorem openL_le {r q : List UInt8} {p : Pce} (h : openL r = some (p, q)) : q.length ≤ r.length := by
  unfold openL at h
  split at h
  · split at h
    · rename_i x hx
      have h1 := endM_le h
      have h2 := (spcL_le (sp := x.1) (q := x.2) hx).1
      have h3 := nmR_le r
      omega
    · cases h
  · cases h

theorem pre60 (l : List UInt8) : [60].isPrefixOf l = decide (l.head? = some 60) := by
  cases l with
  | nil => rfl
  | cons c r =>
    simp [List.isPrefixOf]
    rw [Bool.beq_eq_decide_eq]
    by_cases h : c = 60
    · simp [h]
    · simp [h, Ne.symm h]

theorem markL_lt {l q : List UInt8} {p : Pce} (hl : l ≠ []) (h : markL l = some (p, q)) : q.length < l.length := by
  have h0 : 0 < l.length := List.length_pos_iff.2 hl
  unfold markL at h
  split at h
  · have := closeL_le h
    simp at this; omega
  split at h
  · have := openL_le h
    simp at this; omega
  · rename_i h60
    unfold textL7 at h
    split at h
    · obtain ⟨_, rfl⟩ := Prod.mk.inj (Option.some.inj h)
      match l, hl, h60 with
      | c :: r, _, h60 =>
        have hc : c ≠ 60 := fun e => h60 (by rw [pre60]; simp [e])
        rw [fromB_cons_ne r hc]
        have := fromB_le 60 r
        simp; omega
    · cases h

set_option linter.unusedVariables false in
/-- All pieces. -/
def pcsL (l : List UInt8) : Option (List Pce) :=
  if hl : l = [] then some [] else
  match h : markL l with
  | some x => (pcsL x.2).map (x.1 :: ·)
  | none => none
termination_by l.length
decreasing_by exact markL_lt hl h

theorem pcsL_nil : pcsL [] = some [] := by rw [pcsL]; simp
theorem pcsL_none {l : List UInt8} (hl : l ≠ []) (h : markL l = none) : pcsL l = none := by
  rw [pcsL]; simp only [hl, dif_neg, not_false_eq_true]; split <;> simp_all
theorem pcsL_some {l q : List UInt8} {p : Pce} (hl : l ≠ []) (h : markL l = some (p, q)) : pcsL l = (pcsL q).map (p :: ·) := by
  rw [pcsL]; simp only [hl, dif_neg, not_false_eq_true]; split <;> simp_all

/-- What Pieces answers. -/
def pcsR (l : List UInt8) : List Pce × Bool :=
  if allB l [0] then (match pcsL l with | some ps => if ps.length ≤ 60 then (ps, true) else ([], false) | none => ([], false)) else ([], false)

/-- What is read so far, and what is left. -/
def PcAt (l rest : List UInt8) (acc : List Pce) : Prop := rest.length ≤ l.length ∧ acc.length ≤ 60 ∧ pcsL l = (pcsL rest).map (acc ++ ·)

theorem PcAt.start (l : List UInt8) : PcAt l l [] := ⟨Nat.le_refl _, Nat.zero_le _, by simp⟩
theorem PcAt.step {l rest q : List UInt8} {acc : List Pce} {p : Pce} (h : PcAt l rest acc) (hr : rest ≠ []) (hm : markL rest = some (p, q)) (h60 : acc.length < 60) : PcAt l q (acc ++ [p]) := by
  obtain ⟨a, b, c⟩ := h
  have := markL_lt hr hm
  refine ⟨by omega, by simp; omega, ?_⟩
  rw [c, pcsL_some hr hm, Option.map_map]
  congr 1
  funext x
  simp [Function.comp]
theorem PcAt.bad {l rest : List UInt8} {acc : List Pce} (h : PcAt l rest acc) (hr : rest ≠ []) (hm : markL rest = none) : pcsR l = ([], false) := by
  unfold pcsR
  rw [h.2.2, pcsL_none hr hm]
  simp
theorem PcAt.many {l rest : List UInt8} {acc : List Pce} (h : PcAt l rest acc) (hr : rest ≠ []) (h60 : acc.length = 60) : pcsR l = ([], false) := by
  unfold pcsR
  rw [h.2.2]
  cases hm : markL rest with
  | none => rw [pcsL_none hr hm]; simp
  | some x =>
    rw [pcsL_some (p := x.1) (q := x.2) hr hm]
    cases hq : pcsL x.2 with
    | none => simp
    | some ps => simp; omega
theorem PcAt.done {l : List UInt8} {acc : List Pce} (h : PcAt l [] acc) (hp : allB l [0] = true) : pcsR l = (acc, true) := by
  unfold pcsR
  rw [h.2.2, pcsL_nil, if_pos hp]
  simp [h.2.1]
theorem pcsR_not {l : List UInt8} (hp : allB l [0] = false) : pcsR l = ([], false) := by
  unfold pcsR; rw [if_neg (by simp [hp])]

/-- How great what is read is. -/
def pcSize (p : Pce) : Nat := p.name.size + p.ns.size + p.s.size
theorem smB_le {l : List UInt8} (h : smB l = true) : l.length ≤ 20 := by
  match l, h with
  | c :: r, h => simp [smB] at h; simpa using h.1.1
theorem pc_name (p : Pce) : p.name.size ≤ pcSize p ∧ p.ns.size ≤ pcSize p ∧ p.s.size ≤ pcSize p := by unfold pcSize; omega
theorem markL_size {l q : List UInt8} {p : Pce} (h : markL l = some (p, q)) : pcSize p ≤ 40 + l.length := by
  have key : ∀ {r n : List UInt8} {k : Int} {sp : Bool × List UInt8}, smB n = true → sp.2.length ≤ 20 → pcSize (openP k n sp) ≤ 40 := by
    intro r n k sp hn hs
    have := smB_le hn
    simp only [pcSize, openP, bytesOf_size, noB]
    show n.length + sp.2.length + 0 ≤ 40
    omega
  unfold markL at h
  split at h
  · unfold closeL at h
    split at h
    · rename_i hh
      rw [Bool.and_eq_true] at hh
      obtain ⟨rfl, _⟩ := Prod.mk.inj (Option.some.inj h)
      have := smB_le hh.1
      simp only [pcSize, closeP, bytesOf_size, noB]
      show (nmL (l.drop 2)).length + 0 + 0 ≤ _
      omega
    · cases h
  split at h
  · unfold openL at h
    split at h
    · rename_i hn
      split at h
      · rename_i x hx
        have hs := (spcL_le (sp := x.1) (q := x.2) hx).2
        unfold endM at h
        split at h
        · obtain ⟨rfl, _⟩ := Prod.mk.inj (Option.some.inj h)
          have := key (r := []) (k := 3) hn hs; omega
        split at h
        · obtain ⟨rfl, _⟩ := Prod.mk.inj (Option.some.inj h)
          have := key (r := []) (k := 1) hn hs; omega
        · cases h
      · cases h
    · cases h
  · unfold textL7 at h
    split at h
    · rename_i t ht
      obtain ⟨rfl, _⟩ := Prod.mk.inj (Option.some.inj h)
      have h1 := unesc_le _ _ ht
      have h2 := congrArg List.length (upTo_from 60 l)
      rw [List.length_append] at h2
      simp only [pcSize, textP, bytesOf_size, noB]
      show 0 + 0 + t.length ≤ _
      omega
    · cases h
end Go.Proofs.YtmgikfeknmbpbaaDoor.M
namespace Go.Proofs.YtmgikfeknmbpbaaDoor.M

/-- The first byte of a text, and what stands behind it. -/
def stepL : List UInt8 → Option (UInt8 × List UInt8)
  | [] => none
  | c :: r => if c = 60 then none else if c = 38 then
      (if fromB 59 r = [] then none else (match entL (upTo 59 r) with | some b => some (b, (fromB 59 r).tail) | none => none))
    else some (c, r)

theorem stepL_open (r : List UInt8) : stepL (60 :: r) = none := by simp [stepL]
theorem stepL_plain {c : UInt8} (r : List UInt8) (h : c ≠ 60) (h2 : c ≠ 38) : stepL (c :: r) = some (c, r) := by simp [stepL, h, h2]
theorem stepL_short (r : List UInt8) (h : fromB 59 r = []) : stepL (38 :: r) = none := by simp [stepL, h]
theorem stepL_bad (r : List UInt8) (h : entL (upTo 59 r) = none) : stepL (38 :: r) = none := by simp [stepL, h]
theorem stepL_ent (r : List UInt8) (b : UInt8) (h : fromB 59 r ≠ []) (hb : entL (upTo 59 r) = some b) : stepL (38 :: r) = some (b, (fromB 59 r).tail) := by simp [stepL, h, hb]

theorem unesc_none {l : List UInt8} (hl : l ≠ []) (h : stepL l = none) : unesc l = none := by
  match l, hl with
  | c :: r, _ =>
    by_cases h60 : c = 60
    · subst h60; exact unesc_open r
    by_cases h38 : c = 38
    · subst h38
      by_cases hf : fromB 59 r = []
      · exact unesc_short r hf
      · cases he : entL (upTo 59 r) with
        | none => exact unesc_bad r he
        | some b => rw [stepL_ent r b hf he] at h; cases h
    · rw [stepL_plain r h60 h38] at h; cases h
theorem unesc_some {l q : List UInt8} {b : UInt8} (h : stepL l = some (b, q)) : unesc l = (unesc q).map (b :: ·) ∧ q.length < l.length := by
  match l, h with
  | c :: r, h =>
    by_cases h60 : c = 60
    · subst h60; rw [stepL_open] at h; cases h
    by_cases h38 : c = 38
    · subst h38
      cases hf : fromB 59 r with
      | nil => rw [stepL_short r hf] at h; cases h
      | cons x t =>
        cases he : entL (upTo 59 r) with
        | none => rw [stepL_bad r he] at h; cases h
        | some b' =>
          rw [stepL_ent r b' (by rw [hf]; simp) he, hf] at h
          obtain ⟨rfl, rfl⟩ := Prod.mk.inj (Option.some.inj h)
          have := fromB_le 59 r
          rw [hf] at this
          exact ⟨unesc_ent r _ x _ hf he, by simp at this ⊢; omega⟩
    · rw [stepL_plain r h60 h38] at h
      obtain ⟨rfl, rfl⟩ := Prod.mk.inj (Option.some.inj h)
      exact ⟨unesc_plain _ h60 h38, by simp⟩

theorem UeAt.step {l rest q acc : List UInt8} {b : UInt8} (h : UeAt l rest acc) (hs : stepL rest = some (b, q)) : UeAt l q (acc ++ [b]) := by
  obtain ⟨a, e⟩ := h
  obtain ⟨e1, e2⟩ := unesc_some hs
  refine ⟨by simp; omega, ?_⟩
  rw [e, e1, Option.map_map]
  congr 1
  funext x
  simp [Function.comp]
theorem UeAt.bad {l rest acc : List UInt8} (h : UeAt l rest acc) (hr : rest ≠ []) (hs : stepL rest = none) : unescR l = ([], false) := h.no (unesc_none hr hs)

/-- Up to the first such byte, by places. -/
theorem upTo_ne {c : UInt8} {l : List UInt8} : ∀ x ∈ upTo c l, x ≠ c := by
  induction l with
  | nil => intro x hx; simp [upTo] at hx
  | cons b l ih =>
    intro x hx
    by_cases h : b = c
    · subst h; rw [upTo_cons_eq] at hx; cases hx
    · rw [upTo_cons_ne l h] at hx
      rcases List.mem_cons.1 hx with rfl | hx
      · exact h
      · exact ih x hx
theorem upTo_end (c : UInt8) (l : List UInt8) : (upTo c l).length ≤ l.length ∧ ((upTo c l).length = l.length ↔ fromB c l = []) := by
  have e := congrArg List.length (upTo_from c l)
  rw [List.length_append] at e
  refine ⟨by omega, ?_⟩
  constructor
  · intro h; exact List.length_eq_zero_iff.1 (by omega)
  · intro h; rw [h] at e; simp at e; exact e
theorem upTo_get (c : UInt8) (l : List UInt8) (j : Nat) (hj : j < l.length) (hle : j ≤ (upTo c l).length) : l[j] = c ↔ j = (upTo c l).length := by
  have e := upTo_from c l
  constructor
  · intro h
    apply Classical.byContradiction
    intro hn
    have hj' : j < (upTo c l).length := by omega
    have h2 : l[j] = (upTo c l)[j] := by
      have : (upTo c l ++ fromB c l)[j]'(by rw [e]; exact hj) = (upTo c l)[j] := List.getElem_append_left hj'
      rw [← this]; congr 1; exact e.symm
    exact upTo_ne _ (List.getElem_mem hj') (h2.symm.trans h)
  · intro h
    cases hf : fromB c l with
    | nil =>
      have := (upTo_end c l).2.2 hf
      omega
    | cons x q =>
      have hx := fromB_head hf
      have : (upTo c l ++ fromB c l)[j]'(by rw [e]; exact hj) = x := by
        rw [List.getElem_append_right (by omega)]
        simp [h, hf]
      rw [← hx, ← this]; congr 1; exact e.symm
theorem upTo_at (s : ByteArray) (c : UInt8) (a k : Nat) (ha : a ≤ k) (hk : k < s.size) (hle : k ≤ a + (upTo c (s.data.toList.drop a)).length) : s[k] = c ↔ k = a + (upTo c (s.data.toList.drop a)).length := by
  have el : s.data.toList.length = s.size := Array.length_toList
  have h := upTo_get c (s.data.toList.drop a) (k - a) (by rw [List.length_drop]; omega) (by omega)
  have h2 : (s.data.toList.drop a)[k - a]'(by rw [List.length_drop]; omega) = s[k] := by
    rw [List.getElem_drop]
    have : a + (k - a) = k := by omega
    simp only [this]
    rfl
  rw [h2] at h
  rw [h]
  omega
theorem upTo_len (s : ByteArray) (c : UInt8) (a : Nat) (ha : a ≤ s.size) : a + (upTo c (s.data.toList.drop a)).length ≤ s.size ∧ (a + (upTo c (s.data.toList.drop a)).length = s.size ↔ fromB c (s.data.toList.drop a) = []) := by
  have el : s.data.toList.length = s.size := Array.length_toList
  obtain ⟨h1, h2⟩ := upTo_end c (s.data.toList.drop a)
  rw [List.length_drop] at h1 h2
  refine ⟨by omega, ?_⟩
  rw [← h2]
  omega
theorem extract_list (s : ByteArray) (a b : Nat) : (s.extract a b).data.toList = (s.data.toList.drop a).take (b - a) := by
  have h1 : (s.extract a b).data = s.data.extract a b := by simp
  rw [h1, Array.toList_extract]
theorem extract_upTo (s : ByteArray) (c : UInt8) (a : Nat) : (s.extract a (a + (upTo c (s.data.toList.drop a)).length)).data.toList = upTo c (s.data.toList.drop a) := by
  rw [extract_list, show a + (upTo c (s.data.toList.drop a)).length - a = (upTo c (s.data.toList.drop a)).length by omega]
  have e := upTo_from c (s.data.toList.drop a)
  generalize upTo c (s.data.toList.drop a) = p at e ⊢
  rw [← e]
  simp
theorem drop_upTo (s : ByteArray) (c : UInt8) (a : Nat) : s.data.toList.drop (a + (upTo c (s.data.toList.drop a)).length + 1) = (fromB c (s.data.toList.drop a)).tail := by
  have e := upTo_from c (s.data.toList.drop a)
  rw [Nat.add_assoc, ← List.drop_drop]
  generalize upTo c (s.data.toList.drop a) = p at e ⊢
  generalize fromB c (s.data.toList.drop a) = q at e ⊢
  rw [← e]
  simp
theorem extract_rest (s : ByteArray) (a : Nat) : (s.extract a s.size).data.toList = s.data.toList.drop a := by
  have el : s.data.toList.length = s.size := Array.length_toList
  rw [extract_list, List.take_of_length_le (by rw [List.length_drop]; omega)]
theorem drop_cons (s : ByteArray) (k : Nat) (h : k < s.size) : s.data.toList.drop k = s[k] :: s.data.toList.drop (k + 1) := by
  have e : s.data.toList.length = s.size := Array.length_toList
  rw [List.drop_eq_getElem_cons (by omega)]
  rfl
theorem drop_none (s : ByteArray) (k : Nat) (h : ¬ k < s.size) : s.data.toList.drop k = [] := by
  have e : s.data.toList.length = s.size := Array.length_toList
  exact List.drop_of_length_le (by omega)

/-- The names that stand for bytes. -/
theorem ent_amp : entL [97, 109, 112] = some 38 := by simp [entL]
theorem ent_lt : entL [108, 116] = some 60 := by simp [entL]
theorem ent_gt : entL [103, 116] = some 62 := by simp [entL]
theorem ent_quot : entL [113, 117, 111, 116] = some 34 := by simp [entL]
theorem ent_apos : entL [97, 112, 111, 115] = some 39 := by simp [entL]
def entFree (l : List UInt8) : Prop := l ≠ [97, 109, 112] ∧ l ≠ [108, 116] ∧ l ≠ [103, 116] ∧ l ≠ [113, 117, 111, 116] ∧ l ≠ [97, 112, 111, 115]
theorem ent_num {l : List UInt8} (h : entFree l) (h35 : l.head? = some 35) : entL l = if (parseNum l.tail 126).2 && decide (32 ≤ (parseNum l.tail 126).1) then some (UInt8.ofNat (decVal l.tail)) else none := by
  obtain ⟨h1, h2, h3, h4, h5⟩ := h
  unfold entL
  rw [if_neg h1, if_neg h2, if_neg h3, if_neg h4, if_neg h5, if_pos h35]
theorem ent_not {l : List UInt8} (h : entFree l) (h35 : l.head? ≠ some 35) : entL l = none := by
  obtain ⟨h1, h2, h3, h4, h5⟩ := h
  unfold entL
  rw [if_neg h1, if_neg h2, if_neg h3, if_neg h4, if_neg h5, if_neg h35]
end Go.Proofs.YtmgikfeknmbpbaaDoor.M
namespace Go.Proofs.YtmgikfeknmbpbaaDoor.M

theorem nmL_all (l : List UInt8) : ∀ x ∈ nmL l, nameP x = true := by
  induction l with
  | nil => intro x hx; simp [nmL] at hx
  | cons b l ih =>
    intro x hx
    cases h : nameP b
    · simp [nmL, h] at hx
    · have e : nmL (b :: l) = b :: nmL l := by simp [nmL, h]
      rw [e] at hx
      rcases List.mem_cons.1 hx with rfl | hx
      · exact h
      · exact ih x hx
theorem nmR_head {l q : List UInt8} {c : UInt8} (h : nmR l = c :: q) : nameP c = false := by
  induction l with
  | nil => simp [nmR] at h
  | cons b l ih =>
    cases hb : nameP b
    · have e : nmR (b :: l) = b :: l := by simp [nmR, hb]
      rw [e] at h
      rw [← (List.cons.inj h).1]; exact hb
    · have e : nmR (b :: l) = nmR l := by simp [nmR, hb]
      rw [e] at h
      exact ih h
theorem nm_len (l : List UInt8) : (nmL l).length + (nmR l).length = l.length := by
  have := congrArg List.length (nm_from l)
  rwa [List.length_append] at this
theorem nm_get (l : List UInt8) (j : Nat) (hj : j < l.length) (hle : j ≤ (nmL l).length) : nameP l[j] = decide (j < (nmL l).length) := by
  have e := nm_from l
  by_cases h : j < (nmL l).length
  · rw [decide_eq_true h]
    have h2 : l[j] = (nmL l)[j] := by
      have : (nmL l ++ nmR l)[j]'(by rw [e]; exact hj) = (nmL l)[j] := List.getElem_append_left h
      rw [← this]; congr 1; exact e.symm
    rw [h2]
    exact nmL_all l _ (List.getElem_mem h)
  · rw [decide_eq_false h]
    cases hf : nmR l with
    | nil =>
      have := nm_len l
      rw [hf] at this
      simp at this
      omega
    | cons x q =>
      have : (nmL l ++ nmR l)[j]'(by rw [e]; exact hj) = x := by
        rw [List.getElem_append_right (by omega)]
        have hj0 : j - (nmL l).length = 0 := by omega
        simp [hj0, hf]
      have h2 : l[j] = x := by rw [← this]; congr 1; exact e.symm
      rw [h2]
      exact nmR_head hf
theorem nm_at (s : ByteArray) (a k : Nat) (ha : a ≤ k) (hk : k < s.size) (hle : k ≤ a + (nmL (s.data.toList.drop a)).length) : nameP s[k] = decide (k < a + (nmL (s.data.toList.drop a)).length) := by
  have el : s.data.toList.length = s.size := Array.length_toList
  have h := nm_get (s.data.toList.drop a) (k - a) (by rw [List.length_drop]; omega) (by omega)
  have h2 : (s.data.toList.drop a)[k - a]'(by rw [List.length_drop]; omega) = s[k] := by
    rw [List.getElem_drop]
    have : a + (k - a) = k := by omega
    simp only [this]
    rfl
  rw [h2] at h
  rw [h, Bool.eq_iff_iff]
  simp
  omega
theorem nm_take (s : ByteArray) (a : Nat) : (s.extract a (a + (nmL (s.data.toList.drop a)).length)).data.toList = nmL (s.data.toList.drop a) := by
  rw [extract_list, show a + (nmL (s.data.toList.drop a)).length - a = (nmL (s.data.toList.drop a)).length by omega]
  have e := nm_from (s.data.toList.drop a)
  generalize nmL (s.data.toList.drop a) = p at e ⊢
  rw [← e]
  simp
theorem nm_drop (s : ByteArray) (a : Nat) : s.data.toList.drop (a + (nmL (s.data.toList.drop a)).length) = nmR (s.data.toList.drop a) := by
  have e := nm_from (s.data.toList.drop a)
  rw [← List.drop_drop]
  generalize nmL (s.data.toList.drop a) = p at e ⊢
  generalize nmR (s.data.toList.drop a) = q at e ⊢
  rw [← e]
  simp
theorem nm_size (s : ByteArray) (a : Nat) (ha : a ≤ s.size) : a + (nmL (s.data.toList.drop a)).length ≤ s.size := by
  have el : s.data.toList.length = s.size := Array.length_toList
  have h := nm_len (s.data.toList.drop a)
  rw [List.length_drop] at h
  omega

/-- Pieces as they are read. -/
def CanonP (p : Pce) : Prop :=
  ((p.k = 1 ∨ p.k = 3) ∧ p.s = noB) ∨ (p.k = 2 ∧ p.ns = noB ∧ p.has = false ∧ p.s = noB) ∨ (p.k = 4 ∧ p.name = noB ∧ p.ns = noB ∧ p.has = false)
theorem markL_canon {l q : List UInt8} {p : Pce} (h : markL l = some (p, q)) : CanonP p := by
  unfold markL at h
  split at h
  · unfold closeL at h
    split at h
    · obtain ⟨rfl, _⟩ := Prod.mk.inj (Option.some.inj h)
      exact .inr (.inl ⟨rfl, rfl, rfl, rfl⟩)
    · cases h
  split at h
  · unfold openL at h
    split at h
    · split at h
      · unfold endM at h
        split at h
        · obtain ⟨rfl, _⟩ := Prod.mk.inj (Option.some.inj h)
          exact .inl ⟨.inr rfl, rfl⟩
        split at h
        · obtain ⟨rfl, _⟩ := Prod.mk.inj (Option.some.inj h)
          exact .inl ⟨.inl rfl, rfl⟩
        · cases h
      · cases h
    · cases h
  · unfold textL7 at h
    split at h
    · obtain ⟨rfl, _⟩ := Prod.mk.inj (Option.some.inj h)
      exact .inr (.inr ⟨rfl, rfl, rfl, rfl⟩)
    · cases h
end Go.Proofs.YtmgikfeknmbpbaaDoor.M
namespace Go.Proofs.YtmgikfeknmbpbaaDoor.M

theorem is_u8 (c d : UInt8) (z : Int) (hz : z = (d.toNat : Int)) : ((c.toNat : Int) == z) = decide (c = d) := by
  subst hz
  by_cases h : c = d
  · subst h; simp
  · rw [decide_eq_false h, beq_eq_false_iff_ne]
    exact fun e => h (UInt8.toNat_inj.1 (by omega))
theorem isn_u8 (c d : UInt8) (z : Int) (hz : z = (d.toNat : Int)) : ((c.toNat : Int) != z) = !decide (c = d) := by
  show (!((c.toNat : Int) == z)) = _
  rw [is_u8 c d z hz]


theorem eq_bytes (s : ByteArray) (l : List UInt8) : decide (s = ⟨l.toArray⟩) = decide (s.data.toList = l) := by
  by_cases h : s.data.toList = l
  · rw [decide_eq_true h, decide_eq_true]
    apply ByteArray.ext
    rw [← h]
  · rw [decide_eq_false h, decide_eq_false]
    intro e; exact h (by rw [e])
end Go.Proofs.YtmgikfeknmbpbaaDoor.M
namespace Go.Proofs.YtmgikfeknmbpbaaDoor

theorem ret_bool {a b : Bool} (h : a = b) : Ending.returned (.bool a) = .returned (.bool b) := by rw [h]
end Go.Proofs.YtmgikfeknmbpbaaDoor
namespace Go.Proofs.YtmgikfeknmbpbaaDoor
open Go.RowKit M

set_option maxHeartbeats 400000 in
theorem l1In_any (x a b : Int) (w : World) :
    Calls Tryd.prog 60 #[.int .i64 x, .int .i64 a, .int .i64 b] w fun e w' => e = .returned (.bool (inB x a b)) ∧ w' = w := by
  go_enter Tryd.func60, Tryd.ntmps60
  go_wp2
  all_goals
    go_ret
    refine ⟨ret_bool ?_, rfl⟩
    go_light
    unfold inB
    simp_all
    try omega

theorem wrap64_u8 (c : UInt8) : wrap64 (c.toNat : Int) = c.toNat := by
  have := c.toNat_lt
  unfold wrap64
  omega
end Go.Proofs.YtmgikfeknmbpbaaDoor
namespace Go.Proofs.YtmgikfeknmbpbaaDoor
open Go.RowKit M
set_option linter.unusedVariables false

theorem eqL3 (s : ByteArray) (l : List UInt8) : (s.toList == l) = decide (s.data.toList = l) := by
  rw [ByteArray.toList_eq, Bool.eq_iff_iff]; simp
theorem isPre_take (p l : List UInt8) : p.isPrefixOf l = decide (l.take p.length = p) := by
  rw [Bool.eq_iff_iff]
  simp only [List.isPrefixOf_iff_prefix, decide_eq_true_eq]
  constructor
  · rintro ⟨t, rfl⟩; simp
  · intro h
    refine ⟨l.drop p.length, ?_⟩
    have h2 := List.take_append_drop p.length l
    rw [h] at h2
    exact h2

set_option maxHeartbeats 1000000 in
theorem l7At_no (s t : ByteArray) (a : Nat) (w : World) (ha : a ≤ s.size) (hs : s.size ≤ 1099511627776) (ht : t.size ≤ 100) (h : ¬ a + t.size ≤ s.size) :
    Calls Tryd.prog 29 #[.string s, .int .i64 a, .string t] w fun e w' => e = .returned (.bool false) ∧ w' = w := by
  have h' : ¬ (a : Int) + t.size ≤ s.size := by omega
  go_enter Tryd.func29, Tryd.ntmps29
  go_wp2
  go_ret
  exact ⟨rfl, rfl⟩
set_option maxHeartbeats 1000000 in
theorem l7At_yes (s t : ByteArray) (a : Nat) (w : World) (ha : a ≤ s.size) (hs : s.size ≤ 1099511627776) (ht : t.size ≤ 100) (h : a + t.size ≤ s.size) :
    Calls Tryd.prog 29 #[.string s, .int .i64 a, .string t] w fun e w' => e = .returned (.bool (t.data.toList.isPrefixOf (s.data.toList.drop a))) ∧ w' = w := by
  have h' : (a : Int) + t.size ≤ s.size := by omega
  go_enter Tryd.func29, Tryd.ntmps29
  go_wp2
  go_ret
  refine ⟨ret_bool ?_, rfl⟩
  have e : t.data.toList.length = t.size := Array.length_toList
  rw [eqL3, isPre_take, extract_list, ByteArray.toList_eq, e, show a + t.size - a = t.size by omega]

theorem l7At_any (s t : ByteArray) (p : List UInt8) (hp : t.data.toList = p) (a : Nat) (w : World) (ha : a ≤ s.size) (hs : s.size ≤ 1099511627776) (ht : t.size ≤ 100) :
    Calls Tryd.prog 29 #[.string s, .int .i64 a, .string t] w fun e w' => e = .returned (.bool (p.isPrefixOf (s.data.toList.drop a))) ∧ w' = w := by
  subst hp
  by_cases h : a + t.size ≤ s.size
  · exact l7At_yes s t a w ha hs ht h
  · have e1 : t.data.toList.length = t.size := Array.length_toList
    have e2 : s.data.toList.length = s.size := Array.length_toList
    have : t.data.toList.isPrefixOf (s.data.toList.drop a) = false := by
      rw [isPre_take, decide_eq_false]
      intro e
      have := congrArg List.length e
      rw [List.length_take, List.length_drop] at this
      omega
    rw [this]
    exact l7At_no s t a w ha hs ht h
end Go.Proofs.YtmgikfeknmbpbaaDoor
