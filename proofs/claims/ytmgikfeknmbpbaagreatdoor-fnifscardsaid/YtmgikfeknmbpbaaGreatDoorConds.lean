/-
  What slices of what must be hold.
-/
import Derived.Test.YtmgikfeknmbpbaaGreatDoorGenCond
import Derived.Test.YtmgikfeknmbpbaaGreatDoorGenBox
import Derived.Test.YtmgikfeknmbpbaaGreatDoorGenRow
import Derived.Test.YtmgikfeknmbpbaaGreatDoorMathNum
namespace Go.Proofs.YtmgikfeknmbpbaaGreatDoor
open Go.RowKit M
set_option linter.unusedVariables false

/-- One, in three cells. -/
def CnAt (w : World) (b o : Nat) (c : Cn) : Prop := w.cell? ⟨b, o, none⟩ = some (.bool c.no) ∧ w.cell? ⟨b, o + 1, none⟩ = some (.int .i64 c.tk) ∧ w.cell? ⟨b, o + 2, none⟩ = some (.string c.tg)
def Cns (w : World) (B : Nat) (a : Option Addr) (cs : List Cn) : Prop := 0 < cs.length → ∃ b o, a = some ⟨b, o, none⟩ ∧ b < B ∧ ∀ j (hj : j < cs.length), CnAt w b (o + j * 3) cs[j]
structure CsIn (w : World) (B : Nat) (a : Option Addr) (cs : List Cn) (c : Nat) : Prop where
  ps : Cns w B a cs
  pl : cs.length ≤ c
  pm : c ≤ maxLen
  pn : a = none → c = 0
def Cnss (w : World) (B : Nat) (a : Option Addr) (ls : List (List Cn)) : Prop := 0 < ls.length → ∃ b o, a = some ⟨b, o, none⟩ ∧ b < B ∧ ∀ j (hj : j < ls.length), ∃ pa pc, w.cell? ⟨b, o + j, none⟩ = some (.slice pa ls[j].length pc) ∧ CsIn w B pa ls[j] pc

theorem CnAt.of {w w' : World} {b o : Nat} {c : Cn} (h : CnAt w b o c) (e : ∀ i, w'.cell? ⟨b, i, none⟩ = w.cell? ⟨b, i, none⟩) : CnAt w' b o c := ⟨(e _).trans h.1, (e _).trans h.2.1, (e _).trans h.2.2⟩
theorem Cns.below {w w' : World} {B C : Nat} {a : Option Addr} {cs : List Cn} (h : Cns w B a cs) (hb : Below C w w') (hB : B ≤ C) : Cns w' B a cs := fun h0 => by
  obtain ⟨b, o, e, hbB, hc⟩ := h h0
  exact ⟨b, o, e, hbB, fun j hj => (hc j hj).of (fun i => hb.cell (p := ⟨b, i, none⟩) (Nat.lt_of_lt_of_le hbB hB))⟩
theorem CsIn.below {w w' : World} {B C c : Nat} {a : Option Addr} {cs : List Cn} (h : CsIn w B a cs c) (hb : Below C w w') (hB : B ≤ C) : CsIn w' B a cs c := ⟨h.ps.below hb hB, h.pl, h.pm, h.pn⟩
theorem Cnss.below {w w' : World} {B C : Nat} {a : Option Addr} {ls : List (List Cn)} (h : Cnss w B a ls) (hb : Below C w w') (hB : B ≤ C) : Cnss w' B a ls := fun h0 => by
  obtain ⟨b, o, e, hbB, hc⟩ := h h0
  refine ⟨b, o, e, hbB, fun j hj => ?_⟩
  obtain ⟨pa, pc, h1, h2⟩ := hc j hj
  exact ⟨pa, pc, (hb.cell (p := ⟨b, _, none⟩) (Nat.lt_of_lt_of_le hbB hB)).trans h1, h2.below hb hB⟩

theorem cns_of_view {w : World} {B : Nat} {v : Value} {l : List Cn} (h : View w B v (.l (l.map dCn))) : ∃ a c, v = .slice a l.length c ∧ CsIn w B a l c := by
  obtain ⟨a, cap, h1, h2, h3, h4, h5⟩ := h.rows 3 (fun _ => rfl)
  refine ⟨a, cap, h1, fun h0 => ?_, h2, h3, h4⟩
  obtain ⟨b, o, C, e, hb, hc⟩ := h5 h0
  refine ⟨b, o, e, hb, fun j hj => ?_⟩
  obtain ⟨c0, v0⟩ := hc j hj 0 (.c (.bool l[j].no)) rfl
  obtain ⟨c1, v1⟩ := hc j hj 1 (.c (.int .i64 l[j].tk)) rfl
  obtain ⟨c2, v2⟩ := hc j hj 2 (.c (.string l[j].tg)) rfl
  rw [v0.inv] at c0
  rw [v1.inv] at c1
  rw [v2.inv] at c2
  exact ⟨c0, c1, c2⟩
theorem cnss_of_view {w : World} {B : Nat} {v : Value} {l : List (List Cn)} (h : View w B v (.l (l.map dCs))) : ∃ a c, v = .slice a l.length c ∧ l.length ≤ c ∧ c ≤ maxLen ∧ (a = none → c = 0) ∧ Cnss w B a l := by
  obtain ⟨a, cap, h1, h2, h3, h4, h5⟩ := h.rows 1 (fun _ => rfl)
  refine ⟨a, cap, h1, h2, h3, h4, fun h0 => ?_⟩
  obtain ⟨b, o, C, e, hb, hc⟩ := h5 h0
  refine ⟨b, o, e, hb, fun j hj => ?_⟩
  obtain ⟨c0, v0⟩ := hc j hj 0 (.l (l[j].map dCn)) rfl
  obtain ⟨pa, pc, e1, e2⟩ := cns_of_view v0
  rw [e1] at c0
  exact ⟨pa, pc, by simpa using c0, e2⟩

/-! Their sizes. -/
theorem sz_dCn (r : Cn) : szR (dCn r) = r.tg.size := by simp [dCn, szR, szF, szV]
theorem sz_dCs (l : List Cn) : szR (dCs l) = szRs (l.map dCn) := by simp [dCs, szR, szF]
theorem cn_small {l : List Cn} {N : Nat} (h : szRs (l.map dCn) ≤ N) : l.length ≤ N ∧ ∀ c ∈ l, c.tg.size ≤ N := by
  refine ⟨?_, fun c hc => ?_⟩
  · have := szRs_len (l.map dCn)
    rw [List.length_map] at this
    omega
  · have := szRs_mem _ _ (List.mem_map_of_mem (f := dCn) hc)
    rw [sz_dCn] at this
    omega
theorem cns_small {l : List (List Cn)} {N : Nat} (h : szRs (l.map dCs) ≤ N) : l.length ≤ N ∧ ∀ cs ∈ l, cs.length ≤ N ∧ ∀ c ∈ cs, c.tg.size ≤ N := by
  refine ⟨?_, fun cs hc => ?_⟩
  · have := szRs_len (l.map dCs)
    rw [List.length_map] at this
    omega
  · have := szRs_mem _ _ (List.mem_map_of_mem (f := dCs) hc)
    rw [sz_dCs] at this
    exact cn_small (by omega)
theorem flat_small {l : List (List Cn)} {N : Nat} (h : szRs (l.map dCs) ≤ N) : l.flatten.length ≤ N := by
  have key : ∀ l : List (List Cn), l.flatten.length ≤ szRs (l.map dCs) := fun l => by
    induction l with
    | nil => simp
    | cons x r ih =>
      rw [List.flatten_cons, List.length_append, List.map_cons, szRs_cons, sz_dCs]
      have := szRs_len (x.map dCn)
      rw [List.length_map] at this
      omega
  have := key l
  omega

/-! Rows that a call makes of them. -/
def ciC (c : Cn) : List Value := [.bool c.no, .int .i64 c.tk, .string c.tg]
theorem ciC_len : ∀ x, (ciC x).length = 3 := fun _ => rfl
theorem ciC_one (c : Cn) : ∀ v ∈ ciC c, v.oneCell' = true := fun v hv => by
  simp only [ciC, List.mem_cons, List.not_mem_nil, or_false] at hv
  rcases hv with rfl | rfl | rfl <;> rfl
/-- A slice as it lies in a cell. -/
structure Sl where
  b : Nat
  n : Nat
  c : Nat
def Sl.v (s : Sl) : Value := .slice (some ⟨s.b, 0, none⟩) s.n s.c
def ciS (s : Sl) : List Value := [s.v]
theorem ciS_len : ∀ x, (ciS x).length = 1 := fun _ => rfl
theorem ciS_one (s : Sl) : ∀ v ∈ ciS s, v.oneCell' = true := fun v hv => by
  simp only [ciS, List.mem_cons, List.not_mem_nil, or_false] at hv
  rcases hv with rfl
  rfl
theorem cond_cells {tE : TypeId} {w : World} {B g n c : Nat} {l : List Cn} (h : OwnG tE 3 ciC w B (.slice (some ⟨g, 0, none⟩) n c) l) : n = l.length ∧ n ≤ c ∧ c ≤ maxLen ∧ B ≤ g ∧ g < w.heap.size ∧ (∀ i, w.frozen? ⟨g, i, none⟩ = false) ∧ ∀ j (hj : j < l.length), CnAt w g (j * 3) l[j] := by
  obtain ⟨e1, e2, e3, e4, e5, e6, e7⟩ := h.row ciC_len
  exact ⟨e1, e2, e3, e4, e5, e6, fun j hj => ⟨e7 j hj 0 _ rfl, e7 j hj 1 _ rfl, e7 j hj 2 _ rfl⟩⟩
def cnVal (r : Cn) (i : Nat) : Value := (([.bool r.no, .int .i64 r.tk, .string r.tg] : List Value)[i]?).getD (.bool false)
theorem own_of_conds {tE : TypeId} {w : World} {B g n c : Nat} {l : List Cn} (h : OwnG tE 3 ciC w B (.slice (some ⟨g, 0, none⟩) n c) l) : Own w (.slice (some ⟨g, 0, none⟩) n c) (.l (l.map dCn)) (fun y => y = g) := by
  obtain ⟨e1, e2, e3, e4, e5, e6, e7⟩ := cond_cells h
  have e : n = (l.map dCn).length := by rw [List.length_map]; exact e1
  rw [e]
  refine .row g 0 c 3 _ (fun j i => match l[j]? with | some s => cnVal s i | none => .bool false) (fun _ _ _ => False) _ rfl e5 (by rw [← e]; exact e2) e3 (fun r hr => by obtain ⟨x, _, rfl⟩ := List.mem_map.1 hr; rfl) (fun j i x hx => ?_) (fun j i x hx => ?_) (fun j i y hy => hy.elim) (fun j i j' i' y _ hy => hy.elim)
  all_goals
    unfold cellAt at hx
    by_cases hj : j < l.length
    · rw [map_at dCn l j hj] at hx
      have hi : i < 3 := (List.getElem?_eq_some_iff.1 hx).1
      rw [List.getElem?_eq_getElem hj]
      obtain ⟨c0, c1, c2⟩ := e7 j hj
      match i, hi with
      | 0, _ => cases hx; first | exact .c _ _ | exact ⟨by rw [Nat.zero_add]; exact c0, e6 _⟩
      | 1, _ => cases hx; first | exact .c _ _ | exact ⟨by rw [Nat.zero_add]; exact c1, e6 _⟩
      | 2, _ => cases hx; first | exact .c _ _ | exact ⟨by rw [Nat.zero_add]; exact c2, e6 _⟩
    · rw [List.getElem?_eq_none (by simp; omega)] at hx; cases hx

/-- A row of lists that the call owns, each in blocks of its own; all of them and the row below H. -/
structure RowsO (tS : TypeId) (w : World) (B g n c H : Nat) (ss : List Sl) (ls : List (List Cn)) : Prop where
  own : OwnG tS 1 ciS w B (.slice (some ⟨g, 0, none⟩) n c) ss
  len : ss.length = ls.length
  top : H ≤ w.heap.size
  gH : g < H
  bl : ∃ lo hi : Nat → Nat, ∀ j (hj : j < ls.length) (hs : j < ss.length), Own w ss[j].v (.l (ls[j].map dCn)) (IvG (lo j) (hi j)) ∧ B ≤ lo j ∧ hi j ≤ H ∧ (g < lo j ∨ hi j ≤ g) ∧ ∀ i, i < j → hi i ≤ lo j
theorem RowsO.made (tS : TypeId) (w : World) (B : Nat) (hB : B ≤ w.heap.size) : RowsO tS (w.alloc (Obj.cells #[] tS)) B w.heap.size 0 0 (w.heap.size + 1) [] [] :=
  ⟨OwnG.made w B hB, rfl, by simp, Nat.lt_succ_self _, fun _ => 0, fun _ => 0, fun j hj => absurd hj (Nat.not_lt_zero _)⟩
theorem RowsO.next {tS : TypeId} {w w' : World} {B g n c H : Nat} {ss : List Sl} {ls : List (List Cn)} (h : RowsO tS w B g n c H ss ls) (hb : Below w.heap.size w w') : RowsO tS w' B g n c H ss ls := by
  obtain ⟨lo, hi, h5⟩ := h.bl
  exact ⟨h.own.next hb, h.len, Nat.le_trans h.top hb.size, h.gH, lo, hi, fun j hj hs => ⟨(h5 j hj hs).1.next hb, (h5 j hj hs).2⟩⟩
theorem RowsO.num {tS : TypeId} {w : World} {B g n c H : Nat} {ss : List Sl} {ls : List (List Cn)} (h : RowsO tS w B g n c H ss ls) : n = ls.length ∧ n ≤ c ∧ c ≤ maxLen ∧ B ≤ g := by
  have := h.own.row ciS_len
  exact ⟨this.1.trans h.len, this.2.1, this.2.2.1, this.2.2.2.1⟩
/-- One more list, made behind all that is there, is appended. -/
theorem RowsO.snoc {tS : TypeId} {w w' : World} {B g n c H g' n' c' : Nat} {ss : List Sl} {ls : List (List Cn)} {s : Sl} {cs : List Cn} (h : RowsO tS w B g n c H ss ls)
    (ho : OwnG tS 1 ciS w' B (.slice (some ⟨g', 0, none⟩) n' c') (ss ++ [s])) (hg : w.grownBy w' (some g)) (hat : g' = g ∨ g' = w.heap.size) (lo hi : Nat) (hs : Own w s.v (.l (cs.map dCn)) (IvG lo hi)) (hl : H ≤ lo) (hh : hi ≤ w.heap.size) :
    RowsO tS w' B g' n' c' w'.heap.size (ss ++ [s]) (ls ++ [cs]) := by
  obtain ⟨lo0, hi0, h5⟩ := h.bl
  have hgw : g < w.heap.size := Nat.lt_of_lt_of_le h.gH h.top
  have hr := ho.row ciS_len
  have hsz := hg.size
  have hgB := h.num.2.2.2
  have keep : ∀ v x S, Own w v x S → (∀ y, S y → y ≠ g) → Own w' v x S := fun v x S hv hne =>
    hv.keep hsz (fun b o hb hz => by
      have := hg.block b hz (fun e => hne b hb (Option.some.inj e))
      simp only [World.cell?, this]) (fun b o hb hz => by
      have := hg.block b hz (fun e => hne b hb (Option.some.inj e))
      simp only [World.frozen?, this])
  refine ⟨ho, by rw [List.length_append, List.length_append, h.len]; rfl, Nat.le_refl _, hr.2.2.2.2.1, fun j => if j < ls.length then lo0 j else lo, fun j => if j < ls.length then hi0 j else hi, fun j hj hj2 => ?_⟩
  by_cases e : j < ls.length
  · have e2 : j < ss.length := by rw [h.len]; exact e
    obtain ⟨q1, q2, q3, q4, q5⟩ := h5 j e e2
    simp only [e, if_true, List.getElem_append_left e, List.getElem_append_left e2]
    refine ⟨keep _ _ _ q1 (fun y hy e3 => by have := hy.1; have := hy.2; omega), q2, Nat.le_trans (Nat.le_trans q3 h.top) hsz, ?_, fun i hij => ?_⟩
    · rcases hat with rfl | rfl
      · exact q4
      · right; exact Nat.le_trans q3 h.top
    · rw [if_pos (by omega)]
      exact q5 i hij
  · have ej : j = ls.length := by rw [List.length_append] at hj; simp at hj; omega
    subst ej
    have e2 : ¬ ls.length < ss.length := by rw [h.len]; exact Nat.lt_irrefl _
    have g1 : (ss ++ [s])[ls.length]'hj2 = s := by
      have : ls.length = ss.length := h.len.symm
      simp [this]
    have g2 : (ls ++ [cs])[ls.length]'hj = cs := by simp
    simp only [Nat.lt_irrefl, if_false]
    rw [g1, g2]
    refine ⟨keep _ _ _ hs (fun y hy e3 => by have := hy.1; have := h.gH; omega), by have := h.gH; omega, Nat.le_trans hh hsz, ?_, fun i hij => ?_⟩
    · rcases hat with rfl | rfl
      · left; have := h.gH; omega
      · right; exact hh
    · rw [if_pos hij]
      obtain ⟨_, _, q3, _, _⟩ := h5 i hij (by rw [h.len]; exact hij)
      exact Nat.le_trans q3 hl
theorem RowsO.done {tS : TypeId} {w : World} {B g n c H : Nat} {ss : List Sl} {ls : List (List Cn)} (h : RowsO tS w B g n c H ss ls) : Own w (.slice (some ⟨g, 0, none⟩) n c) (.l (ls.map dCs)) (IvG B w.heap.size) := by
  obtain ⟨lo, hi, h5⟩ := h.bl
  obtain ⟨e1, e2, e3, e4, e5, e6, e7⟩ := h.own.row ciS_len
  have e : n = (ls.map dCs).length := by rw [List.length_map]; exact h.num.1
  have hgw := Nat.lt_of_lt_of_le h.gH h.top
  rw [e]
  refine .row g 0 c 1 _ (fun j i => match ss[j]? with | some s => s.v | none => .bool false) (fun j i y => j < ls.length ∧ i = 0 ∧ IvG (lo j) (hi j) y) _ ⟨e4, hgw⟩ hgw (by rw [← e]; exact e2) e3 (fun r hr => by obtain ⟨x, _, rfl⟩ := List.mem_map.1 hr; rfl) (fun j i x hx => ?_) (fun j i x hx => ?_) (fun j i y hy => ?_) (fun j i j' i' y hne hy hy' => ?_)
  · unfold cellAt at hx
    by_cases hj : j < ls.length
    · rw [map_at dCs ls j hj] at hx
      have hs : j < ss.length := by rw [h.len]; exact hj
      match i with
      | 0 =>
        rw [List.getElem?_eq_getElem hs]
        have := e7 j hs 0 _ rfl
        exact ⟨by simpa using this, e6 _⟩
      | i + 1 => cases hx
    · rw [List.getElem?_eq_none (by simp; omega)] at hx; cases hx
  · unfold cellAt at hx
    by_cases hj : j < ls.length
    · rw [map_at dCs ls j hj] at hx
      have hs : j < ss.length := by rw [h.len]; exact hj
      match i with
      | 0 =>
        rw [List.getElem?_eq_getElem hs]
        cases hx
        exact (h5 j hj hs).1.wide (fun y hy => ⟨hj, rfl, hy⟩)
      | i + 1 => cases hx
    · rw [List.getElem?_eq_none (by simp; omega)] at hx; cases hx
  · obtain ⟨hj, _, h1, h2⟩ := hy
    obtain ⟨_, q2, q3, q4, _⟩ := h5 j hj (by rw [h.len]; exact hj)
    have := h.top
    exact ⟨⟨by omega, by omega⟩, by omega⟩
  · obtain ⟨hj, i0, h1, h2⟩ := hy
    obtain ⟨hj', i0', h1', h2'⟩ := hy'
    rcases Nat.lt_trichotomy j j' with hh | hh | hh
    · have := (h5 j' hj' (by rw [h.len]; exact hj')).2.2.2.2 j hh
      omega
    · omega
    · have := (h5 j hj (by rw [h.len]; exact hj)).2.2.2.2 j' hh
      omega
end Go.Proofs.YtmgikfeknmbpbaaGreatDoor
