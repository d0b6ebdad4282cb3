/-
  Views and rows of things: one as the other.
-/
import Derived.Test.YtcgljeagjchobaaGenSrv
import Derived.Test.YtcgljeagjchobaaGenLockV
import Derived.Test.YtcgljeagjchobaaRess
namespace Go.Proofs.Ytcgljeagjchobaa
open Go.RowKit M
set_option linter.unusedVariables false

theorem pps_of_view {w : World} {B : Nat} {v : Value} {l : List Pp} (h : View w B v (.l (l.map dPp))) : ∃ a cap, v = .slice a l.length cap ∧ l.length ≤ cap ∧ cap ≤ maxLen ∧ (a = none → cap = 0) ∧ Pps w B a l := by
  obtain ⟨a, cap, h1, h2, h3, h4, h5⟩ := h.rows 3 (fun _ => rfl)
  refine ⟨a, cap, h1, h2, h3, h4, fun h0 => ?_⟩
  obtain ⟨b, o, C, e, hb, hc⟩ := h5 h0
  refine ⟨b, o, e, hb, fun j hj => ?_⟩
  obtain ⟨c0, v0⟩ := hc j hj 0 (.c (.string l[j].1)) rfl
  obtain ⟨c1, v1⟩ := hc j hj 1 (.c (.string l[j].2.1)) rfl
  obtain ⟨c2, v2⟩ := hc j hj 2 (.c (.string l[j].2.2)) rfl
  rw [v0.inv] at c0
  rw [v1.inv] at c1
  rw [v2.inv] at c2
  exact ⟨c0, c1, c2⟩
def ppVal (p : Pp) (i : Nat) : Value := (([.string p.1, .string p.2.1, .string p.2.2] : List Value)[i]?).getD (.bool false)
theorem view_of_pps {w : World} {B : Nat} {a : Option Addr} {cap : Nat} {l : List Pp} (h : Pps w B a l) (h1 : l.length ≤ cap) (h2 : cap ≤ maxLen) (h3 : a = none → cap = 0) : View w B (.slice a l.length cap) (.l (l.map dPp)) := by
  by_cases h0 : 0 < l.length
  · obtain ⟨b, o, rfl, hb, hc⟩ := h h0
    have e : l.length = (l.map dPp).length := (List.length_map ..).symm
    rw [e]
    refine .row b o cap 3 _ (fun j i => match l[j]? with | some s => ppVal s i | none => .bool false) hb (by rw [← e]; exact h1) h2 (fun r hr => by obtain ⟨x, _, rfl⟩ := List.mem_map.1 hr; rfl) (fun j i x hx => ?_) (fun j i x hx => ?_)
    all_goals
      unfold cellAt at hx
      by_cases hj : j < l.length
      · rw [map_at dPp l j hj] at hx
        rw [List.getElem?_eq_getElem hj]
        match i with
        | 0 => cases hx; first | exact .c _ | exact (hc j hj).1
        | 1 => cases hx; first | exact .c _ | exact (hc j hj).2.1
        | 2 => cases hx; first | exact .c _ | exact (hc j hj).2.2
        | i + 3 => cases hx
      · rw [List.getElem?_eq_none (by simp; omega)] at hx; cases hx
  · have : l = [] := List.eq_nil_of_length_eq_zero (by omega)
    subst this
    exact .nil a cap h3 h2
theorem rss_of_view {w : World} {B : Nat} {v : Value} {l : List Rs} (h : View w B v (.l (l.map dRs))) : ∃ a cap, v = .slice a l.length cap ∧ l.length ≤ cap ∧ cap ≤ maxLen ∧ (a = none → cap = 0) ∧ Rss w B a l := by
  obtain ⟨a, cap, h1, h2, h3, h4, h5⟩ := h.rows 5 (fun _ => rfl)
  refine ⟨a, cap, h1, h2, h3, h4, fun h0 => ?_⟩
  obtain ⟨b, o, C, e, hb, hc⟩ := h5 h0
  refine ⟨b, o, e, hb, fun j hj => ?_⟩
  obtain ⟨c0, v0⟩ := hc j hj 0 (.l (l[j].pa.map dS)) rfl
  obtain ⟨c1, v1⟩ := hc j hj 1 (.c (.bool l[j].co)) rfl
  obtain ⟨c2, v2⟩ := hc j hj 2 (.c (.string l[j].bo)) rfl
  obtain ⟨c3, v3⟩ := hc j hj 3 (.c (.int .i64 l[j].ve)) rfl
  obtain ⟨c4, v4⟩ := hc j hj 4 (.l (l[j].ps.map dPp)) rfl
  obtain ⟨pa, pc, e0, p1, p2, p3, p4⟩ := strs_of_view v0
  obtain ⟨qa, qc, e4, q1, q2, q3, q4⟩ := pps_of_view v4
  rw [e0] at c0
  rw [v1.inv] at c1
  rw [v2.inv] at c2
  rw [v3.inv] at c3
  rw [e4] at c4
  exact ⟨pa, pc, qa, qc, ⟨c0, c1, c2, c3, c4⟩, ⟨p4, q4, p1, q1, p2, q2, p3, q3⟩⟩
def rsVal (r : Rs) (pv qv : Value) (i : Nat) : Value := (([pv, .bool r.co, .string r.bo, .int .i64 r.ve, qv] : List Value)[i]?).getD (.bool false)
theorem view_of_rss {w : World} {B : Nat} {a : Option Addr} {cap : Nat} {l : List Rs} (h : Rss w B a l) (h1 : l.length ≤ cap) (h2 : cap ≤ maxLen) (h3 : a = none → cap = 0) : View w B (.slice a l.length cap) (.l (l.map dRs)) := by
  by_cases h0 : 0 < l.length
  · obtain ⟨b, o, rfl, hb, hc⟩ := h h0
    have each : ∀ j, ∃ pq : Value × Value, ∀ hj : j < l.length, (∀ i v, i < 5 → rsVal l[j] pq.1 pq.2 i = v → w.cell? ⟨b, o + j * 5 + i, none⟩ = some v) ∧ View w B pq.1 (.l (l[j].pa.map dS)) ∧ View w B pq.2 (.l (l[j].ps.map dPp)) := fun j => by
      by_cases hj : j < l.length
      · obtain ⟨pa, pc, qa, qc, ⟨c0, c1, c2, c3, c4⟩, p⟩ := hc j hj
        refine ⟨(.slice pa l[j].pa.length pc, .slice qa l[j].ps.length qc), fun _ => ⟨fun i v hi hv => ?_, view_of_strs p.ph p.pl p.pm p.pn, view_of_pps p.qh p.ql p.qm p.qn⟩⟩
        subst hv
        match i, hi with
        | 0, _ => exact c0
        | 1, _ => exact c1
        | 2, _ => exact c2
        | 3, _ => exact c3
        | 4, _ => exact c4
      · exact ⟨(.bool false, .bool false), fun h => absurd h hj⟩
    have e : l.length = (l.map dRs).length := (List.length_map ..).symm
    rw [e]
    refine .row b o cap 5 _ (fun j i => match l[j]? with | some r => rsVal r (Classical.choose (each j)).1 (Classical.choose (each j)).2 i | none => .bool false) hb (by rw [← e]; exact h1) h2 (fun r hr => by obtain ⟨x, _, rfl⟩ := List.mem_map.1 hr; rfl) (fun j i x hx => ?_) (fun j i x hx => ?_)
    · unfold cellAt at hx
      by_cases hj : j < l.length
      · rw [map_at dRs l j hj] at hx
        have hi : i < 5 := (List.getElem?_eq_some_iff.1 hx).1
        rw [List.getElem?_eq_getElem hj]
        exact (Classical.choose_spec (each j) hj).1 i _ hi rfl
      · rw [List.getElem?_eq_none (by simp; omega)] at hx; cases hx
    · unfold cellAt at hx
      by_cases hj : j < l.length
      · rw [map_at dRs l j hj] at hx
        rw [List.getElem?_eq_getElem hj]
        match i with
        | 0 => cases hx; exact (Classical.choose_spec (each j) hj).2.1
        | 1 => cases hx; exact .c _
        | 2 => cases hx; exact .c _
        | 3 => cases hx; exact .c _
        | 4 => cases hx; exact (Classical.choose_spec (each j) hj).2.2
        | i + 5 => cases hx
      · rw [List.getElem?_eq_none (by simp; omega)] at hx; cases hx
  · have : l = [] := List.eq_nil_of_length_eq_zero (by omega)
    subst this
    exact .nil a cap h3 h2
theorem own_of_rowP {w : World} {p c : Nat} {l : List Pp} (h : RowP w p l) (h1 : l.length ≤ c) (h2 : c ≤ maxLen) : Own w (.slice (some ⟨p, 0, none⟩) l.length c) (.l (l.map dPp)) (fun y => y = p) := by
  have e : l.length = (l.map dPp).length := (List.length_map ..).symm
  rw [e]
  refine RowG.own (R := rowsF dPp l) (K := 3) (o := 0) (C := fun j i => match l[j]? with | some r => ppVal r i | none => .bool false) (Sf := fun _ _ _ => False) ⟨rfl, h.1, fun j hj => by rw [rowsF_at l j (by simpa using hj)]; rfl, fun j i hj hi => ?_, fun j i x hj hx => ?_, fun j i y hy => hy.elim, fun j i j' i' y _ hy => hy.elim⟩ (fun j hj => by rw [rowsF_at l j (by simpa using hj)]; simp) (by rw [← e]; exact h1) h2
  · have hj' : j < l.length := by simpa using hj
    obtain ⟨c0, c1, c2⟩ := h.2.1 j hj'
    rw [List.getElem?_eq_getElem hj', Nat.zero_add]
    refine ⟨?_, h.2.2 _⟩
    match i, hi with
    | 0, _ => exact c0
    | 1, _ => exact c1
    | 2, _ => exact c2
  · have hj' : j < l.length := by simpa using hj
    rw [rowsF_at l j hj'] at hx
    rw [List.getElem?_eq_getElem hj']
    match i with
    | 0 => cases hx; exact .c _ _
    | 1 => cases hx; exact .c _ _
    | 2 => cases hx; exact .c _ _
    | i + 3 => cases hx
theorem own_of_ownR {w : World} {lo hi g : Nat} {l : List Rs} {pb qb : Nat → Nat} (h : OwnR w lo hi g l pb qb) (hm : l.length ≤ maxLen) (hs : ∀ r ∈ l, r.pa.length ≤ maxLen ∧ r.ps.length ≤ maxLen) : Own w (.slice (some ⟨g, 0, none⟩) l.length l.length) (.l (l.map dRs)) (IvG lo hi) := by
  have e : l.length = (l.map dRs).length := (List.length_map ..).symm
  rw [e]
  refine RowG.own (R := rowsF dRs l) (K := 5) (o := 0) (C := fun j i => match l[j]? with | some r => rsVal r (.slice (some ⟨pb j, 0, none⟩) r.pa.length r.pa.length) (.slice (some ⟨qb j, 0, none⟩) r.ps.length r.ps.length) i | none => .bool false) (Sf := fun j i y => j < l.length ∧ ((i = 0 ∧ y = pb j) ∨ (i = 4 ∧ y = qb j))) ⟨⟨h.gl, h.gh⟩, h.gs, fun j hj => by rw [rowsF_at l j (by simpa using hj)]; rfl, fun j i hj hi => ?_, fun j i x hj hx => ?_, fun j i y hy => ?_, fun j i j' i' y hne hy hy' => ?_⟩ (fun j hj => by rw [rowsF_at l j (by simpa using hj)]; simp) (by rw [← e]; exact Nat.le_refl _) (by rw [← e]; exact hm)
  · have hj' : j < l.length := by simpa using hj
    obtain ⟨c0, c1, c2, c3, c4⟩ := h.cl j hj'
    rw [List.getElem?_eq_getElem hj', Nat.zero_add]
    refine ⟨?_, h.fz _⟩
    match i, hi with
    | 0, _ => exact c0
    | 1, _ => exact c1
    | 2, _ => exact c2
    | 3, _ => exact c3
    | 4, _ => exact c4
  · have hj' : j < l.length := by simpa using hj
    have hss := hs _ (List.getElem_mem hj')
    rw [rowsF_at l j hj'] at hx
    rw [List.getElem?_eq_getElem hj']
    match i with
    | 0 => cases hx; exact (own_of_rowS (h.rp j hj') (Nat.le_refl _) hss.1).wide (fun y hy => ⟨hj', .inl ⟨rfl, hy⟩⟩)
    | 1 => cases hx; exact .c _ _
    | 2 => cases hx; exact .c _ _
    | 3 => cases hx; exact .c _ _
    | 4 => cases hx; exact (own_of_rowP (h.rq j hj') (Nat.le_refl _) hss.2).wide (fun y hy => ⟨hj', .inr ⟨rfl, hy⟩⟩)
    | i + 5 => cases hx
  · obtain ⟨hj, hy⟩ := hy
    obtain ⟨b1, b2, b3, b4, b5⟩ := h.bnd j hj
    rcases hy with ⟨_, rfl⟩ | ⟨_, rfl⟩
    · exact ⟨⟨b1, by omega⟩, b4⟩
    · exact ⟨⟨by omega, b3⟩, b5⟩
  · obtain ⟨hj, h1⟩ := hy
    obtain ⟨hj2, h2⟩ := hy'
    obtain ⟨b1, b2, b3, b4, b5⟩ := h.bnd j hj
    rcases Nat.lt_trichotomy j j' with hh | hh | hh
    · obtain ⟨o1, o2, o3, o4⟩ := h.ord j j' hh hj2
      rcases h1 with ⟨_, e1⟩ | ⟨_, e1⟩ <;> rcases h2 with ⟨_, e2⟩ | ⟨_, e2⟩ <;> omega
    · subst hh
      rcases h1 with ⟨i1, e1⟩ | ⟨i1, e1⟩ <;> rcases h2 with ⟨i2, e2⟩ | ⟨i2, e2⟩ <;> omega
    · obtain ⟨o1, o2, o3, o4⟩ := h.ord j' j hh hj
      rcases h1 with ⟨_, e1⟩ | ⟨_, e1⟩ <;> rcases h2 with ⟨_, e2⟩ | ⟨_, e2⟩ <;> omega
/-- What the sizes say. -/
theorem sz_dS (l : List ByteArray) : szRs (l.map dS) = l.length + sumS l := by
  induction l with
  | nil => simp [szRs, sumS]
  | cons x l ih => rw [List.map_cons, szRs_cons, ih]; simp [dS, szR, szF, szV, sumS]; omega
theorem sz_dPp (l : List Pp) : szRs (l.map dPp) = l.length + sumP l := by
  induction l with
  | nil => simp [szRs, sumP]
  | cons x l ih => rw [List.map_cons, szRs_cons, ih]; simp [dPp, szR, szF, szV, sumP, szP]; omega
theorem sz_dRs (r : Rs) : szR (dRs r) = r.pa.length + sumS r.pa + r.bo.size + r.ps.length + sumP r.ps := by
  simp [dRs, szR, szF, szV, sz_dS, sz_dPp]
  omega
theorem rs_len {l : List Rs} {N : Nat} (h : szRs (l.map dRs) ≤ N) : l.length ≤ N := by
  have := szRs_len (l.map dRs)
  rw [List.length_map] at this
  omega
theorem rs_small {l : List Rs} {N : Nat} (h : szRs (l.map dRs) ≤ N) : ∀ r ∈ l, r.pa.length + sumS r.pa + r.bo.size + r.ps.length + sumP r.ps ≤ N := fun r hr => by
  have h1 := szRs_mem _ _ (List.mem_map_of_mem (f := dRs) hr)
  rw [sz_dRs] at h1
  omega
theorem rs_short {l : List Rs} (h : szRs (l.map dRs) ≤ 1048576) : ShortT l := fun r hr => by
  have h1 := rs_small h r hr
  have hm : (1048576 : Nat) ≤ maxLen := by unfold maxLen; omega
  refine ⟨by omega, fun s hs => ?_, by omega, by omega, fun p hp => ?_⟩
  · have := sumS_mem _ s hs; omega
  · have := sumP_mem _ p hp; unfold szP at this; exact ⟨by omega, by omega, by omega⟩
end Go.Proofs.Ytcgljeagjchobaa
