/-
  The leafs of a thing.
  The leafs of a server.
  Views and rows of things: one as the other.
  A server in memory: its parts, and that it is small.
  What spec.FindRes does.
  What spec.TagAt does.
  What spec.TagAt does, over views.
  The leafs of what is asked.
-/
import Derived.Test.YtckhjemojopekaaGenProp
import Derived.Test.YtckhjemojopekaaMathSmall
import Derived.Test.YtckhjemojopekaaSliceEq
import Derived.Test.YtckhjemojopekaaPlaceB
import Derived.Test.YtckhjemojopekaaSpecCovers
import Derived.Test.YtckhjemojopekaaMathTagAt
import Derived.Test.YtckhjemojopekaaSpecTagT
import Derived.OpenShut
namespace Go.Proofs.Ytckhjemojopekaa
open Go.RowKit M

def dRs (x : Rs) : List Lf := [.l (x.pa.map dS), .c (.bool x.co), .c (.string x.bo), .c (.int .i64 x.ve), .l (x.ps.map dPp)]
end Go.Proofs.Ytckhjemojopekaa
namespace Go.Proofs.Ytckhjemojopekaa
open Go.RowKit M

def dSv (x : Sv) : List Lf := [.l (x.t.map dRs), .l (x.l.map dLk), .c (.int .i64 x.now), .c (.int .i64 x.ver), .l (x.dr.map dI), .l (x.us.map dI)]
end Go.Proofs.Ytckhjemojopekaa
namespace Go.Proofs.Ytckhjemojopekaa
open Go.RowKit M
set_option linter.unusedVariables false

theorem pps_of_view {w : World} {B : Nat} {v : Value} {l : List Pp} (h : View w B v (.l (l.map dPp))) : ∃ a cap, v = .slice a l.length cap ∧ l.length ≤ cap ∧ cap ≤ maxLen ∧ (a = none → cap = 0) ∧ Pps w B a l := by
  obtain ⟨a, cap, h1, h2, h3, h4, h5⟩ := h.rows 3 (fun _ => rfl)
  refine ⟨a, cap, h1, h2, h3, h4, fun h0 => ?_⟩
  obtain ⟨b, o, C, e, hb, hc⟩ := h5 h0
  refine ⟨b, o, e, hb, fun j hj => ?_⟩
  obtain ⟨c0, v0⟩ := hc j hj 0 (.c (.string l[j].1)) rfl
  obtain ⟨c1, v1⟩ := hc j hj 1 (.c (.string l[j].2.1)) rfl
  obtain ⟨c2, v2⟩ := hc j hj 2 (.c (.string l[j].2.2)) rfl
  rw [v0.inv] at c0
  rw [v1.inv] at c1
  rw [v2.inv] at c2
  exact ⟨c0, c1, c2⟩
def ppVal (p : Pp) (i : Nat) : Value := (([.string p.1, .string p.2.1, .string p.2.2] : List Value)[i]?).getD (.bool false)
theorem view_of_pps {w : World} {B : Nat} {a : Option Addr} {cap : Nat} {l : List Pp} (h : Pps w B a l) (h1 : l.length ≤ cap) (h2 : cap ≤ maxLen) (h3 : a = none → cap = 0) : View w B (.slice a l.length cap) (.l (l.map dPp)) := by
  by_cases h0 : 0 < l.length
  · obtain ⟨b, o, rfl, hb, hc⟩ := h h0
    have e : l.length = (l.map dPp).length := (List.length_map ..).symm
    rw [e]
    refine .row b o cap 3 _ (fun j i => match l[j]? with | some s => ppVal s i | none => .bool false) hb (by rw [← e]; exact h1) h2 (fun r hr => by obtain ⟨x, _, rfl⟩ := List.mem_map.1 hr; rfl) (fun j i x hx => ?_) (fun j i x hx => ?_)
    all_goals
      unfold cellAt at hx
      by_cases hj : j < l.length
      · rw [map_at dPp l j hj] at hx
        rw [List.getElem?_eq_getElem hj]
        match i with
        | 0 => cases hx; first | exact .c _ | exact (hc j hj).1
        | 1 => cases hx; first | exact .c _ | exact (hc j hj).2.1
        | 2 => cases hx; first | exact .c _ | exact (hc j hj).2.2
        | i + 3 => cases hx
      · rw [List.getElem?_eq_none (by simp; omega)] at hx; cases hx
  · have : l = [] := List.eq_nil_of_length_eq_zero (by omega)
    subst this
    exact .nil a cap h3 h2
theorem rss_of_view {w : World} {B : Nat} {v : Value} {l : List Rs} (h : View w B v (.l (l.map dRs))) : ∃ a cap, v = .slice a l.length cap ∧ l.length ≤ cap ∧ cap ≤ maxLen ∧ (a = none → cap = 0) ∧ Rss w B a l := by
  obtain ⟨a, cap, h1, h2, h3, h4, h5⟩ := h.rows 5 (fun _ => rfl)
  refine ⟨a, cap, h1, h2, h3, h4, fun h0 => ?_⟩
  obtain ⟨b, o, C, e, hb, hc⟩ := h5 h0
  refine ⟨b, o, e, hb, fun j hj => ?_⟩
  obtain ⟨c0, v0⟩ := hc j hj 0 (.l (l[j].pa.map dS)) rfl
  obtain ⟨c1, v1⟩ := hc j hj 1 (.c (.bool l[j].co)) rfl
  obtain ⟨c2, v2⟩ := hc j hj 2 (.c (.string l[j].bo)) rfl
  obtain ⟨c3, v3⟩ := hc j hj 3 (.c (.int .i64 l[j].ve)) rfl
  obtain ⟨c4, v4⟩ := hc j hj 4 (.l (l[j].ps.map dPp)) rfl
  obtain ⟨pa, pc, e0, p1, p2, p3, p4⟩ := strs_of_view v0
  obtain ⟨qa, qc, e4, q1, q2, q3, q4⟩ := pps_of_view v4
  rw [e0] at c0
  rw [v1.inv] at c1
  rw [v2.inv] at c2
  rw [v3.inv] at c3
  rw [e4] at c4
  exact ⟨pa, pc, qa, qc, ⟨c0, c1, c2, c3, c4⟩, ⟨p4, q4, p1, q1, p2, q2, p3, q3⟩⟩
def rsVal (r : Rs) (pv qv : Value) (i : Nat) : Value := (([pv, .bool r.co, .string r.bo, .int .i64 r.ve, qv] : List Value)[i]?).getD (.bool false)
theorem view_of_rss {w : World} {B : Nat} {a : Option Addr} {cap : Nat} {l : List Rs} (h : Rss w B a l) (h1 : l.length ≤ cap) (h2 : cap ≤ maxLen) (h3 : a = none → cap = 0) : View w B (.slice a l.length cap) (.l (l.map dRs)) := by
  by_cases h0 : 0 < l.length
  · obtain ⟨b, o, rfl, hb, hc⟩ := h h0
    have each : ∀ j, ∃ pq : Value × Value, ∀ hj : j < l.length, (∀ i v, i < 5 → rsVal l[j] pq.1 pq.2 i = v → w.cell? ⟨b, o + j * 5 + i, none⟩ = some v) ∧ View w B pq.1 (.l (l[j].pa.map dS)) ∧ View w B pq.2 (.l (l[j].ps.map dPp)) := fun j => by
      by_cases hj : j < l.length
      · obtain ⟨pa, pc, qa, qc, ⟨c0, c1, c2, c3, c4⟩, p⟩ := hc j hj
        refine ⟨(.slice pa l[j].pa.length pc, .slice qa l[j].ps.length qc), fun _ => ⟨fun i v hi hv => ?_, view_of_strs p.ph p.pl p.pm p.pn, view_of_pps p.qh p.ql p.qm p.qn⟩⟩
        subst hv
        match i, hi with
        | 0, _ => exact c0
        | 1, _ => exact c1
        | 2, _ => exact c2
        | 3, _ => exact c3
        | 4, _ => exact c4
      · exact ⟨(.bool false, .bool false), fun h => absurd h hj⟩
    have e : l.length = (l.map dRs).length := (List.length_map ..).symm
    rw [e]
    refine .row b o cap 5 _ (fun j i => match l[j]? with | some r => rsVal r (Classical.choose (each j)).1 (Classical.choose (each j)).2 i | none => .bool false) hb (by rw [← e]; exact h1) h2 (fun r hr => by obtain ⟨x, _, rfl⟩ := List.mem_map.1 hr; rfl) (fun j i x hx => ?_) (fun j i x hx => ?_)
    · unfold cellAt at hx
      by_cases hj : j < l.length
      · rw [map_at dRs l j hj] at hx
        have hi : i < 5 := (List.getElem?_eq_some_iff.1 hx).1
        rw [List.getElem?_eq_getElem hj]
        exact (Classical.choose_spec (each j) hj).1 i _ hi rfl
      · rw [List.getElem?_eq_none (by simp; omega)] at hx; cases hx
    · unfold cellAt at hx
      by_cases hj : j < l.length
      · rw [map_at dRs l j hj] at hx
        rw [List.getElem?_eq_getElem hj]
        match i with
        | 0 => cases hx; exact (Classical.choose_spec (each j) hj).2.1
        | 1 => cases hx; exact .c _
        | 2 => cases hx; exact .c _
        | 3 => cases hx; exact .c _
        | 4 => cases hx; exact (Classical.choose_spec (each j) hj).2.2
        | i + 5 => cases hx
      · rw [List.getElem?_eq_none (by simp; omega)] at hx; cases hx
  · have : l = [] := List.eq_nil_of_length_eq_zero (by omega)
    subst this
    exact .nil a cap h3 h2
theorem own_of_rowP {w : World} {p c : Nat} {l : List Pp} (h : RowP w p l) (h1 : l.length ≤ c) (h2 : c ≤ maxLen) : Own w (.slice (some ⟨p, 0, none⟩) l.length c) (.l (l.map dPp)) (fun y => y = p) := by
  have e : l.length = (l.map dPp).length := (List.length_map ..).symm
  rw [e]
  refine RowG.own (R := rowsF dPp l) (K := 3) (o := 0) (C := fun j i => match l[j]? with | some r => ppVal r i | none => .bool false) (Sf := fun _ _ _ => False) ⟨rfl, h.1, fun j hj => by rw [rowsF_at l j (by simpa using hj)]; rfl, fun j i hj hi => ?_, fun j i x hj hx => ?_, fun j i y hy => hy.elim, fun j i j' i' y _ hy => hy.elim⟩ (fun j hj => by rw [rowsF_at l j (by simpa using hj)]; simp) (by rw [← e]; exact h1) h2
  · have hj' : j < l.length := by simpa using hj
    obtain ⟨c0, c1, c2⟩ := h.2.1 j hj'
    rw [List.getElem?_eq_getElem hj', Nat.zero_add]
    refine ⟨?_, h.2.2 _⟩
    match i, hi with
    | 0, _ => exact c0
    | 1, _ => exact c1
    | 2, _ => exact c2
  · have hj' : j < l.length := by simpa using hj
    rw [rowsF_at l j hj'] at hx
    rw [List.getElem?_eq_getElem hj']
    match i with
    | 0 => cases hx; exact .c _ _
    | 1 => cases hx; exact .c _ _
    | 2 => cases hx; exact .c _ _
    | i + 3 => cases hx
theorem own_of_ownR {w : World} {lo hi g : Nat} {l : List Rs} {pb qb : Nat → Nat} (h : OwnR w lo hi g l pb qb) (hm : l.length ≤ maxLen) (hs : ∀ r ∈ l, r.pa.length ≤ maxLen ∧ r.ps.length ≤ maxLen) : Own w (.slice (some ⟨g, 0, none⟩) l.length l.length) (.l (l.map dRs)) (IvG lo hi) := by
  have e : l.length = (l.map dRs).length := (List.length_map ..).symm
  rw [e]
  refine RowG.own (R := rowsF dRs l) (K := 5) (o := 0) (C := fun j i => match l[j]? with | some r => rsVal r (.slice (some ⟨pb j, 0, none⟩) r.pa.length r.pa.length) (.slice (some ⟨qb j, 0, none⟩) r.ps.length r.ps.length) i | none => .bool false) (Sf := fun j i y => j < l.length ∧ ((i = 0 ∧ y = pb j) ∨ (i = 4 ∧ y = qb j))) ⟨⟨h.gl, h.gh⟩, h.gs, fun j hj => by rw [rowsF_at l j (by simpa using hj)]; rfl, fun j i hj hi => ?_, fun j i x hj hx => ?_, fun j i y hy => ?_, fun j i j' i' y hne hy hy' => ?_⟩ (fun j hj => by rw [rowsF_at l j (by simpa using hj)]; simp) (by rw [← e]; exact Nat.le_refl _) (by rw [← e]; exact hm)
  · have hj' : j < l.length := by simpa using hj
    obtain ⟨c0, c1, c2, c3, c4⟩ := h.cl j hj'
    rw [List.getElem?_eq_getElem hj', Nat.zero_add]
    refine ⟨?_, h.fz _⟩
    match i, hi with
    | 0, _ => exact c0
    | 1, _ => exact c1
    | 2, _ => exact c2
    | 3, _ => exact c3
    | 4, _ => exact c4
  · have hj' : j < l.length := by simpa using hj
    have hss := hs _ (List.getElem_mem hj')
    rw [rowsF_at l j hj'] at hx
    rw [List.getElem?_eq_getElem hj']
    match i with
    | 0 => cases hx; exact (own_of_rowS (h.rp j hj') (Nat.le_refl _) hss.1).wide (fun y hy => ⟨hj', .inl ⟨rfl, hy⟩⟩)
    | 1 => cases hx; exact .c _ _
    | 2 => cases hx; exact .c _ _
    | 3 => cases hx; exact .c _ _
    | 4 => cases hx; exact (own_of_rowP (h.rq j hj') (Nat.le_refl _) hss.2).wide (fun y hy => ⟨hj', .inr ⟨rfl, hy⟩⟩)
    | i + 5 => cases hx
  · obtain ⟨hj, hy⟩ := hy
    obtain ⟨b1, b2, b3, b4, b5⟩ := h.bnd j hj
    rcases hy with ⟨_, rfl⟩ | ⟨_, rfl⟩
    · exact ⟨⟨b1, by omega⟩, b4⟩
    · exact ⟨⟨by omega, b3⟩, b5⟩
  · obtain ⟨hj, h1⟩ := hy
    obtain ⟨hj2, h2⟩ := hy'
    obtain ⟨b1, b2, b3, b4, b5⟩ := h.bnd j hj
    rcases Nat.lt_trichotomy j j' with hh | hh | hh
    · obtain ⟨o1, o2, o3, o4⟩ := h.ord j j' hh hj2
      rcases h1 with ⟨_, e1⟩ | ⟨_, e1⟩ <;> rcases h2 with ⟨_, e2⟩ | ⟨_, e2⟩ <;> omega
    · subst hh
      rcases h1 with ⟨i1, e1⟩ | ⟨i1, e1⟩ <;> rcases h2 with ⟨i2, e2⟩ | ⟨i2, e2⟩ <;> omega
    · obtain ⟨o1, o2, o3, o4⟩ := h.ord j' j hh hj
      rcases h1 with ⟨_, e1⟩ | ⟨_, e1⟩ <;> rcases h2 with ⟨_, e2⟩ | ⟨_, e2⟩ <;> omega
/-- What the sizes say. -/
theorem sz_dS (l : List ByteArray) : szRs (l.map dS) = l.length + sumS l := by
  induction l with
  | nil => simp [szRs, sumS]
  | cons x l ih => rw [List.map_cons, szRs_cons, ih]; simp [dS, szR, szF, szV, sumS]; omega
theorem sz_dPp (l : List Pp) : szRs (l.map dPp) = l.length + sumP l := by
  induction l with
  | nil => simp [szRs, sumP]
  | cons x l ih => rw [List.map_cons, szRs_cons, ih]; simp [dPp, szR, szF, szV, sumP, szP]; omega
theorem sz_dRs (r : Rs) : szR (dRs r) = r.pa.length + sumS r.pa + r.bo.size + r.ps.length + sumP r.ps := by
  simp [dRs, szR, szF, szV, sz_dS, sz_dPp]
  omega
theorem rs_len {l : List Rs} {N : Nat} (h : szRs (l.map dRs) ≤ N) : l.length ≤ N := by
  have := szRs_len (l.map dRs)
  rw [List.length_map] at this
  omega
theorem rs_small {l : List Rs} {N : Nat} (h : szRs (l.map dRs) ≤ N) : ∀ r ∈ l, r.pa.length + sumS r.pa + r.bo.size + r.ps.length + sumP r.ps ≤ N := fun r hr => by
  have h1 := szRs_mem _ _ (List.mem_map_of_mem (f := dRs) hr)
  rw [sz_dRs] at h1
  omega
theorem rs_short {l : List Rs} (h : szRs (l.map dRs) ≤ 1048576) : ShortT l := fun r hr => by
  have h1 := rs_small h r hr
  have hm : (1048576 : Nat) ≤ maxLen := by unfold maxLen; omega
  refine ⟨by omega, fun s hs => ?_, by omega, by omega, fun p hp => ?_⟩
  · have := sumS_mem _ s hs; omega
  · have := sumP_mem _ p hp; unfold szP at this; exact ⟨by omega, by omega, by omega⟩
end Go.Proofs.Ytckhjemojopekaa
namespace Go.Proofs.Ytckhjemojopekaa
open Go.RowKit M
set_option linter.unusedVariables false

/-- What a server's four lists hold, in blocks below B. -/
structure SvIn (w : World) (B : Nat) (x : Sv) (ta : Option Addr) (tc : Nat) (la : Option Addr) (lc : Nat) (da : Option Addr) (dc : Nat) (ua : Option Addr) (uc : Nat) : Prop where
  th : Rss w B ta x.t
  lh : Lks w B la x.l
  dh : Ints w B da x.dr
  uh : Ints w B ua x.us
  tl : x.t.length ≤ tc ∧ tc ≤ maxLen ∧ (ta = none → tc = 0)
  ll : x.l.length ≤ lc ∧ lc ≤ maxLen ∧ (la = none → lc = 0)
  dl : x.dr.length ≤ dc ∧ dc ≤ maxLen ∧ (da = none → dc = 0)
  ul : x.us.length ≤ uc ∧ uc ≤ maxLen ∧ (ua = none → uc = 0)
theorem SvIn.below {w w' : World} {B C : Nat} {x : Sv} {ta : Option Addr} {tc : Nat} {la : Option Addr} {lc : Nat} {da : Option Addr} {dc : Nat} {ua : Option Addr} {uc : Nat} (h : SvIn w B x ta tc la lc da dc ua uc) (hb : Below C w w') (hB : B ≤ C) : SvIn w' B x ta tc la lc da dc ua uc :=
  ⟨h.th.below hb hB, h.lh.below hb hB, h.dh.below hb hB, h.uh.below hb hB, h.tl, h.ll, h.dl, h.ul⟩
theorem svIn_of_view {w : World} {B : Nat} {x : Sv} {u0 u1 u4 u5 : Value} (h0 : View w B u0 (.l (x.t.map dRs))) (h1 : View w B u1 (.l (x.l.map dLk))) (h4 : View w B u4 (.l (x.dr.map dI))) (h5 : View w B u5 (.l (x.us.map dI))) :
    ∃ ta tc la lc da dc ua uc, u0 = .slice ta x.t.length tc ∧ u1 = .slice la x.l.length lc ∧ u4 = .slice da x.dr.length dc ∧ u5 = .slice ua x.us.length uc ∧ SvIn w B x ta tc la lc da dc ua uc := by
  obtain ⟨ta, tc, rfl, a1, a2, a3, a4⟩ := rss_of_view h0
  obtain ⟨la, lc, rfl, b1, b2, b3, b4⟩ := lks_of_view h1
  obtain ⟨da, dc, rfl, c1, c2, c3, c4⟩ := ints_of_view h4
  obtain ⟨ua, uc, rfl, d1, d2, d3, d4⟩ := ints_of_view h5
  exact ⟨ta, tc, la, lc, da, dc, ua, uc, rfl, rfl, rfl, rfl, ⟨a4, b4, c4, d4, ⟨a1, a2, a3⟩, ⟨b1, b2, b3⟩, ⟨c1, c2, c3⟩, ⟨d1, d2, d3⟩⟩⟩

theorem sz_dI (l : List Int) : szRs (l.map dI) = l.length := szRs_flat dI (fun _ => by simp [dI, szR, szF, szV]) l
theorem sz_dSv (x : Sv) : szR (dSv x) = szRs (x.t.map dRs) + szRs (x.l.map dLk) + x.dr.length + x.us.length := by
  simp [dSv, szR, szF, szV, sz_dI]
  omega
/-- What follows of its size. -/
structure SvSmall (x : Sv) : Prop where
  t : szRs (x.t.map dRs) ≤ 1048576
  l : szRs (x.l.map dLk) ≤ 1048576
  d : x.dr.length ≤ 1048576
  u : x.us.length ≤ 1048576
theorem sv_small {x : Sv} (h : szR (dSv x) ≤ 1048576) : SvSmall x := by
  rw [sz_dSv] at h
  exact ⟨by omega, by omega, by omega, by omega⟩
theorem SvSmall.tlen {x : Sv} (h : SvSmall x) : x.t.length ≤ 1048576 := rs_len h.t
theorem SvSmall.llen {x : Sv} (h : SvSmall x) : x.l.length ≤ 1048576 := lk_len h.l
theorem SvSmall.tshort {x : Sv} (h : SvSmall x) : ShortT x.t := rs_short h.t
theorem SvSmall.tpa {x : Sv} (h : SvSmall x) : ∀ r ∈ x.t, r.pa.length ≤ 1048576 ∧ r.ps.length ≤ 1048576 := fun r hr => by
  have := rs_small h.t r hr
  exact ⟨by omega, by omega⟩
theorem SvSmall.lshort {x : Sv} (h : SvSmall x) : ShortK x.l := fun r hr => by
  have := lk_small h.l r hr
  exact ⟨by unfold maxLen; omega, fun s hs => by have := this.2 s hs; unfold maxLen; omega⟩
theorem SvSmall.lpa {x : Sv} (h : SvSmall x) : ∀ r ∈ x.l, r.pa.length ≤ 1048576 ∧ ∀ s ∈ r.pa, s.size ≤ 281474976710656 := fun r hr => by
  have := lk_small h.l r hr
  exact ⟨by omega, fun s hs => by have := this.2 s hs; omega⟩
theorem SvSmall.tsz {x : Sv} (h : SvSmall x) : ∀ r ∈ x.t, r.pa.length ≤ 1048576 ∧ r.ps.length ≤ 1048576 ∧ (∀ s ∈ r.pa, s.size ≤ 281474976710656) ∧ r.bo.size ≤ 281474976710656 ∧ ∀ p ∈ r.ps, p.1.size ≤ 281474976710656 ∧ p.2.1.size ≤ 281474976710656 ∧ p.2.2.size ≤ 281474976710656 := fun r hr => by
  have := rs_small h.t r hr
  exact ⟨by omega, by omega, fun s hs => by have := sumS_mem _ s hs; omega, by omega, fun p hp => by have := sumP_mem _ p hp; unfold szP at this; exact ⟨by omega, by omega, by omega⟩⟩
end Go.Proofs.Ytckhjemojopekaa
namespace Go.Proofs.Ytckhjemojopekaa
open Go.RowKit M
set_option linter.unusedVariables false

theorem ret_intS {a b : Int} (h : a = b) : Ending.returned (.int .i64 a) = .returned (.int .i64 b) := by rw [h]

set_option maxHeartbeats 1000000 in
theorem specFind_any (a : Option Addr) (rs : List Rs) (cap B : Nat) (a' : Option Addr) (p : List ByteArray) (cap' C : Nat) (w : World) (h : Rss w B a rs) (h' : Strs w C a' p) (hl : rs.length ≤ maxLen) (hl' : p.length ≤ maxLen) :
    Calls Try.prog 51 #[.slice a rs.length cap, .slice a' p.length cap'] w fun e w' => e = .returned (.int .i64 (findI rs p)) ∧ ∀ D, Below D w w' := by
  unfold maxLen at hl
  go_enter Try.func51, Try.ntmps51
  go_wp2
  go_loopw [5] (fun i wr => ∃ k : Nat, k ≤ rs.length ∧ i = .int .i64 k ∧ (∀ j (hj : j < rs.length), j < k → sameL rs[j].pa p = false) ∧ ∀ D, Below D w wr) (fun i _ => rs.length - (intOf i).toNat)
  case atStart => exact ⟨0, Nat.zero_le _, rfl, fun j _ hj => absurd hj (Nat.not_lt_zero _), fun D => Below.refl _ _⟩
  case round =>
    obtain ⟨k, hk, rfl, ht, hbe⟩ := hrel
    have HT := hide ht
    clear ht
    by_cases hlt : k < rs.length
    · obtain ⟨b, o, rfl, hb, hcc⟩ := (h.below (hbe B) (Nat.le_refl _)) (by omega)
      obtain ⟨pa, pc, qa, qc, ⟨hc0, hc1, hc2, hc3, hc4⟩, hin⟩ := hcc k hlt
      clear hcc
      have HC := hide (specSamePath_any pa a' rs[k].pa p pc cap' B C wr hin.ph (h'.below (hbe C) (Nat.le_refl _)) (Nat.le_trans hin.pl hin.pm) hl')
      obtain ⟨z, hz⟩ : ∃ z, sameL rs[k].pa p = z := ⟨_, rfl⟩
      rw [hz] at HC
      have HZ := hide hz
      clear hz hin
      go_wp2_with fail
      refine HC.out.mono ?_
      rintro e w1 ⟨rfl, hb1⟩
      have c1 : ∀ D, Below D w w1 := fun D => (hbe D).trans (hb1 D)
      clear HC
      cases z
      · go_wp2
        go_roundw
        case rel => exact ⟨k + 1, by omega, by go_num, fun j hj hjk => by
                      by_cases e : j = k
                      · subst e; exact HZ.out
                      · exact HT.out j hj (by omega), c1⟩
        case measure => simp [intOf]; omega
      · go_wp2
        go_ret
        exact ⟨ret_intS (findI_at k hlt HT.out HZ.out).symm, c1⟩
    · have HE := hide (findI_none (rs := rs) (p := p) (fun j hj => HT.out j hj (by omega)))
      go_wp2
      go_ret
      exact ⟨ret_intS HE.out.symm, hbe⟩
end Go.Proofs.Ytckhjemojopekaa
namespace Go.Proofs.Ytckhjemojopekaa
open Go.RowKit M
set_option linter.unusedVariables false

set_option maxRecDepth 100000 in
set_option maxHeartbeats 4000000 in
theorem specTagAt_any (x : Sv) (p : List ByteArray) (ta : Option Addr) (tc : Nat) (la : Option Addr) (lc : Nat) (da : Option Addr) (dc : Nat) (ua : Option Addr) (uc B : Nat) (a : Option Addr) (cap D : Nat) (w : World) (h : SvIn w B x ta tc la lc da dc ua uc) (hB : B ≤ w.heap.size) (hs : SvSmall x) (hp : Strs w D a p) (hD : D ≤ w.heap.size) (hpl : p.length ≤ maxLen) (hv : ∀ r ∈ x.t, r.ve ≤ 9223372036854775807) :
    Calls Try.prog 29 #[.agg #[.slice ta x.t.length tc, .slice la x.l.length lc, .int .i64 x.now, .int .i64 x.ver, .slice da x.dr.length dc, .slice ua x.us.length uc], .slice a p.length cap] w fun e w' => e = .returned (.tuple #[.string (tagAtT x p), .bool (tagAtB x p)]) ∧ Below w.heap.size w w' := by
  have K0 := hide (show Below w.heap.size w (w.alloc (Obj.cells #[.slice ta x.t.length tc, .slice la x.l.length lc, .int .i64 x.now, .int .i64 x.ver, .slice da x.dr.length dc, .slice ua x.us.length uc] 47)) from (Below.refl _ _).alloc (Nat.le_refl _) _)
  have X0 := hide (BoxV.made w [.slice ta x.t.length tc, .slice la x.l.length lc, .int .i64 x.now, .int .i64 x.ver, .slice da x.dr.length dc, .slice ua x.us.length uc] 47)
  have HT := hide (fun W (hb : Below w.heap.size w W) => h.th.below hb hB)
  have HF := hide (fun W (hb : Below w.heap.size w W) => (specFind_any ta x.t tc B a p cap D W (h.th.below hb hB) (hp.below hb hD) (Nat.le_trans h.tl.1 h.tl.2.1) hpl).mono (fun e w2 (q : _ ∧ _) => (⟨q.1, q.2 W.heap.size⟩ : _ ∧ Below W.heap.size W w2)))
  have HG := hide (fun (n : Int) (W : World) (hb : Below w.heap.size w W) (hn : n ≤ 9223372036854775807) => specTagText_any n W hn)
  have hm : x.t.length ≤ 1048576 := hs.tlen
  have HV := hide hv
  by_cases h0 : p.length = 0
  · obtain ⟨r1, r2⟩ := tagAt_root x p h0
    rw [r1, r2]
    have hi : (p.length : Int) = 0 := by omega
    clear h hs hp hv r1 r2 HF HT HV
    have HQ := hide (HG.out 0 _ K0.out (by decide))
    obtain ⟨d, hd⟩ : ∃ d : ByteArray, tagV 0 = d := ⟨_, rfl⟩
    unfold tagV at hd
    rw [hd] at HQ
    unfold tagV
    rw [hd]
    clear hd h0 HG
    go_enter Try.func29, Try.ntmps29
    go_wp2_with fail
    refine HQ.out.mono ?_
    rintro e w1 ⟨rfl, b1⟩
    have K1 := hide (K0.out.trans (b1.mono K0.out.size))
    clear b1
    go_wp2
    go_ret2
    exact ⟨rfl, K1.out⟩
  have hi : ¬ (p.length : Int) = 0 := by omega
  rcases findI_cases x.t p with h2 | ⟨k, hk, h2, _⟩
  · obtain ⟨r1, r2⟩ := tagAt_none x p h0 h2
    rw [r1, r2]
    rw [h2] at HF
    have x0 := (X0.out.2 0 _ rfl).1
    clear h hs hp hv r1 r2 HV HG h0 HT h2
    go_enter Try.func29, Try.ntmps29
    go_wp2_with fail
    refine (HF.out _ K0.out).mono ?_
    rintro e w1 ⟨rfl, b1⟩
    have K1 := hide (K0.out.trans (b1.mono K0.out.size))
    clear b1 x0
    go_wp2
    go_ret2
    exact ⟨rfl, K1.out⟩
  · obtain ⟨r1, r2⟩ := tagAt_some x p h0 k hk h2
    rw [r1, r2]
    rw [h2] at HF
    have x0 := (X0.out.2 0 _ rfl).1
    obtain ⟨d, hd⟩ : ∃ d : ByteArray, tagV x.t[k].ve = d := ⟨_, rfl⟩
    rw [hd]
    unfold tagV at hd
    have HD := hide hd
    clear hd
    have hk0 : ¬ ((k : Int) < 0) := by omega
    have hk1 : (k : Int) < (x.t.length : Int) := by omega
    have hk2 : (0 : Int) ≤ (k : Int) := by omega
    clear h hs hp hv r1 r2 h0 h2
    go_enter Try.func29, Try.ntmps29
    go_wp2_with fail
    refine (HF.out _ K0.out).mono ?_
    rintro e w1 ⟨rfl, b1⟩
    have K1 := hide (K0.out.trans (b1.mono K0.out.size))
    have X1 := hide (X0.out.next b1)
    clear b1 x0 K0 X0 HF
    have x1 := (X1.out.2 0 _ rfl).1
    obtain ⟨b, o, hta, hbB, hc⟩ := HT.out _ K1.out (by omega)
    obtain ⟨pa, pc, qa, qc, hat, hin⟩ := hc k hk
    subst hta
    have c3 := hat.2.2.2.1
    have HQ := hide (HG.out x.t[k].ve _ K1.out (HV.out _ (List.getElem_mem hk)))
    rw [HD.out] at HQ
    clear HD hc hat hin HG HV HT hbB
    go_wp2_with fail
    refine HQ.out.mono ?_
    rintro e w2 ⟨rfl, b2⟩
    have K2 := hide (K1.out.trans (b2.mono K1.out.size))
    clear b2
    go_wp2
    go_ret2
    exact ⟨rfl, K2.out⟩
end Go.Proofs.Ytckhjemojopekaa
namespace Go.Proofs.Ytckhjemojopekaa
open Go.RowKit M
set_option linter.unusedVariables false

theorem ve_wf {x : Sv} (ok : okR (dSv x)) : ∀ r ∈ x.t, r.ve ≤ 9223372036854775807 := fun r hr => by
  have h1 := okR_mem ok (.l (x.t.map dRs)) (by simp [dSv])
  have h2 := (okRs_mem _ h1.1 (dRs r) (List.mem_map_of_mem hr)).1
  have h3 : (Lit.int .i64 r.ve).wf = true := okR_mem h2 (.c (.int .i64 r.ve)) (by simp [dRs])
  have := bounds_i64 h3
  omega
theorem specTagAt_gen (x : Sv) (p : List ByteArray) (u0 u1 u4 u5 v : Value) (W : World) (h0 : View W W.heap.size u0 (.l (x.t.map dRs))) (h1 : View W W.heap.size u1 (.l (x.l.map dLk))) (h4 : View W W.heap.size u4 (.l (x.dr.map dI))) (h5 : View W W.heap.size u5 (.l (x.us.map dI))) (hv : View W W.heap.size v (.l (p.map dS))) (hsz : szR (dSv x) ≤ 1048576) (ok : okR (dSv x)) :
    Calls Try.prog 29 #[.agg #[u0, u1, .int .i64 x.now, .int .i64 x.ver, u4, u5], v] W fun e w' => e = .returned (.tuple #[.string (tagAtT x p), .bool (tagAtB x p)]) ∧ Below W.heap.size W w' := by
  obtain ⟨ta, tc, la, lc, da, dc, ua, uc, rfl, rfl, rfl, rfl, h⟩ := svIn_of_view h0 h1 h4 h5
  obtain ⟨a, cap, rfl, k1, k2, k3, k4⟩ := strs_of_view hv
  exact specTagAt_any x p ta tc la lc da dc ua uc W.heap.size a cap W.heap.size W h (Nat.le_refl _) (sv_small hsz) k4 (Nat.le_refl _) (Nat.le_trans k1 k2) (ve_wf ok)
end Go.Proofs.Ytckhjemojopekaa
namespace Go.Proofs.Ytckhjemojopekaa
open Go.RowKit M

def dAk (x : Ak) : List Lf := [.l (x.pa.map dS), .l (x.to.map dS), .c (.bool x.de), .c (.bool x.ov), .l (x.tk.map dI), .c (.int .i64 x.co)]
end Go.Proofs.Ytckhjemojopekaa
