/-
  The leafs of texts and numbers.
  The leafs of a lock.
  Views and rows of locks: one as the other.
  AddLock on both sides, over views.
  A help of the laws, by program (tools/gen_help.py): Szz of String.
  A help of the laws, by program (tools/gen_help.py): Sz1 of Lock.
  A help of the laws, by program (tools/gen_help.py): Szz of Lock.
  A help of the laws, by program (tools/gen_help.py): Too of String.
  A help of the laws, by program (tools/gen_help.py): To1 of Lock.
  A help of the laws, by program (tools/gen_help.py): Too of Lock.
  A help of the laws, by program (tools/gen_help.py): Eqq of String.
  A help of the laws, by program (tools/gen_help.py): Eq1 of Lock.
-/
import Derived.Test.YtackgogcpdbnlabGenOwn
import Derived.Test.YtackgogcpdbnlabGenPick
import Derived.Test.YtackgogcpdbnlabGenBox
import Derived.Test.YtackgogcpdbnlabAddI
import Derived.Test.YtackgogcpdbnlabSpecAdd
import Derived.Test.YtackgogcpdbnlabRows
import Derived.WalkKit
import Derived.WalkSpells
import Derived.WalkLawsBesides
import Derived.Deep.Light
import Derived.Deep.QuietTactic
import Derived.Deep.RegionHeld3
namespace Go.Proofs.Ytackgogcpdbnlab
open Go.RowKit M
set_option linter.unusedVariables false

def dS (s : ByteArray) : List Lf := [.c (.string s)]
def dI (n : Int) : List Lf := [.c (.int .i64 n)]
def dB (n : Int) : List Lf := [.c (.int .u8 n)]
theorem cntRs_map {α : Type} (f : α → List Lf) (c : Nat) (h : ∀ x, cntR (f x) = c) (l : List α) : cntRs (l.map f) = c * l.length := by
  induction l with
  | nil => simp [cntRs]
  | cons x l ih => rw [List.map_cons, cntRs_cons, ih, h, List.length_cons, Nat.mul_add]; omega
theorem cnt_lenF {α : Type} (f : α → List Lf) (h : ∀ x, 1 ≤ cntR (f x)) (l : List α) : l.length ≤ cntRs (l.map f) := by
  induction l with
  | nil => simp
  | cons x l ih => rw [List.map_cons, cntRs_cons, List.length_cons]; have := h x; omega
theorem szRs_flat {α : Type} (f : α → List Lf) (h : ∀ x, szR (f x) = 0) (l : List α) : szRs (l.map f) = l.length := by
  induction l with
  | nil => simp [szRs]
  | cons x l ih => rw [List.map_cons, szRs_cons, ih, h, List.length_cons]; omega
theorem szRs_sub {a b : List (List Lf)} (h : List.Sublist a b) : szRs a ≤ szRs b := by
  induction h with
  | slnil => exact Nat.le_refl _
  | cons x _ ih => rw [szRs_cons]; omega
  | cons_cons x _ ih => rw [szRs_cons, szRs_cons]; omega
theorem okR_mem {r : List Lf} (h : okR r) (x : Lf) (hx : x ∈ r) : okF x := by
  induction r with
  | nil => cases hx
  | cons y r ih =>
    unfold okR at h
    rcases List.mem_cons.1 hx with rfl | hx
    · exact h.1
    · exact ih h.2 hx
theorem cnt_dS (l : List ByteArray) : cntRs (l.map dS) = l.length := by rw [cntRs_map dS 1 (fun _ => by simp [dS, cntR, cntF])]; omega
theorem cnt_dI (l : List Int) : cntRs (l.map dI) = l.length := by rw [cntRs_map dI 1 (fun _ => by simp [dI, cntR, cntF])]; omega
theorem cnt_dB (l : List Int) : cntRs (l.map dB) = l.length := by rw [cntRs_map dB 1 (fun _ => by simp [dB, cntR, cntF])]; omega
end Go.Proofs.Ytackgogcpdbnlab
namespace Go.Proofs.Ytackgogcpdbnlab
open Go.RowKit M

def dLk (x : Lk) : List Lf := [.c (.int .i64 x.tk), .l (x.pa.map dS), .c (.bool x.de), .c (.bool x.sh), .c (.int .i64 x.un)]
end Go.Proofs.Ytackgogcpdbnlab
namespace Go.Proofs.Ytackgogcpdbnlab
open Go.RowKit M
set_option linter.unusedVariables false

theorem strs_of_view {w : World} {B : Nat} {v : Value} {l : List ByteArray} (h : View w B v (.l (l.map dS))) : ∃ a cap, v = .slice a l.length cap ∧ l.length ≤ cap ∧ cap ≤ maxLen ∧ (a = none → cap = 0) ∧ Strs w B a l := by
  obtain ⟨a, cap, h1, h2, h3, h4, h5⟩ := h.rows 1 (fun _ => rfl)
  refine ⟨a, cap, h1, h2, h3, h4, fun h0 => ?_⟩
  obtain ⟨b, o, C, e, hb, hc⟩ := h5 h0
  refine ⟨b, o, e, hb, fun j hj => ?_⟩
  obtain ⟨c, v⟩ := hc j hj 0 (.c (.string l[j])) rfl
  rw [v.inv] at c
  simpa using c
theorem view_of_strs {w : World} {B : Nat} {a : Option Addr} {cap : Nat} {l : List ByteArray} (h : Strs w B a l) (h1 : l.length ≤ cap) (h2 : cap ≤ maxLen) (h3 : a = none → cap = 0) : View w B (.slice a l.length cap) (.l (l.map dS)) := by
  by_cases h0 : 0 < l.length
  · obtain ⟨b, o, rfl, hb, hc⟩ := h h0
    have e : l.length = (l.map dS).length := (List.length_map ..).symm
    rw [e]
    refine .row b o cap 1 _ (fun j i => match l[j]? with | some s => .string s | none => .bool false) hb (by rw [← e]; exact h1) h2 (fun r hr => by obtain ⟨x, _, rfl⟩ := List.mem_map.1 hr; rfl) (fun j i x hx => ?_) (fun j i x hx => ?_)
    all_goals
      unfold cellAt at hx
      by_cases hj : j < l.length
      · rw [map_at dS l j hj] at hx
        match i with
        | 0 => cases hx; rw [List.getElem?_eq_getElem hj]; first | exact .c _ | (have := hc j hj; simpa using this)
        | i + 1 => cases hx
      · rw [List.getElem?_eq_none (by simp; omega)] at hx; cases hx
  · have : l = [] := List.eq_nil_of_length_eq_zero (by omega)
    subst this
    exact .nil a cap h3 h2
theorem lks_of_view {w : World} {B : Nat} {v : Value} {l : List Lk} (h : View w B v (.l (l.map dLk))) : ∃ a cap, v = .slice a l.length cap ∧ l.length ≤ cap ∧ cap ≤ maxLen ∧ (a = none → cap = 0) ∧ Lks w B a l := by
  obtain ⟨a, cap, h1, h2, h3, h4, h5⟩ := h.rows 5 (fun _ => rfl)
  refine ⟨a, cap, h1, h2, h3, h4, fun h0 => ?_⟩
  obtain ⟨b, o, C, e, hb, hc⟩ := h5 h0
  refine ⟨b, o, e, hb, fun j hj => ?_⟩
  obtain ⟨c0, v0⟩ := hc j hj 0 (.c (.int .i64 l[j].tk)) rfl
  obtain ⟨c1, v1⟩ := hc j hj 1 (.l (l[j].pa.map dS)) rfl
  obtain ⟨c2, v2⟩ := hc j hj 2 (.c (.bool l[j].de)) rfl
  obtain ⟨c3, v3⟩ := hc j hj 3 (.c (.bool l[j].sh)) rfl
  obtain ⟨c4, v4⟩ := hc j hj 4 (.c (.int .i64 l[j].un)) rfl
  obtain ⟨pa, pc, e1, p1, p2, p3, p4⟩ := strs_of_view v1
  rw [v0.inv] at c0
  rw [e1] at c1
  rw [v2.inv] at c2
  rw [v3.inv] at c3
  rw [v4.inv] at c4
  exact ⟨pa, pc, ⟨c0, c1, c2, c3, c4⟩, ⟨p4, p1, p2, p3⟩⟩
def lkVal (r : Lk) (pv : Value) (i : Nat) : Value := (([.int .i64 r.tk, pv, .bool r.de, .bool r.sh, .int .i64 r.un] : List Value)[i]?).getD (.bool false)
theorem view_of_lks {w : World} {B : Nat} {a : Option Addr} {cap : Nat} {l : List Lk} (h : Lks w B a l) (h1 : l.length ≤ cap) (h2 : cap ≤ maxLen) (h3 : a = none → cap = 0) : View w B (.slice a l.length cap) (.l (l.map dLk)) := by
  by_cases h0 : 0 < l.length
  · obtain ⟨b, o, rfl, hb, hc⟩ := h h0
    have each : ∀ j, ∃ pv : Value, ∀ hj : j < l.length, (∀ i v, i < 5 → lkVal l[j] pv i = v → w.cell? ⟨b, o + j * 5 + i, none⟩ = some v) ∧ View w B pv (.l (l[j].pa.map dS)) := fun j => by
      by_cases hj : j < l.length
      · obtain ⟨pa, pc, ⟨c0, c1, c2, c3, c4⟩, p⟩ := hc j hj
        refine ⟨.slice pa l[j].pa.length pc, fun _ => ⟨fun i v hi hv => ?_, view_of_strs p.ph p.pl p.pm p.pn⟩⟩
        subst hv
        match i, hi with
        | 0, _ => exact c0
        | 1, _ => exact c1
        | 2, _ => exact c2
        | 3, _ => exact c3
        | 4, _ => exact c4
      · exact ⟨.bool false, fun h => absurd h hj⟩
    have e : l.length = (l.map dLk).length := (List.length_map ..).symm
    rw [e]
    refine .row b o cap 5 _ (fun j i => match l[j]? with | some r => lkVal r (Classical.choose (each j)) i | none => .bool false) hb (by rw [← e]; exact h1) h2 (fun r hr => by obtain ⟨x, _, rfl⟩ := List.mem_map.1 hr; rfl) (fun j i x hx => ?_) (fun j i x hx => ?_)
    · unfold cellAt at hx
      by_cases hj : j < l.length
      · rw [map_at dLk l j hj] at hx
        have hi : i < 5 := (List.getElem?_eq_some_iff.1 hx).1
        rw [List.getElem?_eq_getElem hj]
        exact (Classical.choose_spec (each j) hj).1 i _ hi rfl
      · rw [List.getElem?_eq_none (by simp; omega)] at hx; cases hx
    · unfold cellAt at hx
      by_cases hj : j < l.length
      · rw [map_at dLk l j hj] at hx
        rw [List.getElem?_eq_getElem hj]
        match i with
        | 0 => cases hx; exact .c _
        | 1 => cases hx; exact (Classical.choose_spec (each j) hj).2
        | 2 => cases hx; exact .c _
        | 3 => cases hx; exact .c _
        | 4 => cases hx; exact .c _
        | i + 5 => cases hx
      · rw [List.getElem?_eq_none (by simp; omega)] at hx; cases hx
  · have : l = [] := List.eq_nil_of_length_eq_zero (by omega)
    subst this
    exact .nil a cap h3 h2
theorem own_of_rowS {w : World} {p c : Nat} {l : List ByteArray} (h : RowS w p l) (h1 : l.length ≤ c) (h2 : c ≤ maxLen) : Own w (.slice (some ⟨p, 0, none⟩) l.length c) (.l (l.map dS)) (fun y => y = p) := by
  have e : l.length = (l.map dS).length := (List.length_map ..).symm
  rw [e]
  refine RowG.own (R := rowsF dS l) (K := 1) (o := 0) (C := fun j i => .string ((l[j]?).getD ByteArray.empty)) (Sf := fun _ _ _ => False) ⟨rfl, h.1, fun j hj => by rw [rowsF_at l j (by simpa using hj)]; rfl, fun j i hj hi => ?_, fun j i x hj hx => ?_, fun j i y hy => hy.elim, fun j i j' i' y _ hy => hy.elim⟩ (fun j hj => by rw [rowsF_at l j (by simpa using hj)]; simp) (by rw [← e]; exact h1) h2
  · have hj' : j < l.length := by simpa using hj
    have hi0 : i = 0 := by omega
    subst hi0
    have := h.2 j hj'
    rw [List.getElem?_eq_getElem hj']
    simpa using this
  · have hj' : j < l.length := by simpa using hj
    rw [rowsF_at l j hj'] at hx
    match i with
    | 0 => cases hx; rw [List.getElem?_eq_getElem hj']; exact .c _ _
    | i + 1 => cases hx
theorem own_of_ownL {w : World} {lo hi g : Nat} {l : List Lk} {pb : Nat → Nat} (h : OwnL w lo hi g l pb) (hm : l.length ≤ maxLen) : Own w (.slice (some ⟨g, 0, none⟩) l.length l.length) (.l (l.map dLk)) (IvG lo hi) := by
  have each : ∀ j, ∃ pc : Nat, ∀ hj : j < l.length, LkAt w g (j * 5) l[j] (some ⟨pb j, 0, none⟩) pc ∧ l[j].pa.length ≤ pc ∧ pc ≤ maxLen := fun j => by
    by_cases hj : j < l.length
    · obtain ⟨pc, h1⟩ := h.cl j hj; exact ⟨pc, fun _ => h1⟩
    · exact ⟨0, fun h => absurd h hj⟩
  have e : l.length = (l.map dLk).length := (List.length_map ..).symm
  rw [e]
  refine RowG.own (R := rowsF dLk l) (K := 5) (o := 0) (C := fun j i => match l[j]? with | some r => lkVal r (.slice (some ⟨pb j, 0, none⟩) r.pa.length (Classical.choose (each j))) i | none => .bool false) (Sf := fun j i y => j < l.length ∧ i = 1 ∧ y = pb j) ⟨⟨h.gl, h.gh⟩, h.gs, fun j hj => by rw [rowsF_at l j (by simpa using hj)]; rfl, fun j i hj hi => ?_, fun j i x hj hx => ?_, fun j i y hy => ?_, fun j i j' i' y hne hy hy' => ?_⟩ (fun j hj => by rw [rowsF_at l j (by simpa using hj)]; simp) (by rw [← e]; exact Nat.le_refl _) (by rw [← e]; exact hm)
  · have hj' : j < l.length := by simpa using hj
    obtain ⟨⟨c0, c1, c2, c3, c4⟩, _⟩ := Classical.choose_spec (each j) hj'
    rw [List.getElem?_eq_getElem hj', Nat.zero_add]
    refine ⟨?_, h.fz _⟩
    match i, hi with
    | 0, _ => exact c0
    | 1, _ => exact c1
    | 2, _ => exact c2
    | 3, _ => exact c3
    | 4, _ => exact c4
  · have hj' : j < l.length := by simpa using hj
    rw [rowsF_at l j hj'] at hx
    rw [List.getElem?_eq_getElem hj']
    match i with
    | 0 => cases hx; exact .c _ _
    | 1 => cases hx; exact (own_of_rowS (h.rp j hj') (Classical.choose_spec (each j) hj').2.1 (Classical.choose_spec (each j) hj').2.2).wide (fun y hy => ⟨hj', rfl, hy⟩)
    | 2 => cases hx; exact .c _ _
    | 3 => cases hx; exact .c _ _
    | 4 => cases hx; exact .c _ _
    | i + 5 => cases hx
  · obtain ⟨hj, _, rfl⟩ := hy
    obtain ⟨b1, b2, b3⟩ := h.bnd j hj
    exact ⟨⟨b1, b2⟩, b3⟩
  · obtain ⟨hj, h1, e1⟩ := hy
    obtain ⟨hj2, h2, e2⟩ := hy'
    rcases Nat.lt_trichotomy j j' with hh | hh | hh
    · exact h.ord j j' hh hj2 (by rw [← e1, ← e2])
    · omega
    · exact h.ord j' j hh hj (by rw [← e1, ← e2])
/-- What the sizes say. -/
theorem sz_dLk (r : Lk) : szR (dLk r) = r.pa.length + sumS r.pa := by
  have hs : ∀ l : List ByteArray, szRs (l.map dS) = l.length + sumS l := fun l => by
    induction l with
    | nil => simp [szRs, sumS]
    | cons x l ih => rw [List.map_cons, szRs_cons, ih]; simp [dS, szR, szF, szV, sumS]; omega
  simp [dLk, szR, szF, szV, hs]
theorem lk_small {l : List Lk} {N : Nat} (h : szRs (l.map dLk) ≤ N) : ∀ r ∈ l, r.pa.length ≤ N ∧ ∀ s ∈ r.pa, s.size ≤ N := fun r hr => by
  have h1 := szRs_mem _ _ (List.mem_map_of_mem (f := dLk) hr)
  rw [sz_dLk] at h1
  exact ⟨by omega, fun s hs => by have := sumS_mem _ s hs; omega⟩
theorem lk_len {l : List Lk} {N : Nat} (h : szRs (l.map dLk) ≤ N) : l.length ≤ N := by
  have := szRs_len (l.map dLk)
  rw [List.length_map] at this
  omega
end Go.Proofs.Ytackgogcpdbnlab
namespace Go.Proofs.Ytackgogcpdbnlab
open Go.RowKit M
set_option linter.unusedVariables false

theorem lkIn_of_view {w : World} {B : Nat} {v : Value} {x : Lk} (h : View w B v (.l (x.pa.map dS))) : ∃ a c, v = .slice a x.pa.length c ∧ LkIn w B x a c := by
  obtain ⟨a, c, e, h1, h2, h3, h4⟩ := strs_of_view h
  exact ⟨a, c, e, ⟨h4, h1, h2, h3⟩⟩
theorem add_small {l : List Lk} {x : Lk} (h1 : szRs (l.map dLk) + szR (dLk x) ≤ 1048576) : ∀ r ∈ l ++ [x], r.pa.length ≤ 1048576 ∧ ∀ s ∈ r.pa, s.size ≤ 1048576 := fun r hr => by
  rcases List.mem_append.1 hr with h | h
  · exact lk_small (l := l) (by omega) r h
  · obtain rfl := List.mem_singleton.1 h
    rw [sz_dLk] at h1
    exact ⟨by omega, fun s hs => by have := sumS_mem _ s hs; omega⟩
theorem add_short {l : List Lk} {x : Lk} (h1 : szRs (l.map dLk) + szR (dLk x) ≤ 1048576) : ShortK (l ++ [x]) := fun r hr => by
  obtain ⟨h2, h3⟩ := add_small h1 r hr
  exact ⟨by unfold maxLen; omega, fun s hs => by have := h3 s hs; unfold maxLen; omega⟩
theorem specAdd_gen (l : List Lk) (x : Lk) (u v : Value) (W : World) (h : View W W.heap.size u (.l (l.map dLk))) (hv : View W W.heap.size v (.l (x.pa.map dS))) (hsz : szRs (l.map dLk) + szR (dLk x) ≤ 1048576) :
    Calls Try.prog 10 #[u, .agg #[.int .i64 x.tk, v, .bool x.de, .bool x.sh, .int .i64 x.un]] W fun e w' => (∃ r : Value, e = .returned (.tuple #[r, .bool (locksB (l ++ [x]))]) ∧ View w' w'.heap.size r (.l ((addL l x).map dLk))) ∧ Below W.heap.size W w' := by
  obtain ⟨a, cap, rfl, h1, h2, h3, h4⟩ := lks_of_view h
  obtain ⟨b, c, rfl, k1⟩ := lkIn_of_view hv
  refine (specAdd_any a l cap W.heap.size x b c W h4 k1 (Nat.le_refl _) (lk_len (by omega)) h3 (fun r hr => (add_small hsz r hr).1) (add_short hsz)).mono ?_
  rintro e w' ⟨⟨g, n, c, rfl, rfl, hc1, hc2, hL⟩, b⟩
  exact ⟨⟨_, rfl, view_of_lks hL hc1 hc2 (fun e => by cases e)⟩, b⟩
theorem addL_mem {l : List Lk} {x r : Lk} (h : r ∈ addL l x) : r ∈ l ++ [x] := by
  unfold addL at h
  split at h
  · exact h
  · exact List.mem_append_left _ h
theorem addL_sub (l : List Lk) (x : Lk) : List.Sublist (addL l x) (l ++ [x]) := by
  unfold addL
  split
  · exact List.Sublist.refl _
  · exact List.sublist_append_left _ _
theorem add_gen (l : List Lk) (x : Lk) (u v : Value) (W : World) (h : View W W.heap.size u (.l (l.map dLk))) (hv : View W W.heap.size v (.l (x.pa.map dS))) (hsz : szRs (l.map dLk) + szR (dLk x) ≤ 1048576) :
    Calls Try.prog 13 #[u, .agg #[.int .i64 x.tk, v, .bool x.de, .bool x.sh, .int .i64 x.un]] W fun e w' => (∃ r : Value, e = .returned (.tuple #[r, .bool (locksB (l ++ [x]))]) ∧ Own w' r (.l ((addL l x).map dLk)) (IvG W.heap.size w'.heap.size)) ∧ Below W.heap.size W w' := by
  obtain ⟨a, cap, rfl, h1, h2, h3, h4⟩ := lks_of_view h
  obtain ⟨b, c, rfl, k1⟩ := lkIn_of_view hv
  refine (addLock_any a l cap W.heap.size x b c W h4 k1 (Nat.le_refl _) (lk_len (by omega)) (fun r hr => ⟨(add_small hsz r hr).1, fun s hs => by have := (add_small hsz r hr).2 s hs; omega⟩) (add_short hsz)).mono ?_
  rintro e w' ⟨⟨g, rfl, hg, pb, hO⟩, b⟩
  have hl := (addL_sub l x).length_le
  have hl2 : l.length ≤ 1048576 := lk_len (l := l) (by omega)
  rw [List.length_append, List.length_singleton] at hl
  exact ⟨⟨_, rfl, (own_of_ownL hO (by unfold maxLen; omega)).up hg (Nat.le_refl _)⟩, b⟩
theorem add_sz (l : List Lk) (x : Lk) (hsz : szRs (l.map dLk) + szR (dLk x) ≤ 1048576) (ok : okRs (l.map dLk)) (ok1 : okR (dLk x)) : cntRs ((addL l x).map dLk) ≤ 12600000 := by
  have h1 : okRs ((addL l x).map dLk) := okRs_of _ (fun r hr => by
    obtain ⟨y, hy, rfl⟩ := List.mem_map.1 hr
    rcases List.mem_append.1 (addL_mem hy) with h | h
    · exact okRs_mem _ ok _ (List.mem_map_of_mem h)
    · obtain rfl := List.mem_singleton.1 h; exact ⟨ok1, by show 5 ≤ 12; omega⟩)
  have h2 := cnt_leRs _ h1
  have h3 : szRs ((addL l x).map dLk) ≤ szRs ((l ++ [x]).map dLk) := szRs_sub ((addL_sub l x).map dLk)
  rw [List.map_append, szRs_append, List.map_cons, List.map_nil, szRs_one] at h3
  omega
end Go.Proofs.Ytackgogcpdbnlab
namespace Go.Proofs.Ytackgogcpdbnlab
open Go.RowKit M
set_option linter.unusedVariables false

set_option maxRecDepth 100000 in
set_option maxHeartbeats 4000000 in
theorem szStringS_gen (l : List ByteArray) (v : Value) (left B : Nat) (w : World) (h : View w B v (.l (l.map dS))) (hB : B ≤ w.heap.size) (hok : okF (.l (l.map dS))) (hleft : left ≤ 1048576) :
    Calls Try.prog 23 #[v, .int .i64 left] w fun e w' => (∃ z : Int, e = .returned (.int .i64 z) ∧ (z < 0 ∨ ∃ m : Nat, z = m ∧ szRs (l.map dS) + m = left)) ∧ Below w.heap.size w w' := by
  obtain ⟨a, cap, rfl, hl, hm, _, hat⟩ := h.rows 1 (fun _ => rfl)
  have hl2 : l.length ≤ maxLen := Nat.le_trans hl hm
  unfold maxLen at hl2
  by_cases hlt0 : left < l.length
  · go_enter Try.func23, Try.ntmps23
    go_wp2
    go_ret
    exact ⟨⟨_, rfl, .inl (by omega)⟩, Below.refl _ _⟩
  · have HAT := hide hat
    have HOK := hide hok.1
    clear h hat hok
    go_enter Try.func23, Try.ntmps23
    go_wp2
    go_loopw [1, 5] (fun lv i wr => ∃ k m : Nat, k ≤ l.length ∧ i = .int .i64 k ∧ lv = .int .i64 m ∧ Hid (szRs ((l.take k).map dS) + (l.length - k) + m = left) ∧ Below w.heap.size w wr) (fun _ i _ => l.length - (intOf i).toNat)
    case atStart => exact ⟨0, left - l.length, Nat.zero_le _, rfl, by congr 1; omega, (by show _ = _; simp [szRs]; omega), Below.refl _ _⟩
    case round =>
      obtain ⟨k, m, hk, rfl, rfl, HM, hbe⟩ := hrel
      by_cases hlt : k < l.length
      · obtain ⟨b, o, C, rfl, hb, hc⟩ := HAT.out (by omega)
        have hck := hc k hlt
        have HS2 := hide (szAtF_next dS l k hlt)
        have hbw : b < w.heap.size := Nat.lt_of_lt_of_le hb hB
        have hm1 : m ≤ 1048576 := by have := HM.out; omega
        have hokx := (okRs_mem _ HOK.out _ (List.mem_map_of_mem (f := dS) (List.getElem_mem hlt))).1
        obtain ⟨x, hx⟩ : ∃ x, l[k] = x := ⟨_, rfl⟩
        rw [hx] at hck HS2 hokx
        clear hx hc
        have c0 : wr.cell? ⟨b, o + k, none⟩ = some (.string x) := by
          obtain ⟨c, v⟩ := hck 0 (.c (.string x)) rfl
          rw [v.inv] at c
          simp only [Nat.mul_one, Nat.add_zero] at c
          exact (hbe.cell (p := ⟨b, o + k, none⟩) hbw).trans c
        clear hck
        have s0 : x.size ≤ maxLen := okR_mem hokx (.c (.string x)) (by simp [dS])
        unfold maxLen at s0
        by_cases q : m < x.size
        · go_wp2
          go_ret
          exact ⟨⟨_, rfl, .inl (by omega)⟩, hbe⟩
        · go_wp2
          go_roundw
          case rel => exact ⟨k + 1, m - x.size, by omega, by go_num, by first | go_num | (congr 1; omega), (by show _ = _; rw [HS2.out]; have := HM.out; simp only [dS, szR, szF, szV]; omega), hbe⟩
          case measure => simp [intOf]; omega
      · have HM2 := HM.out
        rw [List.take_of_length_le (by omega)] at HM2
        have HM3 := hide HM2
        clear HM2
        go_wp2
        go_ret
        exact ⟨⟨m, rfl, .inr ⟨m, rfl, by have := HM3.out; omega⟩⟩, hbe⟩
end Go.Proofs.Ytackgogcpdbnlab
namespace Go.Proofs.Ytackgogcpdbnlab
open Go.RowKit M
set_option linter.unusedVariables false

set_option maxRecDepth 100000 in
set_option maxHeartbeats 4000000 in
theorem szLock_gen (x : Lk) (u1 : Value) (left B : Nat) (w : World) (h1 : View w B u1 (.l (x.pa.map dS))) (hB : B ≤ w.heap.size) (hok : okR (dLk x)) (hleft : left ≤ 1048576) :
    Calls Try.prog 9 #[.agg #[.int .i64 x.tk, u1, .bool x.de, .bool x.sh, .int .i64 x.un], .int .i64 left] w fun e w' => (∃ z : Int, e = .returned (.int .i64 z) ∧ (z < 0 ∨ ∃ m : Nat, z = m ∧ szR (dLk x) + m = left)) ∧ Below w.heap.size w w' := by
  have K0 := hide (show Below w.heap.size w (w.alloc (Obj.cells #[.int .i64 x.tk, u1, .bool x.de, .bool x.sh, .int .i64 x.un] 25)) from (Below.refl _ _).alloc (Nat.le_refl _) _)
  have X0 := hide (BoxV.made w [.int .i64 x.tk, u1, .bool x.de, .bool x.sh, .int .i64 x.un] 25)
  have hsum : szR (dLk x) = szRs (x.pa.map dS) := by simp [dLk, szR, szF, szV]
  have HS := hide hsum
  clear hsum
  have s1 : okF (.l (x.pa.map dS)) := okR_mem hok _ (by simp [dLk])
  have S1 := hide s1
  clear s1
  clear hok
  go_enter Try.func9, Try.ntmps9
  have HQ := hide (szStringS_gen (x.pa) u1 left B _ (h1.stays K0.out hB) (Nat.le_trans hB K0.out.size) S1.out hleft)
  go_wp2_with fail
  refine HQ.out.mono ?_
  rintro e w1 ⟨⟨z, rfl, hz⟩, b1⟩
  have K1 := hide (K0.out.trans (b1.mono K0.out.size))
  have X1 := hide (X0.out.next b1)
  clear HQ b1 K0 X0
  rcases hz with hz | ⟨m1, rfl, hm1⟩
  · go_wp2
    go_ret
    exact ⟨⟨_, rfl, .inl (by omega)⟩, K1.out⟩
  have hn1 : m1 ≤ 1048576 := by omega
  have E1 := hide hm1
  clear hm1
  go_wp2
  go_ret
  exact ⟨⟨_, rfl, .inr ⟨m1, rfl, by rw [HS.out]; have := E1.out; omega⟩⟩, K1.out⟩
end Go.Proofs.Ytackgogcpdbnlab
namespace Go.Proofs.Ytackgogcpdbnlab
open Go.RowKit M
set_option linter.unusedVariables false

set_option maxRecDepth 100000 in
set_option maxHeartbeats 4000000 in
theorem szLockS_gen (l : List Lk) (v : Value) (left B : Nat) (w : World) (h : View w B v (.l (l.map dLk))) (hB : B ≤ w.heap.size) (hok : okF (.l (l.map dLk))) (hleft : left ≤ 1048576) :
    Calls Try.prog 8 #[v, .int .i64 left] w fun e w' => (∃ z : Int, e = .returned (.int .i64 z) ∧ (z < 0 ∨ ∃ m : Nat, z = m ∧ szRs (l.map dLk) + m = left)) ∧ Below w.heap.size w w' := by
  obtain ⟨a, cap, rfl, hl, hm, _, hat⟩ := h.rows 5 (fun _ => rfl)
  have hl2 : l.length ≤ maxLen := Nat.le_trans hl hm
  unfold maxLen at hl2
  by_cases hlt0 : left < l.length
  · go_enter Try.func8, Try.ntmps8
    go_wp2
    go_ret
    exact ⟨⟨_, rfl, .inl (by omega)⟩, Below.refl _ _⟩
  · have HAT := hide hat
    have HOK := hide hok.1
    clear h hat hok
    go_enter Try.func8, Try.ntmps8
    go_wp2
    go_loopw [1, 5] (fun lv i wr => ∃ k m : Nat, k ≤ l.length ∧ i = .int .i64 k ∧ lv = .int .i64 m ∧ Hid (szRs ((l.take k).map dLk) + (l.length - k) + m = left) ∧ Below w.heap.size w wr) (fun _ i _ => l.length - (intOf i).toNat)
    case atStart => exact ⟨0, left - l.length, Nat.zero_le _, rfl, by congr 1; omega, (by show _ = _; simp [szRs]; omega), Below.refl _ _⟩
    case round =>
      obtain ⟨k, m, hk, rfl, rfl, HM, hbe⟩ := hrel
      by_cases hlt : k < l.length
      · obtain ⟨b, o, C, rfl, hb, hc⟩ := HAT.out (by omega)
        have hck := hc k hlt
        have HS2 := hide (szAtF_next dLk l k hlt)
        have hbw : b < w.heap.size := Nat.lt_of_lt_of_le hb hB
        have hm1 : m ≤ 1048576 := by have := HM.out; omega
        have hokx := (okRs_mem _ HOK.out _ (List.mem_map_of_mem (f := dLk) (List.getElem_mem hlt))).1
        obtain ⟨x, hx⟩ : ∃ x, l[k] = x := ⟨_, rfl⟩
        rw [hx] at hck HS2 hokx
        clear hx hc
        have c0 : wr.cell? ⟨b, o + k * 5, none⟩ = some (.int .i64 x.tk) := by
          obtain ⟨c, v⟩ := hck 0 (.c (.int .i64 x.tk)) rfl
          rw [v.inv] at c
          simp only [Nat.add_zero] at c
          exact (hbe.cell (p := ⟨b, o + k * 5, none⟩) hbw).trans c
        obtain ⟨c1, v1⟩ := hck 1 (.l (x.pa.map dS)) rfl
        have c1 := (hbe.cell (p := ⟨b, o + k * 5 + 1, none⟩) hbw).trans c1
        have c2 : wr.cell? ⟨b, o + k * 5 + 2, none⟩ = some (.bool x.de) := by
          obtain ⟨c, v⟩ := hck 2 (.c (.bool x.de)) rfl
          rw [v.inv] at c
          exact (hbe.cell (p := ⟨b, o + k * 5 + 2, none⟩) hbw).trans c
        have c3 : wr.cell? ⟨b, o + k * 5 + 3, none⟩ = some (.bool x.sh) := by
          obtain ⟨c, v⟩ := hck 3 (.c (.bool x.sh)) rfl
          rw [v.inv] at c
          exact (hbe.cell (p := ⟨b, o + k * 5 + 3, none⟩) hbw).trans c
        have c4 : wr.cell? ⟨b, o + k * 5 + 4, none⟩ = some (.int .i64 x.un) := by
          obtain ⟨c, v⟩ := hck 4 (.c (.int .i64 x.un)) rfl
          rw [v.inv] at c
          exact (hbe.cell (p := ⟨b, o + k * 5 + 4, none⟩) hbw).trans c
        clear hck
        have HC := hide (szLock_gen x (C k 1) m B wr (v1.stays hbe hB) (Nat.le_trans hB hbe.size) hokx hm1)
        clear hokx v1
        go_wp2_with fail
        refine HC.out.mono ?_
        rintro e w1 ⟨⟨z, rfl, hz⟩, hb1⟩
        have c9 := hbe.trans (hb1.mono hbe.size)
        rcases hz with hz | ⟨m', rfl, hm'⟩
        · go_wp2
          go_ret
          exact ⟨⟨_, rfl, .inl (by omega)⟩, c9⟩
        · have HM' := hide hm'
          clear hm'
          go_wp2
          go_roundw
          case rel => exact ⟨k + 1, m', by omega, by go_num, rfl, (by show _ = _; rw [HS2.out]; have := HM.out; have := HM'.out; omega), c9⟩
          case measure => simp [intOf]; omega
      · have HM2 := HM.out
        rw [List.take_of_length_le (by omega)] at HM2
        have HM3 := hide HM2
        clear HM2
        go_wp2
        go_ret
        exact ⟨⟨m, rfl, .inr ⟨m, rfl, by have := HM3.out; omega⟩⟩, hbe⟩
end Go.Proofs.Ytackgogcpdbnlab
namespace Go.Proofs.Ytackgogcpdbnlab
open Go.RowKit M
set_option linter.unusedVariables false

theorem infoString_gen : (Try.prog.info? 9).map (fun i => (i.zero, i.size, i.bytes)) = some (some (.string ByteArray.empty), 1, 16) := by kernel_rfl
theorem makeStringS_gen (n : Nat) (hn : n ≤ 1048577) (w : World) :
    (Instr.makeSlice 23 (.int .i64 (n : Int)) (.int .i64 (n : Int))).run Try.prog w = .ok (.slice (some ⟨w.heap.size, 0, none⟩) n n) (w.alloc (.cells (madeCells #[.string ByteArray.empty] (n * 1)) 9)) := by
  obtain ⟨i, hi, hz, hs, hb⟩ := info_parts infoString_gen
  have hr := run_make (P := Try.prog) w 23 9 i _ Try.underlying23 hi hz .i64 .i64 n n (by omega) (Int.le_refl _) (by rw [hb]; omega) (by omega)
  simp only [Int.toNat_natCast, hs] at hr
  exact hr

set_option maxRecDepth 100000 in
set_option maxHeartbeats 4000000 in
theorem toStringS_gen (l : List ByteArray) (v : Value) (B : Nat) (w : World) (h : View w B v (.l (l.map dS))) (hB : B ≤ w.heap.size) (hsz : szRs (l.map dS) ≤ 1048576) :
    Calls Try.prog 25 #[v] w fun e w' => (∃ p : Nat, e = .returned (.slice (some ⟨p, 0, none⟩) l.length l.length) ∧ Own w' (.slice (some ⟨p, 0, none⟩) l.length l.length) (.l (l.map dS)) (IvG w.heap.size w'.heap.size)) ∧ Below w.heap.size w w' := by
  obtain ⟨a, cap, rfl, hl, hm, _, hat⟩ := h.rows 1 (fun _ => rfl)
  have hn : l.length ≤ 1048576 := by have := szRs_len (l.map dS); rw [List.length_map] at this; omega
  have HAT := hide hat
  have HSZ := hide hsz
  have hmk := makeStringS_gen l.length (by omega) w
  have hm0 := MadeG.start w #[.string ByteArray.empty] l.length 1 9 (rowsF dS l)
  simp only [Nat.mul_one] at hm0
  have HM0 := hide hm0
  clear hm0
  clear h hat hsz
  go_enter Try.func25, Try.ntmps25
  go_wp2
  clear hmk
  go_loopw [4] (fun i wr => ∃ k : Nat, k ≤ l.length ∧ i = .int .i64 k ∧ Hid (MadeG wr w.heap.size 1 l.length (rowsF dS l) k) ∧ Below w.heap.size w wr) (fun i _ => l.length - (intOf i).toNat)
  case atStart => exact ⟨0, Nat.zero_le _, rfl, HM0, (Below.refl _ _).alloc (Nat.le_refl _) _⟩
  case round =>
    obtain ⟨k, hk, rfl, HR, hbe⟩ := hrel
    by_cases hlt : k < l.length
    · obtain ⟨b, o, C, rfl, hb, hc⟩ := HAT.out (by omega)
      have hck := hc k hlt
      have hbw : b < w.heap.size := Nat.lt_of_lt_of_le hb hB
      have hsx := szRs_mem _ _ (List.mem_map_of_mem (f := dS) (List.getElem_mem hlt))
      have hrk := rowsF_at (f := dS) l k hlt
      obtain ⟨x, hx⟩ : ∃ x, l[k] = x := ⟨_, rfl⟩
      rw [hx] at hck hsx hrk
      clear hx hc
      have c0 : wr.cell? ⟨b, o + k, none⟩ = some (.string x) := by
        obtain ⟨c, v⟩ := hck 0 (.c (.string x)) rfl
        rw [v.inv] at c
        simp only [Nat.mul_one, Nat.add_zero] at c
        exact (hbe.cell (p := ⟨b, o + k, none⟩) hbw).trans c
      clear hck
      obtain ⟨u, hu, fu⟩ := HR.out.cell hlt 0 (by decide)
      simp only [Nat.mul_one, Nat.add_zero] at hu fu
      have HR2 := HR.out.next (Below.refl _ wr) hlt [.string x] rfl (fun _ _ => False) (fun i y hy => by
        rw [hrk] at hy
        match i with
        | 0 => cases hy; exact ⟨_, rfl, .c _ _⟩
        | i + 1 => cases hy) (fun _ _ h => h.elim) (fun _ _ _ _ h => h.elim)
      simp only [Nat.mul_one] at HR2
      have HR3 := hide HR2
      clear HR2 HR
      go_wp2
      go_roundw
      case rel => exact ⟨k + 1, by omega, by go_num, HR3, hbe.setCell (Nat.le_refl _) _⟩
      case measure => simp [intOf]; omega
    · have hk2 : k = l.length := by omega
      subst hk2
      have HO := hide (HR.out.done (rows := l.map dS) (by rw [List.length_map]) (by unfold maxLen; omega) (fun r hr => by obtain ⟨x, _, rfl⟩ := List.mem_map.1 hr; rfl) (fun j hj => by rw [rowsF_at l j (by simpa using hj)]; simp))
      go_wp2
      go_ret
      exact ⟨⟨_, rfl, HO.out⟩, hbe⟩
end Go.Proofs.Ytackgogcpdbnlab
namespace Go.Proofs.Ytackgogcpdbnlab
open Go.RowKit M
set_option linter.unusedVariables false

set_option maxRecDepth 100000 in
set_option maxHeartbeats 4000000 in
theorem toLock_gen (x : Lk) (u1 : Value) (B : Nat) (w : World) (h1 : View w B u1 (.l (x.pa.map dS))) (hB : B ≤ w.heap.size) (hsz : szR (dLk x) ≤ 1048576) :
    Calls Try.prog 12 #[.agg #[.int .i64 x.tk, u1, .bool x.de, .bool x.sh, .int .i64 x.un]] w fun e w' => (∃ (p1 n1 : Nat), e = .returned (.agg #[.int .i64 x.tk, .slice (some ⟨p1, 0, none⟩) (x.pa).length (x.pa).length, .bool x.de, .bool x.sh, .int .i64 x.un]) ∧ Own w' (.slice (some ⟨p1, 0, none⟩) (x.pa).length (x.pa).length) (.l (x.pa.map dS)) (IvG w.heap.size n1) ∧ w.heap.size ≤ n1 ∧ n1 ≤ w'.heap.size) ∧ Below w.heap.size w w' := by
  have hsum : szR (dLk x) = szRs (x.pa.map dS) := by simp [dLk, szR, szF, szV]
  rw [hsum] at hsz
  clear hsum
  have K0 := hide (show Below w.heap.size w (((w.alloc (Obj.cells #[.int .i64 x.tk, u1, .bool x.de, .bool x.sh, .int .i64 x.un] 25)).alloc (Obj.cells #[.int .i64 0, .slice none 0 0, .bool false, .bool false, .int .i64 0] 32)).alloc (Obj.cells #[.int .i64 x.tk, .slice none 0 0, .bool false, .bool false, .int .i64 0] 32)) from (((Below.refl _ _).alloc (Nat.le_refl _) _).alloc (by simp) _).alloc (by simp; omega) _)
  have X0 := hide (show BoxV (((w.alloc (Obj.cells #[.int .i64 x.tk, u1, .bool x.de, .bool x.sh, .int .i64 x.un] 25)).alloc (Obj.cells #[.int .i64 0, .slice none 0 0, .bool false, .bool false, .int .i64 0] 32)).alloc (Obj.cells #[.int .i64 x.tk, .slice none 0 0, .bool false, .bool false, .int .i64 0] 32)) w.heap.size [.int .i64 x.tk, u1, .bool x.de, .bool x.sh, .int .i64 x.un] from ((BoxV.made w [.int .i64 x.tk, u1, .bool x.de, .bool x.sh, .int .i64 x.un] 25).alloc _).alloc _)
  have Y0 := hide (show BoxV (((w.alloc (Obj.cells #[.int .i64 x.tk, u1, .bool x.de, .bool x.sh, .int .i64 x.un] 25)).alloc (Obj.cells #[.int .i64 0, .slice none 0 0, .bool false, .bool false, .int .i64 0] 32)).alloc (Obj.cells #[.int .i64 x.tk, .slice none 0 0, .bool false, .bool false, .int .i64 0] 32)) (w.heap.size + 1) [.int .i64 0, .slice none 0 0, .bool false, .bool false, .int .i64 0] by have h := (BoxV.made (w.alloc (Obj.cells #[.int .i64 x.tk, u1, .bool x.de, .bool x.sh, .int .i64 x.un] 25)) [.int .i64 0, .slice none 0 0, .bool false, .bool false, .int .i64 0] 32).alloc (Obj.cells #[.int .i64 x.tk, .slice none 0 0, .bool false, .bool false, .int .i64 0] 32); simpa using h)
  have Z0 := hide (show BoxV (((w.alloc (Obj.cells #[.int .i64 x.tk, u1, .bool x.de, .bool x.sh, .int .i64 x.un] 25)).alloc (Obj.cells #[.int .i64 0, .slice none 0 0, .bool false, .bool false, .int .i64 0] 32)).alloc (Obj.cells #[.int .i64 x.tk, .slice none 0 0, .bool false, .bool false, .int .i64 0] 32)) (w.heap.size + 1 + 1) [.int .i64 x.tk, .slice none 0 0, .bool false, .bool false, .int .i64 0] by have h := BoxV.made ((w.alloc (Obj.cells #[.int .i64 x.tk, u1, .bool x.de, .bool x.sh, .int .i64 x.un] 25)).alloc (Obj.cells #[.int .i64 0, .slice none 0 0, .bool false, .bool false, .int .i64 0] 32)) [.int .i64 x.tk, .slice none 0 0, .bool false, .bool false, .int .i64 0] 32; simpa using h)
  go_enter Try.func12, Try.ntmps12
  have HQ := hide (toStringS_gen (x.pa) u1 B _ (h1.stays K0.out hB) (Nat.le_trans hB K0.out.size) (by omega))
  go_wp2_with fail
  refine HQ.out.mono ?_
  rintro e w1 ⟨⟨p1, rfl, o1⟩, b1⟩
  have k1 := K0.out.trans (b1.mono K0.out.size)
  have x1 := X0.out.next b1
  have y1 := Y0.out.next b1
  have z1 := Z0.out.next b1
  have P1 := hide (o1.up (l' := w.heap.size + 1 + 1 + 1) (u' := w1.heap.size) (by simp) (Nat.le_refl _))
  have zs1 : w.heap.size + 1 + 1 < w1.heap.size := z1.1
  have zl1 : w.heap.size + 1 + 1 + 1 ≤ w1.heap.size := by omega
  have n1 := hide (show w.heap.size ≤ w1.heap.size by have := b1.size; simp at this; omega)
  obtain ⟨d1, f1⟩ := z1.2 1 _ rfl
  obtain ⟨d2, f2⟩ := z1.2 2 _ rfl
  have c2 := (x1.2 2 _ rfl).1
  obtain ⟨d3, f3⟩ := z1.2 3 _ rfl
  have c3 := (x1.2 3 _ rfl).1
  obtain ⟨d4, f4⟩ := z1.2 4 _ rfl
  have c4 := (x1.2 4 _ rfl).1
  obtain ⟨r0, g0⟩ := y1.2 0 _ rfl
  obtain ⟨r1, g1⟩ := y1.2 1 _ rfl
  obtain ⟨r2, g2⟩ := y1.2 2 _ rfl
  obtain ⟨r3, g3⟩ := y1.2 3 _ rfl
  obtain ⟨r4, g4⟩ := y1.2 4 _ rfl
  obtain ⟨d0, f0⟩ := z1.2 0 _ rfl
  have KE := hide k1
  clear k1 x1 y1 z1 o1 b1 HQ K0 X0 Y0 Z0
  go_wp2
  refine bodyPost_ret (v := .agg #[.int .i64 x.tk, .slice (some ⟨p1, 0, none⟩) (x.pa).length (x.pa).length, .bool x.de, .bool x.sh, .int .i64 x.un]) (by simp [results, Try.results12, go_sem, r0, r1, r2, r3, r4]) rfl ⟨⟨p1, w1.heap.size, rfl, ?_, n1.out, ?_⟩, ?_⟩
  · refine Own.up (l := w.heap.size + 1 + 1 + 1) ?_ (by omega) (Nat.le_refl _)
    repeat' refine Own.setCell ?_ _ _ (fun e => by have h1 := e.1; dsimp only at h1; omega)
    exact P1.out
  · simp
  · repeat' refine Below.setCell ?_ (by simp; try omega) _
    exact KE.out
end Go.Proofs.Ytackgogcpdbnlab
namespace Go.Proofs.Ytackgogcpdbnlab
open Go.RowKit M
set_option linter.unusedVariables false

theorem infoLock_gen : (Try.prog.info? 32).map (fun i => (i.zero, i.size, i.bytes)) = some (some (.agg #[.int .i64 0, .slice none 0 0, .bool false, .bool false, .int .i64 0]), 5, 48) := by kernel_rfl
theorem makeLockS_gen (n : Nat) (hn : n ≤ 1048577) (w : World) :
    (Instr.makeSlice 28 (.int .i64 (n : Int)) (.int .i64 (n : Int))).run Try.prog w = .ok (.slice (some ⟨w.heap.size, 0, none⟩) n n) (w.alloc (.cells (madeCells #[.int .i64 0, .slice none 0 0, .bool false, .bool false, .int .i64 0] (n * 5)) 32)) := by
  obtain ⟨i, hi, hz, hs, hb⟩ := info_parts infoLock_gen
  have hr := run_make (P := Try.prog) w 28 32 i _ Try.underlying28 hi hz .i64 .i64 n n (by omega) (Int.le_refl _) (by rw [hb]; omega) (by omega)
  simp only [Int.toNat_natCast, hs] at hr
  exact hr

set_option maxRecDepth 100000 in
set_option maxHeartbeats 4000000 in
theorem toLockS_gen (l : List Lk) (v : Value) (B : Nat) (w : World) (h : View w B v (.l (l.map dLk))) (hB : B ≤ w.heap.size) (hsz : szRs (l.map dLk) ≤ 1048576) :
    Calls Try.prog 11 #[v] w fun e w' => (∃ p : Nat, e = .returned (.slice (some ⟨p, 0, none⟩) l.length l.length) ∧ Own w' (.slice (some ⟨p, 0, none⟩) l.length l.length) (.l (l.map dLk)) (IvG w.heap.size w'.heap.size)) ∧ Below w.heap.size w w' := by
  obtain ⟨a, cap, rfl, hl, hm, _, hat⟩ := h.rows 5 (fun _ => rfl)
  have hn : l.length ≤ 1048576 := by have := szRs_len (l.map dLk); rw [List.length_map] at this; omega
  have HAT := hide hat
  have HSZ := hide hsz
  have hmk := makeLockS_gen l.length (by omega) w
  have hm0 := MadeG.start w #[.int .i64 0, .slice none 0 0, .bool false, .bool false, .int .i64 0] l.length 5 32 (rowsF dLk l)
  have HM0 := hide hm0
  clear hm0
  clear h hat hsz
  go_enter Try.func11, Try.ntmps11
  go_wp2
  clear hmk
  go_loopw [4] (fun i wr => ∃ k : Nat, k ≤ l.length ∧ i = .int .i64 k ∧ Hid (MadeG wr w.heap.size 5 l.length (rowsF dLk l) k) ∧ Below w.heap.size w wr) (fun i _ => l.length - (intOf i).toNat)
  case atStart => exact ⟨0, Nat.zero_le _, rfl, HM0, (Below.refl _ _).alloc (Nat.le_refl _) _⟩
  case round =>
    obtain ⟨k, hk, rfl, HR, hbe⟩ := hrel
    by_cases hlt : k < l.length
    · obtain ⟨b, o, C, rfl, hb, hc⟩ := HAT.out (by omega)
      have hck := hc k hlt
      have hbw : b < w.heap.size := Nat.lt_of_lt_of_le hb hB
      have hsx := szRs_mem _ _ (List.mem_map_of_mem (f := dLk) (List.getElem_mem hlt))
      have hrk := rowsF_at (f := dLk) l k hlt
      obtain ⟨x, hx⟩ : ∃ x, l[k] = x := ⟨_, rfl⟩
      rw [hx] at hck hsx hrk
      clear hx hc
      have c0 : wr.cell? ⟨b, o + k * 5, none⟩ = some (.int .i64 x.tk) := by
        obtain ⟨c, v⟩ := hck 0 (.c (.int .i64 x.tk)) rfl
        rw [v.inv] at c
        simp only [Nat.add_zero] at c
        exact (hbe.cell (p := ⟨b, o + k * 5, none⟩) hbw).trans c
      obtain ⟨c1, v1⟩ := hck 1 (.l (x.pa.map dS)) rfl
      have c1 := (hbe.cell (p := ⟨b, o + k * 5 + 1, none⟩) hbw).trans c1
      have c2 : wr.cell? ⟨b, o + k * 5 + 2, none⟩ = some (.bool x.de) := by
        obtain ⟨c, v⟩ := hck 2 (.c (.bool x.de)) rfl
        rw [v.inv] at c
        exact (hbe.cell (p := ⟨b, o + k * 5 + 2, none⟩) hbw).trans c
      have c3 : wr.cell? ⟨b, o + k * 5 + 3, none⟩ = some (.bool x.sh) := by
        obtain ⟨c, v⟩ := hck 3 (.c (.bool x.sh)) rfl
        rw [v.inv] at c
        exact (hbe.cell (p := ⟨b, o + k * 5 + 3, none⟩) hbw).trans c
      have c4 : wr.cell? ⟨b, o + k * 5 + 4, none⟩ = some (.int .i64 x.un) := by
        obtain ⟨c, v⟩ := hck 4 (.c (.int .i64 x.un)) rfl
        rw [v.inv] at c
        exact (hbe.cell (p := ⟨b, o + k * 5 + 4, none⟩) hbw).trans c
      clear hck
      have HC := hide (toLock_gen x (C k 1) B wr (v1.stays hbe hB) (Nat.le_trans hB hbe.size) (by have := HSZ.out; omega))
      clear v1
      go_wp2_with fail
      refine HC.out.mono ?_
      rintro e w1 ⟨⟨p1, n1, rfl, o1, s1, hlast⟩, b1⟩
      have HR2 := HR.out.next b1 hlt [.int .i64 x.tk, .slice (some ⟨p1, 0, none⟩) (x.pa).length (x.pa).length, .bool x.de, .bool x.sh, .int .i64 x.un] rfl (fun i y => (i = 1 ∧ IvG wr.heap.size n1 y)) (fun i y hy => by
        rw [hrk] at hy
        match i with
        | 0 => cases hy; exact ⟨_, rfl, .c _ _⟩
        | 1 => cases hy; exact ⟨_, rfl, o1.wide (fun y hy => ⟨rfl, hy⟩)⟩
        | 2 => cases hy; exact ⟨_, rfl, .c _ _⟩
        | 3 => cases hy; exact ⟨_, rfl, .c _ _⟩
        | 4 => cases hy; exact ⟨_, rfl, .c _ _⟩
        | i + 5 => cases hy) (fun i y hy => by unfold IvG at hy; omega) (fun i i' y hne hy hy' => by unfold IvG at hy hy'; omega)
      have hm1 := HR.out.next0 b1
      obtain ⟨e0, d0, f0⟩ := hm1.cell hlt 0 (by decide)
      simp only [Nat.add_zero] at d0 f0
      obtain ⟨e1, d1, f1⟩ := hm1.cell hlt 1 (by decide)
      obtain ⟨e2, d2, f2⟩ := hm1.cell hlt 2 (by decide)
      obtain ⟨e3, d3, f3⟩ := hm1.cell hlt 3 (by decide)
      obtain ⟨e4, d4, f4⟩ := hm1.cell hlt 4 (by decide)
      have HR3 := hide HR2
      have c9 := hbe.trans (b1.mono hbe.size)
      clear HR2 HR hm1 HC o1 s1
      go_wp2
      go_roundw
      case rel => exact ⟨k + 1, by omega, by go_num, HR3, (((((c9.setCell (Nat.le_refl _) _).setCell (Nat.le_refl _) _).setCell (Nat.le_refl _) _).setCell (Nat.le_refl _) _).setCell (Nat.le_refl _) _)⟩
      case measure => simp [intOf]; omega
    · have hk2 : k = l.length := by omega
      subst hk2
      have HO := hide (HR.out.done (rows := l.map dLk) (by rw [List.length_map]) (by unfold maxLen; omega) (fun r hr => by obtain ⟨x, _, rfl⟩ := List.mem_map.1 hr; rfl) (fun j hj => by rw [rowsF_at l j (by simpa using hj)]; simp))
      go_wp2
      go_ret
      exact ⟨⟨_, rfl, HO.out⟩, hbe⟩
end Go.Proofs.Ytackgogcpdbnlab
namespace Go.Proofs.Ytackgogcpdbnlab
open Go.RowKit M
set_option linter.unusedVariables false

set_option maxRecDepth 100000 in
set_option maxHeartbeats 4000000 in
theorem eqStringS_gen (l : List ByteArray) (v v' : Value) (B B' : Nat) (w : World) (h : View w B v (.l (l.map dS))) (h' : View w B' v' (.l (l.map dS))) (hB : B ≤ w.heap.size) (hB' : B' ≤ w.heap.size) :
    Calls Try.prog 28 #[v, v'] w fun e w' => e = .returned (.bool true) ∧ Below w.heap.size w w' := by
  obtain ⟨a, cap, rfl, hl, hm, _, hat⟩ := h.rows 1 (fun _ => rfl)
  obtain ⟨a', cap', rfl, hl', hm', _, hat'⟩ := h'.rows 1 (fun _ => rfl)
  have hn : l.length ≤ maxLen := Nat.le_trans hl hm
  unfold maxLen at hn
  have HAT := hide hat
  have HAT' := hide hat'
  clear h h' hat hat' hl hl' hm hm'
  go_enter Try.func28, Try.ntmps28
  go_wp2
  go_loopw [5] (fun i wr => ∃ k : Nat, k ≤ l.length ∧ i = .int .i64 k ∧ Below w.heap.size w wr) (fun i _ => l.length - (intOf i).toNat)
  case atStart => exact ⟨0, Nat.zero_le _, rfl, Below.refl _ _⟩
  case round =>
    obtain ⟨k, hk, rfl, hbe⟩ := hrel
    by_cases hlt : k < l.length
    · obtain ⟨b, o, C, rfl, hb, hc⟩ := HAT.out (by omega)
      obtain ⟨b', o', C', rfl, hb', hc'⟩ := HAT'.out (by omega)
      have hck := hc k hlt
      have hck' := hc' k hlt
      have hbw : b < w.heap.size := Nat.lt_of_lt_of_le hb hB
      have hbw' : b' < w.heap.size := Nat.lt_of_lt_of_le hb' hB'
      have hi0 : (0 : Int) ≤ (k : Int) := by omega
      have hi1 : (k : Int) < (l.length : Int) := by omega
      obtain ⟨x, hx⟩ : ∃ x, l[k] = x := ⟨_, rfl⟩
      rw [hx] at hck hck'
      clear hx hc hc'
      have c0 : wr.cell? ⟨b, o + k, none⟩ = some (.string x) := by
        obtain ⟨c, v⟩ := hck 0 (.c (.string x)) rfl
        rw [v.inv] at c
        simp only [Nat.mul_one, Nat.add_zero] at c
        exact (hbe.cell (p := ⟨b, o + k, none⟩) hbw).trans c
      have c0' : wr.cell? ⟨b', o' + k, none⟩ = some (.string x) := by
        obtain ⟨c, v⟩ := hck' 0 (.c (.string x)) rfl
        rw [v.inv] at c
        simp only [Nat.mul_one, Nat.add_zero] at c
        exact (hbe.cell (p := ⟨b', o' + k, none⟩) hbw').trans c
      clear hck hck'
      go_wp2
      go_quiet (fail)
      go_wp2
      go_roundw
      case rel => exact ⟨k + 1, by omega, by go_num, below_drewN hbe _⟩
      case measure => simp [intOf]; omega
    · go_wp2
      go_ret
      exact ⟨rfl, hbe⟩
end Go.Proofs.Ytackgogcpdbnlab
namespace Go.Proofs.Ytackgogcpdbnlab
open Go.RowKit M
set_option linter.unusedVariables false

set_option maxRecDepth 100000 in
set_option maxHeartbeats 4000000 in
theorem eqLock_gen (x : Lk) (u1 t1 : Value) (B C : Nat) (w : World) (h1 : View w B u1 (.l (x.pa.map dS))) (j1 : View w C t1 (.l (x.pa.map dS))) (hB : B ≤ w.heap.size) (hC : C ≤ w.heap.size) :
    Calls Try.prog 15 #[.agg #[.int .i64 x.tk, u1, .bool x.de, .bool x.sh, .int .i64 x.un], .agg #[.int .i64 x.tk, t1, .bool x.de, .bool x.sh, .int .i64 x.un]] w fun e w' => e = .returned (.bool true) ∧ Below w.heap.size w w' := by
  have K0 := hide (show Below w.heap.size w ((w.alloc (Obj.cells #[.int .i64 x.tk, u1, .bool x.de, .bool x.sh, .int .i64 x.un] 32)).alloc (Obj.cells #[.int .i64 x.tk, t1, .bool x.de, .bool x.sh, .int .i64 x.un] 32)) from ((Below.refl _ _).alloc (Nat.le_refl _) _).alloc (by simp) _)
  have X0 := hide (show BoxV ((w.alloc (Obj.cells #[.int .i64 x.tk, u1, .bool x.de, .bool x.sh, .int .i64 x.un] 32)).alloc (Obj.cells #[.int .i64 x.tk, t1, .bool x.de, .bool x.sh, .int .i64 x.un] 32)) w.heap.size [.int .i64 x.tk, u1, .bool x.de, .bool x.sh, .int .i64 x.un] from (BoxV.made w [.int .i64 x.tk, u1, .bool x.de, .bool x.sh, .int .i64 x.un] 32).alloc _)
  have Y0 := hide (show BoxV ((w.alloc (Obj.cells #[.int .i64 x.tk, u1, .bool x.de, .bool x.sh, .int .i64 x.un] 32)).alloc (Obj.cells #[.int .i64 x.tk, t1, .bool x.de, .bool x.sh, .int .i64 x.un] 32)) (w.heap.size + 1) [.int .i64 x.tk, t1, .bool x.de, .bool x.sh, .int .i64 x.un] by have h := BoxV.made (w.alloc (Obj.cells #[.int .i64 x.tk, u1, .bool x.de, .bool x.sh, .int .i64 x.un] 32)) [.int .i64 x.tk, t1, .bool x.de, .bool x.sh, .int .i64 x.un] 32; simpa using h)
  have e0 : (x.tk == x.tk) = true := beq_self_eq_true _
  have e4 : (x.un == x.un) = true := beq_self_eq_true _
  go_enter Try.func15, Try.ntmps15
  have HQ := hide (eqStringS_gen (x.pa) u1 t1 B C _ (h1.stays K0.out hB) (j1.stays K0.out hC) (Nat.le_trans hB K0.out.size) (Nat.le_trans hC K0.out.size))
  go_wp2_with fail
  refine HQ.out.mono ?_
  rintro e w1 ⟨rfl, b1⟩
  have K1 := hide (K0.out.trans (b1.mono K0.out.size))
  have X1 := hide (X0.out.next b1)
  have Y1 := hide (Y0.out.next b1)
  clear HQ b1 K0 X0 Y0
  have c2 := (X1.out.2 2 _ rfl).1
  have d2 := (Y1.out.2 2 _ rfl).1
  have c3 := (X1.out.2 3 _ rfl).1
  have d3 := (Y1.out.2 3 _ rfl).1
  have c4 := (X1.out.2 4 _ rfl).1
  have d4 := (Y1.out.2 4 _ rfl).1
  go_wp2
  go_ret
  exact ⟨rfl, K1.out⟩
end Go.Proofs.Ytackgogcpdbnlab
