/-
  What spec.AddLock does, as a list of locks alone.
  What impl.DropLock does.
  The leafs of texts and numbers.
  The leafs of a lock.
  Views and rows of locks: one as the other.
  What impl.tokensOf and impl.TokensAt do.
  Slices of numbers: what they hold, and that it stays.
  Whether a number is one of a list.
  What slices.Contains at numbers does.
  What impl.touching and impl.MayTurn do.
  What impl.MayTurn does.
  A view of numbers.
-/
import Derived.Test.YtclnpfpaabmkcaaSpecAddV
import Derived.Test.YtclnpfpaabmkcaaWithoutOne
import Derived.Test.YtclnpfpaabmkcaaGenOwn
import Derived.Test.YtclnpfpaabmkcaaGenPick
import Derived.Test.YtclnpfpaabmkcaaLockOps
import Derived.Test.YtclnpfpaabmkcaaRowVLks
import Derived.Test.YtclnpfpaabmkcaaRowC
import Derived.Test.YtclnpfpaabmkcaaCoversI
import Derived.Test.YtclnpfpaabmkcaaRows
import Derived.WalkKit
import Derived.Deep.OwnRows
import Derived.Test.YtclnpfpaabmkcaaTurn
import Derived.Test.YtclnpfpaabmkcaaRet
import Derived.Test.YtclnpfpaabmkcaaDropI
namespace Go.Proofs.Ytclnpfpaabmkcaa
open Go.RowKit M
set_option linter.unusedVariables false

theorem specAdd_any (a : Option Addr) (l : List Lk) (cap B : Nat) (x : Lk) (xa : Option Addr) (xc : Nat) (w : World) (h : Lks w B a l) (hx : LkIn w B x xa xc) (hB : B ≤ w.heap.size) (hl : l.length ≤ 1048576) (hnn : a = none → cap = 0) (hs : ∀ r ∈ l ++ [x], r.pa.length ≤ 1048576) (hsh : ShortK (l ++ [x])) :
    Calls Try.prog 7 #[.slice a l.length cap, .agg #[.int .i64 x.tk, .slice xa x.pa.length xc, .bool x.de, .bool x.sh, .int .i64 x.un]] w fun e w' => (∃ (g n c : Nat), e = .returned (.tuple #[.slice (some ⟨g, 0, none⟩) n c, .bool (locksB (l ++ [x]))]) ∧ n = (addL l x).length ∧ n ≤ c ∧ c ≤ maxLen ∧ Lks w' w'.heap.size (some ⟨g, 0, none⟩) (addL l x)) ∧ Below w.heap.size w w' := by
  refine (specAddV_any a l cap B x xa xc w h hx hB hl hnn hs hsh).mono ?_
  rintro e w1 ⟨⟨g, n, c, h1, h2, h3, h4, hp⟩, hb⟩
  exact ⟨⟨g, n, c, h1, h2, h3, h4, hp.lks⟩, hb⟩
end Go.Proofs.Ytclnpfpaabmkcaa
namespace Go.Proofs.Ytclnpfpaabmkcaa
open Go.RowKit M
set_option linter.unusedVariables false

set_option maxRecDepth 100000 in
set_option maxHeartbeats 4000000 in
theorem dropLock_any (a : Option Addr) (l : List Lk) (cap B : Nat) (t : Int) (w : World) (h : Lks w B a l) (hB : B ≤ w.heap.size) (hl : l.length ≤ 1048576) (hc : l.length ≤ cap) (hm : cap ≤ maxLen) (hs : ∀ r ∈ l, r.pa.length ≤ 1048576 ∧ ∀ s ∈ r.pa, s.size ≤ 281474976710656) :
    Calls Try.prog 9 #[.slice a l.length cap, .int .i64 t] w fun e w' => (∃ g : Nat, e = .returned (.tuple #[.slice (some ⟨g, 0, none⟩) (dropL t l).length (dropL t l).length, .bool (l.any (isTk t))]) ∧ w.heap.size ≤ g ∧ ∃ pb, OwnL w' g w'.heap.size g (dropL t l) pb) ∧ Below w.heap.size w w' := by
  have hmf : ∀ (fn : Fn) (first cap : Array Value) (w : World), (Instr.makeFunc fn first cap).run Try.prog w = .ok (.func fn first cap) w := fun _ _ _ _ => rfl
  have hb0 := (Below.refl w.heap.size w).alloc (Nat.le_refl _) (Obj.cells #[.int .i64 t] 3)
  have hcell : (w.alloc (Obj.cells #[.int .i64 t] 3)).cell? ⟨w.heap.size, 0, none⟩ = some (.int .i64 t) := by simp
  have HT := hide (indexL_any 23 (fun args w => enter_fn Try.func23 (by kernel_rfl) rfl args w) #[.pointer (some ⟨w.heap.size, 0, none⟩)] (isTk t) a l cap B _ (h.below hb0 hB) (Nat.le_trans hB hb0.size) (by omega) (fun k hk pa pc W hW _ => dropFn_any l[k] pa pc w.heap.size t W ((hW.cell (p := ⟨w.heap.size, 0, none⟩) (by simp)).trans hcell)))
  have HB0 := hide hb0
  have HH := hide (fun W (hb : Below w.heap.size w W) => h.below hb hB)
  have HS := hide hs
  have HCM := hide (And.intro hc hm)
  clear hb0 hcell h hs hc hm
  go_enter Try.func9, Try.ntmps9
  go_wp2_with fail
  refine HT.out.mono ?_
  rintro e w1 ⟨⟨z, rfl, hz⟩, b1⟩
  have HC1 := hide (HB0.out.trans (b1.mono HB0.out.size))
  clear b1 HT
  rcases hz with ⟨rfl, hno⟩ | ⟨k, rfl, hk, hyes, hbefore⟩
  · have HE := hide (And.intro hno (dropL_none t l hno))
    have HQ := hide (copyLocks_any a l cap B w1 (HH.out w1 HC1.out) (Nat.le_trans hB HC1.out.size) (by omega) HS.out)
    clear hno
    go_wp2_with fail
    refine HQ.out.mono ?_
    rintro e w2 ⟨⟨g2, rfl, hg2, hO⟩, b2⟩
    have HC2 := hide (HC1.out.trans (b2.mono HC1.out.size))
    have HO := hide hO
    have hg3 := Nat.le_trans HC1.out.size hg2
    clear hO b2
    go_wp2
    go_ret2
    rw [HE.out.1, HE.out.2]
    exact ⟨⟨g2, rfl, hg3, HO.out⟩, HC2.out⟩
  · have HE := hide (And.intro (show l.any (isTk t) = true from List.any_eq_true.2 ⟨_, List.getElem_mem hk, hyes⟩) (dropL_at t l k hk hyes hbefore))
    obtain ⟨b, o, rfl, _⟩ := (HH.out w1 HC1.out) (by omega)
    have HQ := hide (withoutOne_any ⟨b, o, none⟩ l cap B k w1 (HH.out w1 HC1.out) (Nat.le_trans hB HC1.out.size) (by omega) hk HCM.out.1 HCM.out.2)
    clear hyes hbefore
    go_wp2_with fail
    refine HQ.out.mono ?_
    rintro e w2 ⟨⟨rfl, ts, hts, hrow, hin⟩, b2⟩
    have HC2 := hide (HC1.out.trans (b2.mono HC1.out.size))
    rw [← HE.out.2] at hts
    have hlen : (dropL t l).length = l.length - 1 := by rw [HE.out.2, List.length_append, List.length_take, List.length_drop]; omega
    have hlk := lks_of_rowV hts hrow hin (Nat.le_trans hB HC2.out.size)
    have HK := hide (copyLocks_any _ (dropL t l) (l.length - 1) w2.heap.size w2 hlk (Nat.le_refl _) (by omega) (fun r hr => HS.out r ((dropL_sub t l).mem hr)))
    rw [hlen] at HK
    have HL := hide hlen
    clear hts hrow hin b2 hlk hlen HQ
    go_wp2_with fail
    refine HK.out.mono ?_
    rintro e w3 ⟨⟨g2, rfl, hg2, hO⟩, b3⟩
    have HC3 := hide (HC2.out.trans (b3.mono HC2.out.size))
    have HO := hide hO
    have hg3 := Nat.le_trans HC2.out.size hg2
    clear hO b3
    go_wp2
    go_ret2
    rw [HE.out.1, HL.out]
    exact ⟨⟨g2, rfl, hg3, HO.out⟩, HC3.out⟩
end Go.Proofs.Ytclnpfpaabmkcaa
namespace Go.Proofs.Ytclnpfpaabmkcaa
open Go.RowKit M
set_option linter.unusedVariables false

def dS (s : ByteArray) : List Lf := [.c (.string s)]
def dI (n : Int) : List Lf := [.c (.int .i64 n)]
def dB (n : Int) : List Lf := [.c (.int .u8 n)]
theorem cntRs_map {α : Type} (f : α → List Lf) (c : Nat) (h : ∀ x, cntR (f x) = c) (l : List α) : cntRs (l.map f) = c * l.length := by
  induction l with
  | nil => simp [cntRs]
  | cons x l ih => rw [List.map_cons, cntRs_cons, ih, h, List.length_cons, Nat.mul_add]; omega
theorem cnt_lenF {α : Type} (f : α → List Lf) (h : ∀ x, 1 ≤ cntR (f x)) (l : List α) : l.length ≤ cntRs (l.map f) := by
  induction l with
  | nil => simp
  | cons x l ih => rw [List.map_cons, cntRs_cons, List.length_cons]; have := h x; omega
theorem szRs_flat {α : Type} (f : α → List Lf) (h : ∀ x, szR (f x) = 0) (l : List α) : szRs (l.map f) = l.length := by
  induction l with
  | nil => simp [szRs]
  | cons x l ih => rw [List.map_cons, szRs_cons, ih, h, List.length_cons]; omega
theorem szRs_sub {a b : List (List Lf)} (h : List.Sublist a b) : szRs a ≤ szRs b := by
  induction h with
  | slnil => exact Nat.le_refl _
  | cons x _ ih => rw [szRs_cons]; omega
  | cons_cons x _ ih => rw [szRs_cons, szRs_cons]; omega
theorem okR_mem {r : List Lf} (h : okR r) (x : Lf) (hx : x ∈ r) : okF x := by
  induction r with
  | nil => cases hx
  | cons y r ih =>
    unfold okR at h
    rcases List.mem_cons.1 hx with rfl | hx
    · exact h.1
    · exact ih h.2 hx
theorem cnt_dS (l : List ByteArray) : cntRs (l.map dS) = l.length := by rw [cntRs_map dS 1 (fun _ => by simp [dS, cntR, cntF])]; omega
theorem cnt_dI (l : List Int) : cntRs (l.map dI) = l.length := by rw [cntRs_map dI 1 (fun _ => by simp [dI, cntR, cntF])]; omega
theorem cnt_dB (l : List Int) : cntRs (l.map dB) = l.length := by rw [cntRs_map dB 1 (fun _ => by simp [dB, cntR, cntF])]; omega
end Go.Proofs.Ytclnpfpaabmkcaa
namespace Go.Proofs.Ytclnpfpaabmkcaa
open Go.RowKit M

def dLk (x : Lk) : List Lf := [.c (.int .i64 x.tk), .l (x.pa.map dS), .c (.bool x.de), .c (.bool x.sh), .c (.int .i64 x.un)]
end Go.Proofs.Ytclnpfpaabmkcaa
namespace Go.Proofs.Ytclnpfpaabmkcaa
open Go.RowKit M
set_option linter.unusedVariables false

theorem strs_of_view {w : World} {B : Nat} {v : Value} {l : List ByteArray} (h : View w B v (.l (l.map dS))) : ∃ a cap, v = .slice a l.length cap ∧ l.length ≤ cap ∧ cap ≤ maxLen ∧ (a = none → cap = 0) ∧ Strs w B a l := by
  obtain ⟨a, cap, h1, h2, h3, h4, h5⟩ := h.rows 1 (fun _ => rfl)
  refine ⟨a, cap, h1, h2, h3, h4, fun h0 => ?_⟩
  obtain ⟨b, o, C, e, hb, hc⟩ := h5 h0
  refine ⟨b, o, e, hb, fun j hj => ?_⟩
  obtain ⟨c, v⟩ := hc j hj 0 (.c (.string l[j])) rfl
  rw [v.inv] at c
  simpa using c
theorem view_of_strs {w : World} {B : Nat} {a : Option Addr} {cap : Nat} {l : List ByteArray} (h : Strs w B a l) (h1 : l.length ≤ cap) (h2 : cap ≤ maxLen) (h3 : a = none → cap = 0) : View w B (.slice a l.length cap) (.l (l.map dS)) := by
  by_cases h0 : 0 < l.length
  · obtain ⟨b, o, rfl, hb, hc⟩ := h h0
    have e : l.length = (l.map dS).length := (List.length_map ..).symm
    rw [e]
    refine .row b o cap 1 _ (fun j i => match l[j]? with | some s => .string s | none => .bool false) hb (by rw [← e]; exact h1) h2 (fun r hr => by obtain ⟨x, _, rfl⟩ := List.mem_map.1 hr; rfl) (fun j i x hx => ?_) (fun j i x hx => ?_)
    all_goals
      unfold cellAt at hx
      by_cases hj : j < l.length
      · rw [map_at dS l j hj] at hx
        match i with
        | 0 => cases hx; rw [List.getElem?_eq_getElem hj]; first | exact .c _ | (have := hc j hj; simpa using this)
        | i + 1 => cases hx
      · rw [List.getElem?_eq_none (by simp; omega)] at hx; cases hx
  · have : l = [] := List.eq_nil_of_length_eq_zero (by omega)
    subst this
    exact .nil a cap h3 h2
theorem lks_of_view {w : World} {B : Nat} {v : Value} {l : List Lk} (h : View w B v (.l (l.map dLk))) : ∃ a cap, v = .slice a l.length cap ∧ l.length ≤ cap ∧ cap ≤ maxLen ∧ (a = none → cap = 0) ∧ Lks w B a l := by
  obtain ⟨a, cap, h1, h2, h3, h4, h5⟩ := h.rows 5 (fun _ => rfl)
  refine ⟨a, cap, h1, h2, h3, h4, fun h0 => ?_⟩
  obtain ⟨b, o, C, e, hb, hc⟩ := h5 h0
  refine ⟨b, o, e, hb, fun j hj => ?_⟩
  obtain ⟨c0, v0⟩ := hc j hj 0 (.c (.int .i64 l[j].tk)) rfl
  obtain ⟨c1, v1⟩ := hc j hj 1 (.l (l[j].pa.map dS)) rfl
  obtain ⟨c2, v2⟩ := hc j hj 2 (.c (.bool l[j].de)) rfl
  obtain ⟨c3, v3⟩ := hc j hj 3 (.c (.bool l[j].sh)) rfl
  obtain ⟨c4, v4⟩ := hc j hj 4 (.c (.int .i64 l[j].un)) rfl
  obtain ⟨pa, pc, e1, p1, p2, p3, p4⟩ := strs_of_view v1
  rw [v0.inv] at c0
  rw [e1] at c1
  rw [v2.inv] at c2
  rw [v3.inv] at c3
  rw [v4.inv] at c4
  exact ⟨pa, pc, ⟨c0, c1, c2, c3, c4⟩, ⟨p4, p1, p2, p3⟩⟩
def lkVal (r : Lk) (pv : Value) (i : Nat) : Value := (([.int .i64 r.tk, pv, .bool r.de, .bool r.sh, .int .i64 r.un] : List Value)[i]?).getD (.bool false)
theorem view_of_lks {w : World} {B : Nat} {a : Option Addr} {cap : Nat} {l : List Lk} (h : Lks w B a l) (h1 : l.length ≤ cap) (h2 : cap ≤ maxLen) (h3 : a = none → cap = 0) : View w B (.slice a l.length cap) (.l (l.map dLk)) := by
  by_cases h0 : 0 < l.length
  · obtain ⟨b, o, rfl, hb, hc⟩ := h h0
    have each : ∀ j, ∃ pv : Value, ∀ hj : j < l.length, (∀ i v, i < 5 → lkVal l[j] pv i = v → w.cell? ⟨b, o + j * 5 + i, none⟩ = some v) ∧ View w B pv (.l (l[j].pa.map dS)) := fun j => by
      by_cases hj : j < l.length
      · obtain ⟨pa, pc, ⟨c0, c1, c2, c3, c4⟩, p⟩ := hc j hj
        refine ⟨.slice pa l[j].pa.length pc, fun _ => ⟨fun i v hi hv => ?_, view_of_strs p.ph p.pl p.pm p.pn⟩⟩
        subst hv
        match i, hi with
        | 0, _ => exact c0
        | 1, _ => exact c1
        | 2, _ => exact c2
        | 3, _ => exact c3
        | 4, _ => exact c4
      · exact ⟨.bool false, fun h => absurd h hj⟩
    have e : l.length = (l.map dLk).length := (List.length_map ..).symm
    rw [e]
    refine .row b o cap 5 _ (fun j i => match l[j]? with | some r => lkVal r (Classical.choose (each j)) i | none => .bool false) hb (by rw [← e]; exact h1) h2 (fun r hr => by obtain ⟨x, _, rfl⟩ := List.mem_map.1 hr; rfl) (fun j i x hx => ?_) (fun j i x hx => ?_)
    · unfold cellAt at hx
      by_cases hj : j < l.length
      · rw [map_at dLk l j hj] at hx
        have hi : i < 5 := (List.getElem?_eq_some_iff.1 hx).1
        rw [List.getElem?_eq_getElem hj]
        exact (Classical.choose_spec (each j) hj).1 i _ hi rfl
      · rw [List.getElem?_eq_none (by simp; omega)] at hx; cases hx
    · unfold cellAt at hx
      by_cases hj : j < l.length
      · rw [map_at dLk l j hj] at hx
        rw [List.getElem?_eq_getElem hj]
        match i with
        | 0 => cases hx; exact .c _
        | 1 => cases hx; exact (Classical.choose_spec (each j) hj).2
        | 2 => cases hx; exact .c _
        | 3 => cases hx; exact .c _
        | 4 => cases hx; exact .c _
        | i + 5 => cases hx
      · rw [List.getElem?_eq_none (by simp; omega)] at hx; cases hx
  · have : l = [] := List.eq_nil_of_length_eq_zero (by omega)
    subst this
    exact .nil a cap h3 h2
theorem own_of_rowS {w : World} {p c : Nat} {l : List ByteArray} (h : RowS w p l) (h1 : l.length ≤ c) (h2 : c ≤ maxLen) : Own w (.slice (some ⟨p, 0, none⟩) l.length c) (.l (l.map dS)) (fun y => y = p) := by
  have e : l.length = (l.map dS).length := (List.length_map ..).symm
  rw [e]
  refine RowG.own (R := rowsF dS l) (K := 1) (o := 0) (C := fun j i => .string ((l[j]?).getD ByteArray.empty)) (Sf := fun _ _ _ => False) ⟨rfl, h.1, fun j hj => by rw [rowsF_at l j (by simpa using hj)]; rfl, fun j i hj hi => ?_, fun j i x hj hx => ?_, fun j i y hy => hy.elim, fun j i j' i' y _ hy => hy.elim⟩ (fun j hj => by rw [rowsF_at l j (by simpa using hj)]; simp) (by rw [← e]; exact h1) h2
  · have hj' : j < l.length := by simpa using hj
    have hi0 : i = 0 := by omega
    subst hi0
    have := h.2 j hj'
    rw [List.getElem?_eq_getElem hj']
    simpa using this
  · have hj' : j < l.length := by simpa using hj
    rw [rowsF_at l j hj'] at hx
    match i with
    | 0 => cases hx; rw [List.getElem?_eq_getElem hj']; exact .c _ _
    | i + 1 => cases hx
theorem own_of_ownL {w : World} {lo hi g : Nat} {l : List Lk} {pb : Nat → Nat} (h : OwnL w lo hi g l pb) (hm : l.length ≤ maxLen) : Own w (.slice (some ⟨g, 0, none⟩) l.length l.length) (.l (l.map dLk)) (IvG lo hi) := by
  have each : ∀ j, ∃ pc : Nat, ∀ hj : j < l.length, LkAt w g (j * 5) l[j] (some ⟨pb j, 0, none⟩) pc ∧ l[j].pa.length ≤ pc ∧ pc ≤ maxLen := fun j => by
    by_cases hj : j < l.length
    · obtain ⟨pc, h1⟩ := h.cl j hj; exact ⟨pc, fun _ => h1⟩
    · exact ⟨0, fun h => absurd h hj⟩
  have e : l.length = (l.map dLk).length := (List.length_map ..).symm
  rw [e]
  refine RowG.own (R := rowsF dLk l) (K := 5) (o := 0) (C := fun j i => match l[j]? with | some r => lkVal r (.slice (some ⟨pb j, 0, none⟩) r.pa.length (Classical.choose (each j))) i | none => .bool false) (Sf := fun j i y => j < l.length ∧ i = 1 ∧ y = pb j) ⟨⟨h.gl, h.gh⟩, h.gs, fun j hj => by rw [rowsF_at l j (by simpa using hj)]; rfl, fun j i hj hi => ?_, fun j i x hj hx => ?_, fun j i y hy => ?_, fun j i j' i' y hne hy hy' => ?_⟩ (fun j hj => by rw [rowsF_at l j (by simpa using hj)]; simp) (by rw [← e]; exact Nat.le_refl _) (by rw [← e]; exact hm)
  · have hj' : j < l.length := by simpa using hj
    obtain ⟨⟨c0, c1, c2, c3, c4⟩, _⟩ := Classical.choose_spec (each j) hj'
    rw [List.getElem?_eq_getElem hj', Nat.zero_add]
    refine ⟨?_, h.fz _⟩
    match i, hi with
    | 0, _ => exact c0
    | 1, _ => exact c1
    | 2, _ => exact c2
    | 3, _ => exact c3
    | 4, _ => exact c4
  · have hj' : j < l.length := by simpa using hj
    rw [rowsF_at l j hj'] at hx
    rw [List.getElem?_eq_getElem hj']
    match i with
    | 0 => cases hx; exact .c _ _
    | 1 => cases hx; exact (own_of_rowS (h.rp j hj') (Classical.choose_spec (each j) hj').2.1 (Classical.choose_spec (each j) hj').2.2).wide (fun y hy => ⟨hj', rfl, hy⟩)
    | 2 => cases hx; exact .c _ _
    | 3 => cases hx; exact .c _ _
    | 4 => cases hx; exact .c _ _
    | i + 5 => cases hx
  · obtain ⟨hj, _, rfl⟩ := hy
    obtain ⟨b1, b2, b3⟩ := h.bnd j hj
    exact ⟨⟨b1, b2⟩, b3⟩
  · obtain ⟨hj, h1, e1⟩ := hy
    obtain ⟨hj2, h2, e2⟩ := hy'
    rcases Nat.lt_trichotomy j j' with hh | hh | hh
    · exact h.ord j j' hh hj2 (by rw [← e1, ← e2])
    · omega
    · exact h.ord j' j hh hj (by rw [← e1, ← e2])
/-- What the sizes say. -/
theorem sz_dLk (r : Lk) : szR (dLk r) = r.pa.length + sumS r.pa := by
  have hs : ∀ l : List ByteArray, szRs (l.map dS) = l.length + sumS l := fun l => by
    induction l with
    | nil => simp [szRs, sumS]
    | cons x l ih => rw [List.map_cons, szRs_cons, ih]; simp [dS, szR, szF, szV, sumS]; omega
  simp [dLk, szR, szF, szV, hs]
theorem lk_small {l : List Lk} {N : Nat} (h : szRs (l.map dLk) ≤ N) : ∀ r ∈ l, r.pa.length ≤ N ∧ ∀ s ∈ r.pa, s.size ≤ N := fun r hr => by
  have h1 := szRs_mem _ _ (List.mem_map_of_mem (f := dLk) hr)
  rw [sz_dLk] at h1
  exact ⟨by omega, fun s hs => by have := sumS_mem _ s hs; omega⟩
theorem lk_len {l : List Lk} {N : Nat} (h : szRs (l.map dLk) ≤ N) : l.length ≤ N := by
  have := szRs_len (l.map dLk)
  rw [List.length_map] at this
  omega
end Go.Proofs.Ytclnpfpaabmkcaa
namespace Go.Proofs.Ytclnpfpaabmkcaa
open Go.RowKit M
set_option linter.unusedVariables false

theorem infoTk : (Try.prog.info? 3).map (fun i => (i.zero, i.size, i.bytes)) = some (some (.int .i64 0), 1, 8) := by kernel_rfl

set_option maxRecDepth 100000 in
set_option maxHeartbeats 2000000 in
theorem tokensOf_any (a : Option Addr) (l : List Lk) (cap B : Nat) (w : World) (h : Lks w B a l) (hB : B ≤ w.heap.size) (hl : l.length ≤ 1048576) :
    Calls Try.prog 26 #[.slice a l.length cap] w fun e w' => (∃ p : Nat, e = .returned (.slice (some ⟨p, 0, none⟩) l.length l.length) ∧ Own w' (.slice (some ⟨p, 0, none⟩) l.length l.length) (.l ((l.map (·.tk)).map dI)) (IvG w.heap.size w'.heap.size)) ∧ Below w.heap.size w w' := by
  obtain ⟨i, hi, hz, hs, hb⟩ := info_parts infoTk
  have hmk := run_make (P := Try.prog) w 35 3 i _ Try.underlying35 hi hz .i64 .i64 l.length l.length (by omega) (Int.le_refl _) (by rw [hb]; omega) (by omega)
  simp only [Int.toNat_natCast, hs] at hmk
  have hm0 := MadeG.start w #[.int .i64 0] l.length 1 3 (rowsF dI (l.map (·.tk)))
  simp only [Nat.mul_one] at hm0
  have HM0 := hide hm0
  have HH := hide h
  clear h hm0 hi hz hs hb
  simp only [Nat.mul_one] at hmk
  go_enter Try.func26, Try.ntmps26
  go_wp2
  clear hmk
  go_loopw [11] (fun i wr => ∃ k : Nat, k ≤ l.length ∧ i = .int .i64 k ∧ Hid (MadeG wr w.heap.size 1 l.length (rowsF dI (l.map (·.tk))) k) ∧ Below w.heap.size w wr) (fun i _ => l.length - (intOf i).toNat)
  case atStart => exact ⟨0, Nat.zero_le _, rfl, HM0, (Below.refl _ _).alloc (Nat.le_refl _) _⟩
  case round =>
    obtain ⟨k, hk, rfl, HR, hbe⟩ := hrel
    by_cases hlt : k < l.length
    · obtain ⟨b, o, rfl, hb, hc⟩ := (HH.out.below hbe hB) (by omega)
      obtain ⟨pa, pc1, ⟨hc0, hc1, hc2, hc3, hc4⟩, hin⟩ := hc k hlt
      have hrk : rowsF dI (l.map (·.tk)) k = dI l[k].tk := by rw [rowsF_at _ k (by simpa using hlt)]; simp
      have b1 := (Below.refl wr.heap.size wr).alloc (Nat.le_refl _) (Obj.cells #[.int .i64 l[k].tk, .slice pa l[k].pa.length pc1, .bool l[k].de, .bool l[k].sh, .int .i64 l[k].un] 27)
      have hm1 := HR.out.next0 b1
      obtain ⟨u, hu, fu⟩ := hm1.cell hlt 0 (by decide)
      simp only [Nat.mul_one, Nat.add_zero] at hu fu
      have HR2 := hm1.next (Below.refl _ _) hlt [.int .i64 l[k].tk] rfl (fun _ _ => False) (fun i y hy => by
        rw [hrk] at hy
        match i with
        | 0 => cases hy; exact ⟨_, rfl, .c _ _⟩
        | i + 1 => cases hy) (fun _ _ h => h.elim) (fun _ _ _ _ h => h.elim)
      simp only [Nat.mul_one] at HR2
      have HR3 := hide HR2
      have HC := hide (hbe.trans (b1.mono hbe.size))
      clear HR2 HR hm1 b1 hin hc
      go_wp2
      go_roundw
      case rel => exact ⟨k + 1, by omega, by go_num, HR3, HC.out.setCell (Nat.le_refl _) _⟩
      case measure => simp [intOf]; omega
    · have hk2 : k = l.length := by omega
      subst hk2
      have HO := hide (HR.out.done (rows := (l.map (·.tk)).map dI) (by rw [List.length_map, List.length_map]) (by unfold maxLen; omega) (fun r hr => by obtain ⟨x, _, rfl⟩ := List.mem_map.1 hr; rfl) (fun j hj => by rw [rowsF_at _ j (by simpa using hj)]; simp))
      go_wp2
      go_ret
      exact ⟨⟨_, rfl, HO.out⟩, hbe⟩

set_option maxHeartbeats 1000000 in
theorem tokFn_any (r : Lk) (pa : Option Addr) (pc N B C : Nat) (qa : Option Addr) (q : List ByteArray) (qc : Nat) (w : World) (h : w.cell? ⟨N, 0, none⟩ = some (.slice qa q.length qc)) (hin : LkIn w B r pa pc) (hB : B ≤ w.heap.size) (hq : Strs w C qa q) (hC : C ≤ w.heap.size) (h1 : q.length ≤ qc) (h2 : qc ≤ maxLen) :
    Calls Try.prog 28 #[.agg #[.int .i64 r.tk, .slice pa r.pa.length pc, .bool r.de, .bool r.sh, .int .i64 r.un], .pointer (some ⟨N, 0, none⟩)] w fun e w' => e = .returned (.bool (covB r q)) ∧ Below w.heap.size w w' := by
  have hb := (Below.refl w.heap.size w).alloc (Nat.le_refl _) (Obj.cells #[.int .i64 r.tk, .slice pa r.pa.length pc, .bool r.de, .bool r.sh, .int .i64 r.un] 27)
  have hN : N < w.heap.size := World.block_lt_of_cell? w _ h
  have c1 := (hb.cell (p := ⟨N, 0, none⟩) hN).trans h
  have HQ := hide (covers_any r pa pc qa q qc B C _ (hin.below hb hB) (Nat.le_trans hB hb.size) (hq.below hb hC) (Nat.le_trans hC hb.size) h1 h2)
  have HB := hide hb
  clear hb hin hq
  go_enter Try.func28, Try.ntmps28
  go_wp2_with fail
  refine HQ.out.mono ?_
  rintro e w1 ⟨rfl, b1⟩
  have HC := hide (HB.out.trans (b1.mono HB.out.size))
  go_wp2
  go_ret
  exact ⟨rfl, HC.out⟩

set_option maxHeartbeats 2000000 in
theorem tokensAt_any (a : Option Addr) (l : List Lk) (cap B : Nat) (qa : Option Addr) (q : List ByteArray) (qc C : Nat) (w : World) (h : Lks w B a l) (hB : B ≤ w.heap.size) (hq : Strs w C qa q) (hC : C ≤ w.heap.size) (h1 : q.length ≤ qc) (h2 : qc ≤ maxLen) (hl : l.length ≤ 1048576) :
    Calls Try.prog 11 #[.slice a l.length cap, .slice qa q.length qc] w fun e w' => (∃ r : Value, e = .returned r ∧ Own w' r (.l ((tokL l q).map dI)) (IvG w.heap.size w'.heap.size)) ∧ Below w.heap.size w w' := by
  have hmf : ∀ (fn : Fn) (first cap : Array Value) (w : World), (Instr.makeFunc fn first cap).run Try.prog w = .ok (.func fn first cap) w := fun _ _ _ _ => rfl
  have hb0 := (Below.refl w.heap.size w).alloc (Nat.le_refl _) (Obj.cells #[.slice qa q.length qc] 25)
  have hcell : (w.alloc (Obj.cells #[.slice qa q.length qc] 25)).cell? ⟨w.heap.size, 0, none⟩ = some (.slice qa q.length qc) := by simp
  have HT := hide (those_any 28 (fun args w => enter_fn Try.func28 (by kernel_rfl) rfl args w) #[.pointer (some ⟨w.heap.size, 0, none⟩)] (fun x => covB x q) a l cap B _ (h.below hb0 hB) (Nat.le_trans hB hb0.size) (by omega) (fun k hk pa pc W hW hin => tokFn_any l[k] pa pc w.heap.size B C qa q qc W ((hW.cell (p := ⟨w.heap.size, 0, none⟩) (by simp)).trans hcell) hin (Nat.le_trans (Nat.le_trans hB hb0.size) hW.size) ((hq.below hb0 hC).below hW (Nat.le_trans hC hb0.size)) (Nat.le_trans (Nat.le_trans hC hb0.size) hW.size) h1 h2))
  have HB0 := hide hb0
  have hle := List.length_filter_le (fun x => covB x q) l
  clear hb0 hcell h hq h1 h2
  go_enter Try.func11, Try.ntmps11
  go_wp2_with fail
  refine HT.out.mono ?_
  rintro e w1 ⟨⟨g, n, c, ts, rfl, hn, hc1, hc2, hg, hgl, hts, hrow, hin⟩, b1⟩
  have hln : n = (l.filter (fun x => covB x q)).length := by rw [hn, ← hts, List.length_map]
  have HC1 := hide (HB0.out.trans (b1.mono HB0.out.size))
  have HQ := hide (tokensOf_any (some ⟨g, 0, none⟩) (l.filter (fun x => covB x q)) c w1.heap.size w1 (lks_of_rowV hts hrow hin (Nat.le_trans hB HC1.out.size)) (Nat.le_refl _) (by omega))
  rw [← hln] at HQ
  clear hts hrow hin hn hln b1
  go_wp2_with fail
  refine HQ.out.mono ?_
  rintro e w2 ⟨⟨p, rfl, hO⟩, b2⟩
  have HC2 := hide (HC1.out.trans (b2.mono HC1.out.size))
  have HO := hide (hO.up (l' := w.heap.size) HC1.out.size (Nat.le_refl _))
  clear hO b2
  go_wp2
  go_ret
  exact ⟨⟨_, rfl, HO.out⟩, HC2.out⟩
end Go.Proofs.Ytclnpfpaabmkcaa
namespace Go.Proofs.Ytclnpfpaabmkcaa
open Go.RowKit

/-- The numbers that a slice holds, in a block below B. -/
def Ints (w : World) (B : Nat) (a : Option Addr) (l : List Int) : Prop :=
  0 < l.length → ∃ b o, a = some ⟨b, o, none⟩ ∧ b < B ∧ ∀ j (hj : j < l.length), w.cell? ⟨b, o + j, none⟩ = some (.int .i64 l[j])

theorem Ints.below {w w' : World} {B C : Nat} {a : Option Addr} {l : List Int} (h : Ints w B a l) (hb : Below C w w') (hB : B ≤ C) : Ints w' B a l := fun h0 => by
  obtain ⟨b, o, e, hbB, hc⟩ := h h0
  exact ⟨b, o, e, hbB, fun j hj => (hb.cell (p := ⟨b, o + j, none⟩) (Nat.lt_of_lt_of_le hbB hB)).trans (hc j hj)⟩
theorem Ints.mono {w : World} {B C : Nat} {a : Option Addr} {l : List Int} (h : Ints w B a l) (hB : B ≤ C) : Ints w C a l := fun h0 => by
  obtain ⟨b, o, e, hbB, hc⟩ := h h0
  exact ⟨b, o, e, Nat.lt_of_lt_of_le hbB hB, hc⟩
end Go.Proofs.Ytclnpfpaabmkcaa
namespace Go.Proofs.Ytclnpfpaabmkcaa
open Go.RowKit M
set_option linter.unusedVariables false

theorem anyI_none {t : Int} {l : List Int} (h : ∀ j (hj : j < l.length), l[j] ≠ t) : l.any (· == t) = false := by
  rw [Bool.eq_false_iff]
  intro e
  obtain ⟨x, hx, hp⟩ := List.any_eq_true.1 e
  obtain ⟨j, hj, rfl⟩ := List.mem_iff_getElem.1 hx
  exact h j hj (by simpa using hp)
theorem anyI_some {t : Int} {l : List Int} {k : Nat} (hk : k < l.length) (h : l[k] = t) : l.any (· == t) = true :=
  List.any_eq_true.2 ⟨l[k], List.getElem_mem hk, by simpa using h⟩
end Go.Proofs.Ytclnpfpaabmkcaa
namespace Go.Proofs.Ytclnpfpaabmkcaa
open Go.RowKit M
set_option linter.unusedVariables false

set_option maxHeartbeats 1000000 in
theorem indexI_any (a : Option Addr) (l : List Int) (cap B : Nat) (t : Int) (w : World) (h : Ints w B a l) (hl : l.length ≤ 1048576) :
    Calls Try.prog 54 #[.slice a l.length cap, .int .i64 t] w fun e w' => (∃ z : Int, e = .returned (.int .i64 z) ∧ decide (0 ≤ z) = l.any (· == t)) ∧ w' = w := by
  have HH := hide h
  clear h
  go_enter Try.func54, Try.ntmps54
  go_wp2
  go_loopw [8] (fun i wr => ∃ k : Nat, k ≤ l.length ∧ i = .int .i64 k ∧ Hid (∀ j (hj : j < l.length), j < k → l[j] ≠ t) ∧ wr = w) (fun i _ => l.length - (intOf i).toNat)
  case atStart => exact ⟨0, Nat.zero_le _, rfl, fun j _ hj => absurd hj (Nat.not_lt_zero _), rfl⟩
  case round =>
    obtain ⟨k, hk, rfl, HN, hw⟩ := hrel
    obtain rfl := hw.symm
    by_cases hlt : k < l.length
    · obtain ⟨b, o, rfl, hb, hc⟩ := HH.out (by omega)
      have hck := hc k hlt
      clear hc
      by_cases hz : l[k] = t
      · have HA := hide (anyI_some hlt hz)
        go_wp2
        go_ret
        exact ⟨⟨_, rfl, by rw [HA.out]; simp⟩, rfl⟩
      · have HZ := hide hz
        have hz2 : ¬ t = l[k] := fun e => hz e.symm
        go_wp2
        go_roundw
        case rel => exact ⟨k + 1, by omega, by go_num, fun j hj hjk => if e : j = k then by subst e; exact HZ.out else HN.out j hj (by omega), by trivial⟩
        case measure => simp [intOf]; omega
    · have HA := hide (anyI_none (fun j hj => HN.out j hj (by omega)))
      go_wp2
      go_ret
      exact ⟨⟨_, rfl, by rw [HA.out]; rfl⟩, rfl⟩

set_option maxHeartbeats 1000000 in
theorem containsI_any (a : Option Addr) (l : List Int) (cap B : Nat) (t : Int) (w : World) (h : Ints w B a l) (hl : l.length ≤ 1048576) :
    Calls Try.prog 33 #[.slice a l.length cap, .int .i64 t] w fun e w' => e = .returned (.bool (l.any (· == t))) ∧ w' = w := by
  have HQ := hide (indexI_any a l cap B t w h hl)
  clear h
  go_enter Try.func33, Try.ntmps33
  go_wp2_with fail
  refine HQ.out.mono ?_
  rintro e w1 ⟨⟨z, rfl, hz⟩, hw⟩
  obtain rfl := hw.symm
  have HZ := hide hz
  clear hz hw
  go_wp2
  go_ret
  exact ⟨by rw [← HZ.out]; rfl, rfl⟩
end Go.Proofs.Ytclnpfpaabmkcaa
namespace Go.Proofs.Ytclnpfpaabmkcaa
open Go.RowKit M
set_option linter.unusedVariables false

set_option maxRecDepth 100000 in
set_option maxHeartbeats 4000000 in
theorem indexO_any (fn : Nat) (hE : ∀ args w, (callFunc fn args).run Try.prog w = .ok (.enter fn args) w) (cp : Array Value) (P : Lk → Bool) (a : Option Addr) (l : List Lk) (cap B : Nat) (w : World) (h : Lks w B a l) (hB : B ≤ w.heap.size) (hl : l.length ≤ 1048577)
    (hP : ∀ k (hk : k < l.length) pa pc W, Below w.heap.size w W → LkIn W B l[k] pa pc → Calls Try.prog fn (#[.agg #[.int .i64 l[k].tk, .slice pa l[k].pa.length pc, .bool l[k].de, .bool l[k].sh, .int .i64 l[k].un]] ++ cp) W fun e w' => e = .returned (.bool (P l[k])) ∧ Below W.heap.size W w') :
    Calls Try.prog 56 #[.slice a l.length cap, .func (.func fn) #[] cp] w fun e w' => (∃ z : Int, e = .returned (.int .i64 z) ∧ placeB P l z) ∧ Below w.heap.size w w' := by
  have HH := hide h
  have HP := hide hP
  have HE := hide hE
  clear h hP hE
  go_enter Try.func56, Try.ntmps56
  go_wp2
  go_loopw [8] (fun i wr => ∃ k : Nat, k ≤ l.length ∧ i = .int .i64 k ∧ Hid (∀ j (hj : j < l.length), j < k → P l[j] = false) ∧ Below w.heap.size w wr) (fun i _ => l.length - (intOf i).toNat)
  case atStart => exact ⟨0, Nat.zero_le _, rfl, fun j _ hj => absurd hj (Nat.not_lt_zero _), Below.refl _ _⟩
  case round =>
    obtain ⟨k, hk, rfl, HN, hbe⟩ := hrel
    by_cases hlt : k < l.length
    · obtain ⟨b, o, rfl, hb, hc⟩ := (HH.out.below hbe hB) (by omega)
      obtain ⟨pa, pc, ⟨hc0, hc1, hc2, hc3, hc4⟩, hin⟩ := hc k hlt
      have HC := hide (HP.out k hlt pa pc wr hbe hin)
      obtain ⟨z, hz⟩ : ∃ z, P l[k] = z := ⟨_, rfl⟩
      rw [hz] at HC
      have HZ := hide hz
      clear hz hc hin
      go_wp2_with fail
      rw [HE.out, Oper.upon_enter]
      refine HC.out.mono ?_
      rintro e w1 ⟨rfl, b1⟩
      have c1 := hbe.trans (b1.mono hbe.size)
      clear b1 HC hc0 hc1 hc2 hc3 hc4
      cases z
      · go_wp2
        go_roundw
        case rel => exact ⟨k + 1, by omega, by go_num, fun j hj hjk => if e : j = k then by subst e; exact HZ.out else HN.out j hj (by omega), c1⟩
        case measure => simp [intOf]; omega
      · go_wp2
        go_ret
        exact ⟨⟨_, rfl, .inr ⟨k, rfl, hlt, HZ.out, HN.out⟩⟩, c1⟩
    · go_wp2
      go_ret
      exact ⟨⟨_, rfl, .inl ⟨rfl, any_none (fun j hj => HN.out j hj (by omega))⟩⟩, hbe⟩


theorem any_lk {P : Lk → Bool} (l : List Lk) : (l.filter P).length = 0 ↔ l.any P = false := by
  rw [List.length_eq_zero_iff, List.filter_eq_nil_iff, Bool.eq_false_iff, ne_eq, List.any_eq_true]
  exact ⟨fun h ⟨x, hx, hp⟩ => h x hx hp, fun h x hx hp => h ⟨x, hx, hp⟩⟩

set_option maxHeartbeats 1000000 in
theorem containsO_any (fn : Nat) (hE : ∀ args w, (callFunc fn args).run Try.prog w = .ok (.enter fn args) w) (cp : Array Value) (P : Lk → Bool) (a : Option Addr) (l : List Lk) (cap B : Nat) (w : World) (h : Lks w B a l) (hB : B ≤ w.heap.size) (hl : l.length ≤ 1048577)
    (hP : ∀ k (hk : k < l.length) pa pc W, Below w.heap.size w W → LkIn W B l[k] pa pc → Calls Try.prog fn (#[.agg #[.int .i64 l[k].tk, .slice pa l[k].pa.length pc, .bool l[k].de, .bool l[k].sh, .int .i64 l[k].un]] ++ cp) W fun e w' => e = .returned (.bool (P l[k])) ∧ Below W.heap.size W w') :
    Calls Try.prog 37 #[.slice a l.length cap, .func (.func fn) #[] cp] w fun e w' => e = .returned (.bool (l.any P)) ∧ Below w.heap.size w w' := by
  have HQ := hide (indexO_any fn hE cp P a l cap B w h hB hl hP)
  clear h hP hE
  go_enter Try.func37, Try.ntmps37
  go_wp2_with fail
  refine HQ.out.mono ?_
  rintro e w1 ⟨⟨z, rfl, hz⟩, b1⟩
  have HZ := hide (placeB_any hz)
  have HB := hide b1
  clear hz b1
  go_wp2
  go_ret
  exact ⟨by rw [← HZ.out]; rfl, HB.out⟩

set_option maxHeartbeats 1000000 in
theorem heldFn_any (r : Lk) (pa : Option Addr) (pc N : Nat) (C : Nat) (ta : Option Addr) (toks : List Int) (tc : Nat) (w : World) (h : w.cell? ⟨N, 0, none⟩ = some (.slice ta toks.length tc)) (ht : Ints w C ta toks) (hC : C ≤ w.heap.size) (hl : toks.length ≤ 1048576) :
    Calls Try.prog 32 #[.agg #[.int .i64 r.tk, .slice pa r.pa.length pc, .bool r.de, .bool r.sh, .int .i64 r.un], .pointer (some ⟨N, 0, none⟩)] w fun e w' => e = .returned (.bool (hasB toks r)) ∧ Below w.heap.size w w' := by
  have hb := (Below.refl w.heap.size w).alloc (Nat.le_refl _) (Obj.cells #[.int .i64 r.tk, .slice pa r.pa.length pc, .bool r.de, .bool r.sh, .int .i64 r.un] 27)
  have hN : N < w.heap.size := World.block_lt_of_cell? w _ h
  have h1 := (hb.cell (p := ⟨N, 0, none⟩) hN).trans h
  have HQ := hide (containsI_any ta toks tc C r.tk _ (ht.below hb hC) hl)
  have HB := hide hb
  clear hb ht h
  go_enter Try.func32, Try.ntmps32
  go_wp2_with fail
  refine HQ.out.mono ?_
  rintro e w1 ⟨rfl, hw⟩
  obtain rfl := hw.symm
  clear HQ hw
  go_wp2
  go_ret
  exact ⟨rfl, HB.out⟩

set_option maxHeartbeats 1000000 in
theorem sharedFn_any (r : Lk) (pa : Option Addr) (pc : Nat) (w : World) :
    Calls Try.prog 35 #[.agg #[.int .i64 r.tk, .slice pa r.pa.length pc, .bool r.de, .bool r.sh, .int .i64 r.un]] w fun e w' => e = .returned (.bool r.sh) ∧ Below w.heap.size w w' := by
  have HB := hide ((Below.refl w.heap.size w).alloc (Nat.le_refl _) (Obj.cells #[.int .i64 r.tk, .slice pa r.pa.length pc, .bool r.de, .bool r.sh, .int .i64 r.un] 27))
  go_enter Try.func35, Try.ntmps35
  go_wp2
  go_ret
  exact ⟨rfl, HB.out⟩

set_option maxHeartbeats 2000000 in
theorem missFn_any (r : Lk) (pa : Option Addr) (pc N M C : Nat) (ta : Option Addr) (toks : List Int) (tc : Nat) (w : World) (hM : w.cell? ⟨M, 0, none⟩ = some (.func (.func 32) #[] #[.pointer (some ⟨N, 0, none⟩)])) (h : w.cell? ⟨N, 0, none⟩ = some (.slice ta toks.length tc)) (ht : Ints w C ta toks) (hC : C ≤ w.heap.size) (hl : toks.length ≤ 1048576) :
    Calls Try.prog 36 #[.agg #[.int .i64 r.tk, .slice pa r.pa.length pc, .bool r.de, .bool r.sh, .int .i64 r.un], .pointer (some ⟨M, 0, none⟩)] w fun e w' => e = .returned (.bool (!r.sh && !hasB toks r)) ∧ Below w.heap.size w w' := by
  have hb := (Below.refl w.heap.size w).alloc (Nat.le_refl _) (Obj.cells #[.int .i64 r.tk, .slice pa r.pa.length pc, .bool r.de, .bool r.sh, .int .i64 r.un] 27)
  have hN : N < w.heap.size := World.block_lt_of_cell? w _ h
  have hM2 : M < w.heap.size := World.block_lt_of_cell? w _ hM
  have h1 := (hb.cell (p := ⟨N, 0, none⟩) hN).trans h
  have h2 := (hb.cell (p := ⟨M, 0, none⟩) hM2).trans hM
  have HQ := hide (heldFn_any r pa pc N C ta toks tc _ h1 (ht.below hb hC) (Nat.le_trans hC hb.size) hl)
  have HB := hide hb
  clear hb ht h h1 hM
  obtain ⟨tk, tt, de, sh, un⟩ := r
  simp only at *
  generalize hasB toks ⟨tk, tt, de, sh, un⟩ = hs at *
  cases sh
  · go_enter Try.func36, Try.ntmps36
    go_wp2_with fail
    refine HQ.out.mono ?_
    rintro e w1 ⟨rfl, b1⟩
    have HC1 := hide (HB.out.trans (b1.mono HB.out.size))
    clear b1 HQ h2
    go_wp2
    go_ret
    exact ⟨rfl, HC1.out⟩
  · go_enter Try.func36, Try.ntmps36
    clear HQ h2
    go_wp2
    go_ret
    exact ⟨rfl, HB.out⟩

set_option maxHeartbeats 2000000 in
theorem touchFn_any (r : Lk) (pa : Option Addr) (pc N M B C : Nat) (qa : Option Addr) (q : List ByteArray) (qc : Nat) (deep : Bool) (w : World) (h : w.cell? ⟨N, 0, none⟩ = some (.slice qa q.length qc)) (hM : w.cell? ⟨M, 0, none⟩ = some (.bool deep)) (hin : LkIn w B r pa pc) (hB : B ≤ w.heap.size) (hq : Strs w C qa q) (hC : C ≤ w.heap.size) (h1 : q.length ≤ qc) (h2 : qc ≤ maxLen) :
    Calls Try.prog 55 #[.agg #[.int .i64 r.tk, .slice pa r.pa.length pc, .bool r.de, .bool r.sh, .int .i64 r.un], .pointer (some ⟨N, 0, none⟩), .pointer (some ⟨M, 0, none⟩)] w fun e w' => e = .returned (.bool (touchB q deep r)) ∧ Below w.heap.size w w' := by
  have hb := (Below.refl w.heap.size w).alloc (Nat.le_refl _) (Obj.cells #[.int .i64 r.tk, .slice pa r.pa.length pc, .bool r.de, .bool r.sh, .int .i64 r.un] 27)
  have hN : N < w.heap.size := World.block_lt_of_cell? w _ h
  have hM2 : M < w.heap.size := World.block_lt_of_cell? w _ hM
  have c1 := (hb.cell (p := ⟨N, 0, none⟩) hN).trans h
  have c2 := (hb.cell (p := ⟨M, 0, none⟩) hM2).trans hM
  have HQ := hide (covers_any r pa pc qa q qc B C _ (hin.below hb hB) (Nat.le_trans hB hb.size) (hq.below hb hC) (Nat.le_trans hC hb.size) h1 h2)
  have HU := hide (fun w1 (hb1 : Below w.heap.size w w1) => under_any pa qa r.pa q pc qc B C w1 (hin.ph.below hb1 hB) (hq.below hb1 hC) hin.len (Nat.le_trans h1 h2) hin.pl hin.pm)
  have HX := hide (BoxV.made w [.int .i64 r.tk, .slice pa r.pa.length pc, .bool r.de, .bool r.sh, .int .i64 r.un] 27)
  have HB := hide hb
  have hsz : (w.alloc (Obj.cells #[.int .i64 r.tk, .slice pa r.pa.length pc, .bool r.de, .bool r.sh, .int .i64 r.un] 27)).heap.size = w.heap.size + 1 := by simp
  have HSZ := hide hsz
  have HT := hide (show touchB q deep r = (covB r q || (deep && underB r.pa q)) from rfl)
  clear hb hin hq h hM hsz
  generalize touchB q deep r = tb at *
  generalize covB r q = cv at *
  generalize underB r.pa q = un2 at *
  have hT := HT.out
  clear HT
  go_enter Try.func55, Try.ntmps55
  go_wp2_with fail
  refine HQ.out.mono ?_
  rintro e w1 ⟨rfl, b1⟩
  have HC1 := hide (HB.out.trans (b1.mono HB.out.size))
  have d1 := (b1.cell (p := ⟨N, 0, none⟩) (Nat.lt_of_lt_of_le hN HB.out.size)).trans c1
  have d2 := (b1.cell (p := ⟨M, 0, none⟩) (Nat.lt_of_lt_of_le hM2 HB.out.size)).trans c2
  have hx := (HX.out.next b1).2 1 _ rfl
  have hx1 := hx.1
  have HU1 := hide (HU.out w1 HC1.out)
  clear b1 HQ c1 c2 hx HU
  cases cv
  · cases deep
    · simp only [Bool.false_and, Bool.or_self] at hT
      subst hT
      go_wp2
      go_ret
      exact ⟨rfl, HC1.out⟩
    · simp only [Bool.true_and, Bool.false_or] at hT
      subst hT
      go_wp2_with fail
      refine HU1.out.mono ?_
      rintro e w2 ⟨rfl, b2⟩
      have HC2 := hide (HC1.out.trans (b2 _))
      clear b2
      go_wp2
      go_ret
      exact ⟨rfl, HC2.out⟩
  · simp only [Bool.true_or] at hT
    subst hT
    go_wp2
    go_ret
    exact ⟨rfl, HC1.out⟩

set_option maxHeartbeats 2000000 in
theorem touching_any (a : Option Addr) (l : List Lk) (cap B : Nat) (qa : Option Addr) (q : List ByteArray) (qc C : Nat) (deep : Bool) (w : World) (h : Lks w B a l) (hB : B ≤ w.heap.size) (hq : Strs w C qa q) (hC : C ≤ w.heap.size) (h1 : q.length ≤ qc) (h2 : qc ≤ maxLen) (hl : l.length ≤ 1048576) :
    Calls Try.prog 34 #[.slice a l.length cap, .slice qa q.length qc, .bool deep] w fun e w' => (∃ (g n c : Nat) (ts : List LkT), e = .returned (.slice (some ⟨g, 0, none⟩) n c) ∧ n = ts.length ∧ n ≤ c ∧ c ≤ maxLen ∧ g < w'.heap.size ∧ ts.map (·.r) = l.filter (touchB q deep) ∧ RowV w' g ts ∧ InV w' B ts) ∧ Below w.heap.size w w' := by
  have hmf : ∀ (fn : Fn) (first cap : Array Value) (w : World), (Instr.makeFunc fn first cap).run Try.prog w = .ok (.func fn first cap) w := fun _ _ _ _ => rfl
  have hb0 := ((Below.refl w.heap.size w).alloc (Nat.le_refl _) (Obj.cells #[.slice qa q.length qc] 25)).alloc (by simp) (Obj.cells #[.bool deep] 4)
  have hc1 : ((w.alloc (Obj.cells #[.slice qa q.length qc] 25)).alloc (Obj.cells #[.bool deep] 4)).cell? ⟨w.heap.size, 0, none⟩ = some (.slice qa q.length qc) := by simp
  have hc2 : ((w.alloc (Obj.cells #[.slice qa q.length qc] 25)).alloc (Obj.cells #[.bool deep] 4)).cell? ⟨w.heap.size + 1, 0, none⟩ = some (.bool deep) := by simp
  have HT := hide (those_any 55 (fun args w => enter_fn Try.func55 (by kernel_rfl) rfl args w) #[.pointer (some ⟨w.heap.size, 0, none⟩), .pointer (some ⟨w.heap.size + 1, 0, none⟩)] (touchB q deep) a l cap B _ (h.below hb0 hB) (Nat.le_trans hB hb0.size) (by omega) (fun k hk pa pc W hW hin => touchFn_any l[k] pa pc w.heap.size (w.heap.size + 1) B C qa q qc deep W ((hW.cell (p := ⟨w.heap.size, 0, none⟩) (by simp; try omega)).trans hc1) ((hW.cell (p := ⟨w.heap.size + 1, 0, none⟩) (by simp; try omega)).trans hc2) hin (Nat.le_trans (Nat.le_trans hB hb0.size) hW.size) ((hq.below hb0 hC).below hW (Nat.le_trans hC hb0.size)) (Nat.le_trans (Nat.le_trans hC hb0.size) hW.size) h1 h2))
  have HB0 := hide hb0
  clear hb0 hc1 hc2 h hq h1 h2
  go_enter Try.func34, Try.ntmps34
  go_wp2_with fail
  refine HT.out.mono ?_
  rintro e w1 ⟨⟨g, n, c, ts, rfl, hn, hc1, hc2, hg, hgl, hts, hrow, hin⟩, b1⟩
  have HC1 := hide (HB0.out.trans (b1.mono HB0.out.size))
  have HF := hide (And.intro hn (And.intro hc1 (And.intro hc2 (And.intro hgl (And.intro hts (And.intro hrow hin))))))
  clear hn hc1 hc2 hg hgl hts hrow hin b1 HT
  go_wp2
  go_ret
  exact ⟨⟨g, n, c, ts, rfl, HF.out⟩, HC1.out⟩
end Go.Proofs.Ytclnpfpaabmkcaa
namespace Go.Proofs.Ytclnpfpaabmkcaa
open Go.RowKit M
set_option linter.unusedVariables false

theorem dec_lk {P : Lk → Bool} (m : List Lk) : decide ((m.filter P).length = 0) = !(m.any P) := by
  cases h : m.any P with
  | false => rw [decide_eq_true ((any_lk m).2 h)]; rfl
  | true => rw [decide_eq_false (fun e => by rw [(any_lk m).1 e] at h; cases h)]; rfl
theorem all_lk (toks : List Int) (m : List Lk) : m.all (fun x => x.sh || hasB toks x) = !(m.any fun x => !x.sh && !hasB toks x) := by
  induction m with
  | nil => rfl
  | cons x r ih => simp only [List.all_cons, List.any_cons, ih, Bool.not_or, Bool.not_and, Bool.not_not]
theorem may_eq (l : List Lk) (q : List ByteArray) (deep : Bool) (toks : List Int) : mayB l q deep toks = (decide (((l.filter (touchB q deep)).filter fun x => !x.sh && !hasB toks x).length = 0) && (decide (((l.filter (touchB q deep)).filter fun x => x.sh).length = 0) || ((l.filter (touchB q deep)).filter fun x => x.sh).any (hasB toks))) := by
  unfold mayB
  generalize l.filter (touchB q deep) = m
  rw [dec_lk, dec_lk, all_lk, List.any_filter]

set_option maxRecDepth 100000 in
set_option maxHeartbeats 4000000 in
theorem mayTurn_any (a : Option Addr) (l : List Lk) (cap B : Nat) (qa : Option Addr) (q : List ByteArray) (qc C : Nat) (deep : Bool) (ta : Option Addr) (toks : List Int) (tc D : Nat) (w : World) (h : Lks w B a l) (hB : B ≤ w.heap.size) (hq : Strs w C qa q) (hC : C ≤ w.heap.size) (ht : Ints w D ta toks) (hD : D ≤ w.heap.size) (h1 : q.length ≤ qc) (h2 : qc ≤ maxLen) (hl : l.length ≤ 1048576) (htl : toks.length ≤ 1048576) :
    Calls Try.prog 13 #[.slice a l.length cap, .slice qa q.length qc, .bool deep, .slice ta toks.length tc] w fun e w' => e = .returned (.bool (mayB l q deep toks)) ∧ Below w.heap.size w w' := by
  have hmf : ∀ (fn : Fn) (first cap : Array Value) (w : World), (Instr.makeFunc fn first cap).run Try.prog w = .ok (.func fn first cap) w := fun _ _ _ _ => rfl
  obtain ⟨W2, hW2⟩ : ∃ W, ((w.alloc (Obj.cells #[.slice ta toks.length tc] 35)).alloc (Obj.cells #[.nilFunc] 47)).setCell ⟨w.heap.size + 1, 0, none⟩ (.func (.func 32) #[] #[.pointer (some ⟨w.heap.size, 0, none⟩)]) = W := ⟨_, rfl⟩
  have hst : (store ⟨w.heap.size + 1, 0, none⟩ (.func (.func 32) #[] #[.pointer (some ⟨w.heap.size, 0, none⟩)])).run Try.prog ((w.alloc (Obj.cells #[.slice ta toks.length tc] 35)).alloc (Obj.cells #[.nilFunc] 47)) = .ok () W2 := by
    rw [run_store _ _ _ _ _ rfl, ← hW2]
    simp
  have hb0 : Below w.heap.size w W2 := by rw [← hW2]; refine Below.setCell (Below.alloc (Below.alloc (Below.refl w.heap.size w) (Nat.le_refl _) _) ?_ _) ?_ _ <;> simp
  have hc1 : W2.cell? ⟨w.heap.size, 0, none⟩ = some (.slice ta toks.length tc) := by rw [← hW2]; simp [go_sem]
  have hc2 : W2.cell? ⟨w.heap.size + 1, 0, none⟩ = some (.func (.func 32) #[] #[.pointer (some ⟨w.heap.size, 0, none⟩)]) := by rw [← hW2]; simp [go_sem]
  have hz2 : W2.heap.size = w.heap.size + 2 := by rw [← hW2]; simp
  clear hW2
  have HM := hide (may_eq l q deep toks)
  have HQ := hide (touching_any a l cap B qa q qc C deep W2 (h.below hb0 hB) (Nat.le_trans hB hb0.size) (hq.below hb0 hC) (Nat.le_trans hC hb0.size) h1 h2 hl)
  have HC := hide (And.intro hc1 (And.intro hc2 (And.intro hz2 hb0)))
  have HT := hide ht
  clear hb0 hc1 hc2 hz2 h hq h1 h2 ht
  go_enter Try.func13, Try.ntmps13
  go_wp2_with fail
  clear hst
  refine HQ.out.mono ?_
  rintro e w1 ⟨⟨g, n, c, ts, rfl, hn, hc1, hc2, hgl, hts, hrow, hin⟩, b1⟩
  have HC1 := hide (HC.out.2.2.2.trans (b1.mono HC.out.2.2.2.size))
  have e1 := (b1.cell (p := ⟨w.heap.size, 0, none⟩) (by have := HC.out.2.2.1; simp; omega)).trans HC.out.1
  have e2 := (b1.cell (p := ⟨w.heap.size + 1, 0, none⟩) (by have := HC.out.2.2.1; simp; omega)).trans HC.out.2.1
  have HE1 := hide (And.intro e1 e2)
  have hz1 : w.heap.size + 2 ≤ w1.heap.size := by have := HC.out.2.2.1; have := b1.size; omega
  have hln : n = (l.filter (touchB q deep)).length := by rw [hn, ← hts, List.length_map]
  have hle := List.length_filter_le (touchB q deep) l
  have HLN := hide hln
  have HLK := hide (lks_of_rowV hts hrow hin (Nat.le_trans (Nat.le_trans hB HC.out.2.2.2.size) b1.size))
  have hnl : n ≤ 1048576 := by omega
  clear hln e1 e2 hn hc1 hc2 hgl hts hrow hin b1 HQ HC
  obtain ⟨m, hm⟩ : ∃ m, l.filter (touchB q deep) = m := ⟨_, rfl⟩
  rw [hm] at HLK HLN HM hle
  clear hm
  clear hle
  have HQS := those_any 35 (fun args w => enter_fn Try.func35 (by kernel_rfl) rfl args w) #[] (fun x => x.sh) (some ⟨g, 0, none⟩) m c w1.heap.size w1 HLK.out (Nat.le_refl _) (by have := HLN.out; omega) (fun k hk pa pc W hW hin => by simpa using sharedFn_any m[k] pa pc W)
  rw [← HLN.out] at HQS
  replace HQS := hide HQS
  go_wp2_with fail
  refine HQS.out.mono ?_
  rintro e w2 ⟨⟨g2, n2, c2, ts2, rfl, hn2, hc21, hc22, hg2, hgl2, hts2, hrow2, hin2⟩, b2⟩
  have HC2 := hide (HC1.out.trans (b2.mono HC1.out.size))
  have HE2 := hide (And.intro ((b2.cell (p := ⟨w.heap.size, 0, none⟩) (by show w.heap.size < _; omega)).trans HE1.out.1) ((b2.cell (p := ⟨w.heap.size + 1, 0, none⟩) (by show w.heap.size + 1 < _; omega)).trans HE1.out.2))
  have hln2 : n2 = (m.filter (fun x => x.sh)).length := by rw [hn2, ← hts2, List.length_map]
  have hle2 := List.length_filter_le (fun x : Lk => x.sh) m
  have hml : m.length ≤ 1048576 := by have := HLN.out; omega
  have HLN2 := hide hln2
  have HLK2 := hide (lks_of_rowV hts2 hrow2 hin2 b2.size)
  have HLKm := hide (HLK.out.below b2 (Nat.le_refl _))
  have hz2 := b2.size
  have hn2l : n2 ≤ 1048576 := by omega
  clear hml hle2 hln2 hn2 hc21 hc22 hg2 hgl2 hts2 hrow2 hin2 b2 HQS HE1 HC1 HLK
  have HQM := those_any 36 (fun args w => enter_fn Try.func36 (by kernel_rfl) rfl args w) #[.pointer (some ⟨w.heap.size + 1, 0, none⟩)] (fun x => !x.sh && !hasB toks x) (some ⟨g, 0, none⟩) m c w1.heap.size w2 HLKm.out hz2 (by have := HLN.out; omega) (fun k hk pa pc W hW hin => missFn_any m[k] pa pc w.heap.size (w.heap.size + 1) D ta toks tc W ((hW.cell (p := ⟨w.heap.size + 1, 0, none⟩) (by show w.heap.size + 1 < _; omega)).trans HE2.out.2) ((hW.cell (p := ⟨w.heap.size, 0, none⟩) (by show w.heap.size < _; omega)).trans HE2.out.1) ((HT.out.below HC2.out hD).below hW (by omega)) (by have := hW.size; omega) htl)
  rw [← HLN.out] at HQM
  replace HQM := hide HQM
  go_wp2_with fail
  refine HQM.out.mono ?_
  rintro e w3 ⟨⟨g3, n3, c3, ts3, rfl, hn3, hc31, hc32, hg3, hgl3, hts3, hrow3, hin3⟩, b3⟩
  have HC3 := hide (HC2.out.trans (b3.mono HC2.out.size))
  have e1 := (b3.cell (p := ⟨w.heap.size, 0, none⟩) (by show w.heap.size < _; omega)).trans HE2.out.1
  have e2 := (b3.cell (p := ⟨w.heap.size + 1, 0, none⟩) (by show w.heap.size + 1 < _; omega)).trans HE2.out.2
  have hln3 : n3 = (m.filter (fun x => !x.sh && !hasB toks x)).length := by rw [hn3, ← hts3, List.length_map]
  have HE1 := hide e1
  have HLK3 := hide (HLK2.out.below b3 (Nat.le_refl _))
  have hz3 := b3.size
  obtain ⟨M2, hM2⟩ : ∃ M, m.filter (fun x => x.sh) = M := ⟨_, rfl⟩
  rw [hM2] at HLK3 HLN2 HM
  clear hM2
  have HQH := containsO_any 32 (fun args w => enter_fn Try.func32 (by kernel_rfl) rfl args w) #[.pointer (some ⟨w.heap.size, 0, none⟩)] (hasB toks) (some ⟨g2, 0, none⟩) M2 c2 w2.heap.size w3 HLK3.out hz3 (by have := HLN2.out; omega) (fun k hk pa pc W hW hin => heldFn_any _ pa pc w.heap.size D ta toks tc W ((hW.cell (p := ⟨w.heap.size, 0, none⟩) (by show w.heap.size < _; omega)).trans HE1.out) ((HT.out.below HC3.out hD).below hW (by omega)) (by have := hW.size; omega) htl)
  rw [← HLN2.out] at HQH
  replace HQH := hide HQH
  rw [← hln3, ← HLN2.out] at HM
  obtain ⟨z, hz⟩ : ∃ z, M2.any (hasB toks) = z := ⟨_, rfl⟩
  rw [hz] at HM HQH
  clear hn3 hc31 hc32 hg3 hgl3 hts3 hrow3 hin3 b3 HQM HE1 HE2 HLK2 HLK3 HLKm HC2 hz e1 hln3 HLN HLN2
  by_cases h3 : n3 = 0
  · by_cases h2 : n2 = 0
    · rw [decide_eq_true h3, decide_eq_true h2] at HM
      have i3 : (n3 : Int) = 0 := by omega
      have i2 : (n2 : Int) = 0 := by omega
      clear HQH h3 h2
      go_wp2
      go_ret
      exact ⟨by rw [HM.out]; rfl, HC3.out⟩
    · rw [decide_eq_true h3, decide_eq_false h2] at HM
      have i3 : (n3 : Int) = 0 := by omega
      have i2 : ¬ (n2 : Int) = 0 := by omega
      have HB2 := hide (show ((n2 : Int) == 0) = false by simpa using h2)
      clear h3 h2
      go_wp2_with fail
      refine HQH.out.mono ?_
      rintro e w4 ⟨rfl, b4⟩
      have HC4 := hide (HC3.out.trans (b4.mono HC3.out.size))
      clear b4 HQH e2
      go_wp2
      go_ret
      exact ⟨by first | (rw [HM.out]; rfl) | (rw [HM.out, ← HB2.out]; rfl), HC4.out⟩
  · rw [decide_eq_false h3] at HM
    have i3 : ¬ (n3 : Int) = 0 := by omega
    clear HQH h3
    go_wp2
    go_ret
    exact ⟨by rw [HM.out]; rfl, HC3.out⟩
end Go.Proofs.Ytclnpfpaabmkcaa
namespace Go.Proofs.Ytclnpfpaabmkcaa
open Go.RowKit M
set_option linter.unusedVariables false

theorem ints_of_view {w : World} {B : Nat} {v : Value} {l : List Int} (h : View w B v (.l (l.map dI))) : ∃ a cap, v = .slice a l.length cap ∧ l.length ≤ cap ∧ cap ≤ maxLen ∧ (a = none → cap = 0) ∧ Ints w B a l := by
  obtain ⟨a, cap, h1, h2, h3, h4, h5⟩ := h.rows 1 (fun _ => rfl)
  refine ⟨a, cap, h1, h2, h3, h4, fun h0 => ?_⟩
  obtain ⟨b, o, C, e, hb, hc⟩ := h5 h0
  refine ⟨b, o, e, hb, fun j hj => ?_⟩
  obtain ⟨c, v⟩ := hc j hj 0 (.c (.int .i64 l[j])) rfl
  rw [v.inv] at c
  simpa using c
end Go.Proofs.Ytclnpfpaabmkcaa
