/-
  Views and rows of locks: one as the other.
  What impl.tokensOf and impl.TokensAt do.
  Whether two slices of texts hold the same: what spec.SamePath does.
  What the specification's Under does.
  What spec.Covers does.
  What spec.TokensAt does.
  TokensAt on both sides, over views.
  The leafs of what is known.
  The leafs of a thing.
  The leafs of a server.
  Views and rows of things: one as the other.
  A server in memory: its parts, and that it is small.
-/
import Derived.Test.YtfhcniifennfbaaGreatDoorGenLock
import Derived.Test.YtfhcniifennfbaaGreatDoorMathMark2
import Derived.Test.YtfhcniifennfbaaGreatDoorSliceEq
import Derived.Test.YtfhcniifennfbaaGreatDoorMathLock
import Derived.Test.YtfhcniifennfbaaGreatDoorIntsV
namespace Go.Proofs.YtfhcniifennfbaaGreatDoor
open Go.RowKit M
set_option linter.unusedVariables false

theorem strs_of_view {w : World} {B : Nat} {v : Value} {l : List ByteArray} (h : View w B v (.l (l.map dS))) : ∃ a cap, v = .slice a l.length cap ∧ l.length ≤ cap ∧ cap ≤ maxLen ∧ (a = none → cap = 0) ∧ Strs w B a l := by
  obtain ⟨a, cap, h1, h2, h3, h4, h5⟩ := h.rows 1 (fun _ => rfl)
  refine ⟨a, cap, h1, h2, h3, h4, fun h0 => ?_⟩
  obtain ⟨b, o, C, e, hb, hc⟩ := h5 h0
  refine ⟨b, o, e, hb, fun j hj => ?_⟩
  obtain ⟨c, v⟩ := hc j hj 0 (.c (.string l[j])) rfl
  rw [v.inv] at c
  simpa using c
theorem view_of_strs {w : World} {B : Nat} {a : Option Addr} {cap : Nat} {l : List ByteArray} (h : Strs w B a l) (h1 : l.length ≤ cap) (h2 : cap ≤ maxLen) (h3 : a = none → cap = 0) : View w B (.slice a l.length cap) (.l (l.map dS)) := by
  by_cases h0 : 0 < l.length
  · obtain ⟨b, o, rfl, hb, hc⟩ := h h0
    have e : l.length = (l.map dS).length := (List.length_map ..).symm
    rw [e]
    refine .row b o cap 1 _ (fun j i => match l[j]? with | some s => .string s | none => .bool false) hb (by rw [← e]; exact h1) h2 (fun r hr => by obtain ⟨x, _, rfl⟩ := List.mem_map.1 hr; rfl) (fun j i x hx => ?_) (fun j i x hx => ?_)
    all_goals
      unfold cellAt at hx
      by_cases hj : j < l.length
      · rw [map_at dS l j hj] at hx
        match i with
        | 0 => cases hx; rw [List.getElem?_eq_getElem hj]; first | exact .c _ | (simp; done) | (have := hc j hj; simpa using this)
        | i + 1 => cases hx
      · rw [List.getElem?_eq_none (by simp; omega)] at hx; cases hx
  · have : l = [] := List.eq_nil_of_length_eq_zero (by omega)
    subst this
    exact .nil a cap h3 h2
theorem lks_of_view {w : World} {B : Nat} {v : Value} {l : List Lk} (h : View w B v (.l (l.map dLk))) : ∃ a cap, v = .slice a l.length cap ∧ l.length ≤ cap ∧ cap ≤ maxLen ∧ (a = none → cap = 0) ∧ Lks w B a l := by
  obtain ⟨a, cap, h1, h2, h3, h4, h5⟩ := h.rows 5 (fun _ => rfl)
  refine ⟨a, cap, h1, h2, h3, h4, fun h0 => ?_⟩
  obtain ⟨b, o, C, e, hb, hc⟩ := h5 h0
  refine ⟨b, o, e, hb, fun j hj => ?_⟩
  obtain ⟨c0, v0⟩ := hc j hj 0 (.c (.int .i64 l[j].tk)) rfl
  obtain ⟨c1, v1⟩ := hc j hj 1 (.l (l[j].pa.map dS)) rfl
  obtain ⟨c2, v2⟩ := hc j hj 2 (.c (.bool l[j].de)) rfl
  obtain ⟨c3, v3⟩ := hc j hj 3 (.c (.bool l[j].sh)) rfl
  obtain ⟨c4, v4⟩ := hc j hj 4 (.c (.int .i64 l[j].un)) rfl
  obtain ⟨pa, pc, e1, p1, p2, p3, p4⟩ := strs_of_view v1
  rw [v0.inv] at c0
  rw [e1] at c1
  rw [v2.inv] at c2
  rw [v3.inv] at c3
  rw [v4.inv] at c4
  exact ⟨pa, pc, ⟨c0, c1, c2, c3, c4⟩, ⟨p4, p1, p2, p3⟩⟩
def lkVal (r : Lk) (pv : Value) (i : Nat) : Value := (([.int .i64 r.tk, pv, .bool r.de, .bool r.sh, .int .i64 r.un] : List Value)[i]?).getD (.bool false)
theorem view_of_lks {w : World} {B : Nat} {a : Option Addr} {cap : Nat} {l : List Lk} (h : Lks w B a l) (h1 : l.length ≤ cap) (h2 : cap ≤ maxLen) (h3 : a = none → cap = 0) : View w B (.slice a l.length cap) (.l (l.map dLk)) := by
  by_cases h0 : 0 < l.length
  · obtain ⟨b, o, rfl, hb, hc⟩ := h h0
    have each : ∀ j, ∃ pv : Value, ∀ hj : j < l.length, (∀ i v, i < 5 → lkVal l[j] pv i = v → w.cell? ⟨b, o + j * 5 + i, none⟩ = some v) ∧ View w B pv (.l (l[j].pa.map dS)) := fun j => by
      by_cases hj : j < l.length
      · obtain ⟨pa, pc, ⟨c0, c1, c2, c3, c4⟩, p⟩ := hc j hj
        refine ⟨.slice pa l[j].pa.length pc, fun _ => ⟨fun i v hi hv => ?_, view_of_strs p.ph p.pl p.pm p.pn⟩⟩
        subst hv
        match i, hi with
        | 0, _ => exact c0
        | 1, _ => exact c1
        | 2, _ => exact c2
        | 3, _ => exact c3
        | 4, _ => exact c4
      · exact ⟨.bool false, fun h => absurd h hj⟩
    have e : l.length = (l.map dLk).length := (List.length_map ..).symm
    rw [e]
    refine .row b o cap 5 _ (fun j i => match l[j]? with | some r => lkVal r (Classical.choose (each j)) i | none => .bool false) hb (by rw [← e]; exact h1) h2 (fun r hr => by obtain ⟨x, _, rfl⟩ := List.mem_map.1 hr; rfl) (fun j i x hx => ?_) (fun j i x hx => ?_)
    · unfold cellAt at hx
      by_cases hj : j < l.length
      · rw [map_at dLk l j hj] at hx
        have hi : i < 5 := (List.getElem?_eq_some_iff.1 hx).1
        rw [List.getElem?_eq_getElem hj]
        exact (Classical.choose_spec (each j) hj).1 i _ hi rfl
      · rw [List.getElem?_eq_none (by simp; omega)] at hx; cases hx
    · unfold cellAt at hx
      by_cases hj : j < l.length
      · rw [map_at dLk l j hj] at hx
        rw [List.getElem?_eq_getElem hj]
        match i with
        | 0 => cases hx; exact .c _
        | 1 => cases hx; exact (Classical.choose_spec (each j) hj).2
        | 2 => cases hx; exact .c _
        | 3 => cases hx; exact .c _
        | 4 => cases hx; exact .c _
        | i + 5 => cases hx
      · rw [List.getElem?_eq_none (by simp; omega)] at hx; cases hx
  · have : l = [] := List.eq_nil_of_length_eq_zero (by omega)
    subst this
    exact .nil a cap h3 h2
theorem own_of_rowS {w : World} {p c : Nat} {l : List ByteArray} (h : RowS w p l) (h1 : l.length ≤ c) (h2 : c ≤ maxLen) : Own w (.slice (some ⟨p, 0, none⟩) l.length c) (.l (l.map dS)) (fun y => y = p) := by
  have e : l.length = (l.map dS).length := (List.length_map ..).symm
  rw [e]
  refine RowG.own (R := rowsF dS l) (K := 1) (o := 0) (C := fun j i => .string ((l[j]?).getD ByteArray.empty)) (Sf := fun _ _ _ => False) ⟨rfl, h.1, fun j hj => by rw [rowsF_at l j (by simpa using hj)]; rfl, fun j i hj hi => ?_, fun j i x hj hx => ?_, fun j i y hy => hy.elim, fun j i j' i' y _ hy => hy.elim⟩ (fun j hj => by rw [rowsF_at l j (by simpa using hj)]; simp) (by rw [← e]; exact h1) h2
  · have hj' : j < l.length := by simpa using hj
    have hi0 : i = 0 := by omega
    subst hi0
    have := h.2 j hj'
    rw [List.getElem?_eq_getElem hj']
    simpa using this
  · have hj' : j < l.length := by simpa using hj
    rw [rowsF_at l j hj'] at hx
    match i with
    | 0 => cases hx; rw [List.getElem?_eq_getElem hj']; exact .c _ _
    | i + 1 => cases hx
theorem own_of_ownL {w : World} {lo hi g : Nat} {l : List Lk} {pb : Nat → Nat} (h : OwnL w lo hi g l pb) (hm : l.length ≤ maxLen) : Own w (.slice (some ⟨g, 0, none⟩) l.length l.length) (.l (l.map dLk)) (IvG lo hi) := by
  have each : ∀ j, ∃ pc : Nat, ∀ hj : j < l.length, LkAt w g (j * 5) l[j] (some ⟨pb j, 0, none⟩) pc ∧ l[j].pa.length ≤ pc ∧ pc ≤ maxLen := fun j => by
    by_cases hj : j < l.length
    · obtain ⟨pc, h1⟩ := h.cl j hj; exact ⟨pc, fun _ => h1⟩
    · exact ⟨0, fun h => absurd h hj⟩
  have e : l.length = (l.map dLk).length := (List.length_map ..).symm
  rw [e]
  refine RowG.own (R := rowsF dLk l) (K := 5) (o := 0) (C := fun j i => match l[j]? with | some r => lkVal r (.slice (some ⟨pb j, 0, none⟩) r.pa.length (Classical.choose (each j))) i | none => .bool false) (Sf := fun j i y => j < l.length ∧ i = 1 ∧ y = pb j) ⟨⟨h.gl, h.gh⟩, h.gs, fun j hj => by rw [rowsF_at l j (by simpa using hj)]; rfl, fun j i hj hi => ?_, fun j i x hj hx => ?_, fun j i y hy => ?_, fun j i j' i' y hne hy hy' => ?_⟩ (fun j hj => by rw [rowsF_at l j (by simpa using hj)]; simp) (by rw [← e]; exact Nat.le_refl _) (by rw [← e]; exact hm)
  · have hj' : j < l.length := by simpa using hj
    obtain ⟨⟨c0, c1, c2, c3, c4⟩, _⟩ := Classical.choose_spec (each j) hj'
    rw [List.getElem?_eq_getElem hj', Nat.zero_add]
    refine ⟨?_, h.fz _⟩
    match i, hi with
    | 0, _ => exact c0
    | 1, _ => exact c1
    | 2, _ => exact c2
    | 3, _ => exact c3
    | 4, _ => exact c4
  · have hj' : j < l.length := by simpa using hj
    rw [rowsF_at l j hj'] at hx
    rw [List.getElem?_eq_getElem hj']
    match i with
    | 0 => cases hx; exact .c _ _
    | 1 => cases hx; exact (own_of_rowS (h.rp j hj') (Classical.choose_spec (each j) hj').2.1 (Classical.choose_spec (each j) hj').2.2).wide (fun y hy => ⟨hj', rfl, hy⟩)
    | 2 => cases hx; exact .c _ _
    | 3 => cases hx; exact .c _ _
    | 4 => cases hx; exact .c _ _
    | i + 5 => cases hx
  · obtain ⟨hj, _, rfl⟩ := hy
    obtain ⟨b1, b2, b3⟩ := h.bnd j hj
    exact ⟨⟨b1, b2⟩, b3⟩
  · obtain ⟨hj, h1, e1⟩ := hy
    obtain ⟨hj2, h2, e2⟩ := hy'
    rcases Nat.lt_trichotomy j j' with hh | hh | hh
    · exact h.ord j j' hh hj2 (by rw [← e1, ← e2])
    · omega
    · exact h.ord j' j hh hj (by rw [← e1, ← e2])
/-- What the sizes say. -/
theorem sz_dLk (r : Lk) : szR (dLk r) = r.pa.length + sumS r.pa := by
  have hs : ∀ l : List ByteArray, szRs (l.map dS) = l.length + sumS l := fun l => by
    induction l with
    | nil => simp [szRs, sumS]
    | cons x l ih => rw [List.map_cons, szRs_cons, ih]; simp [dS, szR, szF, szV, sumS]; omega
  simp [dLk, szR, szF, szV, hs]
theorem lk_small {l : List Lk} {N : Nat} (h : szRs (l.map dLk) ≤ N) : ∀ r ∈ l, r.pa.length ≤ N ∧ ∀ s ∈ r.pa, s.size ≤ N := fun r hr => by
  have h1 := szRs_mem _ _ (List.mem_map_of_mem (f := dLk) hr)
  rw [sz_dLk] at h1
  exact ⟨by omega, fun s hs => by have := sumS_mem _ s hs; omega⟩
theorem lk_len {l : List Lk} {N : Nat} (h : szRs (l.map dLk) ≤ N) : l.length ≤ N := by
  have := szRs_len (l.map dLk)
  rw [List.length_map] at this
  omega
end Go.Proofs.YtfhcniifennfbaaGreatDoor
namespace Go.Proofs.YtfhcniifennfbaaGreatDoor
open Go.RowKit M
set_option linter.unusedVariables false

theorem infoTk : (Tryz.prog.info? 3).map (fun i => (i.zero, i.size, i.bytes)) = some (some (.int .i64 0), 1, 8) := by kernel_rfl

set_option maxRecDepth 100000 in
set_option maxHeartbeats 2000000 in
theorem tokensOf_any (a : Option Addr) (l : List Lk) (cap B : Nat) (w : World) (h : Lks w B a l) (hB : B ≤ w.heap.size) (hl : l.length ≤ 1048576) :
    Calls Tryz.prog 165 #[.slice a l.length cap] w fun e w' => (∃ p : Nat, e = .returned (.slice (some ⟨p, 0, none⟩) l.length l.length) ∧ Own w' (.slice (some ⟨p, 0, none⟩) l.length l.length) (.l ((l.map (·.tk)).map dI)) (IvG w.heap.size w'.heap.size)) ∧ Below w.heap.size w w' := by
  obtain ⟨i, hi, hz, hs, hb⟩ := info_parts infoTk
  have hmk := run_make (P := Tryz.prog) w 24 3 i _ Tryz.underlying24 hi hz .i64 .i64 l.length l.length (by omega) (Int.le_refl _) (by rw [hb]; omega) (by omega)
  simp only [Int.toNat_natCast, hs] at hmk
  have hm0 := MadeG.start w #[.int .i64 0] l.length 1 3 (rowsF dI (l.map (·.tk)))
  simp only [Nat.mul_one] at hm0
  have HM0 := hide hm0
  have HH := hide h
  clear h hm0 hi hz hs hb
  simp only [Nat.mul_one] at hmk
  go_enter Tryz.func165, Tryz.ntmps165
  go_wp2
  clear hmk
  go_loopw [11] (fun i wr => ∃ k : Nat, k ≤ l.length ∧ i = .int .i64 k ∧ Hid (MadeG wr w.heap.size 1 l.length (rowsF dI (l.map (·.tk))) k) ∧ Below w.heap.size w wr) (fun i _ => l.length - (intOf i).toNat)
  case atStart => exact ⟨0, Nat.zero_le _, rfl, HM0, (Below.refl _ _).alloc (Nat.le_refl _) _⟩
  case round =>
    obtain ⟨k, hk, rfl, HR, hbe⟩ := hrel
    by_cases hlt : k < l.length
    · obtain ⟨b, o, rfl, hb, hc⟩ := (HH.out.below hbe hB) (by omega)
      obtain ⟨pa, pc1, ⟨hc0, hc1, hc2, hc3, hc4⟩, hin⟩ := hc k hlt
      have hrk : rowsF dI (l.map (·.tk)) k = dI l[k].tk := by rw [rowsF_at _ k (by simpa using hlt)]; simp
      have b1 := (Below.refl wr.heap.size wr).alloc (Nat.le_refl _) (Obj.cells #[.int .i64 l[k].tk, .slice pa l[k].pa.length pc1, .bool l[k].de, .bool l[k].sh, .int .i64 l[k].un] 110)
      have hm1 := HR.out.next0 b1
      obtain ⟨u, hu, fu⟩ := hm1.cell hlt 0 (by decide)
      simp only [Nat.mul_one, Nat.add_zero] at hu fu
      have HR2 := hm1.next (Below.refl _ _) hlt [.int .i64 l[k].tk] rfl (fun _ _ => False) (fun i y hy => by
        rw [hrk] at hy
        match i with
        | 0 => cases hy; exact ⟨_, rfl, .c _ _⟩
        | i + 1 => cases hy) (fun _ _ h => h.elim) (fun _ _ _ _ h => h.elim)
      simp only [Nat.mul_one] at HR2
      have HR3 := hide HR2
      have HC := hide (hbe.trans (b1.mono hbe.size))
      clear HR2 HR hm1 b1 hin hc
      go_wp2
      go_roundw
      case rel => exact ⟨k + 1, by omega, by go_num, HR3, HC.out.setCell (Nat.le_refl _) _⟩
      case measure => simp [intOf]; omega
    · have hk2 : k = l.length := by omega
      subst hk2
      have HO := hide (HR.out.done (rows := (l.map (·.tk)).map dI) (by rw [List.length_map, List.length_map]) (by unfold maxLen; omega) (fun r hr => by obtain ⟨x, _, rfl⟩ := List.mem_map.1 hr; rfl) (fun j hj => by rw [rowsF_at _ j (by simpa using hj)]; simp))
      go_wp2
      go_ret
      exact ⟨⟨_, rfl, HO.out⟩, hbe⟩

set_option maxHeartbeats 1000000 in
theorem tokFn_any (r : Lk) (pa : Option Addr) (pc N B C : Nat) (qa : Option Addr) (q : List ByteArray) (qc : Nat) (w : World) (h : w.cell? ⟨N, 0, none⟩ = some (.slice qa q.length qc)) (hin : LkIn w B r pa pc) (hB : B ≤ w.heap.size) (hq : Strs w C qa q) (hC : C ≤ w.heap.size) (h1 : q.length ≤ qc) (h2 : qc ≤ maxLen) :
    Calls Tryz.prog 167 #[.agg #[.int .i64 r.tk, .slice pa r.pa.length pc, .bool r.de, .bool r.sh, .int .i64 r.un], .pointer (some ⟨N, 0, none⟩)] w fun e w' => e = .returned (.bool (covB r q)) ∧ Below w.heap.size w w' := by
  have hb := (Below.refl w.heap.size w).alloc (Nat.le_refl _) (Obj.cells #[.int .i64 r.tk, .slice pa r.pa.length pc, .bool r.de, .bool r.sh, .int .i64 r.un] 110)
  have hN : N < w.heap.size := World.block_lt_of_cell? w _ h
  have c1 := (hb.cell (p := ⟨N, 0, none⟩) hN).trans h
  have HQ := hide (covers_any r pa pc qa q qc B C _ (hin.below hb hB) (Nat.le_trans hB hb.size) (hq.below hb hC) (Nat.le_trans hC hb.size) h1 h2)
  have HB := hide hb
  clear hb hin hq
  go_enter Tryz.func167, Tryz.ntmps167
  go_wp2_with fail
  refine HQ.out.mono ?_
  rintro e w1 ⟨rfl, b1⟩
  have HC := hide (HB.out.trans (b1.mono HB.out.size))
  go_wp2
  go_ret
  exact ⟨rfl, HC.out⟩

set_option maxHeartbeats 2000000 in
theorem tokensAt_any (a : Option Addr) (l : List Lk) (cap B : Nat) (qa : Option Addr) (q : List ByteArray) (qc C : Nat) (w : World) (h : Lks w B a l) (hB : B ≤ w.heap.size) (hq : Strs w C qa q) (hC : C ≤ w.heap.size) (h1 : q.length ≤ qc) (h2 : qc ≤ maxLen) (hl : l.length ≤ 1048576) :
    Calls Tryz.prog 136 #[.slice a l.length cap, .slice qa q.length qc] w fun e w' => (∃ r : Value, e = .returned r ∧ Own w' r (.l ((tokL l q).map dI)) (IvG w.heap.size w'.heap.size)) ∧ Below w.heap.size w w' := by
  have hmf : ∀ (fn : Fn) (first cap : Array Value) (w : World), (Instr.makeFunc fn first cap).run Tryz.prog w = .ok (.func fn first cap) w := fun _ _ _ _ => rfl
  have hb0 := (Below.refl w.heap.size w).alloc (Nat.le_refl _) (Obj.cells #[.slice qa q.length qc] 32)
  have hcell : (w.alloc (Obj.cells #[.slice qa q.length qc] 32)).cell? ⟨w.heap.size, 0, none⟩ = some (.slice qa q.length qc) := by simp
  have HT := hide (those_any 167 (fun args w => enter_fn Tryz.func167 (by kernel_rfl) rfl args w) #[.pointer (some ⟨w.heap.size, 0, none⟩)] (fun x => covB x q) a l cap B _ (h.below hb0 hB) (Nat.le_trans hB hb0.size) (by omega) (fun k hk pa pc W hW hin => tokFn_any l[k] pa pc w.heap.size B C qa q qc W ((hW.cell (p := ⟨w.heap.size, 0, none⟩) (by simp)).trans hcell) hin (Nat.le_trans (Nat.le_trans hB hb0.size) hW.size) ((hq.below hb0 hC).below hW (Nat.le_trans hC hb0.size)) (Nat.le_trans (Nat.le_trans hC hb0.size) hW.size) h1 h2))
  have HB0 := hide hb0
  have hle := List.length_filter_le (fun x => covB x q) l
  clear hb0 hcell h hq h1 h2
  go_enter Tryz.func136, Tryz.ntmps136
  go_wp2_with fail
  refine HT.out.mono ?_
  rintro e w1 ⟨⟨g, n, c, ts, rfl, hn, hc1, hc2, hg, hgl, hts, hrow, hin⟩, b1⟩
  have hln : n = (l.filter (fun x => covB x q)).length := by rw [hn, ← hts, List.length_map]
  have HC1 := hide (HB0.out.trans (b1.mono HB0.out.size))
  have HQ := hide (tokensOf_any (some ⟨g, 0, none⟩) (l.filter (fun x => covB x q)) c w1.heap.size w1 (lks_of_rowV hts hrow hin (Nat.le_trans hB HC1.out.size)) (Nat.le_refl _) (by omega))
  rw [← hln] at HQ
  clear hts hrow hin hn hln b1
  go_wp2_with fail
  refine HQ.out.mono ?_
  rintro e w2 ⟨⟨p, rfl, hO⟩, b2⟩
  have HC2 := hide (HC1.out.trans (b2.mono HC1.out.size))
  have HO := hide (hO.up (l' := w.heap.size) HC1.out.size (Nat.le_refl _))
  clear hO b2
  go_wp2
  go_ret
  exact ⟨⟨_, rfl, HO.out⟩, HC2.out⟩
end Go.Proofs.YtfhcniifennfbaaGreatDoor
namespace Go.Proofs.YtfhcniifennfbaaGreatDoor
open Go.RowKit
set_option linter.unusedVariables false

set_option maxHeartbeats 400000 in
theorem specSamePath_any (a b : Option Addr) (ss tt : List ByteArray) (cap cap' B C : Nat) (w : World) (h : Strs w B a ss) (h' : Strs w C b tt) (hl : ss.length ≤ maxLen) (hl' : tt.length ≤ maxLen) :
    Calls Tryz.prog 120 #[.slice a ss.length cap, .slice b tt.length cap'] w fun e w' => e = .returned (.bool (sameL ss tt)) ∧ ∀ D, Below D w w' := by
  unfold maxLen at hl hl'
  by_cases hlen : ss.length = tt.length
  · have HL : Hid (ss.length = tt.length) := hlen
    go_enter Tryz.func120, Tryz.ntmps120
    rw [← hlen]
    clear hlen
    go_wp2
    go_loopw [5] (fun i wr => ∃ k n : Nat, k ≤ ss.length ∧ i = .int .i64 k ∧ ss.take k = tt.take k ∧ wr = w.drewN n) (fun i _ => ss.length - (intOf i).toNat)
    case atStart => exact ⟨0, 0, Nat.zero_le _, rfl, rfl, rfl⟩
    case round =>
      obtain ⟨k, n, hk, rfl, ht, rfl⟩ := hrel
      have HT : Hid (ss.take k = tt.take k) := ht
      clear ht
      by_cases hlt : k < ss.length
      · have hlt' : k < tt.length := by have := HL.out; omega
        obtain ⟨b1, o1, rfl, hb1, hc1⟩ := h (by omega)
        obtain ⟨b2, o2, rfl, hb2, hc2⟩ := h' (by have := HL.out; omega)
        have hcx := hc1 k hlt
        have hcy := hc2 k hlt'
        go_wp2
        go_quiet (fail)
        go_wp2
        · rename_i hne
          have hne' : ¬ ss[k] = tt[k] := fun e => by rw [e] at hne; simp at hne
          go_ret
          exact ⟨ret_bool (sameL_not k hlt hlt' hne').symm, fun D => below_drewN (below_drewN (Below.refl _ _) _) _⟩
        · rename_i he
          have he' : ss[k] = tt[k] := str_inj (by simpa using he)
          go_roundw
          case rel => exact ⟨k + 1, n + nq, by omega, by go_num, take_same k hlt hlt' HT.out he', by simp⟩
          case measure => simp [intOf]; omega
      · go_wp2
        go_ret
        exact ⟨ret_bool (sameL_all HL.out k hlt HT.out).symm, fun D => below_drewN (Below.refl _ _) _⟩
  · have HS := sameL_len hlen
    go_enter Tryz.func120, Tryz.ntmps120
    go_wp2
    go_ret
    exact ⟨ret_bool HS.symm, fun D => Below.refl _ _⟩
end Go.Proofs.YtfhcniifennfbaaGreatDoor
namespace Go.Proofs.YtfhcniifennfbaaGreatDoor
open Go.RowKit
set_option linter.unusedVariables false

set_option maxHeartbeats 400000 in
theorem specUnder_any (a b : Option Addr) (ss tt : List ByteArray) (cap cap' B C : Nat) (w : World) (h : Strs w B a ss) (h' : Strs w C b tt) (hl : ss.length ≤ maxLen) (hl' : tt.length ≤ maxLen) (hc : ss.length ≤ cap) (hc' : cap ≤ maxLen) :
    Calls Tryz.prog 90 #[.slice a ss.length cap, .slice b tt.length cap'] w fun e w' => e = .returned (.bool (underB ss tt)) ∧ ∀ D, Below D w w' := by
  have hl1 := hl
  have hl2 := hl'
  have hc2 := hc'
  unfold maxLen at hl hl' hc'
  by_cases hlt : tt.length < ss.length
  · have ht : (ss.take tt.length).length = tt.length := by rw [List.length_take]; omega
    have cE := fun w1 cap1 (hh : Strs w1 B a ss) (hh' : Strs w1 C b tt) => specSamePath_any a b (ss.take tt.length) tt cap1 cap' B C w1 (hh.take _) hh' (by omega) hl2
    rw [ht] at cE
    obtain ⟨b1, o1, rfl, _, _⟩ := h (by omega)
    go_enter Tryz.func90, Tryz.ntmps90
    go_wp2_with fail
    refine (cE _ _ h h').mono ?_
    rintro e w1 ⟨rfl, hb⟩
    go_wp2
    go_ret
    exact ⟨ret_bool (by simp [underB, hlt]), hb⟩
  · go_enter Tryz.func90, Tryz.ntmps90
    go_wp2
    go_ret
    exact ⟨ret_bool (by simp [underB, hlt]), fun D => Below.refl _ _⟩

end Go.Proofs.YtfhcniifennfbaaGreatDoor
namespace Go.Proofs.YtfhcniifennfbaaGreatDoor
open Go.RowKit M
set_option linter.unusedVariables false

set_option maxHeartbeats 1000000 in
theorem specCovers_any (r : Lk) (pa : Option Addr) (pc : Nat) (a : Option Addr) (ss : List ByteArray) (cap B C : Nat) (w : World) (h : LkIn w B r pa pc) (hB : B ≤ w.heap.size) (h' : Strs w C a ss) (hC : C ≤ w.heap.size) (hl : ss.length ≤ cap) (hm : cap ≤ maxLen) :
    Calls Tryz.prog 88 #[.agg #[.int .i64 r.tk, .slice pa r.pa.length pc, .bool r.de, .bool r.sh, .int .i64 r.un], .slice a ss.length cap] w fun e w' => e = .returned (.bool (covB r ss)) ∧ Below w.heap.size w w' := by
  have l1 := h.len
  have p1 := h.ph
  have l2 : ss.length ≤ maxLen := Nat.le_trans hl hm
  have F1 : Hid (sameL r.pa ss = true → covB r ss = true) := fun e => by unfold covB; rw [e]; rfl
  have F2 : Hid (sameL r.pa ss = false → r.de = false → covB r ss = false) := fun e e' => by unfold covB; rw [e, e']; rfl
  have F3 : Hid (sameL r.pa ss = false → r.de = true → covB r ss = underB ss r.pa) := fun e e' => by unfold covB; rw [e, e']; rfl
  generalize covB r ss = dd at *
  clear h
  obtain ⟨tk, tt, de, sh, un⟩ := r
  simp only at *
  have hb0 : Below w.heap.size w (w.alloc (Obj.cells #[.int .i64 tk, .slice pa tt.length pc, .bool de, .bool sh, .int .i64 un] 110)) := (Below.refl _ _).alloc (Nat.le_refl _) _
  have hS := specSamePath_any pa a tt ss pc cap B C _ (p1.below hb0 hB) (h'.below hb0 hC) l1 l2
  have HU := hide (fun w1 (hb : ∀ D, Below D (w.alloc (Obj.cells #[.int .i64 tk, .slice pa tt.length pc, .bool de, .bool sh, .int .i64 un] 110)) w1) => specUnder_any a pa ss tt cap pc C B w1 ((h'.below hb0 hC).below (hb _) (Nat.le_refl _)) ((p1.below hb0 hB).below (hb _) (Nat.le_refl _)) l2 l1 hl hm)
  have HB0 := hide hb0
  clear hb0 p1 h'
  obtain ⟨z, hz⟩ : ∃ z, sameL tt ss = z := ⟨_, rfl⟩
  rw [hz] at hS
  have HS := hide hS
  clear hS
  cases z
  · cases de
    · rw [F2.out hz rfl]
      clear hz
      go_enter Tryz.func88, Tryz.ntmps88
      go_wp2_with fail
      refine HS.out.mono ?_
      rintro e w1 ⟨rfl, hb1⟩
      have hcl : ∀ b o, w1.cell? ⟨b, o, none⟩ = _ := fun b o => (hb1 (b + 1)).cell (p := ⟨b, o, none⟩) (Nat.lt_succ_self _)
      have HC1 := hide (HB0.out.trans (hb1 _))
      clear hb1
      go_wp2
      go_ret
      exact ⟨rfl, HC1.out⟩
    · rw [F3.out hz rfl]
      clear hz
      go_enter Tryz.func88, Tryz.ntmps88
      go_wp2_with fail
      refine HS.out.mono ?_
      rintro e w1 ⟨rfl, hb1⟩
      have hcl : ∀ b o, w1.cell? ⟨b, o, none⟩ = _ := fun b o => (hb1 (b + 1)).cell (p := ⟨b, o, none⟩) (Nat.lt_succ_self _)
      have HC1 := hide (HB0.out.trans (hb1 _))
      have HU1 := hide (HU.out w1 hb1)
      clear hb1
      go_wp2_with fail
      refine HU1.out.mono ?_
      rintro e w2 ⟨rfl, hb2⟩
      have c2 := HC1.out.trans (hb2 _)
      go_wp2
      go_ret
      exact ⟨rfl, c2⟩
  · rw [F1.out hz]
    clear hz
    go_enter Tryz.func88, Tryz.ntmps88
    go_wp2_with fail
    refine HS.out.mono ?_
    rintro e w1 ⟨rfl, hb1⟩
    have HC1 := hide (HB0.out.trans (hb1 _))
    clear hb1
    go_wp2
    go_ret
    exact ⟨rfl, HC1.out⟩
end Go.Proofs.YtfhcniifennfbaaGreatDoor
namespace Go.Proofs.YtfhcniifennfbaaGreatDoor
open Go.RowKit M
set_option linter.unusedVariables false

theorem tokL_snoc (l : List Lk) (p : List ByteArray) (k : Nat) (hk : k < l.length) : tokL (l.take (k + 1)) p = tokL (l.take k) p ++ (if covB l[k] p = true then [l[k].tk] else []) := by
  unfold tokL
  rw [List.take_succ_eq_append_getElem hk, List.filter_append, List.map_append, List.filter_cons, List.filter_nil]
  split <;> rfl
set_option maxRecDepth 100000 in
set_option maxHeartbeats 4000000 in
theorem specTokens_any (a : Option Addr) (l : List Lk) (cap B : Nat) (pp : Option Addr) (p : List ByteArray) (pc C : Nat) (w : World) (h : Lks w B a l) (hB : B ≤ w.heap.size) (h' : Strs w C pp p) (hC : C ≤ w.heap.size) (hl : l.length ≤ 1048576) (hpl : p.length ≤ pc) (hpm : pc ≤ maxLen) :
    Calls Tryz.prog 56 #[.slice a l.length cap, .slice pp p.length pc] w fun e w' => (∃ r : Value, e = .returned r ∧ View w' w'.heap.size r (.l ((tokL l p).map dI))) ∧ Below w.heap.size w w' := by
  have HH := hide h
  have HP := hide h'
  have HPL := hide (And.intro hpl hpm)
  have HO := hide (OwnG.made (tE := 3) (K := 1) (cs := ci) w w.heap.size (Nat.le_refl _))
  clear h h' hpl hpm
  go_enter Tryz.func56, Tryz.ntmps56
  go_wp2
  go_loopw [5, 6] (fun v i wr => ∃ (k g n c : Nat) (ts : List Int), k ≤ l.length ∧ i = .int .i64 k ∧ v = .slice (some ⟨g, 0, none⟩) n c ∧ ts.length ≤ k ∧ Hid (OwnG 3 1 ci wr w.heap.size (.slice (some ⟨g, 0, none⟩) n c) ts) ∧ Hid (ts = tokL (l.take k) p) ∧ Below w.heap.size w wr) (fun _ i _ => l.length - (intOf i).toNat)
  case atStart => exact ⟨0, _, _, _, [], Nat.zero_le _, rfl, rfl, Nat.le_refl _, HO, (by show _ = _; simp [tokL]), (Below.refl _ _).alloc (Nat.le_refl _) _⟩
  case round =>
    obtain ⟨k, g, n, c, ts, hk, rfl, rfl, htl, HOW, HTS, hbe⟩ := hrel
    by_cases hlt : k < l.length
    · obtain ⟨b, o, rfl, hb, hc⟩ := (HH.out.below hbe hB) (by omega)
      obtain ⟨pa, pc1, ⟨hc0, hc1, hc2, hc3, hc4⟩, hin⟩ := hc k hlt
      have hBr := Nat.le_trans hB hbe.size
      have HC := hide (specCovers_any l[k] pa pc1 pp p pc B C wr hin hBr (HP.out.below hbe hC) (Nat.le_trans hC hbe.size) HPL.out.1 HPL.out.2)
      have HF := hide (tokL_snoc l p k hlt)
      obtain ⟨z, hz⟩ : ∃ z, covB l[k] p = z := ⟨_, rfl⟩
      rw [hz] at HC HF
      have hbw : b < wr.heap.size := by omega
      clear hz hc hin
      go_wp2_with fail
      refine HC.out.mono ?_
      rintro e w1 ⟨rfl, b1⟩
      have HO1 := hide (HOW.out.next b1)
      have c1 := hbe.trans (b1.mono hbe.size)
      have d0 := (b1.cell (p := ⟨b, o + k * 5, none⟩) hbw).trans hc0
      clear b1 HOW HC hc0 hc1 hc2 hc3 hc4
      cases z
      · go_wp2
        go_roundw
        case rel => exact ⟨k + 1, g, n, c, ts, by omega, by go_num, rfl, by omega, HO1, (by show _ = _; rw [HF.out, HTS.out]; simp), c1⟩
        case measure => simp [intOf]; omega
      · have bA := (Below.refl w1.heap.size w1).alloc (Nat.le_refl _) (Obj.cells #[.int .i64 l[k].tk] 3)
        have HO3 := hide (HO1.out.next bA)
        have HC3 := hide (c1.trans (bA.mono c1.size))
        have hln : ts.length + 1 ≤ 100000000000 := by omega
        have hs3 := HC3.out.size
        clear bA HO1
        go_wp2_with (at_builtin; refine wp_append_gen 24 Tryz.underlying24 (.int .i64 0) 8 infoI rfl (by decide) (by decide) rfl _ _ rfl w.heap.size _ ts rfl HO3.out ci_len _ l[k].tk rfl (fun i v hv => by match i with | 0 => (cases hv; simp) | i + 1 => cases hv) (fun v hv => by simp [ci] at hv; subst hv; rfl) hln hs3 ?_)
        intro g9 n9 c9 w9 hn9 hO9 hb9 hg9 _
        have HO9 := hide hO9
        have HB9 := hide (HC3.out.trans hb9)
        clear hO9 hb9 hg9 hn9 HO3 HC3
        go_wp2
        go_roundw
        case rel => exact ⟨k + 1, g9, n9, c9, _, by omega, by go_num, rfl, by simp; omega, HO9, (by show _ = _; rw [HF.out, HTS.out]; simp), HB9.out⟩
        case measure => simp [intOf]; omega
    · have HF := hide (show l.take k = l from List.take_of_length_le (by omega))
      have HV := hide (view_of_ints HOW.out)
      go_wp2
      go_ret
      exact ⟨⟨_, rfl, by rw [← HF.out, ← HTS.out]; exact HV.out⟩, hbe⟩
end Go.Proofs.YtfhcniifennfbaaGreatDoor
namespace Go.Proofs.YtfhcniifennfbaaGreatDoor
open Go.RowKit M
set_option linter.unusedVariables false

theorem specTokens_gen (l : List Lk) (p : List ByteArray) (u q : Value) (W : World) (h : View W W.heap.size u (.l (l.map dLk))) (h' : View W W.heap.size q (.l (p.map dS))) (hsz : szRs (l.map dLk) ≤ 1048576) :
    Calls Tryz.prog 56 #[u, q] W fun e w' => (∃ r : Value, e = .returned r ∧ View w' w'.heap.size r (.l ((tokL l p).map dI))) ∧ Below W.heap.size W w' := by
  obtain ⟨a, cap, rfl, h1, h2, h3, h4⟩ := lks_of_view h
  obtain ⟨b, c, rfl, k1, k2, k3, k4⟩ := strs_of_view h'
  exact specTokens_any a l cap W.heap.size b p c W.heap.size W h4 (Nat.le_refl _) k4 (Nat.le_refl _) (lk_len hsz) k1 k2
theorem tokens_gen (l : List Lk) (p : List ByteArray) (u q : Value) (W : World) (h : View W W.heap.size u (.l (l.map dLk))) (h' : View W W.heap.size q (.l (p.map dS))) (hsz : szRs (l.map dLk) ≤ 1048576) :
    Calls Tryz.prog 136 #[u, q] W fun e w' => (∃ r : Value, e = .returned r ∧ Own w' r (.l ((tokL l p).map dI)) (IvG W.heap.size w'.heap.size)) ∧ Below W.heap.size W w' := by
  obtain ⟨a, cap, rfl, h1, h2, h3, h4⟩ := lks_of_view h
  obtain ⟨b, c, rfl, k1, k2, k3, k4⟩ := strs_of_view h'
  exact tokensAt_any a l cap W.heap.size b p c W.heap.size W h4 (Nat.le_refl _) k4 (Nat.le_refl _) k1 k2 (lk_len hsz)
theorem tokens_sz (l : List Lk) (p : List ByteArray) (hsz : szRs (l.map dLk) ≤ 1048576) : cntRs ((tokL l p).map dI) ≤ 12582912 := by
  rw [cnt_dI]
  unfold tokL
  rw [List.length_map]
  have := List.length_filter_le (fun x => covB x p) l
  have := lk_len hsz
  omega
end Go.Proofs.YtfhcniifennfbaaGreatDoor
namespace Go.Proofs.YtfhcniifennfbaaGreatDoor
open Go.RowKit M

def dPp (x : Pp) : List Lf := [.c (.string x.1), .c (.string x.2.1), .c (.string x.2.2)]
end Go.Proofs.YtfhcniifennfbaaGreatDoor
namespace Go.Proofs.YtfhcniifennfbaaGreatDoor
open Go.RowKit M

def dRs (x : Rs) : List Lf := [.l (x.pa.map dS), .c (.bool x.co), .c (.string x.bo), .c (.int .i64 x.ve), .l (x.ps.map dPp)]
end Go.Proofs.YtfhcniifennfbaaGreatDoor
namespace Go.Proofs.YtfhcniifennfbaaGreatDoor
open Go.RowKit M

def dSv (x : Sv) : List Lf := [.l (x.t.map dRs), .l (x.l.map dLk), .c (.int .i64 x.now), .c (.int .i64 x.ver), .l (x.dr.map dI), .l (x.us.map dI)]
end Go.Proofs.YtfhcniifennfbaaGreatDoor
namespace Go.Proofs.YtfhcniifennfbaaGreatDoor
open Go.RowKit M
set_option linter.unusedVariables false

theorem pps_of_view {w : World} {B : Nat} {v : Value} {l : List Pp} (h : View w B v (.l (l.map dPp))) : ∃ a cap, v = .slice a l.length cap ∧ l.length ≤ cap ∧ cap ≤ maxLen ∧ (a = none → cap = 0) ∧ Pps w B a l := by
  obtain ⟨a, cap, h1, h2, h3, h4, h5⟩ := h.rows 3 (fun _ => rfl)
  refine ⟨a, cap, h1, h2, h3, h4, fun h0 => ?_⟩
  obtain ⟨b, o, C, e, hb, hc⟩ := h5 h0
  refine ⟨b, o, e, hb, fun j hj => ?_⟩
  obtain ⟨c0, v0⟩ := hc j hj 0 (.c (.string l[j].1)) rfl
  obtain ⟨c1, v1⟩ := hc j hj 1 (.c (.string l[j].2.1)) rfl
  obtain ⟨c2, v2⟩ := hc j hj 2 (.c (.string l[j].2.2)) rfl
  rw [v0.inv] at c0
  rw [v1.inv] at c1
  rw [v2.inv] at c2
  exact ⟨c0, c1, c2⟩
def ppVal (p : Pp) (i : Nat) : Value := (([.string p.1, .string p.2.1, .string p.2.2] : List Value)[i]?).getD (.bool false)
theorem view_of_pps {w : World} {B : Nat} {a : Option Addr} {cap : Nat} {l : List Pp} (h : Pps w B a l) (h1 : l.length ≤ cap) (h2 : cap ≤ maxLen) (h3 : a = none → cap = 0) : View w B (.slice a l.length cap) (.l (l.map dPp)) := by
  by_cases h0 : 0 < l.length
  · obtain ⟨b, o, rfl, hb, hc⟩ := h h0
    have e : l.length = (l.map dPp).length := (List.length_map ..).symm
    rw [e]
    refine .row b o cap 3 _ (fun j i => match l[j]? with | some s => ppVal s i | none => .bool false) hb (by rw [← e]; exact h1) h2 (fun r hr => by obtain ⟨x, _, rfl⟩ := List.mem_map.1 hr; rfl) (fun j i x hx => ?_) (fun j i x hx => ?_)
    all_goals
      unfold cellAt at hx
      by_cases hj : j < l.length
      · rw [map_at dPp l j hj] at hx
        rw [List.getElem?_eq_getElem hj]
        match i with
        | 0 => cases hx; first | exact .c _ | exact (hc j hj).1
        | 1 => cases hx; first | exact .c _ | exact (hc j hj).2.1
        | 2 => cases hx; first | exact .c _ | exact (hc j hj).2.2
        | i + 3 => cases hx
      · rw [List.getElem?_eq_none (by simp; omega)] at hx; cases hx
  · have : l = [] := List.eq_nil_of_length_eq_zero (by omega)
    subst this
    exact .nil a cap h3 h2
theorem rss_of_view {w : World} {B : Nat} {v : Value} {l : List Rs} (h : View w B v (.l (l.map dRs))) : ∃ a cap, v = .slice a l.length cap ∧ l.length ≤ cap ∧ cap ≤ maxLen ∧ (a = none → cap = 0) ∧ Rss w B a l := by
  obtain ⟨a, cap, h1, h2, h3, h4, h5⟩ := h.rows 5 (fun _ => rfl)
  refine ⟨a, cap, h1, h2, h3, h4, fun h0 => ?_⟩
  obtain ⟨b, o, C, e, hb, hc⟩ := h5 h0
  refine ⟨b, o, e, hb, fun j hj => ?_⟩
  obtain ⟨c0, v0⟩ := hc j hj 0 (.l (l[j].pa.map dS)) rfl
  obtain ⟨c1, v1⟩ := hc j hj 1 (.c (.bool l[j].co)) rfl
  obtain ⟨c2, v2⟩ := hc j hj 2 (.c (.string l[j].bo)) rfl
  obtain ⟨c3, v3⟩ := hc j hj 3 (.c (.int .i64 l[j].ve)) rfl
  obtain ⟨c4, v4⟩ := hc j hj 4 (.l (l[j].ps.map dPp)) rfl
  obtain ⟨pa, pc, e0, p1, p2, p3, p4⟩ := strs_of_view v0
  obtain ⟨qa, qc, e4, q1, q2, q3, q4⟩ := pps_of_view v4
  rw [e0] at c0
  rw [v1.inv] at c1
  rw [v2.inv] at c2
  rw [v3.inv] at c3
  rw [e4] at c4
  exact ⟨pa, pc, qa, qc, ⟨c0, c1, c2, c3, c4⟩, ⟨p4, q4, p1, q1, p2, q2, p3, q3⟩⟩
def rsVal (r : Rs) (pv qv : Value) (i : Nat) : Value := (([pv, .bool r.co, .string r.bo, .int .i64 r.ve, qv] : List Value)[i]?).getD (.bool false)
theorem view_of_rss {w : World} {B : Nat} {a : Option Addr} {cap : Nat} {l : List Rs} (h : Rss w B a l) (h1 : l.length ≤ cap) (h2 : cap ≤ maxLen) (h3 : a = none → cap = 0) : View w B (.slice a l.length cap) (.l (l.map dRs)) := by
  by_cases h0 : 0 < l.length
  · obtain ⟨b, o, rfl, hb, hc⟩ := h h0
    have each : ∀ j, ∃ pq : Value × Value, ∀ hj : j < l.length, (∀ i v, i < 5 → rsVal l[j] pq.1 pq.2 i = v → w.cell? ⟨b, o + j * 5 + i, none⟩ = some v) ∧ View w B pq.1 (.l (l[j].pa.map dS)) ∧ View w B pq.2 (.l (l[j].ps.map dPp)) := fun j => by
      by_cases hj : j < l.length
      · obtain ⟨pa, pc, qa, qc, ⟨c0, c1, c2, c3, c4⟩, p⟩ := hc j hj
        refine ⟨(.slice pa l[j].pa.length pc, .slice qa l[j].ps.length qc), fun _ => ⟨fun i v hi hv => ?_, view_of_strs p.ph p.pl p.pm p.pn, view_of_pps p.qh p.ql p.qm p.qn⟩⟩
        subst hv
        match i, hi with
        | 0, _ => exact c0
        | 1, _ => exact c1
        | 2, _ => exact c2
        | 3, _ => exact c3
        | 4, _ => exact c4
      · exact ⟨(.bool false, .bool false), fun h => absurd h hj⟩
    have e : l.length = (l.map dRs).length := (List.length_map ..).symm
    rw [e]
    refine .row b o cap 5 _ (fun j i => match l[j]? with | some r => rsVal r (Classical.choose (each j)).1 (Classical.choose (each j)).2 i | none => .bool false) hb (by rw [← e]; exact h1) h2 (fun r hr => by obtain ⟨x, _, rfl⟩ := List.mem_map.1 hr; rfl) (fun j i x hx => ?_) (fun j i x hx => ?_)
    · unfold cellAt at hx
      by_cases hj : j < l.length
      · rw [map_at dRs l j hj] at hx
        have hi : i < 5 := (List.getElem?_eq_some_iff.1 hx).1
        rw [List.getElem?_eq_getElem hj]
        exact (Classical.choose_spec (each j) hj).1 i _ hi rfl
      · rw [List.getElem?_eq_none (by simp; omega)] at hx; cases hx
    · unfold cellAt at hx
      by_cases hj : j < l.length
      · rw [map_at dRs l j hj] at hx
        rw [List.getElem?_eq_getElem hj]
        match i with
        | 0 => cases hx; exact (Classical.choose_spec (each j) hj).2.1
        | 1 => cases hx; exact .c _
        | 2 => cases hx; exact .c _
        | 3 => cases hx; exact .c _
        | 4 => cases hx; exact (Classical.choose_spec (each j) hj).2.2
        | i + 5 => cases hx
      · rw [List.getElem?_eq_none (by simp; omega)] at hx; cases hx
  · have : l = [] := List.eq_nil_of_length_eq_zero (by omega)
    subst this
    exact .nil a cap h3 h2
theorem own_of_rowP {w : World} {p c : Nat} {l : List Pp} (h : RowP w p l) (h1 : l.length ≤ c) (h2 : c ≤ maxLen) : Own w (.slice (some ⟨p, 0, none⟩) l.length c) (.l (l.map dPp)) (fun y => y = p) := by
  have e : l.length = (l.map dPp).length := (List.length_map ..).symm
  rw [e]
  refine RowG.own (R := rowsF dPp l) (K := 3) (o := 0) (C := fun j i => match l[j]? with | some r => ppVal r i | none => .bool false) (Sf := fun _ _ _ => False) ⟨rfl, h.1, fun j hj => by rw [rowsF_at l j (by simpa using hj)]; rfl, fun j i hj hi => ?_, fun j i x hj hx => ?_, fun j i y hy => hy.elim, fun j i j' i' y _ hy => hy.elim⟩ (fun j hj => by rw [rowsF_at l j (by simpa using hj)]; simp) (by rw [← e]; exact h1) h2
  · have hj' : j < l.length := by simpa using hj
    obtain ⟨c0, c1, c2⟩ := h.2.1 j hj'
    rw [List.getElem?_eq_getElem hj', Nat.zero_add]
    refine ⟨?_, h.2.2 _⟩
    match i, hi with
    | 0, _ => exact c0
    | 1, _ => exact c1
    | 2, _ => exact c2
  · have hj' : j < l.length := by simpa using hj
    rw [rowsF_at l j hj'] at hx
    rw [List.getElem?_eq_getElem hj']
    match i with
    | 0 => cases hx; exact .c _ _
    | 1 => cases hx; exact .c _ _
    | 2 => cases hx; exact .c _ _
    | i + 3 => cases hx
theorem own_of_ownR {w : World} {lo hi g : Nat} {l : List Rs} {pb qb : Nat → Nat} (h : OwnR w lo hi g l pb qb) (hm : l.length ≤ maxLen) (hs : ∀ r ∈ l, r.pa.length ≤ maxLen ∧ r.ps.length ≤ maxLen) : Own w (.slice (some ⟨g, 0, none⟩) l.length l.length) (.l (l.map dRs)) (IvG lo hi) := by
  have e : l.length = (l.map dRs).length := (List.length_map ..).symm
  rw [e]
  refine RowG.own (R := rowsF dRs l) (K := 5) (o := 0) (C := fun j i => match l[j]? with | some r => rsVal r (.slice (some ⟨pb j, 0, none⟩) r.pa.length r.pa.length) (.slice (some ⟨qb j, 0, none⟩) r.ps.length r.ps.length) i | none => .bool false) (Sf := fun j i y => j < l.length ∧ ((i = 0 ∧ y = pb j) ∨ (i = 4 ∧ y = qb j))) ⟨⟨h.gl, h.gh⟩, h.gs, fun j hj => by rw [rowsF_at l j (by simpa using hj)]; rfl, fun j i hj hi => ?_, fun j i x hj hx => ?_, fun j i y hy => ?_, fun j i j' i' y hne hy hy' => ?_⟩ (fun j hj => by rw [rowsF_at l j (by simpa using hj)]; simp) (by rw [← e]; exact Nat.le_refl _) (by rw [← e]; exact hm)
  · have hj' : j < l.length := by simpa using hj
    obtain ⟨c0, c1, c2, c3, c4⟩ := h.cl j hj'
    rw [List.getElem?_eq_getElem hj', Nat.zero_add]
    refine ⟨?_, h.fz _⟩
    match i, hi with
    | 0, _ => exact c0
    | 1, _ => exact c1
    | 2, _ => exact c2
    | 3, _ => exact c3
    | 4, _ => exact c4
  · have hj' : j < l.length := by simpa using hj
    have hss := hs _ (List.getElem_mem hj')
    rw [rowsF_at l j hj'] at hx
    rw [List.getElem?_eq_getElem hj']
    match i with
    | 0 => cases hx; exact (own_of_rowS (h.rp j hj') (Nat.le_refl _) hss.1).wide (fun y hy => ⟨hj', .inl ⟨rfl, hy⟩⟩)
    | 1 => cases hx; exact .c _ _
    | 2 => cases hx; exact .c _ _
    | 3 => cases hx; exact .c _ _
    | 4 => cases hx; exact (own_of_rowP (h.rq j hj') (Nat.le_refl _) hss.2).wide (fun y hy => ⟨hj', .inr ⟨rfl, hy⟩⟩)
    | i + 5 => cases hx
  · obtain ⟨hj, hy⟩ := hy
    obtain ⟨b1, b2, b3, b4, b5⟩ := h.bnd j hj
    rcases hy with ⟨_, rfl⟩ | ⟨_, rfl⟩
    · exact ⟨⟨b1, by omega⟩, b4⟩
    · exact ⟨⟨by omega, b3⟩, b5⟩
  · obtain ⟨hj, h1⟩ := hy
    obtain ⟨hj2, h2⟩ := hy'
    obtain ⟨b1, b2, b3, b4, b5⟩ := h.bnd j hj
    rcases Nat.lt_trichotomy j j' with hh | hh | hh
    · obtain ⟨o1, o2, o3, o4⟩ := h.ord j j' hh hj2
      rcases h1 with ⟨_, e1⟩ | ⟨_, e1⟩ <;> rcases h2 with ⟨_, e2⟩ | ⟨_, e2⟩ <;> omega
    · subst hh
      rcases h1 with ⟨i1, e1⟩ | ⟨i1, e1⟩ <;> rcases h2 with ⟨i2, e2⟩ | ⟨i2, e2⟩ <;> omega
    · obtain ⟨o1, o2, o3, o4⟩ := h.ord j' j hh hj
      rcases h1 with ⟨_, e1⟩ | ⟨_, e1⟩ <;> rcases h2 with ⟨_, e2⟩ | ⟨_, e2⟩ <;> omega
/-- What the sizes say. -/
theorem sz_dS (l : List ByteArray) : szRs (l.map dS) = l.length + sumS l := by
  induction l with
  | nil => simp [szRs, sumS]
  | cons x l ih => rw [List.map_cons, szRs_cons, ih]; simp [dS, szR, szF, szV, sumS]; omega
theorem sz_dPp (l : List Pp) : szRs (l.map dPp) = l.length + sumP l := by
  induction l with
  | nil => simp [szRs, sumP]
  | cons x l ih => rw [List.map_cons, szRs_cons, ih]; simp [dPp, szR, szF, szV, sumP, szP]; omega
theorem sz_dRs (r : Rs) : szR (dRs r) = r.pa.length + sumS r.pa + r.bo.size + r.ps.length + sumP r.ps := by
  simp [dRs, szR, szF, szV, sz_dS, sz_dPp]
  omega
theorem rs_len {l : List Rs} {N : Nat} (h : szRs (l.map dRs) ≤ N) : l.length ≤ N := by
  have := szRs_len (l.map dRs)
  rw [List.length_map] at this
  omega
theorem rs_small {l : List Rs} {N : Nat} (h : szRs (l.map dRs) ≤ N) : ∀ r ∈ l, r.pa.length + sumS r.pa + r.bo.size + r.ps.length + sumP r.ps ≤ N := fun r hr => by
  have h1 := szRs_mem _ _ (List.mem_map_of_mem (f := dRs) hr)
  rw [sz_dRs] at h1
  omega
theorem rs_short {l : List Rs} (h : szRs (l.map dRs) ≤ 1048576) : ShortT l := fun r hr => by
  have h1 := rs_small h r hr
  have hm : (1048576 : Nat) ≤ maxLen := by unfold maxLen; omega
  refine ⟨by omega, fun s hs => ?_, by omega, by omega, fun p hp => ?_⟩
  · have := sumS_mem _ s hs; omega
  · have := sumP_mem _ p hp; unfold szP at this; exact ⟨by omega, by omega, by omega⟩
end Go.Proofs.YtfhcniifennfbaaGreatDoor
namespace Go.Proofs.YtfhcniifennfbaaGreatDoor
open Go.RowKit M
set_option linter.unusedVariables false

/-- What a server's four lists hold, in blocks below B. -/
structure SvIn (w : World) (B : Nat) (x : Sv) (ta : Option Addr) (tc : Nat) (la : Option Addr) (lc : Nat) (da : Option Addr) (dc : Nat) (ua : Option Addr) (uc : Nat) : Prop where
  th : Rss w B ta x.t
  lh : Lks w B la x.l
  dh : Ints w B da x.dr
  uh : Ints w B ua x.us
  tl : x.t.length ≤ tc ∧ tc ≤ maxLen ∧ (ta = none → tc = 0)
  ll : x.l.length ≤ lc ∧ lc ≤ maxLen ∧ (la = none → lc = 0)
  dl : x.dr.length ≤ dc ∧ dc ≤ maxLen ∧ (da = none → dc = 0)
  ul : x.us.length ≤ uc ∧ uc ≤ maxLen ∧ (ua = none → uc = 0)
theorem SvIn.below {w w' : World} {B C : Nat} {x : Sv} {ta : Option Addr} {tc : Nat} {la : Option Addr} {lc : Nat} {da : Option Addr} {dc : Nat} {ua : Option Addr} {uc : Nat} (h : SvIn w B x ta tc la lc da dc ua uc) (hb : Below C w w') (hB : B ≤ C) : SvIn w' B x ta tc la lc da dc ua uc :=
  ⟨h.th.below hb hB, h.lh.below hb hB, h.dh.below hb hB, h.uh.below hb hB, h.tl, h.ll, h.dl, h.ul⟩
theorem svIn_of_view {w : World} {B : Nat} {x : Sv} {u0 u1 u4 u5 : Value} (h0 : View w B u0 (.l (x.t.map dRs))) (h1 : View w B u1 (.l (x.l.map dLk))) (h4 : View w B u4 (.l (x.dr.map dI))) (h5 : View w B u5 (.l (x.us.map dI))) :
    ∃ ta tc la lc da dc ua uc, u0 = .slice ta x.t.length tc ∧ u1 = .slice la x.l.length lc ∧ u4 = .slice da x.dr.length dc ∧ u5 = .slice ua x.us.length uc ∧ SvIn w B x ta tc la lc da dc ua uc := by
  obtain ⟨ta, tc, rfl, a1, a2, a3, a4⟩ := rss_of_view h0
  obtain ⟨la, lc, rfl, b1, b2, b3, b4⟩ := lks_of_view h1
  obtain ⟨da, dc, rfl, c1, c2, c3, c4⟩ := ints_of_view h4
  obtain ⟨ua, uc, rfl, d1, d2, d3, d4⟩ := ints_of_view h5
  exact ⟨ta, tc, la, lc, da, dc, ua, uc, rfl, rfl, rfl, rfl, ⟨a4, b4, c4, d4, ⟨a1, a2, a3⟩, ⟨b1, b2, b3⟩, ⟨c1, c2, c3⟩, ⟨d1, d2, d3⟩⟩⟩

theorem sz_dI (l : List Int) : szRs (l.map dI) = l.length := szRs_flat dI (fun _ => by simp [dI, szR, szF, szV]) l
theorem sz_dSv (x : Sv) : szR (dSv x) = szRs (x.t.map dRs) + szRs (x.l.map dLk) + x.dr.length + x.us.length := by
  simp [dSv, szR, szF, szV, sz_dI]
  omega
/-- What follows of its size. -/
structure SvSmall (x : Sv) : Prop where
  t : szRs (x.t.map dRs) ≤ 1048576
  l : szRs (x.l.map dLk) ≤ 1048576
  d : x.dr.length ≤ 1048576
  u : x.us.length ≤ 1048576
theorem sv_small {x : Sv} (h : szR (dSv x) ≤ 1048576) : SvSmall x := by
  rw [sz_dSv] at h
  exact ⟨by omega, by omega, by omega, by omega⟩
theorem SvSmall.tlen {x : Sv} (h : SvSmall x) : x.t.length ≤ 1048576 := rs_len h.t
theorem SvSmall.llen {x : Sv} (h : SvSmall x) : x.l.length ≤ 1048576 := lk_len h.l
theorem SvSmall.tshort {x : Sv} (h : SvSmall x) : ShortT x.t := rs_short h.t
theorem SvSmall.tpa {x : Sv} (h : SvSmall x) : ∀ r ∈ x.t, r.pa.length ≤ 1048576 ∧ r.ps.length ≤ 1048576 := fun r hr => by
  have := rs_small h.t r hr
  exact ⟨by omega, by omega⟩
theorem SvSmall.lshort {x : Sv} (h : SvSmall x) : ShortK x.l := fun r hr => by
  have := lk_small h.l r hr
  exact ⟨by unfold maxLen; omega, fun s hs => by have := this.2 s hs; unfold maxLen; omega⟩
theorem SvSmall.lpa {x : Sv} (h : SvSmall x) : ∀ r ∈ x.l, r.pa.length ≤ 1048576 ∧ ∀ s ∈ r.pa, s.size ≤ 281474976710656 := fun r hr => by
  have := lk_small h.l r hr
  exact ⟨by omega, fun s hs => by have := this.2 s hs; omega⟩
theorem SvSmall.tsz {x : Sv} (h : SvSmall x) : ∀ r ∈ x.t, r.pa.length ≤ 1048576 ∧ r.ps.length ≤ 1048576 ∧ (∀ s ∈ r.pa, s.size ≤ 281474976710656) ∧ r.bo.size ≤ 281474976710656 ∧ ∀ p ∈ r.ps, p.1.size ≤ 281474976710656 ∧ p.2.1.size ≤ 281474976710656 ∧ p.2.2.size ≤ 281474976710656 := fun r hr => by
  have := rs_small h.t r hr
  exact ⟨by omega, by omega, fun s hs => by have := sumS_mem _ s hs; omega, by omega, fun p hp => by have := sumP_mem _ p hp; unfold szP at this; exact ⟨by omega, by omega, by omega⟩⟩
end Go.Proofs.YtfhcniifennfbaaGreatDoor
