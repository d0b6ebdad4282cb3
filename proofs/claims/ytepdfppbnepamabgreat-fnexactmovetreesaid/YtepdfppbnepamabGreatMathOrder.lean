/-
  What stands in a walk's context and is not to be used by it.
  What is known of things, and things: no program in sight.
  Slices of what is known: what they hold, and that it stays.
  Slices of texts: what they hold, and that it stays.
  Rows of texts, none of them frozen.
  Slices of things: what they hold, and that it stays.
  Rows of things that grow.
  copy and append of elements of several cells.
  What slices.Insert does at rows of things.
  What slices.Insert does at rows of things: ahead of some.
  What slices.Insert does at rows of things: ahead of some, where there is room; and in all cases.
  Plain facts on the order of texts and of lists of texts: no program in sight.
-/
import Derived.Below
import GoSem.Op.String
import Derived.Test.YtepdfppbnepamabGreatRows
import Derived.WalkKit
import Derived.WalkSpells
import Derived.WalkLawsBesides
import Derived.Deep.Light
import Derived.Deep.QuietTactic
import Derived.Deep.OwnRows
import Derived.Maps.AppendAt
import Derived.Laws.CopyRow
import Derived.Laws.CopyOwn
import Derived.Lib.AppendZerosOnto
import Derived.Lib.Overlaps
import Derived.Laws.Externs
import Derived.Shelf.Spec.SlicesInsert
import Derived.Deep.RegionLaw
namespace Go.Proofs.YtepdfppbnepamabGreat

open Go.RowKit
theorem hide {p : Prop} (h : p) : Hid p := h
end Go.Proofs.YtepdfppbnepamabGreat
namespace Go.Proofs.YtepdfppbnepamabGreat.M

/-- What is known: its space, its name, its value. -/
abbrev Pp := ByteArray × ByteArray × ByteArray
/-- A thing. -/
structure Rs where
  pa : List ByteArray
  co : Bool
  bo : ByteArray
  ve : Int
  ps : List Pp
deriving DecidableEq

def szP (p : Pp) : Nat := p.1.size + p.2.1.size + p.2.2.size
def sumP (ps : List Pp) : Nat := (ps.map szP).sum
theorem sumP_snoc (ps : List Pp) (k : Nat) (hk : k < ps.length) : sumP (ps.take (k + 1)) = sumP (ps.take k) + szP ps[k] := by
  unfold sumP
  rw [List.take_succ_eq_append_getElem hk, List.map_append, List.sum_append]
  simp only [List.map_cons, List.map_nil, List.sum_cons, List.sum_nil, Nat.add_zero]
theorem sumP_mem (ps : List Pp) (p : Pp) (h : p ∈ ps) : szP p ≤ sumP ps := by
  induction ps with
  | nil => cases h
  | cons x l ih =>
    simp only [sumP, List.map_cons, List.sum_cons] at *
    rcases List.mem_cons.1 h with rfl | h
    · omega
    · have := ih h; omega

def sameP (ss tt : List Pp) : Bool := decide (ss = tt)
theorem sameP_refl (ss : List Pp) : sameP ss ss = true := by simp [sameP]
theorem sameP_len {ss tt : List Pp} (h : ¬ ss.length = tt.length) : sameP ss tt = false := by
  simp only [sameP, decide_eq_false_iff_not]; intro e; exact h (by rw [e])
theorem sameP_not {ss tt : List Pp} (k : Nat) (h1 : k < ss.length) (h2 : k < tt.length) (h : ¬ ss[k] = tt[k]) : sameP ss tt = false := by
  simp only [sameP, decide_eq_false_iff_not]; intro e; subst e; exact h rfl
theorem sameP_all {ss tt : List Pp} (hl : ss.length = tt.length) (k : Nat) (hk : ¬ k < ss.length) (h : ss.take k = tt.take k) : sameP ss tt = true := by
  rw [List.take_of_length_le (by omega), List.take_of_length_le (by omega)] at h
  simp [sameP, h]
theorem take_sameP {ss tt : List Pp} (k : Nat) (h1 : k < ss.length) (h2 : k < tt.length) (h0 : ss.take k = tt.take k) (h : ss[k] = tt[k]) : ss.take (k + 1) = tt.take (k + 1) := by
  rw [List.take_succ_eq_append_getElem h1, List.take_succ_eq_append_getElem h2, h0, h]

def sumL (ss : List ByteArray) : Nat := (ss.map (·.size)).sum
def szR (r : Rs) : Nat := r.pa.length + sumL r.pa + r.bo.size + (r.ps.length + sumP r.ps)
def sumR (rs : List Rs) : Nat := (rs.map szR).sum
theorem sumR_snoc (rs : List Rs) (k : Nat) (hk : k < rs.length) : sumR (rs.take (k + 1)) = sumR (rs.take k) + szR rs[k] := by
  unfold sumR
  rw [List.take_succ_eq_append_getElem hk, List.map_append, List.sum_append]
  simp only [List.map_cons, List.map_nil, List.sum_cons, List.sum_nil, Nat.add_zero]
theorem sumR_mem (rs : List Rs) (r : Rs) (h : r ∈ rs) : szR r ≤ sumR rs := by
  induction rs with
  | nil => cases h
  | cons x l ih =>
    simp only [sumR, List.map_cons, List.sum_cons] at *
    rcases List.mem_cons.1 h with rfl | h
    · omega
    · have := ih h; omega

def sameT (ss tt : List Rs) : Bool := decide (ss = tt)
theorem sameT_refl (ss : List Rs) : sameT ss ss = true := by simp [sameT]
theorem sameT_len {ss tt : List Rs} (h : ¬ ss.length = tt.length) : sameT ss tt = false := by
  simp only [sameT, decide_eq_false_iff_not]; intro e; exact h (by rw [e])
theorem sameT_not {ss tt : List Rs} (k : Nat) (h1 : k < ss.length) (h2 : k < tt.length) (h : ¬ ss[k] = tt[k]) : sameT ss tt = false := by
  simp only [sameT, decide_eq_false_iff_not]; intro e; subst e; exact h rfl
theorem sameT_all {ss tt : List Rs} (hl : ss.length = tt.length) (k : Nat) (hk : ¬ k < ss.length) (h : ss.take k = tt.take k) : sameT ss tt = true := by
  rw [List.take_of_length_le (by omega), List.take_of_length_le (by omega)] at h
  simp [sameT, h]
theorem take_sameT {ss tt : List Rs} (k : Nat) (h1 : k < ss.length) (h2 : k < tt.length) (h0 : ss.take k = tt.take k) (h : ss[k] = tt[k]) : ss.take (k + 1) = tt.take (k + 1) := by
  rw [List.take_succ_eq_append_getElem h1, List.take_succ_eq_append_getElem h2, h0, h]
end Go.Proofs.YtepdfppbnepamabGreat.M
namespace Go.Proofs.YtepdfppbnepamabGreat
open Go.RowKit M

/-- One of them, at a place. -/
def PpAt (w : World) (b o : Nat) (p : Pp) : Prop := w.cell? ⟨b, o, none⟩ = some (.string p.1) ∧ w.cell? ⟨b, o + 1, none⟩ = some (.string p.2.1) ∧ w.cell? ⟨b, o + 2, none⟩ = some (.string p.2.2)
/-- What a slice of them holds, in a block below B. -/
def Pps (w : World) (B : Nat) (a : Option Addr) (ps : List Pp) : Prop :=
  0 < ps.length → ∃ b o, a = some ⟨b, o, none⟩ ∧ b < B ∧ ∀ j (hj : j < ps.length), PpAt w b (o + j * 3) ps[j]

theorem PpAt.of {w w' : World} {b o : Nat} {p : Pp} (h : PpAt w b o p) (e : ∀ o', w'.cell? ⟨b, o', none⟩ = w.cell? ⟨b, o', none⟩) : PpAt w' b o p := by
  unfold PpAt at *
  simp only [e]
  exact h
theorem Pps.of {w w' : World} {B : Nat} {a : Option Addr} {ps : List Pp} (h : Pps w B a ps) (e : ∀ b o, b < B → w'.cell? ⟨b, o, none⟩ = w.cell? ⟨b, o, none⟩) : Pps w' B a ps := fun h0 => by
  obtain ⟨b, o, ea, hb, hc⟩ := h h0
  exact ⟨b, o, ea, hb, fun j hj => (hc j hj).of (fun o' => e b o' hb)⟩
theorem Pps.below {w w' : World} {B C : Nat} {a : Option Addr} {ps : List Pp} (h : Pps w B a ps) (hb : Below C w w') (hB : B ≤ C) : Pps w' B a ps :=
  h.of (fun b o hbB => hb.cell (p := ⟨b, o, none⟩) (Nat.lt_of_lt_of_le hbB hB))
theorem Pps.mono {w : World} {B C : Nat} {a : Option Addr} {ps : List Pp} (h : Pps w B a ps) (hB : B ≤ C) : Pps w C a ps := fun h0 => by
  obtain ⟨b, o, e, hbB, hc⟩ := h h0
  exact ⟨b, o, e, Nat.lt_of_lt_of_le hbB hB, hc⟩
theorem Pps.nil (w : World) (B : Nat) (a : Option Addr) : Pps w B a [] := fun h => absurd h (Nat.lt_irrefl _)

/-- A row of them in block g, none of them frozen. -/
def RowP (w : World) (g : Nat) (ps : List Pp) : Prop := g < w.heap.size ∧ (∀ j (hj : j < ps.length), PpAt w g (j * 3) ps[j]) ∧ ∀ i, w.frozen? ⟨g, i, none⟩ = false
theorem RowP.of {w w' : World} {g : Nat} {ps : List Pp} (h : RowP w g ps) (hz : g < w'.heap.size) (e : ∀ o', w'.cell? ⟨g, o', none⟩ = w.cell? ⟨g, o', none⟩) (f : ∀ o', w'.frozen? ⟨g, o', none⟩ = w.frozen? ⟨g, o', none⟩) : RowP w' g ps :=
  ⟨hz, fun j hj => (h.2.1 j hj).of e, fun i => by rw [f]; exact h.2.2 i⟩
theorem RowP.below {w w' : World} {g : Nat} {ps : List Pp} (h : RowP w g ps) (hb : Below w.heap.size w w') : RowP w' g ps :=
  h.of (Nat.lt_of_lt_of_le h.1 hb.size) (fun o => hb.cell (p := ⟨g, o, none⟩) h.1) (fun o => hb.frozen (p := ⟨g, o, none⟩) h.1)
theorem RowP.pps {w : World} {g C : Nat} {ps : List Pp} (h : RowP w g ps) (hC : g < C) : Pps w C (some ⟨g, 0, none⟩) ps := fun _ =>
  ⟨g, 0, rfl, hC, fun j hj => by rw [Nat.zero_add]; exact h.2.1 j hj⟩

/-- All of them short enough. -/
def ShortPs (ps : List Pp) : Prop := ∀ p ∈ ps, p.1.size ≤ maxLen ∧ p.2.1.size ≤ maxLen ∧ p.2.2.size ≤ maxLen
theorem ShortPs.at {ps : List Pp} (h : ShortPs ps) (k : Nat) (hk : k < ps.length) : (ps[k]).1.size ≤ maxLen ∧ (ps[k]).2.1.size ≤ maxLen ∧ (ps[k]).2.2.size ≤ maxLen := h _ (List.getElem_mem hk)

theorem strInjP {a b : ByteArray} (h : a.toList = b.toList) : a = b := by
  rw [ByteArray.toList_eq, ByteArray.toList_eq] at h
  exact ByteArray.ext (Array.ext' h)
theorem bcellP {W w1 : World} (hb : Below W.heap.size W w1) : (∀ b o, b < W.heap.size → w1.cell? ⟨b, o, none⟩ = W.cell? ⟨b, o, none⟩) ∧ (∀ b o, b < W.heap.size → w1.frozen? ⟨b, o, none⟩ = W.frozen? ⟨b, o, none⟩) :=
  ⟨fun b o h => hb.cell (p := ⟨b, o, none⟩) h, fun b o h => hb.frozen (p := ⟨b, o, none⟩) h⟩
theorem below_drewP {C : Nat} {w w' : World} (h : Below C w w') : Below C w w'.drew := ⟨h.os, h.tape, h.output, h.size, h.block⟩

theorem info_prop : (Tryz.prog.info? 80).map (fun i => (i.zero, i.size, i.bytes)) = some (some (.agg #[.string ByteArray.empty, .string ByteArray.empty, .string ByteArray.empty]), 3, 48) := by kernel_rfl
theorem run_make_props (n : Nat) (hn : n ≤ 1048576) (w : World) :
    (Instr.makeSlice 47 (.int .i64 (n : Int)) (.int .i64 (n : Int))).run Tryz.prog w = .ok (.slice (some ⟨w.heap.size, 0, none⟩) n n) (w.alloc (.cells (madeCells #[.string ByteArray.empty, .string ByteArray.empty, .string ByteArray.empty] (n * 3)) 80)) := by
  obtain ⟨i, hi, hz, hs, hb⟩ := info_parts info_prop
  have hr := run_make (P := Tryz.prog) w 47 80 i _ Tryz.underlying47 hi hz .i64 .i64 n n (by omega) (Int.le_refl _) (by rw [hb]; omega) (by omega)
  simp only [Int.toNat_natCast, hs] at hr
  exact hr

/-- What is made so far of a row of them. -/
def MadeP (w : World) (g : Nat) (ps : List Pp) (k : Nat) : Prop := ∃ F : Nat → Value, w.rowIs g 80 (ps.length * 3) F ∧ ∀ j (hj : j < ps.length), j < k → F (j * 3) = .string ps[j].1 ∧ F (j * 3 + 1) = .string ps[j].2.1 ∧ F (j * 3 + 2) = .string ps[j].2.2
theorem MadeP.start (w : World) (ps : List Pp) : MadeP (w.alloc (.cells (madeCells #[.string ByteArray.empty, .string ByteArray.empty, .string ByteArray.empty] (ps.length * 3)) 80)) w.heap.size ps 0 := by
  have hr := World.rowIs_alloc w (madeCells #[.string ByteArray.empty, .string ByteArray.empty, .string ByteArray.empty] (ps.length * 3)) 80 (fun i => ((madeCells #[.string ByteArray.empty, .string ByteArray.empty, .string ByteArray.empty] (ps.length * 3))[i]?).getD (.string ByteArray.empty)) (fun i hi => by rw [Array.getElem?_eq_getElem hi]; rfl)
  rw [size_madeCells] at hr
  exact ⟨_, hr, fun j _ hj => absurd hj (Nat.not_lt_zero _)⟩
theorem MadeP.below {w w1 : World} {g : Nat} {ps : List Pp} {k : Nat} (m : MadeP w g ps k) (hb : Below w.heap.size w w1) : MadeP w1 g ps k := by
  obtain ⟨F, hr, hj⟩ := m
  exact ⟨F, hr.of_block (w' := w1) (hb.block _ hr.lt), hj⟩
theorem MadeP.lt {w : World} {g : Nat} {ps : List Pp} {k : Nat} (m : MadeP w g ps k) : g < w.heap.size := by obtain ⟨F, hr, _⟩ := m; exact hr.lt
theorem MadeP.cells {w : World} {g : Nat} {ps : List Pp} {k : Nat} (m : MadeP w g ps k) (hk : k < ps.length) : ∃ v0 v1 v2, w.cell? ⟨g, k * 3, none⟩ = some v0 ∧ w.cell? ⟨g, k * 3 + 1, none⟩ = some v1 ∧ w.cell? ⟨g, k * 3 + 2, none⟩ = some v2 ∧ w.frozen? ⟨g, k * 3, none⟩ = false ∧ w.frozen? ⟨g, k * 3 + 1, none⟩ = false ∧ w.frozen? ⟨g, k * 3 + 2, none⟩ = false := by
  obtain ⟨F, hr, _⟩ := m
  exact ⟨_, _, _, hr.cell (by omega), hr.cell (by omega), hr.cell (by omega), hr.frozen _, hr.frozen _, hr.frozen _⟩
theorem MadeP.next {w : World} {g : Nat} {ps : List Pp} {k : Nat} (m : MadeP w g ps k) (hk : k < ps.length) : MadeP (((w.setCell ⟨g, k * 3, none⟩ (.string ps[k].1)).setCell ⟨g, k * 3 + 1, none⟩ (.string ps[k].2.1)).setCell ⟨g, k * 3 + 2, none⟩ (.string ps[k].2.2)) g ps (k + 1) := by
  obtain ⟨F, hr, hj⟩ := m
  refine ⟨_, ((hr.set (k * 3) (.string ps[k].1)).set (k * 3 + 1) (.string ps[k].2.1)).set (k * 3 + 2) (.string ps[k].2.2), fun j hjl hjk => ?_⟩
  by_cases e : j = k
  · subst e
    refine ⟨?_, ?_, ?_⟩ <;> simp
  · obtain ⟨e0, e1, e2⟩ := hj j hjl (by omega)
    refine ⟨?_, ?_, ?_⟩
    · simp only [show ¬ j * 3 = k * 3 + 2 by omega, show ¬ j * 3 = k * 3 + 1 by omega, show ¬ j * 3 = k * 3 by omega, if_false]; exact e0
    · simp only [show ¬ j * 3 + 1 = k * 3 + 2 by omega, show ¬ j * 3 + 1 = k * 3 + 1 by omega, show ¬ j * 3 + 1 = k * 3 by omega, if_false]; exact e1
    · simp only [show ¬ j * 3 + 2 = k * 3 + 2 by omega, show ¬ j * 3 + 2 = k * 3 + 1 by omega, show ¬ j * 3 + 2 = k * 3 by omega, if_false]; exact e2
theorem MadeP.done {w : World} {g : Nat} {ps : List Pp} {k : Nat} (m : MadeP w g ps k) (hk : ¬ k < ps.length) : RowP w g ps := by
  obtain ⟨F, hr, hj⟩ := m
  refine ⟨hr.lt, fun j hjl => ?_, fun i => hr.frozen i⟩
  obtain ⟨e0, e1, e2⟩ := hj j hjl (by omega)
  exact ⟨by rw [hr.cell (by omega), e0], by rw [hr.cell (by omega), e1], by rw [hr.cell (by omega), e2]⟩
end Go.Proofs.YtepdfppbnepamabGreat
namespace Go.Proofs.YtepdfppbnepamabGreat
open Go.RowKit

/-- The texts that a slice holds, in a block below B. -/
def Strs (w : World) (B : Nat) (a : Option Addr) (ss : List ByteArray) : Prop :=
  0 < ss.length → ∃ b o, a = some ⟨b, o, none⟩ ∧ b < B ∧ ∀ j (hj : j < ss.length), w.cell? ⟨b, o + j, none⟩ = some (.string ss[j])

theorem Strs.below {w w' : World} {B C : Nat} {a : Option Addr} {ss : List ByteArray} (h : Strs w B a ss) (hb : Below C w w') (hB : B ≤ C) : Strs w' B a ss := fun h0 => by
  obtain ⟨b, o, e, hbB, hc⟩ := h h0
  exact ⟨b, o, e, hbB, fun j hj => (hb.cell (p := ⟨b, o + j, none⟩) (Nat.lt_of_lt_of_le hbB hB)).trans (hc j hj)⟩

theorem Strs.mono {w : World} {B C : Nat} {a : Option Addr} {ss : List ByteArray} (h : Strs w B a ss) (hB : B ≤ C) : Strs w C a ss := fun h0 => by
  obtain ⟨b, o, e, hbB, hc⟩ := h h0
  exact ⟨b, o, e, Nat.lt_of_lt_of_le hbB hB, hc⟩

theorem Strs.take {w : World} {B : Nat} {a : Option Addr} {ss : List ByteArray} (h : Strs w B a ss) (k : Nat) : Strs w B a (ss.take k) := fun h0 => by
  have hl : (ss.take k).length ≤ ss.length := by rw [List.length_take]; omega
  obtain ⟨b, o, e, hbB, hc⟩ := h (by omega)
  exact ⟨b, o, e, hbB, fun j hj => by rw [hc j (by omega), List.getElem_take]⟩

theorem info_str : (Tryz.prog.info? 9).map (fun i => (i.zero, i.size, i.bytes)) = some (some (.string ByteArray.empty), 1, 16) := by kernel_rfl

/-- A row of texts that the call made, as a slice. -/
theorem Strs.row {w : World} {N n C : Nat} {ss : List ByteArray} {f : Nat → Value} (h : w.rowIs N 9 n f) (hn : ss.length ≤ n) (hf : ∀ j (hj : j < ss.length), f j = .string ss[j]) (hN : N < C) : Strs w C (some ⟨N, 0, none⟩) ss := fun _ =>
  ⟨N, 0, rfl, hN, fun j hj => by rw [Nat.zero_add, h.cell (by omega), hf j hj]⟩

/-- All of them short enough. -/
def Short (ss : List ByteArray) : Prop := ∀ s ∈ ss, s.size ≤ maxLen
theorem Short.at {ss : List ByteArray} (h : Short ss) (k : Nat) (hk : k < ss.length) : (ss[k]).size ≤ maxLen := h _ (List.getElem_mem hk)

def sumS (ss : List ByteArray) : Nat := (ss.map (·.size)).sum
theorem sumS_snoc (ss : List ByteArray) (k : Nat) (hk : k < ss.length) : sumS (ss.take (k + 1)) = sumS (ss.take k) + (ss[k]).size := by
  unfold sumS
  rw [List.take_succ_eq_append_getElem hk, List.map_append, List.sum_append]
  simp only [List.map_cons, List.map_nil, List.sum_cons, List.sum_nil, Nat.add_zero]
theorem sumS_all (ss : List ByteArray) (k : Nat) (hk : ¬ k < ss.length) : ss.take k = ss := List.take_of_length_le (by omega)
theorem sumS_mem (ss : List ByteArray) (s : ByteArray) (h : s ∈ ss) : s.size ≤ sumS ss := by
  induction ss with
  | nil => cases h
  | cons x l ih =>
    simp only [sumS, List.map_cons, List.sum_cons] at *
    rcases List.mem_cons.1 h with rfl | h
    · omega
    · have := ih h; omega

theorem str_inj {a b : ByteArray} (h : a.toList = b.toList) : a = b := by
  rw [ByteArray.toList_eq, ByteArray.toList_eq] at h
  exact ByteArray.ext (Array.ext' h)

/-- Whether two lists of texts are the same. -/
def sameL (ss tt : List ByteArray) : Bool := decide (ss = tt)
theorem sameL_refl (ss : List ByteArray) : sameL ss ss = true := by simp [sameL]
theorem sameL_len {ss tt : List ByteArray} (h : ¬ ss.length = tt.length) : sameL ss tt = false := by
  simp only [sameL, decide_eq_false_iff_not]; intro e; exact h (by rw [e])
theorem sameL_not {ss tt : List ByteArray} (k : Nat) (h1 : k < ss.length) (h2 : k < tt.length) (h : ¬ ss[k] = tt[k]) : sameL ss tt = false := by
  simp only [sameL, decide_eq_false_iff_not]; intro e; subst e; exact h rfl
theorem sameL_all {ss tt : List ByteArray} (hl : ss.length = tt.length) (k : Nat) (hk : ¬ k < ss.length) (h : ss.take k = tt.take k) : sameL ss tt = true := by
  rw [List.take_of_length_le (by omega), List.take_of_length_le (by omega)] at h
  simp [sameL, h]
theorem take_same {ss tt : List ByteArray} (k : Nat) (h1 : k < ss.length) (h2 : k < tt.length) (h0 : ss.take k = tt.take k) (h : ss[k] = tt[k]) : ss.take (k + 1) = tt.take (k + 1) := by
  rw [List.take_succ_eq_append_getElem h1, List.take_succ_eq_append_getElem h2, h0, h]
end Go.Proofs.YtepdfppbnepamabGreat
namespace Go.Proofs.YtepdfppbnepamabGreat
open Go.RowKit
set_option linter.unusedVariables false

/-- A row of n texts in block g, none of them frozen. -/
def RowS (w : World) (g : Nat) (ms : List ByteArray) : Prop := g < w.heap.size ∧ ∀ j (hj : j < ms.length), w.cell? ⟨g, j, none⟩ = some (.string ms[j]) ∧ w.frozen? ⟨g, j, none⟩ = false
theorem RowS.below {w w' : World} {g : Nat} {ms : List ByteArray} (h : RowS w g ms) (hb : Below w.heap.size w w') : RowS w' g ms := by
  refine ⟨Nat.lt_of_lt_of_le h.1 hb.size, fun j hj => ?_⟩
  rw [hb.cell (p := ⟨g, j, none⟩) h.1, hb.frozen (p := ⟨g, j, none⟩) h.1]
  exact h.2 j hj
theorem RowS.set {w : World} {g : Nat} {ms : List ByteArray} (h : RowS w g ms) (k : Nat) (hk : k < ms.length) (x : ByteArray) : RowS (w.setCell ⟨g, k, none⟩ (.string x)) g (ms.set k x) := by
  refine ⟨by simpa using h.1, fun j hj => ?_⟩
  have hj' : j < ms.length := by simpa using hj
  refine ⟨?_, by rw [World.frozen?_setCell]; exact (h.2 j hj').2⟩
  by_cases e : k = j
  · subst e
    rw [World.cell?_setCell_same _ _ _ (h.2 k hk).1]
    simp
  · have hne : (⟨g, k, none⟩ : Addr) ≠ ⟨g, j, none⟩ := fun e' => e (congrArg Addr.off e')
    rw [World.cell?_setCell_other _ _ _ _ hne, (h.2 j hj').1]
    simp [e]

theorem RowS.row {w : World} {N n : Nat} {ss : List ByteArray} {f : Nat → Value} (h : w.rowIs N 9 n f) (hn : ss.length ≤ n) (hf : ∀ j (hj : j < ss.length), f j = .string ss[j]) : RowS w N ss :=
  ⟨h.lt, fun j hj => ⟨by rw [h.cell (by omega), hf j hj], h.frozen j⟩⟩
theorem RowS.strs' {w : World} {g C : Nat} {ns : List ByteArray} (h : RowS w g ns) (hC : g < C) : Strs w C (some ⟨g, 0, none⟩) ns := fun _ =>
  ⟨g, 0, rfl, hC, fun j hj => by rw [Nat.zero_add]; exact (h.2 j hj).1⟩
end Go.Proofs.YtepdfppbnepamabGreat
namespace Go.Proofs.YtepdfppbnepamabGreat
open Go.RowKit M
set_option linter.unusedVariables false

/-- A thing at a place: its five cells. -/
def RsAt (w : World) (b o : Nat) (r : Rs) (pa : Option Addr) (pc : Nat) (qa : Option Addr) (qc : Nat) : Prop :=
  w.cell? ⟨b, o, none⟩ = some (.slice pa r.pa.length pc) ∧ w.cell? ⟨b, o + 1, none⟩ = some (.bool r.co) ∧ w.cell? ⟨b, o + 2, none⟩ = some (.string r.bo) ∧ w.cell? ⟨b, o + 3, none⟩ = some (.int .i64 r.ve) ∧ w.cell? ⟨b, o + 4, none⟩ = some (.slice qa r.ps.length qc)
/-- What its two slices hold, in blocks below B. -/
structure RsIn (w : World) (B : Nat) (r : Rs) (pa : Option Addr) (pc : Nat) (qa : Option Addr) (qc : Nat) : Prop where
  ph : Strs w B pa r.pa
  qh : Pps w B qa r.ps
  pl : r.pa.length ≤ pc
  ql : r.ps.length ≤ qc
  pm : pc ≤ maxLen
  qm : qc ≤ maxLen
  pn : pa = none → pc = 0
  qn : qa = none → qc = 0
/-- What a slice of things holds, in blocks below B. -/
def Rss (w : World) (B : Nat) (a : Option Addr) (rs : List Rs) : Prop :=
  0 < rs.length → ∃ b o, a = some ⟨b, o, none⟩ ∧ b < B ∧ ∀ j (hj : j < rs.length), ∃ pa pc qa qc, RsAt w b (o + j * 5) rs[j] pa pc qa qc ∧ RsIn w B rs[j] pa pc qa qc

theorem RsAt.of {w w' : World} {b o : Nat} {r : Rs} {pa : Option Addr} {pc : Nat} {qa : Option Addr} {qc : Nat} (h : RsAt w b o r pa pc qa qc) (e : ∀ o', w'.cell? ⟨b, o', none⟩ = w.cell? ⟨b, o', none⟩) : RsAt w' b o r pa pc qa qc := by
  unfold RsAt at *
  simp only [e]
  exact h
theorem Strs.of {w w' : World} {B : Nat} {a : Option Addr} {ss : List ByteArray} (h : Strs w B a ss) (e : ∀ b o, b < B → w'.cell? ⟨b, o, none⟩ = w.cell? ⟨b, o, none⟩) : Strs w' B a ss := fun h0 => by
  obtain ⟨b, o, ea, hb, hc⟩ := h h0
  exact ⟨b, o, ea, hb, fun j hj => (e b _ hb).trans (hc j hj)⟩
theorem RsIn.of {w w' : World} {B : Nat} {r : Rs} {pa : Option Addr} {pc : Nat} {qa : Option Addr} {qc : Nat} (h : RsIn w B r pa pc qa qc) (e : ∀ b o, b < B → w'.cell? ⟨b, o, none⟩ = w.cell? ⟨b, o, none⟩) : RsIn w' B r pa pc qa qc :=
  ⟨h.ph.of e, h.qh.of e, h.pl, h.ql, h.pm, h.qm, h.pn, h.qn⟩
theorem RsIn.mono {w : World} {B C : Nat} {r : Rs} {pa : Option Addr} {pc : Nat} {qa : Option Addr} {qc : Nat} (h : RsIn w B r pa pc qa qc) (hB : B ≤ C) : RsIn w C r pa pc qa qc :=
  ⟨h.ph.mono hB, h.qh.mono hB, h.pl, h.ql, h.pm, h.qm, h.pn, h.qn⟩
theorem RsIn.below {w w' : World} {B C : Nat} {r : Rs} {pa : Option Addr} {pc : Nat} {qa : Option Addr} {qc : Nat} (h : RsIn w B r pa pc qa qc) (hb : Below C w w') (hB : B ≤ C) : RsIn w' B r pa pc qa qc :=
  h.of (fun b o hbB => hb.cell (p := ⟨b, o, none⟩) (Nat.lt_of_lt_of_le hbB hB))
theorem Rss.of {w w' : World} {B : Nat} {a : Option Addr} {rs : List Rs} (h : Rss w B a rs) (e : ∀ b o, b < B → w'.cell? ⟨b, o, none⟩ = w.cell? ⟨b, o, none⟩) : Rss w' B a rs := fun h0 => by
  obtain ⟨b, o, ea, hb, hc⟩ := h h0
  refine ⟨b, o, ea, hb, fun j hj => ?_⟩
  obtain ⟨pa, pc, qa, qc, h1, h2⟩ := hc j hj
  exact ⟨pa, pc, qa, qc, h1.of (fun o' => e b o' hb), h2.of e⟩
theorem Rss.below {w w' : World} {B C : Nat} {a : Option Addr} {rs : List Rs} (h : Rss w B a rs) (hb : Below C w w') (hB : B ≤ C) : Rss w' B a rs :=
  h.of (fun b o hbB => hb.cell (p := ⟨b, o, none⟩) (Nat.lt_of_lt_of_le hbB hB))
theorem Rss.mono {w : World} {B C : Nat} {a : Option Addr} {rs : List Rs} (h : Rss w B a rs) (hB : B ≤ C) : Rss w C a rs := fun h0 => by
  obtain ⟨b, o, e, hbB, hc⟩ := h h0
  refine ⟨b, o, e, Nat.lt_of_lt_of_le hbB hB, fun j hj => ?_⟩
  obtain ⟨pa, pc, qa, qc, h1, h2⟩ := hc j hj
  exact ⟨pa, pc, qa, qc, h1, h2.mono hB⟩
theorem Rss.nil (w : World) (B : Nat) (a : Option Addr) : Rss w B a [] := fun h => absurd h (Nat.lt_irrefl _)
theorem Rss.drew {w : World} {B : Nat} {a : Option Addr} {rs : List Rs} (h : Rss w B a rs) : Rss w.drew B a rs := h.of (fun _ _ _ => rfl)
theorem Pps.drew {w : World} {B : Nat} {a : Option Addr} {ps : List Pp} (h : Pps w B a ps) : Pps w.drew B a ps := h.of (fun _ _ _ => rfl)
theorem Strs.drew {w : World} {B : Nat} {a : Option Addr} {ss : List ByteArray} (h : Strs w B a ss) : Strs w.drew B a ss := h.of (fun _ _ _ => rfl)
theorem RsIn.drew {w : World} {B : Nat} {r : Rs} {pa : Option Addr} {pc : Nat} {qa : Option Addr} {qc : Nat} (h : RsIn w B r pa pc qa qc) : RsIn w.drew B r pa pc qa qc := h.of (fun _ _ _ => rfl)

/-- All its parts short enough. -/
structure ShortRs (r : Rs) : Prop where
  pl : r.pa.length ≤ maxLen
  ps : Short r.pa
  bo : r.bo.size ≤ maxLen
  ql : r.ps.length ≤ maxLen
  qs : ShortPs r.ps
def ShortT (rs : List Rs) : Prop := ∀ r ∈ rs, ShortRs r
theorem ShortT.at {rs : List Rs} (h : ShortT rs) (k : Nat) (hk : k < rs.length) : ShortRs rs[k] := h _ (List.getElem_mem hk)

/-- The value of a thing. -/
def rsV (r : Rs) (pa : Option Addr) (pc : Nat) (qa : Option Addr) (qc : Nat) : Value := .agg #[.slice pa r.pa.length pc, .bool r.co, .string r.bo, .int .i64 r.ve, .slice qa r.ps.length qc]

theorem RowS.setCell {w : World} {g : Nat} {ms : List ByteArray} (h : RowS w g ms) (p : Addr) (v : Value) (hp : p.block ≠ g) : RowS (w.setCell p v) g ms := by
  refine ⟨by simpa using h.1, fun j hj => ⟨?_, ?_⟩⟩
  · rw [World.cell?_setCell_other _ _ _ _ (fun e => hp (congrArg Addr.block e))]; exact (h.2 j hj).1
  · rw [World.frozen?_setCell]; exact (h.2 j hj).2
theorem RowP.setCell {w : World} {g : Nat} {ps : List Pp} (h : RowP w g ps) (p : Addr) (v : Value) (hp : p.block ≠ g) : RowP (w.setCell p v) g ps :=
  h.of (by simpa using h.1) (fun o => World.cell?_setCell_other _ _ _ _ (fun e => hp (congrArg Addr.block e))) (fun o => World.frozen?_setCell _ _ _ _)

/-- A row of things that one call made: each slice in a block of its own; all from lo on and below hi. -/
structure OwnR (w : World) (lo hi g : Nat) (rs : List Rs) (pb qb : Nat → Nat) : Prop where
  gl : lo ≤ g
  gh : g < hi
  gs : g < w.heap.size
  fz : ∀ i, w.frozen? ⟨g, i, none⟩ = false
  cl : ∀ j (hj : j < rs.length), RsAt w g (j * 5) rs[j] (some ⟨pb j, 0, none⟩) rs[j].pa.length (some ⟨qb j, 0, none⟩) rs[j].ps.length
  rp : ∀ j (hj : j < rs.length), RowS w (pb j) rs[j].pa
  rq : ∀ j (hj : j < rs.length), RowP w (qb j) rs[j].ps
  bnd : ∀ j, j < rs.length → lo ≤ pb j ∧ pb j < qb j ∧ qb j < hi ∧ pb j ≠ g ∧ qb j ≠ g
  ord : ∀ i j, i < j → j < rs.length → qb i < pb j ∨ qb j < pb i

theorem OwnR.of {w w' : World} {lo hi g : Nat} {rs : List Rs} {pb qb : Nat → Nat} (h : OwnR w lo hi g rs pb qb) (hz : w.heap.size ≤ w'.heap.size) (e : ∀ b o, lo ≤ b → b < hi → b < w.heap.size → w'.cell? ⟨b, o, none⟩ = w.cell? ⟨b, o, none⟩) (f : ∀ b o, lo ≤ b → b < hi → b < w.heap.size → w'.frozen? ⟨b, o, none⟩ = w.frozen? ⟨b, o, none⟩) : OwnR w' lo hi g rs pb qb := by
  refine ⟨h.gl, h.gh, Nat.lt_of_lt_of_le h.gs hz, fun i => by rw [f g i h.gl h.gh h.gs]; exact h.fz i, fun j hj => (h.cl j hj).of (fun o' => e g o' h.gl h.gh h.gs), fun j hj => ?_, fun j hj => ?_, h.bnd, h.ord⟩
  · obtain ⟨b1, b2, b3, _, _⟩ := h.bnd j hj
    have hp := (h.rp j hj).1
    refine ⟨Nat.lt_of_lt_of_le hp hz, fun i hi => ?_⟩
    rw [e _ _ b1 (by omega) hp, f _ _ b1 (by omega) hp]
    exact (h.rp j hj).2 i hi
  · obtain ⟨b1, b2, b3, _, _⟩ := h.bnd j hj
    have hp := (h.rq j hj).1
    exact (h.rq j hj).of (Nat.lt_of_lt_of_le hp hz) (fun o => e _ o (by omega) b3 hp) (fun o => f _ o (by omega) b3 hp)
theorem OwnR.below {w w' : World} {lo hi g : Nat} {rs : List Rs} {pb qb : Nat → Nat} (h : OwnR w lo hi g rs pb qb) (hb : Below w.heap.size w w') : OwnR w' lo hi g rs pb qb :=
  h.of hb.size (fun b o _ _ hz => hb.cell (p := ⟨b, o, none⟩) hz) (fun b o _ _ hz => hb.frozen (p := ⟨b, o, none⟩) hz)
theorem OwnR.rss {w : World} {lo hi g C : Nat} {rs : List Rs} {pb qb : Nat → Nat} (h : OwnR w lo hi g rs pb qb) (hs : ∀ r ∈ rs, r.pa.length ≤ maxLen ∧ r.ps.length ≤ maxLen) (hC : hi ≤ C) : Rss w C (some ⟨g, 0, none⟩) rs := fun _ => by
  refine ⟨g, 0, rfl, Nat.lt_of_lt_of_le h.gh hC, fun j hj => ⟨_, _, _, _, by rw [Nat.zero_add]; exact h.cl j hj, ?_⟩⟩
  obtain ⟨b1, b2, b3, _, _⟩ := h.bnd j hj
  have := hs _ (List.getElem_mem hj)
  exact ⟨(h.rp j hj).strs' (by omega), (h.rq j hj).pps (by omega), Nat.le_refl _, Nat.le_refl _, this.1, this.2, (fun e => by cases e), (fun e => by cases e)⟩
theorem OwnR.nil (w : World) (lo hi g : Nat) (hl : lo ≤ g) (hh : g < hi) (hs : g < w.heap.size) (fz : ∀ i, w.frozen? ⟨g, i, none⟩ = false) : OwnR w lo hi g [] (fun _ => 0) (fun _ => 0) :=
  ⟨hl, hh, hs, fz, fun j hj => absurd hj (Nat.not_lt_zero _), fun j hj => absurd hj (Nat.not_lt_zero _), fun j hj => absurd hj (Nat.not_lt_zero _), fun j hj => absurd hj (Nat.not_lt_zero _), fun i j _ hj => absurd hj (Nat.not_lt_zero _)⟩

theorem info_res : (Tryz.prog.info? 49).map (fun i => (i.zero, i.size, i.bytes)) = some (some (.agg #[.slice none 0 0, .bool false, .string ByteArray.empty, .int .i64 0, .slice none 0 0]), 5, 80) := by kernel_rfl
end Go.Proofs.YtepdfppbnepamabGreat
namespace Go.Proofs.YtepdfppbnepamabGreat
open Go.RowKit M
set_option linter.unusedVariables false

/-- One thing of a growing row: its parts, the blocks of its two lists, their room. -/
structure RsT where
  r : Rs
  p : Nat
  pc : Nat
  q : Nat
  qc : Nat
def rsCells1 (t : RsT) : List Value := [.slice (some ⟨t.p, 0, none⟩) t.r.pa.length t.pc, .bool t.r.co, .string t.r.bo, .int .i64 t.r.ve, .slice (some ⟨t.q, 0, none⟩) t.r.ps.length t.qc]
def rsCells (ts : List RsT) : List Value := ts.flatMap rsCells1
theorem rsCells_length (ts : List RsT) : (rsCells ts).length = ts.length * 5 := by
  induction ts with
  | nil => rfl
  | cons t l ih => simp only [rsCells, List.flatMap_cons, List.length_append, List.length_cons] at *; rw [ih]; simp only [rsCells1, List.length_cons, List.length_nil]; omega
theorem rsCells_at (ts : List RsT) : ∀ j (hj : j < ts.length), (rsCells ts)[j * 5]? = some (.slice (some ⟨ts[j].p, 0, none⟩) ts[j].r.pa.length ts[j].pc) ∧ (rsCells ts)[j * 5 + 1]? = some (.bool ts[j].r.co) ∧ (rsCells ts)[j * 5 + 2]? = some (.string ts[j].r.bo) ∧ (rsCells ts)[j * 5 + 3]? = some (.int .i64 ts[j].r.ve) ∧ (rsCells ts)[j * 5 + 4]? = some (.slice (some ⟨ts[j].q, 0, none⟩) ts[j].r.ps.length ts[j].qc) := by
  induction ts with
  | nil => intro j hj; exact absurd hj (Nat.not_lt_zero _)
  | cons t l ih =>
    intro j hj
    have e : rsCells (t :: l) = rsCells1 t ++ rsCells l := by simp [rsCells]
    rw [e]
    match j, hj with
    | 0, _ => simp [rsCells1]
    | j + 1, hj =>
      have h1 := ih j (by simpa using hj)
      have hl : (rsCells1 t).length = 5 := rfl
      rw [List.getElem?_append_right (by rw [hl]; omega), List.getElem?_append_right (by rw [hl]; omega), List.getElem?_append_right (by rw [hl]; omega), List.getElem?_append_right (by rw [hl]; omega), List.getElem?_append_right (by rw [hl]; omega), hl]
      rw [show (j + 1) * 5 - 5 = j * 5 by omega, show (j + 1) * 5 + 1 - 5 = j * 5 + 1 by omega, show (j + 1) * 5 + 2 - 5 = j * 5 + 2 by omega, show (j + 1) * 5 + 3 - 5 = j * 5 + 3 by omega, show (j + 1) * 5 + 4 - 5 = j * 5 + 4 by omega]
      simpa using h1

/-- A growing row: it is the call's own from B on, and so are its lists. -/
structure GrowR (w : World) (B : Nat) (v : Value) (ts : List RsT) (lo : Nat) : Prop where
  own : w.ownsRow B 49 5 v ts.length (rsCells ts)
  blk : ∃ g cap, v = .slice (some ⟨g, 0, none⟩) ts.length cap ∧ g < lo
  top : lo ≤ w.heap.size
  el : ∀ j (hj : j < ts.length), B ≤ ts[j].p ∧ ts[j].p < ts[j].q ∧ ts[j].q < lo ∧ RowS w ts[j].p ts[j].r.pa ∧ RowP w ts[j].q ts[j].r.ps ∧ some ts[j].p ≠ v.ownBlock ∧ some ts[j].q ≠ v.ownBlock
  ord : ∀ i j (hij : i < j) (hj : j < ts.length), (ts[i]'(by omega)).q < ts[j].p
  caps : ∀ j (hj : j < ts.length), ts[j].r.pa.length ≤ ts[j].pc ∧ ts[j].pc ≤ maxLen ∧ ts[j].r.ps.length ≤ ts[j].qc ∧ ts[j].qc ≤ maxLen

theorem GrowR.made (w : World) (B : Nat) (hB : B ≤ w.heap.size) : GrowR (w.alloc (Obj.cells #[] 49)) B (.slice (some ⟨w.heap.size, 0, none⟩) 0 0) [] (w.heap.size + 1) :=
  ⟨⟨rfl, .inr ⟨w.heap.size, 0, #[], rfl, hB, heap_alloc_new w _, Nat.le_refl _, Nat.zero_le _, rfl, rfl⟩⟩, ⟨_, _, rfl, Nat.lt_succ_self _⟩, by simp, fun j hj => absurd hj (Nat.not_lt_zero _), fun i j _ hj => absurd hj (Nat.not_lt_zero _), fun j hj => absurd hj (Nat.not_lt_zero _)⟩
theorem GrowR.next {w w' : World} {B lo : Nat} {v : Value} {ts : List RsT} (g : GrowR w B v ts lo) (hb : Below w.heap.size w w') : GrowR w' B v ts lo := by
  refine ⟨⟨g.own.1, ?_⟩, g.blk, Nat.le_trans g.top hb.size, fun j hj => ?_, g.ord, g.caps⟩
  · rcases g.own.2 with h | ⟨g, cap, cur, e, hB, hh, hr⟩
    · exact .inl h
    · exact .inr ⟨g, cap, cur, e, hB, (hb.block g (Array.getElem?_eq_some_iff.1 hh).1).trans hh, hr⟩
  · obtain ⟨h1, h2, h3, h4, h5, h6⟩ := g.el j hj
    exact ⟨h1, h2, h3, h4.below hb, h5.below hb, h6⟩
theorem rowsR_frozen {w : World} {g : Nat} {cur : Array Value} {e : TypeId} (hh : w.heap[g]? = some (.cells cur e (0, 0))) (i : Nat) : w.frozen? ⟨g, i, none⟩ = false := by
  simp only [World.frozen?, hh, Bool.and_eq_false_iff, decide_eq_false_iff_not]
  right
  omega
theorem GrowR.at {w : World} {B lo : Nat} {v : Value} {ts : List RsT} (g : GrowR w B v ts lo) {b cap : Nat} (hv : v = .slice (some ⟨b, 0, none⟩) ts.length cap) (j : Nat) (hj : j < ts.length) : RsAt w b (j * 5) ts[j].r (some ⟨ts[j].p, 0, none⟩) ts[j].pc (some ⟨ts[j].q, 0, none⟩) ts[j].qc := by
  subst hv
  obtain ⟨c0, c1, c2, c3, c4⟩ := rsCells_at ts j hj
  have hown := g.own
  refine ⟨?_, ?_, ?_, ?_, ?_⟩
  · rw [hown.cellAt (j * 5) (by omega)]; exact c0
  · rw [hown.cellAt (j * 5 + 1) (by omega)]; exact c1
  · rw [hown.cellAt (j * 5 + 2) (by omega)]; exact c2
  · rw [hown.cellAt (j * 5 + 3) (by omega)]; exact c3
  · rw [hown.cellAt (j * 5 + 4) (by omega)]; exact c4
/-- What was made, as a slice. -/
theorem GrowR.rss {w : World} {B lo C : Nat} {v : Value} {ts : List RsT} (g : GrowR w B v ts lo) (hC : w.heap.size ≤ C) : ∃ b cap, v = .slice (some ⟨b, 0, none⟩) ts.length cap ∧ Rss w C (some ⟨b, 0, none⟩) (ts.map (·.r)) := by
  obtain ⟨b, cap, hv, hb⟩ := g.blk
  have ht := g.top
  refine ⟨b, cap, hv, fun _ => ⟨b, 0, rfl, by omega, fun j hj => ?_⟩⟩
  have hj' : j < ts.length := by simpa using hj
  obtain ⟨h1, h2, h3, h4, h5, h6⟩ := g.el j hj'
  obtain ⟨k1, k2, k3, k4⟩ := g.caps j hj'
  simp only [List.getElem_map]
  exact ⟨_, _, _, _, by rw [Nat.zero_add]; exact g.at hv j hj', ⟨h4.strs' (by omega), h5.pps (by omega), k1, k3, k2, k4, (fun e => by cases e), (fun e => by cases e)⟩⟩
/-- What was made is its own, where each list has no room besides. -/
theorem GrowR.done {w : World} {B lo : Nat} {v : Value} {ts : List RsT} (g : GrowR w B v ts lo) (hc : ∀ j (hj : j < ts.length), ts[j].pc = ts[j].r.pa.length ∧ ts[j].qc = ts[j].r.ps.length) : ∃ b cap, v = .slice (some ⟨b, 0, none⟩) ts.length cap ∧ OwnR w B w.heap.size b (ts.map (·.r)) (fun j => if hj : j < ts.length then ts[j].p else 0) (fun j => if hj : j < ts.length then ts[j].q else 0) := by
  obtain ⟨b, cap, hv, hb⟩ := g.blk
  have hat := fun j hj => g.at hv j hj
  have hlt := g.own.lt b (by rw [hv]; rfl)
  have ht := g.top
  have hfz : ∀ i, w.frozen? ⟨b, i, none⟩ = false := by
    rcases g.own.2 with ⟨e, _⟩ | ⟨b', cap', cur, e, _, hh, _⟩
    · rw [hv] at e; cases e
    · rw [hv] at e; cases e; exact fun i => rowsR_frozen hh i
  refine ⟨b, cap, hv, hlt.1, hlt.2, hlt.2, hfz, fun j hj => ?_, fun j hj => ?_, fun j hj => ?_, fun j hj => ?_, fun i j hij hj => ?_⟩
  · have hj' : j < ts.length := by simpa using hj
    simp only [List.getElem_map, hj', dif_pos]
    have := hat j hj'
    rw [(hc j hj').1, (hc j hj').2] at this
    exact this
  · have hj' : j < ts.length := by simpa using hj
    simp only [List.getElem_map, hj', dif_pos]
    exact (g.el j hj').2.2.2.1
  · have hj' : j < ts.length := by simpa using hj
    simp only [List.getElem_map, hj', dif_pos]
    exact (g.el j hj').2.2.2.2.1
  · have hj' : j < ts.length := by simpa using hj
    obtain ⟨h1, h2, h3, h4, h5, h6, h7⟩ := g.el j hj'
    simp only [hj', dif_pos]
    exact ⟨h1, h2, by omega, fun e => h6 (by rw [e, hv]; rfl), fun e => h7 (by rw [e, hv]; rfl)⟩
  · have hj' : j < ts.length := by simpa using hj
    simp only [hj', show i < ts.length by omega, dif_pos]
    exact .inl (g.ord i j hij hj')

/-- 'l = append(l, x)'. -/
theorem wp_append_res {w : World} {ops : Array Oper} {rest : List Oper} {o : Oper} {a : Act} {Q : Exit → Act → World → Prop} (hgd : o.guard = none) (s x : Operand)
    (ho : o.op = .call { callee := .builtin .append, args := #[s, x], argTypes := #[26, 26] })
    (B lo : Nat) (v : Value) (ts : List RsT) (hs : a.eval s = v) (hown : GrowR w B v ts lo)
    (N : Nat) (t : RsT) (hx : a.eval x = .slice (some ⟨N, 0, none⟩) 1 1) (hc0 : RsAt w N 0 t.r (some ⟨t.p, 0, none⟩) t.pc (some ⟨t.q, 0, none⟩) t.qc)
    (hlen : ts.length + 1 ≤ 1000000000) (hBl : B ≤ lo) (hp : lo ≤ t.p) (hpq : t.p < t.q) (hr : RowS w t.p t.r.pa) (hr2 : RowP w t.q t.r.ps) (hcap : t.r.pa.length ≤ t.pc ∧ t.pc ≤ maxLen ∧ t.r.ps.length ≤ t.qc ∧ t.qc ≤ maxLen)
    (h : ∀ v' w', GrowR w' B v' (ts ++ [t]) w'.heap.size → Below B w w' → wpList Tryz.prog ops Q rest (a.put o.dst v') w') : wpList Tryz.prog ops Q (o :: rest) a w := by
  obtain ⟨i0, hi, hz0, hz1, hz2⟩ := info_parts info_res
  have hlt := World.ownsRow.lt hown.own
  obtain ⟨g0, cap0, hv0, hg0⟩ := hown.blk
  have l2 := hown.top
  refine wpList_append_own_at w hgd s x 26 ho B 49 i0 _ 5 80 Tryz.underlying26 hi hz0 hz1 hz2 rfl (by decide) v ts.length _ hs hown.own ⟨N, 0, none⟩ 1 1 (rsCells1 t) hx rfl ?_ ?_ ?_ ?_ (by omega) ?_
  · intro j u hj
    have e : ∀ k, (⟨N, 0, none⟩ : Addr).add k = ⟨N, k, none⟩ := fun k => by unfold Addr.add; split <;> simp_all
    rw [e]
    obtain ⟨c0, c1, c2, c3, c4⟩ := hc0
    simp only [Nat.zero_add] at c0 c1 c2 c3 c4
    unfold rsCells1 at hj
    match j, hj with
    | 0, hj => simp at hj; subst hj; exact c0
    | 1, hj => simp at hj; subst hj; exact c1
    | 2, hj => simp at hj; subst hj; exact c2
    | 3, hj => simp at hj; subst hj; exact c3
    | 4, hj => simp at hj; subst hj; exact c4
  · intro u hu
    simp only [rsCells1, List.mem_cons, List.not_mem_nil, or_false] at hu
    rcases hu with rfl | rfl | rfl | rfl | rfl <;> rfl
  · unfold maxLen; omega
  · omega
  · intro v' w' ho' hg _ hat
    obtain ⟨g, cap, rfl⟩ : ∃ g cap, v' = .slice (some ⟨g, 0, none⟩) (ts.length + 1) cap := by
      rcases ho'.2 with ⟨_, h0⟩ | ⟨g, cap, cur, hv, _⟩
      · omega
      · exact ⟨g, cap, hv⟩
    subst hv0
    have hat' : g = g0 ∨ g = w.heap.size := by
      rcases hat with e | e
      · exact .inl (Option.some.inj e)
      · exact .inr (Option.some.inj e)
    have hblk : ∀ b, b < w.heap.size → b ≠ g0 → w'.heap[b]? = w.heap[b]? := fun b hb hne => hg.block b hb (fun e => hne (Option.some.inj e))
    have hkS : ∀ b l, RowS w b l → b ≠ g0 → RowS w' b l := fun b l hb hne => by
      have e := hblk b hb.1 hne
      refine ⟨Nat.lt_of_lt_of_le hb.1 hg.size, fun j hj => ?_⟩
      simp only [World.cell?, World.frozen?, e]
      exact hb.2 j hj
    have hkP : ∀ b l, RowP w b l → b ≠ g0 → RowP w' b l := fun b l hb hne => by
      have e := hblk b hb.1 hne
      exact hb.of (Nat.lt_of_lt_of_le hb.1 hg.size) (fun o => by simp only [World.cell?, e]) (fun o => by simp only [World.frozen?, e])
    have hgw : g < w'.heap.size := by
      have ho2 : w'.ownsRow B 49 5 (.slice (some ⟨g, 0, none⟩) (ts.length + 1) cap) (ts.length + 1) (rsCells ts ++ rsCells1 t) := ho'
      exact (ho2.lt g rfl).2
    have hz := hg.size
    have hl' : (ts ++ [t]).length = ts.length + 1 := by simp
    refine h _ w' ⟨?_, ⟨g, cap, by rw [hl'], hgw⟩, Nat.le_refl _, fun j hj => ?_, fun i j hij hj => ?_, fun j hj => ?_⟩ ⟨hg.os, hg.tape, hg.output, hg.size, fun k hk => hg.block k (by omega) (fun e => by have := (hlt k e.symm).1; omega)⟩
    · have e : rsCells (ts ++ [t]) = rsCells ts ++ rsCells1 t := by simp [rsCells]
      rw [e, hl']
      exact ho'
    · by_cases e : j < ts.length
      · rw [List.getElem_append_left e]
        obtain ⟨h1, h2, h3, h4, h5, h6, h7⟩ := hown.el j e
        have hne : ts[j].p ≠ g0 := fun e' => h6 (by rw [e']; rfl)
        have hne2 : ts[j].q ≠ g0 := fun e' => h7 (by rw [e']; rfl)
        have := h4.1
        have := h5.1
        refine ⟨h1, h2, by omega, hkS _ _ h4 hne, hkP _ _ h5 hne2, fun e' => ?_, fun e' => ?_⟩
        · have : ts[j].p = g := Option.some.inj e'
          rcases hat' with e2 | e2 <;> omega
        · have : ts[j].q = g := Option.some.inj e'
          rcases hat' with e2 | e2 <;> omega
      · have ej : j = ts.length := by omega
        subst ej
        rw [List.getElem_append_right (Nat.le_refl _)]
        simp only [Nat.sub_self, List.getElem_cons_zero]
        have hr1 := hr.1
        have hr21 := hr2.1
        refine ⟨by omega, hpq, by omega, hkS _ _ hr (by omega), hkP _ _ hr2 (by omega), fun e' => ?_, fun e' => ?_⟩
        · have : t.p = g := Option.some.inj e'
          rcases hat' with e2 | e2 <;> omega
        · have : t.q = g := Option.some.inj e'
          rcases hat' with e2 | e2 <;> omega
    · by_cases e : j < ts.length
      · rw [List.getElem_append_left e, List.getElem_append_left (by omega)]
        exact hown.ord i j hij e
      · have ej : j = ts.length := by omega
        subst ej
        rw [List.getElem_append_right (Nat.le_refl _), List.getElem_append_left hij]
        simp only [Nat.sub_self, List.getElem_cons_zero]
        have := (hown.el i hij).2.2.1
        omega
    · by_cases e : j < ts.length
      · rw [List.getElem_append_left e]; exact hown.caps j e
      · have ej : j = ts.length := by omega
        subst ej
        rw [List.getElem_append_right (Nat.le_refl _)]
        simp only [Nat.sub_self, List.getElem_cons_zero]
        exact hcap
end Go.Proofs.YtepdfppbnepamabGreat
namespace Go.Proofs.YtepdfppbnepamabGreat
open Go.RowKit M
set_option linter.unusedVariables false

theorem run_copy_rowK {P : Program} (w : World) (k : Nat) (dT sT ty elem : TypeId) (g o dLen dCap : Nat) (a : Addr) (sLen sCap : Nat) (cur : Array Value) (t : TypeId) (cs : List Value)
    (hu : P.underlying dT = some (.slice elem)) (hs : (P.info? elem).map (·.size) = some k)
    (hg : w.heap[g]? = some (.cells cur t (0, 0))) (hn : cs.length = Nat.min sLen dLen * k)
    (hsrc : ∀ j v, cs[j]? = some v → w.cell? (a.add j) = some v) (hfit : o + cs.length ≤ cur.size) (h1 : ∀ v ∈ cs, v.oneCell' = true) :
    (Builtin.copy_ #[dT, sT] ty #[.slice (some ⟨g, o, none⟩) dLen dCap, .slice (some a) sLen sCap]).run P w =
      .ok (goInt (Nat.min sLen dLen)) (w.setRow g (cur.toList.take o ++ cs ++ cur.toList.drop (o + cs.length)).toArray) := by
  have hl := run_loadCells_list (P := P) w a cs hsrc
  have hst := run_storeCells_at P g o t cs 0 cur w hg (by simpa using hfit) h1
  cases hq : P.info? elem with
  | none => simp [hq] at hs
  | some i =>
    have hi : i.size = k := by simpa [hq] using hs
    have hn' : Nat.min sLen dLen * k = cs.length := hn.symm
    simp only [Nat.min_def] at hn'
    simp [Builtin.copy_, run_underlying hu, Builtin.lenOf, Builtin.firstCells, sizeOf, typeInfo, hq, hi, Nat.min_def, hn', hl, hst]

theorem zero_size (zc : Array Value) (k : Nat) : (Builtin.zeroCells zc k).size = k * zc.size := by
  unfold Builtin.zeroCells
  simp
theorem grown_setRow (w : World) (g : Nat) (cs : Array Value) : w.grownBy (w.setRow g cs) (some g) :=
  ⟨rfl, rfl, rfl, by simp [World.setRow], fun k hk hne => setRow_other w g k cs (fun e => hne (by rw [e]))⟩

/-- 'copy(d, s)' into a row of one's own; the world behind it is a new name. -/
theorem wpList_copyK {P : Program} {w : World} {ops : Array Oper} {rest : List Oper} {o : Oper} {a : Act} {Q : Exit → Act → World → Prop} (hgd : o.guard = none) (d s : Operand) (dT sT : TypeId)
    (ho : o.op = .call { callee := .builtin .copy, args := #[d, s], argTypes := #[dT, sT] }) (k : Nat) (elem : TypeId) (hu : P.underlying dT = some (.slice elem)) (hsz : (P.info? elem).map (·.size) = some k)
    (g off dLen dCap : Nat) (ad : Addr) (sLen sCap : Nat) (hd : a.eval d = .slice (some ⟨g, off, none⟩) dLen dCap) (hs : a.eval s = .slice (some ad) sLen sCap)
    (cur : Array Value) (t : TypeId) (hg : w.heap[g]? = some (.cells cur t (0, 0))) (cs : List Value) (hn : cs.length = Nat.min sLen dLen * k)
    (hsrc : ∀ j v, cs[j]? = some v → w.cell? (ad.add j) = some v) (hfit : off + cs.length ≤ cur.size) (h1 : ∀ v ∈ cs, v.oneCell' = true)
    (h : ∀ w', Hid (w'.heap[g]? = some (.cells (splice cur.toList off cs).toArray t (0, 0))) → w.grownBy w' (some g) → wpList P ops Q rest (a.put o.dst (goInt (Nat.min sLen dLen))) w') : wpList P ops Q (o :: rest) a w := by
  refine wpList_plain hgd fun K hK => ?_
  have hrun := run_copy_rowK (P := P) w k dT sT o.type elem g off dLen dCap ad sLen sCap cur t cs hu hsz hg hn hsrc hfit h1
  unfold Oper.wp execOp
  simp only [ho, resolve, invoke, builtin, Sem.run_bind, Sem.run_pure, Result.andThen_ok, List.map_toArray, List.map_cons, List.map_nil, hd, hs, hrun]
  exact hK _ _ (h _ (show _ = _ by rw [splice, ← List.append_assoc]; exact setRow_heap w g cur _ t _ hg) (grown_setRow w g _))

/-- .. and as one step of a region that draws. -/
theorem step_copyK {P : Program} {ops : Array Oper} {o : Oper} {a : Act} {w : World} {K : Act → World → Prop} {Q : Exit → Act → World → Prop} {E : Prop} (hgd : o.guard = none) (d s : Operand) (dT sT : TypeId)
    (ho : o.op = .call { callee := .builtin .copy, args := #[d, s], argTypes := #[dT, sT] }) (k : Nat) (elem : TypeId) (hu : P.underlying dT = some (.slice elem)) (hsz : (P.info? elem).map (·.size) = some k)
    (g off dLen dCap : Nat) (ad : Addr) (sLen sCap : Nat) (hd : a.eval d = .slice (some ⟨g, off, none⟩) dLen dCap) (hs : a.eval s = .slice (some ad) sLen sCap)
    (cur : Array Value) (t : TypeId) (hg : w.heap[g]? = some (.cells cur t (0, 0))) (cs : List Value) (hn : cs.length = Nat.min sLen dLen * k)
    (hsrc : ∀ j v, cs[j]? = some v → w.cell? (ad.add j) = some v) (hfit : off + cs.length ≤ cur.size) (h1 : ∀ v ∈ cs, v.oneCell' = true)
    (h : ∀ w', Hid (w'.heap[g]? = some (.cells (splice cur.toList off cs).toArray t (0, 0))) → w.grownBy w' (some g) → K (a.put o.dst (goInt (Nat.min sLen dLen))) w') :
    if Region.wanted o (yielded ops a.tmps) = true then Oper.wp P o a w K Q else E := by
  have hw : Region.wanted o (yielded ops a.tmps) = true := by simp [Region.wanted, hgd]
  rw [if_pos hw]
  have hrun := run_copy_rowK (P := P) w k dT sT o.type elem g off dLen dCap ad sLen sCap cur t cs hu hsz hg hn hsrc hfit h1
  unfold Oper.wp execOp
  simp only [ho, resolve, invoke, builtin, Sem.run_bind, Sem.run_pure, Result.andThen_ok, List.map_toArray, List.map_cons, List.map_nil, hd, hs, hrun]
  exact h _ (show _ = _ by rw [splice, ← List.append_assoc]; exact setRow_heap w g cur _ t _ hg) (grown_setRow w g _)

/-- 'append(s, make(S, k)...)' where there is no room: a new row. -/
theorem wpList_appendZ {P : Program} {w : World} {ops : Array Oper} {rest : List Oper} {o : Oper} {a : Act} {Q : Exit → Act → World → Prop} (hgd : o.guard = none) (s x : Operand) (t tn e : TypeId)
    (ho : o.op = .call { callee := .builtin .append, args := #[s, x], argTypes := #[t, tn] }) (i : TypeInfo) (z : Value) (kq kn : IntKind) (ht : P.underlying t = some (.slice e)) (htn : P.underlying tn = some (.int kn)) (hi : P.info? e = some i) (hz : i.zero = some z)
    (base : Option Addr) (sLen sCap : Nat) (olds : List Value) (hold : (Builtin.firstCells i.size sLen (.slice base sLen sCap)).run P w.drew = .ok olds.toArray w.drew)
    (k : Nat) (h0 : 0 < k) (hs : 0 < i.size) (hg : sCap < sLen + k) (h63 : ((sLen + k : Nat) : Int) ≤ 9223372036854775807) (h48 : k * i.bytes ≤ 281474976710656) (hfit : Builtin.nextslicecap (sLen + k) sCap * i.bytes ≤ 281474976710656)
    (hes : a.eval s = .slice base sLen sCap) (x' : Int) (hex : a.eval x = .int kq x') (hxk : x' = k)
    (h : ∀ w' (ROW : Array Value), Hid (w'.heap[w.heap.size]? = some (.cells ROW e (0, 0))) → Hid (ROW.size = olds.length + k * z.cells.size + (grownCap w (sLen + k) sCap e - (sLen + k)) * z.cells.size) → Hid (ROW.toList.take olds.length = olds) → w.grownBy w' none → w.heap.size < w'.heap.size → wpList P ops Q rest (a.put o.dst (.slice (some ⟨w.heap.size, 0, none⟩) (sLen + k) (grownCap w (sLen + k) sCap e))) w') : wpList P ops Q (o :: rest) a w := by
  refine wpList_plain hgd fun K hK => ?_
  subst hxk
  have hrun := Lib.run_append_grow_zeros w t tn o.type e i z kq kn ht htn hi hz base sLen sCap olds hold k h0 hs hg h63 h48 hfit
  unfold Oper.wp execOp
  simp only [ho, resolve, invoke, builtin, Sem.run_bind, Sem.run_pure, Result.andThen_ok, List.map_toArray, List.map_cons, List.map_nil, hes, hex, hrun]
  refine hK _ _ (h _ (olds.toArray ++ Builtin.zeroCells z.cells k ++ Builtin.zeroCells z.cells (grownCap w (sLen + k) sCap e - (sLen + k))) ?_ ?_ ?_ ?_ ?_)
  · exact heap_alloc_new w.drew _
  · show _ = _
    rw [Array.size_append, Array.size_append, zero_size, zero_size]
    simp
  · show _ = _
    rw [Array.toList_append, Array.toList_append, List.append_assoc, List.take_append_of_le_length (by simp), List.take_of_length_le (by simp)]
  · exact ⟨rfl, rfl, rfl, by simp, fun b hb hn => (World.grownBy_alloc w.drew _ none).block b hb hn⟩
  · simp
end Go.Proofs.YtepdfppbnepamabGreat
namespace Go.Proofs.YtepdfppbnepamabGreat
open Go.RowKit M
set_option linter.unusedVariables false

/-- What is handed back: a row of one's own, the old one or a new one. -/
structure InsIs (w w' : World) (base g : Nat) (v' : Value) (n : Nat) (xs : List Value) : Prop where
  own : w'.ownsRow base 49 5 v' n xs
  grew : w.grownBy w' (some g)
  blk : v'.ownBlock = some g ∨ ∃ b, v'.ownBlock = some b ∧ w.heap.size ≤ b

theorem grown_self (w : World) (r : Option Nat) : w.grownBy w r := ⟨rfl, rfl, rfl, Nat.le_refl _, fun _ _ _ => rfl⟩

theorem insert_none (base g n c i : Nat) (xs : List Value) (vb vc : Nat) (w : World) (hown : w.ownsRow base 49 5 (.slice (some ⟨g, 0, none⟩) n c) n xs) (hi : i ≤ n) (hn : n ≤ 4194304) (hc : c ≤ maxLen) (hnc : n ≤ c) :
    Calls Tryz.prog 91 #[.slice (some ⟨g, 0, none⟩) n c, .int .i64 i, .slice (some ⟨vb, 0, none⟩) 0 vc] w fun e w' => ∃ v', e = .returned v' ∧ InsIs w w' base g v' n xs := by
  have hi1 : (0 : Int) ≤ (i : Int) := by omega
  have hi2 : (i : Int) ≤ (n : Int) := by omega
  have HO := hide hown
  clear hown
  unfold maxLen at hc
  by_cases hci : c = i
  · subst hci
    go_enter Tryz.func91, Tryz.ntmps91
    go_wp2
    go_ret
    exact ⟨_, rfl, HO.out, grown_self _ _, .inl rfl⟩
  · skip
    go_enter Tryz.func91, Tryz.ntmps91
    go_wp2
    go_ret
    exact ⟨_, rfl, HO.out, grown_self _ _, .inl rfl⟩

set_option maxHeartbeats 4000000 in
set_option maxRecDepth 100000 in
theorem insert_end (base g n c m : Nat) (xs news : List Value) (vb vc : Nat) (w : World) (hown : w.ownsRow base 49 5 (.slice (some ⟨g, 0, none⟩) n c) n xs) (hm : 0 < m) (hn : n ≤ 2097152) (hmm : m ≤ 2097152) (hc : c ≤ maxLen) (hnc : n ≤ c) (hl : news.length = m * 5) (hnews : ∀ j u, news[j]? = some u → w.cell? ⟨vb, j, none⟩ = some u) (h1 : ∀ u ∈ news, u.oneCell' = true) (hbase : base ≤ w.heap.size) :
    Calls Tryz.prog 91 #[.slice (some ⟨g, 0, none⟩) n c, .int .i64 n, .slice (some ⟨vb, 0, none⟩) m vc] w fun e w' => ∃ v', e = .returned v' ∧ InsIs w w' base g v' (n + m) (xs ++ news) := by
  obtain ⟨ii, hii, hz, hs, hb⟩ := info_parts info_res
  have HO := hide hown
  clear hown
  unfold maxLen at hc
  have hz1 : ¬ ((m : Int) = 0) := by omega
  by_cases hci : n = c
  · subst hci
    go_enter Tryz.func91, Tryz.ntmps91
    go_wp2_with (at_builtin; refine wpList_append_own_at _ rfl _ _ 26 rfl base 49 ii _ 5 80 Tryz.underlying26 hii hz hs hb rfl (by omega) _ n xs rfl HO.out ⟨vb, 0, none⟩ m vc news rfl hl (fun j u hj => by rw [Addr.add_lit, Nat.zero_add]; exact hnews j u hj) h1 (by unfold maxLen; omega) (by omega) hbase ?_)
    intro v' w' h2 h3 h4 h5
    have H2 := hide h2
    have H3 := hide h3
    have H5 := hide h5
    clear h2 h3 h4 h5
    go_wp2
    go_ret
    refine ⟨_, rfl, H2.out, H3.out, ?_⟩
    rcases H5.out with h | h
    · exact .inl h
    · exact .inr ⟨_, h, Nat.le_refl _⟩
  · skip
    go_enter Tryz.func91, Tryz.ntmps91
    go_wp2_with (at_builtin; refine wpList_append_own_at _ rfl _ _ 26 rfl base 49 ii _ 5 80 Tryz.underlying26 hii hz hs hb rfl (by omega) _ n xs rfl HO.out ⟨vb, 0, none⟩ m vc news rfl hl (fun j u hj => by rw [Addr.add_lit, Nat.zero_add]; exact hnews j u hj) h1 (by unfold maxLen; omega) (by omega) hbase ?_)
    intro v' w' h2 h3 h4 h5
    have H2 := hide h2
    have H3 := hide h3
    have H5 := hide h5
    clear h2 h3 h4 h5
    go_wp2
    go_ret
    refine ⟨_, rfl, H2.out, H3.out, ?_⟩
    rcases H5.out with h | h
    · exact .inl h
    · exact .inr ⟨_, h, Nat.le_refl _⟩
end Go.Proofs.YtepdfppbnepamabGreat
namespace Go.Proofs.YtepdfppbnepamabGreat
open Go.RowKit M
set_option linter.unusedVariables false

theorem ins_list {ROW A N D : List Value} (hpre : ROW.take A.length = A) (hlen : A.length + N.length + D.length ≤ ROW.length) :
    (splice (splice ROW A.length N) (A.length + N.length) D).take (A.length + N.length + D.length) = A ++ (N ++ D) := by
  unfold splice
  rw [hpre]
  have e1 : (A ++ (N ++ ROW.drop (A.length + N.length))).take (A.length + N.length) = A ++ N := by
    rw [← List.append_assoc, List.take_append_of_le_length (by simp), List.take_of_length_le (by simp)]
  rw [e1, ← List.append_assoc, List.take_append_of_le_length (by simp; omega), List.take_of_length_le (by simp; omega), List.append_assoc]
theorem ins_list2 {ROW A N D : List Value} (hpre : ROW.take A.length = A) (hlen : A.length + N.length + D.length ≤ ROW.length) :
    (splice (splice ROW (A.length + N.length) D) A.length N).take (A.length + N.length + D.length) = A ++ (N ++ D) := by
  unfold splice
  have l0 : (ROW.take (A.length + N.length)).length = A.length + N.length := by rw [List.length_take]; omega
  have e1 : (ROW.take (A.length + N.length) ++ (D ++ ROW.drop (A.length + N.length + D.length))).take A.length = A := by
    rw [List.take_append_of_le_length (by omega), List.take_take, Nat.min_eq_left (by omega)]
    exact hpre
  have e2 : (ROW.take (A.length + N.length) ++ (D ++ ROW.drop (A.length + N.length + D.length))).drop (A.length + N.length) = D ++ ROW.drop (A.length + N.length + D.length) := by
    rw [List.drop_append_of_le_length (by omega), List.drop_of_length_le (by omega), List.nil_append]
  rw [e1, e2, ← List.append_assoc N, ← List.append_assoc A, List.take_append_of_le_length (by simp; omega), List.take_of_length_le (by simp; omega)]

set_option maxHeartbeats 4000000 in
set_option maxRecDepth 100000 in
theorem insert_grow (base g n c i m : Nat) (xs news : List Value) (vb vc : Nat) (w : World) (hown : w.ownsRow base 49 5 (.slice (some ⟨g, 0, none⟩) n c) n xs) (hi : i < n) (hm : 0 < m) (hn : n ≤ 2097152) (hmm : m ≤ 2097152) (hroom : c < n + m) (hl : news.length = m * 5) (hnews : ∀ j u, news[j]? = some u → w.cell? ⟨vb, j, none⟩ = some u) (h1 : ∀ u ∈ news, u.oneCell' = true) (hx1 : ∀ u ∈ xs, u.oneCell' = true) (hbase : base ≤ w.heap.size) (hvb : vb < w.heap.size) :
    Calls Tryz.prog 91 #[.slice (some ⟨g, 0, none⟩) n c, .int .i64 i, .slice (some ⟨vb, 0, none⟩) m vc] w fun e w' => ∃ v', e = .returned v' ∧ InsIs w w' base g v' (n + m) (xs.take (i * 5) ++ (news ++ xs.drop (i * 5))) := by
  obtain ⟨ii, hii, hz, hs, hb⟩ := info_parts info_res
  have hsz5 : (Tryz.prog.info? 49).map (·.size) = some 5 := by rw [hii]; simp [hs]
  have hxl : xs.length = n * 5 := hown.1
  have hcell : ∀ j v, xs[j]? = some v → w.cell? ⟨g, j, none⟩ = some v := fun j v hj => by
    have hjl : j < n * 5 := by
      have := (List.getElem?_eq_some_iff.1 hj).1
      omega
    rw [hown.cellAt j hjl]; exact hj
  have hgl : g < w.heap.size := (hown.lt g rfl).2
  have hnc : n ≤ c := by
    rcases hown.2 with ⟨h, _⟩ | ⟨g', cap, cur, ev, _, _, h4, _⟩
    · cases h
    · cases ev; exact h4
  have hold : (Builtin.firstCells ii.size i (.slice (some ⟨g, 0, none⟩) i c)).run Tryz.prog w.drew = .ok (xs.take (i * 5)).toArray w.drew := by
    rw [hs]
    exact run_firstCells_some w.drew 5 i ⟨g, 0, none⟩ i c (xs.take (i * 5)) (by rw [List.length_take]; omega) (fun j v hj => by
      rw [Addr.add_lit, Nat.zero_add]
      rw [List.getElem?_take] at hj
      split at hj
      · exact hcell j v hj
      · cases hj)
  have hz1 : ¬ ((m : Int) = 0) := by omega
  have hz2 : ¬ ((i : Int) = (n : Int)) := by omega
  have hz3 : (c : Int) < (n : Int) + (m : Int) := by omega
  have hci : ¬ (c = i) := by omega
  have hin : (i : Int) ≤ (n : Int) := by omega
  have hi0 : (0 : Int) ≤ (i : Int) := by omega
  have hic : (i : Int) ≤ (c : Int) := by omega
  have hw1 : IntKind.i64.wrap ((i : Int) + (m : Int)) = (i : Int) + (m : Int) := by rw [IntKind.wrap_i64]; omega
  have hw2 : IntKind.i64.wrap ((n : Int) + (m : Int)) = (n : Int) + (m : Int) := by rw [IntKind.wrap_i64]; omega
  have hw3 : IntKind.i64.wrap ((n : Int) + (m : Int) - (i : Int)) = (n : Int) + (m : Int) - (i : Int) := by rw [IntKind.wrap_i64]; omega
  have hb1 : (0 : Int) ≤ (i : Int) + (m : Int) := by omega
  have htn : ((i : Int) + (m : Int)).toNat = i + m := by omega
  have hkk : (n : Int) + (m : Int) - (i : Int) = ((n + m - i : Nat) : Int) := by omega
  have hik : i + (n + m - i) = n + m := by omega
  obtain ⟨A, hA⟩ : ∃ A, A = xs.take (i * 5) := ⟨_, rfl⟩
  obtain ⟨D, hD⟩ : ∃ D, D = xs.drop (i * 5) := ⟨_, rfl⟩
  have HAL := hide (show A.length = i * 5 by rw [hA, List.length_take]; omega)
  have HDL := hide (show D.length = (n - i) * 5 by rw [hD, List.length_drop]; omega)
  have hcellD : ∀ j v, D[j]? = some v → w.cell? ⟨g, i * 5 + j, none⟩ = some v := fun j v hj => hcell _ v (by rw [hD, List.getElem?_drop] at hj; exact hj)
  have hD1 : ∀ u ∈ D, u.oneCell' = true := fun u hu => hx1 u (by rw [hD] at hu; exact List.mem_of_mem_drop hu)
  rw [← hA] at hold
  rw [← hA, ← hD]
  clear hA hD hcell hx1
  have HOLD := hide hold
  have HKK := hide hkk
  have HIK := hide hik
  clear hold hkk hik
  go_enter Tryz.func91, Tryz.ntmps91
  go_wp2_with (at_builtin; refine wpList_appendZ rfl _ _ 26 3 49 rfl ii _ .i64 .i64 Tryz.underlying26 Tryz.underlying3 hii hz (some ⟨g, 0, none⟩) i c A HOLD.out (n + m - i) (by omega) (by omega) (by omega) (by omega) (by rw [hb]; omega) (by rw [hb, HIK.out]; exact growslice_fits hroom (by omega)) rfl _ rfl HKK.out ?_)
  intro w1 ROW H1 hRs hRt hg1 hs1
  rw [HIK.out] at hRs ⊢
  have hGn : n + m ≤ grownCap w (n + m) c 49 := grownCap_ge w _ _ _
  have hGm := grownCap_le_maxLen w (n + m) c 49 (by unfold maxLen; omega)
  generalize grownCap w (n + m) c 49 = G at *
  have hG63 : G ≤ 9223372036854775807 := by unfold maxLen at hGm; omega
  have HR := hide (show ROW.size = G * 5 ∧ ROW.toList.take A.length = A from ⟨by
    have h1 := hRs.out
    rw [HAL.out] at h1
    have : (Value.agg #[.slice none 0 0, .bool false, .string ByteArray.empty, .int .i64 0, .slice none 0 0]).cells.size = 5 := rfl
    try rw [this] at h1
    omega, hRt.out⟩)
  have hGi : ¬ (G = i) := by omega
  have hGim : ¬ (G = i + m) := by omega
  have hiG : (i : Int) ≤ (G : Int) := by omega
  have K1 := hide hg1
  clear hg1 hRs hRt
  have hnews1 : ∀ j u, news[j]? = some u → w1.cell? ⟨vb, j, none⟩ = some u := fun j u hj => by rw [World.cell?, K1.out.block vb hvb (by simp)]; exact hnews j u hj
  go_wp2_with (refine wpList_copyK rfl _ _ 26 26 rfl 5 49 Tryz.underlying26 hsz5 _ _ _ _ _ _ _ rfl rfl ROW 49 H1.out news ?_ ?_ ?_ h1 ?_)
  · rw [hl]; simp only [Nat.min_def]; split <;> omega
  · intro j u hj; rw [Addr.add_lit, Nat.zero_add]; exact hnews1 j u hj
  · have := HR.out.1; omega
  intro w2 hr2 hg2
  have K2 := hide hg2
  clear hg2 hnews1
  obtain ⟨ROW2, hROW2⟩ : ∃ ROW2 : Array Value, ROW2 = (splice ROW.toList (i * 5) news).toArray := ⟨_, rfl⟩
  have H2 := hide (show w2.heap[w.heap.size]? = some (.cells ROW2 49 (0, 0)) by rw [hROW2]; exact hr2.out)
  have hl2 : ROW2.size = G * 5 := by
    have := HR.out.1
    rw [hROW2, List.size_toArray, length_splice _ _ _ (by rw [hl, Array.length_toList]; omega), Array.length_toList]
    exact this
  have f2 : ∀ j v, D[j]? = some v → w2.drew.cell? ((⟨g, i * 5, none⟩ : Addr).add j) = some v := fun j v hj => by
    rw [Addr.add_lit]
    show w2.cell? _ = _
    rw [World.cell?, K2.out.block g (by omega) (by simp; omega), K1.out.block g hgl (by simp)]
    exact hcellD j v hj
  have F1 := hide (show D.length = Nat.min (n - i) (n + m - (i + m)) * 5 by rw [HDL.out]; simp only [Nat.min_def]; split <;> omega)
  have F3 := hide (show (i + m) * 5 + D.length ≤ ROW2.size by rw [HDL.out, hl2]; omega)
  have HE2 := hide (And.intro hROW2 hl2)
  clear hROW2 hl2 hr2
  go_wp2
  go_region_law (refine step_copyK rfl _ _ 26 26 rfl 5 49 Tryz.underlying26 hsz5 w.heap.size ((i + m) * 5) (n + m - (i + m)) (G - (i + m)) ⟨g, i * 5, none⟩ (n - i) (c - i) (by simp [Act.eval, Act.put]) (by simp [Act.eval, Act.put]) ROW2 49 H2.out D F1.out f2 F3.out hD1 ?_; intro w3 hr3 hg3)
  have K3 := hide hg3
  clear hg3
  go_wp2
  go_ret
  have hA := HAL.out
  have hDl := HDL.out
  have e1 : (i * 5) = A.length := hA.symm
  have e2 : (i + m) * 5 = A.length + news.length := by rw [hA, hl]; omega
  have hlen : A.length + news.length + D.length ≤ ROW.toList.length := by rw [hA, hl, hDl, Array.length_toList, HR.out.1]; omega
  have hrow : w3.heap[w.heap.size]? = some (.cells (splice (splice ROW.toList A.length news) (A.length + news.length) D).toArray 49 (0, 0)) := by
    have := hr3.out
    rw [HE2.out.1, e2, e1] at this
    exact this
  refine ⟨_, rfl, ⟨by rw [List.length_append, List.length_append, hA, hl, hDl]; omega, .inr ⟨w.heap.size, G, _, rfl, hbase, hrow, hGn, hGm, ?_, ?_⟩⟩, ?_, .inr ⟨_, rfl, Nat.le_refl _⟩⟩
  · rw [List.size_toArray, length_splice _ _ _ (by rw [length_splice _ _ _ (by omega)]; omega), length_splice _ _ _ (by omega), Array.length_toList]
    exact HR.out.1
  · rw [show (n + m) * 5 = A.length + news.length + D.length by rw [hA, hl, hDl]; omega]
    exact ins_list HR.out.2 hlen
  · have k1 := K1.out
    have k2 := K2.out
    have k3 := K3.out
    exact ⟨k3.os.trans (k2.os.trans k1.os), k3.tape.trans (k2.tape.trans k1.tape), k3.output.trans (k2.output.trans k1.output), Nat.le_trans k1.size (Nat.le_trans k2.size k3.size), fun b hb hne => by
      rw [k3.block b (by have := k1.size; have := k2.size; show b < w2.heap.size; omega) (by simp; omega)]
      show w2.heap[b]? = _
      rw [k2.block b (by have := k1.size; omega) (by simp; omega), k1.block b hb (by simp)]⟩
end Go.Proofs.YtepdfppbnepamabGreat
namespace Go.Proofs.YtepdfppbnepamabGreat
open Go.RowKit M
set_option linter.unusedVariables false

set_option maxHeartbeats 4000000 in
set_option maxRecDepth 100000 in
theorem insert_shift (base g n c i m : Nat) (xs news : List Value) (vb vc : Nat) (w : World) (hown : w.ownsRow base 49 5 (.slice (some ⟨g, 0, none⟩) n c) n xs) (hi : i < n) (hm : 0 < m) (hn : n ≤ 2097152) (hmm : m ≤ 2097152) (hroom : n + m ≤ c) (hl : news.length = m * 5) (hnews : ∀ j u, news[j]? = some u → w.cell? ⟨vb, j, none⟩ = some u) (h1 : ∀ u ∈ news, u.oneCell' = true) (hx1 : ∀ u ∈ xs, u.oneCell' = true) (hvb : vb < w.heap.size) (hne : vb ≠ g) (hfz : ∀ k, w.frozen? ⟨vb, k, none⟩ = false) (tA : TypeId) (kA : Nat) (hsa : w.shape? vb = some (tA, kA)) :
    Calls Tryz.prog 91 #[.slice (some ⟨g, 0, none⟩) n c, .int .i64 i, .slice (some ⟨vb, 0, none⟩) m vc] w fun e w' => ∃ v', e = .returned v' ∧ InsIs w w' base g v' (n + m) (xs.take (i * 5) ++ (news ++ xs.drop (i * 5))) := by
  obtain ⟨ii, hii, hz, hs, hb⟩ := info_parts info_res
  have hsz5 : (Tryz.prog.info? 49).map (·.size) = some 5 := by rw [hii]; simp [hs]
  have hxl : xs.length = n * 5 := hown.1
  have hcell : ∀ j v, xs[j]? = some v → w.cell? ⟨g, j, none⟩ = some v := fun j v hj => by
    have hjl : j < n * 5 := by
      have := (List.getElem?_eq_some_iff.1 hj).1
      omega
    rw [hown.cellAt j hjl]; exact hj
  have hgl : g < w.heap.size := (hown.lt g rfl).2
  obtain ⟨cur, hbg, hgg, hnc, hcm, hcs, htk⟩ : ∃ cur : Array Value, base ≤ g ∧ w.heap[g]? = some (.cells cur 49 (0, 0)) ∧ n ≤ c ∧ c ≤ maxLen ∧ cur.size = c * 5 ∧ cur.toList.take (n * 5) = xs := by
    rcases hown.2 with ⟨h, _⟩ | ⟨g', cap, cur, ev, q1, q2, q3, q4, q5, q6⟩
    · cases h
    · cases ev; exact ⟨cur, q1, q2, q3, q4, q5, q6⟩
  have hc63 : c ≤ 9223372036854775807 := by unfold maxLen at hcm; omega
  have hov : ∀ lb cb, (callFunc 107 #[.slice (some ⟨vb, 0, none⟩) m vc, .slice (some ⟨g, (i + m) * 5, none⟩) lb cb]).run Tryz.prog w = .ok (.value (.bool false)) w := fun lb cb => by
    rw [run_callFunc_extern Tryz.func107 (by kernel_rfl) (by kernel_rfl) (by kernel_rfl) (e := Extern.SlicesOverlaps.overlaps #[26, 26] #[4]) (by kernel_rfl),
      Lib.run_overlaps_apart w 26 4 49 Tryz.underlying26 5 Tryz.sizeOf49 ⟨vb, 0, none⟩ ⟨g, (i + m) * 5, none⟩ m vc lb cb hne tA 49 kA cur.size hsa (by simp only [World.shape?, hgg]) (by omega) (hfz _) (hfz _)]
    rfl
  have hz1 : ¬ ((m : Int) = 0) := by omega
  have hz2 : ¬ ((i : Int) = (n : Int)) := by omega
  have hz3 : ¬ ((c : Int) < (n : Int) + (m : Int)) := by omega
  have hz4 : (n : Int) + (m : Int) ≤ (c : Int) := by omega
  have hci : ¬ (c = i) := by omega
  have hcim : ¬ (c = i + m) := by omega
  have hin : (i : Int) ≤ (n : Int) := by omega
  have hi0 : (0 : Int) ≤ (i : Int) := by omega
  have hic : (i : Int) ≤ (c : Int) := by omega
  have hinm : (i : Int) ≤ (n : Int) + (m : Int) := by omega
  have hw1 : IntKind.i64.wrap ((i : Int) + (m : Int)) = (i : Int) + (m : Int) := by rw [IntKind.wrap_i64]; omega
  have hw2 : IntKind.i64.wrap ((n : Int) + (m : Int)) = (n : Int) + (m : Int) := by rw [IntKind.wrap_i64]; omega
  have hb0 : (0 : Int) ≤ (n : Int) + (m : Int) := by omega
  have hb1 : (0 : Int) ≤ (i : Int) + (m : Int) := by omega
  have htn : ((i : Int) + (m : Int)).toNat = i + m := by omega
  have htn2 : ((n : Int) + (m : Int)).toNat = n + m := by omega
  obtain ⟨A, hA⟩ : ∃ A, A = xs.take (i * 5) := ⟨_, rfl⟩
  obtain ⟨D, hD⟩ : ∃ D, D = xs.drop (i * 5) := ⟨_, rfl⟩
  have HAL := hide (show A.length = i * 5 by rw [hA, List.length_take]; omega)
  have HDL := hide (show D.length = (n - i) * 5 by rw [hD, List.length_drop]; omega)
  have HPR := hide (show cur.toList.take A.length = A by rw [HAL.out, hA, ← htk, List.take_take, Nat.min_eq_left (by omega)])
  have f2 : ∀ j v, D[j]? = some v → w.drew.cell? ((⟨g, i * 5, none⟩ : Addr).add j) = some v := fun j v hj => by
    rw [Addr.add_lit]
    exact hcell _ v (by rw [hD, List.getElem?_drop] at hj; exact hj)
  have hD1 : ∀ u ∈ D, u.oneCell' = true := fun u hu => hx1 u (by rw [hD] at hu; exact List.mem_of_mem_drop hu)
  rw [← hA, ← hD]
  have F1 := hide (show D.length = Nat.min (n + m - i) (n + m - (i + m)) * 5 by rw [HDL.out]; simp only [Nat.min_def]; split <;> omega)
  have F3 := hide (show (i + m) * 5 + D.length ≤ cur.size by rw [HDL.out, hcs]; omega)
  have HG := hide hgg
  have HCS := hide hcs
  clear hA hD hcell hx1 hgg hcs htk hown
  go_enter Tryz.func91, Tryz.ntmps91
  go_wp2_with (simp only [hov])
  go_region_law (refine step_copyK rfl _ _ 26 26 rfl 5 49 Tryz.underlying26 hsz5 g ((i + m) * 5) (n + m - (i + m)) (c - (i + m)) ⟨g, i * 5, none⟩ (n + m - i) (c - i) (by simp [Act.eval, Act.put]) (by simp [Act.eval, Act.put]) cur 49 HG.out D F1.out f2 F3.out hD1 ?_; intro w1 hr1 hg1)
  have K1 := hide hg1
  clear hg1
  obtain ⟨ROW2, hROW2⟩ : ∃ ROW2 : Array Value, ROW2 = (splice cur.toList ((i + m) * 5) D).toArray := ⟨_, rfl⟩
  have H2 := hide (show w1.heap[g]? = some (.cells ROW2 49 (0, 0)) by rw [hROW2]; exact hr1.out)
  have hl2 : ROW2.size = c * 5 := by
    rw [hROW2, List.size_toArray, length_splice _ _ _ (by rw [Array.length_toList]; exact F3.out), Array.length_toList]
    exact HCS.out
  have HE2 := hide (And.intro hROW2 hl2)
  have hnews1 : ∀ j u, news[j]? = some u → w1.cell? ⟨vb, j, none⟩ = some u := fun j u hj => by
    rw [World.cell?, K1.out.block vb hvb (by simp; omega)]
    exact hnews j u hj
  clear hROW2 hl2 hr1
  go_wp2_with (refine wpList_copyK rfl _ _ 26 26 rfl 5 49 Tryz.underlying26 hsz5 _ _ _ _ _ _ _ rfl rfl ROW2 49 H2.out news ?_ ?_ ?_ h1 ?_)
  · rw [hl]; simp only [Nat.min_def]; split <;> omega
  · intro j u hj; rw [Addr.add_lit, Nat.zero_add]; exact hnews1 j u hj
  · have := HE2.out.2; omega
  intro w2 hr2 hg2
  have K2 := hide hg2
  clear hg2
  go_wp2
  go_ret
  have hA := HAL.out
  have hDl := HDL.out
  have e1 : (i * 5) = A.length := hA.symm
  have e2 : (i + m) * 5 = A.length + news.length := by rw [hA, hl]; omega
  have hlen : A.length + news.length + D.length ≤ cur.toList.length := by rw [hA, hl, hDl, Array.length_toList, HCS.out]; omega
  have hrow : w2.heap[g]? = some (.cells (splice (splice cur.toList (A.length + news.length) D) A.length news).toArray 49 (0, 0)) := by
    have := hr2.out
    rw [HE2.out.1, e2, e1] at this
    exact this
  refine ⟨_, rfl, ⟨by rw [List.length_append, List.length_append, hA, hl, hDl]; omega, .inr ⟨g, c, _, rfl, hbg, hrow, hroom, hcm, ?_, ?_⟩⟩, ?_, .inl rfl⟩
  · rw [List.size_toArray, length_splice _ _ _ (by rw [length_splice _ _ _ (by omega)]; omega), length_splice _ _ _ (by omega), Array.length_toList]
    exact HCS.out
  · rw [show (n + m) * 5 = A.length + news.length + D.length by rw [hA, hl, hDl]; omega]
    exact ins_list2 HPR.out hlen
  · have k1 := K1.out
    have k2 := K2.out
    exact ⟨k2.os.trans k1.os, k2.tape.trans k1.tape, k2.output.trans k1.output, Nat.le_trans k1.size k2.size, fun b hb hne => by
      have z1 : w.heap.size ≤ w1.heap.size := k1.size
      rw [k2.block b (by omega) hne, k1.block b hb hne]
      rfl⟩

/-- slices.Insert at a row of things that is the call's own, of things in another row. -/
theorem insert_any (base g n c i m : Nat) (xs news : List Value) (vb vc : Nat) (w : World) (hown : w.ownsRow base 49 5 (.slice (some ⟨g, 0, none⟩) n c) n xs) (hi : i ≤ n) (hn : n ≤ 2097152) (hmm : m ≤ 2097152) (hl : news.length = m * 5) (hnews : ∀ j u, news[j]? = some u → w.cell? ⟨vb, j, none⟩ = some u) (h1 : ∀ u ∈ news, u.oneCell' = true) (hx1 : ∀ u ∈ xs, u.oneCell' = true) (hbase : base ≤ w.heap.size) (hvb : vb < w.heap.size) (hne : vb ≠ g) (hfz : ∀ k, w.frozen? ⟨vb, k, none⟩ = false) :
    Calls Tryz.prog 91 #[.slice (some ⟨g, 0, none⟩) n c, .int .i64 i, .slice (some ⟨vb, 0, none⟩) m vc] w fun e w' => ∃ v', e = .returned v' ∧ InsIs w w' base g v' (n + m) (xs.take (i * 5) ++ (news ++ xs.drop (i * 5))) := by
  have hxl : xs.length = n * 5 := hown.1
  obtain ⟨hnc, hcm⟩ : n ≤ c ∧ c ≤ maxLen := by
    rcases hown.2 with ⟨h, _⟩ | ⟨g', cap, cur, ev, q1, q2, q3, q4, q5, q6⟩
    · cases h
    · cases ev; exact ⟨q3, q4⟩
  by_cases hm : m = 0
  · subst hm
    obtain rfl : news = [] := List.length_eq_zero_iff.1 (by omega)
    rw [List.nil_append, List.take_append_drop]
    exact insert_none base g n c i xs vb vc w hown hi (by omega) hcm hnc
  by_cases hin : i = n
  · subst hin
    rw [List.take_of_length_le (by omega), List.drop_of_length_le (by omega), List.append_nil]
    exact insert_end base g i c m xs news vb vc w hown (by omega) hn hmm hcm hnc hl hnews h1 hbase
  by_cases hr : c < n + m
  · exact insert_grow base g n c i m xs news vb vc w hown (by omega) (by omega) hn hmm hr hl hnews h1 hx1 hbase hvb
  · obtain ⟨cv, tA, fz, hh⟩ : ∃ cv tA fz, w.heap[vb]? = some (.cells cv tA fz) := by
      have hc := hnews 0 (news[0]'(by omega)) (List.getElem?_eq_getElem (by omega))
      unfold World.cell? at hc
      split at hc
      · exact ⟨_, _, _, by assumption⟩
      · cases hc
    exact insert_shift base g n c i m xs news vb vc w hown (by omega) (by omega) hn hmm (by omega) hl hnews h1 hx1 hvb hne hfz tA cv.size (by simp only [World.shape?, hh])
end Go.Proofs.YtepdfppbnepamabGreat
namespace Go.Proofs.YtepdfppbnepamabGreat.M

/-- Whether a text comes ahead of another. -/
def lessT (a b : ByteArray) : Bool := Op.bytesLess a.toList b.toList

theorem bytesLess_irr : ∀ l : List UInt8, Op.bytesLess l l = false
  | [] => by simp [Op.bytesLess]
  | a :: l => by
    have := bytesLess_irr l
    simp [Op.bytesLess, this]
theorem lessT_irr (a : ByteArray) : lessT a a = false := bytesLess_irr _

theorem bytesLess_asym : ∀ l r : List UInt8, Op.bytesLess l r = true → Op.bytesLess r l = false
  | [], [], h => by simp [Op.bytesLess] at h
  | [], b :: r, _ => by simp [Op.bytesLess]
  | a :: l, [], h => by simp [Op.bytesLess] at h
  | a :: l, b :: r, h => by
    have ih := bytesLess_asym l r
    simp only [Op.bytesLess, Bool.or_eq_true, Bool.and_eq_true, decide_eq_true_eq, beq_iff_eq, Bool.or_eq_false_iff, decide_eq_false_iff_not, Bool.and_eq_false_iff] at *
    rcases h with h | ⟨rfl, h⟩
    · refine ⟨fun h' => ?_, .inl ?_⟩
      · have h1 : a.toNat < b.toNat := h
        have h2 : b.toNat < a.toNat := h'
        omega
      · rw [beq_eq_false_iff_ne]; rintro rfl; exact absurd h (by have : ¬ b.toNat < b.toNat := Nat.lt_irrefl _; exact this)
    · exact ⟨by have : ¬ a.toNat < a.toNat := Nat.lt_irrefl _; exact this, .inr (ih h)⟩
theorem lessT_asym (a b : ByteArray) (h : lessT a b = true) : lessT b a = false := bytesLess_asym _ _ h

theorem bytesLess_tri : ∀ l r : List UInt8, Op.bytesLess l r = false → Op.bytesLess r l = false → l = r
  | [], [], _, _ => rfl
  | [], b :: r, h, _ => by simp [Op.bytesLess] at h
  | a :: l, [], _, h => by simp [Op.bytesLess] at h
  | a :: l, b :: r, h, h' => by
    have ih := bytesLess_tri l r
    simp only [Op.bytesLess, Bool.or_eq_false_iff, decide_eq_false_iff_not, Bool.and_eq_false_iff] at h h'
    have e : a = b := by
      have h1 : ¬ a.toNat < b.toNat := h.1
      have h2 : ¬ b.toNat < a.toNat := h'.1
      exact UInt8.toNat_inj.1 (by omega)
    subst e
    rcases h.2 with h1 | h1
    · simp at h1
    · rcases h'.2 with h2 | h2
      · simp at h2
      · rw [ih h1 h2]

/-- How two texts stand: -1, 0 or 1. -/
def cmpT (a b : ByteArray) : Int := if lessT a b then -1 else if a = b then 0 else 1
theorem cmpT_same (a : ByteArray) : cmpT a a = 0 := by unfold cmpT; rw [lessT_irr]; simp
theorem cmpT_zero (a b : ByteArray) (h : cmpT a b = 0) : a = b := by
  unfold cmpT at h
  by_cases h1 : lessT a b = true
  · rw [if_pos h1] at h; omega
  · rw [if_neg h1] at h
    by_cases h2 : a = b
    · exact h2
    · rw [if_neg h2] at h; omega
theorem cmpT_neg (a b : ByteArray) : decide (cmpT a b < 0) = lessT a b := by
  unfold cmpT
  cases h : lessT a b
  · by_cases h2 : a = b
    · simp [h2]
    · simp [h2]
  · simp

/-- Whether a list of texts comes ahead of another: text by text, a beginning ahead. -/
def lessL : List ByteArray → List ByteArray → Bool
  | [], [] => false
  | [], _ :: _ => true
  | _ :: _, [] => false
  | x :: a, y :: b => if x = y then lessL a b else lessT x y

theorem lessL_irr : ∀ l, lessL l l = false
  | [] => rfl
  | x :: a => by rw [lessL, if_pos rfl]; exact lessL_irr a
theorem lessL_asym : ∀ a b, lessL a b = true → lessL b a = false
  | [], [], h => by simp [lessL] at h
  | [], _ :: _, _ => by simp [lessL]
  | _ :: _, [], h => by simp [lessL] at h
  | x :: a, y :: b, h => by
    rw [lessL] at h ⊢
    by_cases e : x = y
    · subst e; rw [if_pos rfl] at *; exact lessL_asym a b h
    · rw [if_neg e] at h; rw [if_neg (fun e' => e e'.symm)]; exact lessT_asym _ _ h

theorem lessL_step {a b : List ByteArray} (k : Nat) (h1 : k < a.length) (h2 : k < b.length) (e : a[k] = b[k]) : lessL (a.drop k) (b.drop k) = lessL (a.drop (k + 1)) (b.drop (k + 1)) := by
  rw [List.drop_eq_getElem_cons h1, List.drop_eq_getElem_cons h2, lessL, if_pos e]
theorem lessL_at {a b : List ByteArray} (k : Nat) (h1 : k < a.length) (h2 : k < b.length) (e : ¬ a[k] = b[k]) : lessL (a.drop k) (b.drop k) = lessT a[k] b[k] := by
  rw [List.drop_eq_getElem_cons h1, List.drop_eq_getElem_cons h2, lessL, if_neg e]
theorem lessL_end {a b : List ByteArray} (k : Nat) (h : ¬ (k < a.length ∧ k < b.length)) (ha : k ≤ a.length) (hb : k ≤ b.length) : lessL (a.drop k) (b.drop k) = decide (a.length < b.length) := by
  by_cases h1 : k < a.length
  · have e : k = b.length := by omega
    subst e
    rw [List.drop_eq_getElem_cons h1, List.drop_of_length_le (Nat.le_refl _), lessL]
    have : ¬ a.length < b.length := by omega
    simp [this]
  · have e : k = a.length := by omega
    subst e
    rw [List.drop_of_length_le (Nat.le_refl _)]
    by_cases h2 : a.length < b.length
    · rw [List.drop_eq_getElem_cons h2, lessL]; simp [h2]
    · rw [List.drop_of_length_le (by omega), lessL]; simp [h2]
end Go.Proofs.YtepdfppbnepamabGreat.M
