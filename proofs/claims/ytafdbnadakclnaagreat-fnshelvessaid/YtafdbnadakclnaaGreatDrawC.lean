/-
  What stands in a walk's context and is not to be used by it.
  What is known of things, and things: no program in sight.
  Slices of what is known: what they hold, and that it stays.
  Slices of texts: what they hold, and that it stays.
  Rows of texts, none of them frozen.
  Slices of things: what they hold, and that it stays.
  Rows of things that grow.
  The numbers that a draw mixes: no program in sight but the model's own wraps and bits.
  The cursor over the bytes of a draw: what each call does to it.
  A new cursor; what is picked of a list.
  Texts that are drawn.
  The bytes of a draw, and a new cursor on them.
-/
import Derived.Below
import GoSem.Op.String
import Derived.Test.YtafdbnadakclnaaGreatRows
import Derived.WalkKit
import Derived.WalkSpells
import Derived.WalkLawsBesides
import Derived.Deep.Light
import Derived.Deep.QuietTactic
import Derived.Deep.OwnRows
import Derived.Maps.AppendAt
import Derived.Laws.BitsLemmas
import Derived.Laws.Wrap64
import Derived.BigQuiet
namespace Go.Proofs.YtafdbnadakclnaaGreat

open Go.RowKit
theorem hide {p : Prop} (h : p) : Hid p := h
end Go.Proofs.YtafdbnadakclnaaGreat
namespace Go.Proofs.YtafdbnadakclnaaGreat.M

/-- What is known: its space, its name, its value. -/
abbrev Pp := ByteArray × ByteArray × ByteArray
/-- A thing. -/
structure Rs where
  pa : List ByteArray
  co : Bool
  bo : ByteArray
  ve : Int
  ps : List Pp
deriving DecidableEq

def szP (p : Pp) : Nat := p.1.size + p.2.1.size + p.2.2.size
def sumP (ps : List Pp) : Nat := (ps.map szP).sum
theorem sumP_snoc (ps : List Pp) (k : Nat) (hk : k < ps.length) : sumP (ps.take (k + 1)) = sumP (ps.take k) + szP ps[k] := by
  unfold sumP
  rw [List.take_succ_eq_append_getElem hk, List.map_append, List.sum_append]
  simp only [List.map_cons, List.map_nil, List.sum_cons, List.sum_nil, Nat.add_zero]
theorem sumP_mem (ps : List Pp) (p : Pp) (h : p ∈ ps) : szP p ≤ sumP ps := by
  induction ps with
  | nil => cases h
  | cons x l ih =>
    simp only [sumP, List.map_cons, List.sum_cons] at *
    rcases List.mem_cons.1 h with rfl | h
    · omega
    · have := ih h; omega

def sameP (ss tt : List Pp) : Bool := decide (ss = tt)
theorem sameP_refl (ss : List Pp) : sameP ss ss = true := by simp [sameP]
theorem sameP_len {ss tt : List Pp} (h : ¬ ss.length = tt.length) : sameP ss tt = false := by
  simp only [sameP, decide_eq_false_iff_not]; intro e; exact h (by rw [e])
theorem sameP_not {ss tt : List Pp} (k : Nat) (h1 : k < ss.length) (h2 : k < tt.length) (h : ¬ ss[k] = tt[k]) : sameP ss tt = false := by
  simp only [sameP, decide_eq_false_iff_not]; intro e; subst e; exact h rfl
theorem sameP_all {ss tt : List Pp} (hl : ss.length = tt.length) (k : Nat) (hk : ¬ k < ss.length) (h : ss.take k = tt.take k) : sameP ss tt = true := by
  rw [List.take_of_length_le (by omega), List.take_of_length_le (by omega)] at h
  simp [sameP, h]
theorem take_sameP {ss tt : List Pp} (k : Nat) (h1 : k < ss.length) (h2 : k < tt.length) (h0 : ss.take k = tt.take k) (h : ss[k] = tt[k]) : ss.take (k + 1) = tt.take (k + 1) := by
  rw [List.take_succ_eq_append_getElem h1, List.take_succ_eq_append_getElem h2, h0, h]

def sumL (ss : List ByteArray) : Nat := (ss.map (·.size)).sum
def szR (r : Rs) : Nat := r.pa.length + sumL r.pa + r.bo.size + (r.ps.length + sumP r.ps)
def sumR (rs : List Rs) : Nat := (rs.map szR).sum
theorem sumR_snoc (rs : List Rs) (k : Nat) (hk : k < rs.length) : sumR (rs.take (k + 1)) = sumR (rs.take k) + szR rs[k] := by
  unfold sumR
  rw [List.take_succ_eq_append_getElem hk, List.map_append, List.sum_append]
  simp only [List.map_cons, List.map_nil, List.sum_cons, List.sum_nil, Nat.add_zero]
theorem sumR_mem (rs : List Rs) (r : Rs) (h : r ∈ rs) : szR r ≤ sumR rs := by
  induction rs with
  | nil => cases h
  | cons x l ih =>
    simp only [sumR, List.map_cons, List.sum_cons] at *
    rcases List.mem_cons.1 h with rfl | h
    · omega
    · have := ih h; omega

def sameT (ss tt : List Rs) : Bool := decide (ss = tt)
theorem sameT_refl (ss : List Rs) : sameT ss ss = true := by simp [sameT]
theorem sameT_len {ss tt : List Rs} (h : ¬ ss.length = tt.length) : sameT ss tt = false := by
  simp only [sameT, decide_eq_false_iff_not]; intro e; exact h (by rw [e])
theorem sameT_not {ss tt : List Rs} (k : Nat) (h1 : k < ss.length) (h2 : k < tt.length) (h : ¬ ss[k] = tt[k]) : sameT ss tt = false := by
  simp only [sameT, decide_eq_false_iff_not]; intro e; subst e; exact h rfl
theorem sameT_all {ss tt : List Rs} (hl : ss.length = tt.length) (k : Nat) (hk : ¬ k < ss.length) (h : ss.take k = tt.take k) : sameT ss tt = true := by
  rw [List.take_of_length_le (by omega), List.take_of_length_le (by omega)] at h
  simp [sameT, h]
theorem take_sameT {ss tt : List Rs} (k : Nat) (h1 : k < ss.length) (h2 : k < tt.length) (h0 : ss.take k = tt.take k) (h : ss[k] = tt[k]) : ss.take (k + 1) = tt.take (k + 1) := by
  rw [List.take_succ_eq_append_getElem h1, List.take_succ_eq_append_getElem h2, h0, h]
end Go.Proofs.YtafdbnadakclnaaGreat.M
namespace Go.Proofs.YtafdbnadakclnaaGreat
open Go.RowKit M

/-- One of them, at a place. -/
def PpAt (w : World) (b o : Nat) (p : Pp) : Prop := w.cell? ⟨b, o, none⟩ = some (.string p.1) ∧ w.cell? ⟨b, o + 1, none⟩ = some (.string p.2.1) ∧ w.cell? ⟨b, o + 2, none⟩ = some (.string p.2.2)
/-- What a slice of them holds, in a block below B. -/
def Pps (w : World) (B : Nat) (a : Option Addr) (ps : List Pp) : Prop :=
  0 < ps.length → ∃ b o, a = some ⟨b, o, none⟩ ∧ b < B ∧ ∀ j (hj : j < ps.length), PpAt w b (o + j * 3) ps[j]

theorem PpAt.of {w w' : World} {b o : Nat} {p : Pp} (h : PpAt w b o p) (e : ∀ o', w'.cell? ⟨b, o', none⟩ = w.cell? ⟨b, o', none⟩) : PpAt w' b o p := by
  unfold PpAt at *
  simp only [e]
  exact h
theorem Pps.of {w w' : World} {B : Nat} {a : Option Addr} {ps : List Pp} (h : Pps w B a ps) (e : ∀ b o, b < B → w'.cell? ⟨b, o, none⟩ = w.cell? ⟨b, o, none⟩) : Pps w' B a ps := fun h0 => by
  obtain ⟨b, o, ea, hb, hc⟩ := h h0
  exact ⟨b, o, ea, hb, fun j hj => (hc j hj).of (fun o' => e b o' hb)⟩
theorem Pps.below {w w' : World} {B C : Nat} {a : Option Addr} {ps : List Pp} (h : Pps w B a ps) (hb : Below C w w') (hB : B ≤ C) : Pps w' B a ps :=
  h.of (fun b o hbB => hb.cell (p := ⟨b, o, none⟩) (Nat.lt_of_lt_of_le hbB hB))
theorem Pps.mono {w : World} {B C : Nat} {a : Option Addr} {ps : List Pp} (h : Pps w B a ps) (hB : B ≤ C) : Pps w C a ps := fun h0 => by
  obtain ⟨b, o, e, hbB, hc⟩ := h h0
  exact ⟨b, o, e, Nat.lt_of_lt_of_le hbB hB, hc⟩
theorem Pps.nil (w : World) (B : Nat) (a : Option Addr) : Pps w B a [] := fun h => absurd h (Nat.lt_irrefl _)

/-- A row of them in block g, none of them frozen. -/
def RowP (w : World) (g : Nat) (ps : List Pp) : Prop := g < w.heap.size ∧ (∀ j (hj : j < ps.length), PpAt w g (j * 3) ps[j]) ∧ ∀ i, w.frozen? ⟨g, i, none⟩ = false
theorem RowP.of {w w' : World} {g : Nat} {ps : List Pp} (h : RowP w g ps) (hz : g < w'.heap.size) (e : ∀ o', w'.cell? ⟨g, o', none⟩ = w.cell? ⟨g, o', none⟩) (f : ∀ o', w'.frozen? ⟨g, o', none⟩ = w.frozen? ⟨g, o', none⟩) : RowP w' g ps :=
  ⟨hz, fun j hj => (h.2.1 j hj).of e, fun i => by rw [f]; exact h.2.2 i⟩
theorem RowP.below {w w' : World} {g : Nat} {ps : List Pp} (h : RowP w g ps) (hb : Below w.heap.size w w') : RowP w' g ps :=
  h.of (Nat.lt_of_lt_of_le h.1 hb.size) (fun o => hb.cell (p := ⟨g, o, none⟩) h.1) (fun o => hb.frozen (p := ⟨g, o, none⟩) h.1)
theorem RowP.pps {w : World} {g C : Nat} {ps : List Pp} (h : RowP w g ps) (hC : g < C) : Pps w C (some ⟨g, 0, none⟩) ps := fun _ =>
  ⟨g, 0, rfl, hC, fun j hj => by rw [Nat.zero_add]; exact h.2.1 j hj⟩

/-- All of them short enough. -/
def ShortPs (ps : List Pp) : Prop := ∀ p ∈ ps, p.1.size ≤ maxLen ∧ p.2.1.size ≤ maxLen ∧ p.2.2.size ≤ maxLen
theorem ShortPs.at {ps : List Pp} (h : ShortPs ps) (k : Nat) (hk : k < ps.length) : (ps[k]).1.size ≤ maxLen ∧ (ps[k]).2.1.size ≤ maxLen ∧ (ps[k]).2.2.size ≤ maxLen := h _ (List.getElem_mem hk)

theorem strInjP {a b : ByteArray} (h : a.toList = b.toList) : a = b := by
  rw [ByteArray.toList_eq, ByteArray.toList_eq] at h
  exact ByteArray.ext (Array.ext' h)
theorem bcellP {W w1 : World} (hb : Below W.heap.size W w1) : (∀ b o, b < W.heap.size → w1.cell? ⟨b, o, none⟩ = W.cell? ⟨b, o, none⟩) ∧ (∀ b o, b < W.heap.size → w1.frozen? ⟨b, o, none⟩ = W.frozen? ⟨b, o, none⟩) :=
  ⟨fun b o h => hb.cell (p := ⟨b, o, none⟩) h, fun b o h => hb.frozen (p := ⟨b, o, none⟩) h⟩
theorem below_drewP {C : Nat} {w w' : World} (h : Below C w w') : Below C w w'.drew := ⟨h.os, h.tape, h.output, h.size, h.block⟩

theorem info_prop : (Tryz.prog.info? 87).map (fun i => (i.zero, i.size, i.bytes)) = some (some (.agg #[.string ByteArray.empty, .string ByteArray.empty, .string ByteArray.empty]), 3, 48) := by kernel_rfl
theorem run_make_props (n : Nat) (hn : n ≤ 1048576) (w : World) :
    (Instr.makeSlice 33 (.int .i64 (n : Int)) (.int .i64 (n : Int))).run Tryz.prog w = .ok (.slice (some ⟨w.heap.size, 0, none⟩) n n) (w.alloc (.cells (madeCells #[.string ByteArray.empty, .string ByteArray.empty, .string ByteArray.empty] (n * 3)) 87)) := by
  obtain ⟨i, hi, hz, hs, hb⟩ := info_parts info_prop
  have hr := run_make (P := Tryz.prog) w 33 87 i _ Tryz.underlying33 hi hz .i64 .i64 n n (by omega) (Int.le_refl _) (by rw [hb]; omega) (by omega)
  simp only [Int.toNat_natCast, hs] at hr
  exact hr

/-- What is made so far of a row of them. -/
def MadeP (w : World) (g : Nat) (ps : List Pp) (k : Nat) : Prop := ∃ F : Nat → Value, w.rowIs g 87 (ps.length * 3) F ∧ ∀ j (hj : j < ps.length), j < k → F (j * 3) = .string ps[j].1 ∧ F (j * 3 + 1) = .string ps[j].2.1 ∧ F (j * 3 + 2) = .string ps[j].2.2
theorem MadeP.start (w : World) (ps : List Pp) : MadeP (w.alloc (.cells (madeCells #[.string ByteArray.empty, .string ByteArray.empty, .string ByteArray.empty] (ps.length * 3)) 87)) w.heap.size ps 0 := by
  have hr := World.rowIs_alloc w (madeCells #[.string ByteArray.empty, .string ByteArray.empty, .string ByteArray.empty] (ps.length * 3)) 87 (fun i => ((madeCells #[.string ByteArray.empty, .string ByteArray.empty, .string ByteArray.empty] (ps.length * 3))[i]?).getD (.string ByteArray.empty)) (fun i hi => by rw [Array.getElem?_eq_getElem hi]; rfl)
  rw [size_madeCells] at hr
  exact ⟨_, hr, fun j _ hj => absurd hj (Nat.not_lt_zero _)⟩
theorem MadeP.below {w w1 : World} {g : Nat} {ps : List Pp} {k : Nat} (m : MadeP w g ps k) (hb : Below w.heap.size w w1) : MadeP w1 g ps k := by
  obtain ⟨F, hr, hj⟩ := m
  exact ⟨F, hr.of_block (w' := w1) (hb.block _ hr.lt), hj⟩
theorem MadeP.lt {w : World} {g : Nat} {ps : List Pp} {k : Nat} (m : MadeP w g ps k) : g < w.heap.size := by obtain ⟨F, hr, _⟩ := m; exact hr.lt
theorem MadeP.cells {w : World} {g : Nat} {ps : List Pp} {k : Nat} (m : MadeP w g ps k) (hk : k < ps.length) : ∃ v0 v1 v2, w.cell? ⟨g, k * 3, none⟩ = some v0 ∧ w.cell? ⟨g, k * 3 + 1, none⟩ = some v1 ∧ w.cell? ⟨g, k * 3 + 2, none⟩ = some v2 ∧ w.frozen? ⟨g, k * 3, none⟩ = false ∧ w.frozen? ⟨g, k * 3 + 1, none⟩ = false ∧ w.frozen? ⟨g, k * 3 + 2, none⟩ = false := by
  obtain ⟨F, hr, _⟩ := m
  exact ⟨_, _, _, hr.cell (by omega), hr.cell (by omega), hr.cell (by omega), hr.frozen _, hr.frozen _, hr.frozen _⟩
theorem MadeP.next {w : World} {g : Nat} {ps : List Pp} {k : Nat} (m : MadeP w g ps k) (hk : k < ps.length) : MadeP (((w.setCell ⟨g, k * 3, none⟩ (.string ps[k].1)).setCell ⟨g, k * 3 + 1, none⟩ (.string ps[k].2.1)).setCell ⟨g, k * 3 + 2, none⟩ (.string ps[k].2.2)) g ps (k + 1) := by
  obtain ⟨F, hr, hj⟩ := m
  refine ⟨_, ((hr.set (k * 3) (.string ps[k].1)).set (k * 3 + 1) (.string ps[k].2.1)).set (k * 3 + 2) (.string ps[k].2.2), fun j hjl hjk => ?_⟩
  by_cases e : j = k
  · subst e
    refine ⟨?_, ?_, ?_⟩ <;> simp
  · obtain ⟨e0, e1, e2⟩ := hj j hjl (by omega)
    refine ⟨?_, ?_, ?_⟩
    · simp only [show ¬ j * 3 = k * 3 + 2 by omega, show ¬ j * 3 = k * 3 + 1 by omega, show ¬ j * 3 = k * 3 by omega, if_false]; exact e0
    · simp only [show ¬ j * 3 + 1 = k * 3 + 2 by omega, show ¬ j * 3 + 1 = k * 3 + 1 by omega, show ¬ j * 3 + 1 = k * 3 by omega, if_false]; exact e1
    · simp only [show ¬ j * 3 + 2 = k * 3 + 2 by omega, show ¬ j * 3 + 2 = k * 3 + 1 by omega, show ¬ j * 3 + 2 = k * 3 by omega, if_false]; exact e2
theorem MadeP.done {w : World} {g : Nat} {ps : List Pp} {k : Nat} (m : MadeP w g ps k) (hk : ¬ k < ps.length) : RowP w g ps := by
  obtain ⟨F, hr, hj⟩ := m
  refine ⟨hr.lt, fun j hjl => ?_, fun i => hr.frozen i⟩
  obtain ⟨e0, e1, e2⟩ := hj j hjl (by omega)
  exact ⟨by rw [hr.cell (by omega), e0], by rw [hr.cell (by omega), e1], by rw [hr.cell (by omega), e2]⟩
end Go.Proofs.YtafdbnadakclnaaGreat
namespace Go.Proofs.YtafdbnadakclnaaGreat
open Go.RowKit

/-- The texts that a slice holds, in a block below B. -/
def Strs (w : World) (B : Nat) (a : Option Addr) (ss : List ByteArray) : Prop :=
  0 < ss.length → ∃ b o, a = some ⟨b, o, none⟩ ∧ b < B ∧ ∀ j (hj : j < ss.length), w.cell? ⟨b, o + j, none⟩ = some (.string ss[j])

theorem Strs.below {w w' : World} {B C : Nat} {a : Option Addr} {ss : List ByteArray} (h : Strs w B a ss) (hb : Below C w w') (hB : B ≤ C) : Strs w' B a ss := fun h0 => by
  obtain ⟨b, o, e, hbB, hc⟩ := h h0
  exact ⟨b, o, e, hbB, fun j hj => (hb.cell (p := ⟨b, o + j, none⟩) (Nat.lt_of_lt_of_le hbB hB)).trans (hc j hj)⟩

theorem Strs.mono {w : World} {B C : Nat} {a : Option Addr} {ss : List ByteArray} (h : Strs w B a ss) (hB : B ≤ C) : Strs w C a ss := fun h0 => by
  obtain ⟨b, o, e, hbB, hc⟩ := h h0
  exact ⟨b, o, e, Nat.lt_of_lt_of_le hbB hB, hc⟩

theorem Strs.take {w : World} {B : Nat} {a : Option Addr} {ss : List ByteArray} (h : Strs w B a ss) (k : Nat) : Strs w B a (ss.take k) := fun h0 => by
  have hl : (ss.take k).length ≤ ss.length := by rw [List.length_take]; omega
  obtain ⟨b, o, e, hbB, hc⟩ := h (by omega)
  exact ⟨b, o, e, hbB, fun j hj => by rw [hc j (by omega), List.getElem_take]⟩

theorem info_str : (Tryz.prog.info? 9).map (fun i => (i.zero, i.size, i.bytes)) = some (some (.string ByteArray.empty), 1, 16) := by kernel_rfl

/-- A row of texts that the call made, as a slice. -/
theorem Strs.row {w : World} {N n C : Nat} {ss : List ByteArray} {f : Nat → Value} (h : w.rowIs N 9 n f) (hn : ss.length ≤ n) (hf : ∀ j (hj : j < ss.length), f j = .string ss[j]) (hN : N < C) : Strs w C (some ⟨N, 0, none⟩) ss := fun _ =>
  ⟨N, 0, rfl, hN, fun j hj => by rw [Nat.zero_add, h.cell (by omega), hf j hj]⟩

/-- All of them short enough. -/
def Short (ss : List ByteArray) : Prop := ∀ s ∈ ss, s.size ≤ maxLen
theorem Short.at {ss : List ByteArray} (h : Short ss) (k : Nat) (hk : k < ss.length) : (ss[k]).size ≤ maxLen := h _ (List.getElem_mem hk)

def sumS (ss : List ByteArray) : Nat := (ss.map (·.size)).sum
theorem sumS_snoc (ss : List ByteArray) (k : Nat) (hk : k < ss.length) : sumS (ss.take (k + 1)) = sumS (ss.take k) + (ss[k]).size := by
  unfold sumS
  rw [List.take_succ_eq_append_getElem hk, List.map_append, List.sum_append]
  simp only [List.map_cons, List.map_nil, List.sum_cons, List.sum_nil, Nat.add_zero]
theorem sumS_all (ss : List ByteArray) (k : Nat) (hk : ¬ k < ss.length) : ss.take k = ss := List.take_of_length_le (by omega)
theorem sumS_mem (ss : List ByteArray) (s : ByteArray) (h : s ∈ ss) : s.size ≤ sumS ss := by
  induction ss with
  | nil => cases h
  | cons x l ih =>
    simp only [sumS, List.map_cons, List.sum_cons] at *
    rcases List.mem_cons.1 h with rfl | h
    · omega
    · have := ih h; omega

theorem str_inj {a b : ByteArray} (h : a.toList = b.toList) : a = b := by
  rw [ByteArray.toList_eq, ByteArray.toList_eq] at h
  exact ByteArray.ext (Array.ext' h)

/-- Whether two lists of texts are the same. -/
def sameL (ss tt : List ByteArray) : Bool := decide (ss = tt)
theorem sameL_refl (ss : List ByteArray) : sameL ss ss = true := by simp [sameL]
theorem sameL_len {ss tt : List ByteArray} (h : ¬ ss.length = tt.length) : sameL ss tt = false := by
  simp only [sameL, decide_eq_false_iff_not]; intro e; exact h (by rw [e])
theorem sameL_not {ss tt : List ByteArray} (k : Nat) (h1 : k < ss.length) (h2 : k < tt.length) (h : ¬ ss[k] = tt[k]) : sameL ss tt = false := by
  simp only [sameL, decide_eq_false_iff_not]; intro e; subst e; exact h rfl
theorem sameL_all {ss tt : List ByteArray} (hl : ss.length = tt.length) (k : Nat) (hk : ¬ k < ss.length) (h : ss.take k = tt.take k) : sameL ss tt = true := by
  rw [List.take_of_length_le (by omega), List.take_of_length_le (by omega)] at h
  simp [sameL, h]
theorem take_same {ss tt : List ByteArray} (k : Nat) (h1 : k < ss.length) (h2 : k < tt.length) (h0 : ss.take k = tt.take k) (h : ss[k] = tt[k]) : ss.take (k + 1) = tt.take (k + 1) := by
  rw [List.take_succ_eq_append_getElem h1, List.take_succ_eq_append_getElem h2, h0, h]
end Go.Proofs.YtafdbnadakclnaaGreat
namespace Go.Proofs.YtafdbnadakclnaaGreat
open Go.RowKit
set_option linter.unusedVariables false

/-- A row of n texts in block g, none of them frozen. -/
def RowS (w : World) (g : Nat) (ms : List ByteArray) : Prop := g < w.heap.size ∧ ∀ j (hj : j < ms.length), w.cell? ⟨g, j, none⟩ = some (.string ms[j]) ∧ w.frozen? ⟨g, j, none⟩ = false
theorem RowS.below {w w' : World} {g : Nat} {ms : List ByteArray} (h : RowS w g ms) (hb : Below w.heap.size w w') : RowS w' g ms := by
  refine ⟨Nat.lt_of_lt_of_le h.1 hb.size, fun j hj => ?_⟩
  rw [hb.cell (p := ⟨g, j, none⟩) h.1, hb.frozen (p := ⟨g, j, none⟩) h.1]
  exact h.2 j hj
theorem RowS.set {w : World} {g : Nat} {ms : List ByteArray} (h : RowS w g ms) (k : Nat) (hk : k < ms.length) (x : ByteArray) : RowS (w.setCell ⟨g, k, none⟩ (.string x)) g (ms.set k x) := by
  refine ⟨by simpa using h.1, fun j hj => ?_⟩
  have hj' : j < ms.length := by simpa using hj
  refine ⟨?_, by rw [World.frozen?_setCell]; exact (h.2 j hj').2⟩
  by_cases e : k = j
  · subst e
    rw [World.cell?_setCell_same _ _ _ (h.2 k hk).1]
    simp
  · have hne : (⟨g, k, none⟩ : Addr) ≠ ⟨g, j, none⟩ := fun e' => e (congrArg Addr.off e')
    rw [World.cell?_setCell_other _ _ _ _ hne, (h.2 j hj').1]
    simp [e]

theorem RowS.row {w : World} {N n : Nat} {ss : List ByteArray} {f : Nat → Value} (h : w.rowIs N 9 n f) (hn : ss.length ≤ n) (hf : ∀ j (hj : j < ss.length), f j = .string ss[j]) : RowS w N ss :=
  ⟨h.lt, fun j hj => ⟨by rw [h.cell (by omega), hf j hj], h.frozen j⟩⟩
theorem RowS.strs' {w : World} {g C : Nat} {ns : List ByteArray} (h : RowS w g ns) (hC : g < C) : Strs w C (some ⟨g, 0, none⟩) ns := fun _ =>
  ⟨g, 0, rfl, hC, fun j hj => by rw [Nat.zero_add]; exact (h.2 j hj).1⟩
end Go.Proofs.YtafdbnadakclnaaGreat
namespace Go.Proofs.YtafdbnadakclnaaGreat
open Go.RowKit M
set_option linter.unusedVariables false

/-- A thing at a place: its five cells. -/
def RsAt (w : World) (b o : Nat) (r : Rs) (pa : Option Addr) (pc : Nat) (qa : Option Addr) (qc : Nat) : Prop :=
  w.cell? ⟨b, o, none⟩ = some (.slice pa r.pa.length pc) ∧ w.cell? ⟨b, o + 1, none⟩ = some (.bool r.co) ∧ w.cell? ⟨b, o + 2, none⟩ = some (.string r.bo) ∧ w.cell? ⟨b, o + 3, none⟩ = some (.int .i64 r.ve) ∧ w.cell? ⟨b, o + 4, none⟩ = some (.slice qa r.ps.length qc)
/-- What its two slices hold, in blocks below B. -/
structure RsIn (w : World) (B : Nat) (r : Rs) (pa : Option Addr) (pc : Nat) (qa : Option Addr) (qc : Nat) : Prop where
  ph : Strs w B pa r.pa
  qh : Pps w B qa r.ps
  pl : r.pa.length ≤ pc
  ql : r.ps.length ≤ qc
  pm : pc ≤ maxLen
  qm : qc ≤ maxLen
  pn : pa = none → pc = 0
  qn : qa = none → qc = 0
/-- What a slice of things holds, in blocks below B. -/
def Rss (w : World) (B : Nat) (a : Option Addr) (rs : List Rs) : Prop :=
  0 < rs.length → ∃ b o, a = some ⟨b, o, none⟩ ∧ b < B ∧ ∀ j (hj : j < rs.length), ∃ pa pc qa qc, RsAt w b (o + j * 5) rs[j] pa pc qa qc ∧ RsIn w B rs[j] pa pc qa qc

theorem RsAt.of {w w' : World} {b o : Nat} {r : Rs} {pa : Option Addr} {pc : Nat} {qa : Option Addr} {qc : Nat} (h : RsAt w b o r pa pc qa qc) (e : ∀ o', w'.cell? ⟨b, o', none⟩ = w.cell? ⟨b, o', none⟩) : RsAt w' b o r pa pc qa qc := by
  unfold RsAt at *
  simp only [e]
  exact h
theorem Strs.of {w w' : World} {B : Nat} {a : Option Addr} {ss : List ByteArray} (h : Strs w B a ss) (e : ∀ b o, b < B → w'.cell? ⟨b, o, none⟩ = w.cell? ⟨b, o, none⟩) : Strs w' B a ss := fun h0 => by
  obtain ⟨b, o, ea, hb, hc⟩ := h h0
  exact ⟨b, o, ea, hb, fun j hj => (e b _ hb).trans (hc j hj)⟩
theorem RsIn.of {w w' : World} {B : Nat} {r : Rs} {pa : Option Addr} {pc : Nat} {qa : Option Addr} {qc : Nat} (h : RsIn w B r pa pc qa qc) (e : ∀ b o, b < B → w'.cell? ⟨b, o, none⟩ = w.cell? ⟨b, o, none⟩) : RsIn w' B r pa pc qa qc :=
  ⟨h.ph.of e, h.qh.of e, h.pl, h.ql, h.pm, h.qm, h.pn, h.qn⟩
theorem RsIn.mono {w : World} {B C : Nat} {r : Rs} {pa : Option Addr} {pc : Nat} {qa : Option Addr} {qc : Nat} (h : RsIn w B r pa pc qa qc) (hB : B ≤ C) : RsIn w C r pa pc qa qc :=
  ⟨h.ph.mono hB, h.qh.mono hB, h.pl, h.ql, h.pm, h.qm, h.pn, h.qn⟩
theorem RsIn.below {w w' : World} {B C : Nat} {r : Rs} {pa : Option Addr} {pc : Nat} {qa : Option Addr} {qc : Nat} (h : RsIn w B r pa pc qa qc) (hb : Below C w w') (hB : B ≤ C) : RsIn w' B r pa pc qa qc :=
  h.of (fun b o hbB => hb.cell (p := ⟨b, o, none⟩) (Nat.lt_of_lt_of_le hbB hB))
theorem Rss.of {w w' : World} {B : Nat} {a : Option Addr} {rs : List Rs} (h : Rss w B a rs) (e : ∀ b o, b < B → w'.cell? ⟨b, o, none⟩ = w.cell? ⟨b, o, none⟩) : Rss w' B a rs := fun h0 => by
  obtain ⟨b, o, ea, hb, hc⟩ := h h0
  refine ⟨b, o, ea, hb, fun j hj => ?_⟩
  obtain ⟨pa, pc, qa, qc, h1, h2⟩ := hc j hj
  exact ⟨pa, pc, qa, qc, h1.of (fun o' => e b o' hb), h2.of e⟩
theorem Rss.below {w w' : World} {B C : Nat} {a : Option Addr} {rs : List Rs} (h : Rss w B a rs) (hb : Below C w w') (hB : B ≤ C) : Rss w' B a rs :=
  h.of (fun b o hbB => hb.cell (p := ⟨b, o, none⟩) (Nat.lt_of_lt_of_le hbB hB))
theorem Rss.mono {w : World} {B C : Nat} {a : Option Addr} {rs : List Rs} (h : Rss w B a rs) (hB : B ≤ C) : Rss w C a rs := fun h0 => by
  obtain ⟨b, o, e, hbB, hc⟩ := h h0
  refine ⟨b, o, e, Nat.lt_of_lt_of_le hbB hB, fun j hj => ?_⟩
  obtain ⟨pa, pc, qa, qc, h1, h2⟩ := hc j hj
  exact ⟨pa, pc, qa, qc, h1, h2.mono hB⟩
theorem Rss.nil (w : World) (B : Nat) (a : Option Addr) : Rss w B a [] := fun h => absurd h (Nat.lt_irrefl _)
theorem Rss.drew {w : World} {B : Nat} {a : Option Addr} {rs : List Rs} (h : Rss w B a rs) : Rss w.drew B a rs := h.of (fun _ _ _ => rfl)
theorem Pps.drew {w : World} {B : Nat} {a : Option Addr} {ps : List Pp} (h : Pps w B a ps) : Pps w.drew B a ps := h.of (fun _ _ _ => rfl)
theorem Strs.drew {w : World} {B : Nat} {a : Option Addr} {ss : List ByteArray} (h : Strs w B a ss) : Strs w.drew B a ss := h.of (fun _ _ _ => rfl)
theorem RsIn.drew {w : World} {B : Nat} {r : Rs} {pa : Option Addr} {pc : Nat} {qa : Option Addr} {qc : Nat} (h : RsIn w B r pa pc qa qc) : RsIn w.drew B r pa pc qa qc := h.of (fun _ _ _ => rfl)

/-- All its parts short enough. -/
structure ShortRs (r : Rs) : Prop where
  pl : r.pa.length ≤ maxLen
  ps : Short r.pa
  bo : r.bo.size ≤ maxLen
  ql : r.ps.length ≤ maxLen
  qs : ShortPs r.ps
def ShortT (rs : List Rs) : Prop := ∀ r ∈ rs, ShortRs r
theorem ShortT.at {rs : List Rs} (h : ShortT rs) (k : Nat) (hk : k < rs.length) : ShortRs rs[k] := h _ (List.getElem_mem hk)

/-- The value of a thing. -/
def rsV (r : Rs) (pa : Option Addr) (pc : Nat) (qa : Option Addr) (qc : Nat) : Value := .agg #[.slice pa r.pa.length pc, .bool r.co, .string r.bo, .int .i64 r.ve, .slice qa r.ps.length qc]

theorem RowS.setCell {w : World} {g : Nat} {ms : List ByteArray} (h : RowS w g ms) (p : Addr) (v : Value) (hp : p.block ≠ g) : RowS (w.setCell p v) g ms := by
  refine ⟨by simpa using h.1, fun j hj => ⟨?_, ?_⟩⟩
  · rw [World.cell?_setCell_other _ _ _ _ (fun e => hp (congrArg Addr.block e))]; exact (h.2 j hj).1
  · rw [World.frozen?_setCell]; exact (h.2 j hj).2
theorem RowP.setCell {w : World} {g : Nat} {ps : List Pp} (h : RowP w g ps) (p : Addr) (v : Value) (hp : p.block ≠ g) : RowP (w.setCell p v) g ps :=
  h.of (by simpa using h.1) (fun o => World.cell?_setCell_other _ _ _ _ (fun e => hp (congrArg Addr.block e))) (fun o => World.frozen?_setCell _ _ _ _)

/-- A row of things that one call made: each slice in a block of its own; all from lo on and below hi. -/
structure OwnR (w : World) (lo hi g : Nat) (rs : List Rs) (pb qb : Nat → Nat) : Prop where
  gl : lo ≤ g
  gh : g < hi
  gs : g < w.heap.size
  fz : ∀ i, w.frozen? ⟨g, i, none⟩ = false
  cl : ∀ j (hj : j < rs.length), RsAt w g (j * 5) rs[j] (some ⟨pb j, 0, none⟩) rs[j].pa.length (some ⟨qb j, 0, none⟩) rs[j].ps.length
  rp : ∀ j (hj : j < rs.length), RowS w (pb j) rs[j].pa
  rq : ∀ j (hj : j < rs.length), RowP w (qb j) rs[j].ps
  bnd : ∀ j, j < rs.length → lo ≤ pb j ∧ pb j < qb j ∧ qb j < hi ∧ pb j ≠ g ∧ qb j ≠ g
  ord : ∀ i j, i < j → j < rs.length → pb i ≠ pb j ∧ pb i ≠ qb j ∧ qb i ≠ pb j ∧ qb i ≠ qb j

theorem OwnR.of {w w' : World} {lo hi g : Nat} {rs : List Rs} {pb qb : Nat → Nat} (h : OwnR w lo hi g rs pb qb) (hz : w.heap.size ≤ w'.heap.size) (e : ∀ b o, lo ≤ b → b < hi → b < w.heap.size → w'.cell? ⟨b, o, none⟩ = w.cell? ⟨b, o, none⟩) (f : ∀ b o, lo ≤ b → b < hi → b < w.heap.size → w'.frozen? ⟨b, o, none⟩ = w.frozen? ⟨b, o, none⟩) : OwnR w' lo hi g rs pb qb := by
  refine ⟨h.gl, h.gh, Nat.lt_of_lt_of_le h.gs hz, fun i => by rw [f g i h.gl h.gh h.gs]; exact h.fz i, fun j hj => (h.cl j hj).of (fun o' => e g o' h.gl h.gh h.gs), fun j hj => ?_, fun j hj => ?_, h.bnd, h.ord⟩
  · obtain ⟨b1, b2, b3, _, _⟩ := h.bnd j hj
    have hp := (h.rp j hj).1
    refine ⟨Nat.lt_of_lt_of_le hp hz, fun i hi => ?_⟩
    rw [e _ _ b1 (by omega) hp, f _ _ b1 (by omega) hp]
    exact (h.rp j hj).2 i hi
  · obtain ⟨b1, b2, b3, _, _⟩ := h.bnd j hj
    have hp := (h.rq j hj).1
    exact (h.rq j hj).of (Nat.lt_of_lt_of_le hp hz) (fun o => e _ o (by omega) b3 hp) (fun o => f _ o (by omega) b3 hp)
theorem OwnR.below {w w' : World} {lo hi g : Nat} {rs : List Rs} {pb qb : Nat → Nat} (h : OwnR w lo hi g rs pb qb) (hb : Below w.heap.size w w') : OwnR w' lo hi g rs pb qb :=
  h.of hb.size (fun b o _ _ hz => hb.cell (p := ⟨b, o, none⟩) hz) (fun b o _ _ hz => hb.frozen (p := ⟨b, o, none⟩) hz)
theorem OwnR.rss {w : World} {lo hi g C : Nat} {rs : List Rs} {pb qb : Nat → Nat} (h : OwnR w lo hi g rs pb qb) (hs : ∀ r ∈ rs, r.pa.length ≤ maxLen ∧ r.ps.length ≤ maxLen) (hC : hi ≤ C) : Rss w C (some ⟨g, 0, none⟩) rs := fun _ => by
  refine ⟨g, 0, rfl, Nat.lt_of_lt_of_le h.gh hC, fun j hj => ⟨_, _, _, _, by rw [Nat.zero_add]; exact h.cl j hj, ?_⟩⟩
  obtain ⟨b1, b2, b3, _, _⟩ := h.bnd j hj
  have := hs _ (List.getElem_mem hj)
  exact ⟨(h.rp j hj).strs' (by omega), (h.rq j hj).pps (by omega), Nat.le_refl _, Nat.le_refl _, this.1, this.2, (fun e => by cases e), (fun e => by cases e)⟩
theorem OwnR.nil (w : World) (lo hi g : Nat) (hl : lo ≤ g) (hh : g < hi) (hs : g < w.heap.size) (fz : ∀ i, w.frozen? ⟨g, i, none⟩ = false) : OwnR w lo hi g [] (fun _ => 0) (fun _ => 0) :=
  ⟨hl, hh, hs, fz, fun j hj => absurd hj (Nat.not_lt_zero _), fun j hj => absurd hj (Nat.not_lt_zero _), fun j hj => absurd hj (Nat.not_lt_zero _), fun j hj => absurd hj (Nat.not_lt_zero _), fun i j _ hj => absurd hj (Nat.not_lt_zero _)⟩

theorem info_res : (Tryz.prog.info? 35).map (fun i => (i.zero, i.size, i.bytes)) = some (some (.agg #[.slice none 0 0, .bool false, .string ByteArray.empty, .int .i64 0, .slice none 0 0]), 5, 80) := by kernel_rfl
end Go.Proofs.YtafdbnadakclnaaGreat
namespace Go.Proofs.YtafdbnadakclnaaGreat
open Go.RowKit M
set_option linter.unusedVariables false

/-- One thing of a growing row: its parts, the blocks of its two lists, their room. -/
structure RsT where
  r : Rs
  p : Nat
  pc : Nat
  q : Nat
  qc : Nat
def rsCells1 (t : RsT) : List Value := [.slice (some ⟨t.p, 0, none⟩) t.r.pa.length t.pc, .bool t.r.co, .string t.r.bo, .int .i64 t.r.ve, .slice (some ⟨t.q, 0, none⟩) t.r.ps.length t.qc]
def rsCells (ts : List RsT) : List Value := ts.flatMap rsCells1
theorem rsCells_length (ts : List RsT) : (rsCells ts).length = ts.length * 5 := by
  induction ts with
  | nil => rfl
  | cons t l ih => simp only [rsCells, List.flatMap_cons, List.length_append, List.length_cons] at *; rw [ih]; simp only [rsCells1, List.length_cons, List.length_nil]; omega
theorem rsCells_at (ts : List RsT) : ∀ j (hj : j < ts.length), (rsCells ts)[j * 5]? = some (.slice (some ⟨ts[j].p, 0, none⟩) ts[j].r.pa.length ts[j].pc) ∧ (rsCells ts)[j * 5 + 1]? = some (.bool ts[j].r.co) ∧ (rsCells ts)[j * 5 + 2]? = some (.string ts[j].r.bo) ∧ (rsCells ts)[j * 5 + 3]? = some (.int .i64 ts[j].r.ve) ∧ (rsCells ts)[j * 5 + 4]? = some (.slice (some ⟨ts[j].q, 0, none⟩) ts[j].r.ps.length ts[j].qc) := by
  induction ts with
  | nil => intro j hj; exact absurd hj (Nat.not_lt_zero _)
  | cons t l ih =>
    intro j hj
    have e : rsCells (t :: l) = rsCells1 t ++ rsCells l := by simp [rsCells]
    rw [e]
    match j, hj with
    | 0, _ => simp [rsCells1]
    | j + 1, hj =>
      have h1 := ih j (by simpa using hj)
      have hl : (rsCells1 t).length = 5 := rfl
      rw [List.getElem?_append_right (by rw [hl]; omega), List.getElem?_append_right (by rw [hl]; omega), List.getElem?_append_right (by rw [hl]; omega), List.getElem?_append_right (by rw [hl]; omega), List.getElem?_append_right (by rw [hl]; omega), hl]
      rw [show (j + 1) * 5 - 5 = j * 5 by omega, show (j + 1) * 5 + 1 - 5 = j * 5 + 1 by omega, show (j + 1) * 5 + 2 - 5 = j * 5 + 2 by omega, show (j + 1) * 5 + 3 - 5 = j * 5 + 3 by omega, show (j + 1) * 5 + 4 - 5 = j * 5 + 4 by omega]
      simpa using h1

/-- A growing row: it is the call's own from B on, and so are its lists. -/
structure GrowR (w : World) (B : Nat) (v : Value) (ts : List RsT) (lo : Nat) : Prop where
  own : w.ownsRow B 35 5 v ts.length (rsCells ts)
  blk : ∃ g cap, v = .slice (some ⟨g, 0, none⟩) ts.length cap ∧ g < lo
  top : lo ≤ w.heap.size
  el : ∀ j (hj : j < ts.length), B ≤ ts[j].p ∧ ts[j].p < ts[j].q ∧ ts[j].q < lo ∧ RowS w ts[j].p ts[j].r.pa ∧ RowP w ts[j].q ts[j].r.ps ∧ some ts[j].p ≠ v.ownBlock ∧ some ts[j].q ≠ v.ownBlock
  ord : ∀ i j (hij : i < j) (hj : j < ts.length), (ts[i]'(by omega)).q < ts[j].p
  caps : ∀ j (hj : j < ts.length), ts[j].r.pa.length ≤ ts[j].pc ∧ ts[j].pc ≤ maxLen ∧ ts[j].r.ps.length ≤ ts[j].qc ∧ ts[j].qc ≤ maxLen

theorem GrowR.made (w : World) (B : Nat) (hB : B ≤ w.heap.size) : GrowR (w.alloc (Obj.cells #[] 35)) B (.slice (some ⟨w.heap.size, 0, none⟩) 0 0) [] (w.heap.size + 1) :=
  ⟨⟨rfl, .inr ⟨w.heap.size, 0, #[], rfl, hB, heap_alloc_new w _, Nat.le_refl _, Nat.zero_le _, rfl, rfl⟩⟩, ⟨_, _, rfl, Nat.lt_succ_self _⟩, by simp, fun j hj => absurd hj (Nat.not_lt_zero _), fun i j _ hj => absurd hj (Nat.not_lt_zero _), fun j hj => absurd hj (Nat.not_lt_zero _)⟩
theorem GrowR.next {w w' : World} {B lo : Nat} {v : Value} {ts : List RsT} (g : GrowR w B v ts lo) (hb : Below w.heap.size w w') : GrowR w' B v ts lo := by
  refine ⟨⟨g.own.1, ?_⟩, g.blk, Nat.le_trans g.top hb.size, fun j hj => ?_, g.ord, g.caps⟩
  · rcases g.own.2 with h | ⟨g, cap, cur, e, hB, hh, hr⟩
    · exact .inl h
    · exact .inr ⟨g, cap, cur, e, hB, (hb.block g (Array.getElem?_eq_some_iff.1 hh).1).trans hh, hr⟩
  · obtain ⟨h1, h2, h3, h4, h5, h6⟩ := g.el j hj
    exact ⟨h1, h2, h3, h4.below hb, h5.below hb, h6⟩
theorem rowsR_frozen {w : World} {g : Nat} {cur : Array Value} {e : TypeId} (hh : w.heap[g]? = some (.cells cur e (0, 0))) (i : Nat) : w.frozen? ⟨g, i, none⟩ = false := by
  simp only [World.frozen?, hh, Bool.and_eq_false_iff, decide_eq_false_iff_not]
  right
  omega
theorem GrowR.at {w : World} {B lo : Nat} {v : Value} {ts : List RsT} (g : GrowR w B v ts lo) {b cap : Nat} (hv : v = .slice (some ⟨b, 0, none⟩) ts.length cap) (j : Nat) (hj : j < ts.length) : RsAt w b (j * 5) ts[j].r (some ⟨ts[j].p, 0, none⟩) ts[j].pc (some ⟨ts[j].q, 0, none⟩) ts[j].qc := by
  subst hv
  obtain ⟨c0, c1, c2, c3, c4⟩ := rsCells_at ts j hj
  have hown := g.own
  refine ⟨?_, ?_, ?_, ?_, ?_⟩
  · rw [hown.cellAt (j * 5) (by omega)]; exact c0
  · rw [hown.cellAt (j * 5 + 1) (by omega)]; exact c1
  · rw [hown.cellAt (j * 5 + 2) (by omega)]; exact c2
  · rw [hown.cellAt (j * 5 + 3) (by omega)]; exact c3
  · rw [hown.cellAt (j * 5 + 4) (by omega)]; exact c4
/-- What was made, as a slice. -/
theorem GrowR.rss {w : World} {B lo C : Nat} {v : Value} {ts : List RsT} (g : GrowR w B v ts lo) (hC : w.heap.size ≤ C) : ∃ b cap, v = .slice (some ⟨b, 0, none⟩) ts.length cap ∧ Rss w C (some ⟨b, 0, none⟩) (ts.map (·.r)) := by
  obtain ⟨b, cap, hv, hb⟩ := g.blk
  have ht := g.top
  refine ⟨b, cap, hv, fun _ => ⟨b, 0, rfl, by omega, fun j hj => ?_⟩⟩
  have hj' : j < ts.length := by simpa using hj
  obtain ⟨h1, h2, h3, h4, h5, h6⟩ := g.el j hj'
  obtain ⟨k1, k2, k3, k4⟩ := g.caps j hj'
  simp only [List.getElem_map]
  exact ⟨_, _, _, _, by rw [Nat.zero_add]; exact g.at hv j hj', ⟨h4.strs' (by omega), h5.pps (by omega), k1, k3, k2, k4, (fun e => by cases e), (fun e => by cases e)⟩⟩
/-- What was made is its own, where each list has no room besides. -/
theorem GrowR.done {w : World} {B lo : Nat} {v : Value} {ts : List RsT} (g : GrowR w B v ts lo) (hc : ∀ j (hj : j < ts.length), ts[j].pc = ts[j].r.pa.length ∧ ts[j].qc = ts[j].r.ps.length) : ∃ b cap, v = .slice (some ⟨b, 0, none⟩) ts.length cap ∧ OwnR w B w.heap.size b (ts.map (·.r)) (fun j => if hj : j < ts.length then ts[j].p else 0) (fun j => if hj : j < ts.length then ts[j].q else 0) := by
  obtain ⟨b, cap, hv, hb⟩ := g.blk
  have hat := fun j hj => g.at hv j hj
  have hlt := g.own.lt b (by rw [hv]; rfl)
  have ht := g.top
  have hfz : ∀ i, w.frozen? ⟨b, i, none⟩ = false := by
    rcases g.own.2 with ⟨e, _⟩ | ⟨b', cap', cur, e, _, hh, _⟩
    · rw [hv] at e; cases e
    · rw [hv] at e; cases e; exact fun i => rowsR_frozen hh i
  refine ⟨b, cap, hv, hlt.1, hlt.2, hlt.2, hfz, fun j hj => ?_, fun j hj => ?_, fun j hj => ?_, fun j hj => ?_, fun i j hij hj => ?_⟩
  · have hj' : j < ts.length := by simpa using hj
    simp only [List.getElem_map, hj', dif_pos]
    have := hat j hj'
    rw [(hc j hj').1, (hc j hj').2] at this
    exact this
  · have hj' : j < ts.length := by simpa using hj
    simp only [List.getElem_map, hj', dif_pos]
    exact (g.el j hj').2.2.2.1
  · have hj' : j < ts.length := by simpa using hj
    simp only [List.getElem_map, hj', dif_pos]
    exact (g.el j hj').2.2.2.2.1
  · have hj' : j < ts.length := by simpa using hj
    obtain ⟨h1, h2, h3, h4, h5, h6, h7⟩ := g.el j hj'
    simp only [hj', dif_pos]
    exact ⟨h1, h2, by omega, fun e => h6 (by rw [e, hv]; rfl), fun e => h7 (by rw [e, hv]; rfl)⟩
  · have hj' : j < ts.length := by simpa using hj
    simp only [hj', show i < ts.length by omega, dif_pos]
    have o1 := g.ord i j hij hj'
    have o2 := (g.el i (by omega)).2.1
    have o3 := (g.el j hj').2.1
    exact ⟨by omega, by omega, by omega, by omega⟩

/-- 'l = append(l, x)'. -/
theorem wp_append_res {w : World} {ops : Array Oper} {rest : List Oper} {o : Oper} {a : Act} {Q : Exit → Act → World → Prop} (hgd : o.guard = none) (s x : Operand)
    (ho : o.op = .call { callee := .builtin .append, args := #[s, x], argTypes := #[24, 24] })
    (B lo : Nat) (v : Value) (ts : List RsT) (hs : a.eval s = v) (hown : GrowR w B v ts lo)
    (N : Nat) (t : RsT) (hx : a.eval x = .slice (some ⟨N, 0, none⟩) 1 1) (hc0 : RsAt w N 0 t.r (some ⟨t.p, 0, none⟩) t.pc (some ⟨t.q, 0, none⟩) t.qc)
    (hlen : ts.length + 1 ≤ 1000000000) (hBl : B ≤ lo) (hp : lo ≤ t.p) (hpq : t.p < t.q) (hr : RowS w t.p t.r.pa) (hr2 : RowP w t.q t.r.ps) (hcap : t.r.pa.length ≤ t.pc ∧ t.pc ≤ maxLen ∧ t.r.ps.length ≤ t.qc ∧ t.qc ≤ maxLen)
    (h : ∀ v' w', GrowR w' B v' (ts ++ [t]) w'.heap.size → Below B w w' → wpList Tryz.prog ops Q rest (a.put o.dst v') w') : wpList Tryz.prog ops Q (o :: rest) a w := by
  obtain ⟨i0, hi, hz0, hz1, hz2⟩ := info_parts info_res
  have hlt := World.ownsRow.lt hown.own
  obtain ⟨g0, cap0, hv0, hg0⟩ := hown.blk
  have l2 := hown.top
  refine wpList_append_own_at w hgd s x 24 ho B 35 i0 _ 5 80 Tryz.underlying24 hi hz0 hz1 hz2 rfl (by decide) v ts.length _ hs hown.own ⟨N, 0, none⟩ 1 1 (rsCells1 t) hx rfl ?_ ?_ ?_ ?_ (by omega) ?_
  · intro j u hj
    have e : ∀ k, (⟨N, 0, none⟩ : Addr).add k = ⟨N, k, none⟩ := fun k => by unfold Addr.add; split <;> simp_all
    rw [e]
    obtain ⟨c0, c1, c2, c3, c4⟩ := hc0
    simp only [Nat.zero_add] at c0 c1 c2 c3 c4
    unfold rsCells1 at hj
    match j, hj with
    | 0, hj => simp at hj; subst hj; exact c0
    | 1, hj => simp at hj; subst hj; exact c1
    | 2, hj => simp at hj; subst hj; exact c2
    | 3, hj => simp at hj; subst hj; exact c3
    | 4, hj => simp at hj; subst hj; exact c4
  · intro u hu
    simp only [rsCells1, List.mem_cons, List.not_mem_nil, or_false] at hu
    rcases hu with rfl | rfl | rfl | rfl | rfl <;> rfl
  · unfold maxLen; omega
  · omega
  · intro v' w' ho' hg _ hat
    obtain ⟨g, cap, rfl⟩ : ∃ g cap, v' = .slice (some ⟨g, 0, none⟩) (ts.length + 1) cap := by
      rcases ho'.2 with ⟨_, h0⟩ | ⟨g, cap, cur, hv, _⟩
      · omega
      · exact ⟨g, cap, hv⟩
    subst hv0
    have hat' : g = g0 ∨ g = w.heap.size := by
      rcases hat with e | e
      · exact .inl (Option.some.inj e)
      · exact .inr (Option.some.inj e)
    have hblk : ∀ b, b < w.heap.size → b ≠ g0 → w'.heap[b]? = w.heap[b]? := fun b hb hne => hg.block b hb (fun e => hne (Option.some.inj e))
    have hkS : ∀ b l, RowS w b l → b ≠ g0 → RowS w' b l := fun b l hb hne => by
      have e := hblk b hb.1 hne
      refine ⟨Nat.lt_of_lt_of_le hb.1 hg.size, fun j hj => ?_⟩
      simp only [World.cell?, World.frozen?, e]
      exact hb.2 j hj
    have hkP : ∀ b l, RowP w b l → b ≠ g0 → RowP w' b l := fun b l hb hne => by
      have e := hblk b hb.1 hne
      exact hb.of (Nat.lt_of_lt_of_le hb.1 hg.size) (fun o => by simp only [World.cell?, e]) (fun o => by simp only [World.frozen?, e])
    have hgw : g < w'.heap.size := by
      have ho2 : w'.ownsRow B 35 5 (.slice (some ⟨g, 0, none⟩) (ts.length + 1) cap) (ts.length + 1) (rsCells ts ++ rsCells1 t) := ho'
      exact (ho2.lt g rfl).2
    have hz := hg.size
    have hl' : (ts ++ [t]).length = ts.length + 1 := by simp
    refine h _ w' ⟨?_, ⟨g, cap, by rw [hl'], hgw⟩, Nat.le_refl _, fun j hj => ?_, fun i j hij hj => ?_, fun j hj => ?_⟩ ⟨hg.os, hg.tape, hg.output, hg.size, fun k hk => hg.block k (by omega) (fun e => by have := (hlt k e.symm).1; omega)⟩
    · have e : rsCells (ts ++ [t]) = rsCells ts ++ rsCells1 t := by simp [rsCells]
      rw [e, hl']
      exact ho'
    · by_cases e : j < ts.length
      · rw [List.getElem_append_left e]
        obtain ⟨h1, h2, h3, h4, h5, h6, h7⟩ := hown.el j e
        have hne : ts[j].p ≠ g0 := fun e' => h6 (by rw [e']; rfl)
        have hne2 : ts[j].q ≠ g0 := fun e' => h7 (by rw [e']; rfl)
        have := h4.1
        have := h5.1
        refine ⟨h1, h2, by omega, hkS _ _ h4 hne, hkP _ _ h5 hne2, fun e' => ?_, fun e' => ?_⟩
        · have : ts[j].p = g := Option.some.inj e'
          rcases hat' with e2 | e2 <;> omega
        · have : ts[j].q = g := Option.some.inj e'
          rcases hat' with e2 | e2 <;> omega
      · have ej : j = ts.length := by omega
        subst ej
        rw [List.getElem_append_right (Nat.le_refl _)]
        simp only [Nat.sub_self, List.getElem_cons_zero]
        have hr1 := hr.1
        have hr21 := hr2.1
        refine ⟨by omega, hpq, by omega, hkS _ _ hr (by omega), hkP _ _ hr2 (by omega), fun e' => ?_, fun e' => ?_⟩
        · have : t.p = g := Option.some.inj e'
          rcases hat' with e2 | e2 <;> omega
        · have : t.q = g := Option.some.inj e'
          rcases hat' with e2 | e2 <;> omega
    · by_cases e : j < ts.length
      · rw [List.getElem_append_left e, List.getElem_append_left (by omega)]
        exact hown.ord i j hij e
      · have ej : j = ts.length := by omega
        subst ej
        rw [List.getElem_append_right (Nat.le_refl _), List.getElem_append_left hij]
        simp only [Nat.sub_self, List.getElem_cons_zero]
        have := (hown.el i hij).2.2.1
        omega
    · by_cases e : j < ts.length
      · rw [List.getElem_append_left e]; exact hown.caps j e
      · have ej : j = ts.length := by omega
        subst ej
        rw [List.getElem_append_right (Nat.le_refl _)]
        simp only [Nat.sub_self, List.getElem_cons_zero]
        exact hcap
end Go.Proofs.YtafdbnadakclnaaGreat
namespace Go.Proofs.YtafdbnadakclnaaGreat.M
open Go Go.RowKit

theorem i64_and255 (n : Int) : bits .and .i64 n 255 = n % 256 := by
  have h8 : (BitVec.ofInt 64 255).toNat = 2 ^ 8 - 1 := by decide
  have key : (BitVec.ofInt 64 n &&& BitVec.ofInt 64 255).toNat = (n % ((2 ^ 64 : Nat) : Int)).toNat % 2 ^ 8 := by
    rw [BitVec.toNat_and, BitVec.toNat_ofInt, h8, Nat.and_two_pow_sub_one_eq_mod]
  show IntKind.i64.wrap ((BitVec.ofInt 64 n &&& BitVec.ofInt 64 255).toNat : Nat) = n % 256
  rw [key, IntKind.wrap_i64]
  omega

theorem i64_and30 (n : Int) : bits .and .i64 n 1073741823 = n % 1073741824 := by
  have h30 : (BitVec.ofInt 64 1073741823).toNat = 2 ^ 30 - 1 := by decide
  have key : (BitVec.ofInt 64 n &&& BitVec.ofInt 64 1073741823).toNat = (n % ((2 ^ 64 : Nat) : Int)).toNat % 2 ^ 30 := by
    rw [BitVec.toNat_and, BitVec.toNat_ofInt, h30, Nat.and_two_pow_sub_one_eq_mod]
  show IntKind.i64.wrap ((BitVec.ofInt 64 n &&& BitVec.ofInt 64 1073741823).toNat : Nat) = n % 1073741824
  rw [key, IntKind.wrap_i64]
  omega

/-- The next number mixed. -/
def hNext (h : Int) : Int := wrap64 (wrap64 (h * 6364136223846793005) + 1442695040888963407)
/-- The byte that follows from it. -/
def xMix (h : Int) : Int := bits .xor .i64 (hNext h / 8589934592) (hNext h / 140737488355328) % 256
theorem xMix_bd (h : Int) : 0 ≤ xMix h ∧ xMix h ≤ 255 := by unfold xMix; omega

/-- What a draw's byte is, of the bytes zs (the first len of them), the place and the number mixed; and the place behind it. -/
def xByte (zs : List Int) (len : Nat) (i : Nat) (h : Int) : Int := if i < len then (xMix h + zs.getD i 0) % 256 else xMix h
def iNext (len i : Nat) : Nat := if i < len then i + 1 else i
theorem xByte_bd (zs : List Int) (len i : Nat) (h : Int) : 0 ≤ xByte zs len i h ∧ xByte zs len i h ≤ 255 := by
  have := xMix_bd h
  unfold xByte
  split <;> omega
theorem iNext_le {len i : Nat} (h : i ≤ len) : iNext len i ≤ len := by unfold iNext; split <;> omega

/-- The cursor's state: the place and the number mixed. -/
structure St where
  i : Nat
  h : Int

def next (len : Nat) (c : St) : St := ⟨iNext len c.i, hNext c.h⟩

/-- What l1Below draws (n above 0), and the state behind it. -/
def belowV (zs : List Int) (len : Nat) (c : St) (n : Int) : Int :=
  if n ≤ 256 then xByte zs len c.i c.h % n
  else (xByte zs len c.i c.h * 65536 + xByte zs len (next len c).i (next len c).h * 256 + xByte zs len (next len (next len c)).i (next len (next len c)).h) % n
def belowS (len : Nat) (c : St) (n : Int) : St := if n ≤ 256 then next len c else next len (next len (next len c))

theorem belowV_bd (zs : List Int) (len : Nat) (c : St) (n : Int) (hn : 0 < n) : 0 ≤ belowV zs len c n ∧ belowV zs len c n < n := by
  unfold belowV
  split
  · exact ⟨Int.emod_nonneg _ (by omega), Int.emod_lt_of_pos _ hn⟩
  · exact ⟨Int.emod_nonneg _ (by omega), Int.emod_lt_of_pos _ hn⟩

theorem next_le {len : Nat} {c : St} (h : c.i ≤ len) : (next len c).i ≤ len := iNext_le h
theorem belowS_le {len : Nat} {c : St} {n : Int} (h : c.i ≤ len) : (belowS len c n).i ≤ len := by
  unfold belowS
  split
  · exact next_le h
  · exact next_le (next_le (next_le h))

/-- The first state. -/
def mixF (h : Int) (l : List Int) : Int := l.foldl (fun h z => (h * 137 + z + 11) % 1073741824) h
def newS (zs : List Int) (len : Nat) : St := ⟨0, mixF (774774 + (len : Int)) ((zs.take len).take 4000)⟩

theorem mixF_snoc (h : Int) (l : List Int) (z : Int) : mixF h (l ++ [z]) = (mixF h l * 137 + z + 11) % 1073741824 := by simp [mixF]
theorem mixF_bd (h : Int) (l : List Int) (h0 : 0 ≤ h) (h1 : h < 1073741824) : 0 ≤ mixF h l ∧ mixF h l < 1073741824 := by
  induction l generalizing h with
  | nil => exact ⟨h0, h1⟩
  | cons z r ih => exact ih _ (Int.emod_nonneg _ (by omega)) (Int.emod_lt_of_pos _ (by omega))
theorem take_snocZ (zs : List Int) (k : Nat) (h : k < zs.length) : zs.take (k + 1) = zs.take k ++ [zs.getD k 0] := by
  rw [List.take_succ_eq_append_getElem h]
  simp [List.getD_eq_getElem?_getD, List.getElem?_eq_getElem h]

/-- What l1Int and l1Str pick of a list of n. -/
def pick (zs : List Int) (len : Nat) (c : St) (n : Nat) : Nat := (belowV zs len c n).toNat
theorem pick_lt (zs : List Int) (len : Nat) (c : St) (n : Nat) (h : 0 < n) : pick zs len c n < n := by
  have := belowV_bd zs len c n (by omega)
  unfold pick
  omega

end Go.Proofs.YtafdbnadakclnaaGreat.M
namespace Go.Proofs.YtafdbnadakclnaaGreat
open Go.RowKit M

/-- The bytes of a draw, in memory: the first len of zs. -/
structure CodeAt (w : World) (a : Option Addr) (len : Nat) (zs : List Int) : Prop where
  le : len ≤ zs.length
  bd : ∀ j, j < len → 0 ≤ zs.getD j 0 ∧ zs.getD j 0 ≤ 255
  at0 : 0 < len → ∃ b off, a = some ⟨b, off, none⟩ ∧ ∀ j, j < len → w.cell? ⟨b, off + j, none⟩ = some (.int .u8 (zs.getD j 0))

/-- A cursor in block N: the bytes, the place, the number mixed. -/
structure Cur (w : World) (N : Nat) (sl : Value) (c : St) : Prop where
  c0 : w.cell? ⟨N, 0, none⟩ = some sl
  c1 : w.cell? ⟨N, 1, none⟩ = some (.int .i64 c.i)
  c2 : w.cell? ⟨N, 2, none⟩ = some (.int .i64 c.h)
  f1 : w.frozen? ⟨N, 1, none⟩ = false
  f2 : w.frozen? ⟨N, 2, none⟩ = false

theorem grown_trans {a b c : World} {r : Option Nat} (h : a.grownBy b r) (k : b.grownBy c r) : a.grownBy c r :=
  ⟨k.os.trans h.os, k.tape.trans h.tape, k.output.trans h.output, Nat.le_trans h.size k.size, fun i hi hr => (k.block i (Nat.lt_of_lt_of_le hi h.size) hr).trans (h.block i hi hr)⟩
theorem grown_refl (a : World) (r : Option Nat) : a.grownBy a r := ⟨rfl, rfl, rfl, Nat.le_refl _, fun _ _ _ => rfl⟩
theorem grown_drewN {a b : World} {r : Option Nat} (h : a.grownBy b r) (n : Nat) : a.grownBy (b.drewN n) r := ⟨h.os, h.tape, h.output, h.size, h.block⟩
theorem grown_set {a b : World} {N : Nat} (h : a.grownBy b (some N)) (o : Nat) (v : Value) : a.grownBy (b.setCell ⟨N, o, none⟩ v) (some N) := by
  have hb := (Below.refl N b).setCell (p := ⟨N, o, none⟩) (Nat.le_refl _) v
  refine ⟨hb.os.trans h.os, hb.tape.trans h.tape, hb.output.trans h.output, Nat.le_trans h.size hb.size, fun i hi hr => ?_⟩
  rw [← h.block i hi hr]
  have hne : N ≠ i := fun e => hr (by rw [e])
  simp only [World.setCell]
  split
  · simp_all
  · rw [Array.getElem?_modify, if_neg hne]
theorem grown_alloc {a b : World} {r : Option Nat} (h : a.grownBy b r) (o : Obj) : a.grownBy (b.alloc o) r :=
  ⟨h.os, h.tape, h.output, Nat.le_trans h.size (by simp), fun i hi hr => (Below.heap_alloc b o i (Nat.lt_of_lt_of_le hi h.size)).trans (h.block i hi hr)⟩
theorem grown_below {a b : World} {N B : Nat} (h : a.grownBy b (some N)) (hB : B ≤ N) (hBa : B ≤ a.heap.size) : Below B a b :=
  ⟨h.os, h.tape, h.output, h.size, fun k hk => h.block k (by omega) (fun e => by cases e; omega)⟩

theorem Cur.set2 {w : World} {N : Nat} {sl : Value} {c : St} (hc : Cur w N sl c) (h : Int) : Cur (w.setCell ⟨N, 2, none⟩ (.int .i64 h)) N sl ⟨c.i, h⟩ :=
  ⟨by rw [World.cell?_setCell_other _ _ _ _ (by simp)]; exact hc.c0, by rw [World.cell?_setCell_other _ _ _ _ (by simp)]; exact hc.c1, World.cell?_setCell_same _ _ _ hc.c2, by rw [World.frozen?_setCell]; exact hc.f1, by rw [World.frozen?_setCell]; exact hc.f2⟩
theorem Cur.set1 {w : World} {N : Nat} {sl : Value} {c : St} (hc : Cur w N sl c) (i : Nat) (v : Int) (hv : v = (i : Int)) : Cur (w.setCell ⟨N, 1, none⟩ (.int .i64 v)) N sl ⟨i, c.h⟩ := by
  subst hv
  exact ⟨by rw [World.cell?_setCell_other _ _ _ _ (by simp)]; exact hc.c0, World.cell?_setCell_same _ _ _ hc.c1, by rw [World.cell?_setCell_other _ _ _ _ (by simp)]; exact hc.c2, by rw [World.frozen?_setCell]; exact hc.f1, by rw [World.frozen?_setCell]; exact hc.f2⟩
theorem Cur.drewN {w : World} {N : Nat} {sl : Value} {c : St} (hc : Cur w N sl c) (n : Nat) : Cur (w.drewN n) N sl c := ⟨hc.c0, hc.c1, hc.c2, hc.f1, hc.f2⟩

set_option maxHeartbeats 1000000 in
theorem l1Byte_any (N : Nat) (a : Option Addr) (len cap : Nat) (zs : List Int) (c : St) (w : World) (hc : Cur w N (.slice a len cap) c) (hd : CodeAt w a len zs) (hbN : 0 < len → ∀ b off, a = some ⟨b, off, none⟩ → b < N) (hlen : len ≤ 1048576) :
    Calls Tryz.prog 118 #[.pointer (some ⟨N, 0, none⟩)] w fun e w' => e = .returned (.int .i64 (xByte zs len c.i c.h)) ∧ Cur w' N (.slice a len cap) (next len c) ∧ w.grownBy w' (some N) := by
  have HC : Hid (Cur w N (.slice a len cap) c) := hc
  obtain ⟨c0, c1, c2, f1, f2⟩ := hc
  obtain ⟨i, h⟩ := c
  simp only at c1 c2
  by_cases hi : i < len
  · obtain ⟨b, off, rfl, hcell⟩ := hd.at0 (by omega)
    have hb := hd.bd i hi
    have hcx := hcell i hi
    have hi' : (i : Int) < (len : Int) := by omega
    have HX : Hid (xByte zs len i h = (xMix h + zs.getD i 0) % 256) := by unfold xByte; exact if_pos hi
    have HN : Hid (next len ⟨i, h⟩ = ⟨i + 1, hNext h⟩) := by unfold next iNext; rw [if_pos hi]; exact rfl
    clear hd hcell
    generalize zs.getD i 0 = z at hb hcx HX
    obtain ⟨hb0, hb1⟩ := hb
    have hlt := hbN (by omega) b off rfl
    have hcx2 : ∀ v, (w.setCell ⟨N, 2, none⟩ v).cell? ⟨b, off + i, none⟩ = some (.int .u8 z) := fun v => by
      rw [World.cell?_setCell_other _ _ _ _ (fun e => by have := congrArg Addr.block e; simp only at this; omega)]; exact hcx
    clear hbN hlt
    have hx := xMix_bd h
    have HM : Hid (bits BinOp.and IntKind.i64 (bits BinOp.xor IntKind.i64 (wrap64 (wrap64 (h * 6364136223846793005) + 1442695040888963407) / 8589934592) (wrap64 (wrap64 (h * 6364136223846793005) + 1442695040888963407) / 140737488355328)) 255 = xMix h) := by
      show _ = _
      rw [i64_and255]; rfl
    go_enter Tryz.func118, Tryz.ntmps118
    go_wp2
    go_quiet (fail)
    rw [HM.out]
    go_wp2
    go_quiet (fail)
    go_wp2
    go_quiet (fail)
    go_wp2
    go_ret
    refine ⟨?_, ?_, ?_⟩
    · rw [HX.out]
      simp only [i64_and255]
      rfl
    · rw [HN.out]
      exact ((HC.out.set2 _).drewN _).set1 (i + 1) ((i : Int) + 1) (by simp)
    · exact grown_set (grown_drewN (grown_set (grown_refl _ _) _ _) _) _ _
  · have hi' : ¬ (i : Int) < (len : Int) := by omega
    have HX : Hid (xByte zs len i h = xMix h) := by unfold xByte; exact if_neg hi
    have HN : Hid (next len ⟨i, h⟩ = ⟨i, hNext h⟩) := by unfold next iNext; rw [if_neg hi]; exact rfl
    clear hd
    go_enter Tryz.func118, Tryz.ntmps118
    go_wp2
    go_quiet (fail)
    go_wp2
    go_quiet (fail)
    go_wp2
    go_ret
    refine ⟨?_, ?_, grown_drewN (grown_drewN (grown_set (grown_refl _ _) _ _) _) _⟩
    · rw [HX.out]
      simp only [xMix, hNext, i64_and255]
      rfl
    · rw [HN.out]
      exact ((HC.out.set2 _).drewN _).drewN _

theorem cur_le {N : Nat} {w w' : World} (h : w.grownBy w' (some N)) {a : Option Addr} {len : Nat} {zs : List Int} (hd : CodeAt w a len zs) (hbN : 0 < len → ∀ b off, a = some ⟨b, off, none⟩ → b < N) : CodeAt w' a len zs := by
  refine ⟨hd.le, hd.bd, fun h0 => ?_⟩
  obtain ⟨b, off, rfl, hc⟩ := hd.at0 h0
  refine ⟨b, off, rfl, fun j hj => ?_⟩
  refine h.cell (hc j hj) ?_
  have := hbN h0 b off rfl
  simp only [ne_eq, Option.some.injEq]
  omega

set_option maxHeartbeats 1000000 in
theorem l1Below_any (N : Nat) (a : Option Addr) (len cap : Nat) (zs : List Int) (c : St) (n : Int) (w : World) (hc : Cur w N (.slice a len cap) c) (hd : CodeAt w a len zs) (hbN : 0 < len → ∀ b off, a = some ⟨b, off, none⟩ → b < N) (hlen : len ≤ 1048576) (hn : 0 < n) (hn2 : n ≤ 1000000) :
    Calls Tryz.prog 83 #[.pointer (some ⟨N, 0, none⟩), .int .i64 n] w fun e w' => e = .returned (.int .i64 (belowV zs len c n)) ∧ Cur w' N (.slice a len cap) (belowS len c n) ∧ w.grownBy w' (some N) := by
  have HB : Hid (0 < len → ∀ b off, a = some ⟨b, off, none⟩ → b < N) := hbN
  have HC : Hid (Cur w N (.slice a len cap) c) := hc
  have HD : Hid (CodeAt w a len zs) := hd
  clear hbN hc hd
  have hn' : ¬ n ≤ 0 := by omega
  have hx1 := xByte_bd zs len c.i c.h
  by_cases h256 : n ≤ 256
  · have HV : Hid (belowV zs len c n = xByte zs len c.i c.h % n) := by unfold belowV; exact if_pos h256
    have HS : Hid (belowS len c n = next len c) := by unfold belowS; exact if_pos h256
    go_enter Tryz.func83, Tryz.ntmps83
    go_wp2_with (go_at_call 118; refine (l1Byte_any N a len cap zs c _ HC.out HD.out HB.out hlen).mono ?_; rintro e w1 ⟨rfl, hc1, hg1⟩)
    go_ret
    exact ⟨by rw [HV.out]; rfl, by rw [HS.out]; exact hc1, hg1⟩
  · have HV : Hid (belowV zs len c n = (xByte zs len c.i c.h * 65536 + xByte zs len (next len c).i (next len c).h * 256 + xByte zs len (next len (next len c)).i (next len (next len c)).h) % n) := by unfold belowV; exact if_neg h256
    have HS : Hid (belowS len c n = next len (next len (next len c))) := by unfold belowS; exact if_neg h256
    have hx2 := xByte_bd zs len (next len c).i (next len c).h
    have hx3 := xByte_bd zs len (next len (next len c)).i (next len (next len c)).h
    go_enter Tryz.func83, Tryz.ntmps83
    go_wp2_with fail
    refine (l1Byte_any N a len cap zs c _ HC.out HD.out HB.out hlen).mono ?_
    rintro e w1 ⟨rfl, hc1, hg1⟩
    have HC1 : Hid (Cur w1 N (.slice a len cap) (next len c)) := hc1
    clear hc1
    go_wp2_with fail
    refine (l1Byte_any N a len cap zs (next len c) _ HC1.out (cur_le hg1 HD.out HB.out) HB.out hlen).mono ?_
    rintro e w2 ⟨rfl, hc2, hg2⟩
    have HC2 : Hid (Cur w2 N (.slice a len cap) (next len (next len c))) := hc2
    clear hc2
    go_wp2_with fail
    refine (l1Byte_any N a len cap zs (next len (next len c)) _ HC2.out (cur_le (grown_trans hg1 hg2) HD.out HB.out) HB.out hlen).mono ?_
    rintro e w3 ⟨rfl, hc3, hg3⟩
    go_wp2
    go_ret
    exact ⟨by rw [HV.out]; rfl, by rw [HS.out]; exact hc3, grown_trans (grown_trans hg1 hg2) hg3⟩
end Go.Proofs.YtafdbnadakclnaaGreat
namespace Go.Proofs.YtafdbnadakclnaaGreat
open Go.RowKit M

theorem cur_new (w : World) (sl : Value) (m : Int) (T : TypeId) : Cur (w.alloc (Obj.cells #[sl, .int .i64 0, .int .i64 m] T)) w.heap.size sl ⟨0, m⟩ :=
  ⟨by simp, by simp, by simp, by simp, by simp⟩

set_option maxHeartbeats 1000000 in
set_option maxRecDepth 100000 in
theorem l1New_any (a : Option Addr) (len cap : Nat) (zs : List Int) (w : World) (hd : CodeAt w a len zs) (hlen : len ≤ 1048576) :
    Calls Tryz.prog 52 #[.slice a len cap] w fun e w' => e = .returned (.pointer (some ⟨w.heap.size, 0, none⟩)) ∧ Cur w' w.heap.size (.slice a len cap) (newS zs len) ∧ Below w.heap.size w w' ∧ w'.heap.size = w.heap.size + 1 := by
  have HD : Hid (CodeAt w a len zs) := hd
  have hle := hd.le
  clear hd
  go_enter Tryz.func52, Tryz.ntmps52
  go_wp2
  go_loop [3, 4] (fun h i => ∃ k : Nat, k ≤ len ∧ k ≤ 4000 ∧ i = .int .i64 k ∧ h = .int .i64 (mixF (774774 + (len : Int)) (zs.take k))) (fun _ i => len - (intOf i).toNat)
  case atStart => exact ⟨0, Nat.zero_le _, Nat.zero_le _, rfl, rfl⟩
  case round =>
    obtain ⟨k, hk, hk4, rfl, rfl⟩ := hrel
    have hm := mixF_bd (774774 + (len : Int)) (zs.take k) (by omega) (by omega)
    by_cases hlt : k < len
    · by_cases h4 : k < 4000
      · obtain ⟨b, off, rfl, hcell⟩ := HD.out.at0 (by omega)
        have hcx := hcell k hlt
        have hb := HD.out.bd k hlt
        have HS : Hid (mixF (774774 + (len : Int)) (zs.take (k + 1)) = (mixF (774774 + (len : Int)) (zs.take k) * 137 + zs.getD k 0 + 11) % 1073741824) := by
          show _ = _
          rw [take_snocZ zs k (by omega), mixF_snoc]
        clear hcell
        obtain ⟨m, hmm⟩ : ∃ m, m = mixF (774774 + (len : Int)) (zs.take k) := ⟨_, rfl⟩
        rw [← hmm] at hm HS ⊢
        clear hmm
        generalize zs.getD k 0 = z at hcx hb HS
        go_wp2
        go_round
        case rel =>
          refine ⟨k + 1, by omega, by omega, by go_num, ?_⟩
          rw [HS.out]
          simp only [i64_and30]
        case measure => simp [intOf]; omega
      · have e4 : newS zs len = ⟨0, mixF (774774 + (len : Int)) (zs.take k)⟩ := by
          unfold newS
          rw [List.take_take, show min 4000 len = k by omega]
        have HE : Hid (newS zs len = ⟨0, mixF (774774 + (len : Int)) (zs.take k)⟩) := e4
        clear e4
        obtain ⟨m, hmm⟩ : ∃ m, m = mixF (774774 + (len : Int)) (zs.take k) := ⟨_, rfl⟩
        rw [← hmm] at hm HE ⊢
        clear hmm
        go_wp2
        go_ret
        exact ⟨rfl, by rw [HE.out]; exact cur_new _ _ _ _, (Below.refl _ _).alloc (Nat.le_refl _) _, by simp⟩
    · have e4 : newS zs len = ⟨0, mixF (774774 + (len : Int)) (zs.take k)⟩ := by
        unfold newS
        rw [List.take_take, show min 4000 len = k by omega]
      have HE : Hid (newS zs len = ⟨0, mixF (774774 + (len : Int)) (zs.take k)⟩) := e4
      clear e4
      obtain ⟨m, hmm⟩ : ∃ m, m = mixF (774774 + (len : Int)) (zs.take k) := ⟨_, rfl⟩
      rw [← hmm] at hm HE ⊢
      clear hmm
      go_wp2
      go_ret
      exact ⟨rfl, by rw [HE.out]; exact cur_new _ _ _ _, (Below.refl _ _).alloc (Nat.le_refl _) _, by simp⟩

set_option maxHeartbeats 400000 in
theorem l1Str_any (N M : Nat) (a : Option Addr) (len cap n : Nat) (zs : List Int) (ss : List ByteArray) (c : St) (w : World) (hc : Cur w N (.slice a len cap) c) (hd : CodeAt w a len zs) (hbN : 0 < len → ∀ b off, a = some ⟨b, off, none⟩ → b < N) (hlen : len ≤ 1048576) (hn : 0 < n) (hn2 : n ≤ 256) (hMN : M ≠ N)
    (hls : ∀ j, j < n → w.cell? ⟨M, j, none⟩ = some (.string (ss.getD j ByteArray.empty))) :
    Calls Tryz.prog 82 #[.pointer (some ⟨N, 0, none⟩), .slice (some ⟨M, 0, none⟩) n n] w fun e w' => e = .returned (.string (ss.getD (pick zs len c n) ByteArray.empty)) ∧ Cur w' N (.slice a len cap) (belowS len c n) ∧ w.grownBy w' (some N) := by
  have HB : Hid (Calls Tryz.prog 83 #[.pointer (some ⟨N, 0, none⟩), .int .i64 (n : Int)] w fun e w' => e = .returned (.int .i64 (belowV zs len c n)) ∧ Cur w' N (.slice a len cap) (belowS len c n) ∧ w.grownBy w' (some N)) :=
    l1Below_any N a len cap zs c n w hc hd hbN hlen (by omega) (by omega)
  have HL : Hid (∀ j, j < n → w.cell? ⟨M, j, none⟩ = some (.string (ss.getD j ByteArray.empty))) := hls
  have hp := pick_lt zs len c n hn
  have ep : belowV zs len c n = (pick zs len c n : Int) := by
    have := belowV_bd zs len c n (by omega)
    unfold pick
    omega
  rw [ep] at HB
  clear hbN hc hd hls ep
  generalize pick zs len c n = p at *
  go_enter Tryz.func82, Tryz.ntmps82
  go_wp2_with fail
  refine HB.out.mono ?_
  rintro e w1 ⟨rfl, hc1, hg1⟩
  have hcx : w1.cell? ⟨M, p, none⟩ = some (.string (ss.getD p ByteArray.empty)) := hg1.cell (HL.out p hp) (by simpa using hMN)
  have HC1 : Hid (Cur w1 N (.slice a len cap) (belowS len c n)) := hc1
  have HG1 : Hid (w.grownBy w1 (some N)) := hg1
  clear hc1 hg1 HL
  go_wp2
  go_ret
  exact ⟨rfl, HC1.out, HG1.out⟩
end Go.Proofs.YtafdbnadakclnaaGreat
namespace Go.Proofs.YtafdbnadakclnaaGreat
open Go.RowKit M

/-- All that a call on a cursor in block N wants. -/
structure DC (w : World) (N : Nat) (a : Option Addr) (len cap : Nat) (zs : List Int) (c : St) : Prop where
  cur : Cur w N (.slice a len cap) c
  code : CodeAt w a len zs
  bN : 0 < len → ∀ b off, a = some ⟨b, off, none⟩ → b < N
  hlen : len ≤ 1048576
  lt : N < w.heap.size

theorem DC.grown {w w' : World} {N : Nat} {a : Option Addr} {len cap : Nat} {zs : List Int} {c c' : St} (h : DC w N a len cap zs c) (hg : w.grownBy w' (some N)) (hc : Cur w' N (.slice a len cap) c') : DC w' N a len cap zs c' :=
  ⟨hc, cur_le hg h.code h.bN, h.bN, h.hlen, Nat.lt_of_lt_of_le h.lt hg.size⟩

theorem DC.alloc {w : World} {N : Nat} {a : Option Addr} {len cap : Nat} {zs : List Int} {c : St} (h : DC w N a len cap zs c) (o : Obj) : DC (w.alloc o) N a len cap zs c := by
  have hg : w.grownBy (w.alloc o) (some N) := grown_alloc (grown_refl _ _) o
  refine ⟨⟨?_, ?_, ?_, ?_, ?_⟩, cur_le hg h.code h.bN, h.bN, h.hlen, Nat.lt_of_lt_of_le h.lt hg.size⟩
  · exact (World.cell?_alloc_past o N 0 h.lt).trans h.cur.c0
  · exact (World.cell?_alloc_past o N 1 h.lt).trans h.cur.c1
  · exact (World.cell?_alloc_past o N 2 h.lt).trans h.cur.c2
  · exact (World.frozen?_alloc_past o N 1 h.lt).trans h.cur.f1
  · exact (World.frozen?_alloc_past o N 2 h.lt).trans h.cur.f2

theorem row_strs (w : World) (ss : List ByteArray) (T : TypeId) (C : Array Value) (n : Nat) (hC : C = (ss.map Value.string).toArray) (hn : ss.length = n) : ∀ j, j < n → (w.alloc (.cells C T)).cell? ⟨w.heap.size, j, none⟩ = some (.string (ss.getD j ByteArray.empty)) := by
  subst hC hn
  intro j hj
  rw [World.cell?_alloc_new]
  simp [List.getD_eq_getElem?_getD, List.getElem?_eq_getElem hj]

/-- l1Str at a list that was just built. -/
theorem strNew {w : World} {N : Nat} {a : Option Addr} {len cap : Nat} {zs : List Int} {c : St} (h : DC w N a len cap zs c) (ss : List ByteArray) (C : Array Value) (T : TypeId) (n M : Nat) (hM : M = w.heap.size) (hC : C = (ss.map Value.string).toArray) (hn : ss.length = n) (h0 : 0 < n) (h1 : n ≤ 256) :
    Calls Tryz.prog 82 #[.pointer (some ⟨N, 0, none⟩), .slice (some ⟨M, 0, none⟩) n n] (w.alloc (.cells C T)) fun e w' => e = .returned (.string (ss.getD (pick zs len c n) ByteArray.empty)) ∧ DC w' N a len cap zs (belowS len c n) ∧ w.grownBy w' (some N) := by
  subst hM
  have hA := h.alloc (.cells C T)
  refine (l1Str_any N w.heap.size a len cap n zs ss c _ hA.cur hA.code h.bN h.hlen h0 h1 (by have := h.lt; omega) (row_strs w ss T C n hC hn)).mono ?_
  rintro e w1 ⟨rfl, hc1, hg1⟩
  exact ⟨rfl, hA.grown hg1 hc1, grown_trans (grown_alloc (grown_refl _ _) _) hg1⟩

def textL : List ByteArray := [⟨#[]⟩, ⟨#[97]⟩, ⟨#[98]⟩, ⟨#[97, 98]⟩, ⟨#[97, 45, 98]⟩, ⟨#[65, 98]⟩, ⟨#[32, 97, 32]⟩, ⟨#[120, 49]⟩, ⟨#[116, 119, 101, 110, 116, 121, 45, 111, 110, 101, 45, 115, 109, 97, 108, 108, 45, 116, 101, 120, 116]⟩, ⟨#[97, 32, 98]⟩, ⟨#[9]⟩, ⟨#[127]⟩, ⟨#[49, 97]⟩, ⟨#[45, 97]⟩, ⟨#[60, 97, 38, 98, 62]⟩, ⟨#[34, 113, 34]⟩]
def textV (zs : List Int) (len : Nat) (c : St) : ByteArray := textL.getD (pick zs len c 16) ByteArray.empty
end Go.Proofs.YtafdbnadakclnaaGreat
namespace Go.Proofs.YtafdbnadakclnaaGreat
open Go.RowKit M

/-- The bytes of a draw, in old memory. -/
structure CodeIn (w : World) (B : Nat) (a : Option Addr) (len : Nat) (zs : List Int) : Prop where
  code : CodeAt w a len zs
  bB : 0 < len → ∀ b off, a = some ⟨b, off, none⟩ → b < B
  hlen : len ≤ 1048576
  hB : B ≤ w.heap.size

theorem CodeIn.below {w w' : World} {B : Nat} {a : Option Addr} {len : Nat} {zs : List Int} (h : CodeIn w B a len zs) (hb : Below B w w') : CodeIn w' B a len zs := by
  refine ⟨⟨h.code.le, h.code.bd, fun h0 => ?_⟩, h.bB, h.hlen, Nat.le_trans h.hB hb.size⟩
  obtain ⟨b, off, rfl, hc⟩ := h.code.at0 h0
  refine ⟨b, off, rfl, fun j hj => ?_⟩
  exact (hb.cell (p := ⟨b, off + j, none⟩) (h.bB h0 b off rfl)).trans (hc j hj)

/-- A new cursor over them. -/
theorem newDC {w : World} {B : Nat} {a : Option Addr} {len : Nat} {zs : List Int} (h : CodeIn w B a len zs) (cap : Nat) :
    Calls Tryz.prog 52 #[.slice a len cap] w fun e w' => e = .returned (.pointer (some ⟨w.heap.size, 0, none⟩)) ∧ DC w' w.heap.size a len cap zs (newS zs len) ∧ Below w.heap.size w w' := by
  refine (l1New_any a len cap zs w h.code h.hlen).mono ?_
  rintro e w1 ⟨rfl, hc, hb, hs⟩
  have h1 := h.below (hb.mono h.hB)
  exact ⟨rfl, ⟨hc, h1.code, fun h0 b off e => Nat.lt_of_lt_of_le (h.bB h0 b off e) h.hB, h.hlen, by omega⟩, hb⟩

theorem dc_below {w w1 w2 : World} (hb : Below w.heap.size w w1) (hg : w1.grownBy w2 (some w.heap.size)) : Below w.heap.size w w2 :=
  hb.trans (grown_below hg (Nat.le_refl _) hb.size)

theorem getD_mem {α : Type} (l : List α) (i : Nat) (d : α) (p : α → Prop) (h : ∀ x ∈ l, p x) (hd : p d) : p (l.getD i d) := by
  rw [List.getD_eq_getElem?_getD]
  cases e : l[i]? with
  | none => exact hd
  | some x => exact h x (List.mem_of_getElem? e)

theorem textV_le (zs : List Int) (len : Nat) (c : St) : (textV zs len c).size ≤ 100 :=
  getD_mem textL _ _ (fun s => s.size ≤ 100) (by decide) (by decide)
end Go.Proofs.YtafdbnadakclnaaGreat
