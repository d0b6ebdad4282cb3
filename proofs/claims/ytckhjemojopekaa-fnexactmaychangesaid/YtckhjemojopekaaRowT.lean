/-
  Slices of texts: what they hold, and that it stays.
  What stands in a walk's context and is not to be used by it.
  Rows of texts, none of them frozen.
-/
import Derived.Test.YtckhjemojopekaaRows
import Derived.WalkKit
import Derived.WalkSpells
import Derived.WalkLawsBesides
import Derived.Deep.Light
import Derived.Deep.QuietTactic
import Derived.Deep.OwnRows
import Derived.Below
namespace Go.Proofs.Ytckhjemojopekaa
open Go.RowKit

/-- The texts that a slice holds, in a block below B. -/
def Strs (w : World) (B : Nat) (a : Option Addr) (ss : List ByteArray) : Prop :=
  0 < ss.length → ∃ b o, a = some ⟨b, o, none⟩ ∧ b < B ∧ ∀ j (hj : j < ss.length), w.cell? ⟨b, o + j, none⟩ = some (.string ss[j])

theorem Strs.below {w w' : World} {B C : Nat} {a : Option Addr} {ss : List ByteArray} (h : Strs w B a ss) (hb : Below C w w') (hB : B ≤ C) : Strs w' B a ss := fun h0 => by
  obtain ⟨b, o, e, hbB, hc⟩ := h h0
  exact ⟨b, o, e, hbB, fun j hj => (hb.cell (p := ⟨b, o + j, none⟩) (Nat.lt_of_lt_of_le hbB hB)).trans (hc j hj)⟩

theorem Strs.mono {w : World} {B C : Nat} {a : Option Addr} {ss : List ByteArray} (h : Strs w B a ss) (hB : B ≤ C) : Strs w C a ss := fun h0 => by
  obtain ⟨b, o, e, hbB, hc⟩ := h h0
  exact ⟨b, o, e, Nat.lt_of_lt_of_le hbB hB, hc⟩

theorem Strs.take {w : World} {B : Nat} {a : Option Addr} {ss : List ByteArray} (h : Strs w B a ss) (k : Nat) : Strs w B a (ss.take k) := fun h0 => by
  have hl : (ss.take k).length ≤ ss.length := by rw [List.length_take]; omega
  obtain ⟨b, o, e, hbB, hc⟩ := h (by omega)
  exact ⟨b, o, e, hbB, fun j hj => by rw [hc j (by omega), List.getElem_take]⟩

theorem info_str : (Try.prog.info? 9).map (fun i => (i.zero, i.size, i.bytes)) = some (some (.string ByteArray.empty), 1, 16) := by kernel_rfl

/-- A row of texts that the call made, as a slice. -/
theorem Strs.row {w : World} {N n C : Nat} {ss : List ByteArray} {f : Nat → Value} (h : w.rowIs N 9 n f) (hn : ss.length ≤ n) (hf : ∀ j (hj : j < ss.length), f j = .string ss[j]) (hN : N < C) : Strs w C (some ⟨N, 0, none⟩) ss := fun _ =>
  ⟨N, 0, rfl, hN, fun j hj => by rw [Nat.zero_add, h.cell (by omega), hf j hj]⟩

/-- All of them short enough. -/
def Short (ss : List ByteArray) : Prop := ∀ s ∈ ss, s.size ≤ maxLen
theorem Short.at {ss : List ByteArray} (h : Short ss) (k : Nat) (hk : k < ss.length) : (ss[k]).size ≤ maxLen := h _ (List.getElem_mem hk)

def sumS (ss : List ByteArray) : Nat := (ss.map (·.size)).sum
theorem sumS_snoc (ss : List ByteArray) (k : Nat) (hk : k < ss.length) : sumS (ss.take (k + 1)) = sumS (ss.take k) + (ss[k]).size := by
  unfold sumS
  rw [List.take_succ_eq_append_getElem hk, List.map_append, List.sum_append]
  simp only [List.map_cons, List.map_nil, List.sum_cons, List.sum_nil, Nat.add_zero]
theorem sumS_all (ss : List ByteArray) (k : Nat) (hk : ¬ k < ss.length) : ss.take k = ss := List.take_of_length_le (by omega)
theorem sumS_mem (ss : List ByteArray) (s : ByteArray) (h : s ∈ ss) : s.size ≤ sumS ss := by
  induction ss with
  | nil => cases h
  | cons x l ih =>
    simp only [sumS, List.map_cons, List.sum_cons] at *
    rcases List.mem_cons.1 h with rfl | h
    · omega
    · have := ih h; omega

theorem str_inj {a b : ByteArray} (h : a.toList = b.toList) : a = b := by
  rw [ByteArray.toList_eq, ByteArray.toList_eq] at h
  exact ByteArray.ext (Array.ext' h)

/-- Whether two lists of texts are the same. -/
def sameL (ss tt : List ByteArray) : Bool := decide (ss = tt)
theorem sameL_refl (ss : List ByteArray) : sameL ss ss = true := by simp [sameL]
theorem sameL_len {ss tt : List ByteArray} (h : ¬ ss.length = tt.length) : sameL ss tt = false := by
  simp only [sameL, decide_eq_false_iff_not]; intro e; exact h (by rw [e])
theorem sameL_not {ss tt : List ByteArray} (k : Nat) (h1 : k < ss.length) (h2 : k < tt.length) (h : ¬ ss[k] = tt[k]) : sameL ss tt = false := by
  simp only [sameL, decide_eq_false_iff_not]; intro e; subst e; exact h rfl
theorem sameL_all {ss tt : List ByteArray} (hl : ss.length = tt.length) (k : Nat) (hk : ¬ k < ss.length) (h : ss.take k = tt.take k) : sameL ss tt = true := by
  rw [List.take_of_length_le (by omega), List.take_of_length_le (by omega)] at h
  simp [sameL, h]
theorem take_same {ss tt : List ByteArray} (k : Nat) (h1 : k < ss.length) (h2 : k < tt.length) (h0 : ss.take k = tt.take k) (h : ss[k] = tt[k]) : ss.take (k + 1) = tt.take (k + 1) := by
  rw [List.take_succ_eq_append_getElem h1, List.take_succ_eq_append_getElem h2, h0, h]
end Go.Proofs.Ytckhjemojopekaa
namespace Go.Proofs.Ytckhjemojopekaa

open Go.RowKit
theorem hide {p : Prop} (h : p) : Hid p := h
end Go.Proofs.Ytckhjemojopekaa
namespace Go.Proofs.Ytckhjemojopekaa
open Go.RowKit
set_option linter.unusedVariables false

/-- A row of n texts in block g, none of them frozen. -/
def RowS (w : World) (g : Nat) (ms : List ByteArray) : Prop := g < w.heap.size ∧ ∀ j (hj : j < ms.length), w.cell? ⟨g, j, none⟩ = some (.string ms[j]) ∧ w.frozen? ⟨g, j, none⟩ = false
theorem RowS.below {w w' : World} {g : Nat} {ms : List ByteArray} (h : RowS w g ms) (hb : Below w.heap.size w w') : RowS w' g ms := by
  refine ⟨Nat.lt_of_lt_of_le h.1 hb.size, fun j hj => ?_⟩
  rw [hb.cell (p := ⟨g, j, none⟩) h.1, hb.frozen (p := ⟨g, j, none⟩) h.1]
  exact h.2 j hj
theorem RowS.set {w : World} {g : Nat} {ms : List ByteArray} (h : RowS w g ms) (k : Nat) (hk : k < ms.length) (x : ByteArray) : RowS (w.setCell ⟨g, k, none⟩ (.string x)) g (ms.set k x) := by
  refine ⟨by simpa using h.1, fun j hj => ?_⟩
  have hj' : j < ms.length := by simpa using hj
  refine ⟨?_, by rw [World.frozen?_setCell]; exact (h.2 j hj').2⟩
  by_cases e : k = j
  · subst e
    rw [World.cell?_setCell_same _ _ _ (h.2 k hk).1]
    simp
  · have hne : (⟨g, k, none⟩ : Addr) ≠ ⟨g, j, none⟩ := fun e' => e (congrArg Addr.off e')
    rw [World.cell?_setCell_other _ _ _ _ hne, (h.2 j hj').1]
    simp [e]

theorem RowS.row {w : World} {N n : Nat} {ss : List ByteArray} {f : Nat → Value} (h : w.rowIs N 9 n f) (hn : ss.length ≤ n) (hf : ∀ j (hj : j < ss.length), f j = .string ss[j]) : RowS w N ss :=
  ⟨h.lt, fun j hj => ⟨by rw [h.cell (by omega), hf j hj], h.frozen j⟩⟩
theorem RowS.strs' {w : World} {g C : Nat} {ns : List ByteArray} (h : RowS w g ns) (hC : g < C) : Strs w C (some ⟨g, 0, none⟩) ns := fun _ =>
  ⟨g, 0, rfl, hC, fun j hj => by rw [Nat.zero_add]; exact (h.2 j hj).1⟩
end Go.Proofs.Ytckhjemojopekaa
