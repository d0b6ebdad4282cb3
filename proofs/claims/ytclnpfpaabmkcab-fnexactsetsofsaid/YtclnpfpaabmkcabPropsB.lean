/-
  Slices of what is known: what they hold, and that it stays.
-/
import Derived.Test.YtclnpfpaabmkcabHide
import Derived.Test.YtclnpfpaabmkcabRows
import Derived.Test.YtclnpfpaabmkcabMathRes
import Derived.WalkKit
import Derived.WalkSpells
import Derived.WalkLawsBesides
import Derived.Deep.Light
import Derived.Deep.QuietTactic
import Derived.Deep.OwnRows
namespace Go.Proofs.Ytclnpfpaabmkcab
open Go.RowKit M

/-- One of them, at a place. -/
def PpAt (w : World) (b o : Nat) (p : Pp) : Prop := w.cell? ⟨b, o, none⟩ = some (.string p.1) ∧ w.cell? ⟨b, o + 1, none⟩ = some (.string p.2.1) ∧ w.cell? ⟨b, o + 2, none⟩ = some (.string p.2.2)
/-- What a slice of them holds, in a block below B. -/
def Pps (w : World) (B : Nat) (a : Option Addr) (ps : List Pp) : Prop :=
  0 < ps.length → ∃ b o, a = some ⟨b, o, none⟩ ∧ b < B ∧ ∀ j (hj : j < ps.length), PpAt w b (o + j * 3) ps[j]

theorem PpAt.of {w w' : World} {b o : Nat} {p : Pp} (h : PpAt w b o p) (e : ∀ o', w'.cell? ⟨b, o', none⟩ = w.cell? ⟨b, o', none⟩) : PpAt w' b o p := by
  unfold PpAt at *
  simp only [e]
  exact h
theorem Pps.of {w w' : World} {B : Nat} {a : Option Addr} {ps : List Pp} (h : Pps w B a ps) (e : ∀ b o, b < B → w'.cell? ⟨b, o, none⟩ = w.cell? ⟨b, o, none⟩) : Pps w' B a ps := fun h0 => by
  obtain ⟨b, o, ea, hb, hc⟩ := h h0
  exact ⟨b, o, ea, hb, fun j hj => (hc j hj).of (fun o' => e b o' hb)⟩
theorem Pps.below {w w' : World} {B C : Nat} {a : Option Addr} {ps : List Pp} (h : Pps w B a ps) (hb : Below C w w') (hB : B ≤ C) : Pps w' B a ps :=
  h.of (fun b o hbB => hb.cell (p := ⟨b, o, none⟩) (Nat.lt_of_lt_of_le hbB hB))
theorem Pps.mono {w : World} {B C : Nat} {a : Option Addr} {ps : List Pp} (h : Pps w B a ps) (hB : B ≤ C) : Pps w C a ps := fun h0 => by
  obtain ⟨b, o, e, hbB, hc⟩ := h h0
  exact ⟨b, o, e, Nat.lt_of_lt_of_le hbB hB, hc⟩
theorem Pps.nil (w : World) (B : Nat) (a : Option Addr) : Pps w B a [] := fun h => absurd h (Nat.lt_irrefl _)

/-- A row of them in block g, none of them frozen. -/
def RowP (w : World) (g : Nat) (ps : List Pp) : Prop := g < w.heap.size ∧ (∀ j (hj : j < ps.length), PpAt w g (j * 3) ps[j]) ∧ ∀ i, w.frozen? ⟨g, i, none⟩ = false
theorem RowP.of {w w' : World} {g : Nat} {ps : List Pp} (h : RowP w g ps) (hz : g < w'.heap.size) (e : ∀ o', w'.cell? ⟨g, o', none⟩ = w.cell? ⟨g, o', none⟩) (f : ∀ o', w'.frozen? ⟨g, o', none⟩ = w.frozen? ⟨g, o', none⟩) : RowP w' g ps :=
  ⟨hz, fun j hj => (h.2.1 j hj).of e, fun i => by rw [f]; exact h.2.2 i⟩
theorem RowP.below {w w' : World} {g : Nat} {ps : List Pp} (h : RowP w g ps) (hb : Below w.heap.size w w') : RowP w' g ps :=
  h.of (Nat.lt_of_lt_of_le h.1 hb.size) (fun o => hb.cell (p := ⟨g, o, none⟩) h.1) (fun o => hb.frozen (p := ⟨g, o, none⟩) h.1)
theorem RowP.pps {w : World} {g C : Nat} {ps : List Pp} (h : RowP w g ps) (hC : g < C) : Pps w C (some ⟨g, 0, none⟩) ps := fun _ =>
  ⟨g, 0, rfl, hC, fun j hj => by rw [Nat.zero_add]; exact h.2.1 j hj⟩

/-- All of them short enough. -/
def ShortPs (ps : List Pp) : Prop := ∀ p ∈ ps, p.1.size ≤ maxLen ∧ p.2.1.size ≤ maxLen ∧ p.2.2.size ≤ maxLen
theorem ShortPs.at {ps : List Pp} (h : ShortPs ps) (k : Nat) (hk : k < ps.length) : (ps[k]).1.size ≤ maxLen ∧ (ps[k]).2.1.size ≤ maxLen ∧ (ps[k]).2.2.size ≤ maxLen := h _ (List.getElem_mem hk)

theorem strInjP {a b : ByteArray} (h : a.toList = b.toList) : a = b := by
  rw [ByteArray.toList_eq, ByteArray.toList_eq] at h
  exact ByteArray.ext (Array.ext' h)
theorem bcellP {W w1 : World} (hb : Below W.heap.size W w1) : (∀ b o, b < W.heap.size → w1.cell? ⟨b, o, none⟩ = W.cell? ⟨b, o, none⟩) ∧ (∀ b o, b < W.heap.size → w1.frozen? ⟨b, o, none⟩ = W.frozen? ⟨b, o, none⟩) :=
  ⟨fun b o h => hb.cell (p := ⟨b, o, none⟩) h, fun b o h => hb.frozen (p := ⟨b, o, none⟩) h⟩
theorem below_drewP {C : Nat} {w w' : World} (h : Below C w w') : Below C w w'.drew := ⟨h.os, h.tape, h.output, h.size, h.block⟩

theorem info_prop : (Try.prog.info? 91).map (fun i => (i.zero, i.size, i.bytes)) = some (some (.agg #[.string ByteArray.empty, .string ByteArray.empty, .string ByteArray.empty]), 3, 48) := by kernel_rfl
/-- What is made so far of a row of them. -/
def MadeP (w : World) (g : Nat) (ps : List Pp) (k : Nat) : Prop := ∃ F : Nat → Value, w.rowIs g 91 (ps.length * 3) F ∧ ∀ j (hj : j < ps.length), j < k → F (j * 3) = .string ps[j].1 ∧ F (j * 3 + 1) = .string ps[j].2.1 ∧ F (j * 3 + 2) = .string ps[j].2.2
theorem MadeP.start (w : World) (ps : List Pp) : MadeP (w.alloc (.cells (madeCells #[.string ByteArray.empty, .string ByteArray.empty, .string ByteArray.empty] (ps.length * 3)) 91)) w.heap.size ps 0 := by
  have hr := World.rowIs_alloc w (madeCells #[.string ByteArray.empty, .string ByteArray.empty, .string ByteArray.empty] (ps.length * 3)) 91 (fun i => ((madeCells #[.string ByteArray.empty, .string ByteArray.empty, .string ByteArray.empty] (ps.length * 3))[i]?).getD (.string ByteArray.empty)) (fun i hi => by rw [Array.getElem?_eq_getElem hi]; rfl)
  rw [size_madeCells] at hr
  exact ⟨_, hr, fun j _ hj => absurd hj (Nat.not_lt_zero _)⟩
theorem MadeP.below {w w1 : World} {g : Nat} {ps : List Pp} {k : Nat} (m : MadeP w g ps k) (hb : Below w.heap.size w w1) : MadeP w1 g ps k := by
  obtain ⟨F, hr, hj⟩ := m
  exact ⟨F, hr.of_block (w' := w1) (hb.block _ hr.lt), hj⟩
theorem MadeP.lt {w : World} {g : Nat} {ps : List Pp} {k : Nat} (m : MadeP w g ps k) : g < w.heap.size := by obtain ⟨F, hr, _⟩ := m; exact hr.lt
theorem MadeP.cells {w : World} {g : Nat} {ps : List Pp} {k : Nat} (m : MadeP w g ps k) (hk : k < ps.length) : ∃ v0 v1 v2, w.cell? ⟨g, k * 3, none⟩ = some v0 ∧ w.cell? ⟨g, k * 3 + 1, none⟩ = some v1 ∧ w.cell? ⟨g, k * 3 + 2, none⟩ = some v2 ∧ w.frozen? ⟨g, k * 3, none⟩ = false ∧ w.frozen? ⟨g, k * 3 + 1, none⟩ = false ∧ w.frozen? ⟨g, k * 3 + 2, none⟩ = false := by
  obtain ⟨F, hr, _⟩ := m
  exact ⟨_, _, _, hr.cell (by omega), hr.cell (by omega), hr.cell (by omega), hr.frozen _, hr.frozen _, hr.frozen _⟩
theorem MadeP.next {w : World} {g : Nat} {ps : List Pp} {k : Nat} (m : MadeP w g ps k) (hk : k < ps.length) : MadeP (((w.setCell ⟨g, k * 3, none⟩ (.string ps[k].1)).setCell ⟨g, k * 3 + 1, none⟩ (.string ps[k].2.1)).setCell ⟨g, k * 3 + 2, none⟩ (.string ps[k].2.2)) g ps (k + 1) := by
  obtain ⟨F, hr, hj⟩ := m
  refine ⟨_, ((hr.set (k * 3) (.string ps[k].1)).set (k * 3 + 1) (.string ps[k].2.1)).set (k * 3 + 2) (.string ps[k].2.2), fun j hjl hjk => ?_⟩
  by_cases e : j = k
  · subst e
    refine ⟨?_, ?_, ?_⟩ <;> simp
  · obtain ⟨e0, e1, e2⟩ := hj j hjl (by omega)
    refine ⟨?_, ?_, ?_⟩
    · simp only [show ¬ j * 3 = k * 3 + 2 by omega, show ¬ j * 3 = k * 3 + 1 by omega, show ¬ j * 3 = k * 3 by omega, if_false]; exact e0
    · simp only [show ¬ j * 3 + 1 = k * 3 + 2 by omega, show ¬ j * 3 + 1 = k * 3 + 1 by omega, show ¬ j * 3 + 1 = k * 3 by omega, if_false]; exact e1
    · simp only [show ¬ j * 3 + 2 = k * 3 + 2 by omega, show ¬ j * 3 + 2 = k * 3 + 1 by omega, show ¬ j * 3 + 2 = k * 3 by omega, if_false]; exact e2
theorem MadeP.done {w : World} {g : Nat} {ps : List Pp} {k : Nat} (m : MadeP w g ps k) (hk : ¬ k < ps.length) : RowP w g ps := by
  obtain ⟨F, hr, hj⟩ := m
  refine ⟨hr.lt, fun j hjl => ?_, fun i => hr.frozen i⟩
  obtain ⟨e0, e1, e2⟩ := hj j hjl (by omega)
  exact ⟨by rw [hr.cell (by omega), e0], by rw [hr.cell (by omega), e1], by rw [hr.cell (by omega), e2]⟩
end Go.Proofs.Ytclnpfpaabmkcab
