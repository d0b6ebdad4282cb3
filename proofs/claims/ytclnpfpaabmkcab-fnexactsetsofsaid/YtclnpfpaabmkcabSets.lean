/-
  Slices of sets: what they hold, and that it stays.
-/
import Derived.Test.YtclnpfpaabmkcabPropsB
import Derived.Test.YtclnpfpaabmkcabMathSets
namespace Go.Proofs.Ytclnpfpaabmkcab
open Go.RowKit M

/-- One of them, at a place. -/
def StAt (w : World) (b o : Nat) (p : Sx) : Prop := w.cell? ⟨b, o, none⟩ = some (.bool p.1) ∧ w.cell? ⟨b, o + 1, none⟩ = some (.string p.2.1) ∧ w.cell? ⟨b, o + 2, none⟩ = some (.string p.2.2.1) ∧ w.cell? ⟨b, o + 3, none⟩ = some (.string p.2.2.2)
/-- What a slice of them holds, in a block below B. -/
def Sts (w : World) (B : Nat) (a : Option Addr) (ps : List Sx) : Prop :=
  0 < ps.length → ∃ b o, a = some ⟨b, o, none⟩ ∧ b < B ∧ ∀ j (hj : j < ps.length), StAt w b (o + j * 4) ps[j]

theorem StAt.of {w w' : World} {b o : Nat} {p : Sx} (h : StAt w b o p) (e : ∀ o', w'.cell? ⟨b, o', none⟩ = w.cell? ⟨b, o', none⟩) : StAt w' b o p := by
  unfold StAt at *
  simp only [e]
  exact h
theorem Sts.of {w w' : World} {B : Nat} {a : Option Addr} {ps : List Sx} (h : Sts w B a ps) (e : ∀ b o, b < B → w'.cell? ⟨b, o, none⟩ = w.cell? ⟨b, o, none⟩) : Sts w' B a ps := fun h0 => by
  obtain ⟨b, o, ea, hb, hc⟩ := h h0
  exact ⟨b, o, ea, hb, fun j hj => (hc j hj).of (fun o' => e b o' hb)⟩
theorem Sts.below {w w' : World} {B C : Nat} {a : Option Addr} {ps : List Sx} (h : Sts w B a ps) (hb : Below C w w') (hB : B ≤ C) : Sts w' B a ps :=
  h.of (fun b o hbB => hb.cell (p := ⟨b, o, none⟩) (Nat.lt_of_lt_of_le hbB hB))
theorem Sts.mono {w : World} {B C : Nat} {a : Option Addr} {ps : List Sx} (h : Sts w B a ps) (hB : B ≤ C) : Sts w C a ps := fun h0 => by
  obtain ⟨b, o, e, hbB, hc⟩ := h h0
  exact ⟨b, o, e, Nat.lt_of_lt_of_le hbB hB, hc⟩
theorem Sts.nil (w : World) (B : Nat) (a : Option Addr) : Sts w B a [] := fun h => absurd h (Nat.lt_irrefl _)

/-- A row of them in block g, none of them frozen. -/
def RowU (w : World) (g : Nat) (ps : List Sx) : Prop := g < w.heap.size ∧ (∀ j (hj : j < ps.length), StAt w g (j * 4) ps[j]) ∧ ∀ i, w.frozen? ⟨g, i, none⟩ = false
theorem RowU.of {w w' : World} {g : Nat} {ps : List Sx} (h : RowU w g ps) (hz : g < w'.heap.size) (e : ∀ o', w'.cell? ⟨g, o', none⟩ = w.cell? ⟨g, o', none⟩) (f : ∀ o', w'.frozen? ⟨g, o', none⟩ = w.frozen? ⟨g, o', none⟩) : RowU w' g ps :=
  ⟨hz, fun j hj => (h.2.1 j hj).of e, fun i => by rw [f]; exact h.2.2 i⟩
theorem RowU.below {w w' : World} {g : Nat} {ps : List Sx} (h : RowU w g ps) (hb : Below w.heap.size w w') : RowU w' g ps :=
  h.of (Nat.lt_of_lt_of_le h.1 hb.size) (fun o => hb.cell (p := ⟨g, o, none⟩) h.1) (fun o => hb.frozen (p := ⟨g, o, none⟩) h.1)
theorem RowU.sts {w : World} {g C : Nat} {ps : List Sx} (h : RowU w g ps) (hC : g < C) : Sts w C (some ⟨g, 0, none⟩) ps := fun _ =>
  ⟨g, 0, rfl, hC, fun j hj => by rw [Nat.zero_add]; exact h.2.1 j hj⟩

/-- All of them short enough. -/
def ShortSs (ps : List Sx) : Prop := ∀ p ∈ ps, p.2.1.size ≤ maxLen ∧ p.2.2.1.size ≤ maxLen ∧ p.2.2.2.size ≤ maxLen
theorem ShortSs.at {ps : List Sx} (h : ShortSs ps) (k : Nat) (hk : k < ps.length) : (ps[k]).2.1.size ≤ maxLen ∧ (ps[k]).2.2.1.size ≤ maxLen ∧ (ps[k]).2.2.2.size ≤ maxLen := h _ (List.getElem_mem hk)

theorem info_set : (Try.prog.info? 93).map (fun i => (i.zero, i.size, i.bytes)) = some (some (.agg #[.bool false, .string ByteArray.empty, .string ByteArray.empty, .string ByteArray.empty]), 4, 56) := by kernel_rfl
theorem run_make_sets (n : Nat) (hn : n ≤ 1048576) (w : World) :
    (Instr.makeSlice 54 (.int .i64 (n : Int)) (.int .i64 (n : Int))).run Try.prog w = .ok (.slice (some ⟨w.heap.size, 0, none⟩) n n) (w.alloc (.cells (madeCells #[.bool false, .string ByteArray.empty, .string ByteArray.empty, .string ByteArray.empty] (n * 4)) 93)) := by
  obtain ⟨i, hi, hz, hs, hb⟩ := info_parts info_set
  have hr := run_make (P := Try.prog) w 54 93 i _ Try.underlying54 hi hz .i64 .i64 n n (by omega) (Int.le_refl _) (by rw [hb]; omega) (by omega)
  simp only [Int.toNat_natCast, hs] at hr
  exact hr

/-- What is made so far of a row of them. -/
def MadeU (w : World) (g : Nat) (ps : List Sx) (k : Nat) : Prop := ∃ F : Nat → Value, w.rowIs g 93 (ps.length * 4) F ∧ ∀ j (hj : j < ps.length), j < k → F (j * 4) = .bool ps[j].1 ∧ F (j * 4 + 1) = .string ps[j].2.1 ∧ F (j * 4 + 2) = .string ps[j].2.2.1 ∧ F (j * 4 + 3) = .string ps[j].2.2.2
theorem MadeU.start (w : World) (ps : List Sx) : MadeU (w.alloc (.cells (madeCells #[.bool false, .string ByteArray.empty, .string ByteArray.empty, .string ByteArray.empty] (ps.length * 4)) 93)) w.heap.size ps 0 := by
  have hr := World.rowIs_alloc w (madeCells #[.bool false, .string ByteArray.empty, .string ByteArray.empty, .string ByteArray.empty] (ps.length * 4)) 93 (fun i => ((madeCells #[.bool false, .string ByteArray.empty, .string ByteArray.empty, .string ByteArray.empty] (ps.length * 4))[i]?).getD (.bool false)) (fun i hi => by rw [Array.getElem?_eq_getElem hi]; rfl)
  rw [size_madeCells] at hr
  exact ⟨_, hr, fun j _ hj => absurd hj (Nat.not_lt_zero _)⟩
theorem MadeU.below {w w1 : World} {g : Nat} {ps : List Sx} {k : Nat} (m : MadeU w g ps k) (hb : Below w.heap.size w w1) : MadeU w1 g ps k := by
  obtain ⟨F, hr, hj⟩ := m
  exact ⟨F, hr.of_block (w' := w1) (hb.block _ hr.lt), hj⟩
theorem MadeU.lt {w : World} {g : Nat} {ps : List Sx} {k : Nat} (m : MadeU w g ps k) : g < w.heap.size := by obtain ⟨F, hr, _⟩ := m; exact hr.lt
theorem MadeU.cells {w : World} {g : Nat} {ps : List Sx} {k : Nat} (m : MadeU w g ps k) (hk : k < ps.length) : ∃ v0 v1 v2 v3, w.cell? ⟨g, k * 4, none⟩ = some v0 ∧ w.cell? ⟨g, k * 4 + 1, none⟩ = some v1 ∧ w.cell? ⟨g, k * 4 + 2, none⟩ = some v2 ∧ w.cell? ⟨g, k * 4 + 3, none⟩ = some v3 ∧ w.frozen? ⟨g, k * 4, none⟩ = false ∧ w.frozen? ⟨g, k * 4 + 1, none⟩ = false ∧ w.frozen? ⟨g, k * 4 + 2, none⟩ = false ∧ w.frozen? ⟨g, k * 4 + 3, none⟩ = false := by
  obtain ⟨F, hr, _⟩ := m
  exact ⟨_, _, _, _, hr.cell (by omega), hr.cell (by omega), hr.cell (by omega), hr.cell (by omega), hr.frozen _, hr.frozen _, hr.frozen _, hr.frozen _⟩
theorem MadeU.next {w : World} {g : Nat} {ps : List Sx} {k : Nat} (m : MadeU w g ps k) (hk : k < ps.length) : MadeU ((((w.setCell ⟨g, k * 4, none⟩ (.bool ps[k].1)).setCell ⟨g, k * 4 + 1, none⟩ (.string ps[k].2.1)).setCell ⟨g, k * 4 + 2, none⟩ (.string ps[k].2.2.1)).setCell ⟨g, k * 4 + 3, none⟩ (.string ps[k].2.2.2)) g ps (k + 1) := by
  obtain ⟨F, hr, hj⟩ := m
  refine ⟨_, (((hr.set (k * 4) (.bool ps[k].1)).set (k * 4 + 1) (.string ps[k].2.1)).set (k * 4 + 2) (.string ps[k].2.2.1)).set (k * 4 + 3) (.string ps[k].2.2.2), fun j hjl hjk => ?_⟩
  by_cases e : j = k
  · subst e
    refine ⟨?_, ?_, ?_, ?_⟩ <;> simp
  · obtain ⟨e0, e1, e2, e3⟩ := hj j hjl (by omega)
    refine ⟨?_, ?_, ?_, ?_⟩
    · simp only [show ¬ j * 4 = k * 4 + 3 by omega, show ¬ j * 4 = k * 4 + 2 by omega, show ¬ j * 4 = k * 4 + 1 by omega, show ¬ j * 4 = k * 4 by omega, if_false]; exact e0
    · simp only [show ¬ j * 4 + 1 = k * 4 + 3 by omega, show ¬ j * 4 + 1 = k * 4 + 2 by omega, show ¬ j * 4 + 1 = k * 4 + 1 by omega, show ¬ j * 4 + 1 = k * 4 by omega, if_false]; exact e1
    · simp only [show ¬ j * 4 + 2 = k * 4 + 3 by omega, show ¬ j * 4 + 2 = k * 4 + 2 by omega, show ¬ j * 4 + 2 = k * 4 + 1 by omega, show ¬ j * 4 + 2 = k * 4 by omega, if_false]; exact e2
    · simp only [show ¬ j * 4 + 3 = k * 4 + 3 by omega, show ¬ j * 4 + 3 = k * 4 + 2 by omega, show ¬ j * 4 + 3 = k * 4 + 1 by omega, show ¬ j * 4 + 3 = k * 4 by omega, if_false]; exact e3
theorem MadeU.done {w : World} {g : Nat} {ps : List Sx} {k : Nat} (m : MadeU w g ps k) (hk : ¬ k < ps.length) : RowU w g ps := by
  obtain ⟨F, hr, hj⟩ := m
  refine ⟨hr.lt, fun j hjl => ?_, fun i => hr.frozen i⟩
  obtain ⟨e0, e1, e2, e3⟩ := hj j hjl (by omega)
  exact ⟨by rw [hr.cell (by omega), e0], by rw [hr.cell (by omega), e1], by rw [hr.cell (by omega), e2], by rw [hr.cell (by omega), e3]⟩
end Go.Proofs.Ytclnpfpaabmkcab
