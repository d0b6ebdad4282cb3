/-
  What is known of things, and things: no program in sight.
  Slices of what is known: what they hold, and that it stays.
  A row of what is known, made at once; with what PropsB says.
  Rows of texts, none of them frozen.
  Slices of things: what they hold, and that it stays.
  Rows of things that grow.
  What spec.l1Once does.
  Steps of draws: a text, a coin; what is stored besides leaves the cursor.
  'append([]impl.Prop{}, l...)' of whatever slice of what is known.
  'append([]impl.Prop{}, l...)' of whatever slice of what is known.
  Rows of what is known that the call itself made: one more behind, and what they hold.
  Plain facts on the order of texts and of lists of texts: no program in sight.
-/
import GoSem.Op.String
import Derived.Test.YtifnolomekhmfaaGreatHide
import Derived.Test.YtifnolomekhmfaaGreatRows
import Derived.WalkKit
import Derived.WalkSpells
import Derived.WalkLawsBesides
import Derived.Deep.Light
import Derived.Deep.QuietTactic
import Derived.Deep.OwnRows
import Derived.Maps.AppendAt
import Derived.Laws.OwnMore
namespace Go.Proofs.YtifnolomekhmfaaGreat.M

/-- What is known: its space, its name, its value. -/
abbrev Pp := ByteArray × ByteArray × ByteArray
/-- A thing. -/
structure Rs where
  pa : List ByteArray
  co : Bool
  bo : ByteArray
  ve : Int
  ps : List Pp
deriving DecidableEq

def szP (p : Pp) : Nat := p.1.size + p.2.1.size + p.2.2.size
def sumP (ps : List Pp) : Nat := (ps.map szP).sum
theorem sumP_snoc (ps : List Pp) (k : Nat) (hk : k < ps.length) : sumP (ps.take (k + 1)) = sumP (ps.take k) + szP ps[k] := by
  unfold sumP
  rw [List.take_succ_eq_append_getElem hk, List.map_append, List.sum_append]
  simp only [List.map_cons, List.map_nil, List.sum_cons, List.sum_nil, Nat.add_zero]
theorem sumP_mem (ps : List Pp) (p : Pp) (h : p ∈ ps) : szP p ≤ sumP ps := by
  induction ps with
  | nil => cases h
  | cons x l ih =>
    simp only [sumP, List.map_cons, List.sum_cons] at *
    rcases List.mem_cons.1 h with rfl | h
    · omega
    · have := ih h; omega

def sameP (ss tt : List Pp) : Bool := decide (ss = tt)
theorem sameP_refl (ss : List Pp) : sameP ss ss = true := by simp [sameP]
theorem sameP_len {ss tt : List Pp} (h : ¬ ss.length = tt.length) : sameP ss tt = false := by
  simp only [sameP, decide_eq_false_iff_not]; intro e; exact h (by rw [e])
theorem sameP_not {ss tt : List Pp} (k : Nat) (h1 : k < ss.length) (h2 : k < tt.length) (h : ¬ ss[k] = tt[k]) : sameP ss tt = false := by
  simp only [sameP, decide_eq_false_iff_not]; intro e; subst e; exact h rfl
theorem sameP_all {ss tt : List Pp} (hl : ss.length = tt.length) (k : Nat) (hk : ¬ k < ss.length) (h : ss.take k = tt.take k) : sameP ss tt = true := by
  rw [List.take_of_length_le (by omega), List.take_of_length_le (by omega)] at h
  simp [sameP, h]
theorem take_sameP {ss tt : List Pp} (k : Nat) (h1 : k < ss.length) (h2 : k < tt.length) (h0 : ss.take k = tt.take k) (h : ss[k] = tt[k]) : ss.take (k + 1) = tt.take (k + 1) := by
  rw [List.take_succ_eq_append_getElem h1, List.take_succ_eq_append_getElem h2, h0, h]

def sumL (ss : List ByteArray) : Nat := (ss.map (·.size)).sum
def szR (r : Rs) : Nat := r.pa.length + sumL r.pa + r.bo.size + (r.ps.length + sumP r.ps)
def sumR (rs : List Rs) : Nat := (rs.map szR).sum
theorem sumR_snoc (rs : List Rs) (k : Nat) (hk : k < rs.length) : sumR (rs.take (k + 1)) = sumR (rs.take k) + szR rs[k] := by
  unfold sumR
  rw [List.take_succ_eq_append_getElem hk, List.map_append, List.sum_append]
  simp only [List.map_cons, List.map_nil, List.sum_cons, List.sum_nil, Nat.add_zero]
theorem sumR_mem (rs : List Rs) (r : Rs) (h : r ∈ rs) : szR r ≤ sumR rs := by
  induction rs with
  | nil => cases h
  | cons x l ih =>
    simp only [sumR, List.map_cons, List.sum_cons] at *
    rcases List.mem_cons.1 h with rfl | h
    · omega
    · have := ih h; omega

def sameT (ss tt : List Rs) : Bool := decide (ss = tt)
theorem sameT_refl (ss : List Rs) : sameT ss ss = true := by simp [sameT]
theorem sameT_len {ss tt : List Rs} (h : ¬ ss.length = tt.length) : sameT ss tt = false := by
  simp only [sameT, decide_eq_false_iff_not]; intro e; exact h (by rw [e])
theorem sameT_not {ss tt : List Rs} (k : Nat) (h1 : k < ss.length) (h2 : k < tt.length) (h : ¬ ss[k] = tt[k]) : sameT ss tt = false := by
  simp only [sameT, decide_eq_false_iff_not]; intro e; subst e; exact h rfl
theorem sameT_all {ss tt : List Rs} (hl : ss.length = tt.length) (k : Nat) (hk : ¬ k < ss.length) (h : ss.take k = tt.take k) : sameT ss tt = true := by
  rw [List.take_of_length_le (by omega), List.take_of_length_le (by omega)] at h
  simp [sameT, h]
theorem take_sameT {ss tt : List Rs} (k : Nat) (h1 : k < ss.length) (h2 : k < tt.length) (h0 : ss.take k = tt.take k) (h : ss[k] = tt[k]) : ss.take (k + 1) = tt.take (k + 1) := by
  rw [List.take_succ_eq_append_getElem h1, List.take_succ_eq_append_getElem h2, h0, h]
end Go.Proofs.YtifnolomekhmfaaGreat.M
namespace Go.Proofs.YtifnolomekhmfaaGreat
open Go.RowKit M

/-- One of them, at a place. -/
def PpAt (w : World) (b o : Nat) (p : Pp) : Prop := w.cell? ⟨b, o, none⟩ = some (.string p.1) ∧ w.cell? ⟨b, o + 1, none⟩ = some (.string p.2.1) ∧ w.cell? ⟨b, o + 2, none⟩ = some (.string p.2.2)
/-- What a slice of them holds, in a block below B. -/
def Pps (w : World) (B : Nat) (a : Option Addr) (ps : List Pp) : Prop :=
  0 < ps.length → ∃ b o, a = some ⟨b, o, none⟩ ∧ b < B ∧ ∀ j (hj : j < ps.length), PpAt w b (o + j * 3) ps[j]

theorem PpAt.of {w w' : World} {b o : Nat} {p : Pp} (h : PpAt w b o p) (e : ∀ o', w'.cell? ⟨b, o', none⟩ = w.cell? ⟨b, o', none⟩) : PpAt w' b o p := by
  unfold PpAt at *
  simp only [e]
  exact h
theorem Pps.of {w w' : World} {B : Nat} {a : Option Addr} {ps : List Pp} (h : Pps w B a ps) (e : ∀ b o, b < B → w'.cell? ⟨b, o, none⟩ = w.cell? ⟨b, o, none⟩) : Pps w' B a ps := fun h0 => by
  obtain ⟨b, o, ea, hb, hc⟩ := h h0
  exact ⟨b, o, ea, hb, fun j hj => (hc j hj).of (fun o' => e b o' hb)⟩
theorem Pps.below {w w' : World} {B C : Nat} {a : Option Addr} {ps : List Pp} (h : Pps w B a ps) (hb : Below C w w') (hB : B ≤ C) : Pps w' B a ps :=
  h.of (fun b o hbB => hb.cell (p := ⟨b, o, none⟩) (Nat.lt_of_lt_of_le hbB hB))
theorem Pps.mono {w : World} {B C : Nat} {a : Option Addr} {ps : List Pp} (h : Pps w B a ps) (hB : B ≤ C) : Pps w C a ps := fun h0 => by
  obtain ⟨b, o, e, hbB, hc⟩ := h h0
  exact ⟨b, o, e, Nat.lt_of_lt_of_le hbB hB, hc⟩
theorem Pps.nil (w : World) (B : Nat) (a : Option Addr) : Pps w B a [] := fun h => absurd h (Nat.lt_irrefl _)

/-- A row of them in block g, none of them frozen. -/
def RowP (w : World) (g : Nat) (ps : List Pp) : Prop := g < w.heap.size ∧ (∀ j (hj : j < ps.length), PpAt w g (j * 3) ps[j]) ∧ ∀ i, w.frozen? ⟨g, i, none⟩ = false
theorem RowP.of {w w' : World} {g : Nat} {ps : List Pp} (h : RowP w g ps) (hz : g < w'.heap.size) (e : ∀ o', w'.cell? ⟨g, o', none⟩ = w.cell? ⟨g, o', none⟩) (f : ∀ o', w'.frozen? ⟨g, o', none⟩ = w.frozen? ⟨g, o', none⟩) : RowP w' g ps :=
  ⟨hz, fun j hj => (h.2.1 j hj).of e, fun i => by rw [f]; exact h.2.2 i⟩
theorem RowP.below {w w' : World} {g : Nat} {ps : List Pp} (h : RowP w g ps) (hb : Below w.heap.size w w') : RowP w' g ps :=
  h.of (Nat.lt_of_lt_of_le h.1 hb.size) (fun o => hb.cell (p := ⟨g, o, none⟩) h.1) (fun o => hb.frozen (p := ⟨g, o, none⟩) h.1)
theorem RowP.pps {w : World} {g C : Nat} {ps : List Pp} (h : RowP w g ps) (hC : g < C) : Pps w C (some ⟨g, 0, none⟩) ps := fun _ =>
  ⟨g, 0, rfl, hC, fun j hj => by rw [Nat.zero_add]; exact h.2.1 j hj⟩

/-- Its room: a block of its own size, none of it frozen. -/
def Room (w : World) (g c : Nat) : Prop := ∃ cur : Array Value, w.heap[g]? = some (.cells cur 88 (0, 0)) ∧ cur.size = c * 3
theorem Room.of {w w' : World} {g c : Nat} (h : Room w g c) (e : w'.heap[g]? = w.heap[g]?) : Room w' g c := by
  obtain ⟨cur, h1, h2⟩ := h
  exact ⟨cur, e.trans h1, h2⟩
/-- A row with its room. -/
structure RowPC (w : World) (g c : Nat) (ps : List Pp) : Prop where
  rp : RowP w g ps
  rm : Room w g c
theorem RowPC.of {w w' : World} {g c : Nat} {ps : List Pp} (h : RowPC w g c ps) (hz : g < w'.heap.size) (e : w'.heap[g]? = w.heap[g]?) : RowPC w' g c ps := ⟨h.rp.of hz (fun o' => World.cell?_of_block (a := ⟨g, o', none⟩) e) (fun o' => by simp only [World.frozen?, e]), h.rm.of e⟩
theorem RowPC.below {w w' : World} {g c : Nat} {ps : List Pp} (h : RowPC w g c ps) (hb : Below w.heap.size w w') : RowPC w' g c ps :=
  h.of (Nat.lt_of_lt_of_le h.rp.1 hb.size) (hb.block g h.rp.1)
theorem setCell_block {w : World} {g : Nat} (p : Addr) (v : Value) (hp : p.block ≠ g) : (w.setCell p v).heap[g]? = w.heap[g]? := by
  simp [World.setCell, Array.getElem?_modify, hp]
theorem RowPC.setCell {w : World} {g c : Nat} {ps : List Pp} (h : RowPC w g c ps) (p : Addr) (v : Value) (hp : p.block ≠ g) : RowPC (w.setCell p v) g c ps :=
  h.of (by simpa using h.rp.1) (setCell_block p v hp)
/-- All of them short enough. -/
def ShortPs (ps : List Pp) : Prop := ∀ p ∈ ps, p.1.size ≤ maxLen ∧ p.2.1.size ≤ maxLen ∧ p.2.2.size ≤ maxLen
theorem ShortPs.at {ps : List Pp} (h : ShortPs ps) (k : Nat) (hk : k < ps.length) : (ps[k]).1.size ≤ maxLen ∧ (ps[k]).2.1.size ≤ maxLen ∧ (ps[k]).2.2.size ≤ maxLen := h _ (List.getElem_mem hk)

theorem strInjP {a b : ByteArray} (h : a.toList = b.toList) : a = b := by
  rw [ByteArray.toList_eq, ByteArray.toList_eq] at h
  exact ByteArray.ext (Array.ext' h)
theorem bcellP {W w1 : World} (hb : Below W.heap.size W w1) : (∀ b o, b < W.heap.size → w1.cell? ⟨b, o, none⟩ = W.cell? ⟨b, o, none⟩) ∧ (∀ b o, b < W.heap.size → w1.frozen? ⟨b, o, none⟩ = W.frozen? ⟨b, o, none⟩) :=
  ⟨fun b o h => hb.cell (p := ⟨b, o, none⟩) h, fun b o h => hb.frozen (p := ⟨b, o, none⟩) h⟩
theorem below_drewP {C : Nat} {w w' : World} (h : Below C w w') : Below C w w'.drew := ⟨h.os, h.tape, h.output, h.size, h.block⟩

theorem info_prop : (Tryz.prog.info? 88).map (fun i => (i.zero, i.size, i.bytes)) = some (some (.agg #[.string ByteArray.empty, .string ByteArray.empty, .string ByteArray.empty]), 3, 48) := by kernel_rfl
/-- What is made so far of a row of them. -/
def MadeP (w : World) (g : Nat) (ps : List Pp) (k : Nat) : Prop := ∃ F : Nat → Value, w.rowIs g 88 (ps.length * 3) F ∧ ∀ j (hj : j < ps.length), j < k → F (j * 3) = .string ps[j].1 ∧ F (j * 3 + 1) = .string ps[j].2.1 ∧ F (j * 3 + 2) = .string ps[j].2.2
theorem MadeP.start (w : World) (ps : List Pp) : MadeP (w.alloc (.cells (madeCells #[.string ByteArray.empty, .string ByteArray.empty, .string ByteArray.empty] (ps.length * 3)) 88)) w.heap.size ps 0 := by
  have hr := World.rowIs_alloc w (madeCells #[.string ByteArray.empty, .string ByteArray.empty, .string ByteArray.empty] (ps.length * 3)) 88 (fun i => ((madeCells #[.string ByteArray.empty, .string ByteArray.empty, .string ByteArray.empty] (ps.length * 3))[i]?).getD (.string ByteArray.empty)) (fun i hi => by rw [Array.getElem?_eq_getElem hi]; rfl)
  rw [size_madeCells] at hr
  exact ⟨_, hr, fun j _ hj => absurd hj (Nat.not_lt_zero _)⟩
theorem MadeP.below {w w1 : World} {g : Nat} {ps : List Pp} {k : Nat} (m : MadeP w g ps k) (hb : Below w.heap.size w w1) : MadeP w1 g ps k := by
  obtain ⟨F, hr, hj⟩ := m
  exact ⟨F, hr.of_block (w' := w1) (hb.block _ hr.lt), hj⟩
theorem MadeP.lt {w : World} {g : Nat} {ps : List Pp} {k : Nat} (m : MadeP w g ps k) : g < w.heap.size := by obtain ⟨F, hr, _⟩ := m; exact hr.lt
theorem MadeP.cells {w : World} {g : Nat} {ps : List Pp} {k : Nat} (m : MadeP w g ps k) (hk : k < ps.length) : ∃ v0 v1 v2, w.cell? ⟨g, k * 3, none⟩ = some v0 ∧ w.cell? ⟨g, k * 3 + 1, none⟩ = some v1 ∧ w.cell? ⟨g, k * 3 + 2, none⟩ = some v2 ∧ w.frozen? ⟨g, k * 3, none⟩ = false ∧ w.frozen? ⟨g, k * 3 + 1, none⟩ = false ∧ w.frozen? ⟨g, k * 3 + 2, none⟩ = false := by
  obtain ⟨F, hr, _⟩ := m
  exact ⟨_, _, _, hr.cell (by omega), hr.cell (by omega), hr.cell (by omega), hr.frozen _, hr.frozen _, hr.frozen _⟩
theorem MadeP.next {w : World} {g : Nat} {ps : List Pp} {k : Nat} (m : MadeP w g ps k) (hk : k < ps.length) : MadeP (((w.setCell ⟨g, k * 3, none⟩ (.string ps[k].1)).setCell ⟨g, k * 3 + 1, none⟩ (.string ps[k].2.1)).setCell ⟨g, k * 3 + 2, none⟩ (.string ps[k].2.2)) g ps (k + 1) := by
  obtain ⟨F, hr, hj⟩ := m
  refine ⟨_, ((hr.set (k * 3) (.string ps[k].1)).set (k * 3 + 1) (.string ps[k].2.1)).set (k * 3 + 2) (.string ps[k].2.2), fun j hjl hjk => ?_⟩
  by_cases e : j = k
  · subst e
    refine ⟨?_, ?_, ?_⟩ <;> simp
  · obtain ⟨e0, e1, e2⟩ := hj j hjl (by omega)
    refine ⟨?_, ?_, ?_⟩
    · simp only [show ¬ j * 3 = k * 3 + 2 by omega, show ¬ j * 3 = k * 3 + 1 by omega, show ¬ j * 3 = k * 3 by omega, if_false]; exact e0
    · simp only [show ¬ j * 3 + 1 = k * 3 + 2 by omega, show ¬ j * 3 + 1 = k * 3 + 1 by omega, show ¬ j * 3 + 1 = k * 3 by omega, if_false]; exact e1
    · simp only [show ¬ j * 3 + 2 = k * 3 + 2 by omega, show ¬ j * 3 + 2 = k * 3 + 1 by omega, show ¬ j * 3 + 2 = k * 3 by omega, if_false]; exact e2
theorem MadeP.done {w : World} {g : Nat} {ps : List Pp} {k : Nat} (m : MadeP w g ps k) (hk : ¬ k < ps.length) : RowP w g ps := by
  obtain ⟨F, hr, hj⟩ := m
  refine ⟨hr.lt, fun j hjl => ?_, fun i => hr.frozen i⟩
  obtain ⟨e0, e1, e2⟩ := hj j hjl (by omega)
  exact ⟨by rw [hr.cell (by omega), e0], by rw [hr.cell (by omega), e1], by rw [hr.cell (by omega), e2]⟩
theorem MadeP.doneC {w : World} {g : Nat} {ps : List Pp} {k : Nat} (m : MadeP w g ps k) (hk : ¬ k < ps.length) : RowPC w g ps.length ps := ⟨m.done hk, by
  obtain ⟨F, ⟨cur, h1, h2, _⟩, _⟩ := m
  exact ⟨cur, h1, h2⟩⟩
end Go.Proofs.YtifnolomekhmfaaGreat
namespace Go.Proofs.YtifnolomekhmfaaGreat
open Go.RowKit M
set_option linter.unusedVariables false

theorem run_make_props (n : Nat) (hn : n ≤ 1048576) (w : World) :
    (Instr.makeSlice 42 (.int .i64 (n : Int)) (.int .i64 (n : Int))).run Tryz.prog w = .ok (.slice (some ⟨w.heap.size, 0, none⟩) n n) (w.alloc (.cells (madeCells #[.string ByteArray.empty, .string ByteArray.empty, .string ByteArray.empty] (n * 3)) 88)) := by
  obtain ⟨i, hi, hz, hs, hb⟩ := info_parts info_prop
  have hr := run_make (P := Tryz.prog) w 42 88 i _ Tryz.underlying42 hi hz .i64 .i64 n n (by omega) (Int.le_refl _) (by rw [hb]; omega) (by omega)
  simp only [Int.toNat_natCast, hs] at hr
  exact hr
end Go.Proofs.YtifnolomekhmfaaGreat
namespace Go.Proofs.YtifnolomekhmfaaGreat
open Go.RowKit
set_option linter.unusedVariables false

/-- A row of n texts in block g, none of them frozen. -/
def RowS (w : World) (g : Nat) (ms : List ByteArray) : Prop := g < w.heap.size ∧ ∀ j (hj : j < ms.length), w.cell? ⟨g, j, none⟩ = some (.string ms[j]) ∧ w.frozen? ⟨g, j, none⟩ = false
theorem RowS.below {w w' : World} {g : Nat} {ms : List ByteArray} (h : RowS w g ms) (hb : Below w.heap.size w w') : RowS w' g ms := by
  refine ⟨Nat.lt_of_lt_of_le h.1 hb.size, fun j hj => ?_⟩
  rw [hb.cell (p := ⟨g, j, none⟩) h.1, hb.frozen (p := ⟨g, j, none⟩) h.1]
  exact h.2 j hj
theorem RowS.set {w : World} {g : Nat} {ms : List ByteArray} (h : RowS w g ms) (k : Nat) (hk : k < ms.length) (x : ByteArray) : RowS (w.setCell ⟨g, k, none⟩ (.string x)) g (ms.set k x) := by
  refine ⟨by simpa using h.1, fun j hj => ?_⟩
  have hj' : j < ms.length := by simpa using hj
  refine ⟨?_, by rw [World.frozen?_setCell]; exact (h.2 j hj').2⟩
  by_cases e : k = j
  · subst e
    rw [World.cell?_setCell_same _ _ _ (h.2 k hk).1]
    simp
  · have hne : (⟨g, k, none⟩ : Addr) ≠ ⟨g, j, none⟩ := fun e' => e (congrArg Addr.off e')
    rw [World.cell?_setCell_other _ _ _ _ hne, (h.2 j hj').1]
    simp [e]

theorem RowS.row {w : World} {N n : Nat} {ss : List ByteArray} {f : Nat → Value} (h : w.rowIs N 9 n f) (hn : ss.length ≤ n) (hf : ∀ j (hj : j < ss.length), f j = .string ss[j]) : RowS w N ss :=
  ⟨h.lt, fun j hj => ⟨by rw [h.cell (by omega), hf j hj], h.frozen j⟩⟩
theorem RowS.strs' {w : World} {g C : Nat} {ns : List ByteArray} (h : RowS w g ns) (hC : g < C) : Strs w C (some ⟨g, 0, none⟩) ns := fun _ =>
  ⟨g, 0, rfl, hC, fun j hj => by rw [Nat.zero_add]; exact (h.2 j hj).1⟩
end Go.Proofs.YtifnolomekhmfaaGreat
namespace Go.Proofs.YtifnolomekhmfaaGreat
open Go.RowKit M
set_option linter.unusedVariables false

/-- A thing at a place: its five cells. -/
def RsAt (w : World) (b o : Nat) (r : Rs) (pa : Option Addr) (pc : Nat) (qa : Option Addr) (qc : Nat) : Prop :=
  w.cell? ⟨b, o, none⟩ = some (.slice pa r.pa.length pc) ∧ w.cell? ⟨b, o + 1, none⟩ = some (.bool r.co) ∧ w.cell? ⟨b, o + 2, none⟩ = some (.string r.bo) ∧ w.cell? ⟨b, o + 3, none⟩ = some (.int .i64 r.ve) ∧ w.cell? ⟨b, o + 4, none⟩ = some (.slice qa r.ps.length qc)
/-- What its two slices hold, in blocks below B. -/
structure RsIn (w : World) (B : Nat) (r : Rs) (pa : Option Addr) (pc : Nat) (qa : Option Addr) (qc : Nat) : Prop where
  ph : Strs w B pa r.pa
  qh : Pps w B qa r.ps
  pl : r.pa.length ≤ pc
  ql : r.ps.length ≤ qc
  pm : pc ≤ maxLen
  qm : qc ≤ maxLen
  pn : pa = none → pc = 0
  qn : qa = none → qc = 0
/-- What a slice of things holds, in blocks below B. -/
def Rss (w : World) (B : Nat) (a : Option Addr) (rs : List Rs) : Prop :=
  0 < rs.length → ∃ b o, a = some ⟨b, o, none⟩ ∧ b < B ∧ ∀ j (hj : j < rs.length), ∃ pa pc qa qc, RsAt w b (o + j * 5) rs[j] pa pc qa qc ∧ RsIn w B rs[j] pa pc qa qc

theorem RsAt.of {w w' : World} {b o : Nat} {r : Rs} {pa : Option Addr} {pc : Nat} {qa : Option Addr} {qc : Nat} (h : RsAt w b o r pa pc qa qc) (e : ∀ o', w'.cell? ⟨b, o', none⟩ = w.cell? ⟨b, o', none⟩) : RsAt w' b o r pa pc qa qc := by
  unfold RsAt at *
  simp only [e]
  exact h
theorem Strs.of {w w' : World} {B : Nat} {a : Option Addr} {ss : List ByteArray} (h : Strs w B a ss) (e : ∀ b o, b < B → w'.cell? ⟨b, o, none⟩ = w.cell? ⟨b, o, none⟩) : Strs w' B a ss := fun h0 => by
  obtain ⟨b, o, ea, hb, hc⟩ := h h0
  exact ⟨b, o, ea, hb, fun j hj => (e b _ hb).trans (hc j hj)⟩
theorem RsIn.of {w w' : World} {B : Nat} {r : Rs} {pa : Option Addr} {pc : Nat} {qa : Option Addr} {qc : Nat} (h : RsIn w B r pa pc qa qc) (e : ∀ b o, b < B → w'.cell? ⟨b, o, none⟩ = w.cell? ⟨b, o, none⟩) : RsIn w' B r pa pc qa qc :=
  ⟨h.ph.of e, h.qh.of e, h.pl, h.ql, h.pm, h.qm, h.pn, h.qn⟩
theorem RsIn.mono {w : World} {B C : Nat} {r : Rs} {pa : Option Addr} {pc : Nat} {qa : Option Addr} {qc : Nat} (h : RsIn w B r pa pc qa qc) (hB : B ≤ C) : RsIn w C r pa pc qa qc :=
  ⟨h.ph.mono hB, h.qh.mono hB, h.pl, h.ql, h.pm, h.qm, h.pn, h.qn⟩
theorem RsIn.below {w w' : World} {B C : Nat} {r : Rs} {pa : Option Addr} {pc : Nat} {qa : Option Addr} {qc : Nat} (h : RsIn w B r pa pc qa qc) (hb : Below C w w') (hB : B ≤ C) : RsIn w' B r pa pc qa qc :=
  h.of (fun b o hbB => hb.cell (p := ⟨b, o, none⟩) (Nat.lt_of_lt_of_le hbB hB))
theorem Rss.of {w w' : World} {B : Nat} {a : Option Addr} {rs : List Rs} (h : Rss w B a rs) (e : ∀ b o, b < B → w'.cell? ⟨b, o, none⟩ = w.cell? ⟨b, o, none⟩) : Rss w' B a rs := fun h0 => by
  obtain ⟨b, o, ea, hb, hc⟩ := h h0
  refine ⟨b, o, ea, hb, fun j hj => ?_⟩
  obtain ⟨pa, pc, qa, qc, h1, h2⟩ := hc j hj
  exact ⟨pa, pc, qa, qc, h1.of (fun o' => e b o' hb), h2.of e⟩
theorem Rss.below {w w' : World} {B C : Nat} {a : Option Addr} {rs : List Rs} (h : Rss w B a rs) (hb : Below C w w') (hB : B ≤ C) : Rss w' B a rs :=
  h.of (fun b o hbB => hb.cell (p := ⟨b, o, none⟩) (Nat.lt_of_lt_of_le hbB hB))
theorem Rss.mono {w : World} {B C : Nat} {a : Option Addr} {rs : List Rs} (h : Rss w B a rs) (hB : B ≤ C) : Rss w C a rs := fun h0 => by
  obtain ⟨b, o, e, hbB, hc⟩ := h h0
  refine ⟨b, o, e, Nat.lt_of_lt_of_le hbB hB, fun j hj => ?_⟩
  obtain ⟨pa, pc, qa, qc, h1, h2⟩ := hc j hj
  exact ⟨pa, pc, qa, qc, h1, h2.mono hB⟩
theorem Rss.nil (w : World) (B : Nat) (a : Option Addr) : Rss w B a [] := fun h => absurd h (Nat.lt_irrefl _)
theorem Rss.drew {w : World} {B : Nat} {a : Option Addr} {rs : List Rs} (h : Rss w B a rs) : Rss w.drew B a rs := h.of (fun _ _ _ => rfl)
theorem Pps.drew {w : World} {B : Nat} {a : Option Addr} {ps : List Pp} (h : Pps w B a ps) : Pps w.drew B a ps := h.of (fun _ _ _ => rfl)
theorem Strs.drew {w : World} {B : Nat} {a : Option Addr} {ss : List ByteArray} (h : Strs w B a ss) : Strs w.drew B a ss := h.of (fun _ _ _ => rfl)
theorem RsIn.drew {w : World} {B : Nat} {r : Rs} {pa : Option Addr} {pc : Nat} {qa : Option Addr} {qc : Nat} (h : RsIn w B r pa pc qa qc) : RsIn w.drew B r pa pc qa qc := h.of (fun _ _ _ => rfl)

/-- All its parts short enough. -/
structure ShortRs (r : Rs) : Prop where
  pl : r.pa.length ≤ maxLen
  ps : Short r.pa
  bo : r.bo.size ≤ maxLen
  ql : r.ps.length ≤ maxLen
  qs : ShortPs r.ps
def ShortT (rs : List Rs) : Prop := ∀ r ∈ rs, ShortRs r
theorem ShortT.at {rs : List Rs} (h : ShortT rs) (k : Nat) (hk : k < rs.length) : ShortRs rs[k] := h _ (List.getElem_mem hk)

/-- The value of a thing. -/
def rsV (r : Rs) (pa : Option Addr) (pc : Nat) (qa : Option Addr) (qc : Nat) : Value := .agg #[.slice pa r.pa.length pc, .bool r.co, .string r.bo, .int .i64 r.ve, .slice qa r.ps.length qc]

theorem RowS.setCell {w : World} {g : Nat} {ms : List ByteArray} (h : RowS w g ms) (p : Addr) (v : Value) (hp : p.block ≠ g) : RowS (w.setCell p v) g ms := by
  refine ⟨by simpa using h.1, fun j hj => ⟨?_, ?_⟩⟩
  · rw [World.cell?_setCell_other _ _ _ _ (fun e => hp (congrArg Addr.block e))]; exact (h.2 j hj).1
  · rw [World.frozen?_setCell]; exact (h.2 j hj).2
theorem RowP.setCell {w : World} {g : Nat} {ps : List Pp} (h : RowP w g ps) (p : Addr) (v : Value) (hp : p.block ≠ g) : RowP (w.setCell p v) g ps :=
  h.of (by simpa using h.1) (fun o => World.cell?_setCell_other _ _ _ _ (fun e => hp (congrArg Addr.block e))) (fun o => World.frozen?_setCell _ _ _ _)

/-- A row of things that one call made: each slice in a block of its own; all from lo on and below hi. -/
structure OwnR (w : World) (lo hi g : Nat) (rs : List Rs) (pb qb : Nat → Nat) : Prop where
  gl : lo ≤ g
  gh : g < hi
  gs : g < w.heap.size
  fz : ∀ i, w.frozen? ⟨g, i, none⟩ = false
  cl : ∀ j (hj : j < rs.length), RsAt w g (j * 5) rs[j] (some ⟨pb j, 0, none⟩) rs[j].pa.length (some ⟨qb j, 0, none⟩) rs[j].ps.length
  rp : ∀ j (hj : j < rs.length), RowS w (pb j) rs[j].pa
  rq : ∀ j (hj : j < rs.length), RowP w (qb j) rs[j].ps
  bnd : ∀ j, j < rs.length → lo ≤ pb j ∧ pb j < qb j ∧ qb j < hi ∧ pb j ≠ g ∧ qb j ≠ g
  ord : ∀ i j, i < j → j < rs.length → pb i ≠ pb j ∧ pb i ≠ qb j ∧ qb i ≠ pb j ∧ qb i ≠ qb j

theorem OwnR.of {w w' : World} {lo hi g : Nat} {rs : List Rs} {pb qb : Nat → Nat} (h : OwnR w lo hi g rs pb qb) (hz : w.heap.size ≤ w'.heap.size) (e : ∀ b o, lo ≤ b → b < hi → b < w.heap.size → w'.cell? ⟨b, o, none⟩ = w.cell? ⟨b, o, none⟩) (f : ∀ b o, lo ≤ b → b < hi → b < w.heap.size → w'.frozen? ⟨b, o, none⟩ = w.frozen? ⟨b, o, none⟩) : OwnR w' lo hi g rs pb qb := by
  refine ⟨h.gl, h.gh, Nat.lt_of_lt_of_le h.gs hz, fun i => by rw [f g i h.gl h.gh h.gs]; exact h.fz i, fun j hj => (h.cl j hj).of (fun o' => e g o' h.gl h.gh h.gs), fun j hj => ?_, fun j hj => ?_, h.bnd, h.ord⟩
  · obtain ⟨b1, b2, b3, _, _⟩ := h.bnd j hj
    have hp := (h.rp j hj).1
    refine ⟨Nat.lt_of_lt_of_le hp hz, fun i hi => ?_⟩
    rw [e _ _ b1 (by omega) hp, f _ _ b1 (by omega) hp]
    exact (h.rp j hj).2 i hi
  · obtain ⟨b1, b2, b3, _, _⟩ := h.bnd j hj
    have hp := (h.rq j hj).1
    exact (h.rq j hj).of (Nat.lt_of_lt_of_le hp hz) (fun o => e _ o (by omega) b3 hp) (fun o => f _ o (by omega) b3 hp)
theorem OwnR.below {w w' : World} {lo hi g : Nat} {rs : List Rs} {pb qb : Nat → Nat} (h : OwnR w lo hi g rs pb qb) (hb : Below w.heap.size w w') : OwnR w' lo hi g rs pb qb :=
  h.of hb.size (fun b o _ _ hz => hb.cell (p := ⟨b, o, none⟩) hz) (fun b o _ _ hz => hb.frozen (p := ⟨b, o, none⟩) hz)
theorem OwnR.rss {w : World} {lo hi g C : Nat} {rs : List Rs} {pb qb : Nat → Nat} (h : OwnR w lo hi g rs pb qb) (hs : ∀ r ∈ rs, r.pa.length ≤ maxLen ∧ r.ps.length ≤ maxLen) (hC : hi ≤ C) : Rss w C (some ⟨g, 0, none⟩) rs := fun _ => by
  refine ⟨g, 0, rfl, Nat.lt_of_lt_of_le h.gh hC, fun j hj => ⟨_, _, _, _, by rw [Nat.zero_add]; exact h.cl j hj, ?_⟩⟩
  obtain ⟨b1, b2, b3, _, _⟩ := h.bnd j hj
  have := hs _ (List.getElem_mem hj)
  exact ⟨(h.rp j hj).strs' (by omega), (h.rq j hj).pps (by omega), Nat.le_refl _, Nat.le_refl _, this.1, this.2, (fun e => by cases e), (fun e => by cases e)⟩
theorem OwnR.nil (w : World) (lo hi g : Nat) (hl : lo ≤ g) (hh : g < hi) (hs : g < w.heap.size) (fz : ∀ i, w.frozen? ⟨g, i, none⟩ = false) : OwnR w lo hi g [] (fun _ => 0) (fun _ => 0) :=
  ⟨hl, hh, hs, fz, fun j hj => absurd hj (Nat.not_lt_zero _), fun j hj => absurd hj (Nat.not_lt_zero _), fun j hj => absurd hj (Nat.not_lt_zero _), fun j hj => absurd hj (Nat.not_lt_zero _), fun i j _ hj => absurd hj (Nat.not_lt_zero _)⟩

theorem info_res : (Tryz.prog.info? 62).map (fun i => (i.zero, i.size, i.bytes)) = some (some (.agg #[.slice none 0 0, .bool false, .string ByteArray.empty, .int .i64 0, .slice none 0 0]), 5, 80) := by kernel_rfl
end Go.Proofs.YtifnolomekhmfaaGreat
namespace Go.Proofs.YtifnolomekhmfaaGreat
open Go.RowKit M
set_option linter.unusedVariables false

/-- One thing of a growing row: its parts, the blocks of its two lists, their room. -/
structure RsT where
  r : Rs
  p : Nat
  pc : Nat
  q : Nat
  qc : Nat
def rsCells1 (t : RsT) : List Value := [.slice (some ⟨t.p, 0, none⟩) t.r.pa.length t.pc, .bool t.r.co, .string t.r.bo, .int .i64 t.r.ve, .slice (some ⟨t.q, 0, none⟩) t.r.ps.length t.qc]
def rsCells (ts : List RsT) : List Value := ts.flatMap rsCells1
theorem rsCells_length (ts : List RsT) : (rsCells ts).length = ts.length * 5 := by
  induction ts with
  | nil => rfl
  | cons t l ih => simp only [rsCells, List.flatMap_cons, List.length_append, List.length_cons] at *; rw [ih]; simp only [rsCells1, List.length_cons, List.length_nil]; omega
theorem rsCells_at (ts : List RsT) : ∀ j (hj : j < ts.length), (rsCells ts)[j * 5]? = some (.slice (some ⟨ts[j].p, 0, none⟩) ts[j].r.pa.length ts[j].pc) ∧ (rsCells ts)[j * 5 + 1]? = some (.bool ts[j].r.co) ∧ (rsCells ts)[j * 5 + 2]? = some (.string ts[j].r.bo) ∧ (rsCells ts)[j * 5 + 3]? = some (.int .i64 ts[j].r.ve) ∧ (rsCells ts)[j * 5 + 4]? = some (.slice (some ⟨ts[j].q, 0, none⟩) ts[j].r.ps.length ts[j].qc) := by
  induction ts with
  | nil => intro j hj; exact absurd hj (Nat.not_lt_zero _)
  | cons t l ih =>
    intro j hj
    have e : rsCells (t :: l) = rsCells1 t ++ rsCells l := by simp [rsCells]
    rw [e]
    match j, hj with
    | 0, _ => simp [rsCells1]
    | j + 1, hj =>
      have h1 := ih j (by simpa using hj)
      have hl : (rsCells1 t).length = 5 := rfl
      rw [List.getElem?_append_right (by rw [hl]; omega), List.getElem?_append_right (by rw [hl]; omega), List.getElem?_append_right (by rw [hl]; omega), List.getElem?_append_right (by rw [hl]; omega), List.getElem?_append_right (by rw [hl]; omega), hl]
      rw [show (j + 1) * 5 - 5 = j * 5 by omega, show (j + 1) * 5 + 1 - 5 = j * 5 + 1 by omega, show (j + 1) * 5 + 2 - 5 = j * 5 + 2 by omega, show (j + 1) * 5 + 3 - 5 = j * 5 + 3 by omega, show (j + 1) * 5 + 4 - 5 = j * 5 + 4 by omega]
      simpa using h1

/-- A growing row: it is the call's own from B on, and so are its lists. -/
structure GrowR (w : World) (B : Nat) (v : Value) (ts : List RsT) (lo : Nat) : Prop where
  own : w.ownsRow B 62 5 v ts.length (rsCells ts)
  blk : ∃ g cap, v = .slice (some ⟨g, 0, none⟩) ts.length cap ∧ g < lo
  top : lo ≤ w.heap.size
  el : ∀ j (hj : j < ts.length), B ≤ ts[j].p ∧ ts[j].p < ts[j].q ∧ ts[j].q < lo ∧ RowS w ts[j].p ts[j].r.pa ∧ RowP w ts[j].q ts[j].r.ps ∧ some ts[j].p ≠ v.ownBlock ∧ some ts[j].q ≠ v.ownBlock
  ord : ∀ i j (hij : i < j) (hj : j < ts.length), (ts[i]'(by omega)).q < ts[j].p
  caps : ∀ j (hj : j < ts.length), ts[j].r.pa.length ≤ ts[j].pc ∧ ts[j].pc ≤ maxLen ∧ ts[j].r.ps.length ≤ ts[j].qc ∧ ts[j].qc ≤ maxLen
  room : ∀ j (hj : j < ts.length), Room w ts[j].q ts[j].qc

theorem GrowR.made (w : World) (B : Nat) (hB : B ≤ w.heap.size) : GrowR (w.alloc (Obj.cells #[] 62)) B (.slice (some ⟨w.heap.size, 0, none⟩) 0 0) [] (w.heap.size + 1) :=
  ⟨⟨rfl, .inr ⟨w.heap.size, 0, #[], rfl, hB, heap_alloc_new w _, Nat.le_refl _, Nat.zero_le _, rfl, rfl⟩⟩, ⟨_, _, rfl, Nat.lt_succ_self _⟩, by simp, fun j hj => absurd hj (Nat.not_lt_zero _), fun i j _ hj => absurd hj (Nat.not_lt_zero _), fun j hj => absurd hj (Nat.not_lt_zero _), fun j hj => absurd hj (Nat.not_lt_zero _)⟩
theorem GrowR.next {w w' : World} {B lo : Nat} {v : Value} {ts : List RsT} (g : GrowR w B v ts lo) (hb : Below w.heap.size w w') : GrowR w' B v ts lo := by
  refine ⟨⟨g.own.1, ?_⟩, g.blk, Nat.le_trans g.top hb.size, fun j hj => ?_, g.ord, g.caps, fun j hj => (g.room j hj).of (hb.block _ (g.el j hj).2.2.2.2.1.1)⟩
  · rcases g.own.2 with h | ⟨g, cap, cur, e, hB, hh, hr⟩
    · exact .inl h
    · exact .inr ⟨g, cap, cur, e, hB, (hb.block g (Array.getElem?_eq_some_iff.1 hh).1).trans hh, hr⟩
  · obtain ⟨h1, h2, h3, h4, h5, h6⟩ := g.el j hj
    exact ⟨h1, h2, h3, h4.below hb, h5.below hb, h6⟩
theorem rowsR_frozen {w : World} {g : Nat} {cur : Array Value} {e : TypeId} (hh : w.heap[g]? = some (.cells cur e (0, 0))) (i : Nat) : w.frozen? ⟨g, i, none⟩ = false := by
  simp only [World.frozen?, hh, Bool.and_eq_false_iff, decide_eq_false_iff_not]
  right
  omega
theorem GrowR.at {w : World} {B lo : Nat} {v : Value} {ts : List RsT} (g : GrowR w B v ts lo) {b cap : Nat} (hv : v = .slice (some ⟨b, 0, none⟩) ts.length cap) (j : Nat) (hj : j < ts.length) : RsAt w b (j * 5) ts[j].r (some ⟨ts[j].p, 0, none⟩) ts[j].pc (some ⟨ts[j].q, 0, none⟩) ts[j].qc := by
  subst hv
  obtain ⟨c0, c1, c2, c3, c4⟩ := rsCells_at ts j hj
  have hown := g.own
  refine ⟨?_, ?_, ?_, ?_, ?_⟩
  · rw [hown.cellAt (j * 5) (by omega)]; exact c0
  · rw [hown.cellAt (j * 5 + 1) (by omega)]; exact c1
  · rw [hown.cellAt (j * 5 + 2) (by omega)]; exact c2
  · rw [hown.cellAt (j * 5 + 3) (by omega)]; exact c3
  · rw [hown.cellAt (j * 5 + 4) (by omega)]; exact c4
/-- What was made, as a slice. -/
theorem GrowR.rss {w : World} {B lo C : Nat} {v : Value} {ts : List RsT} (g : GrowR w B v ts lo) (hC : w.heap.size ≤ C) : ∃ b cap, v = .slice (some ⟨b, 0, none⟩) ts.length cap ∧ Rss w C (some ⟨b, 0, none⟩) (ts.map (·.r)) := by
  obtain ⟨b, cap, hv, hb⟩ := g.blk
  have ht := g.top
  refine ⟨b, cap, hv, fun _ => ⟨b, 0, rfl, by omega, fun j hj => ?_⟩⟩
  have hj' : j < ts.length := by simpa using hj
  obtain ⟨h1, h2, h3, h4, h5, h6⟩ := g.el j hj'
  obtain ⟨k1, k2, k3, k4⟩ := g.caps j hj'
  simp only [List.getElem_map]
  exact ⟨_, _, _, _, by rw [Nat.zero_add]; exact g.at hv j hj', ⟨h4.strs' (by omega), h5.pps (by omega), k1, k3, k2, k4, (fun e => by cases e), (fun e => by cases e)⟩⟩
/-- What was made is its own, where each list has no room besides. -/
theorem GrowR.done {w : World} {B lo : Nat} {v : Value} {ts : List RsT} (g : GrowR w B v ts lo) (hc : ∀ j (hj : j < ts.length), ts[j].pc = ts[j].r.pa.length ∧ ts[j].qc = ts[j].r.ps.length) : ∃ b cap, v = .slice (some ⟨b, 0, none⟩) ts.length cap ∧ OwnR w B w.heap.size b (ts.map (·.r)) (fun j => if hj : j < ts.length then ts[j].p else 0) (fun j => if hj : j < ts.length then ts[j].q else 0) := by
  obtain ⟨b, cap, hv, hb⟩ := g.blk
  have hat := fun j hj => g.at hv j hj
  have hlt := g.own.lt b (by rw [hv]; rfl)
  have ht := g.top
  have hfz : ∀ i, w.frozen? ⟨b, i, none⟩ = false := by
    rcases g.own.2 with ⟨e, _⟩ | ⟨b', cap', cur, e, _, hh, _⟩
    · rw [hv] at e; cases e
    · rw [hv] at e; cases e; exact fun i => rowsR_frozen hh i
  refine ⟨b, cap, hv, hlt.1, hlt.2, hlt.2, hfz, fun j hj => ?_, fun j hj => ?_, fun j hj => ?_, fun j hj => ?_, fun i j hij hj => ?_⟩
  · have hj' : j < ts.length := by simpa using hj
    simp only [List.getElem_map, hj', dif_pos]
    have := hat j hj'
    rw [(hc j hj').1, (hc j hj').2] at this
    exact this
  · have hj' : j < ts.length := by simpa using hj
    simp only [List.getElem_map, hj', dif_pos]
    exact (g.el j hj').2.2.2.1
  · have hj' : j < ts.length := by simpa using hj
    simp only [List.getElem_map, hj', dif_pos]
    exact (g.el j hj').2.2.2.2.1
  · have hj' : j < ts.length := by simpa using hj
    obtain ⟨h1, h2, h3, h4, h5, h6, h7⟩ := g.el j hj'
    simp only [hj', dif_pos]
    exact ⟨h1, h2, by omega, fun e => h6 (by rw [e, hv]; rfl), fun e => h7 (by rw [e, hv]; rfl)⟩
  · have hj' : j < ts.length := by simpa using hj
    simp only [hj', show i < ts.length by omega, dif_pos]
    have o1 := g.ord i j hij hj'
    have o2 := (g.el i (by omega)).2.1
    have o3 := (g.el j hj').2.1
    exact ⟨by omega, by omega, by omega, by omega⟩

/-- 'l = append(l, x)'. -/
theorem wp_append_res {w : World} {ops : Array Oper} {rest : List Oper} {o : Oper} {a : Act} {Q : Exit → Act → World → Prop} (hgd : o.guard = none) (s x : Operand)
    (ho : o.op = .call { callee := .builtin .append, args := #[s, x], argTypes := #[24, 24] })
    (B lo : Nat) (v : Value) (ts : List RsT) (hs : a.eval s = v) (hown : GrowR w B v ts lo)
    (N : Nat) (t : RsT) (hx : a.eval x = .slice (some ⟨N, 0, none⟩) 1 1) (hc0 : RsAt w N 0 t.r (some ⟨t.p, 0, none⟩) t.pc (some ⟨t.q, 0, none⟩) t.qc)
    (hlen : ts.length + 1 ≤ 1000000000) (hBl : B ≤ lo) (hp : lo ≤ t.p) (hpq : t.p < t.q) (hr : RowS w t.p t.r.pa) (hrc : RowPC w t.q t.qc t.r.ps) (hcap : t.r.pa.length ≤ t.pc ∧ t.pc ≤ maxLen ∧ t.r.ps.length ≤ t.qc ∧ t.qc ≤ maxLen)
    (h : ∀ v' w', GrowR w' B v' (ts ++ [t]) w'.heap.size → Below B w w' → wpList Tryz.prog ops Q rest (a.put o.dst v') w') : wpList Tryz.prog ops Q (o :: rest) a w := by
  have hr2 := hrc.rp
  obtain ⟨i0, hi, hz0, hz1, hz2⟩ := info_parts info_res
  have hlt := World.ownsRow.lt hown.own
  obtain ⟨g0, cap0, hv0, hg0⟩ := hown.blk
  have l2 := hown.top
  refine wpList_append_own_at w hgd s x 24 ho B 62 i0 _ 5 80 Tryz.underlying24 hi hz0 hz1 hz2 rfl (by decide) v ts.length _ hs hown.own ⟨N, 0, none⟩ 1 1 (rsCells1 t) hx rfl ?_ ?_ ?_ ?_ (by omega) ?_
  · intro j u hj
    have e : ∀ k, (⟨N, 0, none⟩ : Addr).add k = ⟨N, k, none⟩ := fun k => by unfold Addr.add; split <;> simp_all
    rw [e]
    obtain ⟨c0, c1, c2, c3, c4⟩ := hc0
    simp only [Nat.zero_add] at c0 c1 c2 c3 c4
    unfold rsCells1 at hj
    match j, hj with
    | 0, hj => simp at hj; subst hj; exact c0
    | 1, hj => simp at hj; subst hj; exact c1
    | 2, hj => simp at hj; subst hj; exact c2
    | 3, hj => simp at hj; subst hj; exact c3
    | 4, hj => simp at hj; subst hj; exact c4
  · intro u hu
    simp only [rsCells1, List.mem_cons, List.not_mem_nil, or_false] at hu
    rcases hu with rfl | rfl | rfl | rfl | rfl <;> rfl
  · unfold maxLen; omega
  · omega
  · intro v' w' ho' hg _ hat
    obtain ⟨g, cap, rfl⟩ : ∃ g cap, v' = .slice (some ⟨g, 0, none⟩) (ts.length + 1) cap := by
      rcases ho'.2 with ⟨_, h0⟩ | ⟨g, cap, cur, hv, _⟩
      · omega
      · exact ⟨g, cap, hv⟩
    subst hv0
    have hat' : g = g0 ∨ g = w.heap.size := by
      rcases hat with e | e
      · exact .inl (Option.some.inj e)
      · exact .inr (Option.some.inj e)
    have hblk : ∀ b, b < w.heap.size → b ≠ g0 → w'.heap[b]? = w.heap[b]? := fun b hb hne => hg.block b hb (fun e => hne (Option.some.inj e))
    have hkS : ∀ b l, RowS w b l → b ≠ g0 → RowS w' b l := fun b l hb hne => by
      have e := hblk b hb.1 hne
      refine ⟨Nat.lt_of_lt_of_le hb.1 hg.size, fun j hj => ?_⟩
      simp only [World.cell?, World.frozen?, e]
      exact hb.2 j hj
    have hkP : ∀ b l, RowP w b l → b ≠ g0 → RowP w' b l := fun b l hb hne => by
      have e := hblk b hb.1 hne
      exact hb.of (Nat.lt_of_lt_of_le hb.1 hg.size) (fun o => by simp only [World.cell?, e]) (fun o => by simp only [World.frozen?, e])
    have hgw : g < w'.heap.size := by
      have ho2 : w'.ownsRow B 62 5 (.slice (some ⟨g, 0, none⟩) (ts.length + 1) cap) (ts.length + 1) (rsCells ts ++ rsCells1 t) := ho'
      exact (ho2.lt g rfl).2
    have hz := hg.size
    have hl' : (ts ++ [t]).length = ts.length + 1 := by simp
    refine h _ w' ⟨?_, ⟨g, cap, by rw [hl'], hgw⟩, Nat.le_refl _, fun j hj => ?_, fun i j hij hj => ?_, fun j hj => ?_, fun j hj => ?_⟩ ⟨hg.os, hg.tape, hg.output, hg.size, fun k hk => hg.block k (by omega) (fun e => by have := (hlt k e.symm).1; omega)⟩
    · have e : rsCells (ts ++ [t]) = rsCells ts ++ rsCells1 t := by simp [rsCells]
      rw [e, hl']
      exact ho'
    · by_cases e : j < ts.length
      · rw [List.getElem_append_left e]
        obtain ⟨h1, h2, h3, h4, h5, h6, h7⟩ := hown.el j e
        have hne : ts[j].p ≠ g0 := fun e' => h6 (by rw [e']; rfl)
        have hne2 : ts[j].q ≠ g0 := fun e' => h7 (by rw [e']; rfl)
        have := h4.1
        have := h5.1
        refine ⟨h1, h2, by omega, hkS _ _ h4 hne, hkP _ _ h5 hne2, fun e' => ?_, fun e' => ?_⟩
        · have : ts[j].p = g := Option.some.inj e'
          rcases hat' with e2 | e2 <;> omega
        · have : ts[j].q = g := Option.some.inj e'
          rcases hat' with e2 | e2 <;> omega
      · have ej : j = ts.length := by omega
        subst ej
        rw [List.getElem_append_right (Nat.le_refl _)]
        simp only [Nat.sub_self, List.getElem_cons_zero]
        have hr1 := hr.1
        have hr21 := hr2.1
        refine ⟨by omega, hpq, by omega, hkS _ _ hr (by omega), hkP _ _ hr2 (by omega), fun e' => ?_, fun e' => ?_⟩
        · have : t.p = g := Option.some.inj e'
          rcases hat' with e2 | e2 <;> omega
        · have : t.q = g := Option.some.inj e'
          rcases hat' with e2 | e2 <;> omega
    · by_cases e : j < ts.length
      · rw [List.getElem_append_left e, List.getElem_append_left (by omega)]
        exact hown.ord i j hij e
      · have ej : j = ts.length := by omega
        subst ej
        rw [List.getElem_append_right (Nat.le_refl _), List.getElem_append_left hij]
        simp only [Nat.sub_self, List.getElem_cons_zero]
        have := (hown.el i hij).2.2.1
        omega
    · by_cases e : j < ts.length
      · rw [List.getElem_append_left e]; exact hown.caps j e
      · have ej : j = ts.length := by omega
        subst ej
        rw [List.getElem_append_right (Nat.le_refl _)]
        simp only [Nat.sub_self, List.getElem_cons_zero]
        exact hcap
    · by_cases e : j < ts.length
      · rw [List.getElem_append_left e]
        obtain ⟨h1, h2, h3, h4, h5, h6, h7⟩ := hown.el j e
        have hne2 : ts[j].q ≠ g0 := fun e' => h7 (by rw [e']; rfl)
        exact (hown.room j e).of (hblk _ h5.1 hne2)
      · have ej : j = ts.length := by omega
        subst ej
        rw [List.getElem_append_right (Nat.le_refl _)]
        simp only [Nat.sub_self, List.getElem_cons_zero]
        exact hrc.rm.of (hblk _ hr2.1 (by omega))
end Go.Proofs.YtifnolomekhmfaaGreat
namespace Go.Proofs.YtifnolomekhmfaaGreat
open Go.RowKit M

set_option maxHeartbeats 400000 in
theorem l1Once_any (N : Nat) (a : Option Addr) (len cap : Nat) (zs : List Int) (c : St) (n : Int) (w : World) (hc : Cur w N (.slice a len cap) c) (hd : CodeAt w a len zs) (hbN : 0 < len → ∀ b off, a = some ⟨b, off, none⟩ → b < N) (hlen : len ≤ 1048576) (hn : 0 < n) (hn2 : n ≤ 1000000) :
    Calls Tryz.prog 55 #[.pointer (some ⟨N, 0, none⟩), .int .i64 n] w fun e w' => e = .returned (.bool (belowV zs len c n == 0)) ∧ Cur w' N (.slice a len cap) (belowS len c n) ∧ w.grownBy w' (some N) := by
  have HB : Hid (∀ W, Cur W N (.slice a len cap) c → CodeAt W a len zs → Calls Tryz.prog 66 #[.pointer (some ⟨N, 0, none⟩), .int .i64 n] W fun e w' => e = .returned (.int .i64 (belowV zs len c n)) ∧ Cur w' N (.slice a len cap) (belowS len c n) ∧ W.grownBy w' (some N)) :=
    fun W h1 h2 => l1Below_any N a len cap zs c n W h1 h2 hbN hlen hn hn2
  have HC : Hid (Cur w N (.slice a len cap) c) := hc
  have HD : Hid (CodeAt w a len zs) := hd
  clear hbN hc hd
  generalize belowV zs len c n = v at *
  go_enter Tryz.func55, Tryz.ntmps55
  go_wp2_with (go_at_call 66; refine (HB.out _ HC.out HD.out).mono ?_; rintro e w1 ⟨rfl, hc1, hg1⟩)
  go_ret
  exact ⟨rfl, hc1, hg1⟩
end Go.Proofs.YtifnolomekhmfaaGreat
namespace Go.Proofs.YtifnolomekhmfaaGreat
open Go.RowKit M
set_option linter.unusedVariables false

theorem strNewQ {w : World} {N : Nat} {a : Option Addr} {len cap : Nat} {zs : List Int} (h : DX w N a len cap zs) (z : Nat) (ss : List ByteArray) (C : Array Value) (T : TypeId) (n M : Nat) (hM : M = w.heap.size) (hC : C = (ss.map Value.string).toArray) (hn : ss.length = n) (h0 : 0 < n) (h1 : n ≤ 256) (hz : ∀ s ∈ ss, s.size ≤ z) :
    Calls Tryz.prog 65 #[.pointer (some ⟨N, 0, none⟩), .slice (some ⟨M, 0, none⟩) n n] (w.alloc (.cells C T)) fun e w' => (∃ s : ByteArray, e = .returned (.string s) ∧ s.size ≤ z) ∧ DX w' N a len cap zs ∧ w.grownBy w' (some N) := by
  obtain ⟨c, h⟩ := h
  refine (strNew h ss C T n M hM hC hn h0 h1).mono ?_
  rintro e w1 ⟨rfl, hd, hg⟩
  exact ⟨⟨_, rfl, getD_mem ss _ _ (fun s => s.size ≤ z) hz (Nat.zero_le _)⟩, ⟨_, hd⟩, hg⟩
theorem l1OnceQ {w : World} {N : Nat} {a : Option Addr} {len cap : Nat} {zs : List Int} (h : DX w N a len cap zs) (n : Int) (hn : 0 < n) (hn2 : n ≤ 1000000) :
    Calls Tryz.prog 55 #[.pointer (some ⟨N, 0, none⟩), .int .i64 n] w fun e w' => (∃ b : Bool, e = .returned (.bool b)) ∧ DX w' N a len cap zs ∧ w.grownBy w' (some N) := by
  obtain ⟨c, h⟩ := h
  refine (l1Once_any N a len cap zs c n w h.cur h.code h.bN h.hlen hn hn2).mono ?_
  rintro e w1 ⟨rfl, hc1, hg1⟩
  exact ⟨⟨_, rfl⟩, ⟨_, h.grown hg1 hc1⟩, hg1⟩
theorem DX.set {w : World} {N b k : Nat} {a : Option Addr} {len cap : Nat} {zs : List Int} (h : DX w N a len cap zs) (v : Value) (hb : N < b) : DX (w.setCell ⟨b, k, none⟩ v) N a len cap zs :=
  h.other (by simp) (fun i hi => Below.heap_setCell _ _ _ _ (by show i ≠ b; omega))
theorem DX.below {w w' : World} {N : Nat} {a : Option Addr} {len cap : Nat} {zs : List Int} (h : DX w N a len cap zs) (hb : Below w.heap.size w w') : DX w' N a len cap zs :=
  h.other hb.size (fun i hi => hb.block i (by have := h.lt; omega))
theorem grown_setQ {a b : World} {N k : Nat} {p : Nat} (h : a.grownBy b (some N)) (v : Value) (hp : a.heap.size ≤ p) : a.grownBy (b.setCell ⟨p, k, none⟩ v) (some N) :=
  ⟨h.os, h.tape, h.output, by simpa using h.size, fun i hi hne => (Below.heap_setCell _ _ _ _ (by show i ≠ p; omega)).trans (h.block i hi hne)⟩
theorem grown_belowQ {a b c : World} {N B : Nat} (h : a.grownBy b (some N)) (hb : Below B b c) (hB : a.heap.size ≤ B) : a.grownBy c (some N) :=
  ⟨hb.os.trans h.os, hb.tape.trans h.tape, hb.output.trans h.output, Nat.le_trans h.size hb.size, fun i hi hne => (hb.block i (by omega)).trans (h.block i hi hne)⟩

end Go.Proofs.YtifnolomekhmfaaGreat
namespace Go.Proofs.YtifnolomekhmfaaGreat
open Go.RowKit M
set_option linter.unusedVariables false

def ppCells (ps : List Pp) : List Value := ps.flatMap fun p => [.string p.1, .string p.2.1, .string p.2.2]
theorem ppCells_length (ps : List Pp) : (ppCells ps).length = ps.length * 3 := by
  induction ps with
  | nil => rfl
  | cons t l ih => simp only [ppCells, List.flatMap_cons, List.length_append, List.length_cons] at *; rw [ih]; simp only [List.length_nil]; omega
theorem ppCells_at (ps : List Pp) : ∀ j (hj : j < ps.length), (ppCells ps)[j * 3]? = some (.string ps[j].1) ∧ (ppCells ps)[j * 3 + 1]? = some (.string ps[j].2.1) ∧ (ppCells ps)[j * 3 + 2]? = some (.string ps[j].2.2) := by
  induction ps with
  | nil => intro j hj; exact absurd hj (Nat.not_lt_zero _)
  | cons t l ih =>
    intro j hj
    have e : ppCells (t :: l) = [.string t.1, .string t.2.1, .string t.2.2] ++ ppCells l := by simp [ppCells]
    rw [e]
    match j, hj with
    | 0, _ => simp
    | j + 1, hj =>
      have h1 := ih j (by simpa using hj)
      have hl : ([.string t.1, .string t.2.1, .string t.2.2] : List Value).length = 3 := rfl
      rw [List.getElem?_append_right (by rw [hl]; omega), List.getElem?_append_right (by rw [hl]; omega), List.getElem?_append_right (by rw [hl]; omega), hl]
      rw [show (j + 1) * 3 - 3 = j * 3 by omega, show (j + 1) * 3 + 1 - 3 = j * 3 + 1 by omega, show (j + 1) * 3 + 2 - 3 = j * 3 + 2 by omega]
      simpa using h1
theorem frozenP {w : World} {g : Nat} {cur : Array Value} {e : TypeId} (hh : w.heap[g]? = some (.cells cur e (0, 0))) (i : Nat) : w.frozen? ⟨g, i, none⟩ = false := by
  simp only [World.frozen?, hh, Bool.and_eq_false_iff, decide_eq_false_iff_not]
  right
  omega
theorem below_grownP {w w' : World} {B n : Nat} {v : Value} {xs : List Value} (hown : w.ownsRow B 88 3 v n xs) (hB : B ≤ w.heap.size) (hg : w.grownBy w' v.ownBlock) : Below B w w' :=
  ⟨hg.os, hg.tape, hg.output, hg.size, fun k hk => hg.block k (by omega) (fun e => by have := (World.ownsRow.lt hown k e.symm).1; omega)⟩
theorem owns_rowP {w : World} {B g n cap : Nat} {ps : List Pp} (h : w.ownsRow B 88 3 (.slice (some ⟨g, 0, none⟩) n cap) n (ppCells ps)) (hn : ps.length = n) : RowP w g ps ∧ B ≤ g ∧ n ≤ cap ∧ cap ≤ maxLen := by
  subst hn
  have hlt := h.lt g rfl
  rcases h.2 with ⟨e, _⟩ | ⟨g', cap', cur, hv, hB, hh, h1, h2, _⟩
  · cases e
  · cases hv
    refine ⟨⟨hlt.2, fun j hj => ?_, fun i => frozenP hh i⟩, hlt.1, h1, h2⟩
    obtain ⟨c0, c1, c2⟩ := ppCells_at ps j hj
    have hl := ppCells_length ps
    refine ⟨?_, ?_, ?_⟩
    · rw [h.cellAt (j * 3) (by omega)]; exact c0
    · rw [h.cellAt (j * 3 + 1) (by omega)]; exact c1
    · rw [h.cellAt (j * 3 + 2) (by omega)]; exact c2

theorem owns_roomP {w : World} {B g n cap : Nat} {xs : List Value} (h : w.ownsRow B 88 3 (.slice (some ⟨g, 0, none⟩) n cap) n xs) : Room w g cap := by
  rcases h.2 with ⟨e, _⟩ | ⟨g', cap', cur, hv, hB, hh, h1, h2, h3, _⟩
  · cases e
  · cases hv
    exact ⟨cur, hh, h3⟩
end Go.Proofs.YtifnolomekhmfaaGreat
namespace Go.Proofs.YtifnolomekhmfaaGreat
open Go.RowKit M
set_option linter.unusedVariables false

/-- The same, in a new row. -/
theorem wp_append_props {w : World} {ops : Array Oper} {rest : List Oper} {o : Oper} {a : Act} {Q : Exit → Act → World → Prop} (hgd : o.guard = none) (s x : Operand)
    (ho : o.op = .call { callee := .builtin .append, args := #[s, x], argTypes := #[42, 42] })
    (B g0 : Nat) (l : List Pp) (n : Nat) (hn : n = l.length) (hs : a.eval s = .slice (some ⟨g0, 0, none⟩) 0 0) (hown : w.ownsRow B 88 3 (.slice (some ⟨g0, 0, none⟩) 0 0) 0 [])
    (C : Nat) (pa : Option Addr) (pc : Nat) (hx : a.eval x = .slice pa n pc) (hst : Pps w C pa l) (hpn : pa = none → pc = 0) (hlen : n ≤ 1048576) (hB : B ≤ w.heap.size)
    (h : ∀ g cap w', RowPC w' g cap l → B ≤ g → n ≤ cap → cap ≤ maxLen → Below B w w' → wpList Tryz.prog ops Q rest (a.put o.dst (.slice (some ⟨g, 0, none⟩) n cap)) w') : wpList Tryz.prog ops Q (o :: rest) a w := by
  obtain ⟨i0, hi, hz0, hz1, hz2⟩ := info_parts info_prop
  cases pa with
  | none =>
    have h0 : n = 0 := by
      rw [hn]
      by_cases e : 0 < l.length
      · obtain ⟨_, _, e', _⟩ := hst e; cases e'
      · omega
    have hl : l = [] := List.length_eq_zero_iff.1 (by omega)
    subst hl h0
    rw [hpn rfl] at hx
    have hr := run_append_owned_none (P := Tryz.prog) (w := w) B 42 o.type 88 i0 3 Tryz.underlying42 hi _ _ _ hown
    refine wpList_plain hgd fun K hK => ?_
    unfold Oper.wp execOp
    simp only [ho, resolve, invoke, builtin, Sem.run_bind, Sem.run_pure, Result.andThen_ok, List.map_toArray, List.map_cons, List.map_nil, hs, hx, hr]
    obtain ⟨r1, r2, r3, r4⟩ := owns_rowP (ps := []) (n := 0) hown rfl
    exact hK _ _ (h g0 0 w ⟨r1, owns_roomP hown⟩ r2 r3 r4 (Below.refl _ _))
  | some ad =>
    refine wpList_append_own w hgd s x 42 ho B 88 i0 _ 3 48 Tryz.underlying42 hi hz0 hz1 hz2 rfl (by decide) _ 0 _ hs hown ad n pc (ppCells l) hx (by rw [ppCells_length, hn]) ?_ ?_ ?_ ?_ hB ?_
    · intro j u hj
      have hjl : j < l.length * 3 := by have := (List.getElem?_eq_some_iff.1 hj).1; rwa [ppCells_length] at this
      obtain ⟨b, o', e, _, hc⟩ := hst (by omega)
      have e' : ad = ⟨b, o', none⟩ := by cases e; rfl
      subst e'
      have e2 : (⟨b, o', none⟩ : Addr).add j = ⟨b, o' + j, none⟩ := by unfold Addr.add; split <;> simp_all
      rw [e2]
      obtain ⟨d0, d1, d2⟩ := hc (j / 3) (by omega)
      obtain ⟨c0, c1, c2⟩ := ppCells_at l (j / 3) (by omega)
      have e3 : j = j / 3 * 3 ∨ j = j / 3 * 3 + 1 ∨ j = j / 3 * 3 + 2 := by omega
      rcases e3 with e3 | e3 | e3
      · rw [← e3] at c0 d0; rw [d0, ← c0]; exact hj
      · rw [← e3] at c1; rw [show o' + j = o' + j / 3 * 3 + 1 by omega, d1, ← c1]; exact hj
      · rw [← e3] at c2; rw [show o' + j = o' + j / 3 * 3 + 2 by omega, d2, ← c2]; exact hj
    · intro u hu
      unfold ppCells at hu
      obtain ⟨y, _, hy⟩ := List.mem_flatMap.1 hu
      simp only [List.mem_cons, List.not_mem_nil, or_false] at hy
      rcases hy with rfl | rfl | rfl <;> rfl
    · unfold maxLen; omega
    · omega
    · intro v' w' ho' hg hnn
      rw [Nat.zero_add] at ho'
      obtain ⟨g, cap, rfl⟩ : ∃ g cap, v' = .slice (some ⟨g, 0, none⟩) n cap := by
        rcases ho'.2 with ⟨e, h0⟩ | ⟨g, cap, cur, hv, _⟩
        · have := (hnn.1 e).1; cases this
        · exact ⟨g, cap, hv⟩
      have ho2 : w'.ownsRow B 88 3 (.slice (some ⟨g, 0, none⟩) n cap) n (ppCells l) := ho'
      obtain ⟨r1, r2, r3, r4⟩ := owns_rowP ho2 hn.symm
      exact h g cap w' ⟨r1, owns_roomP ho2⟩ r2 r3 r4 (below_grownP hown hB hg)
end Go.Proofs.YtifnolomekhmfaaGreat
namespace Go.Proofs.YtifnolomekhmfaaGreat
open Go.RowKit M
set_option linter.unusedVariables false

theorem ppCells_append (ps ts : List Pp) : ppCells (ps ++ ts) = ppCells ps ++ ppCells ts := by simp [ppCells]
/-- A row that the call owns, or nil. -/
def OwnQ (w : World) (B : Nat) (v : Value) (ps : List Pp) : Prop := w.ownsRow B 88 3 v ps.length (ppCells ps)
theorem OwnQ.made (w : World) (B : Nat) (hB : B ≤ w.heap.size) : OwnQ (w.alloc (Obj.cells #[] 88)) B (.slice (some ⟨w.heap.size, 0, none⟩) 0 0) [] :=
  ⟨rfl, .inr ⟨w.heap.size, 0, #[], rfl, hB, heap_alloc_new w _, Nat.le_refl _, Nat.zero_le _, rfl, rfl⟩⟩
theorem OwnQ.nil (w : World) (B : Nat) : OwnQ w B (.slice none 0 0) [] := ⟨rfl, .inl ⟨rfl, rfl⟩⟩
theorem OwnQ.alloc {w : World} {B : Nat} {v : Value} {ps : List Pp} (h : OwnQ w B v ps) (o : Obj) : OwnQ (w.alloc o) B v ps := World.ownsRow.alloc h o
theorem OwnQ.next {w w' : World} {B : Nat} {v : Value} {ps : List Pp} (h : OwnQ w B v ps) (hb : Below w.heap.size w w') : OwnQ w' B v ps :=
  World.ownsRow.kept (row := none) h ⟨hb.os, hb.tape, hb.output, hb.size, fun k hk _ => hb.block k hk⟩ (Classical.em _)
theorem OwnQ.slice {w : World} {B : Nat} {v : Value} {ps : List Pp} (h : OwnQ w B v ps) : ∃ a cap, v = .slice a ps.length cap ∧ (a = none → cap = 0) ∧ Pps w w.heap.size a ps ∧ cap ≤ maxLen := by
  rcases h.2 with ⟨e, h0⟩ | ⟨g, cap, cur, hv, hB, hh, h1, h2, _⟩
  · have hl : ps = [] := List.length_eq_zero_iff.1 h0
    subst hl
    exact ⟨none, 0, e, fun _ => rfl, Pps.nil _ _ _, Nat.zero_le _⟩
  · subst hv
    refine ⟨some ⟨g, 0, none⟩, cap, rfl, (fun e => by cases e), fun h0 => ⟨g, 0, rfl, (World.ownsRow.lt h g rfl).2, fun j hj => ?_⟩, h2⟩
    obtain ⟨c0, c1, c2⟩ := ppCells_at ps j hj
    have hl := ppCells_length ps
    rw [Nat.zero_add]
    refine ⟨?_, ?_, ?_⟩
    · rw [World.ownsRow.cellAt h (j * 3) (by omega)]; exact c0
    · rw [World.ownsRow.cellAt h (j * 3 + 1) (by omega)]; exact c1
    · rw [World.ownsRow.cellAt h (j * 3 + 2) (by omega)]; exact c2
theorem OwnQ.base {w : World} {B C : Nat} {v : Value} {ps : List Pp} (h : OwnQ w B v ps) (hC : C ≤ B) : OwnQ w C v ps := by
  refine ⟨h.1, ?_⟩
  rcases h.2 with h | ⟨g, cap, cur, e, hB, hr⟩
  · exact .inl h
  · exact .inr ⟨g, cap, cur, e, Nat.le_trans hC hB, hr⟩
/-- A row with an address. -/
theorem OwnQ.row {w : World} {B : Nat} {g n cap : Nat} {ps : List Pp} (h : OwnQ w B (.slice (some ⟨g, 0, none⟩) n cap) ps) (hn : n = ps.length) : RowP w g ps ∧ B ≤ g ∧ n ≤ cap ∧ cap ≤ maxLen := by
  subst hn
  exact owns_rowP h rfl

/-- 'l = append(l, p)' on a row that the call owns. -/
theorem wp_append_prop {w : World} {ops : Array Oper} {rest : List Oper} {o : Oper} {a : Act} {Q : Exit → Act → World → Prop} (hgd : o.guard = none) (s x : Operand)
    (ho : o.op = .call { callee := .builtin .append, args := #[s, x], argTypes := #[42, 42] })
    (B : Nat) (v : Value) (l : List Pp) (hs : a.eval s = v) (hown : OwnQ w B v l)
    (N : Nat) (c : Pp) (hx : a.eval x = .slice (some ⟨N, 0, none⟩) 1 1) (hc0 : w.cell? ⟨N, 0, none⟩ = some (.string c.1)) (hc1 : w.cell? ⟨N, 1, none⟩ = some (.string c.2.1)) (hc2 : w.cell? ⟨N, 2, none⟩ = some (.string c.2.2)) (hlen : l.length + 1 ≤ 1099511627776) (hB : B ≤ w.heap.size)
    (h : ∀ g n cap w', n = (l ++ [c]).length → OwnQ w' B (.slice (some ⟨g, 0, none⟩) n cap) (l ++ [c]) → Below B w w' → wpList Tryz.prog ops Q rest (a.put o.dst (.slice (some ⟨g, 0, none⟩) n cap)) w') : wpList Tryz.prog ops Q (o :: rest) a w := by
  obtain ⟨i0, hi, hz0, hz1, hz2⟩ := info_parts info_prop
  refine wpList_append_own w hgd s x 42 ho B 88 i0 _ 3 48 Tryz.underlying42 hi hz0 hz1 hz2 rfl (by decide) v l.length _ hs hown ⟨N, 0, none⟩ 1 1 [.string c.1, .string c.2.1, .string c.2.2] hx rfl ?_ ?_ ?_ ?_ hB ?_
  · intro j u hj
    have e : ∀ k, (⟨N, 0, none⟩ : Addr).add k = ⟨N, k, none⟩ := fun k => by unfold Addr.add; split <;> simp_all
    rw [e]
    match j, hj with
    | 0, hj => simp at hj; subst hj; exact hc0
    | 1, hj => simp at hj; subst hj; exact hc1
    | 2, hj => simp at hj; subst hj; exact hc2
  · intro u hu; simp at hu; rcases hu with rfl | rfl | rfl <;> rfl
  · unfold maxLen; omega
  · omega
  · intro v' w' ho' hg _
    obtain ⟨g, cap, rfl⟩ : ∃ g cap, v' = .slice (some ⟨g, 0, none⟩) (l.length + 1) cap := by
      rcases ho'.2 with ⟨_, h0⟩ | ⟨g, cap, cur, hv, _⟩
      · omega
      · exact ⟨g, cap, hv⟩
    refine h g (l.length + 1) cap w' (by simp) ?_ (below_grownP hown hB hg)
    unfold OwnQ
    rw [ppCells_append, show (l ++ [c]).length = l.length + 1 by simp]
    exact ho'

/-- 'append([]impl.Prop{}, l...)', as a row that the call owns. -/
theorem wp_append_propsO {w : World} {ops : Array Oper} {rest : List Oper} {o : Oper} {a : Act} {Q : Exit → Act → World → Prop} (hgd : o.guard = none) (s x : Operand)
    (ho : o.op = .call { callee := .builtin .append, args := #[s, x], argTypes := #[42, 42] })
    (B g0 : Nat) (l : List Pp) (n : Nat) (hn : n = l.length) (hs : a.eval s = .slice (some ⟨g0, 0, none⟩) 0 0) (hown : w.ownsRow B 88 3 (.slice (some ⟨g0, 0, none⟩) 0 0) 0 [])
    (C : Nat) (pa : Option Addr) (pc : Nat) (hx : a.eval x = .slice pa n pc) (hst : Pps w C pa l) (hpn : pa = none → pc = 0) (hlen : n ≤ 1048576000) (hB : B ≤ w.heap.size)
    (h : ∀ g cap w', OwnQ w' B (.slice (some ⟨g, 0, none⟩) n cap) l → Below B w w' → wpList Tryz.prog ops Q rest (a.put o.dst (.slice (some ⟨g, 0, none⟩) n cap)) w') : wpList Tryz.prog ops Q (o :: rest) a w := by
  obtain ⟨i0, hi, hz0, hz1, hz2⟩ := info_parts info_prop
  cases pa with
  | none =>
    have h0 : n = 0 := by
      rw [hn]
      by_cases e : 0 < l.length
      · obtain ⟨_, _, e', _⟩ := hst e; cases e'
      · omega
    have hl : l = [] := List.length_eq_zero_iff.1 (by omega)
    subst hl h0
    rw [hpn rfl] at hx
    have hr := run_append_owned_none (P := Tryz.prog) (w := w) B 42 o.type 88 i0 3 Tryz.underlying42 hi _ _ _ hown
    refine wpList_plain hgd fun K hK => ?_
    unfold Oper.wp execOp
    simp only [ho, resolve, invoke, builtin, Sem.run_bind, Sem.run_pure, Result.andThen_ok, List.map_toArray, List.map_cons, List.map_nil, hs, hx, hr]
    exact hK _ _ (h g0 0 w hown (Below.refl _ _))
  | some ad =>
    refine wpList_append_own w hgd s x 42 ho B 88 i0 _ 3 48 Tryz.underlying42 hi hz0 hz1 hz2 rfl (by decide) _ 0 _ hs hown ad n pc (ppCells l) hx (by rw [ppCells_length, hn]) ?_ ?_ ?_ ?_ hB ?_
    · intro j u hj
      have hjl : j < l.length * 3 := by have := (List.getElem?_eq_some_iff.1 hj).1; rwa [ppCells_length] at this
      obtain ⟨b, o', e, _, hc⟩ := hst (by omega)
      have e' : ad = ⟨b, o', none⟩ := by cases e; rfl
      subst e'
      have e2 : (⟨b, o', none⟩ : Addr).add j = ⟨b, o' + j, none⟩ := by unfold Addr.add; split <;> simp_all
      rw [e2]
      obtain ⟨d0, d1, d2⟩ := hc (j / 3) (by omega)
      obtain ⟨c0, c1, c2⟩ := ppCells_at l (j / 3) (by omega)
      have e3 : j = j / 3 * 3 ∨ j = j / 3 * 3 + 1 ∨ j = j / 3 * 3 + 2 := by omega
      rcases e3 with e3 | e3 | e3
      · rw [← e3] at c0 d0; rw [d0, ← c0]; exact hj
      · rw [← e3] at c1; rw [show o' + j = o' + j / 3 * 3 + 1 by omega, d1, ← c1]; exact hj
      · rw [← e3] at c2; rw [show o' + j = o' + j / 3 * 3 + 2 by omega, d2, ← c2]; exact hj
    · intro u hu
      unfold ppCells at hu
      obtain ⟨y, _, hy⟩ := List.mem_flatMap.1 hu
      simp only [List.mem_cons, List.not_mem_nil, or_false] at hy
      rcases hy with rfl | rfl | rfl <;> rfl
    · unfold maxLen; omega
    · omega
    · intro v' w' ho' hg hnn
      rw [Nat.zero_add] at ho'
      obtain ⟨g, cap, rfl⟩ : ∃ g cap, v' = .slice (some ⟨g, 0, none⟩) n cap := by
        rcases ho'.2 with ⟨e, h0⟩ | ⟨g, cap, cur, hv, _⟩
        · have := (hnn.1 e).1; cases this
        · exact ⟨g, cap, hv⟩
      have ho2 : OwnQ w' B (.slice (some ⟨g, 0, none⟩) n cap) l := by
        unfold OwnQ
        rw [← hn]
        exact ho'
      exact h g cap w' ho2 (below_grownP hown hB hg)
end Go.Proofs.YtifnolomekhmfaaGreat
namespace Go.Proofs.YtifnolomekhmfaaGreat.M

/-- Whether a text comes ahead of another. -/
def lessT (a b : ByteArray) : Bool := Op.bytesLess a.toList b.toList

theorem bytesLess_irr : ∀ l : List UInt8, Op.bytesLess l l = false
  | [] => by simp [Op.bytesLess]
  | a :: l => by
    have := bytesLess_irr l
    simp [Op.bytesLess, this]
theorem lessT_irr (a : ByteArray) : lessT a a = false := bytesLess_irr _

theorem bytesLess_asym : ∀ l r : List UInt8, Op.bytesLess l r = true → Op.bytesLess r l = false
  | [], [], h => by simp [Op.bytesLess] at h
  | [], b :: r, _ => by simp [Op.bytesLess]
  | a :: l, [], h => by simp [Op.bytesLess] at h
  | a :: l, b :: r, h => by
    have ih := bytesLess_asym l r
    simp only [Op.bytesLess, Bool.or_eq_true, Bool.and_eq_true, decide_eq_true_eq, beq_iff_eq, Bool.or_eq_false_iff, decide_eq_false_iff_not, Bool.and_eq_false_iff] at *
    rcases h with h | ⟨rfl, h⟩
    · refine ⟨fun h' => ?_, .inl ?_⟩
      · have h1 : a.toNat < b.toNat := h
        have h2 : b.toNat < a.toNat := h'
        omega
      · rw [beq_eq_false_iff_ne]; rintro rfl; exact absurd h (by have : ¬ b.toNat < b.toNat := Nat.lt_irrefl _; exact this)
    · exact ⟨by have : ¬ a.toNat < a.toNat := Nat.lt_irrefl _; exact this, .inr (ih h)⟩
theorem lessT_asym (a b : ByteArray) (h : lessT a b = true) : lessT b a = false := bytesLess_asym _ _ h

theorem bytesLess_tri : ∀ l r : List UInt8, Op.bytesLess l r = false → Op.bytesLess r l = false → l = r
  | [], [], _, _ => rfl
  | [], b :: r, h, _ => by simp [Op.bytesLess] at h
  | a :: l, [], _, h => by simp [Op.bytesLess] at h
  | a :: l, b :: r, h, h' => by
    have ih := bytesLess_tri l r
    simp only [Op.bytesLess, Bool.or_eq_false_iff, decide_eq_false_iff_not, Bool.and_eq_false_iff] at h h'
    have e : a = b := by
      have h1 : ¬ a.toNat < b.toNat := h.1
      have h2 : ¬ b.toNat < a.toNat := h'.1
      exact UInt8.toNat_inj.1 (by omega)
    subst e
    rcases h.2 with h1 | h1
    · simp at h1
    · rcases h'.2 with h2 | h2
      · simp at h2
      · rw [ih h1 h2]

/-- How two texts stand: -1, 0 or 1. -/
def cmpT (a b : ByteArray) : Int := if lessT a b then -1 else if a = b then 0 else 1
theorem cmpT_same (a : ByteArray) : cmpT a a = 0 := by unfold cmpT; rw [lessT_irr]; simp
theorem cmpT_zero (a b : ByteArray) (h : cmpT a b = 0) : a = b := by
  unfold cmpT at h
  by_cases h1 : lessT a b = true
  · rw [if_pos h1] at h; omega
  · rw [if_neg h1] at h
    by_cases h2 : a = b
    · exact h2
    · rw [if_neg h2] at h; omega
theorem cmpT_neg (a b : ByteArray) : decide (cmpT a b < 0) = lessT a b := by
  unfold cmpT
  cases h : lessT a b
  · by_cases h2 : a = b
    · simp [h2]
    · simp [h2]
  · simp

/-- Whether a list of texts comes ahead of another: text by text, a beginning ahead. -/
def lessL : List ByteArray → List ByteArray → Bool
  | [], [] => false
  | [], _ :: _ => true
  | _ :: _, [] => false
  | x :: a, y :: b => if x = y then lessL a b else lessT x y

theorem lessL_irr : ∀ l, lessL l l = false
  | [] => rfl
  | x :: a => by rw [lessL, if_pos rfl]; exact lessL_irr a
theorem lessL_asym : ∀ a b, lessL a b = true → lessL b a = false
  | [], [], h => by simp [lessL] at h
  | [], _ :: _, _ => by simp [lessL]
  | _ :: _, [], h => by simp [lessL] at h
  | x :: a, y :: b, h => by
    rw [lessL] at h ⊢
    by_cases e : x = y
    · subst e; rw [if_pos rfl] at *; exact lessL_asym a b h
    · rw [if_neg e] at h; rw [if_neg (fun e' => e e'.symm)]; exact lessT_asym _ _ h

theorem lessL_step {a b : List ByteArray} (k : Nat) (h1 : k < a.length) (h2 : k < b.length) (e : a[k] = b[k]) : lessL (a.drop k) (b.drop k) = lessL (a.drop (k + 1)) (b.drop (k + 1)) := by
  rw [List.drop_eq_getElem_cons h1, List.drop_eq_getElem_cons h2, lessL, if_pos e]
theorem lessL_at {a b : List ByteArray} (k : Nat) (h1 : k < a.length) (h2 : k < b.length) (e : ¬ a[k] = b[k]) : lessL (a.drop k) (b.drop k) = lessT a[k] b[k] := by
  rw [List.drop_eq_getElem_cons h1, List.drop_eq_getElem_cons h2, lessL, if_neg e]
theorem lessL_end {a b : List ByteArray} (k : Nat) (h : ¬ (k < a.length ∧ k < b.length)) (ha : k ≤ a.length) (hb : k ≤ b.length) : lessL (a.drop k) (b.drop k) = decide (a.length < b.length) := by
  by_cases h1 : k < a.length
  · have e : k = b.length := by omega
    subst e
    rw [List.drop_eq_getElem_cons h1, List.drop_of_length_le (Nat.le_refl _), lessL]
    have : ¬ a.length < b.length := by omega
    simp [this]
  · have e : k = a.length := by omega
    subst e
    rw [List.drop_of_length_le (Nat.le_refl _)]
    by_cases h2 : a.length < b.length
    · rw [List.drop_eq_getElem_cons h2, lessL]; simp [h2]
    · rw [List.drop_of_length_le (by omega), lessL]; simp [h2]
end Go.Proofs.YtifnolomekhmfaaGreat.M
