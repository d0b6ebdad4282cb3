/-
  The leafs of texts and numbers.
  The leafs of what must be, and of lists of it.
  Boxes of several cells, and rows that are made one by one.
  Out of many choices a list.
  Rows that a call makes by append, of whatever elements: each has the same number of cells.
  What slices of what must be hold.
  How the specification tells lists, against how they are told.
  Rows of bytes that the call itself made: what string(b) gives of one; where the walk wants it.
  What the specification's NumText does.
  Two answers that are the same.
  What spec.l14Same does.
  Plain facts on small names: no program in sight.
-/
import Derived.Test.YtmgikfeknmbpbaaDoorGenOwn
import Derived.Test.YtmgikfeknmbpbaaDoorMathIf
import Derived.WalkKit
import Derived.Below
import Derived.Test.YtmgikfeknmbpbaaDoorHide
import Derived.Maps.AppendAt
import Derived.Deep.OwnRows
import Derived.Test.YtmgikfeknmbpbaaDoorRows
import Derived.WalkSpells
import Derived.WalkLawsBesides
import Derived.Deep.Light
import Derived.Lib.BufferWrite
import Derived.Laws.IdiomStrings
import Derived.Laws.BytesArg
import Derived.Test.YtmgikfeknmbpbaaDoorMathNum
import Derived.Laws.StructEq
import Derived.Deep.QuietTactic
import Derived.Test.YtmgikfeknmbpbaaDoorMath
namespace Go.Proofs.YtmgikfeknmbpbaaDoor
open Go.RowKit M
set_option linter.unusedVariables false

def dS (s : ByteArray) : List Lf := [.c (.string s)]
def dI (n : Int) : List Lf := [.c (.int .i64 n)]
def dB (n : Int) : List Lf := [.c (.int .u8 n)]
theorem cntRs_map {α : Type} (f : α → List Lf) (c : Nat) (h : ∀ x, cntR (f x) = c) (l : List α) : cntRs (l.map f) = c * l.length := by
  induction l with
  | nil => simp [cntRs]
  | cons x l ih => rw [List.map_cons, cntRs_cons, ih, h, List.length_cons, Nat.mul_add]; omega
theorem cnt_lenF {α : Type} (f : α → List Lf) (h : ∀ x, 1 ≤ cntR (f x)) (l : List α) : l.length ≤ cntRs (l.map f) := by
  induction l with
  | nil => simp
  | cons x l ih => rw [List.map_cons, cntRs_cons, List.length_cons]; have := h x; omega
theorem szRs_flat {α : Type} (f : α → List Lf) (h : ∀ x, szR (f x) = 0) (l : List α) : szRs (l.map f) = l.length := by
  induction l with
  | nil => simp [szRs]
  | cons x l ih => rw [List.map_cons, szRs_cons, ih, h, List.length_cons]; omega
theorem szRs_sub {a b : List (List Lf)} (h : List.Sublist a b) : szRs a ≤ szRs b := by
  induction h with
  | slnil => exact Nat.le_refl _
  | cons x _ ih => rw [szRs_cons]; omega
  | cons_cons x _ ih => rw [szRs_cons, szRs_cons]; omega
theorem okR_mem {r : List Lf} (h : okR r) (x : Lf) (hx : x ∈ r) : okF x := by
  induction r with
  | nil => cases hx
  | cons y r ih =>
    unfold okR at h
    rcases List.mem_cons.1 hx with rfl | hx
    · exact h.1
    · exact ih h.2 hx
theorem cnt_dS (l : List ByteArray) : cntRs (l.map dS) = l.length := by rw [cntRs_map dS 1 (fun _ => by simp [dS, cntR, cntF])]; omega
theorem cnt_dI (l : List Int) : cntRs (l.map dI) = l.length := by rw [cntRs_map dI 1 (fun _ => by simp [dI, cntR, cntF])]; omega
theorem cnt_dB (l : List Int) : cntRs (l.map dB) = l.length := by rw [cntRs_map dB 1 (fun _ => by simp [dB, cntR, cntF])]; omega
end Go.Proofs.YtmgikfeknmbpbaaDoor
namespace Go.Proofs.YtmgikfeknmbpbaaDoor
open Go.RowKit M

def dCn (x : Cn) : List Lf := [.c (.bool x.no), .c (.int .i64 x.tk), .c (.string x.tg)]
def dCs (l : List Cn) : List Lf := [.l (l.map dCn)]
end Go.Proofs.YtmgikfeknmbpbaaDoor
namespace Go.Proofs.YtmgikfeknmbpbaaDoor
open Go.RowKit M
set_option linter.unusedVariables false

/-- The blocks from l on, before u. -/
def IvG (l u : Nat) : Nat → Prop := fun x => l ≤ x ∧ x < u
theorem Own.up {w : World} {v : Value} {x : Lf} {l u l' u' : Nat} (h : Own w v x (IvG l u)) (h1 : l' ≤ l) (h2 : u ≤ u') : Own w v x (IvG l' u') :=
  h.wide (fun y hy => ⟨Nat.le_trans h1 hy.1, Nat.lt_of_lt_of_le hy.2 h2⟩)
theorem Own.vw {w : World} {v : Value} {x : Lf} {l u B : Nat} (h : Own w v x (IvG l u)) (hB : u ≤ B) : View w B v x := h.view (fun y hy => Nat.lt_of_lt_of_le hy.2 hB)
theorem View.turn {w w' : World} {v : Value} {x : Lf} {B : Nat} {S : Nat → Prop} (h : View w B v x) (t : Turn S w w') (hS : ∀ y, S y → B ≤ y) (hB : B ≤ w.heap.size) : View w' B v x :=
  h.stays (t.below hS hB) (Nat.le_refl _)
theorem bcellG {B : Nat} {W w1 : World} (hb : Below B W w1) : (∀ b o, b < B → w1.cell? ⟨b, o, none⟩ = W.cell? ⟨b, o, none⟩) ∧ (∀ b o, b < B → w1.frozen? ⟨b, o, none⟩ = W.frozen? ⟨b, o, none⟩) :=
  ⟨fun b o h => hb.cell (p := ⟨b, o, none⟩) h, fun b o h => hb.frozen (p := ⟨b, o, none⟩) h⟩
theorem below_drewG {w w' : World} {n : Nat} (hb : Below n w w') : Below n w w'.drew := ⟨hb.1, hb.2, hb.3, hb.4, hb.5⟩
theorem retG {a b : Bool} (h : a = b) : (Ending.returned (.bool a) : Ending) = .returned (.bool b) := by rw [h]

/-- A box: its cells. -/
def BoxV (w : World) (N : Nat) (vs : List Value) : Prop := N < w.heap.size ∧ ∀ i v, vs[i]? = some v → w.cell? ⟨N, i, none⟩ = some v ∧ w.frozen? ⟨N, i, none⟩ = false
theorem BoxV.made (w : World) (vs : List Value) (t : TypeId) : BoxV (w.alloc (Obj.cells vs.toArray t)) w.heap.size vs := by
  have hr := World.rowIs_alloc w vs.toArray t (fun i => (vs[i]?).getD (.bool false)) (fun i hi => by
    have hi' : i < vs.length := by simpa using hi
    simp [List.getElem?_eq_getElem hi'])
  refine ⟨hr.lt, fun i v hv => ?_⟩
  have hi := (List.getElem?_eq_some_iff.1 hv).1
  exact ⟨by rw [hr.cell (by simpa using hi), hv]; rfl, hr.frozen i⟩
theorem BoxV.next {w w' : World} {N : Nat} {vs : List Value} (h : BoxV w N vs) (hb : Below w.heap.size w w') : BoxV w' N vs :=
  ⟨Nat.lt_of_lt_of_le h.1 hb.size, fun i v hv => by rw [hb.cell (p := ⟨N, i, none⟩) h.1, hb.frozen (p := ⟨N, i, none⟩) h.1]; exact h.2 i v hv⟩
theorem BoxV.turn {w w' : World} {N : Nat} {vs : List Value} {S : Nat → Prop} (h : BoxV w N vs) (t : Turn S w w') (hN : ¬ S N) : BoxV w' N vs :=
  ⟨Nat.lt_of_lt_of_le h.1 t.size, fun i v hv => by rw [t.cell h.1 hN, t.frozen h.1 hN]; exact h.2 i v hv⟩
theorem BoxV.alloc {w : World} {N : Nat} {vs : List Value} (h : BoxV w N vs) (o : Obj) : BoxV (w.alloc o) N vs := h.next ((Below.refl _ _).alloc (Nat.le_refl _) o)
theorem BoxV.drew {w : World} {N : Nat} {vs : List Value} (h : BoxV w N vs) : BoxV w.drew N vs := h.next (below_drewG (Below.refl _ _))
theorem BoxV.set {w : World} {N : Nat} {vs : List Value} (h : BoxV w N vs) (i : Nat) (hi : i < vs.length) (v : Value) : BoxV (w.setCell ⟨N, i, none⟩ v) N (vs.set i v) := by
  refine ⟨by simpa using h.1, fun j u hu => ?_⟩
  rw [World.frozen?_setCell]
  by_cases e : j = i
  · subst e
    rw [List.getElem?_set_self hi] at hu
    cases hu
    exact ⟨World.cell?_setCell_same _ _ _ (h.2 j _ (List.getElem?_eq_getElem hi)).1, (h.2 j _ (List.getElem?_eq_getElem hi)).2⟩
  · rw [List.getElem?_set_ne (fun e' => e e'.symm)] at hu
    exact ⟨(World.cell?_setCell_other _ _ _ _ (fun e' => e (congrArg Addr.off e').symm)).trans (h.2 j u hu).1, (h.2 j u hu).2⟩
theorem BoxV.other {w : World} {N : Nat} {vs : List Value} (h : BoxV w N vs) (p : Addr) (v : Value) (hp : p.block ≠ N) : BoxV (w.setCell p v) N vs :=
  ⟨by simpa using h.1, fun i u hu => by
    rw [World.frozen?_setCell, World.cell?_setCell_other _ _ _ _ (fun e => hp (congrArg Addr.block e))]
    exact h.2 i u hu⟩

/-- Some cells stored, one behind the other. -/
def setAll (w : World) (g o : Nat) : List Value → World
  | [] => w
  | v :: vs => setAll (w.setCell ⟨g, o, none⟩ v) g (o + 1) vs
theorem setAll_size (w : World) (g o : Nat) (vs : List Value) : (setAll w g o vs).heap.size = w.heap.size := by
  induction vs generalizing w o with
  | nil => rfl
  | cons v vs ih => show (setAll _ g (o + 1) vs).heap.size = _; rw [ih]; simp
theorem setAll_frozen (w : World) (g o : Nat) (vs : List Value) (p : Addr) : (setAll w g o vs).frozen? p = w.frozen? p := by
  induction vs generalizing w o with
  | nil => rfl
  | cons v vs ih => show (setAll _ g (o + 1) vs).frozen? p = _; rw [ih, World.frozen?_setCell]
theorem setAll_other (w : World) (g o : Nat) (vs : List Value) (b q : Nat) (h : b ≠ g ∨ q < o ∨ o + vs.length ≤ q) : (setAll w g o vs).cell? ⟨b, q, none⟩ = w.cell? ⟨b, q, none⟩ := by
  induction vs generalizing w o with
  | nil => rfl
  | cons v vs ih =>
    show (setAll _ g (o + 1) vs).cell? _ = _
    rw [List.length_cons] at h
    rw [ih _ _ (by omega)]
    refine World.cell?_setCell_other _ _ _ _ (fun e => ?_)
    have e1 := congrArg Addr.block e
    have e2 := congrArg Addr.off e
    simp only at e1 e2
    omega
theorem setAll_at (w : World) (g o : Nat) (vs : List Value) (i : Nat) (v : Value) (hv : vs[i]? = some v) (h : ∀ i, i < vs.length → ∃ u, w.cell? ⟨g, o + i, none⟩ = some u) : (setAll w g o vs).cell? ⟨g, o + i, none⟩ = some v := by
  induction vs generalizing w o i with
  | nil => simp at hv
  | cons x vs ih =>
    show (setAll _ g (o + 1) vs).cell? _ = _
    cases i with
    | zero =>
      simp only [List.getElem?_cons_zero, Option.some.injEq] at hv
      subst hv
      rw [setAll_other _ _ _ _ _ _ (.inr (.inl (by omega)))]
      obtain ⟨u, hu⟩ := h 0 (by simp)
      exact World.cell?_setCell_same _ _ _ hu
    | succ i =>
      have := ih (w.setCell ⟨g, o, none⟩ x) (o + 1) i (by simpa using hv) (fun q hq => by
        obtain ⟨u, hu⟩ := h (q + 1) (by rw [List.length_cons]; omega)
        refine ⟨u, ?_⟩
        rw [World.cell?_setCell_other _ _ _ _ (fun e => by have := congrArg Addr.off e; simp at this; omega)]
        rw [show o + 1 + q = o + (q + 1) by omega]
        exact hu)
      rw [show o + (i + 1) = o + 1 + i by omega]
      exact this
theorem setAll_block (w : World) (g o : Nat) (vs : List Value) (b : Nat) (h : b ≠ g) : (setAll w g o vs).heap[b]? = w.heap[b]? := by
  induction vs generalizing w o with
  | nil => rfl
  | cons v vs ih =>
    show (setAll _ g (o + 1) vs).heap[b]? = _
    rw [ih]
    exact Below.heap_setCell _ _ _ _ h
theorem setAll_below {w w1 : World} {g o B : Nat} (vs : List Value) (hb : Below B w w1) (h : B ≤ g) : Below B w (setAll w1 g o vs) := by
  induction vs generalizing w1 o with
  | nil => exact hb
  | cons v vs ih => exact ih (hb.setCell (p := ⟨g, o, none⟩) h v)

theorem BoxV.setAll {w : World} {N g o : Nat} {vs us : List Value} (h : BoxV w N vs) (hN : N ≠ g) : BoxV (setAll w g o us) N vs :=
  ⟨by rw [setAll_size]; exact h.1, fun i v hv => by rw [setAll_other _ _ _ _ _ _ (.inl hN), setAll_frozen]; exact h.2 i v hv⟩

/-- What is made so far of a row: the first k elements. -/
def MadeG (w : World) (g K n : Nat) (R : Nat → List Lf) (k : Nat) : Prop :=
  g < w.heap.size ∧ (∀ o, o < n * K → ∃ v, w.cell? ⟨g, o, none⟩ = some v) ∧ (∀ o, w.frozen? ⟨g, o, none⟩ = false) ∧
  ∃ (C : Nat → Nat → Value) (Sf : Nat → Nat → Nat → Prop), (∀ j i, j < k → i < K → w.cell? ⟨g, j * K + i, none⟩ = some (C j i)) ∧ (∀ j i x, j < k → (R j)[i]? = some x → Own w (C j i) x (Sf j i)) ∧
    (∀ j i y, Sf j i y → j < k ∧ g < y ∧ y < w.heap.size) ∧ (∀ j i j' i' y, (j ≠ j' ∨ i ≠ i') → Sf j i y → ¬ Sf j' i' y)
theorem MadeG.start (w : World) (zs : Array Value) (n K : Nat) (T : TypeId) (R : Nat → List Lf) : MadeG (w.alloc (.cells (madeCells zs (n * K)) T)) w.heap.size K n R 0 := by
  have hr := World.rowIs_alloc w (madeCells zs (n * K)) T (fun i => ((madeCells zs (n * K))[i]?).getD (.bool false)) (fun i hi => by rw [Array.getElem?_eq_getElem hi]; rfl)
  rw [size_madeCells] at hr
  exact ⟨hr.lt, fun o ho => ⟨_, hr.cell ho⟩, fun o => hr.frozen o, fun _ _ => .bool false, fun _ _ _ => False, fun j i hj => absurd hj (Nat.not_lt_zero _), fun j i x hj => absurd hj (Nat.not_lt_zero _), fun j i y h => h.elim, fun j i j' i' y _ h => h.elim⟩
theorem MadeG.next {w w1 : World} {g K n k : Nat} {R : Nat → List Lf} (m : MadeG w g K n R k) (hb : Below w.heap.size w w1) (hk : k < n) (vs : List Value) (hvs : vs.length = K) (Tf : Nat → Nat → Prop)
    (ho : ∀ i x, (R k)[i]? = some x → ∃ v, vs[i]? = some v ∧ Own w1 v x (Tf i)) (ht : ∀ i y, Tf i y → w.heap.size ≤ y ∧ y < w1.heap.size) (hd : ∀ i i' y, i ≠ i' → Tf i y → ¬ Tf i' y) :
    MadeG (setAll w1 g (k * K) vs) g K n R (k + 1) := by
  obtain ⟨hg, hex, hfz, C, Sf, hc, hv, hs, hdd⟩ := m
  have hex1 : ∀ o, o < n * K → ∃ v, w1.cell? ⟨g, o, none⟩ = some v := fun o h => by rw [hb.cell (p := ⟨g, o, none⟩) hg]; exact hex o h
  have hrow : ∀ j i, j < n → i < K → j * K + i < n * K := fun j i hj hi => by
    have := Nat.mul_le_mul_right K (show j + 1 ≤ n from hj)
    rw [Nat.add_mul] at this
    omega
  have hnew : ∀ i, i < vs.length → ∃ u, w1.cell? ⟨g, k * K + i, none⟩ = some u := fun i hi => hex1 _ (hrow k i hk (by omega))
  have hz := hb.size
  refine ⟨by rw [setAll_size]; omega, fun o h => ?_, fun o => by rw [setAll_frozen, hb.frozen (p := ⟨g, o, none⟩) hg]; exact hfz o, fun j i => if j = k then (vs[i]?).getD (.bool false) else C j i, fun j i => if j = k then Tf i else Sf j i, fun j i hj hi => ?_, fun j i x hj hx => ?_, fun j i y hy => ?_, fun j i j' i' y hne hy => ?_⟩
  · by_cases e : k * K ≤ o ∧ o < k * K + vs.length
    · obtain ⟨v, hv'⟩ : ∃ v, vs[o - k * K]? = some v := ⟨_, List.getElem?_eq_getElem (by omega)⟩
      have := setAll_at w1 g (k * K) vs (o - k * K) v hv' hnew
      rw [show k * K + (o - k * K) = o by omega] at this
      exact ⟨v, this⟩
    · rw [setAll_other _ _ _ _ _ _ (.inr (by omega))]
      exact hex1 o h
  · by_cases e : j = k
    · subst e
      simp only [if_true]
      obtain ⟨v, hv'⟩ : ∃ v, vs[i]? = some v := ⟨_, List.getElem?_eq_getElem (by omega)⟩
      rw [setAll_at w1 g (j * K) vs i v hv' hnew, hv']
      rfl
    · simp only [e, if_false]
      have hjk : j < k := by omega
      have := Nat.mul_le_mul_right K (show j + 1 ≤ k from hjk)
      rw [Nat.add_mul] at this
      rw [setAll_other _ _ _ _ _ _ (.inr (.inl (by omega))), hb.cell (p := ⟨g, _, none⟩) hg]
      exact hc j i hjk hi
  · have hkeep : ∀ u y S, Own w1 u y S → (∀ z, S z → z ≠ g) → Own (setAll w1 g (k * K) vs) u y S := fun u y S h hS =>
      h.keep (by rw [setAll_size]; exact Nat.le_refl _) (fun b o hb' _ => setAll_other _ _ _ _ _ _ (.inl (hS b hb'))) (fun b o _ _ => setAll_frozen _ _ _ _ _)
    by_cases e : j = k
    · subst e
      simp only [if_true]
      obtain ⟨v, hv', h1⟩ := ho i x hx
      rw [hv']
      exact hkeep _ _ _ h1 (fun z hz' e => by have := (ht i z hz').1; omega)
    · simp only [e, if_false]
      have hjk : j < k := by omega
      exact hkeep _ _ _ ((hv j i x hjk hx).next hb) (fun z hz' e => by have := (hs j i z hz').2.1; omega)
  · rw [setAll_size]
    by_cases e : j = k
    · subst e
      simp only [if_true] at hy
      have := ht i y hy
      omega
    · simp only [e, if_false] at hy
      have := hs j i y hy
      omega
  · by_cases e : j = k
    · by_cases e' : j' = k
      · subst e e'
        simp only [if_true] at hy ⊢
        exact hd i i' y (by omega) hy
      · simp only [e, e', if_true, if_false] at hy ⊢
        intro h2
        have h3 := hs j' i' y h2
        have h4 := ht i y hy
        omega
    · by_cases e' : j' = k
      · simp only [e, e', if_true, if_false] at hy ⊢
        intro h2
        have h3 := hs j i y hy
        have h4 := ht i' y h2
        omega
      · simp only [e, e', if_false] at hy ⊢
        exact hdd j i j' i' y hne hy
theorem MadeG.next0 {w w1 : World} {g K n k : Nat} {R : Nat → List Lf} (m : MadeG w g K n R k) (hb : Below w.heap.size w w1) : MadeG w1 g K n R k := by
  obtain ⟨hg, hex, hfz, C, Sf, hc, hv, hs, hdd⟩ := m
  exact ⟨Nat.lt_of_lt_of_le hg hb.size, fun o h => by rw [hb.cell (p := ⟨g, o, none⟩) hg]; exact hex o h, fun o => by rw [hb.frozen (p := ⟨g, o, none⟩) hg]; exact hfz o, C, Sf, fun j i hj hi => by rw [hb.cell (p := ⟨g, _, none⟩) hg]; exact hc j i hj hi, fun j i x hj hx => (hv j i x hj hx).next hb, fun j i y hy => ⟨(hs j i y hy).1, (hs j i y hy).2.1, Nat.lt_of_lt_of_le (hs j i y hy).2.2 hb.size⟩, hdd⟩
theorem MadeG.cell {w : World} {g K n k : Nat} {R : Nat → List Lf} (m : MadeG w g K n R k) (hk : k < n) (i : Nat) (hi : i < K) : ∃ v, w.cell? ⟨g, k * K + i, none⟩ = some v ∧ w.frozen? ⟨g, k * K + i, none⟩ = false := by
  obtain ⟨hg, hex, hfz, _⟩ := m
  have := Nat.mul_le_mul_right K (show k + 1 ≤ n from hk)
  rw [Nat.add_mul] at this
  obtain ⟨v, hv⟩ := hex (k * K + i) (by omega)
  exact ⟨v, hv, hfz _⟩
theorem MadeG.lt {w : World} {g K n k : Nat} {R : Nat → List Lf} (m : MadeG w g K n R k) : g < w.heap.size := m.1
theorem MadeG.done {w : World} {g K n : Nat} {rows : List (List Lf)} {R : Nat → List Lf} (m : MadeG w g K n R n) (hn : rows.length = n) (hm : n ≤ maxLen) (hK : ∀ r ∈ rows, r.length = K) (e : ∀ j (hj : j < rows.length), R j = rows[j]) : Own w (.slice (some ⟨g, 0, none⟩) n n) (.l rows) (IvG g w.heap.size) := by
  obtain ⟨hg, hex, hfz, C, Sf, hc, hv, hs, hdd⟩ := m
  subst hn
  refine RowG.own (R := R) (o := 0) (K := K) (C := C) (Sf := Sf) ⟨⟨Nat.le_refl _, hg⟩, hg, fun j hj => by rw [e j hj]; exact hK _ (List.getElem_mem hj), fun j i hj hi => ?_, fun j i x hj hx => hv j i x hj hx, fun j i y hy => ?_, hdd⟩ e (Nat.le_refl _) hm
  · rw [Nat.zero_add]
    exact ⟨hc j i hj hi, hfz _⟩
  · have := hs j i y hy
    exact ⟨⟨by omega, this.2.2⟩, by omega⟩
end Go.Proofs.YtmgikfeknmbpbaaDoor
namespace Go.Proofs.YtmgikfeknmbpbaaDoor
open Go.RowKit

theorem pick_gen {α : Type} {p : Nat → α → Prop} : ∀ {len : Nat}, (∀ i, i < len → ∃ q, p i q) → ∃ hs : List α, hs.length = len ∧ ∀ j (hj : j < hs.length), p j hs[j] := by
  intro len
  induction len with
  | zero => intro _; exact ⟨[], rfl, fun j hj => absurd hj (Nat.not_lt_zero _)⟩
  | succ k ih =>
    intro each
    obtain ⟨hs, hlen, hq⟩ := ih (fun i hi => each i (by omega))
    obtain ⟨q, hqk⟩ := each k (by omega)
    refine ⟨hs ++ [q], by simp [hlen], fun j hj => ?_⟩
    by_cases e : j < hs.length
    · rw [List.getElem_append_left e]; exact hq j e
    · have : j = k := by simp [hlen] at hj; omega
      subst this
      rw [List.getElem_append_right (by omega)]
      simp only [hlen, Nat.sub_self, List.getElem_cons_zero]
      exact hqk
theorem add_pick (b o j : Nat) : (⟨b, o, none⟩ : Addr).add j = ⟨b, o + j, none⟩ := by unfold Addr.add; split <;> simp_all
end Go.Proofs.YtmgikfeknmbpbaaDoor
namespace Go.Proofs.YtmgikfeknmbpbaaDoor
open Go.RowKit
set_option linter.unusedVariables false

section
variable {α : Type} {cs : α → List Value} {K : Nat} {tE : TypeId}
/-- A row that the call owns from block B on. -/
def OwnG (tE : TypeId) (K : Nat) (cs : α → List Value) (w : World) (B : Nat) (v : Value) (l : List α) : Prop := w.ownsRow B tE K v l.length (l.flatMap cs)
theorem flat_length (hK : ∀ x, (cs x).length = K) (l : List α) : (l.flatMap cs).length = l.length * K := by
  induction l with
  | nil => simp
  | cons x l ih => rw [List.flatMap_cons, List.length_append, ih, hK, List.length_cons, Nat.add_mul]; omega
theorem flat_at (hK : ∀ x, (cs x).length = K) (l : List α) : ∀ j (hj : j < l.length) i, i < K → (l.flatMap cs)[j * K + i]? = (cs l[j])[i]? := by
  induction l with
  | nil => intro j hj; exact absurd hj (Nat.not_lt_zero _)
  | cons x l ih =>
    intro j hj i hi
    rw [List.flatMap_cons]
    match j, hj with
    | 0, _ => rw [Nat.zero_mul, Nat.zero_add, List.getElem?_append_left (by rw [hK]; omega)]; rfl
    | j + 1, hj =>
      rw [List.getElem?_append_right (by rw [hK, Nat.add_mul]; omega), hK, show (j + 1) * K + i - K = j * K + i by rw [Nat.add_mul]; omega]
      simpa using ih j (by simpa using hj) i hi
theorem OwnG.made (w : World) (B : Nat) (hB : B ≤ w.heap.size) : OwnG tE K cs (w.alloc (Obj.cells #[] tE)) B (.slice (some ⟨w.heap.size, 0, none⟩) 0 0) [] :=
  ⟨by simp, .inr ⟨w.heap.size, 0, #[], rfl, hB, heap_alloc_new w _, Nat.le_refl _, Nat.zero_le _, by simp, by simp⟩⟩
theorem OwnG.next {w w' : World} {B : Nat} {v : Value} {l : List α} (h : OwnG tE K cs w B v l) (hb : Below w.heap.size w w') : OwnG tE K cs w' B v l :=
  World.ownsRow.kept (row := none) h ⟨hb.os, hb.tape, hb.output, hb.size, fun k hk _ => hb.block k hk⟩ (Classical.em _)
theorem OwnG.keepB {w w' : World} {B g n c : Nat} {l : List α} (h : OwnG tE K cs w B (.slice (some ⟨g, 0, none⟩) n c) l) (e : w'.heap[g]? = w.heap[g]?) : OwnG tE K cs w' B (.slice (some ⟨g, 0, none⟩) n c) l := by
  refine ⟨h.1, ?_⟩
  rcases h.2 with ⟨h0, _⟩ | ⟨g', c', cur, hv, hB, hh, hr⟩
  · cases h0
  · cases hv
    exact .inr ⟨g, c, cur, rfl, hB, e.trans hh, hr⟩
theorem OwnG.row {w : World} {B g n c : Nat} {l : List α} (hK : ∀ x, (cs x).length = K) (h : OwnG tE K cs w B (.slice (some ⟨g, 0, none⟩) n c) l) :
    n = l.length ∧ n ≤ c ∧ c ≤ maxLen ∧ B ≤ g ∧ g < w.heap.size ∧ (∀ i, w.frozen? ⟨g, i, none⟩ = false) ∧ ∀ j (hj : j < l.length) i v, (cs l[j])[i]? = some v → w.cell? ⟨g, j * K + i, none⟩ = some v := by
  have hlt := World.ownsRow.lt h g rfl
  rcases h.2 with ⟨e, _⟩ | ⟨g', c', cur, e, hB, hh, h1, h2, _⟩
  · cases e
  · cases e
    refine ⟨rfl, h1, h2, hB, hlt.2, fun i => ?_, fun j hj i v hv => ?_⟩
    · simp only [World.frozen?, hh, Bool.and_eq_false_iff, decide_eq_false_iff_not]
      right; omega
    · have hi : i < K := by have := (List.getElem?_eq_some_iff.1 hv).1; rwa [hK] at this
      have hjl : j * K + i < l.length * K := by
        have := Nat.mul_le_mul_right K (show j + 1 ≤ l.length from hj)
        rw [Nat.add_mul] at this
        omega
      rw [World.ownsRow.cellAt h (j * K + i) hjl, flat_at hK l j hj i hi]
      exact hv
theorem below_grownG {w w' : World} {B n : Nat} {v : Value} {xs : List Value} (hown : w.ownsRow B tE K v n xs) (hB : B ≤ w.heap.size) (hg : w.grownBy w' v.ownBlock) : Below B w w' :=
  ⟨hg.os, hg.tape, hg.output, hg.size, fun k hk => hg.block k (by omega) (fun e => by have := (hown.lt k e.symm).1; omega)⟩

/-- 'l = append(l, x)' on a row that the call owns. -/
theorem wp_append_gen {P : Program} {w : World} {ops : Array Oper} {rest : List Oper} {o : Oper} {a : Act} {Q : Exit → Act → World → Prop} (T : TypeId) (hu : P.underlying T = some (.slice tE)) (zero : Value) (bytes : Nat) (hinfo : (P.info? tE).map (fun i => (i.zero, i.size, i.bytes)) = some (some zero, K, bytes)) (hz : zero.cells.size = K) (hK0 : 0 < K) (hby : bytes ≤ 512) (hgd : o.guard = none) (s x : Operand)
    (ho : o.op = .call { callee := .builtin .append, args := #[s, x], argTypes := #[T, T] })
    (B : Nat) (v : Value) (l : List α) (hs : a.eval s = v) (hown : OwnG tE K cs w B v l) (hK : ∀ x, (cs x).length = K)
    (N : Nat) (t : α) (hx : a.eval x = .slice (some ⟨N, 0, none⟩) 1 1) (hc : ∀ i v, (cs t)[i]? = some v → w.cell? ⟨N, i, none⟩ = some v) (h1 : ∀ v ∈ cs t, v.oneCell' = true) (hlen : l.length + 1 ≤ 100000000000) (hB : B ≤ w.heap.size)
    (h : ∀ g n cap w', n = (l ++ [t]).length → OwnG tE K cs w' B (.slice (some ⟨g, 0, none⟩) n cap) (l ++ [t]) → Below B w w' → w.grownBy w' v.ownBlock → (v.ownBlock = some g ∨ g = w.heap.size) → wpList P ops Q rest (a.put o.dst (.slice (some ⟨g, 0, none⟩) n cap)) w') : wpList P ops Q (o :: rest) a w := by
  obtain ⟨i0, hi, hz0, hz1, hz2⟩ := info_parts hinfo
  refine wpList_append_own_at w hgd s x T ho B tE i0 zero K bytes hu hi hz0 hz1 hz2 hz hK0 v l.length _ hs hown ⟨N, 0, none⟩ 1 1 (cs t) hx (by rw [hK]; omega) (fun j u hj => by rw [add_pick, Nat.zero_add]; exact hc j u hj) h1 (by unfold maxLen; omega) ?_ hB ?_
  · have := Nat.mul_le_mul hlen hby
    omega
  · intro v' w' ho' hg _ hat
    obtain ⟨g, cap, rfl⟩ : ∃ g cap, v' = .slice (some ⟨g, 0, none⟩) (l.length + 1) cap := by
      rcases ho'.2 with ⟨_, h0⟩ | ⟨g, cap, cur, hv, _⟩
      · omega
      · exact ⟨g, cap, hv⟩
    refine h g (l.length + 1) cap w' (by simp) ?_ (below_grownG hown hB hg) hg (by
      rcases hat with e | e
      · exact .inl e.symm
      · exact .inr (Option.some.inj e))
    unfold OwnG
    rw [List.flatMap_append, show [t].flatMap cs = cs t by simp, show (l ++ [t]).length = l.length + 1 by simp]
    exact ho'
end
end Go.Proofs.YtmgikfeknmbpbaaDoor
namespace Go.Proofs.YtmgikfeknmbpbaaDoor
open Go.RowKit M
set_option linter.unusedVariables false

/-- One, in three cells. -/
def CnAt (w : World) (b o : Nat) (c : Cn) : Prop := w.cell? ⟨b, o, none⟩ = some (.bool c.no) ∧ w.cell? ⟨b, o + 1, none⟩ = some (.int .i64 c.tk) ∧ w.cell? ⟨b, o + 2, none⟩ = some (.string c.tg)
def Cns (w : World) (B : Nat) (a : Option Addr) (cs : List Cn) : Prop := 0 < cs.length → ∃ b o, a = some ⟨b, o, none⟩ ∧ b < B ∧ ∀ j (hj : j < cs.length), CnAt w b (o + j * 3) cs[j]
structure CsIn (w : World) (B : Nat) (a : Option Addr) (cs : List Cn) (c : Nat) : Prop where
  ps : Cns w B a cs
  pl : cs.length ≤ c
  pm : c ≤ maxLen
  pn : a = none → c = 0
def Cnss (w : World) (B : Nat) (a : Option Addr) (ls : List (List Cn)) : Prop := 0 < ls.length → ∃ b o, a = some ⟨b, o, none⟩ ∧ b < B ∧ ∀ j (hj : j < ls.length), ∃ pa pc, w.cell? ⟨b, o + j, none⟩ = some (.slice pa ls[j].length pc) ∧ CsIn w B pa ls[j] pc

theorem CnAt.of {w w' : World} {b o : Nat} {c : Cn} (h : CnAt w b o c) (e : ∀ i, w'.cell? ⟨b, i, none⟩ = w.cell? ⟨b, i, none⟩) : CnAt w' b o c := ⟨(e _).trans h.1, (e _).trans h.2.1, (e _).trans h.2.2⟩
theorem Cns.below {w w' : World} {B C : Nat} {a : Option Addr} {cs : List Cn} (h : Cns w B a cs) (hb : Below C w w') (hB : B ≤ C) : Cns w' B a cs := fun h0 => by
  obtain ⟨b, o, e, hbB, hc⟩ := h h0
  exact ⟨b, o, e, hbB, fun j hj => (hc j hj).of (fun i => hb.cell (p := ⟨b, i, none⟩) (Nat.lt_of_lt_of_le hbB hB))⟩
theorem CsIn.below {w w' : World} {B C c : Nat} {a : Option Addr} {cs : List Cn} (h : CsIn w B a cs c) (hb : Below C w w') (hB : B ≤ C) : CsIn w' B a cs c := ⟨h.ps.below hb hB, h.pl, h.pm, h.pn⟩
theorem Cnss.below {w w' : World} {B C : Nat} {a : Option Addr} {ls : List (List Cn)} (h : Cnss w B a ls) (hb : Below C w w') (hB : B ≤ C) : Cnss w' B a ls := fun h0 => by
  obtain ⟨b, o, e, hbB, hc⟩ := h h0
  refine ⟨b, o, e, hbB, fun j hj => ?_⟩
  obtain ⟨pa, pc, h1, h2⟩ := hc j hj
  exact ⟨pa, pc, (hb.cell (p := ⟨b, _, none⟩) (Nat.lt_of_lt_of_le hbB hB)).trans h1, h2.below hb hB⟩

theorem cns_of_view {w : World} {B : Nat} {v : Value} {l : List Cn} (h : View w B v (.l (l.map dCn))) : ∃ a c, v = .slice a l.length c ∧ CsIn w B a l c := by
  obtain ⟨a, cap, h1, h2, h3, h4, h5⟩ := h.rows 3 (fun _ => rfl)
  refine ⟨a, cap, h1, fun h0 => ?_, h2, h3, h4⟩
  obtain ⟨b, o, C, e, hb, hc⟩ := h5 h0
  refine ⟨b, o, e, hb, fun j hj => ?_⟩
  obtain ⟨c0, v0⟩ := hc j hj 0 (.c (.bool l[j].no)) rfl
  obtain ⟨c1, v1⟩ := hc j hj 1 (.c (.int .i64 l[j].tk)) rfl
  obtain ⟨c2, v2⟩ := hc j hj 2 (.c (.string l[j].tg)) rfl
  rw [v0.inv] at c0
  rw [v1.inv] at c1
  rw [v2.inv] at c2
  exact ⟨c0, c1, c2⟩
theorem cnss_of_view {w : World} {B : Nat} {v : Value} {l : List (List Cn)} (h : View w B v (.l (l.map dCs))) : ∃ a c, v = .slice a l.length c ∧ l.length ≤ c ∧ c ≤ maxLen ∧ (a = none → c = 0) ∧ Cnss w B a l := by
  obtain ⟨a, cap, h1, h2, h3, h4, h5⟩ := h.rows 1 (fun _ => rfl)
  refine ⟨a, cap, h1, h2, h3, h4, fun h0 => ?_⟩
  obtain ⟨b, o, C, e, hb, hc⟩ := h5 h0
  refine ⟨b, o, e, hb, fun j hj => ?_⟩
  obtain ⟨c0, v0⟩ := hc j hj 0 (.l (l[j].map dCn)) rfl
  obtain ⟨pa, pc, e1, e2⟩ := cns_of_view v0
  rw [e1] at c0
  exact ⟨pa, pc, by simpa using c0, e2⟩

/-! Their sizes. -/
theorem sz_dCn (r : Cn) : szR (dCn r) = r.tg.size := by simp [dCn, szR, szF, szV]
theorem sz_dCs (l : List Cn) : szR (dCs l) = szRs (l.map dCn) := by simp [dCs, szR, szF]
theorem cn_small {l : List Cn} {N : Nat} (h : szRs (l.map dCn) ≤ N) : l.length ≤ N ∧ ∀ c ∈ l, c.tg.size ≤ N := by
  refine ⟨?_, fun c hc => ?_⟩
  · have := szRs_len (l.map dCn)
    rw [List.length_map] at this
    omega
  · have := szRs_mem _ _ (List.mem_map_of_mem (f := dCn) hc)
    rw [sz_dCn] at this
    omega
theorem cns_small {l : List (List Cn)} {N : Nat} (h : szRs (l.map dCs) ≤ N) : l.length ≤ N ∧ ∀ cs ∈ l, cs.length ≤ N ∧ ∀ c ∈ cs, c.tg.size ≤ N := by
  refine ⟨?_, fun cs hc => ?_⟩
  · have := szRs_len (l.map dCs)
    rw [List.length_map] at this
    omega
  · have := szRs_mem _ _ (List.mem_map_of_mem (f := dCs) hc)
    rw [sz_dCs] at this
    exact cn_small (by omega)
theorem flat_small {l : List (List Cn)} {N : Nat} (h : szRs (l.map dCs) ≤ N) : l.flatten.length ≤ N := by
  have key : ∀ l : List (List Cn), l.flatten.length ≤ szRs (l.map dCs) := fun l => by
    induction l with
    | nil => simp
    | cons x r ih =>
      rw [List.flatten_cons, List.length_append, List.map_cons, szRs_cons, sz_dCs]
      have := szRs_len (x.map dCn)
      rw [List.length_map] at this
      omega
  have := key l
  omega

/-! Rows that a call makes of them. -/
def ciC (c : Cn) : List Value := [.bool c.no, .int .i64 c.tk, .string c.tg]
theorem ciC_len : ∀ x, (ciC x).length = 3 := fun _ => rfl
theorem ciC_one (c : Cn) : ∀ v ∈ ciC c, v.oneCell' = true := fun v hv => by
  simp only [ciC, List.mem_cons, List.not_mem_nil, or_false] at hv
  rcases hv with rfl | rfl | rfl <;> rfl
/-- A slice as it lies in a cell. -/
structure Sl where
  b : Nat
  n : Nat
  c : Nat
def Sl.v (s : Sl) : Value := .slice (some ⟨s.b, 0, none⟩) s.n s.c
def ciS (s : Sl) : List Value := [s.v]
theorem ciS_len : ∀ x, (ciS x).length = 1 := fun _ => rfl
theorem ciS_one (s : Sl) : ∀ v ∈ ciS s, v.oneCell' = true := fun v hv => by
  simp only [ciS, List.mem_cons, List.not_mem_nil, or_false] at hv
  rcases hv with rfl
  rfl
theorem cond_cells {tE : TypeId} {w : World} {B g n c : Nat} {l : List Cn} (h : OwnG tE 3 ciC w B (.slice (some ⟨g, 0, none⟩) n c) l) : n = l.length ∧ n ≤ c ∧ c ≤ maxLen ∧ B ≤ g ∧ g < w.heap.size ∧ (∀ i, w.frozen? ⟨g, i, none⟩ = false) ∧ ∀ j (hj : j < l.length), CnAt w g (j * 3) l[j] := by
  obtain ⟨e1, e2, e3, e4, e5, e6, e7⟩ := h.row ciC_len
  exact ⟨e1, e2, e3, e4, e5, e6, fun j hj => ⟨e7 j hj 0 _ rfl, e7 j hj 1 _ rfl, e7 j hj 2 _ rfl⟩⟩
def cnVal (r : Cn) (i : Nat) : Value := (([.bool r.no, .int .i64 r.tk, .string r.tg] : List Value)[i]?).getD (.bool false)
theorem own_of_conds {tE : TypeId} {w : World} {B g n c : Nat} {l : List Cn} (h : OwnG tE 3 ciC w B (.slice (some ⟨g, 0, none⟩) n c) l) : Own w (.slice (some ⟨g, 0, none⟩) n c) (.l (l.map dCn)) (fun y => y = g) := by
  obtain ⟨e1, e2, e3, e4, e5, e6, e7⟩ := cond_cells h
  have e : n = (l.map dCn).length := by rw [List.length_map]; exact e1
  rw [e]
  refine .row g 0 c 3 _ (fun j i => match l[j]? with | some s => cnVal s i | none => .bool false) (fun _ _ _ => False) _ rfl e5 (by rw [← e]; exact e2) e3 (fun r hr => by obtain ⟨x, _, rfl⟩ := List.mem_map.1 hr; rfl) (fun j i x hx => ?_) (fun j i x hx => ?_) (fun j i y hy => hy.elim) (fun j i j' i' y _ hy => hy.elim)
  all_goals
    unfold cellAt at hx
    by_cases hj : j < l.length
    · rw [map_at dCn l j hj] at hx
      have hi : i < 3 := (List.getElem?_eq_some_iff.1 hx).1
      rw [List.getElem?_eq_getElem hj]
      obtain ⟨c0, c1, c2⟩ := e7 j hj
      match i, hi with
      | 0, _ => cases hx; first | exact .c _ _ | exact ⟨by rw [Nat.zero_add]; exact c0, e6 _⟩
      | 1, _ => cases hx; first | exact .c _ _ | exact ⟨by rw [Nat.zero_add]; exact c1, e6 _⟩
      | 2, _ => cases hx; first | exact .c _ _ | exact ⟨by rw [Nat.zero_add]; exact c2, e6 _⟩
    · rw [List.getElem?_eq_none (by simp; omega)] at hx; cases hx

/-- A row of lists that the call owns, each in blocks of its own; all of them and the row below H. -/
structure RowsO (tS : TypeId) (w : World) (B g n c H : Nat) (ss : List Sl) (ls : List (List Cn)) : Prop where
  own : OwnG tS 1 ciS w B (.slice (some ⟨g, 0, none⟩) n c) ss
  len : ss.length = ls.length
  top : H ≤ w.heap.size
  gH : g < H
  bl : ∃ lo hi : Nat → Nat, ∀ j (hj : j < ls.length) (hs : j < ss.length), Own w ss[j].v (.l (ls[j].map dCn)) (IvG (lo j) (hi j)) ∧ B ≤ lo j ∧ hi j ≤ H ∧ (g < lo j ∨ hi j ≤ g) ∧ ∀ i, i < j → hi i ≤ lo j
theorem RowsO.made (tS : TypeId) (w : World) (B : Nat) (hB : B ≤ w.heap.size) : RowsO tS (w.alloc (Obj.cells #[] tS)) B w.heap.size 0 0 (w.heap.size + 1) [] [] :=
  ⟨OwnG.made w B hB, rfl, by simp, Nat.lt_succ_self _, fun _ => 0, fun _ => 0, fun j hj => absurd hj (Nat.not_lt_zero _)⟩
theorem RowsO.next {tS : TypeId} {w w' : World} {B g n c H : Nat} {ss : List Sl} {ls : List (List Cn)} (h : RowsO tS w B g n c H ss ls) (hb : Below w.heap.size w w') : RowsO tS w' B g n c H ss ls := by
  obtain ⟨lo, hi, h5⟩ := h.bl
  exact ⟨h.own.next hb, h.len, Nat.le_trans h.top hb.size, h.gH, lo, hi, fun j hj hs => ⟨(h5 j hj hs).1.next hb, (h5 j hj hs).2⟩⟩
theorem RowsO.num {tS : TypeId} {w : World} {B g n c H : Nat} {ss : List Sl} {ls : List (List Cn)} (h : RowsO tS w B g n c H ss ls) : n = ls.length ∧ n ≤ c ∧ c ≤ maxLen ∧ B ≤ g := by
  have := h.own.row ciS_len
  exact ⟨this.1.trans h.len, this.2.1, this.2.2.1, this.2.2.2.1⟩
/-- One more list, made behind all that is there, is appended. -/
theorem RowsO.snoc {tS : TypeId} {w w' : World} {B g n c H g' n' c' : Nat} {ss : List Sl} {ls : List (List Cn)} {s : Sl} {cs : List Cn} (h : RowsO tS w B g n c H ss ls)
    (ho : OwnG tS 1 ciS w' B (.slice (some ⟨g', 0, none⟩) n' c') (ss ++ [s])) (hg : w.grownBy w' (some g)) (hat : g' = g ∨ g' = w.heap.size) (lo hi : Nat) (hs : Own w s.v (.l (cs.map dCn)) (IvG lo hi)) (hl : H ≤ lo) (hh : hi ≤ w.heap.size) :
    RowsO tS w' B g' n' c' w'.heap.size (ss ++ [s]) (ls ++ [cs]) := by
  obtain ⟨lo0, hi0, h5⟩ := h.bl
  have hgw : g < w.heap.size := Nat.lt_of_lt_of_le h.gH h.top
  have hr := ho.row ciS_len
  have hsz := hg.size
  have hgB := h.num.2.2.2
  have keep : ∀ v x S, Own w v x S → (∀ y, S y → y ≠ g) → Own w' v x S := fun v x S hv hne =>
    hv.keep hsz (fun b o hb hz => by
      have := hg.block b hz (fun e => hne b hb (Option.some.inj e))
      simp only [World.cell?, this]) (fun b o hb hz => by
      have := hg.block b hz (fun e => hne b hb (Option.some.inj e))
      simp only [World.frozen?, this])
  refine ⟨ho, by rw [List.length_append, List.length_append, h.len]; rfl, Nat.le_refl _, hr.2.2.2.2.1, fun j => if j < ls.length then lo0 j else lo, fun j => if j < ls.length then hi0 j else hi, fun j hj hj2 => ?_⟩
  by_cases e : j < ls.length
  · have e2 : j < ss.length := by rw [h.len]; exact e
    obtain ⟨q1, q2, q3, q4, q5⟩ := h5 j e e2
    simp only [e, if_true, List.getElem_append_left e, List.getElem_append_left e2]
    refine ⟨keep _ _ _ q1 (fun y hy e3 => by have := hy.1; have := hy.2; omega), q2, Nat.le_trans (Nat.le_trans q3 h.top) hsz, ?_, fun i hij => ?_⟩
    · rcases hat with rfl | rfl
      · exact q4
      · right; exact Nat.le_trans q3 h.top
    · rw [if_pos (by omega)]
      exact q5 i hij
  · have ej : j = ls.length := by rw [List.length_append] at hj; simp at hj; omega
    subst ej
    have e2 : ¬ ls.length < ss.length := by rw [h.len]; exact Nat.lt_irrefl _
    have g1 : (ss ++ [s])[ls.length]'hj2 = s := by
      have : ls.length = ss.length := h.len.symm
      simp [this]
    have g2 : (ls ++ [cs])[ls.length]'hj = cs := by simp
    simp only [Nat.lt_irrefl, if_false]
    rw [g1, g2]
    refine ⟨keep _ _ _ hs (fun y hy e3 => by have := hy.1; have := h.gH; omega), by have := h.gH; omega, Nat.le_trans hh hsz, ?_, fun i hij => ?_⟩
    · rcases hat with rfl | rfl
      · left; have := h.gH; omega
      · right; exact hh
    · rw [if_pos hij]
      obtain ⟨_, _, q3, _, _⟩ := h5 i hij (by rw [h.len]; exact hij)
      exact Nat.le_trans q3 hl
theorem RowsO.done {tS : TypeId} {w : World} {B g n c H : Nat} {ss : List Sl} {ls : List (List Cn)} (h : RowsO tS w B g n c H ss ls) : Own w (.slice (some ⟨g, 0, none⟩) n c) (.l (ls.map dCs)) (IvG B w.heap.size) := by
  obtain ⟨lo, hi, h5⟩ := h.bl
  obtain ⟨e1, e2, e3, e4, e5, e6, e7⟩ := h.own.row ciS_len
  have e : n = (ls.map dCs).length := by rw [List.length_map]; exact h.num.1
  have hgw := Nat.lt_of_lt_of_le h.gH h.top
  rw [e]
  refine .row g 0 c 1 _ (fun j i => match ss[j]? with | some s => s.v | none => .bool false) (fun j i y => j < ls.length ∧ i = 0 ∧ IvG (lo j) (hi j) y) _ ⟨e4, hgw⟩ hgw (by rw [← e]; exact e2) e3 (fun r hr => by obtain ⟨x, _, rfl⟩ := List.mem_map.1 hr; rfl) (fun j i x hx => ?_) (fun j i x hx => ?_) (fun j i y hy => ?_) (fun j i j' i' y hne hy hy' => ?_)
  · unfold cellAt at hx
    by_cases hj : j < ls.length
    · rw [map_at dCs ls j hj] at hx
      have hs : j < ss.length := by rw [h.len]; exact hj
      match i with
      | 0 =>
        rw [List.getElem?_eq_getElem hs]
        have := e7 j hs 0 _ rfl
        exact ⟨by simpa using this, e6 _⟩
      | i + 1 => cases hx
    · rw [List.getElem?_eq_none (by simp; omega)] at hx; cases hx
  · unfold cellAt at hx
    by_cases hj : j < ls.length
    · rw [map_at dCs ls j hj] at hx
      have hs : j < ss.length := by rw [h.len]; exact hj
      match i with
      | 0 =>
        rw [List.getElem?_eq_getElem hs]
        cases hx
        exact (h5 j hj hs).1.wide (fun y hy => ⟨hj, rfl, hy⟩)
      | i + 1 => cases hx
    · rw [List.getElem?_eq_none (by simp; omega)] at hx; cases hx
  · obtain ⟨hj, _, h1, h2⟩ := hy
    obtain ⟨_, q2, q3, q4, _⟩ := h5 j hj (by rw [h.len]; exact hj)
    have := h.top
    exact ⟨⟨by omega, by omega⟩, by omega⟩
  · obtain ⟨hj, i0, h1, h2⟩ := hy
    obtain ⟨hj', i0', h1', h2'⟩ := hy'
    rcases Nat.lt_trichotomy j j' with hh | hh | hh
    · have := (h5 j' hj' (by rw [h.len]; exact hj')).2.2.2.2 j hh
      omega
    · omega
    · have := (h5 j hj (by rw [h.len]; exact hj)).2.2.2.2 j' hh
      omega
end Go.Proofs.YtmgikfeknmbpbaaDoor
namespace Go.Proofs.YtmgikfeknmbpbaaDoor
open Go.RowKit M
set_option linter.unusedVariables false

def oneT (c : Cn) : List UInt8 := (if c.no = true then notL else []) ++ (if c.tk = 0 then 91 :: (c.tg.data.toList ++ [93]) else 60 :: (Lib.decDigits c.tk.toNat ++ [62]))
def oneL (cs : List Cn) : List UInt8 := 40 :: (joinT (cs.map oneT) ++ [41])
def oneI (ls : List (List Cn)) : List UInt8 := joinT (ls.map oneL)
theorem joinT_nil : joinT [] = [] := rfl
theorem joinT_snoc (xs : List (List UInt8)) (x : List UInt8) : joinT (xs ++ [x]) = if xs.length = 0 then x else joinT xs ++ 32 :: x := by
  induction xs with
  | nil => simp [joinT_one]
  | cons a r ih =>
    rw [List.cons_append, if_neg (by simp)]
    cases r with
    | nil => rw [List.nil_append, joinT_cons, joinT_one, joinT_one]
    | cons b q =>
      rw [List.cons_append] at ih ⊢
      rw [joinT_cons, ih, if_neg (by simp), joinT_cons]
      simp
theorem one_snoc (cs : List Cn) (k : Nat) (hk : k < cs.length) : joinT ((cs.take (k + 1)).map oneT) = if k = 0 then oneT cs[k] else joinT ((cs.take k).map oneT) ++ 32 :: oneT cs[k] := by
  rw [List.take_succ_eq_append_getElem hk, List.map_append, List.map_cons, List.map_nil, joinT_snoc, List.length_map, List.length_take]
  rw [show min k cs.length = k by omega]
theorem oneI_snoc (ls : List (List Cn)) (k : Nat) (hk : k < ls.length) : oneI (ls.take (k + 1)) = if k = 0 then oneL ls[k] else oneI (ls.take k) ++ 32 :: oneL ls[k] := by
  unfold oneI
  rw [List.take_succ_eq_append_getElem hk, List.map_append, List.map_cons, List.map_nil, joinT_snoc, List.length_map, List.length_take]
  rw [show min k ls.length = k by omega]
theorem oneT_ok {c : Cn} (h : okC c) : oneT c = condT c := by
  unfold oneT condT
  rcases h with ⟨h1, h2, h3⟩ | ⟨h1, m, h2, h3, h4, h5⟩
  · rw [if_neg (show ¬ c.tk = 0 by omega), if_pos h1]
  · have hne : ¬ c.tg.data.toList = [] := by rw [h2]; exact tag_ne m
    rw [if_pos h1, if_neg hne]
theorem oneI_ok {ls : List (List Cn)} (h : okIf ls) : oneI ls = ifT ls := by
  unfold oneI ifT
  congr 1
  refine List.map_congr_left (fun cs hcs => ?_)
  unfold oneL listT
  congr 3
  exact List.map_congr_left (fun c hc => oneT_ok ((h.2.2 cs hcs).2.2 c hc))
/-- What the specification answers: the text, where it reads back. -/
theorem back_iff (ls : List (List Cn)) : ifL (oneI ls) = some ls ↔ okIf ls := by
  constructor
  · exact fun h => ifL_ok h
  · intro h
    rw [oneI_ok h]
    exact ifL_back h
/-! Sizes. -/
theorem dec_le (n : Int) (h : n ≤ 9223372036854775807) : (Lib.decDigits n.toNat).length ≤ 20 := by
  have := dec_len 19 n.toNat (by omega)
  omega
theorem oneT_len {c : Cn} (h : c.tk ≤ 9223372036854775807) : (oneT c).length ≤ 26 + c.tg.size := by
  have h1 := dec_le c.tk h
  have h2 : c.tg.data.toList.length = c.tg.size := Array.length_toList
  unfold oneT
  rw [List.length_append]
  have h3 : (if c.no = true then notL else []).length ≤ 4 := by split <;> simp [notL]
  have h4 : (if c.tk = 0 then 91 :: (c.tg.data.toList ++ [93]) else 60 :: (Lib.decDigits c.tk.toNat ++ [62])).length ≤ 22 + c.tg.size := by
    split
    · simp only [List.length_cons, List.length_append, List.length_nil, h2]; omega
    · simp only [List.length_cons, List.length_append, List.length_nil]; omega
  omega
def wfC (c : Cn) : Prop := c.tk ≤ 9223372036854775807
theorem joinT_len (xs : List (List UInt8)) : (joinT xs).length ≤ (xs.map fun x => x.length + 1).sum := by
  match xs with
  | [] => simp [joinT_nil]
  | [a] => rw [joinT_one]; simp
  | a :: b :: r =>
    rw [joinT_cons, List.length_append, List.length_cons, List.map_cons, List.sum_cons]
    have := joinT_len (b :: r)
    omega
theorem sum_le {α : Type} (f g : α → Nat) (l : List α) (h : ∀ x ∈ l, f x ≤ g x) : (l.map f).sum ≤ (l.map g).sum := by
  induction l with
  | nil => simp
  | cons x r ih =>
    rw [List.map_cons, List.map_cons, List.sum_cons, List.sum_cons]
    have h1 := h x (List.mem_cons_self ..)
    have h2 := ih (fun y hy => h y (List.mem_cons_of_mem _ hy))
    omega
theorem sz_sum (cs : List Cn) : szRs (cs.map dCn) = (cs.map fun c => 1 + c.tg.size).sum := by
  induction cs with
  | nil => rfl
  | cons x r ih => rw [List.map_cons, szRs_cons, ih, sz_dCn, List.map_cons, List.sum_cons]
theorem sum_mul (n : Nat) {α : Type} (f : α → Nat) (l : List α) : (l.map fun x => n * f x).sum = n * (l.map f).sum := by
  induction l with
  | nil => simp
  | cons x r ih => rw [List.map_cons, List.map_cons, List.sum_cons, List.sum_cons, ih, Nat.mul_add]
theorem oneL_len {cs : List Cn} (h : ∀ c ∈ cs, wfC c) : (oneL cs).length ≤ 27 * szRs (cs.map dCn) + 2 := by
  unfold oneL
  rw [List.length_cons, List.length_append, List.length_singleton]
  have h1 := joinT_len (cs.map oneT)
  rw [List.map_map] at h1
  have h2 := sum_le ((fun x : List UInt8 => x.length + 1) ∘ oneT) (fun c => 27 * (1 + c.tg.size)) cs (fun c hc => by
    have := oneT_len (h c hc)
    simp only [Function.comp]
    omega)
  rw [sum_mul] at h2
  rw [sz_sum]
  omega
theorem sz_sum2 (ls : List (List Cn)) : szRs (ls.map dCs) = (ls.map fun cs => 1 + szRs (cs.map dCn)).sum := by
  induction ls with
  | nil => rfl
  | cons x r ih => rw [List.map_cons, szRs_cons, ih, sz_dCs, List.map_cons, List.sum_cons]
theorem oneI_len {ls : List (List Cn)} (h : ∀ cs ∈ ls, ∀ c ∈ cs, wfC c) : (oneI ls).length ≤ 27 * szRs (ls.map dCs) := by
  unfold oneI
  have h1 := joinT_len (ls.map oneL)
  rw [List.map_map] at h1
  have h2 := sum_le ((fun x : List UInt8 => x.length + 1) ∘ oneL) (fun cs => 27 * (1 + szRs (cs.map dCn))) ls (fun cs hcs => by
    have := oneL_len (h cs hcs)
    simp only [Function.comp]
    omega)
  rw [sum_mul] at h2
  rw [sz_sum2]
  omega
theorem take_sz (ls : List (List Cn)) (k : Nat) : szRs ((ls.take k).map dCs) ≤ szRs (ls.map dCs) := szRs_sub ((List.take_sublist k ls).map dCs)
theorem take_szC (cs : List Cn) (k : Nat) : szRs ((cs.take k).map dCn) ≤ szRs (cs.map dCn) := szRs_sub ((List.take_sublist k cs).map dCn)
/-- What well-formed arguments say. -/
theorem wf_of {ls : List (List Cn)} (h : okF (.l (ls.map dCs))) : ∀ cs ∈ ls, ∀ c ∈ cs, wfC c := fun cs hcs c hc => by
  have h1 := (okRs_mem _ h.1 _ (List.mem_map_of_mem (f := dCs) hcs)).1
  have h2 := okR_mem h1 (.l (cs.map dCn)) (by simp [dCs])
  have h3 := (okRs_mem _ h2.1 _ (List.mem_map_of_mem (f := dCn) hc)).1
  have h4 : (Lit.int .i64 c.tk).wf = true := okR_mem h3 (.c (.int .i64 c.tk)) (by simp [dCn])
  simp only [Lit.wf, Bool.and_eq_true, decide_eq_true_eq] at h4
  have h5 : (IntKind.max .i64 : Int) = 9223372036854775807 := by decide
  unfold wfC
  omega
end Go.Proofs.YtmgikfeknmbpbaaDoor
namespace Go.Proofs.YtmgikfeknmbpbaaDoor
open Go.RowKit

theorem ret_str {l m : List UInt8} (h : l = m) : Ending.returned (.string ⟨l.toArray⟩) = .returned (.string ⟨m.toArray⟩) := by rw [h]

/-- 'string(b)' of a row of bytes that the call owns: its bytes; the world is as it was. -/
theorem conv_own {w : World} {B n : Nat} {v : Value} {l : List UInt8} (h : w.ownsRow B 5 1 v n (Lib.byteCells l)) :
    (convert 74 9 v).run Tryd.prog w = .ok (.string ⟨l.toArray⟩) w := by
  have hn : n = l.length := by have := h.1; rw [Lib.byteCells_length] at this; omega
  subst hn
  rcases h.2 with ⟨rfl, h0⟩ | ⟨g, cap, cur, rfl, _, hg, _, _, _, htk⟩
  · have : l = [] := List.length_eq_zero_iff.1 h0
    subst this
    exact run_convert_bytes_nil w 74 5 Tryd.underlying74 Tryd.underlying5 0 0 9 Tryd.underlying9
  · refine run_convert_bytes_back w 74 9 5 _ cap l Tryd.underlying74 Tryd.underlying5 Tryd.underlying9 ?_
    intro j hj
    exact h.cells (g := g) rfl j _ (by simp [Lib.byteCells, List.getElem?_eq_getElem hj])

/-- What grew by writes to a row that the call owns is as it was below. -/
theorem below_grown {w w' : World} {B n : Nat} {e : TypeId} {v : Value} {xs : List Value} (h : w.ownsRow B e 1 v n xs) (hB : B ≤ w.heap.size) (hg : w.grownBy w' v.ownBlock) : Below B w w' :=
  ⟨hg.os, hg.tape, hg.output, hg.size, fun k hk => hg.block k (Nat.lt_of_lt_of_le hk hB) (fun e => by have := h.lt k e.symm; omega)⟩

theorem info_byte : (Tryd.prog.info? 5).map (fun i => (i.zero, i.size, i.bytes)) = some (some (.int .u8 0), 1, 1) := by kernel_rfl

/-- 'b = append(b, c)' on a row of bytes that the call owns. -/
theorem wp_append_byte {w : World} {ops : Array Oper} {rest : List Oper} {o : Oper} {a : Act} {Q : Exit → Act → World → Prop} (hgd : o.guard = none) (s x : Operand)
    (ho : o.op = .call { callee := .builtin .append, args := #[s, x], argTypes := #[74, 74] })
    (B : Nat) (v : Value) (n : Nat) (l : List UInt8) (hs : a.eval s = v) (hown : w.ownsRow B 5 1 v n (Lib.byteCells l))
    (ad : Addr) (c : UInt8) (hx : a.eval x = .slice (some ad) 1 1) (hcell : w.cell? ad = some (.int .u8 c.toNat)) (hlen : n + 1 ≤ 140737488355328) (hB : B ≤ w.heap.size)
    (h : ∀ v' w', w'.ownsRow B 5 1 v' (n + 1) (Lib.byteCells (l ++ [c])) → Below B w w' → wpList Tryd.prog ops Q rest (a.put o.dst v') w') : wpList Tryd.prog ops Q (o :: rest) a w := by
  obtain ⟨i0, hi, hz0, hz1, hz2⟩ := info_parts info_byte
  refine wpList_append_own w hgd s x 74 ho B 5 i0 (.int .u8 0) 1 1 Tryd.underlying74 hi hz0 hz1 hz2 rfl (by decide) v n _ hs hown ad 1 1 [.int .u8 c.toNat] hx rfl ?_ ?_ ?_ ?_ hB ?_
  · intro j u hj
    match j, hj with
    | 0, hj =>
      simp at hj; subst hj
      have : ad.add 0 = ad := by unfold Addr.add; split <;> simp_all
      rw [this]; exact hcell
  · intro u hu; simp at hu; subst hu; rfl
  · unfold maxLen; omega
  · omega
  · intro v' w' ho' hg _
    refine h v' w' ?_ (below_grown hown hB hg)
    rw [Lib.byteCells_append]
    exact ho'

/-- A row of bytes in block N, none of them frozen. -/
def RowAt (w : World) (N : Nat) (l : List UInt8) : Prop := ∀ j (hj : j < l.length), w.cell? ⟨N, j, none⟩ = some (.int .u8 l[j].toNat) ∧ w.frozen? ⟨N, j, none⟩ = false

theorem RowAt.alloc {w : World} {N : Nat} {l : List UInt8} (h : RowAt w N l) (hN : N < w.heap.size) (o : Obj) : RowAt (w.alloc o) N l := fun j hj =>
  ⟨(World.cell?_alloc_past o N j hN).trans (h j hj).1, (World.frozen?_alloc_past o N j hN).trans (h j hj).2⟩

theorem RowAt.set {w : World} {N : Nat} {l : List UInt8} (h : RowAt w N l) (k : Nat) (hk : k < l.length) (c : UInt8) : RowAt (w.setCell ⟨N, k, none⟩ (.int .u8 c.toNat)) N (l.set k c) := by
  intro j hj
  have hj' : j < l.length := by simpa using hj
  refine ⟨?_, by rw [World.frozen?_setCell]; exact (h j hj').2⟩
  by_cases e : k = j
  · subst e
    rw [World.cell?_setCell_same _ _ _ (h k hk).1]
    simp
  · have hne : (⟨N, k, none⟩ : Addr) ≠ ⟨N, j, none⟩ := fun e' => e (congrArg Addr.off e')
    rw [World.cell?_setCell_other _ _ _ _ hne, (h j hj').1]
    simp [e]

/-- 'string(b)' of such a row. -/
theorem conv_row {w : World} {N n cap : Nat} {l : List UInt8} (h : RowAt w N l) (hn : l.length = n) :
    (convert 74 9 (.slice (some ⟨N, 0, none⟩) n cap)).run Tryd.prog w = .ok (.string ⟨l.toArray⟩) w := by
  subst hn
  refine run_convert_bytes_back w 74 9 5 _ cap l Tryd.underlying74 Tryd.underlying5 Tryd.underlying9 ?_
  intro j hj
  have : (⟨N, 0, none⟩ : Addr).add j = ⟨N, j, none⟩ := by
    unfold Addr.add; split <;> simp_all
  rw [this]; exact (h j hj).1

/-- 'string(b)' of the end of such a row. -/
theorem conv_at {w : World} {N o n cap : Nat} {pre l : List UInt8} (h : RowAt w N (pre ++ l)) (ho : pre.length = o) (hn : l.length = n) :
    (convert 74 9 (.slice (some ⟨N, o, none⟩) n cap)).run Tryd.prog w = .ok (.string ⟨l.toArray⟩) w := by
  subst hn ho
  refine run_convert_bytes_back w 74 9 5 _ cap l Tryd.underlying74 Tryd.underlying5 Tryd.underlying9 ?_
  intro j hj
  have e : (⟨N, pre.length, none⟩ : Addr).add j = ⟨N, pre.length + j, none⟩ := by
    unfold Addr.add; split <;> simp_all
  rw [e, (h (pre.length + j) (by simp; omega)).1]
  simp

end Go.Proofs.YtmgikfeknmbpbaaDoor
namespace Go.Proofs.YtmgikfeknmbpbaaDoor
open Go.RowKit M

/-- string([]byte of one byte). -/
theorem conv_one (W : World) (x : Int) : (convert 74 9 (.slice (some ⟨W.heap.size, 0, none⟩) 1 1)).run Tryd.prog (W.alloc (.cells #[.int .u8 x] 5)) = .ok (.string ⟨#[UInt8.ofNat x.toNat]⟩) (W.alloc (.cells #[.int .u8 x] 5)) := by
  have h := run_convert_bytes_arg (P := Tryd.prog) (W.alloc (.cells #[.int .u8 x] 5)) 74 5 Tryd.underlying74 Tryd.underlying5 W.heap.size 0 1 1 [x] rfl (by
    intro i hi
    obtain rfl : i = 0 := by omega
    simp) 9 Tryd.underlying9
  exact h

theorem cat_one (c : UInt8) (t : List UInt8) : (⟨#[c]⟩ : ByteArray) ++ ⟨t.toArray⟩ = ⟨(c :: t).toArray⟩ := by
  apply ByteArray.ext
  simp

theorem low_form (m : Nat) : UInt8.ofNat (48 + m % 10) = decLow m := rfl
theorem low_form' (m : Nat) : 48 + UInt8.ofNat (m % 10) = decLow m := by
  unfold decLow
  rw [UInt8.ofNat_add]; rfl

set_option maxHeartbeats 1000000 in
theorem specNumText_pos (N : Nat) (w : World) (hN : N ≤ 9223372036854775807) :
    Calls Tryd.prog 39 #[.int .i64 N] w fun e w' => e = .returned (.string ⟨(Lib.decDigits N).toArray⟩) ∧ Below w.heap.size w w' := by
  have hcv := conv_one
  go_enter Tryd.func39, Tryd.ntmps39
  go_wp2
  go_loopw [0, 3] (fun n v wr => ∃ (m : Nat) (t : List UInt8), n = .int .i64 m ∧ v = .string ⟨t.toArray⟩ ∧ m ≤ 9223372036854775807 ∧ t.length + m ≤ N + 1 ∧ Lib.decDigits N = decAhead m ++ t ∧ Below w.heap.size w wr) (fun n _ _ => (intOf n).toNat)
  case atStart => exact ⟨N, [decLow N], rfl, by rw [low_form], hN, by simp; omega, decDigits_ahead N, (Below.refl _ _).alloc (Nat.le_refl _) _⟩
  case round =>
    obtain ⟨m, t, rfl, rfl, hm, ht, hd, hbe⟩ := hrel
    have HD : Hid (Lib.decDigits N = decAhead m ++ t) := hd; clear hd
    by_cases h9 : 9 < m
    · have h9' : (9 : Int) < (m : Int) := by omega
      go_wp2
      go_roundw
      case rel =>
        refine ⟨m / 10, decLow (m / 10) :: t, by go_num, by rw [low_form', cat_one], by omega, by simp; omega, ?_, hbe.alloc hbe.size _⟩
        rw [HD.out, decAhead_step m h9, List.append_assoc]; rfl
      case measure => simp [intOf]; omega
    · go_wp2
      go_ret
      exact ⟨ret_str (by rw [HD.out, decAhead_end m h9]; rfl), hbe⟩

set_option maxHeartbeats 400000 in
theorem specNumText_neg (n : Int) (w : World) (hn : n < 0) :
    Calls Tryd.prog 39 #[.int .i64 n] w fun e w' => e = .returned (.string ⟨(Lib.decDigits 0).toArray⟩) ∧ Below w.heap.size w w' := by
  have hcv := conv_one
  go_enter Tryd.func39, Tryd.ntmps39
  go_wp2
  go_loopw [0, 3] (fun n v wr => n = .int .i64 0 ∧ v = .string ⟨#[48]⟩ ∧ Below w.heap.size w wr) (fun n _ _ => (intOf n).toNat)
  case atStart => exact ⟨rfl, rfl, (Below.refl _ _).alloc (Nat.le_refl _) _⟩
  case round =>
    obtain ⟨rfl, rfl, hbe⟩ := hrel
    go_wp2
    go_ret
    exact ⟨ret_str (l := [48]) (by rw [decDigits_ahead]; rfl), hbe⟩

theorem specNumText_any (n : Int) (w : World) (hn : n ≤ 9223372036854775807) :
    Calls Tryd.prog 39 #[.int .i64 n] w fun e w' => e = .returned (.string ⟨(Lib.decDigits n.toNat).toArray⟩) ∧ Below w.heap.size w w' := by
  by_cases h : n < 0
  · have e : n.toNat = 0 := by omega
    rw [e]; exact specNumText_neg n w h
  · obtain ⟨m, rfl⟩ := Int.eq_ofNat_of_zero_le (by omega : 0 ≤ n)
    rw [Int.toNat_natCast]
    exact specNumText_pos m w (by omega)
end Go.Proofs.YtmgikfeknmbpbaaDoor
namespace Go.Proofs.YtmgikfeknmbpbaaDoor

theorem ret_bool {a b : Bool} (h : a = b) : Ending.returned (.bool a) = .returned (.bool b) := by rw [h]
end Go.Proofs.YtmgikfeknmbpbaaDoor
namespace Go.Proofs.YtmgikfeknmbpbaaDoor
open Go.RowKit M
set_option linter.unusedVariables false

theorem take_sameI {α : Type} {a b : List α} {k : Nat} (ha : k < a.length) (hb : k < b.length) (h : a.take k = b.take k) (e : a[k] = b[k]) : a.take (k + 1) = b.take (k + 1) := by
  rw [List.take_succ_eq_append_getElem ha, List.take_succ_eq_append_getElem hb, h, e]
theorem take_not {α : Type} {a b : List α} {k : Nat} (ha : k < a.length) (hb : k < b.length) (e : a[k] ≠ b[k]) : ¬ a = b := fun h => e (by subst h; rfl)
theorem cn_eq {x y : Cn} (h0 : x.no = y.no) (h1 : x.tk = y.tk) (h2 : x.tg.toList = y.tg.toList) : x = y := by
  obtain ⟨a, b, c⟩ := x
  obtain ⟨d, e, f⟩ := y
  simp only at h0 h1 h2
  subst h0 h1
  have : c = f := by
    apply ByteArray.ext
    rw [ByteArray.toList_eq, ByteArray.toList_eq] at h2
    exact Array.toList_inj.1 h2
  rw [this]
theorem ne_tg {x y : Cn} (h : ¬ x.tg.toList = y.tg.toList) : x ≠ y := fun e => h (by rw [e])

set_option maxRecDepth 100000 in
set_option maxHeartbeats 8000000 in
theorem l14Same_any (p q : Option Addr) (a b : List (List Cn)) (ca cb B C : Nat) (w : World) (h : Cnss w B p a) (h' : Cnss w C q b) (hla : a.length ≤ 1048576) (hlb : b.length ≤ 1048576) (hna : ∀ cs ∈ a, cs.length ≤ 1048576) (hnb : ∀ cs ∈ b, cs.length ≤ 1048576) :
    Calls Tryd.prog 23 #[.slice p a.length ca, .slice q b.length cb] w fun e w' => (∃ z : Bool, e = .returned (.bool z) ∧ (z = true ↔ a = b)) ∧ Below w.heap.size w w' := by
  have HH := hide h
  have HH' := hide h'
  have HNA := hide hna
  have HNB := hide hnb
  clear h h' hna hnb
  by_cases hl : a.length = b.length
  rotate_left
  · have HN := hide (show ¬ a = b from fun e => hl (by rw [e]))
    have hl1 : ((a.length : Int) == (b.length : Int)) = false := by rw [beq_eq_false_iff_ne]; omega
    have hl2 : ((a.length : Int) != (b.length : Int)) = true := by rw [bne_iff_ne]; omega
    go_enter Tryd.func23, Tryd.ntmps23
    go_wp2
    go_ret
    exact ⟨⟨_, rfl, ⟨fun e => (by cases e), fun e => absurd e HN.out⟩⟩, Below.refl _ _⟩
  have hl1 : ((a.length : Int) == (b.length : Int)) = true := by rw [beq_iff_eq]; omega
  have hl2 : ((a.length : Int) != (b.length : Int)) = false := by rw [hl]; simp
  have HL := hide hl
  clear hl
  go_enter Tryd.func23, Tryd.ntmps23
  go_wp2
  go_loopw [5] (fun i wr => ∃ k n : Nat, k ≤ a.length ∧ i = .int .i64 k ∧ Hid (a.take k = b.take k) ∧ wr = w.drewN n) (fun i _ => a.length - (intOf i).toNat)
  case atStart => exact ⟨0, 0, Nat.zero_le _, rfl, rfl, rfl⟩
  case round =>
    obtain ⟨k, n, hk, rfl, HT, hw⟩ := hrel
    subst hw
    by_cases hlt : k < a.length
    · have hltb : k < b.length := by have := HL.out; omega
      obtain ⟨b1, o1, rfl, hb1, hc1⟩ := HH.out (by omega)
      obtain ⟨b2, o2, rfl, hb2, hc2⟩ := HH'.out (by omega)
      obtain ⟨pa, pc, x0, hin1⟩ := hc1 k hlt
      obtain ⟨pb, pd, y0, hin2⟩ := hc2 k hltb
      have HIN1 := hide hin1.ps
      have HIN2 := hide hin2.ps
      have hn1 := HNA.out _ (List.getElem_mem hlt)
      have hn2 := HNB.out _ (List.getElem_mem hltb)
      have HNE := hide (fun e => take_not hlt hltb e)
      have HSM := hide (fun e => take_sameI hlt hltb HT.out e)
      have d0 : (w.drewN n).cell? ⟨b1, o1 + k, none⟩ = some (.slice pa a[k].length pc) := x0
      have d1 : (w.drewN n).cell? ⟨b2, o2 + k, none⟩ = some (.slice pb b[k].length pd) := y0
      clear hc1 hc2 hin1 hin2
      have hi0 : (0 : Int) ≤ (k : Int) := by omega
      have hi1 : (k : Int) < (a.length : Int) := by omega
      have hi2 : (k : Int) < (b.length : Int) := by omega
      obtain ⟨cs, hcs⟩ : ∃ z, a[k] = z := ⟨_, rfl⟩
      obtain ⟨ds, hds⟩ : ∃ z, b[k] = z := ⟨_, rfl⟩
      rw [hcs] at HNE HSM HIN1 hn1 x0 d0
      rw [hds] at HNE HSM HIN2 hn2 y0 d1
      clear hcs hds
      by_cases hm : cs.length = ds.length
      rotate_left
      · have HN := hide (HNE.out (fun e => hm (by rw [e])))
        have hm1 : ((cs.length : Int) == (ds.length : Int)) = false := by rw [beq_eq_false_iff_ne]; omega
        have hm2 : ((cs.length : Int) != (ds.length : Int)) = true := by rw [bne_iff_ne]; omega
        clear hm
        go_wp2
        go_quiet (fail)
        go_wp2
        go_ret
        exact ⟨⟨_, rfl, ⟨fun e => (by cases e), fun e => absurd e HN.out⟩⟩, below_drewN (below_drewN (Below.refl _ _) _) _⟩
      have hm1 : ((cs.length : Int) == (ds.length : Int)) = true := by rw [beq_iff_eq]; omega
      have hm2 : ((cs.length : Int) != (ds.length : Int)) = false := by rw [hm]; simp
      have HM := hide hm
      clear hm
      go_wp2
      go_quiet (fail)
      go_wp2
      go_loopw [6] (fun i wr => ∃ j m : Nat, j ≤ cs.length ∧ i = .int .i64 j ∧ Hid (cs.take j = ds.take j) ∧ wr = w.drewN m) (fun i _ => cs.length - (intOf i).toNat)
      case atStart => exact ⟨0, n + nq, Nat.zero_le _, rfl, rfl, by simp⟩
      case round =>
        obtain ⟨j, m, hj, rfl, HTJ, hw⟩ := hrel
        subst hw
        have e0 : (w.drewN m).cell? ⟨b1, o1 + k, none⟩ = some (.slice pa cs.length pc) := x0
        have e1 : (w.drewN m).cell? ⟨b2, o2 + k, none⟩ = some (.slice pb ds.length pd) := y0
        by_cases hjl : j < cs.length
        · have hjd : j < ds.length := by have := HM.out; omega
          obtain ⟨b3, o3, rfl, hb3, hc3⟩ := HIN1.out (by omega)
          obtain ⟨b4, o4, rfl, hb4, hc4⟩ := HIN2.out (by omega)
          obtain ⟨u0, u1, u2⟩ := hc3 j hjl
          obtain ⟨v0, v1, v2⟩ := hc4 j hjd
          have HNJ := hide (fun e => HNE.out (take_not hjl hjd e))
          have HSJ := hide (fun e => take_sameI hjl hjd HTJ.out e)
          clear hc3 hc4
          obtain ⟨x, hx⟩ : ∃ z, cs[j] = z := ⟨_, rfl⟩
          obtain ⟨y, hy⟩ : ∃ z, ds[j] = z := ⟨_, rfl⟩
          rw [hx] at HNJ HSJ u0 u1 u2
          rw [hy] at HNJ HSJ v0 v1 v2
          clear hx hy
          have f0 : (w.drewN m).cell? ⟨b3, o3 + j * 3, none⟩ = some (.bool x.no) := u0
          have f1 : (w.drewN m).cell? ⟨b3, o3 + j * 3 + 1, none⟩ = some (.int .i64 x.tk) := u1
          have f2 : (w.drewN m).cell? ⟨b3, o3 + j * 3 + 2, none⟩ = some (.string x.tg) := u2
          have g0 : (w.drewN m).cell? ⟨b4, o4 + j * 3, none⟩ = some (.bool y.no) := v0
          have g1 : (w.drewN m).cell? ⟨b4, o4 + j * 3 + 1, none⟩ = some (.int .i64 y.tk) := v1
          have g2 : (w.drewN m).cell? ⟨b4, o4 + j * 3 + 2, none⟩ = some (.string y.tg) := v2
          have hj0 : (0 : Int) ≤ (j : Int) := by omega
          have hj1 : (j : Int) < (cs.length : Int) := by omega
          have hj2 : (j : Int) < (ds.length : Int) := by omega
          by_cases q0 : x.no = y.no
          · by_cases q1 : x.tk = y.tk
            · by_cases q2 : x.tg.toList = y.tg.toList
              · have HN := hide (HSJ.out (cn_eq q0 q1 q2))
                go_wp2
                go_quiet (fail)
                go_wp2
                go_roundw
                case rel => exact ⟨j + 1, m + nq, by omega, by go_num, HN, by simp⟩
                case measure => simp [intOf]; omega
              · have HN := hide (HNJ.out (ne_tg q2))
                go_wp2
                go_quiet (fail)
                go_wp2
                go_ret
                exact ⟨⟨_, rfl, ⟨fun e => (by cases e), fun e => absurd e HN.out⟩⟩, below_drewN (below_drewN (Below.refl _ _) _) _⟩
            · have HN := hide (HNJ.out (fun e => q1 (by rw [e])))
              go_wp2
              go_quiet (fail)
              go_wp2
              go_ret
              exact ⟨⟨_, rfl, ⟨fun e => (by cases e), fun e => absurd e HN.out⟩⟩, below_drewN (below_drewN (Below.refl _ _) _) _⟩
          · have HN := hide (HNJ.out (fun e => q0 (by rw [e])))
            go_wp2
            go_quiet (fail)
            go_wp2
            go_ret
            exact ⟨⟨_, rfl, ⟨fun e => (by cases e), fun e => absurd e HN.out⟩⟩, below_drewN (below_drewN (Below.refl _ _) _) _⟩
        · have HE := hide (HSM.out (by
            have h1 := HTJ.out
            rw [List.take_of_length_le (by omega), List.take_of_length_le (by have := HM.out; omega)] at h1
            exact h1))
          go_wp2
          go_roundw
          case rel => exact ⟨k + 1, m, by omega, by go_num, HE, rfl⟩
          case measure => simp [intOf]; omega
    · have HE := hide (show a = b by
        have h1 := HT.out
        rw [List.take_of_length_le (by omega), List.take_of_length_le (by have := HL.out; omega)] at h1
        exact h1)
      go_wp2
      go_ret
      exact ⟨⟨_, rfl, ⟨fun _ => HE.out, fun _ => rfl⟩⟩, below_drewN (Below.refl _ _) _⟩
end Go.Proofs.YtmgikfeknmbpbaaDoor
namespace Go.Proofs.YtmgikfeknmbpbaaDoor.M

/-- A small name: a small letter, then small letters, digits and hyphens, at most 20 in all. -/
def smB : List UInt8 → Bool
  | [] => false
  | c :: r => decide ((c :: r).length ≤ 20) && isB (c.toNat : Int) 2 && allB (c :: r) [2, 4, 7]

/-- What the specification asks of the byte at place i. -/
def okAt (i : Nat) (c : Int) : Bool := isB c 2 || (i != 0 && (isB c 4 || c == 45))

theorem anyB_3 (c : Int) : anyB c [2, 4, 7] = (isB c 2 || (isB c 4 || c == 45)) := by
  simp [anyB, isB]

theorem okAt_any {i : Nat} {c : Int} (h : okAt i c = true) : anyB c [2, 4, 7] = true := by
  rw [anyB_3]
  unfold okAt at h
  cases h1 : isB c 2 <;> simp_all

theorem ok1 {k : Nat} {c : Int} (h : isB c 2 = true) : okAt k c = true := by simp [okAt, h]
theorem no2 {k : Nat} {c : Int} (h : ¬ isB c 2 = true) (h1 : k = 0) : okAt k c = false := by simp [okAt, h1]; simpa using h
theorem ok3 {k : Nat} {c : Int} (h1 : ¬ k = 0) (h2 : isB c 4 = true) : okAt k c = true := by simp [okAt, h1, h2]
theorem no4 {k : Nat} {c : Int} (h : ¬ isB c 2 = true) (h1 : ¬ k = 0) (h2 : ¬ isB c 4 = true) (h3 : ((k : Int) == 0) = true ∨ (c != 45) = true) : okAt k c = false := by
  rcases h3 with h3 | h3
  · simp at h3; exact absurd h3 h1
  · simp at h h2 h3; simp [okAt, h, h2, h3]
theorem ok5 {k : Nat} {c : Int} (h1 : ¬ k = 0) (h3 : ((k : Int) == 0) = false ∧ (c != 45) = false) : okAt k c = true := by
  obtain ⟨_, h3⟩ := h3
  simp at h3
  simp [okAt, h1, h3]

theorem smB_notL (l : List UInt8) (k : Nat) (h' : k < l.length) (h1 : okAt k (l[k].toNat : Int) = false) : smB l = false := by
  match l, k, h', h1 with
  | c :: r, 0, h', h1 =>
    have h2 : okAt 0 (c.toNat : Int) = false := h1
    simp [okAt] at h2
    simp [smB, h2]
  | c :: r, k + 1, h', h1 =>
    simp only [List.getElem_cons_succ] at h1
    have h2 : anyB (r[k]'(by simpa using h')).toNat [2, 4, 7] = false := by
      rw [anyB_3]; simpa [okAt] using h1
    have h3 : allB (c :: r) [2, 4, 7] = false := by
      unfold allB
      rw [List.all_eq_false]
      exact ⟨_, List.mem_cons_of_mem _ (List.getElem_mem (by simpa using h')), by simp [h2]⟩
    simp [smB, h3]

theorem smB_not (s : ByteArray) (k : Nat) (h : k < s.size) (h1 : okAt k (s[k].toNat : Int) = false) : smB s.data.toList = false := by
  have e : s.data.toList.length = s.size := Array.length_toList
  exact smB_notL s.data.toList k (by omega) h1

theorem smB_allL (l : List UInt8) (h2 : ∀ i (hi : i < l.length), okAt i (l[i].toNat : Int) = true) : smB l = inB (l.length : Int) 1 20 := by
  match l, h2 with
  | [], _ => simp [smB, inB]
  | c :: r, h2 =>
    have h0 : okAt 0 (c.toNat : Int) = true := h2 0 (by simp)
    have h3 : isB (c.toNat : Int) 2 = true := by simpa [okAt] using h0
    have h4 : allB (c :: r) [2, 4, 7] = true := by
      unfold allB
      rw [List.all_eq_true]
      intro x hx
      obtain ⟨i, hi, rfl⟩ := List.mem_iff_getElem.1 hx
      exact okAt_any (h2 i hi)
    simp only [smB, h3, h4, inB]
    rw [Bool.and_true, Bool.and_true, Bool.eq_iff_iff]
    simp
    omega

theorem smB_all (s : ByteArray) (h : ∀ i (hi : i < s.size), okAt i (s[i].toNat : Int) = true) : smB s.data.toList = inB (s.size : Int) 1 20 := by
  have e : s.data.toList.length = s.size := Array.length_toList
  rw [← e]
  exact smB_allL s.data.toList fun i hi => h i (by omega)

theorem smB_implL (l : List UInt8) (h0 : 0 < l.length) (h1 : l.length ≤ 20) : smB l = (isB (l[0].toNat : Int) 2 && allB l [2, 4, 7]) := by
  match l, h0, h1 with
  | c :: r, h0, h1 =>
    have h1' : r.length + 1 ≤ 20 := by simpa using h1
    show smB (c :: r) = (isB (c.toNat : Int) 2 && allB (c :: r) [2, 4, 7])
    simp [smB, h1']

/-- The program's own way to it. -/
theorem smB_impl (s : ByteArray) (h0 : 0 < s.size) (h1 : s.size ≤ 20) : smB s.data.toList = (isB ((s[0]).toNat : Int) 2 && allB s.data.toList [2, 4, 7]) := by
  have e : s.data.toList.length = s.size := Array.length_toList
  exact smB_implL s.data.toList (by omega) (by omega)

theorem smB_longL (l : List UInt8) (h : l.length < 1 ∨ 20 < l.length) : smB l = false := by
  match l, h with
  | [], _ => rfl
  | c :: r, h =>
    have h' : ¬ r.length + 1 ≤ 20 := by simp at h; omega
    simp [smB, h']

theorem smB_long (s : ByteArray) (h : s.size < 1 ∨ 20 < s.size) : smB s.data.toList = false := by
  have e : s.data.toList.length = s.size := Array.length_toList
  exact smB_longL _ (by omega)

end Go.Proofs.YtmgikfeknmbpbaaDoor.M
