/-
  The leafs of texts and numbers.
  The leafs of what must be, and of lists of it.
  Boxes of several cells, and rows that are made one by one.
  Out of many choices a list.
  Rows that a call makes by append, of whatever elements: each has the same number of cells.
  What slices of what must be hold.
  How the specification tells lists, against how they are told.
  What is read of a short text is small.
  The Tokens without Not; and whether a list holds.
  What grows one block alone turns nothing but it.
  Plain facts on marks and texts one behind the other: no program in sight.
  Plain facts on how a text is read back, a byte at a time, by places: no program in sight.
-/
import Derived.Test.YtfhcniifennfbaaGreatDoorGenOwn
import Derived.Test.YtfhcniifennfbaaGreatDoorTurn
import Derived.WalkKit
import Derived.Below
import Derived.Test.YtfhcniifennfbaaGreatDoorSliceEq
import Derived.Maps.AppendAt
import Derived.Deep.OwnRows
import Derived.Test.YtfhcniifennfbaaGreatDoorMathHex
import Derived.Test.YtfhcniifennfbaaGreatDoorMathLock
namespace Go.Proofs.YtfhcniifennfbaaGreatDoor
open Go.RowKit M
set_option linter.unusedVariables false

def dS (s : ByteArray) : List Lf := [.c (.string s)]
def dI (n : Int) : List Lf := [.c (.int .i64 n)]
def dB (n : Int) : List Lf := [.c (.int .u8 n)]
theorem cntRs_map {α : Type} (f : α → List Lf) (c : Nat) (h : ∀ x, cntR (f x) = c) (l : List α) : cntRs (l.map f) = c * l.length := by
  induction l with
  | nil => simp [cntRs]
  | cons x l ih => rw [List.map_cons, cntRs_cons, ih, h, List.length_cons, Nat.mul_add]; omega
theorem cnt_lenF {α : Type} (f : α → List Lf) (h : ∀ x, 1 ≤ cntR (f x)) (l : List α) : l.length ≤ cntRs (l.map f) := by
  induction l with
  | nil => simp
  | cons x l ih => rw [List.map_cons, cntRs_cons, List.length_cons]; have := h x; omega
theorem szRs_flat {α : Type} (f : α → List Lf) (h : ∀ x, szR (f x) = 0) (l : List α) : szRs (l.map f) = l.length := by
  induction l with
  | nil => simp [szRs]
  | cons x l ih => rw [List.map_cons, szRs_cons, ih, h, List.length_cons]; omega
theorem szRs_sub {a b : List (List Lf)} (h : List.Sublist a b) : szRs a ≤ szRs b := by
  induction h with
  | slnil => exact Nat.le_refl _
  | cons x _ ih => rw [szRs_cons]; omega
  | cons_cons x _ ih => rw [szRs_cons, szRs_cons]; omega
theorem okR_mem {r : List Lf} (h : okR r) (x : Lf) (hx : x ∈ r) : okF x := by
  induction r with
  | nil => cases hx
  | cons y r ih =>
    unfold okR at h
    rcases List.mem_cons.1 hx with rfl | hx
    · exact h.1
    · exact ih h.2 hx
theorem cnt_dS (l : List ByteArray) : cntRs (l.map dS) = l.length := by rw [cntRs_map dS 1 (fun _ => by simp [dS, cntR, cntF])]; omega
theorem cnt_dI (l : List Int) : cntRs (l.map dI) = l.length := by rw [cntRs_map dI 1 (fun _ => by simp [dI, cntR, cntF])]; omega
theorem cnt_dB (l : List Int) : cntRs (l.map dB) = l.length := by rw [cntRs_map dB 1 (fun _ => by simp [dB, cntR, cntF])]; omega
end Go.Proofs.YtfhcniifennfbaaGreatDoor
namespace Go.Proofs.YtfhcniifennfbaaGreatDoor
open Go.RowKit M

def dCn (x : Cn) : List Lf := [.c (.bool x.no), .c (.int .i64 x.tk), .c (.string x.tg)]
def dCs (l : List Cn) : List Lf := [.l (l.map dCn)]
end Go.Proofs.YtfhcniifennfbaaGreatDoor
namespace Go.Proofs.YtfhcniifennfbaaGreatDoor
open Go.RowKit M
set_option linter.unusedVariables false

/-- The blocks from l on, before u. -/
def IvG (l u : Nat) : Nat → Prop := fun x => l ≤ x ∧ x < u
theorem Own.up {w : World} {v : Value} {x : Lf} {l u l' u' : Nat} (h : Own w v x (IvG l u)) (h1 : l' ≤ l) (h2 : u ≤ u') : Own w v x (IvG l' u') :=
  h.wide (fun y hy => ⟨Nat.le_trans h1 hy.1, Nat.lt_of_lt_of_le hy.2 h2⟩)
theorem Own.vw {w : World} {v : Value} {x : Lf} {l u B : Nat} (h : Own w v x (IvG l u)) (hB : u ≤ B) : View w B v x := h.view (fun y hy => Nat.lt_of_lt_of_le hy.2 hB)
theorem View.turn {w w' : World} {v : Value} {x : Lf} {B : Nat} {S : Nat → Prop} (h : View w B v x) (t : Turn S w w') (hS : ∀ y, S y → B ≤ y) (hB : B ≤ w.heap.size) : View w' B v x :=
  h.stays (t.below hS hB) (Nat.le_refl _)
theorem bcellG {B : Nat} {W w1 : World} (hb : Below B W w1) : (∀ b o, b < B → w1.cell? ⟨b, o, none⟩ = W.cell? ⟨b, o, none⟩) ∧ (∀ b o, b < B → w1.frozen? ⟨b, o, none⟩ = W.frozen? ⟨b, o, none⟩) :=
  ⟨fun b o h => hb.cell (p := ⟨b, o, none⟩) h, fun b o h => hb.frozen (p := ⟨b, o, none⟩) h⟩
theorem below_drewG {w w' : World} {n : Nat} (hb : Below n w w') : Below n w w'.drew := ⟨hb.1, hb.2, hb.3, hb.4, hb.5⟩
theorem retG {a b : Bool} (h : a = b) : (Ending.returned (.bool a) : Ending) = .returned (.bool b) := by rw [h]

/-- A box: its cells. -/
def BoxV (w : World) (N : Nat) (vs : List Value) : Prop := N < w.heap.size ∧ ∀ i v, vs[i]? = some v → w.cell? ⟨N, i, none⟩ = some v ∧ w.frozen? ⟨N, i, none⟩ = false
theorem BoxV.made (w : World) (vs : List Value) (t : TypeId) : BoxV (w.alloc (Obj.cells vs.toArray t)) w.heap.size vs := by
  have hr := World.rowIs_alloc w vs.toArray t (fun i => (vs[i]?).getD (.bool false)) (fun i hi => by
    have hi' : i < vs.length := by simpa using hi
    simp [List.getElem?_eq_getElem hi'])
  refine ⟨hr.lt, fun i v hv => ?_⟩
  have hi := (List.getElem?_eq_some_iff.1 hv).1
  exact ⟨by rw [hr.cell (by simpa using hi), hv]; rfl, hr.frozen i⟩
theorem BoxV.next {w w' : World} {N : Nat} {vs : List Value} (h : BoxV w N vs) (hb : Below w.heap.size w w') : BoxV w' N vs :=
  ⟨Nat.lt_of_lt_of_le h.1 hb.size, fun i v hv => by rw [hb.cell (p := ⟨N, i, none⟩) h.1, hb.frozen (p := ⟨N, i, none⟩) h.1]; exact h.2 i v hv⟩
theorem BoxV.turn {w w' : World} {N : Nat} {vs : List Value} {S : Nat → Prop} (h : BoxV w N vs) (t : Turn S w w') (hN : ¬ S N) : BoxV w' N vs :=
  ⟨Nat.lt_of_lt_of_le h.1 t.size, fun i v hv => by rw [t.cell h.1 hN, t.frozen h.1 hN]; exact h.2 i v hv⟩
theorem BoxV.alloc {w : World} {N : Nat} {vs : List Value} (h : BoxV w N vs) (o : Obj) : BoxV (w.alloc o) N vs := h.next ((Below.refl _ _).alloc (Nat.le_refl _) o)
theorem BoxV.drew {w : World} {N : Nat} {vs : List Value} (h : BoxV w N vs) : BoxV w.drew N vs := h.next (below_drewG (Below.refl _ _))
theorem BoxV.set {w : World} {N : Nat} {vs : List Value} (h : BoxV w N vs) (i : Nat) (hi : i < vs.length) (v : Value) : BoxV (w.setCell ⟨N, i, none⟩ v) N (vs.set i v) := by
  refine ⟨by simpa using h.1, fun j u hu => ?_⟩
  rw [World.frozen?_setCell]
  by_cases e : j = i
  · subst e
    rw [List.getElem?_set_self hi] at hu
    cases hu
    exact ⟨World.cell?_setCell_same _ _ _ (h.2 j _ (List.getElem?_eq_getElem hi)).1, (h.2 j _ (List.getElem?_eq_getElem hi)).2⟩
  · rw [List.getElem?_set_ne (fun e' => e e'.symm)] at hu
    exact ⟨(World.cell?_setCell_other _ _ _ _ (fun e' => e (congrArg Addr.off e').symm)).trans (h.2 j u hu).1, (h.2 j u hu).2⟩
theorem BoxV.other {w : World} {N : Nat} {vs : List Value} (h : BoxV w N vs) (p : Addr) (v : Value) (hp : p.block ≠ N) : BoxV (w.setCell p v) N vs :=
  ⟨by simpa using h.1, fun i u hu => by
    rw [World.frozen?_setCell, World.cell?_setCell_other _ _ _ _ (fun e => hp (congrArg Addr.block e))]
    exact h.2 i u hu⟩

/-- Some cells stored, one behind the other. -/
def setAll (w : World) (g o : Nat) : List Value → World
  | [] => w
  | v :: vs => setAll (w.setCell ⟨g, o, none⟩ v) g (o + 1) vs
theorem setAll_size (w : World) (g o : Nat) (vs : List Value) : (setAll w g o vs).heap.size = w.heap.size := by
  induction vs generalizing w o with
  | nil => rfl
  | cons v vs ih => show (setAll _ g (o + 1) vs).heap.size = _; rw [ih]; simp
theorem setAll_frozen (w : World) (g o : Nat) (vs : List Value) (p : Addr) : (setAll w g o vs).frozen? p = w.frozen? p := by
  induction vs generalizing w o with
  | nil => rfl
  | cons v vs ih => show (setAll _ g (o + 1) vs).frozen? p = _; rw [ih, World.frozen?_setCell]
theorem setAll_other (w : World) (g o : Nat) (vs : List Value) (b q : Nat) (h : b ≠ g ∨ q < o ∨ o + vs.length ≤ q) : (setAll w g o vs).cell? ⟨b, q, none⟩ = w.cell? ⟨b, q, none⟩ := by
  induction vs generalizing w o with
  | nil => rfl
  | cons v vs ih =>
    show (setAll _ g (o + 1) vs).cell? _ = _
    rw [List.length_cons] at h
    rw [ih _ _ (by omega)]
    refine World.cell?_setCell_other _ _ _ _ (fun e => ?_)
    have e1 := congrArg Addr.block e
    have e2 := congrArg Addr.off e
    simp only at e1 e2
    omega
theorem setAll_at (w : World) (g o : Nat) (vs : List Value) (i : Nat) (v : Value) (hv : vs[i]? = some v) (h : ∀ i, i < vs.length → ∃ u, w.cell? ⟨g, o + i, none⟩ = some u) : (setAll w g o vs).cell? ⟨g, o + i, none⟩ = some v := by
  induction vs generalizing w o i with
  | nil => simp at hv
  | cons x vs ih =>
    show (setAll _ g (o + 1) vs).cell? _ = _
    cases i with
    | zero =>
      simp only [List.getElem?_cons_zero, Option.some.injEq] at hv
      subst hv
      rw [setAll_other _ _ _ _ _ _ (.inr (.inl (by omega)))]
      obtain ⟨u, hu⟩ := h 0 (by simp)
      exact World.cell?_setCell_same _ _ _ hu
    | succ i =>
      have := ih (w.setCell ⟨g, o, none⟩ x) (o + 1) i (by simpa using hv) (fun q hq => by
        obtain ⟨u, hu⟩ := h (q + 1) (by rw [List.length_cons]; omega)
        refine ⟨u, ?_⟩
        rw [World.cell?_setCell_other _ _ _ _ (fun e => by have := congrArg Addr.off e; simp at this; omega)]
        rw [show o + 1 + q = o + (q + 1) by omega]
        exact hu)
      rw [show o + (i + 1) = o + 1 + i by omega]
      exact this
theorem setAll_block (w : World) (g o : Nat) (vs : List Value) (b : Nat) (h : b ≠ g) : (setAll w g o vs).heap[b]? = w.heap[b]? := by
  induction vs generalizing w o with
  | nil => rfl
  | cons v vs ih =>
    show (setAll _ g (o + 1) vs).heap[b]? = _
    rw [ih]
    exact Below.heap_setCell _ _ _ _ h
theorem setAll_below {w w1 : World} {g o B : Nat} (vs : List Value) (hb : Below B w w1) (h : B ≤ g) : Below B w (setAll w1 g o vs) := by
  induction vs generalizing w1 o with
  | nil => exact hb
  | cons v vs ih => exact ih (hb.setCell (p := ⟨g, o, none⟩) h v)

theorem BoxV.setAll {w : World} {N g o : Nat} {vs us : List Value} (h : BoxV w N vs) (hN : N ≠ g) : BoxV (setAll w g o us) N vs :=
  ⟨by rw [setAll_size]; exact h.1, fun i v hv => by rw [setAll_other _ _ _ _ _ _ (.inl hN), setAll_frozen]; exact h.2 i v hv⟩

/-- What is made so far of a row: the first k elements. -/
def MadeG (w : World) (g K n : Nat) (R : Nat → List Lf) (k : Nat) : Prop :=
  g < w.heap.size ∧ (∀ o, o < n * K → ∃ v, w.cell? ⟨g, o, none⟩ = some v) ∧ (∀ o, w.frozen? ⟨g, o, none⟩ = false) ∧
  ∃ (C : Nat → Nat → Value) (Sf : Nat → Nat → Nat → Prop), (∀ j i, j < k → i < K → w.cell? ⟨g, j * K + i, none⟩ = some (C j i)) ∧ (∀ j i x, j < k → (R j)[i]? = some x → Own w (C j i) x (Sf j i)) ∧
    (∀ j i y, Sf j i y → j < k ∧ g < y ∧ y < w.heap.size) ∧ (∀ j i j' i' y, (j ≠ j' ∨ i ≠ i') → Sf j i y → ¬ Sf j' i' y)
theorem MadeG.start (w : World) (zs : Array Value) (n K : Nat) (T : TypeId) (R : Nat → List Lf) : MadeG (w.alloc (.cells (madeCells zs (n * K)) T)) w.heap.size K n R 0 := by
  have hr := World.rowIs_alloc w (madeCells zs (n * K)) T (fun i => ((madeCells zs (n * K))[i]?).getD (.bool false)) (fun i hi => by rw [Array.getElem?_eq_getElem hi]; rfl)
  rw [size_madeCells] at hr
  exact ⟨hr.lt, fun o ho => ⟨_, hr.cell ho⟩, fun o => hr.frozen o, fun _ _ => .bool false, fun _ _ _ => False, fun j i hj => absurd hj (Nat.not_lt_zero _), fun j i x hj => absurd hj (Nat.not_lt_zero _), fun j i y h => h.elim, fun j i j' i' y _ h => h.elim⟩
theorem MadeG.next {w w1 : World} {g K n k : Nat} {R : Nat → List Lf} (m : MadeG w g K n R k) (hb : Below w.heap.size w w1) (hk : k < n) (vs : List Value) (hvs : vs.length = K) (Tf : Nat → Nat → Prop)
    (ho : ∀ i x, (R k)[i]? = some x → ∃ v, vs[i]? = some v ∧ Own w1 v x (Tf i)) (ht : ∀ i y, Tf i y → w.heap.size ≤ y ∧ y < w1.heap.size) (hd : ∀ i i' y, i ≠ i' → Tf i y → ¬ Tf i' y) :
    MadeG (setAll w1 g (k * K) vs) g K n R (k + 1) := by
  obtain ⟨hg, hex, hfz, C, Sf, hc, hv, hs, hdd⟩ := m
  have hex1 : ∀ o, o < n * K → ∃ v, w1.cell? ⟨g, o, none⟩ = some v := fun o h => by rw [hb.cell (p := ⟨g, o, none⟩) hg]; exact hex o h
  have hrow : ∀ j i, j < n → i < K → j * K + i < n * K := fun j i hj hi => by
    have := Nat.mul_le_mul_right K (show j + 1 ≤ n from hj)
    rw [Nat.add_mul] at this
    omega
  have hnew : ∀ i, i < vs.length → ∃ u, w1.cell? ⟨g, k * K + i, none⟩ = some u := fun i hi => hex1 _ (hrow k i hk (by omega))
  have hz := hb.size
  refine ⟨by rw [setAll_size]; omega, fun o h => ?_, fun o => by rw [setAll_frozen, hb.frozen (p := ⟨g, o, none⟩) hg]; exact hfz o, fun j i => if j = k then (vs[i]?).getD (.bool false) else C j i, fun j i => if j = k then Tf i else Sf j i, fun j i hj hi => ?_, fun j i x hj hx => ?_, fun j i y hy => ?_, fun j i j' i' y hne hy => ?_⟩
  · by_cases e : k * K ≤ o ∧ o < k * K + vs.length
    · obtain ⟨v, hv'⟩ : ∃ v, vs[o - k * K]? = some v := ⟨_, List.getElem?_eq_getElem (by omega)⟩
      have := setAll_at w1 g (k * K) vs (o - k * K) v hv' hnew
      rw [show k * K + (o - k * K) = o by omega] at this
      exact ⟨v, this⟩
    · rw [setAll_other _ _ _ _ _ _ (.inr (by omega))]
      exact hex1 o h
  · by_cases e : j = k
    · subst e
      simp only [if_true]
      obtain ⟨v, hv'⟩ : ∃ v, vs[i]? = some v := ⟨_, List.getElem?_eq_getElem (by omega)⟩
      rw [setAll_at w1 g (j * K) vs i v hv' hnew, hv']
      rfl
    · simp only [e, if_false]
      have hjk : j < k := by omega
      have := Nat.mul_le_mul_right K (show j + 1 ≤ k from hjk)
      rw [Nat.add_mul] at this
      rw [setAll_other _ _ _ _ _ _ (.inr (.inl (by omega))), hb.cell (p := ⟨g, _, none⟩) hg]
      exact hc j i hjk hi
  · have hkeep : ∀ u y S, Own w1 u y S → (∀ z, S z → z ≠ g) → Own (setAll w1 g (k * K) vs) u y S := fun u y S h hS =>
      h.keep (by rw [setAll_size]; exact Nat.le_refl _) (fun b o hb' _ => setAll_other _ _ _ _ _ _ (.inl (hS b hb'))) (fun b o _ _ => setAll_frozen _ _ _ _ _)
    by_cases e : j = k
    · subst e
      simp only [if_true]
      obtain ⟨v, hv', h1⟩ := ho i x hx
      rw [hv']
      exact hkeep _ _ _ h1 (fun z hz' e => by have := (ht i z hz').1; omega)
    · simp only [e, if_false]
      have hjk : j < k := by omega
      exact hkeep _ _ _ ((hv j i x hjk hx).next hb) (fun z hz' e => by have := (hs j i z hz').2.1; omega)
  · rw [setAll_size]
    by_cases e : j = k
    · subst e
      simp only [if_true] at hy
      have := ht i y hy
      omega
    · simp only [e, if_false] at hy
      have := hs j i y hy
      omega
  · by_cases e : j = k
    · by_cases e' : j' = k
      · subst e e'
        simp only [if_true] at hy ⊢
        exact hd i i' y (by omega) hy
      · simp only [e, e', if_true, if_false] at hy ⊢
        intro h2
        have h3 := hs j' i' y h2
        have h4 := ht i y hy
        omega
    · by_cases e' : j' = k
      · simp only [e, e', if_true, if_false] at hy ⊢
        intro h2
        have h3 := hs j i y hy
        have h4 := ht i' y h2
        omega
      · simp only [e, e', if_false] at hy ⊢
        exact hdd j i j' i' y hne hy
theorem MadeG.next0 {w w1 : World} {g K n k : Nat} {R : Nat → List Lf} (m : MadeG w g K n R k) (hb : Below w.heap.size w w1) : MadeG w1 g K n R k := by
  obtain ⟨hg, hex, hfz, C, Sf, hc, hv, hs, hdd⟩ := m
  exact ⟨Nat.lt_of_lt_of_le hg hb.size, fun o h => by rw [hb.cell (p := ⟨g, o, none⟩) hg]; exact hex o h, fun o => by rw [hb.frozen (p := ⟨g, o, none⟩) hg]; exact hfz o, C, Sf, fun j i hj hi => by rw [hb.cell (p := ⟨g, _, none⟩) hg]; exact hc j i hj hi, fun j i x hj hx => (hv j i x hj hx).next hb, fun j i y hy => ⟨(hs j i y hy).1, (hs j i y hy).2.1, Nat.lt_of_lt_of_le (hs j i y hy).2.2 hb.size⟩, hdd⟩
theorem MadeG.cell {w : World} {g K n k : Nat} {R : Nat → List Lf} (m : MadeG w g K n R k) (hk : k < n) (i : Nat) (hi : i < K) : ∃ v, w.cell? ⟨g, k * K + i, none⟩ = some v ∧ w.frozen? ⟨g, k * K + i, none⟩ = false := by
  obtain ⟨hg, hex, hfz, _⟩ := m
  have := Nat.mul_le_mul_right K (show k + 1 ≤ n from hk)
  rw [Nat.add_mul] at this
  obtain ⟨v, hv⟩ := hex (k * K + i) (by omega)
  exact ⟨v, hv, hfz _⟩
theorem MadeG.lt {w : World} {g K n k : Nat} {R : Nat → List Lf} (m : MadeG w g K n R k) : g < w.heap.size := m.1
theorem MadeG.done {w : World} {g K n : Nat} {rows : List (List Lf)} {R : Nat → List Lf} (m : MadeG w g K n R n) (hn : rows.length = n) (hm : n ≤ maxLen) (hK : ∀ r ∈ rows, r.length = K) (e : ∀ j (hj : j < rows.length), R j = rows[j]) : Own w (.slice (some ⟨g, 0, none⟩) n n) (.l rows) (IvG g w.heap.size) := by
  obtain ⟨hg, hex, hfz, C, Sf, hc, hv, hs, hdd⟩ := m
  subst hn
  refine RowG.own (R := R) (o := 0) (K := K) (C := C) (Sf := Sf) ⟨⟨Nat.le_refl _, hg⟩, hg, fun j hj => by rw [e j hj]; exact hK _ (List.getElem_mem hj), fun j i hj hi => ?_, fun j i x hj hx => hv j i x hj hx, fun j i y hy => ?_, hdd⟩ e (Nat.le_refl _) hm
  · rw [Nat.zero_add]
    exact ⟨hc j i hj hi, hfz _⟩
  · have := hs j i y hy
    exact ⟨⟨by omega, this.2.2⟩, by omega⟩
end Go.Proofs.YtfhcniifennfbaaGreatDoor
namespace Go.Proofs.YtfhcniifennfbaaGreatDoor
open Go.RowKit

theorem pick_gen {α : Type} {p : Nat → α → Prop} : ∀ {len : Nat}, (∀ i, i < len → ∃ q, p i q) → ∃ hs : List α, hs.length = len ∧ ∀ j (hj : j < hs.length), p j hs[j] := by
  intro len
  induction len with
  | zero => intro _; exact ⟨[], rfl, fun j hj => absurd hj (Nat.not_lt_zero _)⟩
  | succ k ih =>
    intro each
    obtain ⟨hs, hlen, hq⟩ := ih (fun i hi => each i (by omega))
    obtain ⟨q, hqk⟩ := each k (by omega)
    refine ⟨hs ++ [q], by simp [hlen], fun j hj => ?_⟩
    by_cases e : j < hs.length
    · rw [List.getElem_append_left e]; exact hq j e
    · have : j = k := by simp [hlen] at hj; omega
      subst this
      rw [List.getElem_append_right (by omega)]
      simp only [hlen, Nat.sub_self, List.getElem_cons_zero]
      exact hqk
theorem add_pick (b o j : Nat) : (⟨b, o, none⟩ : Addr).add j = ⟨b, o + j, none⟩ := by unfold Addr.add; split <;> simp_all
end Go.Proofs.YtfhcniifennfbaaGreatDoor
namespace Go.Proofs.YtfhcniifennfbaaGreatDoor
open Go.RowKit
set_option linter.unusedVariables false

section
variable {α : Type} {cs : α → List Value} {K : Nat} {tE : TypeId}
/-- A row that the call owns from block B on. -/
def OwnG (tE : TypeId) (K : Nat) (cs : α → List Value) (w : World) (B : Nat) (v : Value) (l : List α) : Prop := w.ownsRow B tE K v l.length (l.flatMap cs)
theorem flat_length (hK : ∀ x, (cs x).length = K) (l : List α) : (l.flatMap cs).length = l.length * K := by
  induction l with
  | nil => simp
  | cons x l ih => rw [List.flatMap_cons, List.length_append, ih, hK, List.length_cons, Nat.add_mul]; omega
theorem flat_at (hK : ∀ x, (cs x).length = K) (l : List α) : ∀ j (hj : j < l.length) i, i < K → (l.flatMap cs)[j * K + i]? = (cs l[j])[i]? := by
  induction l with
  | nil => intro j hj; exact absurd hj (Nat.not_lt_zero _)
  | cons x l ih =>
    intro j hj i hi
    rw [List.flatMap_cons]
    match j, hj with
    | 0, _ => rw [Nat.zero_mul, Nat.zero_add, List.getElem?_append_left (by rw [hK]; omega)]; rfl
    | j + 1, hj =>
      rw [List.getElem?_append_right (by rw [hK, Nat.add_mul]; omega), hK, show (j + 1) * K + i - K = j * K + i by rw [Nat.add_mul]; omega]
      simpa using ih j (by simpa using hj) i hi
theorem OwnG.made (w : World) (B : Nat) (hB : B ≤ w.heap.size) : OwnG tE K cs (w.alloc (Obj.cells #[] tE)) B (.slice (some ⟨w.heap.size, 0, none⟩) 0 0) [] :=
  ⟨by simp, .inr ⟨w.heap.size, 0, #[], rfl, hB, heap_alloc_new w _, Nat.le_refl _, Nat.zero_le _, by simp, by simp⟩⟩
theorem OwnG.next {w w' : World} {B : Nat} {v : Value} {l : List α} (h : OwnG tE K cs w B v l) (hb : Below w.heap.size w w') : OwnG tE K cs w' B v l :=
  World.ownsRow.kept (row := none) h ⟨hb.os, hb.tape, hb.output, hb.size, fun k hk _ => hb.block k hk⟩ (Classical.em _)
theorem OwnG.keepB {w w' : World} {B g n c : Nat} {l : List α} (h : OwnG tE K cs w B (.slice (some ⟨g, 0, none⟩) n c) l) (e : w'.heap[g]? = w.heap[g]?) : OwnG tE K cs w' B (.slice (some ⟨g, 0, none⟩) n c) l := by
  refine ⟨h.1, ?_⟩
  rcases h.2 with ⟨h0, _⟩ | ⟨g', c', cur, hv, hB, hh, hr⟩
  · cases h0
  · cases hv
    exact .inr ⟨g, c, cur, rfl, hB, e.trans hh, hr⟩
theorem OwnG.row {w : World} {B g n c : Nat} {l : List α} (hK : ∀ x, (cs x).length = K) (h : OwnG tE K cs w B (.slice (some ⟨g, 0, none⟩) n c) l) :
    n = l.length ∧ n ≤ c ∧ c ≤ maxLen ∧ B ≤ g ∧ g < w.heap.size ∧ (∀ i, w.frozen? ⟨g, i, none⟩ = false) ∧ ∀ j (hj : j < l.length) i v, (cs l[j])[i]? = some v → w.cell? ⟨g, j * K + i, none⟩ = some v := by
  have hlt := World.ownsRow.lt h g rfl
  rcases h.2 with ⟨e, _⟩ | ⟨g', c', cur, e, hB, hh, h1, h2, _⟩
  · cases e
  · cases e
    refine ⟨rfl, h1, h2, hB, hlt.2, fun i => ?_, fun j hj i v hv => ?_⟩
    · simp only [World.frozen?, hh, Bool.and_eq_false_iff, decide_eq_false_iff_not]
      right; omega
    · have hi : i < K := by have := (List.getElem?_eq_some_iff.1 hv).1; rwa [hK] at this
      have hjl : j * K + i < l.length * K := by
        have := Nat.mul_le_mul_right K (show j + 1 ≤ l.length from hj)
        rw [Nat.add_mul] at this
        omega
      rw [World.ownsRow.cellAt h (j * K + i) hjl, flat_at hK l j hj i hi]
      exact hv
theorem below_grownG {w w' : World} {B n : Nat} {v : Value} {xs : List Value} (hown : w.ownsRow B tE K v n xs) (hB : B ≤ w.heap.size) (hg : w.grownBy w' v.ownBlock) : Below B w w' :=
  ⟨hg.os, hg.tape, hg.output, hg.size, fun k hk => hg.block k (by omega) (fun e => by have := (hown.lt k e.symm).1; omega)⟩

/-- 'l = append(l, x)' on a row that the call owns. -/
theorem wp_append_gen {P : Program} {w : World} {ops : Array Oper} {rest : List Oper} {o : Oper} {a : Act} {Q : Exit → Act → World → Prop} (T : TypeId) (hu : P.underlying T = some (.slice tE)) (zero : Value) (bytes : Nat) (hinfo : (P.info? tE).map (fun i => (i.zero, i.size, i.bytes)) = some (some zero, K, bytes)) (hz : zero.cells.size = K) (hK0 : 0 < K) (hby : bytes ≤ 512) (hgd : o.guard = none) (s x : Operand)
    (ho : o.op = .call { callee := .builtin .append, args := #[s, x], argTypes := #[T, T] })
    (B : Nat) (v : Value) (l : List α) (hs : a.eval s = v) (hown : OwnG tE K cs w B v l) (hK : ∀ x, (cs x).length = K)
    (N : Nat) (t : α) (hx : a.eval x = .slice (some ⟨N, 0, none⟩) 1 1) (hc : ∀ i v, (cs t)[i]? = some v → w.cell? ⟨N, i, none⟩ = some v) (h1 : ∀ v ∈ cs t, v.oneCell' = true) (hlen : l.length + 1 ≤ 100000000000) (hB : B ≤ w.heap.size)
    (h : ∀ g n cap w', n = (l ++ [t]).length → OwnG tE K cs w' B (.slice (some ⟨g, 0, none⟩) n cap) (l ++ [t]) → Below B w w' → w.grownBy w' v.ownBlock → (v.ownBlock = some g ∨ g = w.heap.size) → wpList P ops Q rest (a.put o.dst (.slice (some ⟨g, 0, none⟩) n cap)) w') : wpList P ops Q (o :: rest) a w := by
  obtain ⟨i0, hi, hz0, hz1, hz2⟩ := info_parts hinfo
  refine wpList_append_own_at w hgd s x T ho B tE i0 zero K bytes hu hi hz0 hz1 hz2 hz hK0 v l.length _ hs hown ⟨N, 0, none⟩ 1 1 (cs t) hx (by rw [hK]; omega) (fun j u hj => by rw [add_pick, Nat.zero_add]; exact hc j u hj) h1 (by unfold maxLen; omega) ?_ hB ?_
  · have := Nat.mul_le_mul hlen hby
    omega
  · intro v' w' ho' hg _ hat
    obtain ⟨g, cap, rfl⟩ : ∃ g cap, v' = .slice (some ⟨g, 0, none⟩) (l.length + 1) cap := by
      rcases ho'.2 with ⟨_, h0⟩ | ⟨g, cap, cur, hv, _⟩
      · omega
      · exact ⟨g, cap, hv⟩
    refine h g (l.length + 1) cap w' (by simp) ?_ (below_grownG hown hB hg) hg (by
      rcases hat with e | e
      · exact .inl e.symm
      · exact .inr (Option.some.inj e))
    unfold OwnG
    rw [List.flatMap_append, show [t].flatMap cs = cs t by simp, show (l ++ [t]).length = l.length + 1 by simp]
    exact ho'
end
end Go.Proofs.YtfhcniifennfbaaGreatDoor
namespace Go.Proofs.YtfhcniifennfbaaGreatDoor
open Go.RowKit M
set_option linter.unusedVariables false

/-- One, in three cells. -/
def CnAt (w : World) (b o : Nat) (c : Cn) : Prop := w.cell? ⟨b, o, none⟩ = some (.bool c.no) ∧ w.cell? ⟨b, o + 1, none⟩ = some (.int .i64 c.tk) ∧ w.cell? ⟨b, o + 2, none⟩ = some (.string c.tg)
def Cns (w : World) (B : Nat) (a : Option Addr) (cs : List Cn) : Prop := 0 < cs.length → ∃ b o, a = some ⟨b, o, none⟩ ∧ b < B ∧ ∀ j (hj : j < cs.length), CnAt w b (o + j * 3) cs[j]
structure CsIn (w : World) (B : Nat) (a : Option Addr) (cs : List Cn) (c : Nat) : Prop where
  ps : Cns w B a cs
  pl : cs.length ≤ c
  pm : c ≤ maxLen
  pn : a = none → c = 0
def Cnss (w : World) (B : Nat) (a : Option Addr) (ls : List (List Cn)) : Prop := 0 < ls.length → ∃ b o, a = some ⟨b, o, none⟩ ∧ b < B ∧ ∀ j (hj : j < ls.length), ∃ pa pc, w.cell? ⟨b, o + j, none⟩ = some (.slice pa ls[j].length pc) ∧ CsIn w B pa ls[j] pc

theorem CnAt.of {w w' : World} {b o : Nat} {c : Cn} (h : CnAt w b o c) (e : ∀ i, w'.cell? ⟨b, i, none⟩ = w.cell? ⟨b, i, none⟩) : CnAt w' b o c := ⟨(e _).trans h.1, (e _).trans h.2.1, (e _).trans h.2.2⟩
theorem Cns.below {w w' : World} {B C : Nat} {a : Option Addr} {cs : List Cn} (h : Cns w B a cs) (hb : Below C w w') (hB : B ≤ C) : Cns w' B a cs := fun h0 => by
  obtain ⟨b, o, e, hbB, hc⟩ := h h0
  exact ⟨b, o, e, hbB, fun j hj => (hc j hj).of (fun i => hb.cell (p := ⟨b, i, none⟩) (Nat.lt_of_lt_of_le hbB hB))⟩
theorem CsIn.below {w w' : World} {B C c : Nat} {a : Option Addr} {cs : List Cn} (h : CsIn w B a cs c) (hb : Below C w w') (hB : B ≤ C) : CsIn w' B a cs c := ⟨h.ps.below hb hB, h.pl, h.pm, h.pn⟩
theorem Cnss.below {w w' : World} {B C : Nat} {a : Option Addr} {ls : List (List Cn)} (h : Cnss w B a ls) (hb : Below C w w') (hB : B ≤ C) : Cnss w' B a ls := fun h0 => by
  obtain ⟨b, o, e, hbB, hc⟩ := h h0
  refine ⟨b, o, e, hbB, fun j hj => ?_⟩
  obtain ⟨pa, pc, h1, h2⟩ := hc j hj
  exact ⟨pa, pc, (hb.cell (p := ⟨b, _, none⟩) (Nat.lt_of_lt_of_le hbB hB)).trans h1, h2.below hb hB⟩

theorem cns_of_view {w : World} {B : Nat} {v : Value} {l : List Cn} (h : View w B v (.l (l.map dCn))) : ∃ a c, v = .slice a l.length c ∧ CsIn w B a l c := by
  obtain ⟨a, cap, h1, h2, h3, h4, h5⟩ := h.rows 3 (fun _ => rfl)
  refine ⟨a, cap, h1, fun h0 => ?_, h2, h3, h4⟩
  obtain ⟨b, o, C, e, hb, hc⟩ := h5 h0
  refine ⟨b, o, e, hb, fun j hj => ?_⟩
  obtain ⟨c0, v0⟩ := hc j hj 0 (.c (.bool l[j].no)) rfl
  obtain ⟨c1, v1⟩ := hc j hj 1 (.c (.int .i64 l[j].tk)) rfl
  obtain ⟨c2, v2⟩ := hc j hj 2 (.c (.string l[j].tg)) rfl
  rw [v0.inv] at c0
  rw [v1.inv] at c1
  rw [v2.inv] at c2
  exact ⟨c0, c1, c2⟩
theorem cnss_of_view {w : World} {B : Nat} {v : Value} {l : List (List Cn)} (h : View w B v (.l (l.map dCs))) : ∃ a c, v = .slice a l.length c ∧ l.length ≤ c ∧ c ≤ maxLen ∧ (a = none → c = 0) ∧ Cnss w B a l := by
  obtain ⟨a, cap, h1, h2, h3, h4, h5⟩ := h.rows 1 (fun _ => rfl)
  refine ⟨a, cap, h1, h2, h3, h4, fun h0 => ?_⟩
  obtain ⟨b, o, C, e, hb, hc⟩ := h5 h0
  refine ⟨b, o, e, hb, fun j hj => ?_⟩
  obtain ⟨c0, v0⟩ := hc j hj 0 (.l (l[j].map dCn)) rfl
  obtain ⟨pa, pc, e1, e2⟩ := cns_of_view v0
  rw [e1] at c0
  exact ⟨pa, pc, by simpa using c0, e2⟩

/-! Their sizes. -/
theorem sz_dCn (r : Cn) : szR (dCn r) = r.tg.size := by simp [dCn, szR, szF, szV]
theorem sz_dCs (l : List Cn) : szR (dCs l) = szRs (l.map dCn) := by simp [dCs, szR, szF]
theorem cn_small {l : List Cn} {N : Nat} (h : szRs (l.map dCn) ≤ N) : l.length ≤ N ∧ ∀ c ∈ l, c.tg.size ≤ N := by
  refine ⟨?_, fun c hc => ?_⟩
  · have := szRs_len (l.map dCn)
    rw [List.length_map] at this
    omega
  · have := szRs_mem _ _ (List.mem_map_of_mem (f := dCn) hc)
    rw [sz_dCn] at this
    omega
theorem cns_small {l : List (List Cn)} {N : Nat} (h : szRs (l.map dCs) ≤ N) : l.length ≤ N ∧ ∀ cs ∈ l, cs.length ≤ N ∧ ∀ c ∈ cs, c.tg.size ≤ N := by
  refine ⟨?_, fun cs hc => ?_⟩
  · have := szRs_len (l.map dCs)
    rw [List.length_map] at this
    omega
  · have := szRs_mem _ _ (List.mem_map_of_mem (f := dCs) hc)
    rw [sz_dCs] at this
    exact cn_small (by omega)
theorem flat_small {l : List (List Cn)} {N : Nat} (h : szRs (l.map dCs) ≤ N) : l.flatten.length ≤ N := by
  have key : ∀ l : List (List Cn), l.flatten.length ≤ szRs (l.map dCs) := fun l => by
    induction l with
    | nil => simp
    | cons x r ih =>
      rw [List.flatten_cons, List.length_append, List.map_cons, szRs_cons, sz_dCs]
      have := szRs_len (x.map dCn)
      rw [List.length_map] at this
      omega
  have := key l
  omega

/-! Rows that a call makes of them. -/
def ciC (c : Cn) : List Value := [.bool c.no, .int .i64 c.tk, .string c.tg]
theorem ciC_len : ∀ x, (ciC x).length = 3 := fun _ => rfl
theorem ciC_one (c : Cn) : ∀ v ∈ ciC c, v.oneCell' = true := fun v hv => by
  simp only [ciC, List.mem_cons, List.not_mem_nil, or_false] at hv
  rcases hv with rfl | rfl | rfl <;> rfl
/-- A slice as it lies in a cell. -/
structure Sl where
  b : Nat
  n : Nat
  c : Nat
def Sl.v (s : Sl) : Value := .slice (some ⟨s.b, 0, none⟩) s.n s.c
def ciS (s : Sl) : List Value := [s.v]
theorem ciS_len : ∀ x, (ciS x).length = 1 := fun _ => rfl
theorem ciS_one (s : Sl) : ∀ v ∈ ciS s, v.oneCell' = true := fun v hv => by
  simp only [ciS, List.mem_cons, List.not_mem_nil, or_false] at hv
  rcases hv with rfl
  rfl
theorem cond_cells {tE : TypeId} {w : World} {B g n c : Nat} {l : List Cn} (h : OwnG tE 3 ciC w B (.slice (some ⟨g, 0, none⟩) n c) l) : n = l.length ∧ n ≤ c ∧ c ≤ maxLen ∧ B ≤ g ∧ g < w.heap.size ∧ (∀ i, w.frozen? ⟨g, i, none⟩ = false) ∧ ∀ j (hj : j < l.length), CnAt w g (j * 3) l[j] := by
  obtain ⟨e1, e2, e3, e4, e5, e6, e7⟩ := h.row ciC_len
  exact ⟨e1, e2, e3, e4, e5, e6, fun j hj => ⟨e7 j hj 0 _ rfl, e7 j hj 1 _ rfl, e7 j hj 2 _ rfl⟩⟩
def cnVal (r : Cn) (i : Nat) : Value := (([.bool r.no, .int .i64 r.tk, .string r.tg] : List Value)[i]?).getD (.bool false)
theorem own_of_conds {tE : TypeId} {w : World} {B g n c : Nat} {l : List Cn} (h : OwnG tE 3 ciC w B (.slice (some ⟨g, 0, none⟩) n c) l) : Own w (.slice (some ⟨g, 0, none⟩) n c) (.l (l.map dCn)) (fun y => y = g) := by
  obtain ⟨e1, e2, e3, e4, e5, e6, e7⟩ := cond_cells h
  have e : n = (l.map dCn).length := by rw [List.length_map]; exact e1
  rw [e]
  refine .row g 0 c 3 _ (fun j i => match l[j]? with | some s => cnVal s i | none => .bool false) (fun _ _ _ => False) _ rfl e5 (by rw [← e]; exact e2) e3 (fun r hr => by obtain ⟨x, _, rfl⟩ := List.mem_map.1 hr; rfl) (fun j i x hx => ?_) (fun j i x hx => ?_) (fun j i y hy => hy.elim) (fun j i j' i' y _ hy => hy.elim)
  all_goals
    unfold cellAt at hx
    by_cases hj : j < l.length
    · rw [map_at dCn l j hj] at hx
      have hi : i < 3 := (List.getElem?_eq_some_iff.1 hx).1
      rw [List.getElem?_eq_getElem hj]
      obtain ⟨c0, c1, c2⟩ := e7 j hj
      match i, hi with
      | 0, _ => cases hx; first | exact .c _ _ | exact ⟨by rw [Nat.zero_add]; exact c0, e6 _⟩
      | 1, _ => cases hx; first | exact .c _ _ | exact ⟨by rw [Nat.zero_add]; exact c1, e6 _⟩
      | 2, _ => cases hx; first | exact .c _ _ | exact ⟨by rw [Nat.zero_add]; exact c2, e6 _⟩
    · rw [List.getElem?_eq_none (by simp; omega)] at hx; cases hx

/-- A row of lists that the call owns, each in blocks of its own; all of them and the row below H. -/
structure RowsO (tS : TypeId) (w : World) (B g n c H : Nat) (ss : List Sl) (ls : List (List Cn)) : Prop where
  own : OwnG tS 1 ciS w B (.slice (some ⟨g, 0, none⟩) n c) ss
  len : ss.length = ls.length
  top : H ≤ w.heap.size
  gH : g < H
  bl : ∃ lo hi : Nat → Nat, ∀ j (hj : j < ls.length) (hs : j < ss.length), Own w ss[j].v (.l (ls[j].map dCn)) (IvG (lo j) (hi j)) ∧ B ≤ lo j ∧ hi j ≤ H ∧ (g < lo j ∨ hi j ≤ g) ∧ ∀ i, i < j → hi i ≤ lo j
theorem RowsO.made (tS : TypeId) (w : World) (B : Nat) (hB : B ≤ w.heap.size) : RowsO tS (w.alloc (Obj.cells #[] tS)) B w.heap.size 0 0 (w.heap.size + 1) [] [] :=
  ⟨OwnG.made w B hB, rfl, by simp, Nat.lt_succ_self _, fun _ => 0, fun _ => 0, fun j hj => absurd hj (Nat.not_lt_zero _)⟩
theorem RowsO.next {tS : TypeId} {w w' : World} {B g n c H : Nat} {ss : List Sl} {ls : List (List Cn)} (h : RowsO tS w B g n c H ss ls) (hb : Below w.heap.size w w') : RowsO tS w' B g n c H ss ls := by
  obtain ⟨lo, hi, h5⟩ := h.bl
  exact ⟨h.own.next hb, h.len, Nat.le_trans h.top hb.size, h.gH, lo, hi, fun j hj hs => ⟨(h5 j hj hs).1.next hb, (h5 j hj hs).2⟩⟩
theorem RowsO.num {tS : TypeId} {w : World} {B g n c H : Nat} {ss : List Sl} {ls : List (List Cn)} (h : RowsO tS w B g n c H ss ls) : n = ls.length ∧ n ≤ c ∧ c ≤ maxLen ∧ B ≤ g := by
  have := h.own.row ciS_len
  exact ⟨this.1.trans h.len, this.2.1, this.2.2.1, this.2.2.2.1⟩
/-- One more list, made behind all that is there, is appended. -/
theorem RowsO.snoc {tS : TypeId} {w w' : World} {B g n c H g' n' c' : Nat} {ss : List Sl} {ls : List (List Cn)} {s : Sl} {cs : List Cn} (h : RowsO tS w B g n c H ss ls)
    (ho : OwnG tS 1 ciS w' B (.slice (some ⟨g', 0, none⟩) n' c') (ss ++ [s])) (hg : w.grownBy w' (some g)) (hat : g' = g ∨ g' = w.heap.size) (lo hi : Nat) (hs : Own w s.v (.l (cs.map dCn)) (IvG lo hi)) (hl : H ≤ lo) (hh : hi ≤ w.heap.size) :
    RowsO tS w' B g' n' c' w'.heap.size (ss ++ [s]) (ls ++ [cs]) := by
  obtain ⟨lo0, hi0, h5⟩ := h.bl
  have hgw : g < w.heap.size := Nat.lt_of_lt_of_le h.gH h.top
  have hr := ho.row ciS_len
  have hsz := hg.size
  have hgB := h.num.2.2.2
  have keep : ∀ v x S, Own w v x S → (∀ y, S y → y ≠ g) → Own w' v x S := fun v x S hv hne =>
    hv.keep hsz (fun b o hb hz => by
      have := hg.block b hz (fun e => hne b hb (Option.some.inj e))
      simp only [World.cell?, this]) (fun b o hb hz => by
      have := hg.block b hz (fun e => hne b hb (Option.some.inj e))
      simp only [World.frozen?, this])
  refine ⟨ho, by rw [List.length_append, List.length_append, h.len]; rfl, Nat.le_refl _, hr.2.2.2.2.1, fun j => if j < ls.length then lo0 j else lo, fun j => if j < ls.length then hi0 j else hi, fun j hj hj2 => ?_⟩
  by_cases e : j < ls.length
  · have e2 : j < ss.length := by rw [h.len]; exact e
    obtain ⟨q1, q2, q3, q4, q5⟩ := h5 j e e2
    simp only [e, if_true, List.getElem_append_left e, List.getElem_append_left e2]
    refine ⟨keep _ _ _ q1 (fun y hy e3 => by have := hy.1; have := hy.2; omega), q2, Nat.le_trans (Nat.le_trans q3 h.top) hsz, ?_, fun i hij => ?_⟩
    · rcases hat with rfl | rfl
      · exact q4
      · right; exact Nat.le_trans q3 h.top
    · rw [if_pos (by omega)]
      exact q5 i hij
  · have ej : j = ls.length := by rw [List.length_append] at hj; simp at hj; omega
    subst ej
    have e2 : ¬ ls.length < ss.length := by rw [h.len]; exact Nat.lt_irrefl _
    have g1 : (ss ++ [s])[ls.length]'hj2 = s := by
      have : ls.length = ss.length := h.len.symm
      simp [this]
    have g2 : (ls ++ [cs])[ls.length]'hj = cs := by simp
    simp only [Nat.lt_irrefl, if_false]
    rw [g1, g2]
    refine ⟨keep _ _ _ hs (fun y hy e3 => by have := hy.1; have := h.gH; omega), by have := h.gH; omega, Nat.le_trans hh hsz, ?_, fun i hij => ?_⟩
    · rcases hat with rfl | rfl
      · left; have := h.gH; omega
      · right; exact hh
    · rw [if_pos hij]
      obtain ⟨_, _, q3, _, _⟩ := h5 i hij (by rw [h.len]; exact hij)
      exact Nat.le_trans q3 hl
theorem RowsO.done {tS : TypeId} {w : World} {B g n c H : Nat} {ss : List Sl} {ls : List (List Cn)} (h : RowsO tS w B g n c H ss ls) : Own w (.slice (some ⟨g, 0, none⟩) n c) (.l (ls.map dCs)) (IvG B w.heap.size) := by
  obtain ⟨lo, hi, h5⟩ := h.bl
  obtain ⟨e1, e2, e3, e4, e5, e6, e7⟩ := h.own.row ciS_len
  have e : n = (ls.map dCs).length := by rw [List.length_map]; exact h.num.1
  have hgw := Nat.lt_of_lt_of_le h.gH h.top
  rw [e]
  refine .row g 0 c 1 _ (fun j i => match ss[j]? with | some s => s.v | none => .bool false) (fun j i y => j < ls.length ∧ i = 0 ∧ IvG (lo j) (hi j) y) _ ⟨e4, hgw⟩ hgw (by rw [← e]; exact e2) e3 (fun r hr => by obtain ⟨x, _, rfl⟩ := List.mem_map.1 hr; rfl) (fun j i x hx => ?_) (fun j i x hx => ?_) (fun j i y hy => ?_) (fun j i j' i' y hne hy hy' => ?_)
  · unfold cellAt at hx
    by_cases hj : j < ls.length
    · rw [map_at dCs ls j hj] at hx
      have hs : j < ss.length := by rw [h.len]; exact hj
      match i with
      | 0 =>
        rw [List.getElem?_eq_getElem hs]
        have := e7 j hs 0 _ rfl
        exact ⟨by simpa using this, e6 _⟩
      | i + 1 => cases hx
    · rw [List.getElem?_eq_none (by simp; omega)] at hx; cases hx
  · unfold cellAt at hx
    by_cases hj : j < ls.length
    · rw [map_at dCs ls j hj] at hx
      have hs : j < ss.length := by rw [h.len]; exact hj
      match i with
      | 0 =>
        rw [List.getElem?_eq_getElem hs]
        cases hx
        exact (h5 j hj hs).1.wide (fun y hy => ⟨hj, rfl, hy⟩)
      | i + 1 => cases hx
    · rw [List.getElem?_eq_none (by simp; omega)] at hx; cases hx
  · obtain ⟨hj, _, h1, h2⟩ := hy
    obtain ⟨_, q2, q3, q4, _⟩ := h5 j hj (by rw [h.len]; exact hj)
    have := h.top
    exact ⟨⟨by omega, by omega⟩, by omega⟩
  · obtain ⟨hj, i0, h1, h2⟩ := hy
    obtain ⟨hj', i0', h1', h2'⟩ := hy'
    rcases Nat.lt_trichotomy j j' with hh | hh | hh
    · have := (h5 j' hj' (by rw [h.len]; exact hj')).2.2.2.2 j hh
      omega
    · omega
    · have := (h5 j hj (by rw [h.len]; exact hj)).2.2.2.2 j' hh
      omega
end Go.Proofs.YtfhcniifennfbaaGreatDoor
namespace Go.Proofs.YtfhcniifennfbaaGreatDoor
open Go.RowKit M
set_option linter.unusedVariables false

def oneT (c : Cn) : List UInt8 := (if c.no = true then notL else []) ++ (if c.tk = 0 then 91 :: (c.tg.data.toList ++ [93]) else 60 :: (Lib.decDigits c.tk.toNat ++ [62]))
def oneL (cs : List Cn) : List UInt8 := 40 :: (joinT (cs.map oneT) ++ [41])
def oneI (ls : List (List Cn)) : List UInt8 := joinT (ls.map oneL)
theorem joinT_nil : joinT [] = [] := rfl
theorem joinT_snoc (xs : List (List UInt8)) (x : List UInt8) : joinT (xs ++ [x]) = if xs.length = 0 then x else joinT xs ++ 32 :: x := by
  induction xs with
  | nil => simp [joinT_one]
  | cons a r ih =>
    rw [List.cons_append, if_neg (by simp)]
    cases r with
    | nil => rw [List.nil_append, joinT_cons, joinT_one, joinT_one]
    | cons b q =>
      rw [List.cons_append] at ih ⊢
      rw [joinT_cons, ih, if_neg (by simp), joinT_cons]
      simp
theorem one_snoc (cs : List Cn) (k : Nat) (hk : k < cs.length) : joinT ((cs.take (k + 1)).map oneT) = if k = 0 then oneT cs[k] else joinT ((cs.take k).map oneT) ++ 32 :: oneT cs[k] := by
  rw [List.take_succ_eq_append_getElem hk, List.map_append, List.map_cons, List.map_nil, joinT_snoc, List.length_map, List.length_take]
  rw [show min k cs.length = k by omega]
theorem oneI_snoc (ls : List (List Cn)) (k : Nat) (hk : k < ls.length) : oneI (ls.take (k + 1)) = if k = 0 then oneL ls[k] else oneI (ls.take k) ++ 32 :: oneL ls[k] := by
  unfold oneI
  rw [List.take_succ_eq_append_getElem hk, List.map_append, List.map_cons, List.map_nil, joinT_snoc, List.length_map, List.length_take]
  rw [show min k ls.length = k by omega]
theorem oneT_ok {c : Cn} (h : okC c) : oneT c = condT c := by
  unfold oneT condT
  rcases h with ⟨h1, h2, h3⟩ | ⟨h1, m, h2, h3, h4, h5⟩
  · rw [if_neg (show ¬ c.tk = 0 by omega), if_pos h1]
  · have hne : ¬ c.tg.data.toList = [] := by rw [h2]; exact tag_ne m
    rw [if_pos h1, if_neg hne]
theorem oneI_ok {ls : List (List Cn)} (h : okIf ls) : oneI ls = ifT ls := by
  unfold oneI ifT
  congr 1
  refine List.map_congr_left (fun cs hcs => ?_)
  unfold oneL listT
  congr 3
  exact List.map_congr_left (fun c hc => oneT_ok ((h.2.2 cs hcs).2.2 c hc))
/-- What the specification answers: the text, where it reads back. -/
theorem back_iff (ls : List (List Cn)) : ifL (oneI ls) = some ls ↔ okIf ls := by
  constructor
  · exact fun h => ifL_ok h
  · intro h
    rw [oneI_ok h]
    exact ifL_back h
/-! Sizes. -/
theorem dec_le (n : Int) (h : n ≤ 9223372036854775807) : (Lib.decDigits n.toNat).length ≤ 20 := by
  have := dec_len 19 n.toNat (by omega)
  omega
theorem oneT_len {c : Cn} (h : c.tk ≤ 9223372036854775807) : (oneT c).length ≤ 26 + c.tg.size := by
  have h1 := dec_le c.tk h
  have h2 : c.tg.data.toList.length = c.tg.size := Array.length_toList
  unfold oneT
  rw [List.length_append]
  have h3 : (if c.no = true then notL else []).length ≤ 4 := by split <;> simp [notL]
  have h4 : (if c.tk = 0 then 91 :: (c.tg.data.toList ++ [93]) else 60 :: (Lib.decDigits c.tk.toNat ++ [62])).length ≤ 22 + c.tg.size := by
    split
    · simp only [List.length_cons, List.length_append, List.length_nil, h2]; omega
    · simp only [List.length_cons, List.length_append, List.length_nil]; omega
  omega
def wfC (c : Cn) : Prop := c.tk ≤ 9223372036854775807
theorem joinT_len (xs : List (List UInt8)) : (joinT xs).length ≤ (xs.map fun x => x.length + 1).sum := by
  match xs with
  | [] => simp [joinT_nil]
  | [a] => rw [joinT_one]; simp
  | a :: b :: r =>
    rw [joinT_cons, List.length_append, List.length_cons, List.map_cons, List.sum_cons]
    have := joinT_len (b :: r)
    omega
theorem sum_le {α : Type} (f g : α → Nat) (l : List α) (h : ∀ x ∈ l, f x ≤ g x) : (l.map f).sum ≤ (l.map g).sum := by
  induction l with
  | nil => simp
  | cons x r ih =>
    rw [List.map_cons, List.map_cons, List.sum_cons, List.sum_cons]
    have h1 := h x (List.mem_cons_self ..)
    have h2 := ih (fun y hy => h y (List.mem_cons_of_mem _ hy))
    omega
theorem sz_sum (cs : List Cn) : szRs (cs.map dCn) = (cs.map fun c => 1 + c.tg.size).sum := by
  induction cs with
  | nil => rfl
  | cons x r ih => rw [List.map_cons, szRs_cons, ih, sz_dCn, List.map_cons, List.sum_cons]
theorem sum_mul (n : Nat) {α : Type} (f : α → Nat) (l : List α) : (l.map fun x => n * f x).sum = n * (l.map f).sum := by
  induction l with
  | nil => simp
  | cons x r ih => rw [List.map_cons, List.map_cons, List.sum_cons, List.sum_cons, ih, Nat.mul_add]
theorem oneL_len {cs : List Cn} (h : ∀ c ∈ cs, wfC c) : (oneL cs).length ≤ 27 * szRs (cs.map dCn) + 2 := by
  unfold oneL
  rw [List.length_cons, List.length_append, List.length_singleton]
  have h1 := joinT_len (cs.map oneT)
  rw [List.map_map] at h1
  have h2 := sum_le ((fun x : List UInt8 => x.length + 1) ∘ oneT) (fun c => 27 * (1 + c.tg.size)) cs (fun c hc => by
    have := oneT_len (h c hc)
    simp only [Function.comp]
    omega)
  rw [sum_mul] at h2
  rw [sz_sum]
  omega
theorem sz_sum2 (ls : List (List Cn)) : szRs (ls.map dCs) = (ls.map fun cs => 1 + szRs (cs.map dCn)).sum := by
  induction ls with
  | nil => rfl
  | cons x r ih => rw [List.map_cons, szRs_cons, ih, sz_dCs, List.map_cons, List.sum_cons]
theorem oneI_len {ls : List (List Cn)} (h : ∀ cs ∈ ls, ∀ c ∈ cs, wfC c) : (oneI ls).length ≤ 27 * szRs (ls.map dCs) := by
  unfold oneI
  have h1 := joinT_len (ls.map oneL)
  rw [List.map_map] at h1
  have h2 := sum_le ((fun x : List UInt8 => x.length + 1) ∘ oneL) (fun cs => 27 * (1 + szRs (cs.map dCn))) ls (fun cs hcs => by
    have := oneL_len (h cs hcs)
    simp only [Function.comp]
    omega)
  rw [sum_mul] at h2
  rw [sz_sum2]
  omega
theorem take_sz (ls : List (List Cn)) (k : Nat) : szRs ((ls.take k).map dCs) ≤ szRs (ls.map dCs) := szRs_sub ((List.take_sublist k ls).map dCs)
theorem take_szC (cs : List Cn) (k : Nat) : szRs ((cs.take k).map dCn) ≤ szRs (cs.map dCn) := szRs_sub ((List.take_sublist k cs).map dCn)
/-- What well-formed arguments say. -/
theorem wf_of {ls : List (List Cn)} (h : okF (.l (ls.map dCs))) : ∀ cs ∈ ls, ∀ c ∈ cs, wfC c := fun cs hcs c hc => by
  have h1 := (okRs_mem _ h.1 _ (List.mem_map_of_mem (f := dCs) hcs)).1
  have h2 := okR_mem h1 (.l (cs.map dCn)) (by simp [dCs])
  have h3 := (okRs_mem _ h2.1 _ (List.mem_map_of_mem (f := dCn) hc)).1
  have h4 : (Lit.int .i64 c.tk).wf = true := okR_mem h3 (.c (.int .i64 c.tk)) (by simp [dCn])
  simp only [Lit.wf, Bool.and_eq_true, decide_eq_true_eq] at h4
  have h5 : (IntKind.max .i64 : Int) = 9223372036854775807 := by decide
  unfold wfC
  omega
end Go.Proofs.YtfhcniifennfbaaGreatDoor
namespace Go.Proofs.YtfhcniifennfbaaGreatDoor
open Go.RowKit M
set_option linter.unusedVariables false

theorem bodyC_tag {no : Bool} {l r : List UInt8} {c : Cn} (h : bodyC no l = some (c, r)) : c.tg.size ≤ l.length := by
  unfold bodyC at h
  split at h
  · unfold tokC at h
    split at h
    · cases h
    · split at h
      · cases h
      · cases h
        exact Nat.zero_le _
  · split at h
    · unfold tagC at h
      split at h
      · cases h
      · rename_i m q hc
        have h3 := (cutT_in hc).2.2
        split at h
        · cases h
        · split at h
          · cases h
            have h4 : l.tail.length = (tagL m ++ q).length := by rw [h3]
            rw [List.length_tail, List.length_append] at h4
            show (bytesOf (tagL m)).size ≤ l.length
            rw [bytesOf_size]
            omega
          · cases h
    · cases h
theorem condL_tag {l r : List UInt8} {c : Cn} (h : condL l = some (c, r)) : c.tg.size ≤ l.length :=
  Nat.le_trans (bodyC_tag h) (cutNot_len l)
theorem condsL_tag (n : Nat) : ∀ l : List UInt8, l.length < n → ∀ cs r, condsL l = some (cs, r) → ∀ c ∈ cs, c.tg.size ≤ l.length := by
  induction n with
  | zero => intro l hl; exact absurd hl (Nat.not_lt_zero _)
  | succ n ih =>
    intro l hl cs r h
    cases hc : condL l with
    | none => rw [condsL_none hc] at h; cases h
    | some x =>
      obtain ⟨c, q⟩ := x
      have hq := condL_len hc
      have hk := condL_tag hc
      by_cases hh : q.head? = some 32
      · rw [condsL_next hc hh] at h
        cases hd : condsL q.tail with
        | none => rw [hd] at h; cases h
        | some y =>
          obtain ⟨ds, z⟩ := y
          rw [hd] at h
          cases h
          have h1 := ih q.tail (by rw [List.length_tail]; omega) ds z hd
          intro x hx
          rcases List.mem_cons.1 hx with rfl | hx
          · exact hk
          · have := h1 x hx
            rw [List.length_tail] at this
            omega
      · rw [condsL_end hc hh] at h
        cases h
        intro x hx
        rcases List.mem_cons.1 hx with rfl | hx
        · exact hk
        · cases hx
theorem listL_tag {l r : List UInt8} {cs : List Cn} (h : listL l = some (cs, r)) : ∀ c ∈ cs, c.tg.size ≤ l.length := by
  unfold listL at h
  split at h
  · split at h
    · cases h
    · rename_i q hq
      split at h
      · cases h
        intro c hc
        have := condsL_tag _ l.tail (Nat.lt_succ_self _) _ _ hq c hc
        rw [List.length_tail] at this
        omega
      · cases h
  · cases h
theorem listsL_tag (n : Nat) : ∀ l : List UInt8, l.length < n → ∀ ls, listsL l = some ls → ∀ cs ∈ ls, ∀ c ∈ cs, c.tg.size ≤ l.length := by
  induction n with
  | zero => intro l hl; exact absurd hl (Nat.not_lt_zero _)
  | succ n ih =>
    intro l hl ls h
    cases hc : listL l with
    | none => rw [listsL_none hc] at h; cases h
    | some x =>
      obtain ⟨c, q⟩ := x
      have hq := listL_len hc
      have hk := listL_tag hc
      by_cases hh : q = []
      · subst hh
        rw [listsL_end hc] at h
        cases h
        intro x hx
        rcases List.mem_cons.1 hx with rfl | hx
        · exact hk
        · cases hx
      · rw [listsL_next hc hh] at h
        cases hd : listsL (blk q) with
        | none => rw [hd] at h; cases h
        | some ds =>
          rw [hd] at h
          cases h
          have h0 := blk_len q
          have h1 := ih (blk q) (by omega) ds hd
          intro x hx
          rcases List.mem_cons.1 hx with rfl | hx
          · exact hk
          · intro y hy
            have := h1 x hx y hy
            omega
theorem ifL_tag {l : List UInt8} {ls : List (List Cn)} (h : ifL l = some ls) : ∀ cs ∈ ls, ∀ c ∈ cs, c.tg.size ≤ l.length := by
  unfold ifL at h
  cases hd : listsL l with
  | none => rw [hd] at h; cases h
  | some ds =>
    rw [hd] at h
    simp only [Option.bind_some] at h
    split at h
    · cases h
      exact listsL_tag _ l (Nat.lt_succ_self _) _ hd
    · cases h
theorem sum_bd {α : Type} (f : α → Nat) (b : Nat) (l : List α) (h : ∀ x ∈ l, f x ≤ b) : (l.map f).sum ≤ l.length * b := by
  induction l with
  | nil => simp
  | cons x r ih =>
    rw [List.map_cons, List.sum_cons, List.length_cons, Nat.add_mul]
    have h1 := h x (List.mem_cons_self ..)
    have h2 := ih (fun y hy => h y (List.mem_cons_of_mem _ hy))
    omega
/-- Few lists of few small ones. -/
theorem sz_few {ls : List (List Cn)} {m k z : Nat} (h1 : ls.length ≤ m) (h2 : ∀ cs ∈ ls, cs.length ≤ k) (h3 : ∀ cs ∈ ls, ∀ c ∈ cs, c.tg.size ≤ z) : szRs (ls.map dCs) ≤ m * (1 + k * (1 + z)) := by
  rw [sz_sum2]
  refine Nat.le_trans (sum_bd _ (1 + k * (1 + z)) ls (fun cs hcs => ?_)) (Nat.mul_le_mul_right _ h1)
  rw [sz_sum]
  have := sum_bd (fun c : Cn => 1 + c.tg.size) (1 + z) cs (fun c hc => by have := h3 cs hcs c hc; omega)
  have h4 := Nat.mul_le_mul_right (1 + z) (h2 cs hcs)
  omega
theorem oneL_few {cs : List Cn} {k z : Nat} (h2 : cs.length ≤ k) (h3 : ∀ c ∈ cs, c.tg.size ≤ z) (hwf : ∀ c ∈ cs, wfC c) : (oneL cs).length ≤ 2 + k * (27 + z) := by
  unfold oneL
  rw [List.length_cons, List.length_append, List.length_singleton]
  have h1 := joinT_len (cs.map oneT)
  rw [List.map_map] at h1
  have h4 := sum_bd ((fun x : List UInt8 => x.length + 1) ∘ oneT) (27 + z) cs (fun c hc => by
    have h5 := oneT_len (hwf c hc)
    have h6 := h3 c hc
    simp only [Function.comp]
    omega)
  have h5 := Nat.mul_le_mul_right (27 + z) h2
  omega
theorem oneI_few {ls : List (List Cn)} {m k z : Nat} (h1 : ls.length ≤ m) (h2 : ∀ cs ∈ ls, cs.length ≤ k) (h3 : ∀ cs ∈ ls, ∀ c ∈ cs, c.tg.size ≤ z) (hwf : ∀ cs ∈ ls, ∀ c ∈ cs, wfC c) : (oneI ls).length ≤ m * (3 + k * (27 + z)) := by
  unfold oneI
  have h4 := joinT_len (ls.map oneL)
  rw [List.map_map] at h4
  have h5 := sum_bd ((fun x : List UInt8 => x.length + 1) ∘ oneL) (3 + k * (27 + z)) ls (fun cs hcs => by
    have h6 := oneL_few (h2 cs hcs) (h3 cs hcs) (hwf cs hcs)
    simp only [Function.comp]
    omega)
  have h6 := Nat.mul_le_mul_right (3 + k * (27 + z)) h1
  omega
theorem wf_ok {ls : List (List Cn)} (h : okIf ls) : ∀ cs ∈ ls, ∀ c ∈ cs, wfC c := fun cs hcs c hc => by
  unfold wfC
  rcases (h.2.2 cs hcs).2.2 c hc with ⟨_, h1, h2⟩ | ⟨h1, _⟩ <;> omega
theorem ifT_ne {ls : List (List Cn)} (h : okIf ls) : ifT ls ≠ [] := fun e => by
  have h1 := ifL_back h
  rw [e] at h1
  unfold ifL at h1
  have : listsL [] = none := listsL_none (by unfold listL; rw [if_neg (by simp)])
  rw [this] at h1
  cases h1
end Go.Proofs.YtfhcniifennfbaaGreatDoor
namespace Go.Proofs.YtfhcniifennfbaaGreatDoor.M
set_option linter.unusedVariables false

def subB (c : Cn) : Bool := c.tk != 0 && !c.no
def subC (cs : List Cn) : List Int := (cs.filter subB).map (·.tk)
def subI (ls : List (List Cn)) : List Int := subC ls.flatten
theorem subC_app (a b : List Cn) : subC (a ++ b) = subC a ++ subC b := by simp [subC]
theorem subC_snoc (cs : List Cn) (k : Nat) (hk : k < cs.length) : subC (cs.take (k + 1)) = subC (cs.take k) ++ (if subB cs[k] = true then [cs[k].tk] else []) := by
  rw [List.take_succ_eq_append_getElem hk, subC_app]
  congr 1
  simp only [subC, List.filter_cons, List.filter_nil]
  split <;> rfl
theorem subC_len (cs : List Cn) : (subC cs).length ≤ cs.length := by
  unfold subC
  rw [List.length_map]
  exact List.length_filter_le _ _
theorem subI_snoc (ls : List (List Cn)) (k : Nat) (hk : k < ls.length) : subI (ls.take (k + 1)) = subI (ls.take k) ++ subC ls[k] := by
  unfold subI
  rw [List.take_succ_eq_append_getElem hk, List.flatten_append, subC_app]
  simp
theorem subI_le (ls : List (List Cn)) (k : Nat) : (ls.take k).flatten.length ≤ ls.flatten.length := by
  have h : ls.flatten.length = (ls.take k).flatten.length + (ls.drop k).flatten.length := by
    rw [← List.length_append, ← List.flatten_append, List.take_append_drop]
  omega
theorem flat_here (ls : List (List Cn)) (k : Nat) (hk : k < ls.length) : ls[k].length ≤ ls.flatten.length := by
  have h := subI_le ls (k + 1)
  rw [List.take_succ_eq_append_getElem hk, List.flatten_append, List.length_append] at h
  have e : [ls[k]].flatten = ls[k] := by simp
  rw [e] at h
  omega
def condB (toks : List Int) (tag : ByteArray) (c : Cn) : Bool := (if c.tk = 0 then c.tg.toList == tag.toList else toks.any (· == c.tk)) != c.no
def allC (toks : List Int) (tag : ByteArray) (cs : List Cn) : Bool := cs.all (condB toks tag)
def evalI (ls : List (List Cn)) (toks : List Int) (tag : ByteArray) : Bool := ls.any (allC toks tag)
theorem allC_snoc (toks : List Int) (tag : ByteArray) (cs : List Cn) (k : Nat) (hk : k < cs.length) : allC toks tag (cs.take (k + 1)) = (allC toks tag (cs.take k) && condB toks tag cs[k]) := by
  unfold allC
  rw [List.take_succ_eq_append_getElem hk, List.all_append]
  simp
theorem evalI_snoc (ls : List (List Cn)) (toks : List Int) (tag : ByteArray) (k : Nat) (hk : k < ls.length) : evalI (ls.take (k + 1)) toks tag = (evalI (ls.take k) toks tag || allC toks tag ls[k]) := by
  unfold evalI
  rw [List.take_succ_eq_append_getElem hk, List.any_append]
  simp
theorem evalI_here (ls : List (List Cn)) (toks : List Int) (tag : ByteArray) (k : Nat) (hk : k < ls.length) (h : allC toks tag ls[k] = true) : evalI ls toks tag = true :=
  List.any_eq_true.2 ⟨ls[k], List.getElem_mem hk, h⟩
end Go.Proofs.YtfhcniifennfbaaGreatDoor.M
namespace Go.Proofs.YtfhcniifennfbaaGreatDoor
open Go.RowKit
set_option linter.unusedVariables false

abbrev At (N : Nat) : Nat → Prop := fun y => y = N
theorem turn_of_grown {w w' : World} {N : Nat} (h : w.grownBy w' (some N)) : Turn (At N) w w' := ⟨h.os, h.tape, h.output, h.size, fun i hi hS => h.block i hi (fun e => hS (Option.some.inj e))⟩
end Go.Proofs.YtfhcniifennfbaaGreatDoor
namespace Go.Proofs.YtfhcniifennfbaaGreatDoor.M

/-- A piece. -/
structure Pce where
  k : Int
  name : ByteArray
  ns : ByteArray
  has : Bool
  s : ByteArray
deriving DecidableEq

def noB : ByteArray := ⟨#[]⟩
def spcS : List UInt8 := [32, 120, 109, 108, 110, 115, 61, 34]

/-- What a piece's text is. -/
def spcT (p : Pce) : List UInt8 := if p.has then spcS ++ escL p.ns.data.toList ++ [34] else []
def markT (p : Pce) : List UInt8 :=
  if p.k = 1 then [60] ++ p.name.data.toList ++ spcT p ++ [62]
  else if p.k = 2 then [60, 47] ++ p.name.data.toList ++ [62]
  else if p.k = 3 then [60] ++ p.name.data.toList ++ spcT p ++ [47, 62]
  else escL p.s.data.toList

/-- A name ahead, and what is behind it. -/
def nameP (c : UInt8) : Bool := anyB (c.toNat : Int) [2, 4, 7]
def nmL (l : List UInt8) : List UInt8 := l.takeWhile nameP
def nmR (l : List UInt8) : List UInt8 := l.dropWhile nameP

def closeP (n : List UInt8) : Pce := ⟨2, bytesOf n, noB, false, noB⟩
def openP (k : Int) (n : List UInt8) (sp : Bool × List UInt8) : Pce := ⟨k, bytesOf n, bytesOf sp.2, sp.1, noB⟩
def textP (t : List UInt8) : Pce := ⟨4, noB, noB, false, bytesOf t⟩

def closeL (r : List UInt8) : Option (Pce × List UInt8) :=
  if smB (nmL r) && [62].isPrefixOf (nmR r) then some (closeP (nmL r), (nmR r).drop 1) else none
def spcL (r : List UInt8) : Option ((Bool × List UInt8) × List UInt8) :=
  if spcS.isPrefixOf r then
    (if fromB 34 (r.drop 8) = [] then none else
     match unesc (upTo 34 (r.drop 8)) with
     | some ns => if ns.length ≤ 20 then some ((true, ns), (fromB 34 (r.drop 8)).tail) else none
     | none => none)
  else some ((false, []), r)
def endM (n : List UInt8) (sp : Bool × List UInt8) (q : List UInt8) : Option (Pce × List UInt8) :=
  if [47, 62].isPrefixOf q then some (openP 3 n sp, q.drop 2) else if [62].isPrefixOf q then some (openP 1 n sp, q.drop 1) else none
def openL (r : List UInt8) : Option (Pce × List UInt8) :=
  if smB (nmL r) then
    (match spcL (nmR r) with
     | some x => endM (nmL r) x.1 x.2
     | none => none)
  else none
def textL7 (l : List UInt8) : Option (Pce × List UInt8) :=
  match unesc (upTo 60 l) with
  | some t => some (textP t, fromB 60 l)
  | none => none
def markL (l : List UInt8) : Option (Pce × List UInt8) :=
  if [60, 47].isPrefixOf l then closeL (l.drop 2) else if [60].isPrefixOf l then openL (l.drop 1) else textL7 l

theorem nmR_le (l : List UInt8) : (nmR l).length ≤ l.length := by
  induction l with
  | nil => simp [nmR]
  | cons b l ih =>
    simp only [nmR, List.dropWhile_cons] at *
    split
    · simp; omega
    · simp
theorem nm_from (l : List UInt8) : nmL l ++ nmR l = l := List.takeWhile_append_dropWhile
theorem nmL_le (l : List UInt8) : (nmL l).length ≤ l.length := by
  have := congrArg List.length (nm_from l)
  rw [List.length_append] at this
  omega

theorem closeL_le {r q : List UInt8} {p : Pce} (h : closeL r = some (p, q)) : q.length ≤ r.length := by
  unfold closeL at h
  split at h
  · obtain ⟨_, rfl⟩ := Prod.mk.inj (Option.some.inj h)
    have := nmR_le r
    simp; omega
  · cases h
theorem spcL_le {r q : List UInt8} {sp : Bool × List UInt8} (h : spcL r = some (sp, q)) : q.length ≤ r.length ∧ sp.2.length ≤ 20 := by
  unfold spcL at h
  split at h
  · split at h
    · cases h
    · split at h
      · split at h
        · obtain ⟨rfl, rfl⟩ := Prod.mk.inj (Option.some.inj h)
          have := fromB_le 34 (r.drop 8)
          simp at this ⊢
          refine ⟨by omega, by assumption⟩
        · cases h
      · cases h
  · obtain ⟨rfl, rfl⟩ := Prod.mk.inj (Option.some.inj h)
    exact ⟨Nat.le_refl _, Nat.zero_le _⟩
theorem endM_le {n r q : List UInt8} {sp : Bool × List UInt8} {p : Pce} (h : endM n sp r = some (p, q)) : q.length ≤ r.length := by
  unfold endM at h
  split at h
  · obtain ⟨_, rfl⟩ := Prod.mk.inj (Option.some.inj h); simp
  split at h
  · obtain ⟨_, rfl⟩ := Prod.mk.inj (Option.some.inj h); simp
  · cases h
theorem openL_le {r q : List UInt8} {p : Pce} (h : openL r = some (p, q)) : q.length ≤ r.length := by
  unfold openL at h
  split at h
  · split at h
    · rename_i x hx
      have h1 := endM_le h
      have h2 := (spcL_le (sp := x.1) (q := x.2) hx).1
      have h3 := nmR_le r
      omega
    · cases h
  · cases h

theorem pre60 (l : List UInt8) : [60].isPrefixOf l = decide (l.head? = some 60) := by
  cases l with
  | nil => rfl
  | cons c r =>
    simp [List.isPrefixOf]
    rw [Bool.beq_eq_decide_eq]
    by_cases h : c = 60
    · simp [h]
    · simp [h, Ne.symm h]

theorem markL_lt {l q : List UInt8} {p : Pce} (hl : l ≠ []) (h : markL l = some (p, q)) : q.length < l.length := by
  have h0 : 0 < l.length := List.length_pos_iff.2 hl
  unfold markL at h
  split at h
  · have := closeL_le h
    simp at this; omega
  split at h
  · have := openL_le h
    simp at this; omega
  · rename_i h60
    unfold textL7 at h
    split at h
    · obtain ⟨_, rfl⟩ := Prod.mk.inj (Option.some.inj h)
      match l, hl, h60 with
      | c :: r, _, h60 =>
        have hc : c ≠ 60 := fun e => h60 (by rw [pre60]; simp [e])
        rw [fromB_cons_ne r hc]
        have := fromB_le 60 r
        simp; omega
    · cases h

set_option linter.unusedVariables false in
/-- All pieces. -/
def pcsL (l : List UInt8) : Option (List Pce) :=
  if hl : l = [] then some [] else
  match h : markL l with
  | some x => (pcsL x.2).map (x.1 :: ·)
  | none => none
termination_by l.length
decreasing_by exact markL_lt hl h

theorem pcsL_nil : pcsL [] = some [] := by rw [pcsL]; simp
theorem pcsL_none {l : List UInt8} (hl : l ≠ []) (h : markL l = none) : pcsL l = none := by
  rw [pcsL]; simp only [hl, dif_neg, not_false_eq_true]; split <;> simp_all
theorem pcsL_some {l q : List UInt8} {p : Pce} (hl : l ≠ []) (h : markL l = some (p, q)) : pcsL l = (pcsL q).map (p :: ·) := by
  rw [pcsL]; simp only [hl, dif_neg, not_false_eq_true]; split <;> simp_all

/-- What Pieces answers. -/
def pcsR (l : List UInt8) : List Pce × Bool :=
  if allB l [0] then (match pcsL l with | some ps => if ps.length ≤ 60 then (ps, true) else ([], false) | none => ([], false)) else ([], false)

/-- What is read so far, and what is left. -/
def PcAt (l rest : List UInt8) (acc : List Pce) : Prop := rest.length ≤ l.length ∧ acc.length ≤ 60 ∧ pcsL l = (pcsL rest).map (acc ++ ·)

theorem PcAt.start (l : List UInt8) : PcAt l l [] := ⟨Nat.le_refl _, Nat.zero_le _, by simp⟩
theorem PcAt.step {l rest q : List UInt8} {acc : List Pce} {p : Pce} (h : PcAt l rest acc) (hr : rest ≠ []) (hm : markL rest = some (p, q)) (h60 : acc.length < 60) : PcAt l q (acc ++ [p]) := by
  obtain ⟨a, b, c⟩ := h
  have := markL_lt hr hm
  refine ⟨by omega, by simp; omega, ?_⟩
  rw [c, pcsL_some hr hm, Option.map_map]
  congr 1
  funext x
  simp [Function.comp]
theorem PcAt.bad {l rest : List UInt8} {acc : List Pce} (h : PcAt l rest acc) (hr : rest ≠ []) (hm : markL rest = none) : pcsR l = ([], false) := by
  unfold pcsR
  rw [h.2.2, pcsL_none hr hm]
  simp
theorem PcAt.many {l rest : List UInt8} {acc : List Pce} (h : PcAt l rest acc) (hr : rest ≠ []) (h60 : acc.length = 60) : pcsR l = ([], false) := by
  unfold pcsR
  rw [h.2.2]
  cases hm : markL rest with
  | none => rw [pcsL_none hr hm]; simp
  | some x =>
    rw [pcsL_some (p := x.1) (q := x.2) hr hm]
    cases hq : pcsL x.2 with
    | none => simp
    | some ps => simp; omega
theorem PcAt.done {l : List UInt8} {acc : List Pce} (h : PcAt l [] acc) (hp : allB l [0] = true) : pcsR l = (acc, true) := by
  unfold pcsR
  rw [h.2.2, pcsL_nil, if_pos hp]
  simp [h.2.1]
theorem pcsR_not {l : List UInt8} (hp : allB l [0] = false) : pcsR l = ([], false) := by
  unfold pcsR; rw [if_neg (by simp [hp])]

/-- How great what is read is. -/
def pcSize (p : Pce) : Nat := p.name.size + p.ns.size + p.s.size
theorem smB_le {l : List UInt8} (h : smB l = true) : l.length ≤ 20 := by
  match l, h with
  | c :: r, h => simp [smB] at h; simpa using h.1.1
theorem pc_name (p : Pce) : p.name.size ≤ pcSize p ∧ p.ns.size ≤ pcSize p ∧ p.s.size ≤ pcSize p := by unfold pcSize; omega
theorem markL_size {l q : List UInt8} {p : Pce} (h : markL l = some (p, q)) : pcSize p ≤ 40 + l.length := by
  have key : ∀ {r n : List UInt8} {k : Int} {sp : Bool × List UInt8}, smB n = true → sp.2.length ≤ 20 → pcSize (openP k n sp) ≤ 40 := by
    intro r n k sp hn hs
    have := smB_le hn
    simp only [pcSize, openP, bytesOf_size, noB]
    show n.length + sp.2.length + 0 ≤ 40
    omega
  unfold markL at h
  split at h
  · unfold closeL at h
    split at h
    · rename_i hh
      rw [Bool.and_eq_true] at hh
      obtain ⟨rfl, _⟩ := Prod.mk.inj (Option.some.inj h)
      have := smB_le hh.1
      simp only [pcSize, closeP, bytesOf_size, noB]
      show (nmL (l.drop 2)).length + 0 + 0 ≤ _
      omega
    · cases h
  split at h
  · unfold openL at h
    split at h
    · rename_i hn
      split at h
      · rename_i x hx
        have hs := (spcL_le (sp := x.1) (q := x.2) hx).2
        unfold endM at h
        split at h
        · obtain ⟨rfl, _⟩ := Prod.mk.inj (Option.some.inj h)
          have := key (r := []) (k := 3) hn hs; omega
        split at h
        · obtain ⟨rfl, _⟩ := Prod.mk.inj (Option.some.inj h)
          have := key (r := []) (k := 1) hn hs; omega
        · cases h
      · cases h
    · cases h
  · unfold textL7 at h
    split at h
    · rename_i t ht
      obtain ⟨rfl, _⟩ := Prod.mk.inj (Option.some.inj h)
      have h1 := unesc_le _ _ ht
      have h2 := congrArg List.length (upTo_from 60 l)
      rw [List.length_append] at h2
      simp only [pcSize, textP, bytesOf_size, noB]
      show 0 + 0 + t.length ≤ _
      omega
    · cases h
end Go.Proofs.YtfhcniifennfbaaGreatDoor.M
namespace Go.Proofs.YtfhcniifennfbaaGreatDoor.M

/-- The first byte of a text, and what stands behind it. -/
def stepL : List UInt8 → Option (UInt8 × List UInt8)
  | [] => none
  | c :: r => if c = 60 then none else if c = 38 then
      (if fromB 59 r = [] then none else (match entL (upTo 59 r) with | some b => some (b, (fromB 59 r).tail) | none => none))
    else some (c, r)

theorem stepL_open (r : List UInt8) : stepL (60 :: r) = none := by simp [stepL]
theorem stepL_plain {c : UInt8} (r : List UInt8) (h : c ≠ 60) (h2 : c ≠ 38) : stepL (c :: r) = some (c, r) := by simp [stepL, h, h2]
theorem stepL_short (r : List UInt8) (h : fromB 59 r = []) : stepL (38 :: r) = none := by simp [stepL, h]
theorem stepL_bad (r : List UInt8) (h : entL (upTo 59 r) = none) : stepL (38 :: r) = none := by simp [stepL, h]
theorem stepL_ent (r : List UInt8) (b : UInt8) (h : fromB 59 r ≠ []) (hb : entL (upTo 59 r) = some b) : stepL (38 :: r) = some (b, (fromB 59 r).tail) := by simp [stepL, h, hb]

theorem unesc_none {l : List UInt8} (hl : l ≠ []) (h : stepL l = none) : unesc l = none := by
  match l, hl with
  | c :: r, _ =>
    by_cases h60 : c = 60
    · subst h60; exact unesc_open r
    by_cases h38 : c = 38
    · subst h38
      by_cases hf : fromB 59 r = []
      · exact unesc_short r hf
      · cases he : entL (upTo 59 r) with
        | none => exact unesc_bad r he
        | some b => rw [stepL_ent r b hf he] at h; cases h
    · rw [stepL_plain r h60 h38] at h; cases h
theorem unesc_some {l q : List UInt8} {b : UInt8} (h : stepL l = some (b, q)) : unesc l = (unesc q).map (b :: ·) ∧ q.length < l.length := by
  match l, h with
  | c :: r, h =>
    by_cases h60 : c = 60
    · subst h60; rw [stepL_open] at h; cases h
    by_cases h38 : c = 38
    · subst h38
      cases hf : fromB 59 r with
      | nil => rw [stepL_short r hf] at h; cases h
      | cons x t =>
        cases he : entL (upTo 59 r) with
        | none => rw [stepL_bad r he] at h; cases h
        | some b' =>
          rw [stepL_ent r b' (by rw [hf]; simp) he, hf] at h
          obtain ⟨rfl, rfl⟩ := Prod.mk.inj (Option.some.inj h)
          have := fromB_le 59 r
          rw [hf] at this
          exact ⟨unesc_ent r _ x _ hf he, by simp at this ⊢; omega⟩
    · rw [stepL_plain r h60 h38] at h
      obtain ⟨rfl, rfl⟩ := Prod.mk.inj (Option.some.inj h)
      exact ⟨unesc_plain _ h60 h38, by simp⟩

theorem UeAt.step {l rest q acc : List UInt8} {b : UInt8} (h : UeAt l rest acc) (hs : stepL rest = some (b, q)) : UeAt l q (acc ++ [b]) := by
  obtain ⟨a, e⟩ := h
  obtain ⟨e1, e2⟩ := unesc_some hs
  refine ⟨by simp; omega, ?_⟩
  rw [e, e1, Option.map_map]
  congr 1
  funext x
  simp [Function.comp]
theorem UeAt.bad {l rest acc : List UInt8} (h : UeAt l rest acc) (hr : rest ≠ []) (hs : stepL rest = none) : unescR l = ([], false) := h.no (unesc_none hr hs)

/-- Up to the first such byte, by places. -/
theorem upTo_ne {c : UInt8} {l : List UInt8} : ∀ x ∈ upTo c l, x ≠ c := by
  induction l with
  | nil => intro x hx; simp [upTo] at hx
  | cons b l ih =>
    intro x hx
    by_cases h : b = c
    · subst h; rw [upTo_cons_eq] at hx; cases hx
    · rw [upTo_cons_ne l h] at hx
      rcases List.mem_cons.1 hx with rfl | hx
      · exact h
      · exact ih x hx
theorem upTo_end (c : UInt8) (l : List UInt8) : (upTo c l).length ≤ l.length ∧ ((upTo c l).length = l.length ↔ fromB c l = []) := by
  have e := congrArg List.length (upTo_from c l)
  rw [List.length_append] at e
  refine ⟨by omega, ?_⟩
  constructor
  · intro h; exact List.length_eq_zero_iff.1 (by omega)
  · intro h; rw [h] at e; simp at e; exact e
theorem upTo_get (c : UInt8) (l : List UInt8) (j : Nat) (hj : j < l.length) (hle : j ≤ (upTo c l).length) : l[j] = c ↔ j = (upTo c l).length := by
  have e := upTo_from c l
  constructor
  · intro h
    apply Classical.byContradiction
    intro hn
    have hj' : j < (upTo c l).length := by omega
    have h2 : l[j] = (upTo c l)[j] := by
      have : (upTo c l ++ fromB c l)[j]'(by rw [e]; exact hj) = (upTo c l)[j] := List.getElem_append_left hj'
      rw [← this]; congr 1; exact e.symm
    exact upTo_ne _ (List.getElem_mem hj') (h2.symm.trans h)
  · intro h
    cases hf : fromB c l with
    | nil =>
      have := (upTo_end c l).2.2 hf
      omega
    | cons x q =>
      have hx := fromB_head hf
      have : (upTo c l ++ fromB c l)[j]'(by rw [e]; exact hj) = x := by
        rw [List.getElem_append_right (by omega)]
        simp [h, hf]
      rw [← hx, ← this]; congr 1; exact e.symm
theorem upTo_at (s : ByteArray) (c : UInt8) (a k : Nat) (ha : a ≤ k) (hk : k < s.size) (hle : k ≤ a + (upTo c (s.data.toList.drop a)).length) : s[k] = c ↔ k = a + (upTo c (s.data.toList.drop a)).length := by
  have el : s.data.toList.length = s.size := Array.length_toList
  have h := upTo_get c (s.data.toList.drop a) (k - a) (by rw [List.length_drop]; omega) (by omega)
  have h2 : (s.data.toList.drop a)[k - a]'(by rw [List.length_drop]; omega) = s[k] := by
    rw [List.getElem_drop]
    have : a + (k - a) = k := by omega
    simp only [this]
    rfl
  rw [h2] at h
  rw [h]
  omega
theorem upTo_len (s : ByteArray) (c : UInt8) (a : Nat) (ha : a ≤ s.size) : a + (upTo c (s.data.toList.drop a)).length ≤ s.size ∧ (a + (upTo c (s.data.toList.drop a)).length = s.size ↔ fromB c (s.data.toList.drop a) = []) := by
  have el : s.data.toList.length = s.size := Array.length_toList
  obtain ⟨h1, h2⟩ := upTo_end c (s.data.toList.drop a)
  rw [List.length_drop] at h1 h2
  refine ⟨by omega, ?_⟩
  rw [← h2]
  omega
theorem extract_list (s : ByteArray) (a b : Nat) : (s.extract a b).data.toList = (s.data.toList.drop a).take (b - a) := by
  have h1 : (s.extract a b).data = s.data.extract a b := by simp
  rw [h1, Array.toList_extract]
theorem extract_upTo (s : ByteArray) (c : UInt8) (a : Nat) : (s.extract a (a + (upTo c (s.data.toList.drop a)).length)).data.toList = upTo c (s.data.toList.drop a) := by
  rw [extract_list, show a + (upTo c (s.data.toList.drop a)).length - a = (upTo c (s.data.toList.drop a)).length by omega]
  have e := upTo_from c (s.data.toList.drop a)
  generalize upTo c (s.data.toList.drop a) = p at e ⊢
  rw [← e]
  simp
theorem drop_upTo (s : ByteArray) (c : UInt8) (a : Nat) : s.data.toList.drop (a + (upTo c (s.data.toList.drop a)).length + 1) = (fromB c (s.data.toList.drop a)).tail := by
  have e := upTo_from c (s.data.toList.drop a)
  rw [Nat.add_assoc, ← List.drop_drop]
  generalize upTo c (s.data.toList.drop a) = p at e ⊢
  generalize fromB c (s.data.toList.drop a) = q at e ⊢
  rw [← e]
  simp
theorem extract_rest (s : ByteArray) (a : Nat) : (s.extract a s.size).data.toList = s.data.toList.drop a := by
  have el : s.data.toList.length = s.size := Array.length_toList
  rw [extract_list, List.take_of_length_le (by rw [List.length_drop]; omega)]
theorem drop_cons (s : ByteArray) (k : Nat) (h : k < s.size) : s.data.toList.drop k = s[k] :: s.data.toList.drop (k + 1) := by
  have e : s.data.toList.length = s.size := Array.length_toList
  rw [List.drop_eq_getElem_cons (by omega)]
  rfl
theorem drop_none (s : ByteArray) (k : Nat) (h : ¬ k < s.size) : s.data.toList.drop k = [] := by
  have e : s.data.toList.length = s.size := Array.length_toList
  exact List.drop_of_length_le (by omega)

/-- The names that stand for bytes. -/
theorem ent_amp : entL [97, 109, 112] = some 38 := by simp [entL]
theorem ent_lt : entL [108, 116] = some 60 := by simp [entL]
theorem ent_gt : entL [103, 116] = some 62 := by simp [entL]
theorem ent_quot : entL [113, 117, 111, 116] = some 34 := by simp [entL]
theorem ent_apos : entL [97, 112, 111, 115] = some 39 := by simp [entL]
def entFree (l : List UInt8) : Prop := l ≠ [97, 109, 112] ∧ l ≠ [108, 116] ∧ l ≠ [103, 116] ∧ l ≠ [113, 117, 111, 116] ∧ l ≠ [97, 112, 111, 115]
theorem ent_num {l : List UInt8} (h : entFree l) (h35 : l.head? = some 35) : entL l = if (parseNum l.tail 126).2 && decide (32 ≤ (parseNum l.tail 126).1) then some (UInt8.ofNat (decVal l.tail)) else none := by
  obtain ⟨h1, h2, h3, h4, h5⟩ := h
  unfold entL
  rw [if_neg h1, if_neg h2, if_neg h3, if_neg h4, if_neg h5, if_pos h35]
theorem ent_not {l : List UInt8} (h : entFree l) (h35 : l.head? ≠ some 35) : entL l = none := by
  obtain ⟨h1, h2, h3, h4, h5⟩ := h
  unfold entL
  rw [if_neg h1, if_neg h2, if_neg h3, if_neg h4, if_neg h5, if_neg h35]
end Go.Proofs.YtfhcniifennfbaaGreatDoor.M
