/-
  Boxes of several cells, and rows that are made one by one.
-/
import Derived.Test.YtckhjemojopekaaGenOwn
import Derived.WalkKit
namespace Go.Proofs.Ytckhjemojopekaa
open Go.RowKit M
set_option linter.unusedVariables false

/-- The blocks from l on, before u. -/
def IvG (l u : Nat) : Nat → Prop := fun x => l ≤ x ∧ x < u
theorem Own.up {w : World} {v : Value} {x : Lf} {l u l' u' : Nat} (h : Own w v x (IvG l u)) (h1 : l' ≤ l) (h2 : u ≤ u') : Own w v x (IvG l' u') :=
  h.wide (fun y hy => ⟨Nat.le_trans h1 hy.1, Nat.lt_of_lt_of_le hy.2 h2⟩)
theorem Own.vw {w : World} {v : Value} {x : Lf} {l u B : Nat} (h : Own w v x (IvG l u)) (hB : u ≤ B) : View w B v x := h.view (fun y hy => Nat.lt_of_lt_of_le hy.2 hB)
theorem View.turn {w w' : World} {v : Value} {x : Lf} {B : Nat} {S : Nat → Prop} (h : View w B v x) (t : Turn S w w') (hS : ∀ y, S y → B ≤ y) (hB : B ≤ w.heap.size) : View w' B v x :=
  h.stays (t.below hS hB) (Nat.le_refl _)
theorem bcellG {B : Nat} {W w1 : World} (hb : Below B W w1) : (∀ b o, b < B → w1.cell? ⟨b, o, none⟩ = W.cell? ⟨b, o, none⟩) ∧ (∀ b o, b < B → w1.frozen? ⟨b, o, none⟩ = W.frozen? ⟨b, o, none⟩) :=
  ⟨fun b o h => hb.cell (p := ⟨b, o, none⟩) h, fun b o h => hb.frozen (p := ⟨b, o, none⟩) h⟩
theorem below_drewG {w w' : World} {n : Nat} (hb : Below n w w') : Below n w w'.drew := ⟨hb.1, hb.2, hb.3, hb.4, hb.5⟩
theorem retG {a b : Bool} (h : a = b) : (Ending.returned (.bool a) : Ending) = .returned (.bool b) := by rw [h]

/-- A box: its cells. -/
def BoxV (w : World) (N : Nat) (vs : List Value) : Prop := N < w.heap.size ∧ ∀ i v, vs[i]? = some v → w.cell? ⟨N, i, none⟩ = some v ∧ w.frozen? ⟨N, i, none⟩ = false
theorem BoxV.made (w : World) (vs : List Value) (t : TypeId) : BoxV (w.alloc (Obj.cells vs.toArray t)) w.heap.size vs := by
  have hr := World.rowIs_alloc w vs.toArray t (fun i => (vs[i]?).getD (.bool false)) (fun i hi => by
    have hi' : i < vs.length := by simpa using hi
    simp [List.getElem?_eq_getElem hi'])
  refine ⟨hr.lt, fun i v hv => ?_⟩
  have hi := (List.getElem?_eq_some_iff.1 hv).1
  exact ⟨by rw [hr.cell (by simpa using hi), hv]; rfl, hr.frozen i⟩
theorem BoxV.next {w w' : World} {N : Nat} {vs : List Value} (h : BoxV w N vs) (hb : Below w.heap.size w w') : BoxV w' N vs :=
  ⟨Nat.lt_of_lt_of_le h.1 hb.size, fun i v hv => by rw [hb.cell (p := ⟨N, i, none⟩) h.1, hb.frozen (p := ⟨N, i, none⟩) h.1]; exact h.2 i v hv⟩
theorem BoxV.turn {w w' : World} {N : Nat} {vs : List Value} {S : Nat → Prop} (h : BoxV w N vs) (t : Turn S w w') (hN : ¬ S N) : BoxV w' N vs :=
  ⟨Nat.lt_of_lt_of_le h.1 t.size, fun i v hv => by rw [t.cell h.1 hN, t.frozen h.1 hN]; exact h.2 i v hv⟩
theorem BoxV.alloc {w : World} {N : Nat} {vs : List Value} (h : BoxV w N vs) (o : Obj) : BoxV (w.alloc o) N vs := h.next ((Below.refl _ _).alloc (Nat.le_refl _) o)
theorem BoxV.drew {w : World} {N : Nat} {vs : List Value} (h : BoxV w N vs) : BoxV w.drew N vs := h.next (below_drewG (Below.refl _ _))
theorem BoxV.set {w : World} {N : Nat} {vs : List Value} (h : BoxV w N vs) (i : Nat) (hi : i < vs.length) (v : Value) : BoxV (w.setCell ⟨N, i, none⟩ v) N (vs.set i v) := by
  refine ⟨by simpa using h.1, fun j u hu => ?_⟩
  rw [World.frozen?_setCell]
  by_cases e : j = i
  · subst e
    rw [List.getElem?_set_self hi] at hu
    cases hu
    exact ⟨World.cell?_setCell_same _ _ _ (h.2 j _ (List.getElem?_eq_getElem hi)).1, (h.2 j _ (List.getElem?_eq_getElem hi)).2⟩
  · rw [List.getElem?_set_ne (fun e' => e e'.symm)] at hu
    exact ⟨(World.cell?_setCell_other _ _ _ _ (fun e' => e (congrArg Addr.off e').symm)).trans (h.2 j u hu).1, (h.2 j u hu).2⟩
theorem BoxV.other {w : World} {N : Nat} {vs : List Value} (h : BoxV w N vs) (p : Addr) (v : Value) (hp : p.block ≠ N) : BoxV (w.setCell p v) N vs :=
  ⟨by simpa using h.1, fun i u hu => by
    rw [World.frozen?_setCell, World.cell?_setCell_other _ _ _ _ (fun e => hp (congrArg Addr.block e))]
    exact h.2 i u hu⟩

/-- Some cells stored, one behind the other. -/
def setAll (w : World) (g o : Nat) : List Value → World
  | [] => w
  | v :: vs => setAll (w.setCell ⟨g, o, none⟩ v) g (o + 1) vs
theorem setAll_size (w : World) (g o : Nat) (vs : List Value) : (setAll w g o vs).heap.size = w.heap.size := by
  induction vs generalizing w o with
  | nil => rfl
  | cons v vs ih => show (setAll _ g (o + 1) vs).heap.size = _; rw [ih]; simp
theorem setAll_frozen (w : World) (g o : Nat) (vs : List Value) (p : Addr) : (setAll w g o vs).frozen? p = w.frozen? p := by
  induction vs generalizing w o with
  | nil => rfl
  | cons v vs ih => show (setAll _ g (o + 1) vs).frozen? p = _; rw [ih, World.frozen?_setCell]
theorem setAll_other (w : World) (g o : Nat) (vs : List Value) (b q : Nat) (h : b ≠ g ∨ q < o ∨ o + vs.length ≤ q) : (setAll w g o vs).cell? ⟨b, q, none⟩ = w.cell? ⟨b, q, none⟩ := by
  induction vs generalizing w o with
  | nil => rfl
  | cons v vs ih =>
    show (setAll _ g (o + 1) vs).cell? _ = _
    rw [List.length_cons] at h
    rw [ih _ _ (by omega)]
    refine World.cell?_setCell_other _ _ _ _ (fun e => ?_)
    have e1 := congrArg Addr.block e
    have e2 := congrArg Addr.off e
    simp only at e1 e2
    omega
theorem setAll_at (w : World) (g o : Nat) (vs : List Value) (i : Nat) (v : Value) (hv : vs[i]? = some v) (h : ∀ i, i < vs.length → ∃ u, w.cell? ⟨g, o + i, none⟩ = some u) : (setAll w g o vs).cell? ⟨g, o + i, none⟩ = some v := by
  induction vs generalizing w o i with
  | nil => simp at hv
  | cons x vs ih =>
    show (setAll _ g (o + 1) vs).cell? _ = _
    cases i with
    | zero =>
      simp only [List.getElem?_cons_zero, Option.some.injEq] at hv
      subst hv
      rw [setAll_other _ _ _ _ _ _ (.inr (.inl (by omega)))]
      obtain ⟨u, hu⟩ := h 0 (by simp)
      exact World.cell?_setCell_same _ _ _ hu
    | succ i =>
      have := ih (w.setCell ⟨g, o, none⟩ x) (o + 1) i (by simpa using hv) (fun q hq => by
        obtain ⟨u, hu⟩ := h (q + 1) (by rw [List.length_cons]; omega)
        refine ⟨u, ?_⟩
        rw [World.cell?_setCell_other _ _ _ _ (fun e => by have := congrArg Addr.off e; simp at this; omega)]
        rw [show o + 1 + q = o + (q + 1) by omega]
        exact hu)
      rw [show o + (i + 1) = o + 1 + i by omega]
      exact this
theorem setAll_block (w : World) (g o : Nat) (vs : List Value) (b : Nat) (h : b ≠ g) : (setAll w g o vs).heap[b]? = w.heap[b]? := by
  induction vs generalizing w o with
  | nil => rfl
  | cons v vs ih =>
    show (setAll _ g (o + 1) vs).heap[b]? = _
    rw [ih]
    exact Below.heap_setCell _ _ _ _ h
theorem setAll_below {w w1 : World} {g o B : Nat} (vs : List Value) (hb : Below B w w1) (h : B ≤ g) : Below B w (setAll w1 g o vs) := by
  induction vs generalizing w1 o with
  | nil => exact hb
  | cons v vs ih => exact ih (hb.setCell (p := ⟨g, o, none⟩) h v)

theorem BoxV.setAll {w : World} {N g o : Nat} {vs us : List Value} (h : BoxV w N vs) (hN : N ≠ g) : BoxV (setAll w g o us) N vs :=
  ⟨by rw [setAll_size]; exact h.1, fun i v hv => by rw [setAll_other _ _ _ _ _ _ (.inl hN), setAll_frozen]; exact h.2 i v hv⟩

/-- What is made so far of a row: the first k elements. -/
def MadeG (w : World) (g K n : Nat) (R : Nat → List Lf) (k : Nat) : Prop :=
  g < w.heap.size ∧ (∀ o, o < n * K → ∃ v, w.cell? ⟨g, o, none⟩ = some v) ∧ (∀ o, w.frozen? ⟨g, o, none⟩ = false) ∧
  ∃ (C : Nat → Nat → Value) (Sf : Nat → Nat → Nat → Prop), (∀ j i, j < k → i < K → w.cell? ⟨g, j * K + i, none⟩ = some (C j i)) ∧ (∀ j i x, j < k → (R j)[i]? = some x → Own w (C j i) x (Sf j i)) ∧
    (∀ j i y, Sf j i y → j < k ∧ g < y ∧ y < w.heap.size) ∧ (∀ j i j' i' y, (j ≠ j' ∨ i ≠ i') → Sf j i y → ¬ Sf j' i' y)
theorem MadeG.start (w : World) (zs : Array Value) (n K : Nat) (T : TypeId) (R : Nat → List Lf) : MadeG (w.alloc (.cells (madeCells zs (n * K)) T)) w.heap.size K n R 0 := by
  have hr := World.rowIs_alloc w (madeCells zs (n * K)) T (fun i => ((madeCells zs (n * K))[i]?).getD (.bool false)) (fun i hi => by rw [Array.getElem?_eq_getElem hi]; rfl)
  rw [size_madeCells] at hr
  exact ⟨hr.lt, fun o ho => ⟨_, hr.cell ho⟩, fun o => hr.frozen o, fun _ _ => .bool false, fun _ _ _ => False, fun j i hj => absurd hj (Nat.not_lt_zero _), fun j i x hj => absurd hj (Nat.not_lt_zero _), fun j i y h => h.elim, fun j i j' i' y _ h => h.elim⟩
theorem MadeG.next {w w1 : World} {g K n k : Nat} {R : Nat → List Lf} (m : MadeG w g K n R k) (hb : Below w.heap.size w w1) (hk : k < n) (vs : List Value) (hvs : vs.length = K) (Tf : Nat → Nat → Prop)
    (ho : ∀ i x, (R k)[i]? = some x → ∃ v, vs[i]? = some v ∧ Own w1 v x (Tf i)) (ht : ∀ i y, Tf i y → w.heap.size ≤ y ∧ y < w1.heap.size) (hd : ∀ i i' y, i ≠ i' → Tf i y → ¬ Tf i' y) :
    MadeG (setAll w1 g (k * K) vs) g K n R (k + 1) := by
  obtain ⟨hg, hex, hfz, C, Sf, hc, hv, hs, hdd⟩ := m
  have hex1 : ∀ o, o < n * K → ∃ v, w1.cell? ⟨g, o, none⟩ = some v := fun o h => by rw [hb.cell (p := ⟨g, o, none⟩) hg]; exact hex o h
  have hrow : ∀ j i, j < n → i < K → j * K + i < n * K := fun j i hj hi => by
    have := Nat.mul_le_mul_right K (show j + 1 ≤ n from hj)
    rw [Nat.add_mul] at this
    omega
  have hnew : ∀ i, i < vs.length → ∃ u, w1.cell? ⟨g, k * K + i, none⟩ = some u := fun i hi => hex1 _ (hrow k i hk (by omega))
  have hz := hb.size
  refine ⟨by rw [setAll_size]; omega, fun o h => ?_, fun o => by rw [setAll_frozen, hb.frozen (p := ⟨g, o, none⟩) hg]; exact hfz o, fun j i => if j = k then (vs[i]?).getD (.bool false) else C j i, fun j i => if j = k then Tf i else Sf j i, fun j i hj hi => ?_, fun j i x hj hx => ?_, fun j i y hy => ?_, fun j i j' i' y hne hy => ?_⟩
  · by_cases e : k * K ≤ o ∧ o < k * K + vs.length
    · obtain ⟨v, hv'⟩ : ∃ v, vs[o - k * K]? = some v := ⟨_, List.getElem?_eq_getElem (by omega)⟩
      have := setAll_at w1 g (k * K) vs (o - k * K) v hv' hnew
      rw [show k * K + (o - k * K) = o by omega] at this
      exact ⟨v, this⟩
    · rw [setAll_other _ _ _ _ _ _ (.inr (by omega))]
      exact hex1 o h
  · by_cases e : j = k
    · subst e
      simp only [if_true]
      obtain ⟨v, hv'⟩ : ∃ v, vs[i]? = some v := ⟨_, List.getElem?_eq_getElem (by omega)⟩
      rw [setAll_at w1 g (j * K) vs i v hv' hnew, hv']
      rfl
    · simp only [e, if_false]
      have hjk : j < k := by omega
      have := Nat.mul_le_mul_right K (show j + 1 ≤ k from hjk)
      rw [Nat.add_mul] at this
      rw [setAll_other _ _ _ _ _ _ (.inr (.inl (by omega))), hb.cell (p := ⟨g, _, none⟩) hg]
      exact hc j i hjk hi
  · have hkeep : ∀ u y S, Own w1 u y S → (∀ z, S z → z ≠ g) → Own (setAll w1 g (k * K) vs) u y S := fun u y S h hS =>
      h.keep (by rw [setAll_size]; exact Nat.le_refl _) (fun b o hb' _ => setAll_other _ _ _ _ _ _ (.inl (hS b hb'))) (fun b o _ _ => setAll_frozen _ _ _ _ _)
    by_cases e : j = k
    · subst e
      simp only [if_true]
      obtain ⟨v, hv', h1⟩ := ho i x hx
      rw [hv']
      exact hkeep _ _ _ h1 (fun z hz' e => by have := (ht i z hz').1; omega)
    · simp only [e, if_false]
      have hjk : j < k := by omega
      exact hkeep _ _ _ ((hv j i x hjk hx).next hb) (fun z hz' e => by have := (hs j i z hz').2.1; omega)
  · rw [setAll_size]
    by_cases e : j = k
    · subst e
      simp only [if_true] at hy
      have := ht i y hy
      omega
    · simp only [e, if_false] at hy
      have := hs j i y hy
      omega
  · by_cases e : j = k
    · by_cases e' : j' = k
      · subst e e'
        simp only [if_true] at hy ⊢
        exact hd i i' y (by omega) hy
      · simp only [e, e', if_true, if_false] at hy ⊢
        intro h2
        have h3 := hs j' i' y h2
        have h4 := ht i y hy
        omega
    · by_cases e' : j' = k
      · simp only [e, e', if_true, if_false] at hy ⊢
        intro h2
        have h3 := hs j i y hy
        have h4 := ht i' y h2
        omega
      · simp only [e, e', if_false] at hy ⊢
        exact hdd j i j' i' y hne hy
theorem MadeG.next0 {w w1 : World} {g K n k : Nat} {R : Nat → List Lf} (m : MadeG w g K n R k) (hb : Below w.heap.size w w1) : MadeG w1 g K n R k := by
  obtain ⟨hg, hex, hfz, C, Sf, hc, hv, hs, hdd⟩ := m
  exact ⟨Nat.lt_of_lt_of_le hg hb.size, fun o h => by rw [hb.cell (p := ⟨g, o, none⟩) hg]; exact hex o h, fun o => by rw [hb.frozen (p := ⟨g, o, none⟩) hg]; exact hfz o, C, Sf, fun j i hj hi => by rw [hb.cell (p := ⟨g, _, none⟩) hg]; exact hc j i hj hi, fun j i x hj hx => (hv j i x hj hx).next hb, fun j i y hy => ⟨(hs j i y hy).1, (hs j i y hy).2.1, Nat.lt_of_lt_of_le (hs j i y hy).2.2 hb.size⟩, hdd⟩
theorem MadeG.cell {w : World} {g K n k : Nat} {R : Nat → List Lf} (m : MadeG w g K n R k) (hk : k < n) (i : Nat) (hi : i < K) : ∃ v, w.cell? ⟨g, k * K + i, none⟩ = some v ∧ w.frozen? ⟨g, k * K + i, none⟩ = false := by
  obtain ⟨hg, hex, hfz, _⟩ := m
  have := Nat.mul_le_mul_right K (show k + 1 ≤ n from hk)
  rw [Nat.add_mul] at this
  obtain ⟨v, hv⟩ := hex (k * K + i) (by omega)
  exact ⟨v, hv, hfz _⟩
theorem MadeG.lt {w : World} {g K n k : Nat} {R : Nat → List Lf} (m : MadeG w g K n R k) : g < w.heap.size := m.1
theorem MadeG.done {w : World} {g K n : Nat} {rows : List (List Lf)} {R : Nat → List Lf} (m : MadeG w g K n R n) (hn : rows.length = n) (hm : n ≤ maxLen) (hK : ∀ r ∈ rows, r.length = K) (e : ∀ j (hj : j < rows.length), R j = rows[j]) : Own w (.slice (some ⟨g, 0, none⟩) n n) (.l rows) (IvG g w.heap.size) := by
  obtain ⟨hg, hex, hfz, C, Sf, hc, hv, hs, hdd⟩ := m
  subst hn
  refine RowG.own (R := R) (o := 0) (K := K) (C := C) (Sf := Sf) ⟨⟨Nat.le_refl _, hg⟩, hg, fun j hj => by rw [e j hj]; exact hK _ (List.getElem_mem hj), fun j i hj hi => ?_, fun j i x hj hx => hv j i x hj hx, fun j i y hy => ?_, hdd⟩ e (Nat.le_refl _) hm
  · rw [Nat.zero_add]
    exact ⟨hc j i hj hi, hfz _⟩
  · have := hs j i y hy
    exact ⟨⟨by omega, this.2.2⟩, by omega⟩
end Go.Proofs.Ytckhjemojopekaa
