/-
  Boxes of several cells, and rows that are made one by one.
  Rows of texts, none of them frozen.
  Slices of locks: what they hold, and that it stays.
  Views and rows of locks: one as the other.
  Slices of what is known: what they hold, and that it stays.
  Slices of things: what they hold, and that it stays.
  Views and rows of things: one as the other.
  Slices of numbers: what they hold, and that it stays.
  A view of numbers.
  A server in memory: its parts, and that it is small.
  A server of the call's own: each of its lists in blocks of its own.
  Out of many choices a list.
-/
import Derived.Test.YtcgljeagjchobaaGreatGenOwn
import Derived.WalkKit
import Derived.Test.YtcgljeagjchobaaGreatGenSrv
import Derived.Test.YtcgljeagjchobaaGreatTurn
import Derived.Test.YtcgljeagjchobaaGreatRows
import Derived.WalkSpells
import Derived.WalkLawsBesides
import Derived.Deep.Light
import Derived.Deep.QuietTactic
import Derived.Deep.OwnRows
import Derived.Below
namespace Go.Proofs.YtcgljeagjchobaaGreat
open Go.RowKit M
set_option linter.unusedVariables false

/-- The blocks from l on, before u. -/
def IvG (l u : Nat) : Nat → Prop := fun x => l ≤ x ∧ x < u
theorem Own.up {w : World} {v : Value} {x : Lf} {l u l' u' : Nat} (h : Own w v x (IvG l u)) (h1 : l' ≤ l) (h2 : u ≤ u') : Own w v x (IvG l' u') :=
  h.wide (fun y hy => ⟨Nat.le_trans h1 hy.1, Nat.lt_of_lt_of_le hy.2 h2⟩)
theorem Own.vw {w : World} {v : Value} {x : Lf} {l u B : Nat} (h : Own w v x (IvG l u)) (hB : u ≤ B) : View w B v x := h.view (fun y hy => Nat.lt_of_lt_of_le hy.2 hB)
theorem View.turn {w w' : World} {v : Value} {x : Lf} {B : Nat} {S : Nat → Prop} (h : View w B v x) (t : Turn S w w') (hS : ∀ y, S y → B ≤ y) (hB : B ≤ w.heap.size) : View w' B v x :=
  h.stays (t.below hS hB) (Nat.le_refl _)
theorem bcellG {B : Nat} {W w1 : World} (hb : Below B W w1) : (∀ b o, b < B → w1.cell? ⟨b, o, none⟩ = W.cell? ⟨b, o, none⟩) ∧ (∀ b o, b < B → w1.frozen? ⟨b, o, none⟩ = W.frozen? ⟨b, o, none⟩) :=
  ⟨fun b o h => hb.cell (p := ⟨b, o, none⟩) h, fun b o h => hb.frozen (p := ⟨b, o, none⟩) h⟩
theorem below_drewG {w w' : World} {n : Nat} (hb : Below n w w') : Below n w w'.drew := ⟨hb.1, hb.2, hb.3, hb.4, hb.5⟩
theorem retG {a b : Bool} (h : a = b) : (Ending.returned (.bool a) : Ending) = .returned (.bool b) := by rw [h]

/-- A box: its cells. -/
def BoxV (w : World) (N : Nat) (vs : List Value) : Prop := N < w.heap.size ∧ ∀ i v, vs[i]? = some v → w.cell? ⟨N, i, none⟩ = some v ∧ w.frozen? ⟨N, i, none⟩ = false
theorem BoxV.made (w : World) (vs : List Value) (t : TypeId) : BoxV (w.alloc (Obj.cells vs.toArray t)) w.heap.size vs := by
  have hr := World.rowIs_alloc w vs.toArray t (fun i => (vs[i]?).getD (.bool false)) (fun i hi => by
    have hi' : i < vs.length := by simpa using hi
    simp [List.getElem?_eq_getElem hi'])
  refine ⟨hr.lt, fun i v hv => ?_⟩
  have hi := (List.getElem?_eq_some_iff.1 hv).1
  exact ⟨by rw [hr.cell (by simpa using hi), hv]; rfl, hr.frozen i⟩
theorem BoxV.next {w w' : World} {N : Nat} {vs : List Value} (h : BoxV w N vs) (hb : Below w.heap.size w w') : BoxV w' N vs :=
  ⟨Nat.lt_of_lt_of_le h.1 hb.size, fun i v hv => by rw [hb.cell (p := ⟨N, i, none⟩) h.1, hb.frozen (p := ⟨N, i, none⟩) h.1]; exact h.2 i v hv⟩
theorem BoxV.turn {w w' : World} {N : Nat} {vs : List Value} {S : Nat → Prop} (h : BoxV w N vs) (t : Turn S w w') (hN : ¬ S N) : BoxV w' N vs :=
  ⟨Nat.lt_of_lt_of_le h.1 t.size, fun i v hv => by rw [t.cell h.1 hN, t.frozen h.1 hN]; exact h.2 i v hv⟩
theorem BoxV.alloc {w : World} {N : Nat} {vs : List Value} (h : BoxV w N vs) (o : Obj) : BoxV (w.alloc o) N vs := h.next ((Below.refl _ _).alloc (Nat.le_refl _) o)
theorem BoxV.drew {w : World} {N : Nat} {vs : List Value} (h : BoxV w N vs) : BoxV w.drew N vs := h.next (below_drewG (Below.refl _ _))
theorem BoxV.set {w : World} {N : Nat} {vs : List Value} (h : BoxV w N vs) (i : Nat) (hi : i < vs.length) (v : Value) : BoxV (w.setCell ⟨N, i, none⟩ v) N (vs.set i v) := by
  refine ⟨by simpa using h.1, fun j u hu => ?_⟩
  rw [World.frozen?_setCell]
  by_cases e : j = i
  · subst e
    rw [List.getElem?_set_self hi] at hu
    cases hu
    exact ⟨World.cell?_setCell_same _ _ _ (h.2 j _ (List.getElem?_eq_getElem hi)).1, (h.2 j _ (List.getElem?_eq_getElem hi)).2⟩
  · rw [List.getElem?_set_ne (fun e' => e e'.symm)] at hu
    exact ⟨(World.cell?_setCell_other _ _ _ _ (fun e' => e (congrArg Addr.off e').symm)).trans (h.2 j u hu).1, (h.2 j u hu).2⟩
theorem BoxV.other {w : World} {N : Nat} {vs : List Value} (h : BoxV w N vs) (p : Addr) (v : Value) (hp : p.block ≠ N) : BoxV (w.setCell p v) N vs :=
  ⟨by simpa using h.1, fun i u hu => by
    rw [World.frozen?_setCell, World.cell?_setCell_other _ _ _ _ (fun e => hp (congrArg Addr.block e))]
    exact h.2 i u hu⟩

/-- Some cells stored, one behind the other. -/
def setAll (w : World) (g o : Nat) : List Value → World
  | [] => w
  | v :: vs => setAll (w.setCell ⟨g, o, none⟩ v) g (o + 1) vs
theorem setAll_size (w : World) (g o : Nat) (vs : List Value) : (setAll w g o vs).heap.size = w.heap.size := by
  induction vs generalizing w o with
  | nil => rfl
  | cons v vs ih => show (setAll _ g (o + 1) vs).heap.size = _; rw [ih]; simp
theorem setAll_frozen (w : World) (g o : Nat) (vs : List Value) (p : Addr) : (setAll w g o vs).frozen? p = w.frozen? p := by
  induction vs generalizing w o with
  | nil => rfl
  | cons v vs ih => show (setAll _ g (o + 1) vs).frozen? p = _; rw [ih, World.frozen?_setCell]
theorem setAll_other (w : World) (g o : Nat) (vs : List Value) (b q : Nat) (h : b ≠ g ∨ q < o ∨ o + vs.length ≤ q) : (setAll w g o vs).cell? ⟨b, q, none⟩ = w.cell? ⟨b, q, none⟩ := by
  induction vs generalizing w o with
  | nil => rfl
  | cons v vs ih =>
    show (setAll _ g (o + 1) vs).cell? _ = _
    rw [List.length_cons] at h
    rw [ih _ _ (by omega)]
    refine World.cell?_setCell_other _ _ _ _ (fun e => ?_)
    have e1 := congrArg Addr.block e
    have e2 := congrArg Addr.off e
    simp only at e1 e2
    omega
theorem setAll_at (w : World) (g o : Nat) (vs : List Value) (i : Nat) (v : Value) (hv : vs[i]? = some v) (h : ∀ i, i < vs.length → ∃ u, w.cell? ⟨g, o + i, none⟩ = some u) : (setAll w g o vs).cell? ⟨g, o + i, none⟩ = some v := by
  induction vs generalizing w o i with
  | nil => simp at hv
  | cons x vs ih =>
    show (setAll _ g (o + 1) vs).cell? _ = _
    cases i with
    | zero =>
      simp only [List.getElem?_cons_zero, Option.some.injEq] at hv
      subst hv
      rw [setAll_other _ _ _ _ _ _ (.inr (.inl (by omega)))]
      obtain ⟨u, hu⟩ := h 0 (by simp)
      exact World.cell?_setCell_same _ _ _ hu
    | succ i =>
      have := ih (w.setCell ⟨g, o, none⟩ x) (o + 1) i (by simpa using hv) (fun q hq => by
        obtain ⟨u, hu⟩ := h (q + 1) (by rw [List.length_cons]; omega)
        refine ⟨u, ?_⟩
        rw [World.cell?_setCell_other _ _ _ _ (fun e => by have := congrArg Addr.off e; simp at this; omega)]
        rw [show o + 1 + q = o + (q + 1) by omega]
        exact hu)
      rw [show o + (i + 1) = o + 1 + i by omega]
      exact this
theorem setAll_block (w : World) (g o : Nat) (vs : List Value) (b : Nat) (h : b ≠ g) : (setAll w g o vs).heap[b]? = w.heap[b]? := by
  induction vs generalizing w o with
  | nil => rfl
  | cons v vs ih =>
    show (setAll _ g (o + 1) vs).heap[b]? = _
    rw [ih]
    exact Below.heap_setCell _ _ _ _ h
theorem setAll_below {w w1 : World} {g o B : Nat} (vs : List Value) (hb : Below B w w1) (h : B ≤ g) : Below B w (setAll w1 g o vs) := by
  induction vs generalizing w1 o with
  | nil => exact hb
  | cons v vs ih => exact ih (hb.setCell (p := ⟨g, o, none⟩) h v)

theorem BoxV.setAll {w : World} {N g o : Nat} {vs us : List Value} (h : BoxV w N vs) (hN : N ≠ g) : BoxV (setAll w g o us) N vs :=
  ⟨by rw [setAll_size]; exact h.1, fun i v hv => by rw [setAll_other _ _ _ _ _ _ (.inl hN), setAll_frozen]; exact h.2 i v hv⟩

/-- What is made so far of a row: the first k elements. -/
def MadeG (w : World) (g K n : Nat) (R : Nat → List Lf) (k : Nat) : Prop :=
  g < w.heap.size ∧ (∀ o, o < n * K → ∃ v, w.cell? ⟨g, o, none⟩ = some v) ∧ (∀ o, w.frozen? ⟨g, o, none⟩ = false) ∧
  ∃ (C : Nat → Nat → Value) (Sf : Nat → Nat → Nat → Prop), (∀ j i, j < k → i < K → w.cell? ⟨g, j * K + i, none⟩ = some (C j i)) ∧ (∀ j i x, j < k → (R j)[i]? = some x → Own w (C j i) x (Sf j i)) ∧
    (∀ j i y, Sf j i y → j < k ∧ g < y ∧ y < w.heap.size) ∧ (∀ j i j' i' y, (j ≠ j' ∨ i ≠ i') → Sf j i y → ¬ Sf j' i' y)
theorem MadeG.start (w : World) (zs : Array Value) (n K : Nat) (T : TypeId) (R : Nat → List Lf) : MadeG (w.alloc (.cells (madeCells zs (n * K)) T)) w.heap.size K n R 0 := by
  have hr := World.rowIs_alloc w (madeCells zs (n * K)) T (fun i => ((madeCells zs (n * K))[i]?).getD (.bool false)) (fun i hi => by rw [Array.getElem?_eq_getElem hi]; rfl)
  rw [size_madeCells] at hr
  exact ⟨hr.lt, fun o ho => ⟨_, hr.cell ho⟩, fun o => hr.frozen o, fun _ _ => .bool false, fun _ _ _ => False, fun j i hj => absurd hj (Nat.not_lt_zero _), fun j i x hj => absurd hj (Nat.not_lt_zero _), fun j i y h => h.elim, fun j i j' i' y _ h => h.elim⟩
theorem MadeG.next {w w1 : World} {g K n k : Nat} {R : Nat → List Lf} (m : MadeG w g K n R k) (hb : Below w.heap.size w w1) (hk : k < n) (vs : List Value) (hvs : vs.length = K) (Tf : Nat → Nat → Prop)
    (ho : ∀ i x, (R k)[i]? = some x → ∃ v, vs[i]? = some v ∧ Own w1 v x (Tf i)) (ht : ∀ i y, Tf i y → w.heap.size ≤ y ∧ y < w1.heap.size) (hd : ∀ i i' y, i ≠ i' → Tf i y → ¬ Tf i' y) :
    MadeG (setAll w1 g (k * K) vs) g K n R (k + 1) := by
  obtain ⟨hg, hex, hfz, C, Sf, hc, hv, hs, hdd⟩ := m
  have hex1 : ∀ o, o < n * K → ∃ v, w1.cell? ⟨g, o, none⟩ = some v := fun o h => by rw [hb.cell (p := ⟨g, o, none⟩) hg]; exact hex o h
  have hrow : ∀ j i, j < n → i < K → j * K + i < n * K := fun j i hj hi => by
    have := Nat.mul_le_mul_right K (show j + 1 ≤ n from hj)
    rw [Nat.add_mul] at this
    omega
  have hnew : ∀ i, i < vs.length → ∃ u, w1.cell? ⟨g, k * K + i, none⟩ = some u := fun i hi => hex1 _ (hrow k i hk (by omega))
  have hz := hb.size
  refine ⟨by rw [setAll_size]; omega, fun o h => ?_, fun o => by rw [setAll_frozen, hb.frozen (p := ⟨g, o, none⟩) hg]; exact hfz o, fun j i => if j = k then (vs[i]?).getD (.bool false) else C j i, fun j i => if j = k then Tf i else Sf j i, fun j i hj hi => ?_, fun j i x hj hx => ?_, fun j i y hy => ?_, fun j i j' i' y hne hy => ?_⟩
  · by_cases e : k * K ≤ o ∧ o < k * K + vs.length
    · obtain ⟨v, hv'⟩ : ∃ v, vs[o - k * K]? = some v := ⟨_, List.getElem?_eq_getElem (by omega)⟩
      have := setAll_at w1 g (k * K) vs (o - k * K) v hv' hnew
      rw [show k * K + (o - k * K) = o by omega] at this
      exact ⟨v, this⟩
    · rw [setAll_other _ _ _ _ _ _ (.inr (by omega))]
      exact hex1 o h
  · by_cases e : j = k
    · subst e
      simp only [if_true]
      obtain ⟨v, hv'⟩ : ∃ v, vs[i]? = some v := ⟨_, List.getElem?_eq_getElem (by omega)⟩
      rw [setAll_at w1 g (j * K) vs i v hv' hnew, hv']
      rfl
    · simp only [e, if_false]
      have hjk : j < k := by omega
      have := Nat.mul_le_mul_right K (show j + 1 ≤ k from hjk)
      rw [Nat.add_mul] at this
      rw [setAll_other _ _ _ _ _ _ (.inr (.inl (by omega))), hb.cell (p := ⟨g, _, none⟩) hg]
      exact hc j i hjk hi
  · have hkeep : ∀ u y S, Own w1 u y S → (∀ z, S z → z ≠ g) → Own (setAll w1 g (k * K) vs) u y S := fun u y S h hS =>
      h.keep (by rw [setAll_size]; exact Nat.le_refl _) (fun b o hb' _ => setAll_other _ _ _ _ _ _ (.inl (hS b hb'))) (fun b o _ _ => setAll_frozen _ _ _ _ _)
    by_cases e : j = k
    · subst e
      simp only [if_true]
      obtain ⟨v, hv', h1⟩ := ho i x hx
      rw [hv']
      exact hkeep _ _ _ h1 (fun z hz' e => by have := (ht i z hz').1; omega)
    · simp only [e, if_false]
      have hjk : j < k := by omega
      exact hkeep _ _ _ ((hv j i x hjk hx).next hb) (fun z hz' e => by have := (hs j i z hz').2.1; omega)
  · rw [setAll_size]
    by_cases e : j = k
    · subst e
      simp only [if_true] at hy
      have := ht i y hy
      omega
    · simp only [e, if_false] at hy
      have := hs j i y hy
      omega
  · by_cases e : j = k
    · by_cases e' : j' = k
      · subst e e'
        simp only [if_true] at hy ⊢
        exact hd i i' y (by omega) hy
      · simp only [e, e', if_true, if_false] at hy ⊢
        intro h2
        have h3 := hs j' i' y h2
        have h4 := ht i y hy
        omega
    · by_cases e' : j' = k
      · simp only [e, e', if_true, if_false] at hy ⊢
        intro h2
        have h3 := hs j i y hy
        have h4 := ht i' y h2
        omega
      · simp only [e, e', if_false] at hy ⊢
        exact hdd j i j' i' y hne hy
theorem MadeG.next0 {w w1 : World} {g K n k : Nat} {R : Nat → List Lf} (m : MadeG w g K n R k) (hb : Below w.heap.size w w1) : MadeG w1 g K n R k := by
  obtain ⟨hg, hex, hfz, C, Sf, hc, hv, hs, hdd⟩ := m
  exact ⟨Nat.lt_of_lt_of_le hg hb.size, fun o h => by rw [hb.cell (p := ⟨g, o, none⟩) hg]; exact hex o h, fun o => by rw [hb.frozen (p := ⟨g, o, none⟩) hg]; exact hfz o, C, Sf, fun j i hj hi => by rw [hb.cell (p := ⟨g, _, none⟩) hg]; exact hc j i hj hi, fun j i x hj hx => (hv j i x hj hx).next hb, fun j i y hy => ⟨(hs j i y hy).1, (hs j i y hy).2.1, Nat.lt_of_lt_of_le (hs j i y hy).2.2 hb.size⟩, hdd⟩
theorem MadeG.cell {w : World} {g K n k : Nat} {R : Nat → List Lf} (m : MadeG w g K n R k) (hk : k < n) (i : Nat) (hi : i < K) : ∃ v, w.cell? ⟨g, k * K + i, none⟩ = some v ∧ w.frozen? ⟨g, k * K + i, none⟩ = false := by
  obtain ⟨hg, hex, hfz, _⟩ := m
  have := Nat.mul_le_mul_right K (show k + 1 ≤ n from hk)
  rw [Nat.add_mul] at this
  obtain ⟨v, hv⟩ := hex (k * K + i) (by omega)
  exact ⟨v, hv, hfz _⟩
theorem MadeG.lt {w : World} {g K n k : Nat} {R : Nat → List Lf} (m : MadeG w g K n R k) : g < w.heap.size := m.1
theorem MadeG.done {w : World} {g K n : Nat} {rows : List (List Lf)} {R : Nat → List Lf} (m : MadeG w g K n R n) (hn : rows.length = n) (hm : n ≤ maxLen) (hK : ∀ r ∈ rows, r.length = K) (e : ∀ j (hj : j < rows.length), R j = rows[j]) : Own w (.slice (some ⟨g, 0, none⟩) n n) (.l rows) (IvG g w.heap.size) := by
  obtain ⟨hg, hex, hfz, C, Sf, hc, hv, hs, hdd⟩ := m
  subst hn
  refine RowG.own (R := R) (o := 0) (K := K) (C := C) (Sf := Sf) ⟨⟨Nat.le_refl _, hg⟩, hg, fun j hj => by rw [e j hj]; exact hK _ (List.getElem_mem hj), fun j i hj hi => ?_, fun j i x hj hx => hv j i x hj hx, fun j i y hy => ?_, hdd⟩ e (Nat.le_refl _) hm
  · rw [Nat.zero_add]
    exact ⟨hc j i hj hi, hfz _⟩
  · have := hs j i y hy
    exact ⟨⟨by omega, this.2.2⟩, by omega⟩
end Go.Proofs.YtcgljeagjchobaaGreat
namespace Go.Proofs.YtcgljeagjchobaaGreat
open Go.RowKit
set_option linter.unusedVariables false

/-- A row of n texts in block g, none of them frozen. -/
def RowS (w : World) (g : Nat) (ms : List ByteArray) : Prop := g < w.heap.size ∧ ∀ j (hj : j < ms.length), w.cell? ⟨g, j, none⟩ = some (.string ms[j]) ∧ w.frozen? ⟨g, j, none⟩ = false
theorem RowS.below {w w' : World} {g : Nat} {ms : List ByteArray} (h : RowS w g ms) (hb : Below w.heap.size w w') : RowS w' g ms := by
  refine ⟨Nat.lt_of_lt_of_le h.1 hb.size, fun j hj => ?_⟩
  rw [hb.cell (p := ⟨g, j, none⟩) h.1, hb.frozen (p := ⟨g, j, none⟩) h.1]
  exact h.2 j hj
theorem RowS.set {w : World} {g : Nat} {ms : List ByteArray} (h : RowS w g ms) (k : Nat) (hk : k < ms.length) (x : ByteArray) : RowS (w.setCell ⟨g, k, none⟩ (.string x)) g (ms.set k x) := by
  refine ⟨by simpa using h.1, fun j hj => ?_⟩
  have hj' : j < ms.length := by simpa using hj
  refine ⟨?_, by rw [World.frozen?_setCell]; exact (h.2 j hj').2⟩
  by_cases e : k = j
  · subst e
    rw [World.cell?_setCell_same _ _ _ (h.2 k hk).1]
    simp
  · have hne : (⟨g, k, none⟩ : Addr) ≠ ⟨g, j, none⟩ := fun e' => e (congrArg Addr.off e')
    rw [World.cell?_setCell_other _ _ _ _ hne, (h.2 j hj').1]
    simp [e]

theorem RowS.row {w : World} {N n : Nat} {ss : List ByteArray} {f : Nat → Value} (h : w.rowIs N 9 n f) (hn : ss.length ≤ n) (hf : ∀ j (hj : j < ss.length), f j = .string ss[j]) : RowS w N ss :=
  ⟨h.lt, fun j hj => ⟨by rw [h.cell (by omega), hf j hj], h.frozen j⟩⟩
theorem RowS.strs' {w : World} {g C : Nat} {ns : List ByteArray} (h : RowS w g ns) (hC : g < C) : Strs w C (some ⟨g, 0, none⟩) ns := fun _ =>
  ⟨g, 0, rfl, hC, fun j hj => by rw [Nat.zero_add]; exact (h.2 j hj).1⟩
end Go.Proofs.YtcgljeagjchobaaGreat
namespace Go.Proofs.YtcgljeagjchobaaGreat
open Go.RowKit M
set_option linter.unusedVariables false

theorem bcellL {B : Nat} {W w1 : World} (hb : Below B W w1) : (∀ b o, b < B → w1.cell? ⟨b, o, none⟩ = W.cell? ⟨b, o, none⟩) ∧ (∀ b o, b < B → w1.frozen? ⟨b, o, none⟩ = W.frozen? ⟨b, o, none⟩) :=
  ⟨fun b o h => hb.cell (p := ⟨b, o, none⟩) h, fun b o h => hb.frozen (p := ⟨b, o, none⟩) h⟩
theorem below_drewL {w w' : World} {n : Nat} (hb : Below n w w') : Below n w w'.drew := ⟨hb.1, hb.2, hb.3, hb.4, hb.5⟩

/-- A lock at a place: its five cells. -/
def LkAt (w : World) (b o : Nat) (r : Lk) (pa : Option Addr) (pc : Nat) : Prop :=
  w.cell? ⟨b, o, none⟩ = some (.int .i64 r.tk) ∧ w.cell? ⟨b, o + 1, none⟩ = some (.slice pa r.pa.length pc) ∧ w.cell? ⟨b, o + 2, none⟩ = some (.bool r.de) ∧ w.cell? ⟨b, o + 3, none⟩ = some (.bool r.sh) ∧ w.cell? ⟨b, o + 4, none⟩ = some (.int .i64 r.un)
/-- What its slice holds, in a block below B. -/
structure LkIn (w : World) (B : Nat) (r : Lk) (pa : Option Addr) (pc : Nat) : Prop where
  ph : Strs w B pa r.pa
  pl : r.pa.length ≤ pc
  pm : pc ≤ maxLen
  pn : pa = none → pc = 0
/-- What a slice of locks holds, in blocks below B. -/
def Lks (w : World) (B : Nat) (a : Option Addr) (rs : List Lk) : Prop :=
  0 < rs.length → ∃ b o, a = some ⟨b, o, none⟩ ∧ b < B ∧ ∀ j (hj : j < rs.length), ∃ pa pc, LkAt w b (o + j * 5) rs[j] pa pc ∧ LkIn w B rs[j] pa pc

theorem LkAt.of {w w' : World} {b o : Nat} {r : Lk} {pa : Option Addr} {pc : Nat} (h : LkAt w b o r pa pc) (e : ∀ o', w'.cell? ⟨b, o', none⟩ = w.cell? ⟨b, o', none⟩) : LkAt w' b o r pa pc := by
  unfold LkAt at *
  simp only [e]
  exact h
theorem Strs.ofL {w w' : World} {B : Nat} {a : Option Addr} {ss : List ByteArray} (h : Strs w B a ss) (e : ∀ b o, b < B → w'.cell? ⟨b, o, none⟩ = w.cell? ⟨b, o, none⟩) : Strs w' B a ss := fun h0 => by
  obtain ⟨b, o, ea, hb, hc⟩ := h h0
  exact ⟨b, o, ea, hb, fun j hj => (e b _ hb).trans (hc j hj)⟩
theorem LkIn.of {w w' : World} {B : Nat} {r : Lk} {pa : Option Addr} {pc : Nat} (h : LkIn w B r pa pc) (e : ∀ b o, b < B → w'.cell? ⟨b, o, none⟩ = w.cell? ⟨b, o, none⟩) : LkIn w' B r pa pc :=
  ⟨h.ph.ofL e, h.pl, h.pm, h.pn⟩
theorem LkIn.mono {w : World} {B C : Nat} {r : Lk} {pa : Option Addr} {pc : Nat} (h : LkIn w B r pa pc) (hB : B ≤ C) : LkIn w C r pa pc :=
  ⟨h.ph.mono hB, h.pl, h.pm, h.pn⟩
theorem LkIn.below {w w' : World} {B C : Nat} {r : Lk} {pa : Option Addr} {pc : Nat} (h : LkIn w B r pa pc) (hb : Below C w w') (hB : B ≤ C) : LkIn w' B r pa pc :=
  h.of (fun b o hbB => hb.cell (p := ⟨b, o, none⟩) (Nat.lt_of_lt_of_le hbB hB))
theorem LkIn.len {w : World} {B : Nat} {r : Lk} {pa : Option Addr} {pc : Nat} (h : LkIn w B r pa pc) : r.pa.length ≤ maxLen := Nat.le_trans h.pl h.pm
theorem Lks.of {w w' : World} {B : Nat} {a : Option Addr} {rs : List Lk} (h : Lks w B a rs) (e : ∀ b o, b < B → w'.cell? ⟨b, o, none⟩ = w.cell? ⟨b, o, none⟩) : Lks w' B a rs := fun h0 => by
  obtain ⟨b, o, ea, hb, hc⟩ := h h0
  refine ⟨b, o, ea, hb, fun j hj => ?_⟩
  obtain ⟨pa, pc, h1, h2⟩ := hc j hj
  exact ⟨pa, pc, h1.of (fun o' => e b o' hb), h2.of e⟩
theorem Lks.below {w w' : World} {B C : Nat} {a : Option Addr} {rs : List Lk} (h : Lks w B a rs) (hb : Below C w w') (hB : B ≤ C) : Lks w' B a rs :=
  h.of (fun b o hbB => hb.cell (p := ⟨b, o, none⟩) (Nat.lt_of_lt_of_le hbB hB))
theorem Lks.mono {w : World} {B C : Nat} {a : Option Addr} {rs : List Lk} (h : Lks w B a rs) (hB : B ≤ C) : Lks w C a rs := fun h0 => by
  obtain ⟨b, o, e, hbB, hc⟩ := h h0
  refine ⟨b, o, e, Nat.lt_of_lt_of_le hbB hB, fun j hj => ?_⟩
  obtain ⟨pa, pc, h1, h2⟩ := hc j hj
  exact ⟨pa, pc, h1, h2.mono hB⟩
theorem Lks.nil (w : World) (B : Nat) (a : Option Addr) : Lks w B a [] := fun h => absurd h (Nat.lt_irrefl _)
theorem Lks.drew {w : World} {B : Nat} {a : Option Addr} {rs : List Lk} (h : Lks w B a rs) : Lks w.drew B a rs := h.of (fun _ _ _ => rfl)
theorem Lks.take {w : World} {B : Nat} {a : Option Addr} {rs : List Lk} (h : Lks w B a rs) (k : Nat) : Lks w B a (rs.take k) := fun h0 => by
  have hl : (rs.take k).length ≤ rs.length := by rw [List.length_take]; omega
  obtain ⟨b, o, e, hbB, hc⟩ := h (by omega)
  refine ⟨b, o, e, hbB, fun j hj => ?_⟩
  obtain ⟨pa, pc, h1, h2⟩ := hc j (by omega)
  rw [List.getElem_take]
  exact ⟨pa, pc, h1, h2⟩
theorem LkIn.drew {w : World} {B : Nat} {r : Lk} {pa : Option Addr} {pc : Nat} (h : LkIn w B r pa pc) : LkIn w.drew B r pa pc := h.of (fun _ _ _ => rfl)

/-- Its path short enough. -/
structure ShortLk (r : Lk) : Prop where
  pl : r.pa.length ≤ maxLen
  ps : Short r.pa
def ShortK (rs : List Lk) : Prop := ∀ r ∈ rs, ShortLk r
theorem ShortK.at {rs : List Lk} (h : ShortK rs) (k : Nat) (hk : k < rs.length) : ShortLk rs[k] := h _ (List.getElem_mem hk)

/-- The value of a lock. -/
abbrev lkV (r : Lk) (pa : Option Addr) (pc : Nat) : Value := .agg #[.int .i64 r.tk, .slice pa r.pa.length pc, .bool r.de, .bool r.sh, .int .i64 r.un]

theorem RowS.setCellL {w : World} {g : Nat} {ms : List ByteArray} (h : RowS w g ms) (p : Addr) (v : Value) (hp : p.block ≠ g) : RowS (w.setCell p v) g ms := by
  refine ⟨by simpa using h.1, fun j hj => ⟨?_, ?_⟩⟩
  · rw [World.cell?_setCell_other _ _ _ _ (fun e => hp (congrArg Addr.block e))]; exact (h.2 j hj).1
  · rw [World.frozen?_setCell]; exact (h.2 j hj).2

/-- A row of locks that one call made: each path in a block of its own; all from lo on and below hi. -/
structure OwnL (w : World) (lo hi g : Nat) (rs : List Lk) (pb : Nat → Nat) : Prop where
  gl : lo ≤ g
  gh : g < hi
  gs : g < w.heap.size
  fz : ∀ i, w.frozen? ⟨g, i, none⟩ = false
  cl : ∀ j (hj : j < rs.length), ∃ pc, LkAt w g (j * 5) rs[j] (some ⟨pb j, 0, none⟩) pc ∧ rs[j].pa.length ≤ pc ∧ pc ≤ maxLen
  rp : ∀ j (hj : j < rs.length), RowS w (pb j) rs[j].pa
  bnd : ∀ j, j < rs.length → lo ≤ pb j ∧ pb j < hi ∧ pb j ≠ g
  ord : ∀ i j, i < j → j < rs.length → pb i ≠ pb j

theorem OwnL.of {w w' : World} {lo hi g : Nat} {rs : List Lk} {pb : Nat → Nat} (h : OwnL w lo hi g rs pb) (hz : w.heap.size ≤ w'.heap.size) (e : ∀ b o, lo ≤ b → b < hi → b < w.heap.size → w'.cell? ⟨b, o, none⟩ = w.cell? ⟨b, o, none⟩) (f : ∀ b o, lo ≤ b → b < hi → b < w.heap.size → w'.frozen? ⟨b, o, none⟩ = w.frozen? ⟨b, o, none⟩) : OwnL w' lo hi g rs pb := by
  refine ⟨h.gl, h.gh, Nat.lt_of_lt_of_le h.gs hz, fun i => by rw [f g i h.gl h.gh h.gs]; exact h.fz i, fun j hj => ?_, fun j hj => ?_, h.bnd, h.ord⟩
  · obtain ⟨pc, h1, h2⟩ := h.cl j hj
    exact ⟨pc, h1.of (fun o' => e g o' h.gl h.gh h.gs), h2⟩
  · obtain ⟨b1, b2, b3⟩ := h.bnd j hj
    have hp := (h.rp j hj).1
    refine ⟨Nat.lt_of_lt_of_le hp hz, fun i hi => ?_⟩
    rw [e _ _ b1 (by omega) hp, f _ _ b1 (by omega) hp]
    exact (h.rp j hj).2 i hi
theorem OwnL.below {w w' : World} {lo hi g : Nat} {rs : List Lk} {pb : Nat → Nat} (h : OwnL w lo hi g rs pb) (hb : Below w.heap.size w w') : OwnL w' lo hi g rs pb :=
  h.of hb.size (fun b o _ _ hz => hb.cell (p := ⟨b, o, none⟩) hz) (fun b o _ _ hz => hb.frozen (p := ⟨b, o, none⟩) hz)
theorem OwnL.lks {w : World} {lo hi g C : Nat} {rs : List Lk} {pb : Nat → Nat} (h : OwnL w lo hi g rs pb) (hC : hi ≤ C) : Lks w C (some ⟨g, 0, none⟩) rs := fun _ => by
  refine ⟨g, 0, rfl, Nat.lt_of_lt_of_le h.gh hC, fun j hj => ?_⟩
  obtain ⟨b1, b2, b3⟩ := h.bnd j hj
  obtain ⟨pc, h1, h2, h3⟩ := h.cl j hj
  exact ⟨_, pc, by rw [Nat.zero_add]; exact h1, ⟨(h.rp j hj).strs' (by omega), h2, h3, fun e => by cases e⟩⟩
theorem OwnL.nil (w : World) (lo hi g : Nat) (hl : lo ≤ g) (hh : g < hi) (hs : g < w.heap.size) (fz : ∀ i, w.frozen? ⟨g, i, none⟩ = false) : OwnL w lo hi g [] (fun _ => 0) :=
  ⟨hl, hh, hs, fz, fun j hj => absurd hj (Nat.not_lt_zero _), fun j hj => absurd hj (Nat.not_lt_zero _), fun j hj => absurd hj (Nat.not_lt_zero _), fun i j _ hj => absurd hj (Nat.not_lt_zero _)⟩
theorem OwnL.wide {w : World} {lo hi g lo' hi' : Nat} {rs : List Lk} {pb : Nat → Nat} (h : OwnL w lo hi g rs pb) (h1 : lo' ≤ lo) (h2 : hi ≤ hi') : OwnL w lo' hi' g rs pb :=
  ⟨Nat.le_trans h1 h.gl, Nat.lt_of_lt_of_le h.gh h2, h.gs, h.fz, h.cl, h.rp, fun j hj => by obtain ⟨a, b, c⟩ := h.bnd j hj; exact ⟨by omega, by omega, c⟩, h.ord⟩

theorem info_lock : (Tryz.prog.info? 48).map (fun i => (i.zero, i.size, i.bytes)) = some (some (.agg #[.int .i64 0, .slice none 0 0, .bool false, .bool false, .int .i64 0]), 5, 48) := by kernel_rfl
end Go.Proofs.YtcgljeagjchobaaGreat
namespace Go.Proofs.YtcgljeagjchobaaGreat
open Go.RowKit M
set_option linter.unusedVariables false

theorem strs_of_view {w : World} {B : Nat} {v : Value} {l : List ByteArray} (h : View w B v (.l (l.map dS))) : ∃ a cap, v = .slice a l.length cap ∧ l.length ≤ cap ∧ cap ≤ maxLen ∧ (a = none → cap = 0) ∧ Strs w B a l := by
  obtain ⟨a, cap, h1, h2, h3, h4, h5⟩ := h.rows 1 (fun _ => rfl)
  refine ⟨a, cap, h1, h2, h3, h4, fun h0 => ?_⟩
  obtain ⟨b, o, C, e, hb, hc⟩ := h5 h0
  refine ⟨b, o, e, hb, fun j hj => ?_⟩
  obtain ⟨c, v⟩ := hc j hj 0 (.c (.string l[j])) rfl
  rw [v.inv] at c
  simpa using c
theorem view_of_strs {w : World} {B : Nat} {a : Option Addr} {cap : Nat} {l : List ByteArray} (h : Strs w B a l) (h1 : l.length ≤ cap) (h2 : cap ≤ maxLen) (h3 : a = none → cap = 0) : View w B (.slice a l.length cap) (.l (l.map dS)) := by
  by_cases h0 : 0 < l.length
  · obtain ⟨b, o, rfl, hb, hc⟩ := h h0
    have e : l.length = (l.map dS).length := (List.length_map ..).symm
    rw [e]
    refine .row b o cap 1 _ (fun j i => match l[j]? with | some s => .string s | none => .bool false) hb (by rw [← e]; exact h1) h2 (fun r hr => by obtain ⟨x, _, rfl⟩ := List.mem_map.1 hr; rfl) (fun j i x hx => ?_) (fun j i x hx => ?_)
    all_goals
      unfold cellAt at hx
      by_cases hj : j < l.length
      · rw [map_at dS l j hj] at hx
        match i with
        | 0 => cases hx; rw [List.getElem?_eq_getElem hj]; first | exact .c _ | (have := hc j hj; simpa using this)
        | i + 1 => cases hx
      · rw [List.getElem?_eq_none (by simp; omega)] at hx; cases hx
  · have : l = [] := List.eq_nil_of_length_eq_zero (by omega)
    subst this
    exact .nil a cap h3 h2
theorem lks_of_view {w : World} {B : Nat} {v : Value} {l : List Lk} (h : View w B v (.l (l.map dLk))) : ∃ a cap, v = .slice a l.length cap ∧ l.length ≤ cap ∧ cap ≤ maxLen ∧ (a = none → cap = 0) ∧ Lks w B a l := by
  obtain ⟨a, cap, h1, h2, h3, h4, h5⟩ := h.rows 5 (fun _ => rfl)
  refine ⟨a, cap, h1, h2, h3, h4, fun h0 => ?_⟩
  obtain ⟨b, o, C, e, hb, hc⟩ := h5 h0
  refine ⟨b, o, e, hb, fun j hj => ?_⟩
  obtain ⟨c0, v0⟩ := hc j hj 0 (.c (.int .i64 l[j].tk)) rfl
  obtain ⟨c1, v1⟩ := hc j hj 1 (.l (l[j].pa.map dS)) rfl
  obtain ⟨c2, v2⟩ := hc j hj 2 (.c (.bool l[j].de)) rfl
  obtain ⟨c3, v3⟩ := hc j hj 3 (.c (.bool l[j].sh)) rfl
  obtain ⟨c4, v4⟩ := hc j hj 4 (.c (.int .i64 l[j].un)) rfl
  obtain ⟨pa, pc, e1, p1, p2, p3, p4⟩ := strs_of_view v1
  rw [v0.inv] at c0
  rw [e1] at c1
  rw [v2.inv] at c2
  rw [v3.inv] at c3
  rw [v4.inv] at c4
  exact ⟨pa, pc, ⟨c0, c1, c2, c3, c4⟩, ⟨p4, p1, p2, p3⟩⟩
def lkVal (r : Lk) (pv : Value) (i : Nat) : Value := (([.int .i64 r.tk, pv, .bool r.de, .bool r.sh, .int .i64 r.un] : List Value)[i]?).getD (.bool false)
theorem view_of_lks {w : World} {B : Nat} {a : Option Addr} {cap : Nat} {l : List Lk} (h : Lks w B a l) (h1 : l.length ≤ cap) (h2 : cap ≤ maxLen) (h3 : a = none → cap = 0) : View w B (.slice a l.length cap) (.l (l.map dLk)) := by
  by_cases h0 : 0 < l.length
  · obtain ⟨b, o, rfl, hb, hc⟩ := h h0
    have each : ∀ j, ∃ pv : Value, ∀ hj : j < l.length, (∀ i v, i < 5 → lkVal l[j] pv i = v → w.cell? ⟨b, o + j * 5 + i, none⟩ = some v) ∧ View w B pv (.l (l[j].pa.map dS)) := fun j => by
      by_cases hj : j < l.length
      · obtain ⟨pa, pc, ⟨c0, c1, c2, c3, c4⟩, p⟩ := hc j hj
        refine ⟨.slice pa l[j].pa.length pc, fun _ => ⟨fun i v hi hv => ?_, view_of_strs p.ph p.pl p.pm p.pn⟩⟩
        subst hv
        match i, hi with
        | 0, _ => exact c0
        | 1, _ => exact c1
        | 2, _ => exact c2
        | 3, _ => exact c3
        | 4, _ => exact c4
      · exact ⟨.bool false, fun h => absurd h hj⟩
    have e : l.length = (l.map dLk).length := (List.length_map ..).symm
    rw [e]
    refine .row b o cap 5 _ (fun j i => match l[j]? with | some r => lkVal r (Classical.choose (each j)) i | none => .bool false) hb (by rw [← e]; exact h1) h2 (fun r hr => by obtain ⟨x, _, rfl⟩ := List.mem_map.1 hr; rfl) (fun j i x hx => ?_) (fun j i x hx => ?_)
    · unfold cellAt at hx
      by_cases hj : j < l.length
      · rw [map_at dLk l j hj] at hx
        have hi : i < 5 := (List.getElem?_eq_some_iff.1 hx).1
        rw [List.getElem?_eq_getElem hj]
        exact (Classical.choose_spec (each j) hj).1 i _ hi rfl
      · rw [List.getElem?_eq_none (by simp; omega)] at hx; cases hx
    · unfold cellAt at hx
      by_cases hj : j < l.length
      · rw [map_at dLk l j hj] at hx
        rw [List.getElem?_eq_getElem hj]
        match i with
        | 0 => cases hx; exact .c _
        | 1 => cases hx; exact (Classical.choose_spec (each j) hj).2
        | 2 => cases hx; exact .c _
        | 3 => cases hx; exact .c _
        | 4 => cases hx; exact .c _
        | i + 5 => cases hx
      · rw [List.getElem?_eq_none (by simp; omega)] at hx; cases hx
  · have : l = [] := List.eq_nil_of_length_eq_zero (by omega)
    subst this
    exact .nil a cap h3 h2
theorem own_of_rowS {w : World} {p c : Nat} {l : List ByteArray} (h : RowS w p l) (h1 : l.length ≤ c) (h2 : c ≤ maxLen) : Own w (.slice (some ⟨p, 0, none⟩) l.length c) (.l (l.map dS)) (fun y => y = p) := by
  have e : l.length = (l.map dS).length := (List.length_map ..).symm
  rw [e]
  refine RowG.own (R := rowsF dS l) (K := 1) (o := 0) (C := fun j i => .string ((l[j]?).getD ByteArray.empty)) (Sf := fun _ _ _ => False) ⟨rfl, h.1, fun j hj => by rw [rowsF_at l j (by simpa using hj)]; rfl, fun j i hj hi => ?_, fun j i x hj hx => ?_, fun j i y hy => hy.elim, fun j i j' i' y _ hy => hy.elim⟩ (fun j hj => by rw [rowsF_at l j (by simpa using hj)]; simp) (by rw [← e]; exact h1) h2
  · have hj' : j < l.length := by simpa using hj
    have hi0 : i = 0 := by omega
    subst hi0
    have := h.2 j hj'
    rw [List.getElem?_eq_getElem hj']
    simpa using this
  · have hj' : j < l.length := by simpa using hj
    rw [rowsF_at l j hj'] at hx
    match i with
    | 0 => cases hx; rw [List.getElem?_eq_getElem hj']; exact .c _ _
    | i + 1 => cases hx
theorem own_of_ownL {w : World} {lo hi g : Nat} {l : List Lk} {pb : Nat → Nat} (h : OwnL w lo hi g l pb) (hm : l.length ≤ maxLen) : Own w (.slice (some ⟨g, 0, none⟩) l.length l.length) (.l (l.map dLk)) (IvG lo hi) := by
  have each : ∀ j, ∃ pc : Nat, ∀ hj : j < l.length, LkAt w g (j * 5) l[j] (some ⟨pb j, 0, none⟩) pc ∧ l[j].pa.length ≤ pc ∧ pc ≤ maxLen := fun j => by
    by_cases hj : j < l.length
    · obtain ⟨pc, h1⟩ := h.cl j hj; exact ⟨pc, fun _ => h1⟩
    · exact ⟨0, fun h => absurd h hj⟩
  have e : l.length = (l.map dLk).length := (List.length_map ..).symm
  rw [e]
  refine RowG.own (R := rowsF dLk l) (K := 5) (o := 0) (C := fun j i => match l[j]? with | some r => lkVal r (.slice (some ⟨pb j, 0, none⟩) r.pa.length (Classical.choose (each j))) i | none => .bool false) (Sf := fun j i y => j < l.length ∧ i = 1 ∧ y = pb j) ⟨⟨h.gl, h.gh⟩, h.gs, fun j hj => by rw [rowsF_at l j (by simpa using hj)]; rfl, fun j i hj hi => ?_, fun j i x hj hx => ?_, fun j i y hy => ?_, fun j i j' i' y hne hy hy' => ?_⟩ (fun j hj => by rw [rowsF_at l j (by simpa using hj)]; simp) (by rw [← e]; exact Nat.le_refl _) (by rw [← e]; exact hm)
  · have hj' : j < l.length := by simpa using hj
    obtain ⟨⟨c0, c1, c2, c3, c4⟩, _⟩ := Classical.choose_spec (each j) hj'
    rw [List.getElem?_eq_getElem hj', Nat.zero_add]
    refine ⟨?_, h.fz _⟩
    match i, hi with
    | 0, _ => exact c0
    | 1, _ => exact c1
    | 2, _ => exact c2
    | 3, _ => exact c3
    | 4, _ => exact c4
  · have hj' : j < l.length := by simpa using hj
    rw [rowsF_at l j hj'] at hx
    rw [List.getElem?_eq_getElem hj']
    match i with
    | 0 => cases hx; exact .c _ _
    | 1 => cases hx; exact (own_of_rowS (h.rp j hj') (Classical.choose_spec (each j) hj').2.1 (Classical.choose_spec (each j) hj').2.2).wide (fun y hy => ⟨hj', rfl, hy⟩)
    | 2 => cases hx; exact .c _ _
    | 3 => cases hx; exact .c _ _
    | 4 => cases hx; exact .c _ _
    | i + 5 => cases hx
  · obtain ⟨hj, _, rfl⟩ := hy
    obtain ⟨b1, b2, b3⟩ := h.bnd j hj
    exact ⟨⟨b1, b2⟩, b3⟩
  · obtain ⟨hj, h1, e1⟩ := hy
    obtain ⟨hj2, h2, e2⟩ := hy'
    rcases Nat.lt_trichotomy j j' with hh | hh | hh
    · exact h.ord j j' hh hj2 (by rw [← e1, ← e2])
    · omega
    · exact h.ord j' j hh hj (by rw [← e1, ← e2])
/-- What the sizes say. -/
theorem sz_dLk (r : Lk) : szR (dLk r) = r.pa.length + sumS r.pa := by
  have hs : ∀ l : List ByteArray, szRs (l.map dS) = l.length + sumS l := fun l => by
    induction l with
    | nil => simp [szRs, sumS]
    | cons x l ih => rw [List.map_cons, szRs_cons, ih]; simp [dS, szR, szF, szV, sumS]; omega
  simp [dLk, szR, szF, szV, hs]
theorem lk_small {l : List Lk} {N : Nat} (h : szRs (l.map dLk) ≤ N) : ∀ r ∈ l, r.pa.length ≤ N ∧ ∀ s ∈ r.pa, s.size ≤ N := fun r hr => by
  have h1 := szRs_mem _ _ (List.mem_map_of_mem (f := dLk) hr)
  rw [sz_dLk] at h1
  exact ⟨by omega, fun s hs => by have := sumS_mem _ s hs; omega⟩
theorem lk_len {l : List Lk} {N : Nat} (h : szRs (l.map dLk) ≤ N) : l.length ≤ N := by
  have := szRs_len (l.map dLk)
  rw [List.length_map] at this
  omega
end Go.Proofs.YtcgljeagjchobaaGreat
namespace Go.Proofs.YtcgljeagjchobaaGreat
open Go.RowKit M

/-- One of them, at a place. -/
def PpAt (w : World) (b o : Nat) (p : Pp) : Prop := w.cell? ⟨b, o, none⟩ = some (.string p.1) ∧ w.cell? ⟨b, o + 1, none⟩ = some (.string p.2.1) ∧ w.cell? ⟨b, o + 2, none⟩ = some (.string p.2.2)
/-- What a slice of them holds, in a block below B. -/
def Pps (w : World) (B : Nat) (a : Option Addr) (ps : List Pp) : Prop :=
  0 < ps.length → ∃ b o, a = some ⟨b, o, none⟩ ∧ b < B ∧ ∀ j (hj : j < ps.length), PpAt w b (o + j * 3) ps[j]

theorem PpAt.of {w w' : World} {b o : Nat} {p : Pp} (h : PpAt w b o p) (e : ∀ o', w'.cell? ⟨b, o', none⟩ = w.cell? ⟨b, o', none⟩) : PpAt w' b o p := by
  unfold PpAt at *
  simp only [e]
  exact h
theorem Pps.of {w w' : World} {B : Nat} {a : Option Addr} {ps : List Pp} (h : Pps w B a ps) (e : ∀ b o, b < B → w'.cell? ⟨b, o, none⟩ = w.cell? ⟨b, o, none⟩) : Pps w' B a ps := fun h0 => by
  obtain ⟨b, o, ea, hb, hc⟩ := h h0
  exact ⟨b, o, ea, hb, fun j hj => (hc j hj).of (fun o' => e b o' hb)⟩
theorem Pps.below {w w' : World} {B C : Nat} {a : Option Addr} {ps : List Pp} (h : Pps w B a ps) (hb : Below C w w') (hB : B ≤ C) : Pps w' B a ps :=
  h.of (fun b o hbB => hb.cell (p := ⟨b, o, none⟩) (Nat.lt_of_lt_of_le hbB hB))
theorem Pps.mono {w : World} {B C : Nat} {a : Option Addr} {ps : List Pp} (h : Pps w B a ps) (hB : B ≤ C) : Pps w C a ps := fun h0 => by
  obtain ⟨b, o, e, hbB, hc⟩ := h h0
  exact ⟨b, o, e, Nat.lt_of_lt_of_le hbB hB, hc⟩
theorem Pps.nil (w : World) (B : Nat) (a : Option Addr) : Pps w B a [] := fun h => absurd h (Nat.lt_irrefl _)

/-- A row of them in block g, none of them frozen. -/
def RowP (w : World) (g : Nat) (ps : List Pp) : Prop := g < w.heap.size ∧ (∀ j (hj : j < ps.length), PpAt w g (j * 3) ps[j]) ∧ ∀ i, w.frozen? ⟨g, i, none⟩ = false
theorem RowP.of {w w' : World} {g : Nat} {ps : List Pp} (h : RowP w g ps) (hz : g < w'.heap.size) (e : ∀ o', w'.cell? ⟨g, o', none⟩ = w.cell? ⟨g, o', none⟩) (f : ∀ o', w'.frozen? ⟨g, o', none⟩ = w.frozen? ⟨g, o', none⟩) : RowP w' g ps :=
  ⟨hz, fun j hj => (h.2.1 j hj).of e, fun i => by rw [f]; exact h.2.2 i⟩
theorem RowP.below {w w' : World} {g : Nat} {ps : List Pp} (h : RowP w g ps) (hb : Below w.heap.size w w') : RowP w' g ps :=
  h.of (Nat.lt_of_lt_of_le h.1 hb.size) (fun o => hb.cell (p := ⟨g, o, none⟩) h.1) (fun o => hb.frozen (p := ⟨g, o, none⟩) h.1)
theorem RowP.pps {w : World} {g C : Nat} {ps : List Pp} (h : RowP w g ps) (hC : g < C) : Pps w C (some ⟨g, 0, none⟩) ps := fun _ =>
  ⟨g, 0, rfl, hC, fun j hj => by rw [Nat.zero_add]; exact h.2.1 j hj⟩

/-- All of them short enough. -/
def ShortPs (ps : List Pp) : Prop := ∀ p ∈ ps, p.1.size ≤ maxLen ∧ p.2.1.size ≤ maxLen ∧ p.2.2.size ≤ maxLen
theorem ShortPs.at {ps : List Pp} (h : ShortPs ps) (k : Nat) (hk : k < ps.length) : (ps[k]).1.size ≤ maxLen ∧ (ps[k]).2.1.size ≤ maxLen ∧ (ps[k]).2.2.size ≤ maxLen := h _ (List.getElem_mem hk)

theorem strInjP {a b : ByteArray} (h : a.toList = b.toList) : a = b := by
  rw [ByteArray.toList_eq, ByteArray.toList_eq] at h
  exact ByteArray.ext (Array.ext' h)
theorem bcellP {W w1 : World} (hb : Below W.heap.size W w1) : (∀ b o, b < W.heap.size → w1.cell? ⟨b, o, none⟩ = W.cell? ⟨b, o, none⟩) ∧ (∀ b o, b < W.heap.size → w1.frozen? ⟨b, o, none⟩ = W.frozen? ⟨b, o, none⟩) :=
  ⟨fun b o h => hb.cell (p := ⟨b, o, none⟩) h, fun b o h => hb.frozen (p := ⟨b, o, none⟩) h⟩
theorem below_drewP {C : Nat} {w w' : World} (h : Below C w w') : Below C w w'.drew := ⟨h.os, h.tape, h.output, h.size, h.block⟩

theorem info_prop : (Tryz.prog.info? 108).map (fun i => (i.zero, i.size, i.bytes)) = some (some (.agg #[.string ByteArray.empty, .string ByteArray.empty, .string ByteArray.empty]), 3, 48) := by kernel_rfl
theorem run_make_props (n : Nat) (hn : n ≤ 1048576) (w : World) :
    (Instr.makeSlice 43 (.int .i64 (n : Int)) (.int .i64 (n : Int))).run Tryz.prog w = .ok (.slice (some ⟨w.heap.size, 0, none⟩) n n) (w.alloc (.cells (madeCells #[.string ByteArray.empty, .string ByteArray.empty, .string ByteArray.empty] (n * 3)) 108)) := by
  obtain ⟨i, hi, hz, hs, hb⟩ := info_parts info_prop
  have hr := run_make (P := Tryz.prog) w 43 108 i _ Tryz.underlying43 hi hz .i64 .i64 n n (by omega) (Int.le_refl _) (by rw [hb]; omega) (by omega)
  simp only [Int.toNat_natCast, hs] at hr
  exact hr

/-- What is made so far of a row of them. -/
def MadeP (w : World) (g : Nat) (ps : List Pp) (k : Nat) : Prop := ∃ F : Nat → Value, w.rowIs g 108 (ps.length * 3) F ∧ ∀ j (hj : j < ps.length), j < k → F (j * 3) = .string ps[j].1 ∧ F (j * 3 + 1) = .string ps[j].2.1 ∧ F (j * 3 + 2) = .string ps[j].2.2
theorem MadeP.start (w : World) (ps : List Pp) : MadeP (w.alloc (.cells (madeCells #[.string ByteArray.empty, .string ByteArray.empty, .string ByteArray.empty] (ps.length * 3)) 108)) w.heap.size ps 0 := by
  have hr := World.rowIs_alloc w (madeCells #[.string ByteArray.empty, .string ByteArray.empty, .string ByteArray.empty] (ps.length * 3)) 108 (fun i => ((madeCells #[.string ByteArray.empty, .string ByteArray.empty, .string ByteArray.empty] (ps.length * 3))[i]?).getD (.string ByteArray.empty)) (fun i hi => by rw [Array.getElem?_eq_getElem hi]; rfl)
  rw [size_madeCells] at hr
  exact ⟨_, hr, fun j _ hj => absurd hj (Nat.not_lt_zero _)⟩
theorem MadeP.below {w w1 : World} {g : Nat} {ps : List Pp} {k : Nat} (m : MadeP w g ps k) (hb : Below w.heap.size w w1) : MadeP w1 g ps k := by
  obtain ⟨F, hr, hj⟩ := m
  exact ⟨F, hr.of_block (w' := w1) (hb.block _ hr.lt), hj⟩
theorem MadeP.lt {w : World} {g : Nat} {ps : List Pp} {k : Nat} (m : MadeP w g ps k) : g < w.heap.size := by obtain ⟨F, hr, _⟩ := m; exact hr.lt
theorem MadeP.cells {w : World} {g : Nat} {ps : List Pp} {k : Nat} (m : MadeP w g ps k) (hk : k < ps.length) : ∃ v0 v1 v2, w.cell? ⟨g, k * 3, none⟩ = some v0 ∧ w.cell? ⟨g, k * 3 + 1, none⟩ = some v1 ∧ w.cell? ⟨g, k * 3 + 2, none⟩ = some v2 ∧ w.frozen? ⟨g, k * 3, none⟩ = false ∧ w.frozen? ⟨g, k * 3 + 1, none⟩ = false ∧ w.frozen? ⟨g, k * 3 + 2, none⟩ = false := by
  obtain ⟨F, hr, _⟩ := m
  exact ⟨_, _, _, hr.cell (by omega), hr.cell (by omega), hr.cell (by omega), hr.frozen _, hr.frozen _, hr.frozen _⟩
theorem MadeP.next {w : World} {g : Nat} {ps : List Pp} {k : Nat} (m : MadeP w g ps k) (hk : k < ps.length) : MadeP (((w.setCell ⟨g, k * 3, none⟩ (.string ps[k].1)).setCell ⟨g, k * 3 + 1, none⟩ (.string ps[k].2.1)).setCell ⟨g, k * 3 + 2, none⟩ (.string ps[k].2.2)) g ps (k + 1) := by
  obtain ⟨F, hr, hj⟩ := m
  refine ⟨_, ((hr.set (k * 3) (.string ps[k].1)).set (k * 3 + 1) (.string ps[k].2.1)).set (k * 3 + 2) (.string ps[k].2.2), fun j hjl hjk => ?_⟩
  by_cases e : j = k
  · subst e
    refine ⟨?_, ?_, ?_⟩ <;> simp
  · obtain ⟨e0, e1, e2⟩ := hj j hjl (by omega)
    refine ⟨?_, ?_, ?_⟩
    · simp only [show ¬ j * 3 = k * 3 + 2 by omega, show ¬ j * 3 = k * 3 + 1 by omega, show ¬ j * 3 = k * 3 by omega, if_false]; exact e0
    · simp only [show ¬ j * 3 + 1 = k * 3 + 2 by omega, show ¬ j * 3 + 1 = k * 3 + 1 by omega, show ¬ j * 3 + 1 = k * 3 by omega, if_false]; exact e1
    · simp only [show ¬ j * 3 + 2 = k * 3 + 2 by omega, show ¬ j * 3 + 2 = k * 3 + 1 by omega, show ¬ j * 3 + 2 = k * 3 by omega, if_false]; exact e2
theorem MadeP.done {w : World} {g : Nat} {ps : List Pp} {k : Nat} (m : MadeP w g ps k) (hk : ¬ k < ps.length) : RowP w g ps := by
  obtain ⟨F, hr, hj⟩ := m
  refine ⟨hr.lt, fun j hjl => ?_, fun i => hr.frozen i⟩
  obtain ⟨e0, e1, e2⟩ := hj j hjl (by omega)
  exact ⟨by rw [hr.cell (by omega), e0], by rw [hr.cell (by omega), e1], by rw [hr.cell (by omega), e2]⟩
end Go.Proofs.YtcgljeagjchobaaGreat
namespace Go.Proofs.YtcgljeagjchobaaGreat
open Go.RowKit M
set_option linter.unusedVariables false

/-- A thing at a place: its five cells. -/
def RsAt (w : World) (b o : Nat) (r : Rs) (pa : Option Addr) (pc : Nat) (qa : Option Addr) (qc : Nat) : Prop :=
  w.cell? ⟨b, o, none⟩ = some (.slice pa r.pa.length pc) ∧ w.cell? ⟨b, o + 1, none⟩ = some (.bool r.co) ∧ w.cell? ⟨b, o + 2, none⟩ = some (.string r.bo) ∧ w.cell? ⟨b, o + 3, none⟩ = some (.int .i64 r.ve) ∧ w.cell? ⟨b, o + 4, none⟩ = some (.slice qa r.ps.length qc)
/-- What its two slices hold, in blocks below B. -/
structure RsIn (w : World) (B : Nat) (r : Rs) (pa : Option Addr) (pc : Nat) (qa : Option Addr) (qc : Nat) : Prop where
  ph : Strs w B pa r.pa
  qh : Pps w B qa r.ps
  pl : r.pa.length ≤ pc
  ql : r.ps.length ≤ qc
  pm : pc ≤ maxLen
  qm : qc ≤ maxLen
  pn : pa = none → pc = 0
  qn : qa = none → qc = 0
/-- What a slice of things holds, in blocks below B. -/
def Rss (w : World) (B : Nat) (a : Option Addr) (rs : List Rs) : Prop :=
  0 < rs.length → ∃ b o, a = some ⟨b, o, none⟩ ∧ b < B ∧ ∀ j (hj : j < rs.length), ∃ pa pc qa qc, RsAt w b (o + j * 5) rs[j] pa pc qa qc ∧ RsIn w B rs[j] pa pc qa qc

theorem RsAt.of {w w' : World} {b o : Nat} {r : Rs} {pa : Option Addr} {pc : Nat} {qa : Option Addr} {qc : Nat} (h : RsAt w b o r pa pc qa qc) (e : ∀ o', w'.cell? ⟨b, o', none⟩ = w.cell? ⟨b, o', none⟩) : RsAt w' b o r pa pc qa qc := by
  unfold RsAt at *
  simp only [e]
  exact h
theorem Strs.of {w w' : World} {B : Nat} {a : Option Addr} {ss : List ByteArray} (h : Strs w B a ss) (e : ∀ b o, b < B → w'.cell? ⟨b, o, none⟩ = w.cell? ⟨b, o, none⟩) : Strs w' B a ss := fun h0 => by
  obtain ⟨b, o, ea, hb, hc⟩ := h h0
  exact ⟨b, o, ea, hb, fun j hj => (e b _ hb).trans (hc j hj)⟩
theorem RsIn.of {w w' : World} {B : Nat} {r : Rs} {pa : Option Addr} {pc : Nat} {qa : Option Addr} {qc : Nat} (h : RsIn w B r pa pc qa qc) (e : ∀ b o, b < B → w'.cell? ⟨b, o, none⟩ = w.cell? ⟨b, o, none⟩) : RsIn w' B r pa pc qa qc :=
  ⟨h.ph.of e, h.qh.of e, h.pl, h.ql, h.pm, h.qm, h.pn, h.qn⟩
theorem RsIn.mono {w : World} {B C : Nat} {r : Rs} {pa : Option Addr} {pc : Nat} {qa : Option Addr} {qc : Nat} (h : RsIn w B r pa pc qa qc) (hB : B ≤ C) : RsIn w C r pa pc qa qc :=
  ⟨h.ph.mono hB, h.qh.mono hB, h.pl, h.ql, h.pm, h.qm, h.pn, h.qn⟩
theorem RsIn.below {w w' : World} {B C : Nat} {r : Rs} {pa : Option Addr} {pc : Nat} {qa : Option Addr} {qc : Nat} (h : RsIn w B r pa pc qa qc) (hb : Below C w w') (hB : B ≤ C) : RsIn w' B r pa pc qa qc :=
  h.of (fun b o hbB => hb.cell (p := ⟨b, o, none⟩) (Nat.lt_of_lt_of_le hbB hB))
theorem Rss.of {w w' : World} {B : Nat} {a : Option Addr} {rs : List Rs} (h : Rss w B a rs) (e : ∀ b o, b < B → w'.cell? ⟨b, o, none⟩ = w.cell? ⟨b, o, none⟩) : Rss w' B a rs := fun h0 => by
  obtain ⟨b, o, ea, hb, hc⟩ := h h0
  refine ⟨b, o, ea, hb, fun j hj => ?_⟩
  obtain ⟨pa, pc, qa, qc, h1, h2⟩ := hc j hj
  exact ⟨pa, pc, qa, qc, h1.of (fun o' => e b o' hb), h2.of e⟩
theorem Rss.below {w w' : World} {B C : Nat} {a : Option Addr} {rs : List Rs} (h : Rss w B a rs) (hb : Below C w w') (hB : B ≤ C) : Rss w' B a rs :=
  h.of (fun b o hbB => hb.cell (p := ⟨b, o, none⟩) (Nat.lt_of_lt_of_le hbB hB))
theorem Rss.mono {w : World} {B C : Nat} {a : Option Addr} {rs : List Rs} (h : Rss w B a rs) (hB : B ≤ C) : Rss w C a rs := fun h0 => by
  obtain ⟨b, o, e, hbB, hc⟩ := h h0
  refine ⟨b, o, e, Nat.lt_of_lt_of_le hbB hB, fun j hj => ?_⟩
  obtain ⟨pa, pc, qa, qc, h1, h2⟩ := hc j hj
  exact ⟨pa, pc, qa, qc, h1, h2.mono hB⟩
theorem Rss.nil (w : World) (B : Nat) (a : Option Addr) : Rss w B a [] := fun h => absurd h (Nat.lt_irrefl _)
theorem Rss.drew {w : World} {B : Nat} {a : Option Addr} {rs : List Rs} (h : Rss w B a rs) : Rss w.drew B a rs := h.of (fun _ _ _ => rfl)
theorem Pps.drew {w : World} {B : Nat} {a : Option Addr} {ps : List Pp} (h : Pps w B a ps) : Pps w.drew B a ps := h.of (fun _ _ _ => rfl)
theorem Strs.drew {w : World} {B : Nat} {a : Option Addr} {ss : List ByteArray} (h : Strs w B a ss) : Strs w.drew B a ss := h.of (fun _ _ _ => rfl)
theorem RsIn.drew {w : World} {B : Nat} {r : Rs} {pa : Option Addr} {pc : Nat} {qa : Option Addr} {qc : Nat} (h : RsIn w B r pa pc qa qc) : RsIn w.drew B r pa pc qa qc := h.of (fun _ _ _ => rfl)

/-- All its parts short enough. -/
structure ShortRs (r : Rs) : Prop where
  pl : r.pa.length ≤ maxLen
  ps : Short r.pa
  bo : r.bo.size ≤ maxLen
  ql : r.ps.length ≤ maxLen
  qs : ShortPs r.ps
def ShortT (rs : List Rs) : Prop := ∀ r ∈ rs, ShortRs r
theorem ShortT.at {rs : List Rs} (h : ShortT rs) (k : Nat) (hk : k < rs.length) : ShortRs rs[k] := h _ (List.getElem_mem hk)

/-- The value of a thing. -/
def rsV (r : Rs) (pa : Option Addr) (pc : Nat) (qa : Option Addr) (qc : Nat) : Value := .agg #[.slice pa r.pa.length pc, .bool r.co, .string r.bo, .int .i64 r.ve, .slice qa r.ps.length qc]

theorem RowS.setCell {w : World} {g : Nat} {ms : List ByteArray} (h : RowS w g ms) (p : Addr) (v : Value) (hp : p.block ≠ g) : RowS (w.setCell p v) g ms := by
  refine ⟨by simpa using h.1, fun j hj => ⟨?_, ?_⟩⟩
  · rw [World.cell?_setCell_other _ _ _ _ (fun e => hp (congrArg Addr.block e))]; exact (h.2 j hj).1
  · rw [World.frozen?_setCell]; exact (h.2 j hj).2
theorem RowP.setCell {w : World} {g : Nat} {ps : List Pp} (h : RowP w g ps) (p : Addr) (v : Value) (hp : p.block ≠ g) : RowP (w.setCell p v) g ps :=
  h.of (by simpa using h.1) (fun o => World.cell?_setCell_other _ _ _ _ (fun e => hp (congrArg Addr.block e))) (fun o => World.frozen?_setCell _ _ _ _)

/-- A row of things that one call made: each slice in a block of its own; all from lo on and below hi. -/
structure OwnR (w : World) (lo hi g : Nat) (rs : List Rs) (pb qb : Nat → Nat) : Prop where
  gl : lo ≤ g
  gh : g < hi
  gs : g < w.heap.size
  fz : ∀ i, w.frozen? ⟨g, i, none⟩ = false
  cl : ∀ j (hj : j < rs.length), RsAt w g (j * 5) rs[j] (some ⟨pb j, 0, none⟩) rs[j].pa.length (some ⟨qb j, 0, none⟩) rs[j].ps.length
  rp : ∀ j (hj : j < rs.length), RowS w (pb j) rs[j].pa
  rq : ∀ j (hj : j < rs.length), RowP w (qb j) rs[j].ps
  bnd : ∀ j, j < rs.length → lo ≤ pb j ∧ pb j < qb j ∧ qb j < hi ∧ pb j ≠ g ∧ qb j ≠ g
  ord : ∀ i j, i < j → j < rs.length → pb i ≠ pb j ∧ pb i ≠ qb j ∧ qb i ≠ pb j ∧ qb i ≠ qb j

theorem OwnR.of {w w' : World} {lo hi g : Nat} {rs : List Rs} {pb qb : Nat → Nat} (h : OwnR w lo hi g rs pb qb) (hz : w.heap.size ≤ w'.heap.size) (e : ∀ b o, lo ≤ b → b < hi → b < w.heap.size → w'.cell? ⟨b, o, none⟩ = w.cell? ⟨b, o, none⟩) (f : ∀ b o, lo ≤ b → b < hi → b < w.heap.size → w'.frozen? ⟨b, o, none⟩ = w.frozen? ⟨b, o, none⟩) : OwnR w' lo hi g rs pb qb := by
  refine ⟨h.gl, h.gh, Nat.lt_of_lt_of_le h.gs hz, fun i => by rw [f g i h.gl h.gh h.gs]; exact h.fz i, fun j hj => (h.cl j hj).of (fun o' => e g o' h.gl h.gh h.gs), fun j hj => ?_, fun j hj => ?_, h.bnd, h.ord⟩
  · obtain ⟨b1, b2, b3, _, _⟩ := h.bnd j hj
    have hp := (h.rp j hj).1
    refine ⟨Nat.lt_of_lt_of_le hp hz, fun i hi => ?_⟩
    rw [e _ _ b1 (by omega) hp, f _ _ b1 (by omega) hp]
    exact (h.rp j hj).2 i hi
  · obtain ⟨b1, b2, b3, _, _⟩ := h.bnd j hj
    have hp := (h.rq j hj).1
    exact (h.rq j hj).of (Nat.lt_of_lt_of_le hp hz) (fun o => e _ o (by omega) b3 hp) (fun o => f _ o (by omega) b3 hp)
theorem OwnR.below {w w' : World} {lo hi g : Nat} {rs : List Rs} {pb qb : Nat → Nat} (h : OwnR w lo hi g rs pb qb) (hb : Below w.heap.size w w') : OwnR w' lo hi g rs pb qb :=
  h.of hb.size (fun b o _ _ hz => hb.cell (p := ⟨b, o, none⟩) hz) (fun b o _ _ hz => hb.frozen (p := ⟨b, o, none⟩) hz)
theorem OwnR.rss {w : World} {lo hi g C : Nat} {rs : List Rs} {pb qb : Nat → Nat} (h : OwnR w lo hi g rs pb qb) (hs : ∀ r ∈ rs, r.pa.length ≤ maxLen ∧ r.ps.length ≤ maxLen) (hC : hi ≤ C) : Rss w C (some ⟨g, 0, none⟩) rs := fun _ => by
  refine ⟨g, 0, rfl, Nat.lt_of_lt_of_le h.gh hC, fun j hj => ⟨_, _, _, _, by rw [Nat.zero_add]; exact h.cl j hj, ?_⟩⟩
  obtain ⟨b1, b2, b3, _, _⟩ := h.bnd j hj
  have := hs _ (List.getElem_mem hj)
  exact ⟨(h.rp j hj).strs' (by omega), (h.rq j hj).pps (by omega), Nat.le_refl _, Nat.le_refl _, this.1, this.2, (fun e => by cases e), (fun e => by cases e)⟩
theorem OwnR.nil (w : World) (lo hi g : Nat) (hl : lo ≤ g) (hh : g < hi) (hs : g < w.heap.size) (fz : ∀ i, w.frozen? ⟨g, i, none⟩ = false) : OwnR w lo hi g [] (fun _ => 0) (fun _ => 0) :=
  ⟨hl, hh, hs, fz, fun j hj => absurd hj (Nat.not_lt_zero _), fun j hj => absurd hj (Nat.not_lt_zero _), fun j hj => absurd hj (Nat.not_lt_zero _), fun j hj => absurd hj (Nat.not_lt_zero _), fun i j _ hj => absurd hj (Nat.not_lt_zero _)⟩

theorem info_res : (Tryz.prog.info? 45).map (fun i => (i.zero, i.size, i.bytes)) = some (some (.agg #[.slice none 0 0, .bool false, .string ByteArray.empty, .int .i64 0, .slice none 0 0]), 5, 80) := by kernel_rfl
end Go.Proofs.YtcgljeagjchobaaGreat
namespace Go.Proofs.YtcgljeagjchobaaGreat
open Go.RowKit M
set_option linter.unusedVariables false

theorem pps_of_view {w : World} {B : Nat} {v : Value} {l : List Pp} (h : View w B v (.l (l.map dPp))) : ∃ a cap, v = .slice a l.length cap ∧ l.length ≤ cap ∧ cap ≤ maxLen ∧ (a = none → cap = 0) ∧ Pps w B a l := by
  obtain ⟨a, cap, h1, h2, h3, h4, h5⟩ := h.rows 3 (fun _ => rfl)
  refine ⟨a, cap, h1, h2, h3, h4, fun h0 => ?_⟩
  obtain ⟨b, o, C, e, hb, hc⟩ := h5 h0
  refine ⟨b, o, e, hb, fun j hj => ?_⟩
  obtain ⟨c0, v0⟩ := hc j hj 0 (.c (.string l[j].1)) rfl
  obtain ⟨c1, v1⟩ := hc j hj 1 (.c (.string l[j].2.1)) rfl
  obtain ⟨c2, v2⟩ := hc j hj 2 (.c (.string l[j].2.2)) rfl
  rw [v0.inv] at c0
  rw [v1.inv] at c1
  rw [v2.inv] at c2
  exact ⟨c0, c1, c2⟩
def ppVal (p : Pp) (i : Nat) : Value := (([.string p.1, .string p.2.1, .string p.2.2] : List Value)[i]?).getD (.bool false)
theorem view_of_pps {w : World} {B : Nat} {a : Option Addr} {cap : Nat} {l : List Pp} (h : Pps w B a l) (h1 : l.length ≤ cap) (h2 : cap ≤ maxLen) (h3 : a = none → cap = 0) : View w B (.slice a l.length cap) (.l (l.map dPp)) := by
  by_cases h0 : 0 < l.length
  · obtain ⟨b, o, rfl, hb, hc⟩ := h h0
    have e : l.length = (l.map dPp).length := (List.length_map ..).symm
    rw [e]
    refine .row b o cap 3 _ (fun j i => match l[j]? with | some s => ppVal s i | none => .bool false) hb (by rw [← e]; exact h1) h2 (fun r hr => by obtain ⟨x, _, rfl⟩ := List.mem_map.1 hr; rfl) (fun j i x hx => ?_) (fun j i x hx => ?_)
    all_goals
      unfold cellAt at hx
      by_cases hj : j < l.length
      · rw [map_at dPp l j hj] at hx
        rw [List.getElem?_eq_getElem hj]
        match i with
        | 0 => cases hx; first | exact .c _ | exact (hc j hj).1
        | 1 => cases hx; first | exact .c _ | exact (hc j hj).2.1
        | 2 => cases hx; first | exact .c _ | exact (hc j hj).2.2
        | i + 3 => cases hx
      · rw [List.getElem?_eq_none (by simp; omega)] at hx; cases hx
  · have : l = [] := List.eq_nil_of_length_eq_zero (by omega)
    subst this
    exact .nil a cap h3 h2
theorem rss_of_view {w : World} {B : Nat} {v : Value} {l : List Rs} (h : View w B v (.l (l.map dRs))) : ∃ a cap, v = .slice a l.length cap ∧ l.length ≤ cap ∧ cap ≤ maxLen ∧ (a = none → cap = 0) ∧ Rss w B a l := by
  obtain ⟨a, cap, h1, h2, h3, h4, h5⟩ := h.rows 5 (fun _ => rfl)
  refine ⟨a, cap, h1, h2, h3, h4, fun h0 => ?_⟩
  obtain ⟨b, o, C, e, hb, hc⟩ := h5 h0
  refine ⟨b, o, e, hb, fun j hj => ?_⟩
  obtain ⟨c0, v0⟩ := hc j hj 0 (.l (l[j].pa.map dS)) rfl
  obtain ⟨c1, v1⟩ := hc j hj 1 (.c (.bool l[j].co)) rfl
  obtain ⟨c2, v2⟩ := hc j hj 2 (.c (.string l[j].bo)) rfl
  obtain ⟨c3, v3⟩ := hc j hj 3 (.c (.int .i64 l[j].ve)) rfl
  obtain ⟨c4, v4⟩ := hc j hj 4 (.l (l[j].ps.map dPp)) rfl
  obtain ⟨pa, pc, e0, p1, p2, p3, p4⟩ := strs_of_view v0
  obtain ⟨qa, qc, e4, q1, q2, q3, q4⟩ := pps_of_view v4
  rw [e0] at c0
  rw [v1.inv] at c1
  rw [v2.inv] at c2
  rw [v3.inv] at c3
  rw [e4] at c4
  exact ⟨pa, pc, qa, qc, ⟨c0, c1, c2, c3, c4⟩, ⟨p4, q4, p1, q1, p2, q2, p3, q3⟩⟩
def rsVal (r : Rs) (pv qv : Value) (i : Nat) : Value := (([pv, .bool r.co, .string r.bo, .int .i64 r.ve, qv] : List Value)[i]?).getD (.bool false)
theorem view_of_rss {w : World} {B : Nat} {a : Option Addr} {cap : Nat} {l : List Rs} (h : Rss w B a l) (h1 : l.length ≤ cap) (h2 : cap ≤ maxLen) (h3 : a = none → cap = 0) : View w B (.slice a l.length cap) (.l (l.map dRs)) := by
  by_cases h0 : 0 < l.length
  · obtain ⟨b, o, rfl, hb, hc⟩ := h h0
    have each : ∀ j, ∃ pq : Value × Value, ∀ hj : j < l.length, (∀ i v, i < 5 → rsVal l[j] pq.1 pq.2 i = v → w.cell? ⟨b, o + j * 5 + i, none⟩ = some v) ∧ View w B pq.1 (.l (l[j].pa.map dS)) ∧ View w B pq.2 (.l (l[j].ps.map dPp)) := fun j => by
      by_cases hj : j < l.length
      · obtain ⟨pa, pc, qa, qc, ⟨c0, c1, c2, c3, c4⟩, p⟩ := hc j hj
        refine ⟨(.slice pa l[j].pa.length pc, .slice qa l[j].ps.length qc), fun _ => ⟨fun i v hi hv => ?_, view_of_strs p.ph p.pl p.pm p.pn, view_of_pps p.qh p.ql p.qm p.qn⟩⟩
        subst hv
        match i, hi with
        | 0, _ => exact c0
        | 1, _ => exact c1
        | 2, _ => exact c2
        | 3, _ => exact c3
        | 4, _ => exact c4
      · exact ⟨(.bool false, .bool false), fun h => absurd h hj⟩
    have e : l.length = (l.map dRs).length := (List.length_map ..).symm
    rw [e]
    refine .row b o cap 5 _ (fun j i => match l[j]? with | some r => rsVal r (Classical.choose (each j)).1 (Classical.choose (each j)).2 i | none => .bool false) hb (by rw [← e]; exact h1) h2 (fun r hr => by obtain ⟨x, _, rfl⟩ := List.mem_map.1 hr; rfl) (fun j i x hx => ?_) (fun j i x hx => ?_)
    · unfold cellAt at hx
      by_cases hj : j < l.length
      · rw [map_at dRs l j hj] at hx
        have hi : i < 5 := (List.getElem?_eq_some_iff.1 hx).1
        rw [List.getElem?_eq_getElem hj]
        exact (Classical.choose_spec (each j) hj).1 i _ hi rfl
      · rw [List.getElem?_eq_none (by simp; omega)] at hx; cases hx
    · unfold cellAt at hx
      by_cases hj : j < l.length
      · rw [map_at dRs l j hj] at hx
        rw [List.getElem?_eq_getElem hj]
        match i with
        | 0 => cases hx; exact (Classical.choose_spec (each j) hj).2.1
        | 1 => cases hx; exact .c _
        | 2 => cases hx; exact .c _
        | 3 => cases hx; exact .c _
        | 4 => cases hx; exact (Classical.choose_spec (each j) hj).2.2
        | i + 5 => cases hx
      · rw [List.getElem?_eq_none (by simp; omega)] at hx; cases hx
  · have : l = [] := List.eq_nil_of_length_eq_zero (by omega)
    subst this
    exact .nil a cap h3 h2
theorem own_of_rowP {w : World} {p c : Nat} {l : List Pp} (h : RowP w p l) (h1 : l.length ≤ c) (h2 : c ≤ maxLen) : Own w (.slice (some ⟨p, 0, none⟩) l.length c) (.l (l.map dPp)) (fun y => y = p) := by
  have e : l.length = (l.map dPp).length := (List.length_map ..).symm
  rw [e]
  refine RowG.own (R := rowsF dPp l) (K := 3) (o := 0) (C := fun j i => match l[j]? with | some r => ppVal r i | none => .bool false) (Sf := fun _ _ _ => False) ⟨rfl, h.1, fun j hj => by rw [rowsF_at l j (by simpa using hj)]; rfl, fun j i hj hi => ?_, fun j i x hj hx => ?_, fun j i y hy => hy.elim, fun j i j' i' y _ hy => hy.elim⟩ (fun j hj => by rw [rowsF_at l j (by simpa using hj)]; simp) (by rw [← e]; exact h1) h2
  · have hj' : j < l.length := by simpa using hj
    obtain ⟨c0, c1, c2⟩ := h.2.1 j hj'
    rw [List.getElem?_eq_getElem hj', Nat.zero_add]
    refine ⟨?_, h.2.2 _⟩
    match i, hi with
    | 0, _ => exact c0
    | 1, _ => exact c1
    | 2, _ => exact c2
  · have hj' : j < l.length := by simpa using hj
    rw [rowsF_at l j hj'] at hx
    rw [List.getElem?_eq_getElem hj']
    match i with
    | 0 => cases hx; exact .c _ _
    | 1 => cases hx; exact .c _ _
    | 2 => cases hx; exact .c _ _
    | i + 3 => cases hx
theorem own_of_ownR {w : World} {lo hi g : Nat} {l : List Rs} {pb qb : Nat → Nat} (h : OwnR w lo hi g l pb qb) (hm : l.length ≤ maxLen) (hs : ∀ r ∈ l, r.pa.length ≤ maxLen ∧ r.ps.length ≤ maxLen) : Own w (.slice (some ⟨g, 0, none⟩) l.length l.length) (.l (l.map dRs)) (IvG lo hi) := by
  have e : l.length = (l.map dRs).length := (List.length_map ..).symm
  rw [e]
  refine RowG.own (R := rowsF dRs l) (K := 5) (o := 0) (C := fun j i => match l[j]? with | some r => rsVal r (.slice (some ⟨pb j, 0, none⟩) r.pa.length r.pa.length) (.slice (some ⟨qb j, 0, none⟩) r.ps.length r.ps.length) i | none => .bool false) (Sf := fun j i y => j < l.length ∧ ((i = 0 ∧ y = pb j) ∨ (i = 4 ∧ y = qb j))) ⟨⟨h.gl, h.gh⟩, h.gs, fun j hj => by rw [rowsF_at l j (by simpa using hj)]; rfl, fun j i hj hi => ?_, fun j i x hj hx => ?_, fun j i y hy => ?_, fun j i j' i' y hne hy hy' => ?_⟩ (fun j hj => by rw [rowsF_at l j (by simpa using hj)]; simp) (by rw [← e]; exact Nat.le_refl _) (by rw [← e]; exact hm)
  · have hj' : j < l.length := by simpa using hj
    obtain ⟨c0, c1, c2, c3, c4⟩ := h.cl j hj'
    rw [List.getElem?_eq_getElem hj', Nat.zero_add]
    refine ⟨?_, h.fz _⟩
    match i, hi with
    | 0, _ => exact c0
    | 1, _ => exact c1
    | 2, _ => exact c2
    | 3, _ => exact c3
    | 4, _ => exact c4
  · have hj' : j < l.length := by simpa using hj
    have hss := hs _ (List.getElem_mem hj')
    rw [rowsF_at l j hj'] at hx
    rw [List.getElem?_eq_getElem hj']
    match i with
    | 0 => cases hx; exact (own_of_rowS (h.rp j hj') (Nat.le_refl _) hss.1).wide (fun y hy => ⟨hj', .inl ⟨rfl, hy⟩⟩)
    | 1 => cases hx; exact .c _ _
    | 2 => cases hx; exact .c _ _
    | 3 => cases hx; exact .c _ _
    | 4 => cases hx; exact (own_of_rowP (h.rq j hj') (Nat.le_refl _) hss.2).wide (fun y hy => ⟨hj', .inr ⟨rfl, hy⟩⟩)
    | i + 5 => cases hx
  · obtain ⟨hj, hy⟩ := hy
    obtain ⟨b1, b2, b3, b4, b5⟩ := h.bnd j hj
    rcases hy with ⟨_, rfl⟩ | ⟨_, rfl⟩
    · exact ⟨⟨b1, by omega⟩, b4⟩
    · exact ⟨⟨by omega, b3⟩, b5⟩
  · obtain ⟨hj, h1⟩ := hy
    obtain ⟨hj2, h2⟩ := hy'
    obtain ⟨b1, b2, b3, b4, b5⟩ := h.bnd j hj
    rcases Nat.lt_trichotomy j j' with hh | hh | hh
    · obtain ⟨o1, o2, o3, o4⟩ := h.ord j j' hh hj2
      rcases h1 with ⟨_, e1⟩ | ⟨_, e1⟩ <;> rcases h2 with ⟨_, e2⟩ | ⟨_, e2⟩ <;> omega
    · subst hh
      rcases h1 with ⟨i1, e1⟩ | ⟨i1, e1⟩ <;> rcases h2 with ⟨i2, e2⟩ | ⟨i2, e2⟩ <;> omega
    · obtain ⟨o1, o2, o3, o4⟩ := h.ord j' j hh hj
      rcases h1 with ⟨_, e1⟩ | ⟨_, e1⟩ <;> rcases h2 with ⟨_, e2⟩ | ⟨_, e2⟩ <;> omega
/-- What the sizes say. -/
theorem sz_dS (l : List ByteArray) : szRs (l.map dS) = l.length + sumS l := by
  induction l with
  | nil => simp [szRs, sumS]
  | cons x l ih => rw [List.map_cons, szRs_cons, ih]; simp [dS, szR, szF, szV, sumS]; omega
theorem sz_dPp (l : List Pp) : szRs (l.map dPp) = l.length + sumP l := by
  induction l with
  | nil => simp [szRs, sumP]
  | cons x l ih => rw [List.map_cons, szRs_cons, ih]; simp [dPp, szR, szF, szV, sumP, szP]; omega
theorem sz_dRs (r : Rs) : szR (dRs r) = r.pa.length + sumS r.pa + r.bo.size + r.ps.length + sumP r.ps := by
  simp [dRs, szR, szF, szV, sz_dS, sz_dPp]
  omega
theorem rs_len {l : List Rs} {N : Nat} (h : szRs (l.map dRs) ≤ N) : l.length ≤ N := by
  have := szRs_len (l.map dRs)
  rw [List.length_map] at this
  omega
theorem rs_small {l : List Rs} {N : Nat} (h : szRs (l.map dRs) ≤ N) : ∀ r ∈ l, r.pa.length + sumS r.pa + r.bo.size + r.ps.length + sumP r.ps ≤ N := fun r hr => by
  have h1 := szRs_mem _ _ (List.mem_map_of_mem (f := dRs) hr)
  rw [sz_dRs] at h1
  omega
theorem rs_short {l : List Rs} (h : szRs (l.map dRs) ≤ 1048576) : ShortT l := fun r hr => by
  have h1 := rs_small h r hr
  have hm : (1048576 : Nat) ≤ maxLen := by unfold maxLen; omega
  refine ⟨by omega, fun s hs => ?_, by omega, by omega, fun p hp => ?_⟩
  · have := sumS_mem _ s hs; omega
  · have := sumP_mem _ p hp; unfold szP at this; exact ⟨by omega, by omega, by omega⟩
end Go.Proofs.YtcgljeagjchobaaGreat
namespace Go.Proofs.YtcgljeagjchobaaGreat
open Go.RowKit

/-- The numbers that a slice holds, in a block below B. -/
def Ints (w : World) (B : Nat) (a : Option Addr) (l : List Int) : Prop :=
  0 < l.length → ∃ b o, a = some ⟨b, o, none⟩ ∧ b < B ∧ ∀ j (hj : j < l.length), w.cell? ⟨b, o + j, none⟩ = some (.int .i64 l[j])

theorem Ints.below {w w' : World} {B C : Nat} {a : Option Addr} {l : List Int} (h : Ints w B a l) (hb : Below C w w') (hB : B ≤ C) : Ints w' B a l := fun h0 => by
  obtain ⟨b, o, e, hbB, hc⟩ := h h0
  exact ⟨b, o, e, hbB, fun j hj => (hb.cell (p := ⟨b, o + j, none⟩) (Nat.lt_of_lt_of_le hbB hB)).trans (hc j hj)⟩
theorem Ints.mono {w : World} {B C : Nat} {a : Option Addr} {l : List Int} (h : Ints w B a l) (hB : B ≤ C) : Ints w C a l := fun h0 => by
  obtain ⟨b, o, e, hbB, hc⟩ := h h0
  exact ⟨b, o, e, Nat.lt_of_lt_of_le hbB hB, hc⟩
end Go.Proofs.YtcgljeagjchobaaGreat
namespace Go.Proofs.YtcgljeagjchobaaGreat
open Go.RowKit M
set_option linter.unusedVariables false

theorem ints_of_view {w : World} {B : Nat} {v : Value} {l : List Int} (h : View w B v (.l (l.map dI))) : ∃ a cap, v = .slice a l.length cap ∧ l.length ≤ cap ∧ cap ≤ maxLen ∧ (a = none → cap = 0) ∧ Ints w B a l := by
  obtain ⟨a, cap, h1, h2, h3, h4, h5⟩ := h.rows 1 (fun _ => rfl)
  refine ⟨a, cap, h1, h2, h3, h4, fun h0 => ?_⟩
  obtain ⟨b, o, C, e, hb, hc⟩ := h5 h0
  refine ⟨b, o, e, hb, fun j hj => ?_⟩
  obtain ⟨c, v⟩ := hc j hj 0 (.c (.int .i64 l[j])) rfl
  rw [v.inv] at c
  simpa using c
end Go.Proofs.YtcgljeagjchobaaGreat
namespace Go.Proofs.YtcgljeagjchobaaGreat
open Go.RowKit M
set_option linter.unusedVariables false

/-- What a server's four lists hold, in blocks below B. -/
structure SvIn (w : World) (B : Nat) (x : Sv) (ta : Option Addr) (tc : Nat) (la : Option Addr) (lc : Nat) (da : Option Addr) (dc : Nat) (ua : Option Addr) (uc : Nat) : Prop where
  th : Rss w B ta x.t
  lh : Lks w B la x.l
  dh : Ints w B da x.dr
  uh : Ints w B ua x.us
  tl : x.t.length ≤ tc ∧ tc ≤ maxLen ∧ (ta = none → tc = 0)
  ll : x.l.length ≤ lc ∧ lc ≤ maxLen ∧ (la = none → lc = 0)
  dl : x.dr.length ≤ dc ∧ dc ≤ maxLen ∧ (da = none → dc = 0)
  ul : x.us.length ≤ uc ∧ uc ≤ maxLen ∧ (ua = none → uc = 0)
theorem SvIn.below {w w' : World} {B C : Nat} {x : Sv} {ta : Option Addr} {tc : Nat} {la : Option Addr} {lc : Nat} {da : Option Addr} {dc : Nat} {ua : Option Addr} {uc : Nat} (h : SvIn w B x ta tc la lc da dc ua uc) (hb : Below C w w') (hB : B ≤ C) : SvIn w' B x ta tc la lc da dc ua uc :=
  ⟨h.th.below hb hB, h.lh.below hb hB, h.dh.below hb hB, h.uh.below hb hB, h.tl, h.ll, h.dl, h.ul⟩
theorem svIn_of_view {w : World} {B : Nat} {x : Sv} {u0 u1 u4 u5 : Value} (h0 : View w B u0 (.l (x.t.map dRs))) (h1 : View w B u1 (.l (x.l.map dLk))) (h4 : View w B u4 (.l (x.dr.map dI))) (h5 : View w B u5 (.l (x.us.map dI))) :
    ∃ ta tc la lc da dc ua uc, u0 = .slice ta x.t.length tc ∧ u1 = .slice la x.l.length lc ∧ u4 = .slice da x.dr.length dc ∧ u5 = .slice ua x.us.length uc ∧ SvIn w B x ta tc la lc da dc ua uc := by
  obtain ⟨ta, tc, rfl, a1, a2, a3, a4⟩ := rss_of_view h0
  obtain ⟨la, lc, rfl, b1, b2, b3, b4⟩ := lks_of_view h1
  obtain ⟨da, dc, rfl, c1, c2, c3, c4⟩ := ints_of_view h4
  obtain ⟨ua, uc, rfl, d1, d2, d3, d4⟩ := ints_of_view h5
  exact ⟨ta, tc, la, lc, da, dc, ua, uc, rfl, rfl, rfl, rfl, ⟨a4, b4, c4, d4, ⟨a1, a2, a3⟩, ⟨b1, b2, b3⟩, ⟨c1, c2, c3⟩, ⟨d1, d2, d3⟩⟩⟩

theorem sz_dI (l : List Int) : szRs (l.map dI) = l.length := szRs_flat dI (fun _ => by simp [dI, szR, szF, szV]) l
theorem sz_dSv (x : Sv) : szR (dSv x) = szRs (x.t.map dRs) + szRs (x.l.map dLk) + x.dr.length + x.us.length := by
  simp [dSv, szR, szF, szV, sz_dI]
  omega
/-- What follows of its size. -/
structure SvSmall (x : Sv) : Prop where
  t : szRs (x.t.map dRs) ≤ 1048576
  l : szRs (x.l.map dLk) ≤ 1048576
  d : x.dr.length ≤ 1048576
  u : x.us.length ≤ 1048576
theorem sv_small {x : Sv} (h : szR (dSv x) ≤ 1048576) : SvSmall x := by
  rw [sz_dSv] at h
  exact ⟨by omega, by omega, by omega, by omega⟩
theorem SvSmall.tlen {x : Sv} (h : SvSmall x) : x.t.length ≤ 1048576 := rs_len h.t
theorem SvSmall.llen {x : Sv} (h : SvSmall x) : x.l.length ≤ 1048576 := lk_len h.l
theorem SvSmall.tshort {x : Sv} (h : SvSmall x) : ShortT x.t := rs_short h.t
theorem SvSmall.tpa {x : Sv} (h : SvSmall x) : ∀ r ∈ x.t, r.pa.length ≤ 1048576 ∧ r.ps.length ≤ 1048576 := fun r hr => by
  have := rs_small h.t r hr
  exact ⟨by omega, by omega⟩
theorem SvSmall.lshort {x : Sv} (h : SvSmall x) : ShortK x.l := fun r hr => by
  have := lk_small h.l r hr
  exact ⟨by unfold maxLen; omega, fun s hs => by have := this.2 s hs; unfold maxLen; omega⟩
theorem SvSmall.lpa {x : Sv} (h : SvSmall x) : ∀ r ∈ x.l, r.pa.length ≤ 1048576 ∧ ∀ s ∈ r.pa, s.size ≤ 281474976710656 := fun r hr => by
  have := lk_small h.l r hr
  exact ⟨by omega, fun s hs => by have := this.2 s hs; omega⟩
theorem SvSmall.tsz {x : Sv} (h : SvSmall x) : ∀ r ∈ x.t, r.pa.length ≤ 1048576 ∧ r.ps.length ≤ 1048576 ∧ (∀ s ∈ r.pa, s.size ≤ 281474976710656) ∧ r.bo.size ≤ 281474976710656 ∧ ∀ p ∈ r.ps, p.1.size ≤ 281474976710656 ∧ p.2.1.size ≤ 281474976710656 ∧ p.2.2.size ≤ 281474976710656 := fun r hr => by
  have := rs_small h.t r hr
  exact ⟨by omega, by omega, fun s hs => by have := sumS_mem _ s hs; omega, by omega, fun p hp => by have := sumP_mem _ p hp; unfold szP at this; exact ⟨by omega, by omega, by omega⟩⟩
end Go.Proofs.YtcgljeagjchobaaGreat
namespace Go.Proofs.YtcgljeagjchobaaGreat
open Go.RowKit M
set_option linter.unusedVariables false

/-- Its four lists, in blocks from lo on and before hi, apart from one another. -/
def SrvV (w : World) (lo hi : Nat) (x : Sv) (u0 u1 u4 u5 : Value) : Prop := ∃ l0 h0 l1 h1 l4 h4 l5 h5 : Nat,
  (Own w u0 (.l (x.t.map dRs)) (IvG l0 h0) ∧ lo ≤ l0 ∧ h0 ≤ hi) ∧ (Own w u1 (.l (x.l.map dLk)) (IvG l1 h1) ∧ lo ≤ l1 ∧ h1 ≤ hi) ∧ (Own w u4 (.l (x.dr.map dI)) (IvG l4 h4) ∧ lo ≤ l4 ∧ h4 ≤ hi) ∧ (Own w u5 (.l (x.us.map dI)) (IvG l5 h5) ∧ lo ≤ l5 ∧ h5 ≤ hi) ∧
  (h0 ≤ l1 ∨ h1 ≤ l0) ∧ (h0 ≤ l4 ∨ h4 ≤ l0) ∧ (h0 ≤ l5 ∨ h5 ≤ l0) ∧ (h1 ≤ l4 ∨ h4 ≤ l1) ∧ (h1 ≤ l5 ∨ h5 ≤ l1) ∧ (h4 ≤ l5 ∨ h5 ≤ l4)
theorem SrvV.next {w w' : World} {lo hi : Nat} {x : Sv} {u0 u1 u4 u5 : Value} (h : SrvV w lo hi x u0 u1 u4 u5) (hb : Below w.heap.size w w') : SrvV w' lo hi x u0 u1 u4 u5 := by
  obtain ⟨l0, h0, l1, h1, l4, h4, l5, h5, ⟨a, a'⟩, ⟨b, b'⟩, ⟨c, c'⟩, ⟨d, d'⟩, r⟩ := h
  exact ⟨l0, h0, l1, h1, l4, h4, l5, h5, ⟨a.next hb, a'⟩, ⟨b.next hb, b'⟩, ⟨c.next hb, c'⟩, ⟨d.next hb, d'⟩, r⟩
theorem SrvV.setCell {w : World} {lo hi : Nat} {x : Sv} {u0 u1 u4 u5 : Value} (h : SrvV w lo hi x u0 u1 u4 u5) (p : Addr) (v : Value) (hp : p.block < lo ∨ hi ≤ p.block) : SrvV (w.setCell p v) lo hi x u0 u1 u4 u5 := by
  obtain ⟨l0, h0, l1, h1, l4, h4, l5, h5, ⟨a, a1, a2⟩, ⟨b, b1, b2⟩, ⟨c, c1, c2⟩, ⟨d, d1, d2⟩, r⟩ := h
  exact ⟨l0, h0, l1, h1, l4, h4, l5, h5, ⟨a.setCell p v (fun e => by have := e.1; have := e.2; omega), a1, a2⟩, ⟨b.setCell p v (fun e => by have := e.1; have := e.2; omega), b1, b2⟩, ⟨c.setCell p v (fun e => by have := e.1; have := e.2; omega), c1, c2⟩, ⟨d.setCell p v (fun e => by have := e.1; have := e.2; omega), d1, d2⟩, r⟩
theorem SrvV.wide {w : World} {lo hi lo' hi' : Nat} {x : Sv} {u0 u1 u4 u5 : Value} (h : SrvV w lo hi x u0 u1 u4 u5) (h1' : lo' ≤ lo) (h2' : hi ≤ hi') : SrvV w lo' hi' x u0 u1 u4 u5 := by
  obtain ⟨l0, h0, l1, h1, l4, h4, l5, h5, ⟨a, a1, a2⟩, ⟨b, b1, b2⟩, ⟨c, c1, c2⟩, ⟨d, d1, d2⟩, r⟩ := h
  exact ⟨l0, h0, l1, h1, l4, h4, l5, h5, ⟨a, by omega, by omega⟩, ⟨b, by omega, by omega⟩, ⟨c, by omega, by omega⟩, ⟨d, by omega, by omega⟩, r⟩
theorem SrvV.views {w : World} {lo hi B : Nat} {x : Sv} {u0 u1 u4 u5 : Value} (h : SrvV w lo hi x u0 u1 u4 u5) (hB : hi ≤ B) : View w B u0 (.l (x.t.map dRs)) ∧ View w B u1 (.l (x.l.map dLk)) ∧ View w B u4 (.l (x.dr.map dI)) ∧ View w B u5 (.l (x.us.map dI)) := by
  obtain ⟨l0, h0, l1, h1, l4, h4, l5, h5, ⟨a, a1, a2⟩, ⟨b, b1, b2⟩, ⟨c, c1, c2⟩, ⟨d, d1, d2⟩, r⟩ := h
  exact ⟨a.vw (by omega), b.vw (by omega), c.vw (by omega), d.vw (by omega)⟩
/-- Its next draws are others. -/
theorem SrvV.draws {w w' : World} {lo hi : Nat} {x : Sv} {u0 u1 u4 u5 v : Value} {N g : Nat} {dr : List Int} (h : SrvV w lo hi x u0 u1 u4 u5) (hb : Below w.heap.size w w') (hhi : hi ≤ w.heap.size) (ho : Own w' v (.l (dr.map dI)) (IvG w.heap.size w'.heap.size)) (hlo : lo ≤ w.heap.size) : SrvV w' lo w'.heap.size { x with dr := dr } u0 u1 v u5 := by
  have hz := hb.size
  obtain ⟨l0, h0, l1, h1, l4, h4, l5, h5, ⟨a, a1, a2⟩, ⟨b, b1, b2⟩, ⟨c, c1, c2⟩, ⟨d, d1, d2⟩, r1, r2, r3, r4, r5, r6⟩ := h
  exact ⟨l0, h0, l1, h1, w.heap.size, w'.heap.size, l5, h5, ⟨a.next hb, a1, by omega⟩, ⟨b.next hb, b1, by omega⟩, ⟨ho, hlo, Nat.le_refl _⟩, ⟨d.next hb, d1, by omega⟩, r1, .inl (by omega), r3, .inl (by omega), r5, .inr (by omega)⟩
end Go.Proofs.YtcgljeagjchobaaGreat
namespace Go.Proofs.YtcgljeagjchobaaGreat
open Go.RowKit

theorem pick_gen {α : Type} {p : Nat → α → Prop} : ∀ {len : Nat}, (∀ i, i < len → ∃ q, p i q) → ∃ hs : List α, hs.length = len ∧ ∀ j (hj : j < hs.length), p j hs[j] := by
  intro len
  induction len with
  | zero => intro _; exact ⟨[], rfl, fun j hj => absurd hj (Nat.not_lt_zero _)⟩
  | succ k ih =>
    intro each
    obtain ⟨hs, hlen, hq⟩ := ih (fun i hi => each i (by omega))
    obtain ⟨q, hqk⟩ := each k (by omega)
    refine ⟨hs ++ [q], by simp [hlen], fun j hj => ?_⟩
    by_cases e : j < hs.length
    · rw [List.getElem_append_left e]; exact hq j e
    · have : j = k := by simp [hlen] at hj; omega
      subst this
      rw [List.getElem_append_right (by omega)]
      simp only [hlen, Nat.sub_self, List.getElem_cons_zero]
      exact hqk
theorem add_pick (b o j : Nat) : (⟨b, o, none⟩ : Addr).add j = ⟨b, o + j, none⟩ := by unfold Addr.add; split <;> simp_all
end Go.Proofs.YtcgljeagjchobaaGreat
