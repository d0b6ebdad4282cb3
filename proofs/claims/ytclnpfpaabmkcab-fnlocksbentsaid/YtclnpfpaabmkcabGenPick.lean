/-
  Boxes of several cells, and rows that are made one by one.
  Whether a list of texts stands under another.
  Plain facts on names and paths: no program in sight.
  Plain facts on the text of a path: no program in sight.
  Locks: no program in sight.
  Lists of locks that are right: no program in sight.
  A lock that is drawn.
  A row of texts that the call owns, as a list of texts.
  Rows of texts, none of them frozen.
  Slices of locks: what they hold, and that it stays.
  A lock in a box.
  Out of many choices a list.
-/
import Derived.Test.YtclnpfpaabmkcabGenOwn
import Derived.WalkKit
import Derived.Test.YtclnpfpaabmkcabDrawNI
import Derived.Test.YtclnpfpaabmkcabTurn
import Derived.Lib.Join
import Derived.Deep.Onto
import Derived.Below
namespace Go.Proofs.Ytclnpfpaabmkcab
open Go.RowKit M
set_option linter.unusedVariables false

/-- The blocks from l on, before u. -/
def IvG (l u : Nat) : Nat → Prop := fun x => l ≤ x ∧ x < u
theorem Own.up {w : World} {v : Value} {x : Lf} {l u l' u' : Nat} (h : Own w v x (IvG l u)) (h1 : l' ≤ l) (h2 : u ≤ u') : Own w v x (IvG l' u') :=
  h.wide (fun y hy => ⟨Nat.le_trans h1 hy.1, Nat.lt_of_lt_of_le hy.2 h2⟩)
theorem Own.vw {w : World} {v : Value} {x : Lf} {l u B : Nat} (h : Own w v x (IvG l u)) (hB : u ≤ B) : View w B v x := h.view (fun y hy => Nat.lt_of_lt_of_le hy.2 hB)
theorem View.turn {w w' : World} {v : Value} {x : Lf} {B : Nat} {S : Nat → Prop} (h : View w B v x) (t : Turn S w w') (hS : ∀ y, S y → B ≤ y) (hB : B ≤ w.heap.size) : View w' B v x :=
  h.stays (t.below hS hB) (Nat.le_refl _)
theorem bcellG {B : Nat} {W w1 : World} (hb : Below B W w1) : (∀ b o, b < B → w1.cell? ⟨b, o, none⟩ = W.cell? ⟨b, o, none⟩) ∧ (∀ b o, b < B → w1.frozen? ⟨b, o, none⟩ = W.frozen? ⟨b, o, none⟩) :=
  ⟨fun b o h => hb.cell (p := ⟨b, o, none⟩) h, fun b o h => hb.frozen (p := ⟨b, o, none⟩) h⟩
theorem below_drewG {w w' : World} {n : Nat} (hb : Below n w w') : Below n w w'.drew := ⟨hb.1, hb.2, hb.3, hb.4, hb.5⟩
theorem retG {a b : Bool} (h : a = b) : (Ending.returned (.bool a) : Ending) = .returned (.bool b) := by rw [h]

/-- A box: its cells. -/
def BoxV (w : World) (N : Nat) (vs : List Value) : Prop := N < w.heap.size ∧ ∀ i v, vs[i]? = some v → w.cell? ⟨N, i, none⟩ = some v ∧ w.frozen? ⟨N, i, none⟩ = false
theorem BoxV.made (w : World) (vs : List Value) (t : TypeId) : BoxV (w.alloc (Obj.cells vs.toArray t)) w.heap.size vs := by
  have hr := World.rowIs_alloc w vs.toArray t (fun i => (vs[i]?).getD (.bool false)) (fun i hi => by
    have hi' : i < vs.length := by simpa using hi
    simp [List.getElem?_eq_getElem hi'])
  refine ⟨hr.lt, fun i v hv => ?_⟩
  have hi := (List.getElem?_eq_some_iff.1 hv).1
  exact ⟨by rw [hr.cell (by simpa using hi), hv]; rfl, hr.frozen i⟩
theorem BoxV.next {w w' : World} {N : Nat} {vs : List Value} (h : BoxV w N vs) (hb : Below w.heap.size w w') : BoxV w' N vs :=
  ⟨Nat.lt_of_lt_of_le h.1 hb.size, fun i v hv => by rw [hb.cell (p := ⟨N, i, none⟩) h.1, hb.frozen (p := ⟨N, i, none⟩) h.1]; exact h.2 i v hv⟩
theorem BoxV.turn {w w' : World} {N : Nat} {vs : List Value} {S : Nat → Prop} (h : BoxV w N vs) (t : Turn S w w') (hN : ¬ S N) : BoxV w' N vs :=
  ⟨Nat.lt_of_lt_of_le h.1 t.size, fun i v hv => by rw [t.cell h.1 hN, t.frozen h.1 hN]; exact h.2 i v hv⟩
theorem BoxV.alloc {w : World} {N : Nat} {vs : List Value} (h : BoxV w N vs) (o : Obj) : BoxV (w.alloc o) N vs := h.next ((Below.refl _ _).alloc (Nat.le_refl _) o)
theorem BoxV.drew {w : World} {N : Nat} {vs : List Value} (h : BoxV w N vs) : BoxV w.drew N vs := h.next (below_drewG (Below.refl _ _))
theorem BoxV.set {w : World} {N : Nat} {vs : List Value} (h : BoxV w N vs) (i : Nat) (hi : i < vs.length) (v : Value) : BoxV (w.setCell ⟨N, i, none⟩ v) N (vs.set i v) := by
  refine ⟨by simpa using h.1, fun j u hu => ?_⟩
  rw [World.frozen?_setCell]
  by_cases e : j = i
  · subst e
    rw [List.getElem?_set_self hi] at hu
    cases hu
    exact ⟨World.cell?_setCell_same _ _ _ (h.2 j _ (List.getElem?_eq_getElem hi)).1, (h.2 j _ (List.getElem?_eq_getElem hi)).2⟩
  · rw [List.getElem?_set_ne (fun e' => e e'.symm)] at hu
    exact ⟨(World.cell?_setCell_other _ _ _ _ (fun e' => e (congrArg Addr.off e').symm)).trans (h.2 j u hu).1, (h.2 j u hu).2⟩
theorem BoxV.other {w : World} {N : Nat} {vs : List Value} (h : BoxV w N vs) (p : Addr) (v : Value) (hp : p.block ≠ N) : BoxV (w.setCell p v) N vs :=
  ⟨by simpa using h.1, fun i u hu => by
    rw [World.frozen?_setCell, World.cell?_setCell_other _ _ _ _ (fun e => hp (congrArg Addr.block e))]
    exact h.2 i u hu⟩

/-- Some cells stored, one behind the other. -/
def setAll (w : World) (g o : Nat) : List Value → World
  | [] => w
  | v :: vs => setAll (w.setCell ⟨g, o, none⟩ v) g (o + 1) vs
theorem setAll_size (w : World) (g o : Nat) (vs : List Value) : (setAll w g o vs).heap.size = w.heap.size := by
  induction vs generalizing w o with
  | nil => rfl
  | cons v vs ih => show (setAll _ g (o + 1) vs).heap.size = _; rw [ih]; simp
theorem setAll_frozen (w : World) (g o : Nat) (vs : List Value) (p : Addr) : (setAll w g o vs).frozen? p = w.frozen? p := by
  induction vs generalizing w o with
  | nil => rfl
  | cons v vs ih => show (setAll _ g (o + 1) vs).frozen? p = _; rw [ih, World.frozen?_setCell]
theorem setAll_other (w : World) (g o : Nat) (vs : List Value) (b q : Nat) (h : b ≠ g ∨ q < o ∨ o + vs.length ≤ q) : (setAll w g o vs).cell? ⟨b, q, none⟩ = w.cell? ⟨b, q, none⟩ := by
  induction vs generalizing w o with
  | nil => rfl
  | cons v vs ih =>
    show (setAll _ g (o + 1) vs).cell? _ = _
    rw [List.length_cons] at h
    rw [ih _ _ (by omega)]
    refine World.cell?_setCell_other _ _ _ _ (fun e => ?_)
    have e1 := congrArg Addr.block e
    have e2 := congrArg Addr.off e
    simp only at e1 e2
    omega
theorem setAll_at (w : World) (g o : Nat) (vs : List Value) (i : Nat) (v : Value) (hv : vs[i]? = some v) (h : ∀ i, i < vs.length → ∃ u, w.cell? ⟨g, o + i, none⟩ = some u) : (setAll w g o vs).cell? ⟨g, o + i, none⟩ = some v := by
  induction vs generalizing w o i with
  | nil => simp at hv
  | cons x vs ih =>
    show (setAll _ g (o + 1) vs).cell? _ = _
    cases i with
    | zero =>
      simp only [List.getElem?_cons_zero, Option.some.injEq] at hv
      subst hv
      rw [setAll_other _ _ _ _ _ _ (.inr (.inl (by omega)))]
      obtain ⟨u, hu⟩ := h 0 (by simp)
      exact World.cell?_setCell_same _ _ _ hu
    | succ i =>
      have := ih (w.setCell ⟨g, o, none⟩ x) (o + 1) i (by simpa using hv) (fun q hq => by
        obtain ⟨u, hu⟩ := h (q + 1) (by rw [List.length_cons]; omega)
        refine ⟨u, ?_⟩
        rw [World.cell?_setCell_other _ _ _ _ (fun e => by have := congrArg Addr.off e; simp at this; omega)]
        rw [show o + 1 + q = o + (q + 1) by omega]
        exact hu)
      rw [show o + (i + 1) = o + 1 + i by omega]
      exact this
theorem setAll_block (w : World) (g o : Nat) (vs : List Value) (b : Nat) (h : b ≠ g) : (setAll w g o vs).heap[b]? = w.heap[b]? := by
  induction vs generalizing w o with
  | nil => rfl
  | cons v vs ih =>
    show (setAll _ g (o + 1) vs).heap[b]? = _
    rw [ih]
    exact Below.heap_setCell _ _ _ _ h
theorem setAll_below {w w1 : World} {g o B : Nat} (vs : List Value) (hb : Below B w w1) (h : B ≤ g) : Below B w (setAll w1 g o vs) := by
  induction vs generalizing w1 o with
  | nil => exact hb
  | cons v vs ih => exact ih (hb.setCell (p := ⟨g, o, none⟩) h v)

theorem BoxV.setAll {w : World} {N g o : Nat} {vs us : List Value} (h : BoxV w N vs) (hN : N ≠ g) : BoxV (setAll w g o us) N vs :=
  ⟨by rw [setAll_size]; exact h.1, fun i v hv => by rw [setAll_other _ _ _ _ _ _ (.inl hN), setAll_frozen]; exact h.2 i v hv⟩

/-- What is made so far of a row: the first k elements. -/
def MadeG (w : World) (g K n : Nat) (R : Nat → List Lf) (k : Nat) : Prop :=
  g < w.heap.size ∧ (∀ o, o < n * K → ∃ v, w.cell? ⟨g, o, none⟩ = some v) ∧ (∀ o, w.frozen? ⟨g, o, none⟩ = false) ∧
  ∃ (C : Nat → Nat → Value) (Sf : Nat → Nat → Nat → Prop), (∀ j i, j < k → i < K → w.cell? ⟨g, j * K + i, none⟩ = some (C j i)) ∧ (∀ j i x, j < k → (R j)[i]? = some x → Own w (C j i) x (Sf j i)) ∧
    (∀ j i y, Sf j i y → j < k ∧ g < y ∧ y < w.heap.size) ∧ (∀ j i j' i' y, (j ≠ j' ∨ i ≠ i') → Sf j i y → ¬ Sf j' i' y)
theorem MadeG.start (w : World) (zs : Array Value) (n K : Nat) (T : TypeId) (R : Nat → List Lf) : MadeG (w.alloc (.cells (madeCells zs (n * K)) T)) w.heap.size K n R 0 := by
  have hr := World.rowIs_alloc w (madeCells zs (n * K)) T (fun i => ((madeCells zs (n * K))[i]?).getD (.bool false)) (fun i hi => by rw [Array.getElem?_eq_getElem hi]; rfl)
  rw [size_madeCells] at hr
  exact ⟨hr.lt, fun o ho => ⟨_, hr.cell ho⟩, fun o => hr.frozen o, fun _ _ => .bool false, fun _ _ _ => False, fun j i hj => absurd hj (Nat.not_lt_zero _), fun j i x hj => absurd hj (Nat.not_lt_zero _), fun j i y h => h.elim, fun j i j' i' y _ h => h.elim⟩
theorem MadeG.next {w w1 : World} {g K n k : Nat} {R : Nat → List Lf} (m : MadeG w g K n R k) (hb : Below w.heap.size w w1) (hk : k < n) (vs : List Value) (hvs : vs.length = K) (Tf : Nat → Nat → Prop)
    (ho : ∀ i x, (R k)[i]? = some x → ∃ v, vs[i]? = some v ∧ Own w1 v x (Tf i)) (ht : ∀ i y, Tf i y → w.heap.size ≤ y ∧ y < w1.heap.size) (hd : ∀ i i' y, i ≠ i' → Tf i y → ¬ Tf i' y) :
    MadeG (setAll w1 g (k * K) vs) g K n R (k + 1) := by
  obtain ⟨hg, hex, hfz, C, Sf, hc, hv, hs, hdd⟩ := m
  have hex1 : ∀ o, o < n * K → ∃ v, w1.cell? ⟨g, o, none⟩ = some v := fun o h => by rw [hb.cell (p := ⟨g, o, none⟩) hg]; exact hex o h
  have hrow : ∀ j i, j < n → i < K → j * K + i < n * K := fun j i hj hi => by
    have := Nat.mul_le_mul_right K (show j + 1 ≤ n from hj)
    rw [Nat.add_mul] at this
    omega
  have hnew : ∀ i, i < vs.length → ∃ u, w1.cell? ⟨g, k * K + i, none⟩ = some u := fun i hi => hex1 _ (hrow k i hk (by omega))
  have hz := hb.size
  refine ⟨by rw [setAll_size]; omega, fun o h => ?_, fun o => by rw [setAll_frozen, hb.frozen (p := ⟨g, o, none⟩) hg]; exact hfz o, fun j i => if j = k then (vs[i]?).getD (.bool false) else C j i, fun j i => if j = k then Tf i else Sf j i, fun j i hj hi => ?_, fun j i x hj hx => ?_, fun j i y hy => ?_, fun j i j' i' y hne hy => ?_⟩
  · by_cases e : k * K ≤ o ∧ o < k * K + vs.length
    · obtain ⟨v, hv'⟩ : ∃ v, vs[o - k * K]? = some v := ⟨_, List.getElem?_eq_getElem (by omega)⟩
      have := setAll_at w1 g (k * K) vs (o - k * K) v hv' hnew
      rw [show k * K + (o - k * K) = o by omega] at this
      exact ⟨v, this⟩
    · rw [setAll_other _ _ _ _ _ _ (.inr (by omega))]
      exact hex1 o h
  · by_cases e : j = k
    · subst e
      simp only [if_true]
      obtain ⟨v, hv'⟩ : ∃ v, vs[i]? = some v := ⟨_, List.getElem?_eq_getElem (by omega)⟩
      rw [setAll_at w1 g (j * K) vs i v hv' hnew, hv']
      rfl
    · simp only [e, if_false]
      have hjk : j < k := by omega
      have := Nat.mul_le_mul_right K (show j + 1 ≤ k from hjk)
      rw [Nat.add_mul] at this
      rw [setAll_other _ _ _ _ _ _ (.inr (.inl (by omega))), hb.cell (p := ⟨g, _, none⟩) hg]
      exact hc j i hjk hi
  · have hkeep : ∀ u y S, Own w1 u y S → (∀ z, S z → z ≠ g) → Own (setAll w1 g (k * K) vs) u y S := fun u y S h hS =>
      h.keep (by rw [setAll_size]; exact Nat.le_refl _) (fun b o hb' _ => setAll_other _ _ _ _ _ _ (.inl (hS b hb'))) (fun b o _ _ => setAll_frozen _ _ _ _ _)
    by_cases e : j = k
    · subst e
      simp only [if_true]
      obtain ⟨v, hv', h1⟩ := ho i x hx
      rw [hv']
      exact hkeep _ _ _ h1 (fun z hz' e => by have := (ht i z hz').1; omega)
    · simp only [e, if_false]
      have hjk : j < k := by omega
      exact hkeep _ _ _ ((hv j i x hjk hx).next hb) (fun z hz' e => by have := (hs j i z hz').2.1; omega)
  · rw [setAll_size]
    by_cases e : j = k
    · subst e
      simp only [if_true] at hy
      have := ht i y hy
      omega
    · simp only [e, if_false] at hy
      have := hs j i y hy
      omega
  · by_cases e : j = k
    · by_cases e' : j' = k
      · subst e e'
        simp only [if_true] at hy ⊢
        exact hd i i' y (by omega) hy
      · simp only [e, e', if_true, if_false] at hy ⊢
        intro h2
        have h3 := hs j' i' y h2
        have h4 := ht i y hy
        omega
    · by_cases e' : j' = k
      · simp only [e, e', if_true, if_false] at hy ⊢
        intro h2
        have h3 := hs j i y hy
        have h4 := ht i' y h2
        omega
      · simp only [e, e', if_false] at hy ⊢
        exact hdd j i j' i' y hne hy
theorem MadeG.next0 {w w1 : World} {g K n k : Nat} {R : Nat → List Lf} (m : MadeG w g K n R k) (hb : Below w.heap.size w w1) : MadeG w1 g K n R k := by
  obtain ⟨hg, hex, hfz, C, Sf, hc, hv, hs, hdd⟩ := m
  exact ⟨Nat.lt_of_lt_of_le hg hb.size, fun o h => by rw [hb.cell (p := ⟨g, o, none⟩) hg]; exact hex o h, fun o => by rw [hb.frozen (p := ⟨g, o, none⟩) hg]; exact hfz o, C, Sf, fun j i hj hi => by rw [hb.cell (p := ⟨g, _, none⟩) hg]; exact hc j i hj hi, fun j i x hj hx => (hv j i x hj hx).next hb, fun j i y hy => ⟨(hs j i y hy).1, (hs j i y hy).2.1, Nat.lt_of_lt_of_le (hs j i y hy).2.2 hb.size⟩, hdd⟩
theorem MadeG.cell {w : World} {g K n k : Nat} {R : Nat → List Lf} (m : MadeG w g K n R k) (hk : k < n) (i : Nat) (hi : i < K) : ∃ v, w.cell? ⟨g, k * K + i, none⟩ = some v ∧ w.frozen? ⟨g, k * K + i, none⟩ = false := by
  obtain ⟨hg, hex, hfz, _⟩ := m
  have := Nat.mul_le_mul_right K (show k + 1 ≤ n from hk)
  rw [Nat.add_mul] at this
  obtain ⟨v, hv⟩ := hex (k * K + i) (by omega)
  exact ⟨v, hv, hfz _⟩
theorem MadeG.lt {w : World} {g K n k : Nat} {R : Nat → List Lf} (m : MadeG w g K n R k) : g < w.heap.size := m.1
theorem MadeG.done {w : World} {g K n : Nat} {rows : List (List Lf)} {R : Nat → List Lf} (m : MadeG w g K n R n) (hn : rows.length = n) (hm : n ≤ maxLen) (hK : ∀ r ∈ rows, r.length = K) (e : ∀ j (hj : j < rows.length), R j = rows[j]) : Own w (.slice (some ⟨g, 0, none⟩) n n) (.l rows) (IvG g w.heap.size) := by
  obtain ⟨hg, hex, hfz, C, Sf, hc, hv, hs, hdd⟩ := m
  subst hn
  refine RowG.own (R := R) (o := 0) (K := K) (C := C) (Sf := Sf) ⟨⟨Nat.le_refl _, hg⟩, hg, fun j hj => by rw [e j hj]; exact hK _ (List.getElem_mem hj), fun j i hj hi => ?_, fun j i x hj hx => hv j i x hj hx, fun j i y hy => ?_, hdd⟩ e (Nat.le_refl _) hm
  · rw [Nat.zero_add]
    exact ⟨hc j i hj hi, hfz _⟩
  · have := hs j i y hy
    exact ⟨⟨by omega, this.2.2⟩, by omega⟩
end Go.Proofs.Ytclnpfpaabmkcab
namespace Go.Proofs.Ytclnpfpaabmkcab

/-- Whether the first list stands under the second. -/
def underB (ss tt : List ByteArray) : Bool := decide (tt.length < ss.length) && sameL (ss.take tt.length) tt

end Go.Proofs.Ytclnpfpaabmkcab
namespace Go.Proofs.Ytclnpfpaabmkcab.M

/-- Whether a text is a name, as the document has it. -/
def noSlash (l : List UInt8) : Bool := l.all fun c => !(c == 47)
def nameB (s : ByteArray) : Bool := noSlash s.data.toList && (inB s.size 1 8 && (allB s.data.toList [0] && (!(s.toList == [46]) && !(s.toList == [46, 46]))))

theorem noSlash_snoc (s : ByteArray) (k : Nat) (h : k < s.size) (h0 : noSlash (s.data.toList.take k) = true) (h1 : ¬ s[k] = 47) : noSlash (s.data.toList.take (k + 1)) = true := by
  rw [take_snoc s k h]
  unfold noSlash at *
  rw [List.all_append, h0]
  simp [h1]

theorem mem_at (s : ByteArray) (k : Nat) (h : k < s.size) : s[k] ∈ s.data.toList := by
  have e : s.data.toList.length = s.size := Array.length_toList
  have h' : k < s.data.toList.length := by omega
  exact List.getElem_mem h'

theorem noSlash_not (s : ByteArray) (k : Nat) (h : k < s.size) (h1 : s[k] = 47) : noSlash s.data.toList = false := by
  unfold noSlash
  rw [List.all_eq_false]
  exact ⟨_, mem_at s k h, by simp [h1]⟩

theorem u8_47 {c : UInt8} (h : ((c.toNat : Int) == 47) = true) : c = 47 := by
  have h' : c.toNat = 47 := by simp at h; omega
  exact UInt8.toNat_inj.1 (by rw [h']; rfl)

theorem okc_of {c : UInt8} (h : (32 ≤ (c.toNat : Int) ∧ (c.toNat : Int) ≤ 126) ∧ ((c.toNat : Int) == 47) = false) : anyB (c.toNat : Int) [0] = true ∧ ¬ c = 47 := by
  refine ⟨?_, fun e => by rw [e] at h; exact absurd h.2 (by decide)⟩
  simp [anyB, isB]
  omega

theorem okc_not {c : UInt8} (h : ((c.toNat : Int) < 32 ∨ 126 < (c.toNat : Int)) ∨ ((c.toNat : Int) == 47) = true) (h' : anyB (c.toNat : Int) [0] = true ∧ ¬ c = 47) : False := by
  have h0 := h'.1
  simp [anyB, isB] at h0
  rcases h with h | h
  · omega
  · exact h'.2 (u8_47 h)

theorem noSlash_no (s : ByteArray) (k : Nat) (h : k < s.size) (h1 : ((s[k].toNat : Int) == 47) = true) : nameB s = false := by
  unfold nameB; rw [noSlash_not s k h (u8_47 h1)]; rfl

theorem plain_no (s : ByteArray) (k : Nat) (h : k < s.size) (h1 : anyB (s[k].toNat : Int) [0] = false) : nameB s = false := by
  unfold nameB; rw [allB_not s [0] k h (by simp [h1])]; simp

theorem nameB_all (s : ByteArray) (h0 : noSlash s.data.toList = true) (h1 : inB s.size 1 8 = true) (h2 : allB s.data.toList [0] = true) (h3 : ¬ s.toList = [46]) (h4 : ¬ s.toList = [46, 46]) : nameB s = true := by
  unfold nameB; simp [h0, h1, h2, h3, h4]

end Go.Proofs.Ytclnpfpaabmkcab.M
namespace Go.Proofs.Ytclnpfpaabmkcab.M

/-- Whether these are the names of a path, as the document has it. -/
def pathB (ss : List ByteArray) : Bool := ss.all nameB && decide (ss.length ≤ 4)
def qB (s : ByteArray) : ByteArray := bytesOf (quoteL s.data.toList)
def tellL (ss : List ByteArray) : List UInt8 := ss.flatMap fun s => 47 :: quoteL s.data.toList
/-- The text of a path. -/
def ptextL (ss : List ByteArray) : List UInt8 := if pathB ss then (if ss = [] then [47] else tellL ss) else []

theorem ptextL_not {ss : List ByteArray} (h : pathB ss = false) : ptextL ss = [] := by simp [ptextL, h]
theorem ptextL_nil : ptextL [] = [47] := by simp [ptextL, pathB]
theorem ptextL_some {ss : List ByteArray} (h : pathB ss = true) (h0 : ss ≠ []) : ptextL ss = tellL ss := by simp [ptextL, h, h0]

theorem tellL_snoc (ss : List ByteArray) (k : Nat) (h : k < ss.length) : tellL (ss.take (k + 1)) = tellL (ss.take k) ++ [47] ++ quoteL (ss[k]).data.toList := by
  unfold tellL
  rw [List.take_succ_eq_append_getElem h, List.flatMap_append]
  simp only [List.flatMap_cons, List.flatMap_nil, List.append_nil, List.append_assoc, List.singleton_append]

theorem nameB_size {s : ByteArray} (h : nameB s = true) : s.size ≤ 8 := by
  unfold nameB at h
  simp only [Bool.and_eq_true, inB, decide_eq_true_eq] at h
  omega

theorem pathB_name {ss : List ByteArray} (h : pathB ss = true) (k : Nat) (hk : k < ss.length) : nameB ss[k] = true := by
  unfold pathB at h
  simp only [Bool.and_eq_true, List.all_eq_true] at h
  exact h.1 _ (List.getElem_mem hk)
theorem pathB_len {ss : List ByteArray} (h : pathB ss = true) : ss.length ≤ 4 := by
  unfold pathB at h
  simp only [Bool.and_eq_true, decide_eq_true_eq] at h
  exact h.2

theorem quote_short {s : ByteArray} (h : s.size ≤ 8) : (quoteL s.data.toList).length ≤ 24 := by
  have := quoteL_le s.data.toList
  have e : s.data.toList.length = s.size := Array.length_toList
  omega

theorem tellL_le {ss : List ByteArray} (h : pathB ss = true) (k : Nat) (hk : k ≤ ss.length) : (tellL (ss.take k)).length ≤ 25 * k := by
  induction k with
  | zero => simp [tellL]
  | succ k ih =>
    rw [tellL_snoc ss k hk]
    have h1 := ih (by omega)
    have h2 := quote_short (nameB_size (pathB_name h k hk))
    simp only [List.length_append, List.length_cons, List.length_nil]
    omega

theorem tellL_join (ss : List ByteArray) (h : ss ≠ []) : [47] ++ Lib.join ((ss.map qB).map (·.data.toList)) [47] = tellL ss := by
  cases ss with
  | nil => exact absurd rfl h
  | cons s r =>
    rw [List.map_cons, List.map_cons, Lib.join_cons]
    simp only [tellL, Lib.joinTail, List.map_map, List.flatMap]
    simp only [Function.comp_def, qB, bytesOf, List.cons_append, List.nil_append, List.map_cons, List.flatten_cons]

theorem join_le {ss : List ByteArray} (h : pathB ss = true) : (Lib.join ((ss.map qB).map (·.data.toList)) [47]).length ≤ 100 := by
  by_cases h0 : ss = []
  · subst h0; simp [Lib.join]
  · have e := congrArg List.length (tellL_join ss h0)
    have h1 := tellL_le h ss.length (Nat.le_refl _)
    rw [List.take_length] at h1
    have := pathB_len h
    simp only [List.length_append, List.length_cons, List.length_nil] at e
    omega
end Go.Proofs.Ytclnpfpaabmkcab.M
namespace Go.Proofs.Ytclnpfpaabmkcab
open Go.RowKit

namespace M
/-- A lock. -/
structure Lk where
  tk : Int
  pa : List ByteArray
  de : Bool
  sh : Bool
  un : Int
deriving DecidableEq
end M
open M

def szK (r : Lk) : Nat := r.pa.length + sumS r.pa
def sumK (rs : List Lk) : Nat := (rs.map szK).sum
theorem sumK_snoc (rs : List Lk) (k : Nat) (hk : k < rs.length) : sumK (rs.take (k + 1)) = sumK (rs.take k) + szK rs[k] := by
  unfold sumK
  rw [List.take_succ_eq_append_getElem hk, List.map_append, List.sum_append]
  simp only [List.map_cons, List.map_nil, List.sum_cons, List.sum_nil, Nat.add_zero]
theorem sumK_mem (rs : List Lk) (r : Lk) (h : r ∈ rs) : szK r ≤ sumK rs := by
  induction rs with
  | nil => cases h
  | cons x l ih =>
    simp only [sumK, List.map_cons, List.sum_cons] at *
    rcases List.mem_cons.1 h with rfl | h
    · omega
    · have := ih h; omega
theorem sumK_append (a b : List Lk) : sumK (a ++ b) = sumK a + sumK b := by simp [sumK]
theorem sumK_sub {a b : List Lk} (h : List.Sublist a b) : sumK a ≤ sumK b := by
  induction h with
  | slnil => exact Nat.le_refl _
  | cons x _ ih => simp only [sumK, List.map_cons, List.sum_cons] at *; omega
  | cons_cons x _ ih => simp only [sumK, List.map_cons, List.sum_cons] at *; omega

def sameK (ss tt : List Lk) : Bool := decide (ss = tt)
theorem sameK_refl (ss : List Lk) : sameK ss ss = true := by simp [sameK]
theorem sameK_len {ss tt : List Lk} (h : ¬ ss.length = tt.length) : sameK ss tt = false := by
  simp only [sameK, decide_eq_false_iff_not]; intro e; exact h (by rw [e])
theorem sameK_not {ss tt : List Lk} (k : Nat) (h1 : k < ss.length) (h2 : k < tt.length) (h : ¬ ss[k] = tt[k]) : sameK ss tt = false := by
  simp only [sameK, decide_eq_false_iff_not]; intro e; subst e; exact h rfl
theorem sameK_all {ss tt : List Lk} (hl : ss.length = tt.length) (k : Nat) (hk : ¬ k < ss.length) (h : ss.take k = tt.take k) : sameK ss tt = true := by
  rw [List.take_of_length_le (by omega), List.take_of_length_le (by omega)] at h
  simp [sameK, h]
theorem take_sameK {ss tt : List Lk} (k : Nat) (h1 : k < ss.length) (h2 : k < tt.length) (h0 : ss.take k = tt.take k) (h : ss[k] = tt[k]) : ss.take (k + 1) = tt.take (k + 1) := by
  rw [List.take_succ_eq_append_getElem h1, List.take_succ_eq_append_getElem h2, h0, h]

/-- Whether it is a lock. -/
def lockB (x : Lk) : Bool := inB x.tk 1 9999 && (pathB x.pa && inB x.un 0 9999999)
/-- Whether it covers a path. -/
def covB (x : Lk) (p : List ByteArray) : Bool := sameL x.pa p || (x.de && underB p x.pa)
def clashB (a b : Lk) : Bool := (!a.sh || !b.sh) && (covB a b.pa || covB b a.pa)
/-- Whether two of one list bar each other. -/
def barB (a b : Lk) : Bool := decide (a.tk = b.tk) || clashB a b
theorem clashB_comm (a b : Lk) : clashB a b = clashB b a := by
  unfold clashB
  rw [Bool.or_comm (!a.sh), Bool.or_comm (covB a b.pa)]
/-- Whether lock i is right, and bars none ahead of it. -/
def okLkAt (l : List Lk) (i : Nat) : Bool := match l[i]? with
  | none => true
  | some x => lockB x && (l.take i).all fun y => !barB y x
def locksB (l : List Lk) : Bool := decide (l.length ≤ 6) && (List.range l.length).all (okLkAt l)
end Go.Proofs.Ytclnpfpaabmkcab
namespace Go.Proofs.Ytclnpfpaabmkcab
open Go.RowKit M
set_option linter.unusedVariables false

theorem locksB_long {l : List Lk} (h : ¬ l.length ≤ 6) : locksB l = false := by unfold locksB; rw [decide_eq_false h]; rfl
theorem locksB_at {l : List Lk} (i : Nat) (hi : i < l.length) (h : okLkAt l i = false) : locksB l = false := by
  unfold locksB
  have : (List.range l.length).all (okLkAt l) = false := by
    rw [Bool.eq_false_iff]
    intro e
    rw [List.all_eq_true] at e
    rw [e i (List.mem_range.2 hi)] at h
    cases h
  rw [this, Bool.and_false]
theorem locksB_not {l : List Lk} (i : Nat) (hi : i < l.length) (h : lockB l[i] = false) : locksB l = false := by
  apply locksB_at i hi
  unfold okLkAt
  rw [List.getElem?_eq_getElem hi]
  simp only [h, Bool.false_and]
theorem locksB_bar {l : List Lk} (k i : Nat) (hk : k < i) (hi : i < l.length) (h : barB (l[k]'(by omega)) l[i] = true) : locksB l = false := by
  apply locksB_at i hi
  unfold okLkAt
  rw [List.getElem?_eq_getElem hi]
  have : (l.take i).all (fun y => !barB y l[i]) = false := by
    rw [Bool.eq_false_iff]
    intro e
    rw [List.all_eq_true] at e
    have hm : l[k]'(by omega) ∈ l.take i := by
      rw [List.mem_iff_getElem]
      exact ⟨k, by rw [List.length_take]; omega, by rw [List.getElem_take]⟩
    have := e _ hm
    rw [h] at this
    cases this
  simp only [this, Bool.and_false]
theorem locksB_yes {l : List Lk} (h6 : l.length ≤ 6) (h1 : ∀ i (hi : i < l.length), lockB l[i] = true) (h2 : ∀ i k (hk : k < i) (hi : i < l.length), barB (l[k]'(by omega)) l[i] = false) : locksB l = true := by
  unfold locksB
  rw [decide_eq_true h6, Bool.true_and, List.all_eq_true]
  intro i hi
  have hi' : i < l.length := List.mem_range.1 hi
  unfold okLkAt
  rw [List.getElem?_eq_getElem hi']
  simp only [h1 i hi', Bool.true_and, List.all_eq_true]
  intro y hy
  obtain ⟨k, hk, rfl⟩ := List.mem_iff_getElem.1 hy
  have hk' : k < i := by rw [List.length_take] at hk; omega
  rw [List.getElem_take, h2 i k hk' hi']
  rfl
theorem bar_tk {a b : Lk} (h : a.tk = b.tk) : barB a b = true := by unfold barB; rw [decide_eq_true h]; rfl
theorem bar_cl {a b : Lk} (h : ¬ a.tk = b.tk) : barB a b = clashB a b := by unfold barB; rw [decide_eq_false h]; rfl
end Go.Proofs.Ytclnpfpaabmkcab
namespace Go.Proofs.Ytclnpfpaabmkcab
open Go.RowKit M
set_option linter.unusedVariables false

theorem intNewL {w : World} {N : Nat} {a : Option Addr} {len cap : Nat} {zs : List Int} (h : DX w N a len cap zs) (ss : List Int) (C : Array Value) (T : TypeId) (n M : Nat) (hM : M = w.heap.size) (hC : C = (ss.map (Value.int .i64)).toArray) (hn : ss.length = n) (h0 : 0 < n) (h1 : n ≤ 256) :
    Calls Try.prog 50 #[.pointer (some ⟨N, 0, none⟩), .slice (some ⟨M, 0, none⟩) n n] (w.alloc (.cells C T)) fun e w' => (∃ x : Int, e = .returned (.int .i64 x)) ∧ DX w' N a len cap zs ∧ w.grownBy w' (some N) := by
  obtain ⟨c, h⟩ := h
  refine (intNew h ss C T n M hM hC hn h0 h1).mono ?_
  rintro e w1 ⟨rfl, hd, hg⟩
  exact ⟨⟨_, rfl⟩, ⟨_, hd⟩, hg⟩
theorem BoxV.grown {w w' : World} {b N : Nat} {vs : List Value} (h : BoxV w b vs) (hg : w.grownBy w' (some N)) (hN : b ≠ N) : BoxV w' b vs := by
  have hb := hg.block b h.1 (by simpa using hN)
  refine ⟨Nat.lt_of_lt_of_le h.1 hg.size, fun i v hv => ⟨(World.cell?_of_block (a := ⟨b, i, none⟩) hb).trans (h.2 i v hv).1, ?_⟩⟩
  have := (h.2 i v hv).2
  simp only [World.frozen?, hb] at this ⊢
  exact this
theorem grown_set0 (w : World) (b k : Nat) (v : Value) : w.grownBy (w.setCell ⟨b, k, none⟩ v) (some b) :=
  ⟨rfl, rfl, rfl, by simp, fun i hi hne => Below.heap_setCell _ _ _ _ (by intro e; exact hne (by simp [e]))⟩
theorem owns_set0 {w : World} {B b k : Nat} {T : TypeId} {K : Nat} {g n c m : Nat} {cs : List Value} (h : w.ownsRow B T K (.slice (some ⟨g, 0, none⟩) n c) m cs) (v : Value) (hb : b ≠ g) : (w.setCell ⟨b, k, none⟩ v).ownsRow B T K (.slice (some ⟨g, 0, none⟩) n c) m cs :=
  World.ownsRow.kept h (grown_set0 w b k v) (by right; simp [Value.ownBlock]; omega)

set_option maxRecDepth 100000 in
set_option maxHeartbeats 4000000 in
theorem l13Lock_any {w : World} {N : Nat} {a : Option Addr} {len cap : Nat} {zs : List Int} (h : DX w N a len cap zs) :
    Calls Try.prog 40 #[.pointer (some ⟨N, 0, none⟩)] w fun e w' => (∃ (x : Lk) (g n c : Nat), 1 ≤ x.tk ∧ x.tk ≤ 9 ∧ Few 3 x.pa ∧ n = x.pa.length ∧ e = .returned (.agg #[.int .i64 x.tk, .slice (some ⟨g, 0, none⟩) n c, .bool x.de, .bool x.sh, .int .i64 x.un]) ∧ w'.ownsRow w.heap.size 9 1 (.slice (some ⟨g, 0, none⟩) n c) n (strCells x.pa)) ∧ DX w' N a len cap zs ∧ w.grownBy w' (some N) := by
  have hNl := h.lt
  have DA := hide (h.alloc (Obj.cells #[Value.int .i64 0, Value.slice none 0 0, Value.bool false, Value.bool false, Value.int .i64 0] 26))
  have BR := hide (BoxV.made w [Value.int .i64 0, Value.slice none 0 0, Value.bool false, Value.bool false, Value.int .i64 0] 26)
  have GA := hide (grown_alloc (grown_refl w (some N)) (Obj.cells #[Value.int .i64 0, Value.slice none 0 0, Value.bool false, Value.bool false, Value.int .i64 0] 26))
  have hzA : (w.alloc (Obj.cells #[Value.int .i64 0, Value.slice none 0 0, Value.bool false, Value.bool false, Value.int .i64 0] 26)).heap.size = w.heap.size + 1 := by simp
  obtain ⟨wA, hwA⟩ : ∃ wA, w.alloc (Obj.cells #[Value.int .i64 0, Value.slice none 0 0, Value.bool false, Value.bool false, Value.int .i64 0] 26) = wA := ⟨_, rfl⟩
  rw [hwA] at DA BR GA hzA
  have HZA := hide hzA
  clear h hzA
  go_enter Try.func40, Try.ntmps40
  go_wp2_with fail
  clear hwA
  refine (l1BelowX DA.out 9 (by decide) (by decide)).mono ?_
  rintro e w1 ⟨⟨k1, rfl, hk1⟩, dx1, g1⟩
  have D1 := hide dx1
  have G1 := hide (grown_trans GA.out g1)
  have BR1 := hide (BR.out.grown g1 (by omega))
  have z1 := g1.size
  have e1 := HZA.out
  clear dx1 g1 DA GA BR HZA
  have HZ1 := hide (show w.heap.size + 1 ≤ w1.heap.size by omega)
  clear e1 z1
  go_wp2_with fail
  refine (l2Draw_any D1.out).mono ?_
  rintro e w2 ⟨⟨ss, n, g, c, hf, hn, rfl, ho⟩, dx2, g2⟩
  have D2 := hide dx2
  have G2 := hide (grown_trans G1.out g2)
  have BR2 := hide (BR1.out.grown g2 (by omega))
  have HF := hide (And.intro hf hn)
  have HO2 := hide (World.ownsRow.mono ho HZ1.out)
  clear dx2 g2 D1 G1 BR1 hf hn ho
  go_wp2_with fail
  refine (l1OnceQ D2.out 2 (by decide) (by decide)).mono ?_
  rintro e w3 ⟨⟨b3, rfl⟩, dx3, g3⟩
  have D3 := hide dx3
  have G3 := hide (grown_trans G2.out g3)
  have BR3 := hide (BR2.out.grown g3 (by omega))
  have HO3 := hide (owns_grown HO2.out g3 (by omega))
  clear dx3 g3 D2 G2 BR2 HO2
  go_wp2_with fail
  refine (l1OnceQ D3.out 2 (by decide) (by decide)).mono ?_
  rintro e w4 ⟨⟨b4, rfl⟩, dx4, g4⟩
  have D4 := hide dx4
  have G4 := hide (grown_trans G3.out g4)
  have BR4 := hide (BR3.out.grown g4 (by omega))
  have HO4 := hide (owns_grown HO3.out g4 (by omega))
  clear dx4 g4 D3 G3 BR3 HO3
  go_wp2_with fail
  refine (intNewL D4.out [5, 10, 100] _ _ 3 _ rfl rfl rfl (by decide) (by decide)).mono ?_
  rintro e w5 ⟨⟨u5, rfl⟩, dx5, g5⟩
  have D5 := hide dx5
  have G5 := hide (grown_trans G4.out g5)
  have BR5 := hide (BR4.out.grown g5 (by omega))
  have HO5 := hide (owns_grown HO4.out g5 (by omega))
  clear dx5 g5 D4 G4 BR4 HO4
  have hg6 := (World.ownsRow.lt HO5.out g rfl).1
  have hne : w.heap.size ≠ g := by omega
  have r0 := (BR5.out.2 0 _ rfl)
  have r1 := (BR5.out.2 1 _ rfl)
  have r2 := (BR5.out.2 2 _ rfl)
  have r3 := (BR5.out.2 3 _ rfl)
  have r4 := (BR5.out.2 4 _ rfl)
  obtain ⟨q0, f0⟩ := r0
  obtain ⟨q1, f1⟩ := r1
  obtain ⟨q2, f2⟩ := r2
  obtain ⟨q3, f3⟩ := r3
  obtain ⟨q4, f4⟩ := r4
  have hk9 : (1 : Int) ≤ 1 + k1 ∧ (1 + k1 : Int) ≤ 9 := by omega
  go_wp2
  refine bodyPost_ret (v := .agg #[.int .i64 (1 + k1), .slice (some ⟨g, 0, none⟩) n c, .bool b3, .bool b4, .int .i64 u5]) (by simp [results, Try.results40, go_sem, q0, q1, q2, q3, q4]) rfl ⟨⟨⟨1 + k1, ss, b3, b4, u5⟩, g, n, c, hk9.1, hk9.2, HF.out.1, HF.out.2, rfl, World.ownsRow.mono (owns_set0 (owns_set0 (owns_set0 (owns_set0 (owns_set0 HO5.out _ hne) _ hne) _ hne) _ hne) _ hne) (Nat.le_succ _)⟩, ((((D5.out.set _ hNl).set _ hNl).set _ hNl).set _ hNl).set _ hNl, grown_setQ (grown_setQ (grown_setQ (grown_setQ (grown_setQ G5.out _ (Nat.le_refl _)) _ (Nat.le_refl _)) _ (Nat.le_refl _)) _ (Nat.le_refl _)) _ (Nat.le_refl _)⟩
end Go.Proofs.Ytclnpfpaabmkcab
namespace Go.Proofs.Ytclnpfpaabmkcab
open Go.RowKit M
set_option linter.unusedVariables false

theorem own_strs {w : World} {B g n c : Nat} {ss : List ByteArray} (h : w.ownsRow B 9 1 (.slice (some ⟨g, 0, none⟩) n c) n (strCells ss)) (hn : n = ss.length) : Strs w w.heap.size (some ⟨g, 0, none⟩) ss ∧ n ≤ c ∧ c ≤ maxLen ∧ B ≤ g := by
  have hlt := h.lt g rfl
  refine ⟨fun h0 => ⟨g, 0, rfl, hlt.2, fun j hj => ?_⟩, ?_⟩
  · have e := h.cellAt j (by omega)
    rw [Nat.zero_add, e]
    unfold strCells
    rw [List.getElem?_map, List.getElem?_eq_getElem hj]
    rfl
  · rcases h.2 with ⟨e, _⟩ | ⟨g', c', cur, e, hB, hh, h1, h2, _⟩
    · cases e
    · cases e; exact ⟨h1, h2, hB⟩
end Go.Proofs.Ytclnpfpaabmkcab
namespace Go.Proofs.Ytclnpfpaabmkcab
open Go.RowKit
set_option linter.unusedVariables false

/-- A row of n texts in block g, none of them frozen. -/
def RowS (w : World) (g : Nat) (ms : List ByteArray) : Prop := g < w.heap.size ∧ ∀ j (hj : j < ms.length), w.cell? ⟨g, j, none⟩ = some (.string ms[j]) ∧ w.frozen? ⟨g, j, none⟩ = false
theorem RowS.below {w w' : World} {g : Nat} {ms : List ByteArray} (h : RowS w g ms) (hb : Below w.heap.size w w') : RowS w' g ms := by
  refine ⟨Nat.lt_of_lt_of_le h.1 hb.size, fun j hj => ?_⟩
  rw [hb.cell (p := ⟨g, j, none⟩) h.1, hb.frozen (p := ⟨g, j, none⟩) h.1]
  exact h.2 j hj
theorem RowS.set {w : World} {g : Nat} {ms : List ByteArray} (h : RowS w g ms) (k : Nat) (hk : k < ms.length) (x : ByteArray) : RowS (w.setCell ⟨g, k, none⟩ (.string x)) g (ms.set k x) := by
  refine ⟨by simpa using h.1, fun j hj => ?_⟩
  have hj' : j < ms.length := by simpa using hj
  refine ⟨?_, by rw [World.frozen?_setCell]; exact (h.2 j hj').2⟩
  by_cases e : k = j
  · subst e
    rw [World.cell?_setCell_same _ _ _ (h.2 k hk).1]
    simp
  · have hne : (⟨g, k, none⟩ : Addr) ≠ ⟨g, j, none⟩ := fun e' => e (congrArg Addr.off e')
    rw [World.cell?_setCell_other _ _ _ _ hne, (h.2 j hj').1]
    simp [e]

theorem RowS.row {w : World} {N n : Nat} {ss : List ByteArray} {f : Nat → Value} (h : w.rowIs N 9 n f) (hn : ss.length ≤ n) (hf : ∀ j (hj : j < ss.length), f j = .string ss[j]) : RowS w N ss :=
  ⟨h.lt, fun j hj => ⟨by rw [h.cell (by omega), hf j hj], h.frozen j⟩⟩
theorem RowS.strs' {w : World} {g C : Nat} {ns : List ByteArray} (h : RowS w g ns) (hC : g < C) : Strs w C (some ⟨g, 0, none⟩) ns := fun _ =>
  ⟨g, 0, rfl, hC, fun j hj => by rw [Nat.zero_add]; exact (h.2 j hj).1⟩
end Go.Proofs.Ytclnpfpaabmkcab
namespace Go.Proofs.Ytclnpfpaabmkcab
open Go.RowKit M
set_option linter.unusedVariables false

theorem bcellL {B : Nat} {W w1 : World} (hb : Below B W w1) : (∀ b o, b < B → w1.cell? ⟨b, o, none⟩ = W.cell? ⟨b, o, none⟩) ∧ (∀ b o, b < B → w1.frozen? ⟨b, o, none⟩ = W.frozen? ⟨b, o, none⟩) :=
  ⟨fun b o h => hb.cell (p := ⟨b, o, none⟩) h, fun b o h => hb.frozen (p := ⟨b, o, none⟩) h⟩
theorem below_drewL {w w' : World} {n : Nat} (hb : Below n w w') : Below n w w'.drew := ⟨hb.1, hb.2, hb.3, hb.4, hb.5⟩

/-- A lock at a place: its five cells. -/
def LkAt (w : World) (b o : Nat) (r : Lk) (pa : Option Addr) (pc : Nat) : Prop :=
  w.cell? ⟨b, o, none⟩ = some (.int .i64 r.tk) ∧ w.cell? ⟨b, o + 1, none⟩ = some (.slice pa r.pa.length pc) ∧ w.cell? ⟨b, o + 2, none⟩ = some (.bool r.de) ∧ w.cell? ⟨b, o + 3, none⟩ = some (.bool r.sh) ∧ w.cell? ⟨b, o + 4, none⟩ = some (.int .i64 r.un)
/-- What its slice holds, in a block below B. -/
structure LkIn (w : World) (B : Nat) (r : Lk) (pa : Option Addr) (pc : Nat) : Prop where
  ph : Strs w B pa r.pa
  pl : r.pa.length ≤ pc
  pm : pc ≤ maxLen
  pn : pa = none → pc = 0
/-- What a slice of locks holds, in blocks below B. -/
def Lks (w : World) (B : Nat) (a : Option Addr) (rs : List Lk) : Prop :=
  0 < rs.length → ∃ b o, a = some ⟨b, o, none⟩ ∧ b < B ∧ ∀ j (hj : j < rs.length), ∃ pa pc, LkAt w b (o + j * 5) rs[j] pa pc ∧ LkIn w B rs[j] pa pc

theorem LkAt.of {w w' : World} {b o : Nat} {r : Lk} {pa : Option Addr} {pc : Nat} (h : LkAt w b o r pa pc) (e : ∀ o', w'.cell? ⟨b, o', none⟩ = w.cell? ⟨b, o', none⟩) : LkAt w' b o r pa pc := by
  unfold LkAt at *
  simp only [e]
  exact h
theorem Strs.ofL {w w' : World} {B : Nat} {a : Option Addr} {ss : List ByteArray} (h : Strs w B a ss) (e : ∀ b o, b < B → w'.cell? ⟨b, o, none⟩ = w.cell? ⟨b, o, none⟩) : Strs w' B a ss := fun h0 => by
  obtain ⟨b, o, ea, hb, hc⟩ := h h0
  exact ⟨b, o, ea, hb, fun j hj => (e b _ hb).trans (hc j hj)⟩
theorem LkIn.of {w w' : World} {B : Nat} {r : Lk} {pa : Option Addr} {pc : Nat} (h : LkIn w B r pa pc) (e : ∀ b o, b < B → w'.cell? ⟨b, o, none⟩ = w.cell? ⟨b, o, none⟩) : LkIn w' B r pa pc :=
  ⟨h.ph.ofL e, h.pl, h.pm, h.pn⟩
theorem LkIn.mono {w : World} {B C : Nat} {r : Lk} {pa : Option Addr} {pc : Nat} (h : LkIn w B r pa pc) (hB : B ≤ C) : LkIn w C r pa pc :=
  ⟨h.ph.mono hB, h.pl, h.pm, h.pn⟩
theorem LkIn.below {w w' : World} {B C : Nat} {r : Lk} {pa : Option Addr} {pc : Nat} (h : LkIn w B r pa pc) (hb : Below C w w') (hB : B ≤ C) : LkIn w' B r pa pc :=
  h.of (fun b o hbB => hb.cell (p := ⟨b, o, none⟩) (Nat.lt_of_lt_of_le hbB hB))
theorem LkIn.len {w : World} {B : Nat} {r : Lk} {pa : Option Addr} {pc : Nat} (h : LkIn w B r pa pc) : r.pa.length ≤ maxLen := Nat.le_trans h.pl h.pm
theorem Lks.of {w w' : World} {B : Nat} {a : Option Addr} {rs : List Lk} (h : Lks w B a rs) (e : ∀ b o, b < B → w'.cell? ⟨b, o, none⟩ = w.cell? ⟨b, o, none⟩) : Lks w' B a rs := fun h0 => by
  obtain ⟨b, o, ea, hb, hc⟩ := h h0
  refine ⟨b, o, ea, hb, fun j hj => ?_⟩
  obtain ⟨pa, pc, h1, h2⟩ := hc j hj
  exact ⟨pa, pc, h1.of (fun o' => e b o' hb), h2.of e⟩
theorem Lks.below {w w' : World} {B C : Nat} {a : Option Addr} {rs : List Lk} (h : Lks w B a rs) (hb : Below C w w') (hB : B ≤ C) : Lks w' B a rs :=
  h.of (fun b o hbB => hb.cell (p := ⟨b, o, none⟩) (Nat.lt_of_lt_of_le hbB hB))
theorem Lks.mono {w : World} {B C : Nat} {a : Option Addr} {rs : List Lk} (h : Lks w B a rs) (hB : B ≤ C) : Lks w C a rs := fun h0 => by
  obtain ⟨b, o, e, hbB, hc⟩ := h h0
  refine ⟨b, o, e, Nat.lt_of_lt_of_le hbB hB, fun j hj => ?_⟩
  obtain ⟨pa, pc, h1, h2⟩ := hc j hj
  exact ⟨pa, pc, h1, h2.mono hB⟩
theorem Lks.nil (w : World) (B : Nat) (a : Option Addr) : Lks w B a [] := fun h => absurd h (Nat.lt_irrefl _)
theorem Lks.drew {w : World} {B : Nat} {a : Option Addr} {rs : List Lk} (h : Lks w B a rs) : Lks w.drew B a rs := h.of (fun _ _ _ => rfl)
theorem Lks.take {w : World} {B : Nat} {a : Option Addr} {rs : List Lk} (h : Lks w B a rs) (k : Nat) : Lks w B a (rs.take k) := fun h0 => by
  have hl : (rs.take k).length ≤ rs.length := by rw [List.length_take]; omega
  obtain ⟨b, o, e, hbB, hc⟩ := h (by omega)
  refine ⟨b, o, e, hbB, fun j hj => ?_⟩
  obtain ⟨pa, pc, h1, h2⟩ := hc j (by omega)
  rw [List.getElem_take]
  exact ⟨pa, pc, h1, h2⟩
theorem LkIn.drew {w : World} {B : Nat} {r : Lk} {pa : Option Addr} {pc : Nat} (h : LkIn w B r pa pc) : LkIn w.drew B r pa pc := h.of (fun _ _ _ => rfl)

/-- Its path short enough. -/
structure ShortLk (r : Lk) : Prop where
  pl : r.pa.length ≤ maxLen
  ps : Short r.pa
def ShortK (rs : List Lk) : Prop := ∀ r ∈ rs, ShortLk r
theorem ShortK.at {rs : List Lk} (h : ShortK rs) (k : Nat) (hk : k < rs.length) : ShortLk rs[k] := h _ (List.getElem_mem hk)

/-- The value of a lock. -/
abbrev lkV (r : Lk) (pa : Option Addr) (pc : Nat) : Value := .agg #[.int .i64 r.tk, .slice pa r.pa.length pc, .bool r.de, .bool r.sh, .int .i64 r.un]

theorem RowS.setCellL {w : World} {g : Nat} {ms : List ByteArray} (h : RowS w g ms) (p : Addr) (v : Value) (hp : p.block ≠ g) : RowS (w.setCell p v) g ms := by
  refine ⟨by simpa using h.1, fun j hj => ⟨?_, ?_⟩⟩
  · rw [World.cell?_setCell_other _ _ _ _ (fun e => hp (congrArg Addr.block e))]; exact (h.2 j hj).1
  · rw [World.frozen?_setCell]; exact (h.2 j hj).2

/-- A row of locks that one call made: each path in a block of its own; all from lo on and below hi. -/
structure OwnL (w : World) (lo hi g : Nat) (rs : List Lk) (pb : Nat → Nat) : Prop where
  gl : lo ≤ g
  gh : g < hi
  gs : g < w.heap.size
  fz : ∀ i, w.frozen? ⟨g, i, none⟩ = false
  cl : ∀ j (hj : j < rs.length), ∃ pc, LkAt w g (j * 5) rs[j] (some ⟨pb j, 0, none⟩) pc ∧ rs[j].pa.length ≤ pc ∧ pc ≤ maxLen
  rp : ∀ j (hj : j < rs.length), RowS w (pb j) rs[j].pa
  bnd : ∀ j, j < rs.length → lo ≤ pb j ∧ pb j < hi ∧ pb j ≠ g
  ord : ∀ i j, i < j → j < rs.length → pb i ≠ pb j

theorem OwnL.of {w w' : World} {lo hi g : Nat} {rs : List Lk} {pb : Nat → Nat} (h : OwnL w lo hi g rs pb) (hz : w.heap.size ≤ w'.heap.size) (e : ∀ b o, lo ≤ b → b < hi → b < w.heap.size → w'.cell? ⟨b, o, none⟩ = w.cell? ⟨b, o, none⟩) (f : ∀ b o, lo ≤ b → b < hi → b < w.heap.size → w'.frozen? ⟨b, o, none⟩ = w.frozen? ⟨b, o, none⟩) : OwnL w' lo hi g rs pb := by
  refine ⟨h.gl, h.gh, Nat.lt_of_lt_of_le h.gs hz, fun i => by rw [f g i h.gl h.gh h.gs]; exact h.fz i, fun j hj => ?_, fun j hj => ?_, h.bnd, h.ord⟩
  · obtain ⟨pc, h1, h2⟩ := h.cl j hj
    exact ⟨pc, h1.of (fun o' => e g o' h.gl h.gh h.gs), h2⟩
  · obtain ⟨b1, b2, b3⟩ := h.bnd j hj
    have hp := (h.rp j hj).1
    refine ⟨Nat.lt_of_lt_of_le hp hz, fun i hi => ?_⟩
    rw [e _ _ b1 (by omega) hp, f _ _ b1 (by omega) hp]
    exact (h.rp j hj).2 i hi
theorem OwnL.below {w w' : World} {lo hi g : Nat} {rs : List Lk} {pb : Nat → Nat} (h : OwnL w lo hi g rs pb) (hb : Below w.heap.size w w') : OwnL w' lo hi g rs pb :=
  h.of hb.size (fun b o _ _ hz => hb.cell (p := ⟨b, o, none⟩) hz) (fun b o _ _ hz => hb.frozen (p := ⟨b, o, none⟩) hz)
theorem OwnL.lks {w : World} {lo hi g C : Nat} {rs : List Lk} {pb : Nat → Nat} (h : OwnL w lo hi g rs pb) (hC : hi ≤ C) : Lks w C (some ⟨g, 0, none⟩) rs := fun _ => by
  refine ⟨g, 0, rfl, Nat.lt_of_lt_of_le h.gh hC, fun j hj => ?_⟩
  obtain ⟨b1, b2, b3⟩ := h.bnd j hj
  obtain ⟨pc, h1, h2, h3⟩ := h.cl j hj
  exact ⟨_, pc, by rw [Nat.zero_add]; exact h1, ⟨(h.rp j hj).strs' (by omega), h2, h3, fun e => by cases e⟩⟩
theorem OwnL.nil (w : World) (lo hi g : Nat) (hl : lo ≤ g) (hh : g < hi) (hs : g < w.heap.size) (fz : ∀ i, w.frozen? ⟨g, i, none⟩ = false) : OwnL w lo hi g [] (fun _ => 0) :=
  ⟨hl, hh, hs, fz, fun j hj => absurd hj (Nat.not_lt_zero _), fun j hj => absurd hj (Nat.not_lt_zero _), fun j hj => absurd hj (Nat.not_lt_zero _), fun i j _ hj => absurd hj (Nat.not_lt_zero _)⟩
theorem OwnL.wide {w : World} {lo hi g lo' hi' : Nat} {rs : List Lk} {pb : Nat → Nat} (h : OwnL w lo hi g rs pb) (h1 : lo' ≤ lo) (h2 : hi ≤ hi') : OwnL w lo' hi' g rs pb :=
  ⟨Nat.le_trans h1 h.gl, Nat.lt_of_lt_of_le h.gh h2, h.gs, h.fz, h.cl, h.rp, fun j hj => by obtain ⟨a, b, c⟩ := h.bnd j hj; exact ⟨by omega, by omega, c⟩, h.ord⟩

theorem info_lock : (Try.prog.info? 26).map (fun i => (i.zero, i.size, i.bytes)) = some (some (.agg #[.int .i64 0, .slice none 0 0, .bool false, .bool false, .int .i64 0]), 5, 48) := by kernel_rfl
end Go.Proofs.Ytclnpfpaabmkcab
namespace Go.Proofs.Ytclnpfpaabmkcab
open Go.RowKit M
set_option linter.unusedVariables false

def BoxL (w : World) (N : Nat) (r : Lk) (pa : Option Addr) (pc : Nat) : Prop :=
  N < w.heap.size ∧ w.cell? ⟨N, 0, none⟩ = some (.int .i64 r.tk) ∧ w.cell? ⟨N, 1, none⟩ = some (.slice pa r.pa.length pc) ∧ w.cell? ⟨N, 2, none⟩ = some (.bool r.de) ∧ w.cell? ⟨N, 3, none⟩ = some (.bool r.sh) ∧ w.cell? ⟨N, 4, none⟩ = some (.int .i64 r.un)
theorem BoxL.made (w : World) (r : Lk) (pa : Option Addr) (pc : Nat) (t : TypeId) : BoxL (w.alloc (Obj.cells #[.int .i64 r.tk, .slice pa r.pa.length pc, .bool r.de, .bool r.sh, .int .i64 r.un] t)) w.heap.size r pa pc := by
  refine ⟨by simp, ?_, ?_, ?_, ?_, ?_⟩ <;> simp [go_sem]
theorem BoxL.next {w w' : World} {N : Nat} {r : Lk} {pa : Option Addr} {pc : Nat} (h : BoxL w N r pa pc) (hb : Below w.heap.size w w') : BoxL w' N r pa pc := by
  obtain ⟨h0, h1⟩ := h
  refine ⟨Nat.lt_of_lt_of_le h0 hb.size, ?_⟩
  simp only [(bcellL hb).1 N _ h0]
  exact h1
theorem BoxL.alloc {w : World} {N : Nat} {r : Lk} {pa : Option Addr} {pc : Nat} (h : BoxL w N r pa pc) (o : Obj) : BoxL (w.alloc o) N r pa pc := h.next ((Below.refl _ _).alloc (Nat.le_refl _) o)
theorem BoxL.drew {w : World} {N : Nat} {r : Lk} {pa : Option Addr} {pc : Nat} (h : BoxL w N r pa pc) : BoxL w.drew N r pa pc := h.next (below_drewL (Below.refl _ _))
theorem keepL2 {w : World} {N M : Nat} {r s : Lk} {pa qa : Option Addr} {pc qc : Nat} (h : BoxL w N r pa pc) (k : BoxL w M s qa qc) :
    w.cell? ⟨N, 0, none⟩ = some (.int .i64 r.tk) ∧ w.cell? ⟨N, 1, none⟩ = some (.slice pa r.pa.length pc) ∧ w.cell? ⟨N, 2, none⟩ = some (.bool r.de) ∧ w.cell? ⟨N, 3, none⟩ = some (.bool r.sh) ∧ w.cell? ⟨N, 4, none⟩ = some (.int .i64 r.un) ∧ w.cell? ⟨M, 0, none⟩ = some (.int .i64 s.tk) ∧ w.cell? ⟨M, 1, none⟩ = some (.slice qa s.pa.length qc) ∧ w.cell? ⟨M, 2, none⟩ = some (.bool s.de) ∧ w.cell? ⟨M, 3, none⟩ = some (.bool s.sh) ∧ w.cell? ⟨M, 4, none⟩ = some (.int .i64 s.un) :=
  ⟨h.2.1, h.2.2.1, h.2.2.2.1, h.2.2.2.2.1, h.2.2.2.2.2, k.2.1, k.2.2.1, k.2.2.2.1, k.2.2.2.2.1, k.2.2.2.2.2⟩
theorem lkIn_row {w : World} {p C : Nat} {r : Lk} (h : RowS w p r.pa) (hC : p < C) (hl : r.pa.length ≤ maxLen) : LkIn w C r (some ⟨p, 0, none⟩) r.pa.length :=
  ⟨h.strs' hC, Nat.le_refl _, hl, fun e => by cases e⟩
end Go.Proofs.Ytclnpfpaabmkcab
namespace Go.Proofs.Ytclnpfpaabmkcab
open Go.RowKit

theorem pick_gen {α : Type} {p : Nat → α → Prop} : ∀ {len : Nat}, (∀ i, i < len → ∃ q, p i q) → ∃ hs : List α, hs.length = len ∧ ∀ j (hj : j < hs.length), p j hs[j] := by
  intro len
  induction len with
  | zero => intro _; exact ⟨[], rfl, fun j hj => absurd hj (Nat.not_lt_zero _)⟩
  | succ k ih =>
    intro each
    obtain ⟨hs, hlen, hq⟩ := ih (fun i hi => each i (by omega))
    obtain ⟨q, hqk⟩ := each k (by omega)
    refine ⟨hs ++ [q], by simp [hlen], fun j hj => ?_⟩
    by_cases e : j < hs.length
    · rw [List.getElem_append_left e]; exact hq j e
    · have : j = k := by simp [hlen] at hj; omega
      subst this
      rw [List.getElem_append_right (by omega)]
      simp only [hlen, Nat.sub_self, List.getElem_cons_zero]
      exact hqk
theorem add_pick (b o j : Nat) : (⟨b, o, none⟩ : Addr).add j = ⟨b, o + j, none⟩ := by unfold Addr.add; split <;> simp_all
end Go.Proofs.Ytclnpfpaabmkcab
