/-
  What a value holds, in blocks below a bound (View), and what it holds in blocks of its own (Own).
-/
import Derived.Test.YtfhcniifennfbaaGreatDoorTurn
import Derived.Deep.OwnRows
namespace Go.Proofs.YtfhcniifennfbaaGreatDoor
open Go.RowKit M
set_option linter.unusedVariables false

def cellAt (rows : List (List Lf)) (j i : Nat) : Option Lf := (rows[j]?).bind (·[i]?)

inductive View (w : World) (B : Nat) : Value → Lf → Prop
  | c (v : Value) : View w B v (.c v)
  | nil (a : Option Addr) (cap : Nat) (h : a = none → cap = 0) (hm : cap ≤ maxLen) : View w B (.slice a 0 cap) (.l [])
  | row (b o cap K : Nat) (rows : List (List Lf)) (C : Nat → Nat → Value) (hb : b < B) (hl : rows.length ≤ cap) (hm : cap ≤ maxLen) (hK : ∀ r ∈ rows, r.length = K)
      (hc : ∀ j i x, cellAt rows j i = some x → w.cell? ⟨b, o + j * K + i, none⟩ = some (C j i))
      (hv : ∀ j i x, cellAt rows j i = some x → View w B (C j i) x) : View w B (.slice (some ⟨b, o, none⟩) rows.length cap) (.l rows)

theorem View.of {w w' : World} {B : Nat} {v : Value} {x : Lf} (h : View w B v x) (e : ∀ b o, b < B → w'.cell? ⟨b, o, none⟩ = w.cell? ⟨b, o, none⟩) : View w' B v x := by
  induction h with
  | c v => exact .c v
  | nil a cap h hm => exact .nil a cap h hm
  | row b o cap K rows C hb hl hm hK hc _ ih => exact .row b o cap K rows C hb hl hm hK (fun j i x hx => (e b _ hb).trans (hc j i x hx)) ih
theorem View.stays {w w' : World} {B C : Nat} {v : Value} {x : Lf} (h : View w B v x) (hb : Below C w w') (hB : B ≤ C) : View w' B v x :=
  h.of (fun b o hbB => hb.cell (p := ⟨b, o, none⟩) (Nat.lt_of_lt_of_le hbB hB))
theorem View.mono {w : World} {B C : Nat} {v : Value} {x : Lf} (h : View w B v x) (hB : B ≤ C) : View w C v x := by
  induction h with
  | c v => exact .c v
  | nil a cap h hm => exact .nil a cap h hm
  | row b o cap K rows D hb hl hm hK hc _ ih => exact .row b o cap K rows D (Nat.lt_of_lt_of_le hb hB) hl hm hK hc ih
theorem View.inv {w : World} {B : Nat} {u v : Value} (h : View w B u (.c v)) : u = v := by cases h; rfl
theorem View.drew {w : World} {B : Nat} {v : Value} {x : Lf} (h : View w B v x) : View w.drew B v x := h.of (fun _ _ _ => rfl)

/-- What a slice of typed elements holds. -/
theorem View.rows {α : Type} {f : α → List Lf} {l : List α} {w : World} {B : Nat} {v : Value} (h : View w B v (.l (l.map f))) (K : Nat) (hK : ∀ x, (f x).length = K) :
    ∃ a cap, v = .slice a l.length cap ∧ l.length ≤ cap ∧ cap ≤ maxLen ∧ (a = none → cap = 0) ∧ (0 < l.length → ∃ (b o : Nat) (C : Nat → Nat → Value), a = some ⟨b, o, none⟩ ∧ b < B ∧ ∀ j (hj : j < l.length) i x, (f l[j])[i]? = some x → w.cell? ⟨b, o + j * K + i, none⟩ = some (C j i) ∧ View w B (C j i) x) := by
  generalize hr : Lf.l (l.map f) = X at h
  cases h with
  | c v => cases hr
  | nil a cap h hm =>
    injection hr with hr
    have hl : l.length = 0 := by have := congrArg List.length hr; simpa using this
    exact ⟨a, cap, by rw [hl], by omega, hm, h, fun h0 => by omega⟩
  | row b o cap K' rows C hb hl hm hK' hc hv =>
    injection hr with hr
    subst hr
    have hlen : (l.map f).length = l.length := List.length_map ..
    refine ⟨some ⟨b, o, none⟩, cap, by rw [hlen], by omega, hm, (fun e => by cases e), fun h0 => ⟨b, o, C, rfl, hb, fun j hj i x hx => ?_⟩⟩
    have e : K' = K := by
      have h1 := hK' (f l[j]) (List.mem_map_of_mem (List.getElem_mem hj))
      rw [hK] at h1
      exact h1.symm
    subst e
    have hcx : cellAt (l.map f) j i = some x := by unfold cellAt; rw [map_at f l j hj]; exact hx
    exact ⟨hc j i x hcx, hv j i x hcx⟩

inductive Own (w : World) : Value → Lf → (Nat → Prop) → Prop
  | c (v : Value) (S : Nat → Prop) : Own w v (.c v) S
  | nil (S : Nat → Prop) : Own w (.slice none 0 0) (.l []) S
  | row (b o cap K : Nat) (rows : List (List Lf)) (C : Nat → Nat → Value) (Sf : Nat → Nat → Nat → Prop) (S : Nat → Prop) (hS : S b) (hz : b < w.heap.size) (hl : rows.length ≤ cap) (hm : cap ≤ maxLen) (hK : ∀ r ∈ rows, r.length = K)
      (hc : ∀ j i x, cellAt rows j i = some x → w.cell? ⟨b, o + j * K + i, none⟩ = some (C j i) ∧ w.frozen? ⟨b, o + j * K + i, none⟩ = false)
      (hv : ∀ j i x, cellAt rows j i = some x → Own w (C j i) x (Sf j i))
      (hs : ∀ j i y, Sf j i y → S y ∧ y ≠ b)
      (hd : ∀ j i j' i' y, (j ≠ j' ∨ i ≠ i') → Sf j i y → ¬ Sf j' i' y) : Own w (.slice (some ⟨b, o, none⟩) rows.length cap) (.l rows) S

theorem Own.view {w : World} {v : Value} {x : Lf} {S : Nat → Prop} (h : Own w v x S) : ∀ {B : Nat}, (∀ y, S y → y < B) → View w B v x := by
  induction h with
  | c v S => exact fun _ => .c v
  | nil S => exact fun _ => .nil _ _ (fun _ => rfl) (Nat.zero_le _)
  | row b o cap K rows C Sf S hS hz hl hm hK hc _ hs hd ih =>
    exact fun hB => .row b o cap K rows C (hB b hS) hl hm hK (fun j i x hx => (hc j i x hx).1) fun j i x hx => ih j i x hx (fun y hy => hB y (hs j i y hy).1)
theorem Own.wide {w : World} {v : Value} {x : Lf} {S T : Nat → Prop} (h : Own w v x S) (hT : ∀ y, S y → T y) : Own w v x T := by
  cases h with
  | c v S => exact .c v T
  | nil S => exact .nil T
  | row b o cap K rows C Sf S hS hz hl hm hK hc hv hs hd => exact .row b o cap K rows C Sf T (hT b hS) hz hl hm hK hc hv (fun j i y hy => ⟨hT y (hs j i y hy).1, (hs j i y hy).2⟩) hd
/-- It stays where its blocks do. -/
theorem Own.keep {w w' : World} {v : Value} {x : Lf} {S : Nat → Prop} (h : Own w v x S) (hz : w.heap.size ≤ w'.heap.size) : (∀ b o, S b → b < w.heap.size → w'.cell? ⟨b, o, none⟩ = w.cell? ⟨b, o, none⟩) → (∀ b o, S b → b < w.heap.size → w'.frozen? ⟨b, o, none⟩ = w.frozen? ⟨b, o, none⟩) → Own w' v x S := by
  induction h with
  | c v S => exact fun _ _ => .c v S
  | nil S => exact fun _ _ => .nil S
  | row b o cap K rows C Sf S hS hz' hl hm hK hc _ hs hd ih =>
    intro h1 h2
    exact .row b o cap K rows C Sf S hS (Nat.lt_of_lt_of_le hz' hz) hl hm hK (fun j i x hx => by rw [h1 b _ hS hz', h2 b _ hS hz']; exact hc j i x hx)
      (fun j i x hx => ih j i x hx (fun b' o' hb' => h1 b' o' (hs j i b' hb').1) (fun b' o' hb' => h2 b' o' (hs j i b' hb').1)) hs hd
theorem Own.next {w w' : World} {v : Value} {x : Lf} {S : Nat → Prop} (h : Own w v x S) (hb : Below w.heap.size w w') : Own w' v x S :=
  h.keep hb.size (fun b o _ hz => hb.cell (p := ⟨b, o, none⟩) hz) (fun b o _ hz => hb.frozen (p := ⟨b, o, none⟩) hz)
theorem Own.turn {w w' : World} {v : Value} {x : Lf} {S T : Nat → Prop} (h : Own w v x S) (t : Turn T w w') (hST : ∀ y, S y → ¬ T y) : Own w' v x S :=
  h.keep t.size (fun b o hS hz => t.cell hz (hST b hS) o) (fun b o hS hz => t.frozen hz (hST b hS) o)
theorem Own.inv {w : World} {u v : Value} {S : Nat → Prop} (h : Own w u (.c v) S) : u = v := by cases h; rfl
theorem Own.drew {w : World} {v : Value} {x : Lf} {S : Nat → Prop} (h : Own w v x S) : Own w.drew v x S := h.keep (Nat.le_refl _) (fun _ _ _ _ => rfl) (fun _ _ _ _ => rfl)
/-- A store in another block. -/
theorem Own.setCell {w : World} {v : Value} {x : Lf} {S : Nat → Prop} (h : Own w v x S) (p : Addr) (u : Value) (hp : ¬ S p.block) : Own (w.setCell p u) v x S :=
  h.keep (by simp) (fun b o hS _ => World.cell?_setCell_other _ _ _ _ (fun e => hp (by have := congrArg Addr.block e; simp at this; rw [this]; exact hS))) (fun b o _ _ => by simp)

/-- A row that is turned leaf by leaf: R tells what its rows hold. -/
structure RowG (w : World) (S : Nat → Prop) (b o K n : Nat) (R : Nat → List Lf) (C : Nat → Nat → Value) (Sf : Nat → Nat → Nat → Prop) : Prop where
  hS : S b
  hz : b < w.heap.size
  hl : ∀ j, j < n → (R j).length = K
  hc : ∀ j i, j < n → i < K → w.cell? ⟨b, o + j * K + i, none⟩ = some (C j i) ∧ w.frozen? ⟨b, o + j * K + i, none⟩ = false
  hv : ∀ j i x, j < n → (R j)[i]? = some x → Own w (C j i) x (Sf j i)
  hs : ∀ j i y, Sf j i y → S y ∧ y ≠ b
  hd : ∀ j i j' i' y, (j ≠ j' ∨ i ≠ i') → Sf j i y → ¬ Sf j' i' y

theorem RowG.below {w w' : World} {S : Nat → Prop} {b o K n : Nat} {R : Nat → List Lf} {C : Nat → Nat → Value} {Sf : Nat → Nat → Nat → Prop} (h : RowG w S b o K n R C Sf) (hb : Below w.heap.size w w') : RowG w' S b o K n R C Sf :=
  ⟨h.hS, Nat.lt_of_lt_of_le h.hz hb.size, h.hl, fun j i hj hi => by rw [hb.cell (p := ⟨b, _, none⟩) h.hz, hb.frozen (p := ⟨b, _, none⟩) h.hz]; exact h.hc j i hj hi, fun j i x hj hx => (h.hv j i x hj hx).next hb, h.hs, h.hd⟩
theorem RowG.congr {w : World} {S : Nat → Prop} {b o K n : Nat} {R R' : Nat → List Lf} {C : Nat → Nat → Value} {Sf : Nat → Nat → Nat → Prop} (h : RowG w S b o K n R C Sf) (e : ∀ j, j < n → R' j = R j) : RowG w S b o K n R' C Sf :=
  ⟨h.hS, h.hz, fun j hj => by rw [e j hj]; exact h.hl j hj, h.hc, fun j i x hj hx => h.hv j i x hj (by rw [← e j hj]; exact hx), h.hs, h.hd⟩

def updR (R : Nat → List Lf) (j : Nat) (r : List Lf) : Nat → List Lf := fun j' => if j' = j then r else R j'
theorem updR_same (R : Nat → List Lf) (j : Nat) (r : List Lf) : updR R j r j = r := by simp [updR]
theorem updR_other (R : Nat → List Lf) (j j' : Nat) (r : List Lf) (h : j' ≠ j) : updR R j r j' = R j' := by simp [updR, h]

/-- A scalar leaf is stored. -/
theorem RowG.set {w : World} {S : Nat → Prop} {b o K n j i : Nat} {R : Nat → List Lf} {r : List Lf} {C : Nat → Nat → Value} {Sf : Nat → Nat → Nat → Prop} (h : RowG w S b o K n (updR R j r) C Sf) (hj : j < n) (hi : i < K) (v : Value) :
    ∃ C' : Nat → Nat → Value, RowG (w.setCell ⟨b, o + j * K + i, none⟩ v) S b o K n (updR R j (r.set i (.c v))) C' Sf ∧ ∀ j' i', ¬ (j' = j ∧ i' = i) → C' j' i' = C j' i' := by
  have hrl : r.length = K := by have := h.hl j hj; rwa [updR_same] at this
  refine ⟨fun j' i' => if j' = j ∧ i' = i then v else C j' i', ⟨h.hS, by simpa using h.hz, fun j' hj' => ?_, fun j' i' hj' hi' => ?_, fun j' i' x hj' hx => ?_, h.hs, h.hd⟩, fun j' i' hne => if_neg hne⟩
  · by_cases e : j' = j
    · subst e; rw [updR_same, List.length_set]; exact hrl
    · rw [updR_other _ _ _ _ e]; have := h.hl j' hj'; rwa [updR_other _ _ _ _ e] at this
  · refine ⟨?_, by rw [World.frozen?_setCell]; exact (h.hc j' i' hj' hi').2⟩
    by_cases e : j' = j ∧ i' = i
    · obtain ⟨rfl, rfl⟩ := e
      rw [World.cell?_setCell_same _ _ _ (h.hc j' i' hj hi).1]
      simp
    · have hne : (⟨b, o + j * K + i, none⟩ : Addr) ≠ ⟨b, o + j' * K + i', none⟩ := fun e' => by
        have e2 := congrArg Addr.off e'
        simp only at e2
        apply e
        have h1 : j = j' := by
          rcases Nat.lt_trichotomy j j' with h | h | h
          · have := Nat.mul_le_mul_right K (show j + 1 ≤ j' from h)
            rw [Nat.add_mul] at this
            omega
          · exact h
          · have := Nat.mul_le_mul_right K (show j' + 1 ≤ j from h)
            rw [Nat.add_mul] at this
            omega
        subst h1
        exact ⟨rfl, by omega⟩
      rw [World.cell?_setCell_other _ _ _ _ hne, (h.hc j' i' hj' hi').1]
      simp [e]
  · have hk : ∀ u y T, Own w u y T → (∀ z, T z → z ≠ b) → Own (w.setCell ⟨b, o + j * K + i, none⟩ v) u y T := fun u y T ho hT => ho.setCell _ _ (fun e => hT _ e rfl)
    by_cases e : j' = j
    · subst e
      rw [updR_same] at hx
      by_cases e2 : i' = i
      · subst e2
        rw [List.getElem?_set_self (by omega)] at hx
        cases hx
        simp only [and_self, if_true]
        exact .c v _
      · rw [List.getElem?_set_ne (fun e => e2 e.symm)] at hx
        simp only [e2, and_false, if_false]
        exact hk _ _ _ (h.hv j' i' x hj (by rw [updR_same]; exact hx)) (fun z hz => (h.hs j' i' z hz).2)
    · simp only [e, false_and, if_false]
      rw [updR_other _ _ _ _ e] at hx
      exact hk _ _ _ (h.hv j' i' x hj' (by rw [updR_other _ _ _ _ e]; exact hx)) (fun z hz => (h.hs j' i' z hz).2)
/-- A leaf's own memory is turned. -/
theorem RowG.turn {w w' : World} {S : Nat → Prop} {b o K n j i : Nat} {R : Nat → List Lf} {r : List Lf} {C : Nat → Nat → Value} {Sf : Nat → Nat → Nat → Prop} {x' : Lf} (h : RowG w S b o K n (updR R j r) C Sf) (hj : j < n) (hi : i < K)
    (t : Turn (Sf j i) w w') (ho : Own w' (C j i) x' (Sf j i)) : RowG w' S b o K n (updR R j (r.set i x')) C Sf := by
  have hrl : r.length = K := by have := h.hl j hj; rwa [updR_same] at this
  have hb : ¬ Sf j i b := fun e => (h.hs j i b e).2 rfl
  refine ⟨h.hS, Nat.lt_of_lt_of_le h.hz t.size, fun j' hj' => ?_, fun j' i' hj' hi' => by rw [t.cell h.hz hb, t.frozen h.hz hb]; exact h.hc j' i' hj' hi', fun j' i' x hj' hx => ?_, h.hs, h.hd⟩
  · by_cases e : j' = j
    · subst e; rw [updR_same, List.length_set]; exact hrl
    · rw [updR_other _ _ _ _ e]; have := h.hl j' hj'; rwa [updR_other _ _ _ _ e] at this
  · by_cases e : j' = j
    · subst e
      rw [updR_same] at hx
      by_cases e2 : i' = i
      · subst e2
        rw [List.getElem?_set_self (by omega)] at hx
        cases hx
        exact ho
      · rw [List.getElem?_set_ne (fun e => e2 e.symm)] at hx
        exact (h.hv j' i' x hj (by rw [updR_same]; exact hx)).turn t (fun y hy hy' => h.hd j' i' j' i y (.inr e2) hy hy')
    · rw [updR_other _ _ _ _ e] at hx
      exact (h.hv j' i' x hj' (by rw [updR_other _ _ _ _ e]; exact hx)).turn t (fun y hy hy' => h.hd j' i' j i y (.inl e) hy hy')

theorem RowG.leaf {w : World} {S : Nat → Prop} {b o K n j : Nat} {R : Nat → List Lf} {r : List Lf} {C : Nat → Nat → Value} {Sf : Nat → Nat → Nat → Prop} (h : RowG w S b o K n (updR R j r) C Sf) (hj : j < n) (i : Nat) (x : Lf) (hx : r[i]? = some x) : Own w (C j i) x (Sf j i) :=
  h.hv j i x hj (by rw [updR_same]; exact hx)
/-- A slice that is turned: nothing, or a row. -/
def OwnSt (w : World) (a : Option Addr) (n cap K : Nat) (R : Nat → List Lf) (S : Nat → Prop) : Prop :=
  (a = none ∧ n = 0 ∧ cap = 0) ∨ ∃ b o C Sf, a = some ⟨b, o, none⟩ ∧ RowG w S b o K n R C Sf
theorem OwnSt.below {w w' : World} {a : Option Addr} {n cap K : Nat} {R : Nat → List Lf} {S : Nat → Prop} (h : OwnSt w a n cap K R S) (hb : Below w.heap.size w w') : OwnSt w' a n cap K R S := by
  rcases h with h | ⟨b, o, C, Sf, e, h⟩
  · exact .inl h
  · exact .inr ⟨b, o, C, Sf, e, h.below hb⟩
theorem OwnSt.at {w : World} {a : Option Addr} {n cap K : Nat} {R : Nat → List Lf} {S : Nat → Prop} (h : OwnSt w a n cap K R S) (h0 : 0 < n) : ∃ b o C Sf, a = some ⟨b, o, none⟩ ∧ RowG w S b o K n R C Sf := by
  rcases h with ⟨_, h, _⟩ | h
  · omega
  · exact h
theorem OwnSt.congr {w : World} {a : Option Addr} {n cap K : Nat} {R R' : Nat → List Lf} {S : Nat → Prop} (h : OwnSt w a n cap K R S) (e : ∀ j, j < n → R' j = R j) : OwnSt w a n cap K R' S := by
  rcases h with h | ⟨b, o, C, Sf, e', h⟩
  · exact .inl h
  · exact .inr ⟨b, o, C, Sf, e', h.congr e⟩

section typed
variable {α : Type} {f : α → List Lf}
def rowsF (f : α → List Lf) (l : List α) : Nat → List Lf := fun j => ((l.map f)[j]?).getD []
theorem rowsF_at (l : List α) (j : Nat) (hj : j < l.length) : rowsF f l j = f l[j] := by unfold rowsF; rw [map_at f l j hj]; rfl
theorem Own.rows {l : List α} {w : World} {S : Nat → Prop} {v : Value} (h : Own w v (.l (l.map f)) S) (K : Nat) (hK : ∀ x, (f x).length = K) :
    ∃ a cap, v = .slice a l.length cap ∧ l.length ≤ cap ∧ cap ≤ maxLen ∧ OwnSt w a l.length cap K (rowsF f l) S := by
  generalize hr : Lf.l (l.map f) = X at h
  cases h with
  | c v S => cases hr
  | nil S =>
    injection hr with hr
    have hl : l.length = 0 := by have := congrArg List.length hr; simpa using this
    exact ⟨none, 0, by rw [hl], by omega, Nat.zero_le _, .inl ⟨rfl, hl, rfl⟩⟩
  | row b o cap K' rows C Sf S hS hz hl hm hK' hc hv hs hd =>
    injection hr with hr
    subst hr
    have hlen : (l.map f).length = l.length := List.length_map ..
    refine ⟨some ⟨b, o, none⟩, cap, by rw [hlen], by omega, hm, .inr ⟨b, o, C, Sf, rfl, ⟨hS, hz, fun j hj => by rw [rowsF_at l j hj]; exact hK _, fun j i hj hi => ?_, fun j i x hj hx => ?_, hs, hd⟩⟩⟩
    · have e : K' = K := by
        have h1 := hK' (f l[j]) (List.mem_map_of_mem (List.getElem_mem hj))
        rw [hK] at h1
        exact h1.symm
      subst e
      have hi' : i < (f l[j]).length := by rw [hK]; exact hi
      exact hc j i _ (by unfold cellAt; rw [map_at f l j hj]; exact List.getElem?_eq_getElem hi')
    · rw [rowsF_at l j hj] at hx
      exact hv j i x (by unfold cellAt; rw [map_at f l j hj]; exact hx)
theorem RowG.own {w : World} {S : Nat → Prop} {b o K cap : Nat} {rows : List (List Lf)} {R : Nat → List Lf} {C : Nat → Nat → Value} {Sf : Nat → Nat → Nat → Prop} (h : RowG w S b o K rows.length R C Sf) (e : ∀ j (hj : j < rows.length), R j = rows[j]) (hl : rows.length ≤ cap) (hm : cap ≤ maxLen) :
    Own w (.slice (some ⟨b, o, none⟩) rows.length cap) (.l rows) S := by
  have hat : ∀ j i x, cellAt rows j i = some x → ∃ hj : j < rows.length, (R j)[i]? = some x := fun j i x hx => by
    unfold cellAt at hx
    obtain ⟨r, hr, hi⟩ := Option.bind_eq_some_iff.1 hx
    obtain ⟨hj, e2⟩ := List.getElem?_eq_some_iff.1 hr
    exact ⟨hj, by rw [e j hj, e2]; exact hi⟩
  refine .row b o cap K rows C Sf S h.hS h.hz hl hm (fun r hr => ?_) (fun j i x hx => ?_) (fun j i x hx => ?_) h.hs h.hd
  · obtain ⟨j, hj, rfl⟩ := List.mem_iff_getElem.1 hr
    rw [← e j hj]; exact h.hl j hj
  · obtain ⟨hj, hi⟩ := hat j i x hx
    have hi2 := (List.getElem?_eq_some_iff.1 hi).1
    rw [h.hl j hj] at hi2
    exact h.hc j i hj hi2
  · obtain ⟨hj, hi⟩ := hat j i x hx
    exact h.hv j i x hj hi
theorem OwnSt.own {w : World} {a : Option Addr} {K cap n : Nat} {rows : List (List Lf)} {R : Nat → List Lf} {S : Nat → Prop} (h : OwnSt w a n cap K R S) (hn : rows.length = n) (e : ∀ j (hj : j < rows.length), R j = rows[j]) (hl : n ≤ cap) (hm : cap ≤ maxLen) : Own w (.slice a n cap) (.l rows) S := by
  subst hn
  rcases h with ⟨rfl, h0, rfl⟩ | ⟨b, o, C, Sf, rfl, h⟩
  · have : rows = [] := List.eq_nil_of_length_eq_zero h0
    subst this
    exact .nil S
  · exact h.own e hl hm

/-- The first j of them marked, the others as they were. -/
def midF (f : α → List Lf) (k0 : Nat) (l : List α) (j : Nat) : Nat → List Lf := fun j' => if j' < j then mkR (kAtF f k0 l j') (rowsF f l j') else rowsF f l j'
theorem OwnSt.mid0 {w : World} {a : Option Addr} {n cap K k0 : Nat} {l : List α} {S : Nat → Prop} (h : OwnSt w a n cap K (rowsF f l) S) : OwnSt w a n cap K (midF f k0 l 0) S := h.congr (fun j hj => by simp [midF])
theorem RowG.start {w : World} {S : Nat → Prop} {b o K n j k0 : Nat} {l : List α} {C : Nat → Nat → Value} {Sf : Nat → Nat → Nat → Prop} (h : RowG w S b o K n (midF f k0 l j) C Sf) (hj : j < l.length) : RowG w S b o K n (updR (midF f k0 l j) j (f l[j])) C Sf :=
  h.congr (fun j' hj' => by
    by_cases e : j' = j
    · subst e; rw [updR_same]; unfold midF; rw [if_neg (Nat.lt_irrefl _), rowsF_at l j' hj]
    · rw [updR_other _ _ _ _ e])
theorem RowG.close {w : World} {S : Nat → Prop} {b o K n j k0 : Nat} {l : List α} {C : Nat → Nat → Value} {Sf : Nat → Nat → Nat → Prop} {r : List Lf} (h : RowG w S b o K n (updR (midF f k0 l j) j r) C Sf) (hj : j < l.length) (hr : r = mkR (kAtF f k0 l j) (f l[j])) : RowG w S b o K n (midF f k0 l (j + 1)) C Sf :=
  h.congr (fun j' hj' => by
    by_cases e : j' = j
    · subst e; rw [updR_same, hr]; unfold midF; rw [if_pos (Nat.lt_succ_self _), rowsF_at l j' hj]
    · rw [updR_other _ _ _ _ e]
      unfold midF
      by_cases e2 : j' < j
      · rw [if_pos (by omega), if_pos e2]
      · rw [if_neg (by omega), if_neg e2])
theorem OwnSt.marked {w : World} {a : Option Addr} {K cap k0 : Nat} {l : List α} {S : Nat → Prop} (h : OwnSt w a l.length cap K (midF f k0 l l.length) S) (hl : l.length ≤ cap) (hm : cap ≤ maxLen) : Own w (.slice a l.length cap) (mkF k0 (.l (l.map f))) S := by
  have e0 : mkF k0 (.l (l.map f)) = .l (mkRs k0 (l.map f)) := by rw [mkF]
  rw [e0]
  refine h.own (by rw [mkRs_length, List.length_map]) (fun j hj => ?_) hl hm
  have hj' : j < l.length := by rw [mkRs_length, List.length_map] at hj; exact hj
  have h1 := mkRs_at f k0 l j hj'
  rw [List.getElem?_eq_getElem hj] at h1
  rw [Option.some.inj h1]
  unfold midF
  rw [if_pos hj', rowsF_at l j hj']
/-- What a slice of marked elements holds. -/
theorem View.marked {l : List α} {w : World} {B k0 : Nat} {v : Value} (h : View w B v (mkF k0 (.l (l.map f)))) (K : Nat) (hK : ∀ x, (f x).length = K) :
    ∃ a cap, v = .slice a l.length cap ∧ l.length ≤ cap ∧ cap ≤ maxLen ∧ (0 < l.length → ∃ (b o : Nat) (C : Nat → Nat → Value), a = some ⟨b, o, none⟩ ∧ b < B ∧ ∀ j (hj : j < l.length) i x, (mkR (kAtF f k0 l j) (f l[j]))[i]? = some x → w.cell? ⟨b, o + j * K + i, none⟩ = some (C j i) ∧ View w B (C j i) x) := by
  have e0 : mkF k0 (.l (l.map f)) = .l ((mkRs k0 (l.map f)).map id) := by rw [mkF, List.map_id]
  rw [e0] at h
  have hlen : (mkRs k0 (l.map f)).length = l.length := by rw [mkRs_length, List.length_map]
  generalize hM : mkRs k0 (l.map f) = M at *
  have hat : ∀ j (hj : j < l.length) (hj' : j < M.length), M[j] = mkR (kAtF f k0 l j) (f l[j]) := fun j hj hj' => by
    have h1 := mkRs_at f k0 l j hj
    rw [hM, List.getElem?_eq_getElem hj'] at h1
    exact Option.some.inj h1
  generalize hr : Lf.l (M.map id) = X at h
  rw [List.map_id] at hr
  cases h with
  | c v => cases hr
  | nil a cap h hm =>
    injection hr with hr
    have hl : l.length = 0 := by rw [← hlen, hr]; rfl
    exact ⟨a, cap, by rw [hl], by omega, hm, fun h0 => by omega⟩
  | row b o cap K' rows C hb hl hm hK' hc hv =>
    injection hr with hr
    subst hr
    refine ⟨some ⟨b, o, none⟩, cap, by rw [hlen], by omega, hm, fun h0 => ⟨b, o, C, rfl, hb, fun j hj i x hx => ?_⟩⟩
    have hj' : j < M.length := by omega
    have e : K' = K := by
      have h1 := hK' M[j] (List.getElem_mem hj')
      rw [hat j hj hj', mkR_length, hK] at h1
      exact h1.symm
    subst e
    have hcx : cellAt M j i = some x := by unfold cellAt; rw [List.getElem?_eq_getElem hj', hat j hj hj']; exact hx
    exact ⟨hc j i x hcx, hv j i x hcx⟩
end typed
end Go.Proofs.YtfhcniifennfbaaGreatDoor
