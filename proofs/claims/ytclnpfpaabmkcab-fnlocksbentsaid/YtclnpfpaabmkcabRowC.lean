/-
  What is told of locks, and which stay: no program in sight.
  A row of locks whose Paths lie at or above a block: it stays where a block below is turned.
  A row of locks whose Paths lie at or above a block, with its room.
-/
import Derived.Test.YtclnpfpaabmkcabGenPick
import Derived.Test.YtclnpfpaabmkcabSpecPl
import Derived.Deep.Onto
namespace Go.Proofs.Ytclnpfpaabmkcab
open Go.RowKit M
set_option linter.unusedVariables false

def liveB (now : Int) (x : Lk) : Bool := decide (now < x.un)
def tokL (l : List Lk) (p : List ByteArray) : List Int := (l.filter fun x => covB x p).map (·.tk)
def isTk (t : Int) (x : Lk) : Bool := x.tk == t
def dropL (t : Int) : List Lk → List Lk
  | [] => []
  | x :: r => if isTk t x = true then r else x :: dropL t r
theorem dropL_none (t : Int) (l : List Lk) (h : l.any (isTk t) = false) : dropL t l = l := by
  induction l with
  | nil => rfl
  | cons x r ih =>
    simp only [List.any_cons, Bool.or_eq_false_iff] at h
    simp only [dropL, h.1, Bool.false_eq_true, if_false]
    rw [ih h.2]
theorem dropL_snoc (t : Int) (l : List Lk) (x : Lk) : dropL t (l ++ [x]) = if l.any (isTk t) = true then dropL t l ++ [x] else if isTk t x = true then dropL t l else dropL t l ++ [x] := by
  induction l with
  | nil => by_cases h : isTk t x = true <;> simp [dropL, h]
  | cons y r ih =>
    by_cases h : isTk t y = true
    · simp [dropL, h]
    · simp only [List.cons_append, dropL, h, Bool.false_eq_true, if_false, List.any_cons, Bool.false_or, ih]
      split
      · rfl
      · split <;> rfl
theorem dropL_at (t : Int) (l : List Lk) (k : Nat) (hk : k < l.length) (h : isTk t l[k] = true) (h0 : ∀ j (hj : j < l.length), j < k → isTk t l[j] = false) : dropL t l = l.take k ++ l.drop (k + 1) := by
  induction l generalizing k with
  | nil => cases hk
  | cons x r ih =>
    cases k with
    | zero => simp at h; simp [dropL, h]
    | succ k =>
      have hx : isTk t x = false := h0 0 (by simp) (Nat.succ_pos _)
      have := ih k (by simpa using hk) (by simpa using h) (fun j hj hjk => by have := h0 (j + 1) (by simpa using hj) (by omega); simpa using this)
      simp [dropL, hx, this]
theorem dropL_sub (t : Int) (l : List Lk) : List.Sublist (dropL t l) l := by
  induction l with
  | nil => exact .slnil
  | cons x r ih =>
    simp only [dropL]
    split
    · exact List.sublist_cons_self _ _
    · exact ih.cons_cons _

/-- Whether a lock must let by what turns at p. -/
def touchB (p : List ByteArray) (deep : Bool) (x : Lk) : Bool := covB x p || (deep && underB x.pa p)
def hasB (toks : List Int) (x : Lk) : Bool := toks.any (· == x.tk)
def mayB (l : List Lk) (p : List ByteArray) (deep : Bool) (toks : List Int) : Bool :=
  (l.filter (touchB p deep)).all (fun x => x.sh || hasB toks x) && (!(l.filter (touchB p deep)).any (·.sh) || (l.filter (touchB p deep)).any (fun x => x.sh && hasB toks x))
/-- What is there behind a lock is added. -/
def addL (l : List Lk) (x : Lk) : List Lk := if locksB (l ++ [x]) = true then l ++ [x] else l
end Go.Proofs.Ytclnpfpaabmkcab
namespace Go.Proofs.Ytclnpfpaabmkcab
open Go.RowKit M
set_option linter.unusedVariables false

def RowP (w : World) (lo g : Nat) (l : List Lk) : Prop := ∃ ts : List LkT, ts.map (·.r) = l ∧ RowV w g ts ∧ PathsV w lo g ts ∧ lo ≤ g
theorem RowP.mono {w : World} {lo lo' g : Nat} {l : List Lk} (h : RowP w lo g l) (hl : lo' ≤ lo) : RowP w lo' g l := by
  obtain ⟨ts, h1, h2, h3, h4⟩ := h
  exact ⟨ts, h1, h2, fun t ht => by
    obtain ⟨p, a1, a2, a3, a4, a5⟩ := h3 t ht
    exact ⟨p, a1, a2, a3, Nat.le_trans hl a4, a5⟩, Nat.le_trans hl h4⟩
theorem RowP.next {w w' : World} {lo g : Nat} {l : List Lk} (h : RowP w lo g l) (hb : Below w.heap.size w w') : RowP w' lo g l := by
  obtain ⟨ts, h1, h2, h3, h4⟩ := h
  exact ⟨ts, h1, RowV.below h2 hb, PathsV.next h3 hb, h4⟩
theorem RowP.lks {w : World} {lo g : Nat} {l : List Lk} (h : RowP w lo g l) : Lks w w.heap.size (some ⟨g, 0, none⟩) l := by
  obtain ⟨ts, h1, h2, h3, h4⟩ := h
  exact lks_of_rowV h1 h2 h3.inV (Nat.le_refl _)
theorem RowP.drew {w : World} {lo g : Nat} {l : List Lk} (h : RowP w lo g l) : RowP w.drew lo g l := h.next (below_drewL (Below.refl _ _))
theorem RowP.grown {w w' : World} {lo g N : Nat} {l : List Lk} (h : RowP w lo g l) (hg : w.grownBy w' (some N)) (hN : N < lo) : RowP w' lo g l := by
  obtain ⟨ts, h1, h2, h3, h4⟩ := h
  refine ⟨ts, h1, h2.hp hg.size (hg.block g h2.1 (by simp; omega)), fun t ht => ?_, h4⟩
  obtain ⟨p, a1, a2, a3, a4, a5⟩ := h3 t ht
  exact ⟨p, a1, a2.hp hg.size (hg.block p a2.1 (by simp; omega)), a3, a4, a5⟩
theorem RowP.none (w : World) (T : TypeId) : RowP (w.alloc (Obj.cells #[] T)) w.heap.size w.heap.size [] := by
  refine ⟨[], rfl, ⟨by simp, fun j hj => absurd hj (by simp), fun i => World.frozen?_alloc_new w _ _ i⟩, ?_, Nat.le_refl _⟩
  intro t ht
  cases ht
end Go.Proofs.Ytclnpfpaabmkcab
namespace Go.Proofs.Ytclnpfpaabmkcab
open Go.RowKit M
set_option linter.unusedVariables false

def RowC (w : World) (lo g c : Nat) (l : List Lk) : Prop := ∃ ts : List LkT, ts.map (·.r) = l ∧ RowV w g ts ∧ PathsV w lo g ts ∧ lo ≤ g ∧ OwnT w lo (.slice (some ⟨g, 0, none⟩) l.length c) ts
theorem RowC.p {w : World} {lo g c : Nat} {l : List Lk} (h : RowC w lo g c l) : RowP w lo g l := by
  obtain ⟨ts, h1, h2, h3, h4, _⟩ := h
  exact ⟨ts, h1, h2, h3, h4⟩
theorem RowC.mono {w : World} {lo lo' g c : Nat} {l : List Lk} (h : RowC w lo g c l) (hl : lo' ≤ lo) : RowC w lo' g c l := by
  obtain ⟨ts, h1, h2, h3, h4, h5⟩ := h
  exact ⟨ts, h1, h2, fun t ht => by
    obtain ⟨p, a1, a2, a3, a4, a5⟩ := h3 t ht
    exact ⟨p, a1, a2, a3, Nat.le_trans hl a4, a5⟩, Nat.le_trans hl h4, World.ownsRow.mono h5 hl⟩
theorem RowC.next {w w' : World} {lo g c : Nat} {l : List Lk} (h : RowC w lo g c l) (hb : Below w.heap.size w w') : RowC w' lo g c l := by
  obtain ⟨ts, h1, h2, h3, h4, h5⟩ := h
  exact ⟨ts, h1, RowV.below h2 hb, PathsV.next h3 hb, h4, OwnT.next h5 hb⟩
theorem RowC.lks {w : World} {lo g c : Nat} {l : List Lk} (h : RowC w lo g c l) : Lks w w.heap.size (some ⟨g, 0, none⟩) l := h.p.lks
theorem RowC.drew {w : World} {lo g c : Nat} {l : List Lk} (h : RowC w lo g c l) : RowC w.drew lo g c l := h.next (below_drewL (Below.refl _ _))
theorem RowC.grown {w w' : World} {lo g c N : Nat} {l : List Lk} (h : RowC w lo g c l) (hg : w.grownBy w' (some N)) (hN : N < lo) : RowC w' lo g c l := by
  obtain ⟨ts, h1, h2, h3, h4, h5⟩ := h
  refine ⟨ts, h1, h2.hp hg.size (hg.block g h2.1 (by simp; omega)), fun t ht => ?_, h4, OwnT.keepB h5 (hg.block g h2.1 (by simp; omega))⟩
  obtain ⟨p, a1, a2, a3, a4, a5⟩ := h3 t ht
  exact ⟨p, a1, a2.hp hg.size (hg.block p a2.1 (by simp; omega)), a3, a4, a5⟩
theorem RowC.none (w : World) : RowC (w.alloc (Obj.cells #[] 26)) w.heap.size w.heap.size 0 [] := by
  refine ⟨[], rfl, ⟨by simp, fun j hj => absurd hj (by simp), fun i => World.frozen?_alloc_new w _ _ i⟩, ?_, Nat.le_refl _, OwnT.made w w.heap.size (Nat.le_refl _)⟩
  intro t ht
  cases ht
/-- One more, with its Path in a block of its own. -/
theorem rowC_snoc {w w' : World} {lo g g' n' c' p pc : Nat} {l : List Lk} {ts : List LkT} {x : Lk} (h1 : ts.map (·.r) = l) (h3 : PathsV w lo g ts) (hx : RowS w p x.pa) (hp : p ≠ g) (hlo : lo ≤ p) (hpc : x.pa.length ≤ pc) (hpm : pc ≤ maxLen)
    (hO : OwnT w' lo (.slice (some ⟨g', 0, none⟩) n' c') (ts ++ [⟨x, some ⟨p, 0, none⟩, pc⟩])) (hg : w.grownBy w' (some g)) (hat : g' = g ∨ w.heap.size ≤ g') : RowC w' lo g' c' (l ++ [x]) ∧ n' = (l ++ [x]).length ∧ n' ≤ c' ∧ c' ≤ maxLen := by
  obtain ⟨e1, e2, e3, e4, e5⟩ := hO.row
  have hn : n' = (l ++ [x]).length := by rw [e1, ← h1]; simp
  have hkeep : ∀ y, y < w.heap.size → y ≠ g → w'.heap[y]? = w.heap[y]? := fun y hy hne => hg.block y hy (fun e => hne (Option.some.inj e))
  refine ⟨⟨ts ++ [⟨x, some ⟨p, 0, none⟩, pc⟩], by rw [List.map_append, h1]; rfl, e2, fun t ht => ?_, e5, by rw [← hn]; exact hO⟩, hn, e3, e4⟩
  rcases List.mem_append.1 ht with h | h
  · exact h3.keepB hg.size hkeep hat t h
  · obtain rfl := List.mem_singleton.1 h
    have h4 := hx.1
    refine ⟨p, rfl, hx.hp hg.size (hkeep p h4 hp), by omega, hlo, hpc, hpm⟩
end Go.Proofs.Ytclnpfpaabmkcab
