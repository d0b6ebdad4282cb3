/-
  A row of locks, as a slice.
  Lists of locks that are right: no program in sight.
  What is told of locks, and which stay: no program in sight.
  What slices.IndexFunc at locks, inOrder.withoutOne and impl.DropLock do.
-/
import Derived.Test.YtackgogcpdbnlabLockRows
import Derived.Test.YtackgogcpdbnlabGenPick
import Derived.Test.YtackgogcpdbnlabLockOps
namespace Go.Proofs.Ytackgogcpdbnlab
open Go.RowKit M
theorem lks_of_rowV {w : World} {g B : Nat} {ts : List LkT} {l : List Lk} (e : ts.map (·.r) = l) (h : RowV w g ts) (hi : InV w B ts) (hB : B ≤ w.heap.size) : Lks w w.heap.size (some ⟨g, 0, none⟩) l := by
  rw [← e]; exact h.lks hi h.1 hB
end Go.Proofs.Ytackgogcpdbnlab
namespace Go.Proofs.Ytackgogcpdbnlab
open Go.RowKit M
set_option linter.unusedVariables false

theorem locksB_long {l : List Lk} (h : ¬ l.length ≤ 6) : locksB l = false := by unfold locksB; rw [decide_eq_false h]; rfl
theorem locksB_at {l : List Lk} (i : Nat) (hi : i < l.length) (h : okAt l i = false) : locksB l = false := by
  unfold locksB
  have : (List.range l.length).all (okAt l) = false := by
    rw [Bool.eq_false_iff]
    intro e
    rw [List.all_eq_true] at e
    rw [e i (List.mem_range.2 hi)] at h
    cases h
  rw [this, Bool.and_false]
theorem locksB_not {l : List Lk} (i : Nat) (hi : i < l.length) (h : lockB l[i] = false) : locksB l = false := by
  apply locksB_at i hi
  unfold okAt
  rw [List.getElem?_eq_getElem hi]
  simp only [h, Bool.false_and]
theorem locksB_bar {l : List Lk} (k i : Nat) (hk : k < i) (hi : i < l.length) (h : barB (l[k]'(by omega)) l[i] = true) : locksB l = false := by
  apply locksB_at i hi
  unfold okAt
  rw [List.getElem?_eq_getElem hi]
  have : (l.take i).all (fun y => !barB y l[i]) = false := by
    rw [Bool.eq_false_iff]
    intro e
    rw [List.all_eq_true] at e
    have hm : l[k]'(by omega) ∈ l.take i := by
      rw [List.mem_iff_getElem]
      exact ⟨k, by rw [List.length_take]; omega, by rw [List.getElem_take]⟩
    have := e _ hm
    rw [h] at this
    cases this
  simp only [this, Bool.and_false]
theorem locksB_yes {l : List Lk} (h6 : l.length ≤ 6) (h1 : ∀ i (hi : i < l.length), lockB l[i] = true) (h2 : ∀ i k (hk : k < i) (hi : i < l.length), barB (l[k]'(by omega)) l[i] = false) : locksB l = true := by
  unfold locksB
  rw [decide_eq_true h6, Bool.true_and, List.all_eq_true]
  intro i hi
  have hi' : i < l.length := List.mem_range.1 hi
  unfold okAt
  rw [List.getElem?_eq_getElem hi']
  simp only [h1 i hi', Bool.true_and, List.all_eq_true]
  intro y hy
  obtain ⟨k, hk, rfl⟩ := List.mem_iff_getElem.1 hy
  have hk' : k < i := by rw [List.length_take] at hk; omega
  rw [List.getElem_take, h2 i k hk' hi']
  rfl
theorem bar_tk {a b : Lk} (h : a.tk = b.tk) : barB a b = true := by unfold barB; rw [decide_eq_true h]; rfl
theorem bar_cl {a b : Lk} (h : ¬ a.tk = b.tk) : barB a b = clashB a b := by unfold barB; rw [decide_eq_false h]; rfl
end Go.Proofs.Ytackgogcpdbnlab
namespace Go.Proofs.Ytackgogcpdbnlab
open Go.RowKit M
set_option linter.unusedVariables false

def liveB (now : Int) (x : Lk) : Bool := decide (now < x.un)
def tokL (l : List Lk) (p : List ByteArray) : List Int := (l.filter fun x => covB x p).map (·.tk)
def isTk (t : Int) (x : Lk) : Bool := x.tk == t
def dropL (t : Int) : List Lk → List Lk
  | [] => []
  | x :: r => if isTk t x = true then r else x :: dropL t r
theorem dropL_none (t : Int) (l : List Lk) (h : l.any (isTk t) = false) : dropL t l = l := by
  induction l with
  | nil => rfl
  | cons x r ih =>
    simp only [List.any_cons, Bool.or_eq_false_iff] at h
    simp only [dropL, h.1, Bool.false_eq_true, if_false]
    rw [ih h.2]
theorem dropL_snoc (t : Int) (l : List Lk) (x : Lk) : dropL t (l ++ [x]) = if l.any (isTk t) = true then dropL t l ++ [x] else if isTk t x = true then dropL t l else dropL t l ++ [x] := by
  induction l with
  | nil => by_cases h : isTk t x = true <;> simp [dropL, h]
  | cons y r ih =>
    by_cases h : isTk t y = true
    · simp [dropL, h]
    · simp only [List.cons_append, dropL, h, Bool.false_eq_true, if_false, List.any_cons, Bool.false_or, ih]
      split
      · rfl
      · split <;> rfl
theorem dropL_at (t : Int) (l : List Lk) (k : Nat) (hk : k < l.length) (h : isTk t l[k] = true) (h0 : ∀ j (hj : j < l.length), j < k → isTk t l[j] = false) : dropL t l = l.take k ++ l.drop (k + 1) := by
  induction l generalizing k with
  | nil => cases hk
  | cons x r ih =>
    cases k with
    | zero => simp at h; simp [dropL, h]
    | succ k =>
      have hx : isTk t x = false := h0 0 (by simp) (Nat.succ_pos _)
      have := ih k (by simpa using hk) (by simpa using h) (fun j hj hjk => by have := h0 (j + 1) (by simpa using hj) (by omega); simpa using this)
      simp [dropL, hx, this]
theorem dropL_sub (t : Int) (l : List Lk) : List.Sublist (dropL t l) l := by
  induction l with
  | nil => exact .slnil
  | cons x r ih =>
    simp only [dropL]
    split
    · exact List.sublist_cons_self _ _
    · exact ih.cons_cons _

/-- Whether a lock must let by what turns at p. -/
def touchB (p : List ByteArray) (deep : Bool) (x : Lk) : Bool := covB x p || (deep && underB x.pa p)
def hasB (toks : List Int) (x : Lk) : Bool := toks.any (· == x.tk)
def mayB (l : List Lk) (p : List ByteArray) (deep : Bool) (toks : List Int) : Bool :=
  (l.filter (touchB p deep)).all (fun x => x.sh || hasB toks x) && (!(l.filter (touchB p deep)).any (·.sh) || (l.filter (touchB p deep)).any (fun x => x.sh && hasB toks x))
/-- What is there behind a lock is added. -/
def addL (l : List Lk) (x : Lk) : List Lk := if locksB (l ++ [x]) = true then l ++ [x] else l
end Go.Proofs.Ytackgogcpdbnlab
namespace Go.Proofs.Ytackgogcpdbnlab
open Go.RowKit M
set_option linter.unusedVariables false

/-- The first place, or -1. -/
def placeB (P : Lk → Bool) (l : List Lk) (z : Int) : Prop := (z = -1 ∧ l.any P = false) ∨ ∃ k : Nat, z = k ∧ ∃ hk : k < l.length, P l[k] = true ∧ ∀ j (hj : j < l.length), j < k → P l[j] = false
theorem any_none {P : Lk → Bool} {l : List Lk} (h : ∀ j (hj : j < l.length), P l[j] = false) : l.any P = false := by
  rw [Bool.eq_false_iff]
  intro e
  obtain ⟨x, hx, hp⟩ := List.any_eq_true.1 e
  obtain ⟨j, hj, rfl⟩ := List.mem_iff_getElem.1 hx
  rw [h j hj] at hp
  cases hp

set_option maxRecDepth 100000 in
set_option maxHeartbeats 4000000 in
theorem indexL_any (fn : Nat) (hE : ∀ args w, (callFunc fn args).run Try.prog w = .ok (.enter fn args) w) (cp : Array Value) (P : Lk → Bool) (a : Option Addr) (l : List Lk) (cap B : Nat) (w : World) (h : Lks w B a l) (hB : B ≤ w.heap.size) (hl : l.length ≤ 1048577)
    (hP : ∀ k (hk : k < l.length) pa pc W, Below w.heap.size w W → LkIn W B l[k] pa pc → Calls Try.prog fn (#[.agg #[.int .i64 l[k].tk, .slice pa l[k].pa.length pc, .bool l[k].de, .bool l[k].sh, .int .i64 l[k].un]] ++ cp) W fun e w' => e = .returned (.bool (P l[k])) ∧ Below W.heap.size W w') :
    Calls Try.prog 41 #[.slice a l.length cap, .func (.func fn) #[] cp] w fun e w' => (∃ z : Int, e = .returned (.int .i64 z) ∧ placeB P l z) ∧ Below w.heap.size w w' := by
  have HH := hide h
  have HP := hide hP
  have HE := hide hE
  clear h hP hE
  go_enter Try.func41, Try.ntmps41
  go_wp2
  go_loopw [8] (fun i wr => ∃ k : Nat, k ≤ l.length ∧ i = .int .i64 k ∧ Hid (∀ j (hj : j < l.length), j < k → P l[j] = false) ∧ Below w.heap.size w wr) (fun i _ => l.length - (intOf i).toNat)
  case atStart => exact ⟨0, Nat.zero_le _, rfl, fun j _ hj => absurd hj (Nat.not_lt_zero _), Below.refl _ _⟩
  case round =>
    obtain ⟨k, hk, rfl, HN, hbe⟩ := hrel
    by_cases hlt : k < l.length
    · obtain ⟨b, o, rfl, hb, hc⟩ := (HH.out.below hbe hB) (by omega)
      obtain ⟨pa, pc, ⟨hc0, hc1, hc2, hc3, hc4⟩, hin⟩ := hc k hlt
      have HC := hide (HP.out k hlt pa pc wr hbe hin)
      obtain ⟨z, hz⟩ : ∃ z, P l[k] = z := ⟨_, rfl⟩
      rw [hz] at HC
      have HZ := hide hz
      clear hz hc hin
      go_wp2_with fail
      rw [HE.out, Oper.upon_enter]
      refine HC.out.mono ?_
      rintro e w1 ⟨rfl, b1⟩
      have c1 := hbe.trans (b1.mono hbe.size)
      clear b1 HC hc0 hc1 hc2 hc3 hc4
      cases z
      · go_wp2
        go_roundw
        case rel => exact ⟨k + 1, by omega, by go_num, fun j hj hjk => if e : j = k then by subst e; exact HZ.out else HN.out j hj (by omega), c1⟩
        case measure => simp [intOf]; omega
      · go_wp2
        go_ret
        exact ⟨⟨_, rfl, .inr ⟨k, rfl, hlt, HZ.out, HN.out⟩⟩, c1⟩
    · go_wp2
      go_ret
      exact ⟨⟨_, rfl, .inl ⟨rfl, any_none (fun j hj => HN.out j hj (by omega))⟩⟩, hbe⟩

set_option maxHeartbeats 1000000 in
theorem dropFn_any (r : Lk) (pa : Option Addr) (pc N : Nat) (t : Int) (w : World) (h : w.cell? ⟨N, 0, none⟩ = some (.int .i64 t)) :
    Calls Try.prog 42 #[.agg #[.int .i64 r.tk, .slice pa r.pa.length pc, .bool r.de, .bool r.sh, .int .i64 r.un], .pointer (some ⟨N, 0, none⟩)] w fun e w' => e = .returned (.bool (isTk t r)) ∧ Below w.heap.size w w' := by
  have hb := (Below.refl w.heap.size w).alloc (Nat.le_refl _) (Obj.cells #[.int .i64 r.tk, .slice pa r.pa.length pc, .bool r.de, .bool r.sh, .int .i64 r.un] 32)
  have hN : N < w.heap.size := World.block_lt_of_cell? w _ h
  have h1 := (hb.cell (p := ⟨N, 0, none⟩) hN).trans h
  have HB := hide hb
  clear hb
  go_enter Try.func42, Try.ntmps42
  go_wp2
  go_ret
  exact ⟨rfl, HB.out⟩

theorem lkCells_take (ts : List LkT) (k : Nat) : (lkCells ts).take (k * 5) = lkCells (ts.take k) := by
  induction ts generalizing k with
  | nil => simp [lkCells]
  | cons t l ih =>
    cases k with
    | zero => simp [lkCells]
    | succ k =>
      have e : lkCells (t :: l) = lkC1 t ++ lkCells l := by simp [lkCells]
      rw [e, List.take_succ_cons, show (k + 1) * 5 = (lkC1 t).length + k * 5 by simp [lkC1]; omega, List.take_length_add_append, ih]
      simp [lkCells]
theorem lkCells_drop (ts : List LkT) (k : Nat) : (lkCells ts).drop (k * 5) = lkCells (ts.drop k) := by
  induction ts generalizing k with
  | nil => simp [lkCells]
  | cons t l ih =>
    cases k with
    | zero => simp [lkCells]
    | succ k =>
      have e : lkCells (t :: l) = lkC1 t ++ lkCells l := by simp [lkCells]
      rw [e, List.drop_succ_cons, show (k + 1) * 5 = (lkC1 t).length + k * 5 by simp [lkC1]; omega, List.drop_length_add_append, ih]
end Go.Proofs.Ytackgogcpdbnlab
