/-
  A row of locks, as a slice.
  Lists of locks that are right: no program in sight.
  What is told of locks, and which stay: no program in sight.
  What slices.IndexFunc at locks, inOrder.withoutOne and impl.DropLock do.
  Slices of numbers: what they hold, and that it stays.
  Two answers that are the same.
  What spec.l13Has does.
  Whether two slices of texts hold the same: what slices.Equal[[]string,string] does.
  What the program's Under does.
  What the program's SamePath does.
  What impl.Covers does.
  What impl.touching and impl.MayTurn do.
-/
import Derived.Test.YtackgogcpdbnlabLockRows
import Derived.Test.YtackgogcpdbnlabGenPick
import Derived.Test.YtackgogcpdbnlabLockOps
import Derived.Test.YtackgogcpdbnlabRows
import Derived.WalkKit
import Derived.Deep.OwnRows
namespace Go.Proofs.Ytackgogcpdbnlab
open Go.RowKit M
theorem lks_of_rowV {w : World} {g B : Nat} {ts : List LkT} {l : List Lk} (e : ts.map (·.r) = l) (h : RowV w g ts) (hi : InV w B ts) (hB : B ≤ w.heap.size) : Lks w w.heap.size (some ⟨g, 0, none⟩) l := by
  rw [← e]; exact h.lks hi h.1 hB
end Go.Proofs.Ytackgogcpdbnlab
namespace Go.Proofs.Ytackgogcpdbnlab
open Go.RowKit M
set_option linter.unusedVariables false

theorem locksB_long {l : List Lk} (h : ¬ l.length ≤ 6) : locksB l = false := by unfold locksB; rw [decide_eq_false h]; rfl
theorem locksB_at {l : List Lk} (i : Nat) (hi : i < l.length) (h : okAt l i = false) : locksB l = false := by
  unfold locksB
  have : (List.range l.length).all (okAt l) = false := by
    rw [Bool.eq_false_iff]
    intro e
    rw [List.all_eq_true] at e
    rw [e i (List.mem_range.2 hi)] at h
    cases h
  rw [this, Bool.and_false]
theorem locksB_not {l : List Lk} (i : Nat) (hi : i < l.length) (h : lockB l[i] = false) : locksB l = false := by
  apply locksB_at i hi
  unfold okAt
  rw [List.getElem?_eq_getElem hi]
  simp only [h, Bool.false_and]
theorem locksB_bar {l : List Lk} (k i : Nat) (hk : k < i) (hi : i < l.length) (h : barB (l[k]'(by omega)) l[i] = true) : locksB l = false := by
  apply locksB_at i hi
  unfold okAt
  rw [List.getElem?_eq_getElem hi]
  have : (l.take i).all (fun y => !barB y l[i]) = false := by
    rw [Bool.eq_false_iff]
    intro e
    rw [List.all_eq_true] at e
    have hm : l[k]'(by omega) ∈ l.take i := by
      rw [List.mem_iff_getElem]
      exact ⟨k, by rw [List.length_take]; omega, by rw [List.getElem_take]⟩
    have := e _ hm
    rw [h] at this
    cases this
  simp only [this, Bool.and_false]
theorem locksB_yes {l : List Lk} (h6 : l.length ≤ 6) (h1 : ∀ i (hi : i < l.length), lockB l[i] = true) (h2 : ∀ i k (hk : k < i) (hi : i < l.length), barB (l[k]'(by omega)) l[i] = false) : locksB l = true := by
  unfold locksB
  rw [decide_eq_true h6, Bool.true_and, List.all_eq_true]
  intro i hi
  have hi' : i < l.length := List.mem_range.1 hi
  unfold okAt
  rw [List.getElem?_eq_getElem hi']
  simp only [h1 i hi', Bool.true_and, List.all_eq_true]
  intro y hy
  obtain ⟨k, hk, rfl⟩ := List.mem_iff_getElem.1 hy
  have hk' : k < i := by rw [List.length_take] at hk; omega
  rw [List.getElem_take, h2 i k hk' hi']
  rfl
theorem bar_tk {a b : Lk} (h : a.tk = b.tk) : barB a b = true := by unfold barB; rw [decide_eq_true h]; rfl
theorem bar_cl {a b : Lk} (h : ¬ a.tk = b.tk) : barB a b = clashB a b := by unfold barB; rw [decide_eq_false h]; rfl
end Go.Proofs.Ytackgogcpdbnlab
namespace Go.Proofs.Ytackgogcpdbnlab
open Go.RowKit M
set_option linter.unusedVariables false

def liveB (now : Int) (x : Lk) : Bool := decide (now < x.un)
def tokL (l : List Lk) (p : List ByteArray) : List Int := (l.filter fun x => covB x p).map (·.tk)
def isTk (t : Int) (x : Lk) : Bool := x.tk == t
def dropL (t : Int) : List Lk → List Lk
  | [] => []
  | x :: r => if isTk t x = true then r else x :: dropL t r
theorem dropL_none (t : Int) (l : List Lk) (h : l.any (isTk t) = false) : dropL t l = l := by
  induction l with
  | nil => rfl
  | cons x r ih =>
    simp only [List.any_cons, Bool.or_eq_false_iff] at h
    simp only [dropL, h.1, Bool.false_eq_true, if_false]
    rw [ih h.2]
theorem dropL_snoc (t : Int) (l : List Lk) (x : Lk) : dropL t (l ++ [x]) = if l.any (isTk t) = true then dropL t l ++ [x] else if isTk t x = true then dropL t l else dropL t l ++ [x] := by
  induction l with
  | nil => by_cases h : isTk t x = true <;> simp [dropL, h]
  | cons y r ih =>
    by_cases h : isTk t y = true
    · simp [dropL, h]
    · simp only [List.cons_append, dropL, h, Bool.false_eq_true, if_false, List.any_cons, Bool.false_or, ih]
      split
      · rfl
      · split <;> rfl
theorem dropL_at (t : Int) (l : List Lk) (k : Nat) (hk : k < l.length) (h : isTk t l[k] = true) (h0 : ∀ j (hj : j < l.length), j < k → isTk t l[j] = false) : dropL t l = l.take k ++ l.drop (k + 1) := by
  induction l generalizing k with
  | nil => cases hk
  | cons x r ih =>
    cases k with
    | zero => simp at h; simp [dropL, h]
    | succ k =>
      have hx : isTk t x = false := h0 0 (by simp) (Nat.succ_pos _)
      have := ih k (by simpa using hk) (by simpa using h) (fun j hj hjk => by have := h0 (j + 1) (by simpa using hj) (by omega); simpa using this)
      simp [dropL, hx, this]
theorem dropL_sub (t : Int) (l : List Lk) : List.Sublist (dropL t l) l := by
  induction l with
  | nil => exact .slnil
  | cons x r ih =>
    simp only [dropL]
    split
    · exact List.sublist_cons_self _ _
    · exact ih.cons_cons _

/-- Whether a lock must let by what turns at p. -/
def touchB (p : List ByteArray) (deep : Bool) (x : Lk) : Bool := covB x p || (deep && underB x.pa p)
def hasB (toks : List Int) (x : Lk) : Bool := toks.any (· == x.tk)
def mayB (l : List Lk) (p : List ByteArray) (deep : Bool) (toks : List Int) : Bool :=
  (l.filter (touchB p deep)).all (fun x => x.sh || hasB toks x) && (!(l.filter (touchB p deep)).any (·.sh) || (l.filter (touchB p deep)).any (fun x => x.sh && hasB toks x))
/-- What is there behind a lock is added. -/
def addL (l : List Lk) (x : Lk) : List Lk := if locksB (l ++ [x]) = true then l ++ [x] else l
end Go.Proofs.Ytackgogcpdbnlab
namespace Go.Proofs.Ytackgogcpdbnlab
open Go.RowKit M
set_option linter.unusedVariables false

/-- The first place, or -1. -/
def placeB (P : Lk → Bool) (l : List Lk) (z : Int) : Prop := (z = -1 ∧ l.any P = false) ∨ ∃ k : Nat, z = k ∧ ∃ hk : k < l.length, P l[k] = true ∧ ∀ j (hj : j < l.length), j < k → P l[j] = false
theorem any_none {P : Lk → Bool} {l : List Lk} (h : ∀ j (hj : j < l.length), P l[j] = false) : l.any P = false := by
  rw [Bool.eq_false_iff]
  intro e
  obtain ⟨x, hx, hp⟩ := List.any_eq_true.1 e
  obtain ⟨j, hj, rfl⟩ := List.mem_iff_getElem.1 hx
  rw [h j hj] at hp
  cases hp

set_option maxRecDepth 100000 in
set_option maxHeartbeats 4000000 in
theorem indexL_any (fn : Nat) (hE : ∀ args w, (callFunc fn args).run Try.prog w = .ok (.enter fn args) w) (cp : Array Value) (P : Lk → Bool) (a : Option Addr) (l : List Lk) (cap B : Nat) (w : World) (h : Lks w B a l) (hB : B ≤ w.heap.size) (hl : l.length ≤ 1048577)
    (hP : ∀ k (hk : k < l.length) pa pc W, Below w.heap.size w W → LkIn W B l[k] pa pc → Calls Try.prog fn (#[.agg #[.int .i64 l[k].tk, .slice pa l[k].pa.length pc, .bool l[k].de, .bool l[k].sh, .int .i64 l[k].un]] ++ cp) W fun e w' => e = .returned (.bool (P l[k])) ∧ Below W.heap.size W w') :
    Calls Try.prog 41 #[.slice a l.length cap, .func (.func fn) #[] cp] w fun e w' => (∃ z : Int, e = .returned (.int .i64 z) ∧ placeB P l z) ∧ Below w.heap.size w w' := by
  have HH := hide h
  have HP := hide hP
  have HE := hide hE
  clear h hP hE
  go_enter Try.func41, Try.ntmps41
  go_wp2
  go_loopw [8] (fun i wr => ∃ k : Nat, k ≤ l.length ∧ i = .int .i64 k ∧ Hid (∀ j (hj : j < l.length), j < k → P l[j] = false) ∧ Below w.heap.size w wr) (fun i _ => l.length - (intOf i).toNat)
  case atStart => exact ⟨0, Nat.zero_le _, rfl, fun j _ hj => absurd hj (Nat.not_lt_zero _), Below.refl _ _⟩
  case round =>
    obtain ⟨k, hk, rfl, HN, hbe⟩ := hrel
    by_cases hlt : k < l.length
    · obtain ⟨b, o, rfl, hb, hc⟩ := (HH.out.below hbe hB) (by omega)
      obtain ⟨pa, pc, ⟨hc0, hc1, hc2, hc3, hc4⟩, hin⟩ := hc k hlt
      have HC := hide (HP.out k hlt pa pc wr hbe hin)
      obtain ⟨z, hz⟩ : ∃ z, P l[k] = z := ⟨_, rfl⟩
      rw [hz] at HC
      have HZ := hide hz
      clear hz hc hin
      go_wp2_with fail
      rw [HE.out, Oper.upon_enter]
      refine HC.out.mono ?_
      rintro e w1 ⟨rfl, b1⟩
      have c1 := hbe.trans (b1.mono hbe.size)
      clear b1 HC hc0 hc1 hc2 hc3 hc4
      cases z
      · go_wp2
        go_roundw
        case rel => exact ⟨k + 1, by omega, by go_num, fun j hj hjk => if e : j = k then by subst e; exact HZ.out else HN.out j hj (by omega), c1⟩
        case measure => simp [intOf]; omega
      · go_wp2
        go_ret
        exact ⟨⟨_, rfl, .inr ⟨k, rfl, hlt, HZ.out, HN.out⟩⟩, c1⟩
    · go_wp2
      go_ret
      exact ⟨⟨_, rfl, .inl ⟨rfl, any_none (fun j hj => HN.out j hj (by omega))⟩⟩, hbe⟩

set_option maxHeartbeats 1000000 in
theorem dropFn_any (r : Lk) (pa : Option Addr) (pc N : Nat) (t : Int) (w : World) (h : w.cell? ⟨N, 0, none⟩ = some (.int .i64 t)) :
    Calls Try.prog 42 #[.agg #[.int .i64 r.tk, .slice pa r.pa.length pc, .bool r.de, .bool r.sh, .int .i64 r.un], .pointer (some ⟨N, 0, none⟩)] w fun e w' => e = .returned (.bool (isTk t r)) ∧ Below w.heap.size w w' := by
  have hb := (Below.refl w.heap.size w).alloc (Nat.le_refl _) (Obj.cells #[.int .i64 r.tk, .slice pa r.pa.length pc, .bool r.de, .bool r.sh, .int .i64 r.un] 32)
  have hN : N < w.heap.size := World.block_lt_of_cell? w _ h
  have h1 := (hb.cell (p := ⟨N, 0, none⟩) hN).trans h
  have HB := hide hb
  clear hb
  go_enter Try.func42, Try.ntmps42
  go_wp2
  go_ret
  exact ⟨rfl, HB.out⟩

theorem lkCells_take (ts : List LkT) (k : Nat) : (lkCells ts).take (k * 5) = lkCells (ts.take k) := by
  induction ts generalizing k with
  | nil => simp [lkCells]
  | cons t l ih =>
    cases k with
    | zero => simp [lkCells]
    | succ k =>
      have e : lkCells (t :: l) = lkC1 t ++ lkCells l := by simp [lkCells]
      rw [e, List.take_succ_cons, show (k + 1) * 5 = (lkC1 t).length + k * 5 by simp [lkC1]; omega, List.take_length_add_append, ih]
      simp [lkCells]
theorem lkCells_drop (ts : List LkT) (k : Nat) : (lkCells ts).drop (k * 5) = lkCells (ts.drop k) := by
  induction ts generalizing k with
  | nil => simp [lkCells]
  | cons t l ih =>
    cases k with
    | zero => simp [lkCells]
    | succ k =>
      have e : lkCells (t :: l) = lkC1 t ++ lkCells l := by simp [lkCells]
      rw [e, List.drop_succ_cons, show (k + 1) * 5 = (lkC1 t).length + k * 5 by simp [lkC1]; omega, List.drop_length_add_append, ih]
end Go.Proofs.Ytackgogcpdbnlab
namespace Go.Proofs.Ytackgogcpdbnlab
open Go.RowKit

/-- The numbers that a slice holds, in a block below B. -/
def Ints (w : World) (B : Nat) (a : Option Addr) (l : List Int) : Prop :=
  0 < l.length → ∃ b o, a = some ⟨b, o, none⟩ ∧ b < B ∧ ∀ j (hj : j < l.length), w.cell? ⟨b, o + j, none⟩ = some (.int .i64 l[j])

theorem Ints.below {w w' : World} {B C : Nat} {a : Option Addr} {l : List Int} (h : Ints w B a l) (hb : Below C w w') (hB : B ≤ C) : Ints w' B a l := fun h0 => by
  obtain ⟨b, o, e, hbB, hc⟩ := h h0
  exact ⟨b, o, e, hbB, fun j hj => (hb.cell (p := ⟨b, o + j, none⟩) (Nat.lt_of_lt_of_le hbB hB)).trans (hc j hj)⟩
theorem Ints.mono {w : World} {B C : Nat} {a : Option Addr} {l : List Int} (h : Ints w B a l) (hB : B ≤ C) : Ints w C a l := fun h0 => by
  obtain ⟨b, o, e, hbB, hc⟩ := h h0
  exact ⟨b, o, e, Nat.lt_of_lt_of_le hbB hB, hc⟩
end Go.Proofs.Ytackgogcpdbnlab
namespace Go.Proofs.Ytackgogcpdbnlab

theorem ret_bool {a b : Bool} (h : a = b) : Ending.returned (.bool a) = .returned (.bool b) := by rw [h]
end Go.Proofs.Ytackgogcpdbnlab
namespace Go.Proofs.Ytackgogcpdbnlab
open Go.RowKit M
set_option linter.unusedVariables false

theorem anyI_none {t : Int} {l : List Int} (h : ∀ j (hj : j < l.length), l[j] ≠ t) : l.any (· == t) = false := by
  rw [Bool.eq_false_iff]
  intro e
  obtain ⟨x, hx, hp⟩ := List.any_eq_true.1 e
  obtain ⟨j, hj, rfl⟩ := List.mem_iff_getElem.1 hx
  exact h j hj (by simpa using hp)
theorem anyI_some {t : Int} {l : List Int} {k : Nat} (hk : k < l.length) (h : l[k] = t) : l.any (· == t) = true :=
  List.any_eq_true.2 ⟨l[k], List.getElem_mem hk, by simpa using h⟩

set_option maxHeartbeats 1000000 in
theorem specHas_any (a : Option Addr) (l : List Int) (cap B : Nat) (t : Int) (w : World) (h : Ints w B a l) (hl : l.length ≤ 1048576) :
    Calls Try.prog 52 #[.slice a l.length cap, .int .i64 t] w fun e w' => e = .returned (.bool (l.any (· == t))) ∧ w' = w := by
  have HH := hide h
  clear h
  go_enter Try.func52, Try.ntmps52
  go_wp2
  go_loopw [5] (fun i wr => ∃ k : Nat, k ≤ l.length ∧ i = .int .i64 k ∧ Hid (∀ j (hj : j < l.length), j < k → l[j] ≠ t) ∧ wr = w) (fun i _ => l.length - (intOf i).toNat)
  case atStart => exact ⟨0, Nat.zero_le _, rfl, fun j _ hj => absurd hj (Nat.not_lt_zero _), rfl⟩
  case round =>
    obtain ⟨k, hk, rfl, HN, hw⟩ := hrel
    obtain rfl := hw.symm
    by_cases hlt : k < l.length
    · obtain ⟨b, o, rfl, hb, hc⟩ := HH.out (by omega)
      have hck := hc k hlt
      clear hc
      by_cases hz : l[k] = t
      · have HA := hide (anyI_some hlt hz)
        go_wp2
        go_ret
        exact ⟨by rw [HA.out]; rfl, rfl⟩
      · have HZ := hide hz
        go_wp2
        go_roundw
        case rel => exact ⟨k + 1, by omega, by go_num, fun j hj hjk => if e : j = k then by subst e; exact HZ.out else HN.out j hj (by omega), by trivial⟩
        case measure => simp [intOf]; omega
    · have HA := hide (anyI_none (fun j hj => HN.out j hj (by omega)))
      go_wp2
      go_ret
      exact ⟨by rw [HA.out]; rfl, rfl⟩
end Go.Proofs.Ytackgogcpdbnlab
namespace Go.Proofs.Ytackgogcpdbnlab
open Go.RowKit
set_option linter.unusedVariables false

set_option maxHeartbeats 400000 in
theorem slicesEqual_any (a b : Option Addr) (ss tt : List ByteArray) (cap cap' B C : Nat) (w : World) (h : Strs w B a ss) (h' : Strs w C b tt) (hl : ss.length ≤ maxLen) (hl' : tt.length ≤ maxLen) :
    Calls Try.prog 79 #[.slice a ss.length cap, .slice b tt.length cap'] w fun e w' => e = .returned (.bool (sameL ss tt)) ∧ ∀ D, Below D w w' := by
  unfold maxLen at hl hl'
  by_cases hlen : ss.length = tt.length
  · have HL : Hid (ss.length = tt.length) := hlen
    go_enter Try.func79, Try.ntmps79
    rw [← hlen]
    clear hlen
    go_wp2
    go_loopw [13] (fun i wr => ∃ k n : Nat, k ≤ ss.length ∧ i = .int .i64 k ∧ ss.take k = tt.take k ∧ wr = w.drewN n) (fun i _ => ss.length - (intOf i).toNat)
    case atStart => exact ⟨0, 0, Nat.zero_le _, rfl, rfl, rfl⟩
    case round =>
      obtain ⟨k, n, hk, rfl, ht, rfl⟩ := hrel
      have HT : Hid (ss.take k = tt.take k) := ht
      clear ht
      by_cases hlt : k < ss.length
      · have hlt' : k < tt.length := by have := HL.out; omega
        obtain ⟨b1, o1, rfl, hb1, hc1⟩ := h (by omega)
        obtain ⟨b2, o2, rfl, hb2, hc2⟩ := h' (by have := HL.out; omega)
        have hcx := hc1 k hlt
        have hcy := hc2 k hlt'
        go_wp2
        go_quiet (fail)
        go_wp2
        · rename_i hne
          have hne' : ¬ ss[k] = tt[k] := fun e => by rw [e] at hne; simp at hne
          go_ret
          exact ⟨ret_bool (sameL_not k hlt hlt' hne').symm, fun D => below_drewN (below_drewN (Below.refl _ _) _) _⟩
        · rename_i he
          have he' : ss[k] = tt[k] := str_inj (by simpa using he)
          go_roundw
          case rel => exact ⟨k + 1, n + nq, by omega, by go_num, take_same k hlt hlt' HT.out he', by simp⟩
          case measure => simp [intOf]; omega
      · go_wp2
        go_ret
        exact ⟨ret_bool (sameL_all HL.out k hlt HT.out).symm, fun D => below_drewN (Below.refl _ _) _⟩
  · have HS := sameL_len hlen
    go_enter Try.func79, Try.ntmps79
    go_wp2
    go_ret
    exact ⟨ret_bool HS.symm, fun D => Below.refl _ _⟩
end Go.Proofs.Ytackgogcpdbnlab
namespace Go.Proofs.Ytackgogcpdbnlab
open Go.RowKit
set_option linter.unusedVariables false

set_option maxHeartbeats 400000 in
theorem under_any (a b : Option Addr) (ss tt : List ByteArray) (cap cap' B C : Nat) (w : World) (h : Strs w B a ss) (h' : Strs w C b tt) (hl : ss.length ≤ maxLen) (hl' : tt.length ≤ maxLen) (hc : ss.length ≤ cap) (hc' : cap ≤ maxLen) :
    Calls Try.prog 68 #[.slice a ss.length cap, .slice b tt.length cap'] w fun e w' => e = .returned (.bool (underB ss tt)) ∧ ∀ D, Below D w w' := by
  have hl1 := hl
  have hl2 := hl'
  have hc2 := hc'
  unfold maxLen at hl hl' hc'
  by_cases hlt : tt.length < ss.length
  · have ht : (ss.take tt.length).length = tt.length := by rw [List.length_take]; omega
    have cE := fun w1 cap1 (hh : Strs w1 B a ss) (hh' : Strs w1 C b tt) => slicesEqual_any a b (ss.take tt.length) tt cap1 cap' B C w1 (hh.take _) hh' (by omega) hl2
    rw [ht] at cE
    obtain ⟨b1, o1, rfl, _, _⟩ := h (by omega)
    go_enter Try.func68, Try.ntmps68
    go_wp2_with fail
    refine (cE _ _ h h').mono ?_
    rintro e w1 ⟨rfl, hb⟩
    go_wp2
    go_ret
    exact ⟨ret_bool (by simp [underB, hlt]), hb⟩
  · go_enter Try.func68, Try.ntmps68
    go_wp2
    go_ret
    exact ⟨ret_bool (by simp [underB, hlt]), fun D => Below.refl _ _⟩

end Go.Proofs.Ytackgogcpdbnlab
namespace Go.Proofs.Ytackgogcpdbnlab
open Go.RowKit
set_option linter.unusedVariables false

set_option maxHeartbeats 400000 in
theorem samePath_any (a b : Option Addr) (ss tt : List ByteArray) (cap cap' B C : Nat) (w : World) (h : Strs w B a ss) (h' : Strs w C b tt) (hl : ss.length ≤ maxLen) (hl' : tt.length ≤ maxLen) :
    Calls Try.prog 67 #[.slice a ss.length cap, .slice b tt.length cap'] w fun e w' => e = .returned (.bool (sameL ss tt)) ∧ ∀ D, Below D w w' := by
  go_enter Try.func67, Try.ntmps67
  go_wp2_with fail
  refine (slicesEqual_any a b ss tt cap cap' B C w h h' hl hl').mono ?_
  rintro e w1 ⟨rfl, hb⟩
  go_wp2
  go_ret
  exact ⟨rfl, hb⟩
end Go.Proofs.Ytackgogcpdbnlab
namespace Go.Proofs.Ytackgogcpdbnlab
open Go.RowKit M
set_option linter.unusedVariables false

set_option maxHeartbeats 1000000 in
theorem covers_any (r : Lk) (pa : Option Addr) (pc : Nat) (a : Option Addr) (ss : List ByteArray) (cap B C : Nat) (w : World) (h : LkIn w B r pa pc) (hB : B ≤ w.heap.size) (h' : Strs w C a ss) (hC : C ≤ w.heap.size) (hl : ss.length ≤ cap) (hm : cap ≤ maxLen) :
    Calls Try.prog 49 #[.agg #[.int .i64 r.tk, .slice pa r.pa.length pc, .bool r.de, .bool r.sh, .int .i64 r.un], .slice a ss.length cap] w fun e w' => e = .returned (.bool (covB r ss)) ∧ Below w.heap.size w w' := by
  have l1 := h.len
  have p1 := h.ph
  have l2 : ss.length ≤ maxLen := Nat.le_trans hl hm
  have F1 : Hid (sameL r.pa ss = true → covB r ss = true) := fun e => by unfold covB; rw [e]; rfl
  have F2 : Hid (sameL r.pa ss = false → r.de = false → covB r ss = false) := fun e e' => by unfold covB; rw [e, e']; rfl
  have F3 : Hid (sameL r.pa ss = false → r.de = true → covB r ss = underB ss r.pa) := fun e e' => by unfold covB; rw [e, e']; rfl
  generalize covB r ss = dd at *
  clear h
  obtain ⟨tk, tt, de, sh, un⟩ := r
  simp only at *
  have hb0 : Below w.heap.size w (w.alloc (Obj.cells #[.int .i64 tk, .slice pa tt.length pc, .bool de, .bool sh, .int .i64 un] 32)) := (Below.refl _ _).alloc (Nat.le_refl _) _
  have hS := samePath_any pa a tt ss pc cap B C _ (p1.below hb0 hB) (h'.below hb0 hC) l1 l2
  have HU := hide (fun w1 (hb : ∀ D, Below D (w.alloc (Obj.cells #[.int .i64 tk, .slice pa tt.length pc, .bool de, .bool sh, .int .i64 un] 32)) w1) => under_any a pa ss tt cap pc C B w1 ((h'.below hb0 hC).below (hb _) (Nat.le_refl _)) ((p1.below hb0 hB).below (hb _) (Nat.le_refl _)) l2 l1 hl hm)
  have HB0 := hide hb0
  clear hb0 p1 h'
  obtain ⟨z, hz⟩ : ∃ z, sameL tt ss = z := ⟨_, rfl⟩
  rw [hz] at hS
  have HS := hide hS
  clear hS
  cases z
  · cases de
    · rw [F2.out hz rfl]
      clear hz
      go_enter Try.func49, Try.ntmps49
      go_wp2_with fail
      refine HS.out.mono ?_
      rintro e w1 ⟨rfl, hb1⟩
      have hcl : ∀ b o, w1.cell? ⟨b, o, none⟩ = _ := fun b o => (hb1 (b + 1)).cell (p := ⟨b, o, none⟩) (Nat.lt_succ_self _)
      have HC1 := hide (HB0.out.trans (hb1 _))
      clear hb1
      go_wp2
      go_ret
      exact ⟨rfl, HC1.out⟩
    · rw [F3.out hz rfl]
      clear hz
      go_enter Try.func49, Try.ntmps49
      go_wp2_with fail
      refine HS.out.mono ?_
      rintro e w1 ⟨rfl, hb1⟩
      have hcl : ∀ b o, w1.cell? ⟨b, o, none⟩ = _ := fun b o => (hb1 (b + 1)).cell (p := ⟨b, o, none⟩) (Nat.lt_succ_self _)
      have HC1 := hide (HB0.out.trans (hb1 _))
      have HU1 := hide (HU.out w1 hb1)
      clear hb1
      go_wp2_with fail
      refine HU1.out.mono ?_
      rintro e w2 ⟨rfl, hb2⟩
      have c2 := HC1.out.trans (hb2 _)
      go_wp2
      go_ret
      exact ⟨rfl, c2⟩
  · rw [F1.out hz]
    clear hz
    go_enter Try.func49, Try.ntmps49
    go_wp2_with fail
    refine HS.out.mono ?_
    rintro e w1 ⟨rfl, hb1⟩
    have HC1 := hide (HB0.out.trans (hb1 _))
    clear hb1
    go_wp2
    go_ret
    exact ⟨rfl, HC1.out⟩
end Go.Proofs.Ytackgogcpdbnlab
namespace Go.Proofs.Ytackgogcpdbnlab
open Go.RowKit M
set_option linter.unusedVariables false

set_option maxRecDepth 100000 in
set_option maxHeartbeats 4000000 in
theorem indexO_any (fn : Nat) (hE : ∀ args w, (callFunc fn args).run Try.prog w = .ok (.enter fn args) w) (cp : Array Value) (P : Lk → Bool) (a : Option Addr) (l : List Lk) (cap B : Nat) (w : World) (h : Lks w B a l) (hB : B ≤ w.heap.size) (hl : l.length ≤ 1048577)
    (hP : ∀ k (hk : k < l.length) pa pc W, Below w.heap.size w W → LkIn W B l[k] pa pc → Calls Try.prog fn (#[.agg #[.int .i64 l[k].tk, .slice pa l[k].pa.length pc, .bool l[k].de, .bool l[k].sh, .int .i64 l[k].un]] ++ cp) W fun e w' => e = .returned (.bool (P l[k])) ∧ Below W.heap.size W w') :
    Calls Try.prog 71 #[.slice a l.length cap, .func (.func fn) #[] cp] w fun e w' => (∃ z : Int, e = .returned (.int .i64 z) ∧ placeB P l z) ∧ Below w.heap.size w w' := by
  have HH := hide h
  have HP := hide hP
  have HE := hide hE
  clear h hP hE
  go_enter Try.func71, Try.ntmps71
  go_wp2
  go_loopw [8] (fun i wr => ∃ k : Nat, k ≤ l.length ∧ i = .int .i64 k ∧ Hid (∀ j (hj : j < l.length), j < k → P l[j] = false) ∧ Below w.heap.size w wr) (fun i _ => l.length - (intOf i).toNat)
  case atStart => exact ⟨0, Nat.zero_le _, rfl, fun j _ hj => absurd hj (Nat.not_lt_zero _), Below.refl _ _⟩
  case round =>
    obtain ⟨k, hk, rfl, HN, hbe⟩ := hrel
    by_cases hlt : k < l.length
    · obtain ⟨b, o, rfl, hb, hc⟩ := (HH.out.below hbe hB) (by omega)
      obtain ⟨pa, pc, ⟨hc0, hc1, hc2, hc3, hc4⟩, hin⟩ := hc k hlt
      have HC := hide (HP.out k hlt pa pc wr hbe hin)
      obtain ⟨z, hz⟩ : ∃ z, P l[k] = z := ⟨_, rfl⟩
      rw [hz] at HC
      have HZ := hide hz
      clear hz hc hin
      go_wp2_with fail
      rw [HE.out, Oper.upon_enter]
      refine HC.out.mono ?_
      rintro e w1 ⟨rfl, b1⟩
      have c1 := hbe.trans (b1.mono hbe.size)
      clear b1 HC hc0 hc1 hc2 hc3 hc4
      cases z
      · go_wp2
        go_roundw
        case rel => exact ⟨k + 1, by omega, by go_num, fun j hj hjk => if e : j = k then by subst e; exact HZ.out else HN.out j hj (by omega), c1⟩
        case measure => simp [intOf]; omega
      · go_wp2
        go_ret
        exact ⟨⟨_, rfl, .inr ⟨k, rfl, hlt, HZ.out, HN.out⟩⟩, c1⟩
    · go_wp2
      go_ret
      exact ⟨⟨_, rfl, .inl ⟨rfl, any_none (fun j hj => HN.out j hj (by omega))⟩⟩, hbe⟩


theorem placeB_any {P : Lk → Bool} {l : List Lk} {z : Int} (h : placeB P l z) : decide (0 ≤ z) = l.any P := by
  rcases h with ⟨rfl, h⟩ | ⟨k, rfl, hk, h, _⟩
  · rw [h]; rfl
  · rw [List.any_eq_true.2 ⟨l[k], List.getElem_mem hk, h⟩]; simp
theorem any_lk {P : Lk → Bool} (l : List Lk) : (l.filter P).length = 0 ↔ l.any P = false := by
  rw [List.length_eq_zero_iff, List.filter_eq_nil_iff, Bool.eq_false_iff, ne_eq, List.any_eq_true]
  exact ⟨fun h ⟨x, hx, hp⟩ => h x hx hp, fun h x hx hp => h ⟨x, hx, hp⟩⟩

set_option maxHeartbeats 1000000 in
theorem indexI_any (a : Option Addr) (l : List Int) (cap B : Nat) (t : Int) (w : World) (h : Ints w B a l) (hl : l.length ≤ 1048576) :
    Calls Try.prog 69 #[.slice a l.length cap, .int .i64 t] w fun e w' => (∃ z : Int, e = .returned (.int .i64 z) ∧ decide (0 ≤ z) = l.any (· == t)) ∧ w' = w := by
  have HH := hide h
  clear h
  go_enter Try.func69, Try.ntmps69
  go_wp2
  go_loopw [8] (fun i wr => ∃ k : Nat, k ≤ l.length ∧ i = .int .i64 k ∧ Hid (∀ j (hj : j < l.length), j < k → l[j] ≠ t) ∧ wr = w) (fun i _ => l.length - (intOf i).toNat)
  case atStart => exact ⟨0, Nat.zero_le _, rfl, fun j _ hj => absurd hj (Nat.not_lt_zero _), rfl⟩
  case round =>
    obtain ⟨k, hk, rfl, HN, hw⟩ := hrel
    obtain rfl := hw.symm
    by_cases hlt : k < l.length
    · obtain ⟨b, o, rfl, hb, hc⟩ := HH.out (by omega)
      have hck := hc k hlt
      clear hc
      by_cases hz : l[k] = t
      · have HA := hide (anyI_some hlt hz)
        go_wp2
        go_ret
        exact ⟨⟨_, rfl, by rw [HA.out]; simp⟩, rfl⟩
      · have HZ := hide hz
        have hz2 : ¬ t = l[k] := fun e => hz e.symm
        go_wp2
        go_roundw
        case rel => exact ⟨k + 1, by omega, by go_num, fun j hj hjk => if e : j = k then by subst e; exact HZ.out else HN.out j hj (by omega), by trivial⟩
        case measure => simp [intOf]; omega
    · have HA := hide (anyI_none (fun j hj => HN.out j hj (by omega)))
      go_wp2
      go_ret
      exact ⟨⟨_, rfl, by rw [HA.out]; rfl⟩, rfl⟩

set_option maxHeartbeats 1000000 in
theorem containsI_any (a : Option Addr) (l : List Int) (cap B : Nat) (t : Int) (w : World) (h : Ints w B a l) (hl : l.length ≤ 1048576) :
    Calls Try.prog 54 #[.slice a l.length cap, .int .i64 t] w fun e w' => e = .returned (.bool (l.any (· == t))) ∧ w' = w := by
  have HQ := hide (indexI_any a l cap B t w h hl)
  clear h
  go_enter Try.func54, Try.ntmps54
  go_wp2_with fail
  refine HQ.out.mono ?_
  rintro e w1 ⟨⟨z, rfl, hz⟩, hw⟩
  obtain rfl := hw.symm
  have HZ := hide hz
  clear hz hw
  go_wp2
  go_ret
  exact ⟨by rw [← HZ.out]; rfl, rfl⟩

set_option maxHeartbeats 1000000 in
theorem containsO_any (fn : Nat) (hE : ∀ args w, (callFunc fn args).run Try.prog w = .ok (.enter fn args) w) (cp : Array Value) (P : Lk → Bool) (a : Option Addr) (l : List Lk) (cap B : Nat) (w : World) (h : Lks w B a l) (hB : B ≤ w.heap.size) (hl : l.length ≤ 1048577)
    (hP : ∀ k (hk : k < l.length) pa pc W, Below w.heap.size w W → LkIn W B l[k] pa pc → Calls Try.prog fn (#[.agg #[.int .i64 l[k].tk, .slice pa l[k].pa.length pc, .bool l[k].de, .bool l[k].sh, .int .i64 l[k].un]] ++ cp) W fun e w' => e = .returned (.bool (P l[k])) ∧ Below W.heap.size W w') :
    Calls Try.prog 58 #[.slice a l.length cap, .func (.func fn) #[] cp] w fun e w' => e = .returned (.bool (l.any P)) ∧ Below w.heap.size w w' := by
  have HQ := hide (indexO_any fn hE cp P a l cap B w h hB hl hP)
  clear h hP hE
  go_enter Try.func58, Try.ntmps58
  go_wp2_with fail
  refine HQ.out.mono ?_
  rintro e w1 ⟨⟨z, rfl, hz⟩, b1⟩
  have HZ := hide (placeB_any hz)
  have HB := hide b1
  clear hz b1
  go_wp2
  go_ret
  exact ⟨by rw [← HZ.out]; rfl, HB.out⟩

set_option maxHeartbeats 1000000 in
theorem heldFn_any (r : Lk) (pa : Option Addr) (pc N : Nat) (C : Nat) (ta : Option Addr) (toks : List Int) (tc : Nat) (w : World) (h : w.cell? ⟨N, 0, none⟩ = some (.slice ta toks.length tc)) (ht : Ints w C ta toks) (hC : C ≤ w.heap.size) (hl : toks.length ≤ 1048576) :
    Calls Try.prog 53 #[.agg #[.int .i64 r.tk, .slice pa r.pa.length pc, .bool r.de, .bool r.sh, .int .i64 r.un], .pointer (some ⟨N, 0, none⟩)] w fun e w' => e = .returned (.bool (hasB toks r)) ∧ Below w.heap.size w w' := by
  have hb := (Below.refl w.heap.size w).alloc (Nat.le_refl _) (Obj.cells #[.int .i64 r.tk, .slice pa r.pa.length pc, .bool r.de, .bool r.sh, .int .i64 r.un] 32)
  have hN : N < w.heap.size := World.block_lt_of_cell? w _ h
  have h1 := (hb.cell (p := ⟨N, 0, none⟩) hN).trans h
  have HQ := hide (containsI_any ta toks tc C r.tk _ (ht.below hb hC) hl)
  have HB := hide hb
  clear hb ht h
  go_enter Try.func53, Try.ntmps53
  go_wp2_with fail
  refine HQ.out.mono ?_
  rintro e w1 ⟨rfl, hw⟩
  obtain rfl := hw.symm
  clear HQ hw
  go_wp2
  go_ret
  exact ⟨rfl, HB.out⟩

set_option maxHeartbeats 1000000 in
theorem sharedFn_any (r : Lk) (pa : Option Addr) (pc : Nat) (w : World) :
    Calls Try.prog 56 #[.agg #[.int .i64 r.tk, .slice pa r.pa.length pc, .bool r.de, .bool r.sh, .int .i64 r.un]] w fun e w' => e = .returned (.bool r.sh) ∧ Below w.heap.size w w' := by
  have HB := hide ((Below.refl w.heap.size w).alloc (Nat.le_refl _) (Obj.cells #[.int .i64 r.tk, .slice pa r.pa.length pc, .bool r.de, .bool r.sh, .int .i64 r.un] 32))
  go_enter Try.func56, Try.ntmps56
  go_wp2
  go_ret
  exact ⟨rfl, HB.out⟩

set_option maxHeartbeats 2000000 in
theorem missFn_any (r : Lk) (pa : Option Addr) (pc N M C : Nat) (ta : Option Addr) (toks : List Int) (tc : Nat) (w : World) (hM : w.cell? ⟨M, 0, none⟩ = some (.func (.func 53) #[] #[.pointer (some ⟨N, 0, none⟩)])) (h : w.cell? ⟨N, 0, none⟩ = some (.slice ta toks.length tc)) (ht : Ints w C ta toks) (hC : C ≤ w.heap.size) (hl : toks.length ≤ 1048576) :
    Calls Try.prog 57 #[.agg #[.int .i64 r.tk, .slice pa r.pa.length pc, .bool r.de, .bool r.sh, .int .i64 r.un], .pointer (some ⟨M, 0, none⟩)] w fun e w' => e = .returned (.bool (!r.sh && !hasB toks r)) ∧ Below w.heap.size w w' := by
  have hb := (Below.refl w.heap.size w).alloc (Nat.le_refl _) (Obj.cells #[.int .i64 r.tk, .slice pa r.pa.length pc, .bool r.de, .bool r.sh, .int .i64 r.un] 32)
  have hN : N < w.heap.size := World.block_lt_of_cell? w _ h
  have hM2 : M < w.heap.size := World.block_lt_of_cell? w _ hM
  have h1 := (hb.cell (p := ⟨N, 0, none⟩) hN).trans h
  have h2 := (hb.cell (p := ⟨M, 0, none⟩) hM2).trans hM
  have HQ := hide (heldFn_any r pa pc N C ta toks tc _ h1 (ht.below hb hC) (Nat.le_trans hC hb.size) hl)
  have HB := hide hb
  clear hb ht h h1 hM
  obtain ⟨tk, tt, de, sh, un⟩ := r
  simp only at *
  generalize hasB toks ⟨tk, tt, de, sh, un⟩ = hs at *
  cases sh
  · go_enter Try.func57, Try.ntmps57
    go_wp2_with fail
    refine HQ.out.mono ?_
    rintro e w1 ⟨rfl, b1⟩
    have HC1 := hide (HB.out.trans (b1.mono HB.out.size))
    clear b1 HQ h2
    go_wp2
    go_ret
    exact ⟨rfl, HC1.out⟩
  · go_enter Try.func57, Try.ntmps57
    clear HQ h2
    go_wp2
    go_ret
    exact ⟨rfl, HB.out⟩

set_option maxHeartbeats 2000000 in
theorem touchFn_any (r : Lk) (pa : Option Addr) (pc N M B C : Nat) (qa : Option Addr) (q : List ByteArray) (qc : Nat) (deep : Bool) (w : World) (h : w.cell? ⟨N, 0, none⟩ = some (.slice qa q.length qc)) (hM : w.cell? ⟨M, 0, none⟩ = some (.bool deep)) (hin : LkIn w B r pa pc) (hB : B ≤ w.heap.size) (hq : Strs w C qa q) (hC : C ≤ w.heap.size) (h1 : q.length ≤ qc) (h2 : qc ≤ maxLen) :
    Calls Try.prog 70 #[.agg #[.int .i64 r.tk, .slice pa r.pa.length pc, .bool r.de, .bool r.sh, .int .i64 r.un], .pointer (some ⟨N, 0, none⟩), .pointer (some ⟨M, 0, none⟩)] w fun e w' => e = .returned (.bool (touchB q deep r)) ∧ Below w.heap.size w w' := by
  have hb := (Below.refl w.heap.size w).alloc (Nat.le_refl _) (Obj.cells #[.int .i64 r.tk, .slice pa r.pa.length pc, .bool r.de, .bool r.sh, .int .i64 r.un] 32)
  have hN : N < w.heap.size := World.block_lt_of_cell? w _ h
  have hM2 : M < w.heap.size := World.block_lt_of_cell? w _ hM
  have c1 := (hb.cell (p := ⟨N, 0, none⟩) hN).trans h
  have c2 := (hb.cell (p := ⟨M, 0, none⟩) hM2).trans hM
  have HQ := hide (covers_any r pa pc qa q qc B C _ (hin.below hb hB) (Nat.le_trans hB hb.size) (hq.below hb hC) (Nat.le_trans hC hb.size) h1 h2)
  have HU := hide (fun w1 (hb1 : Below w.heap.size w w1) => under_any pa qa r.pa q pc qc B C w1 (hin.ph.below hb1 hB) (hq.below hb1 hC) hin.len (Nat.le_trans h1 h2) hin.pl hin.pm)
  have HX := hide (BoxV.made w [.int .i64 r.tk, .slice pa r.pa.length pc, .bool r.de, .bool r.sh, .int .i64 r.un] 32)
  have HB := hide hb
  have hsz : (w.alloc (Obj.cells #[.int .i64 r.tk, .slice pa r.pa.length pc, .bool r.de, .bool r.sh, .int .i64 r.un] 32)).heap.size = w.heap.size + 1 := by simp
  have HSZ := hide hsz
  have HT := hide (show touchB q deep r = (covB r q || (deep && underB r.pa q)) from rfl)
  clear hb hin hq h hM hsz
  generalize touchB q deep r = tb at *
  generalize covB r q = cv at *
  generalize underB r.pa q = un2 at *
  have hT := HT.out
  clear HT
  go_enter Try.func70, Try.ntmps70
  go_wp2_with fail
  refine HQ.out.mono ?_
  rintro e w1 ⟨rfl, b1⟩
  have HC1 := hide (HB.out.trans (b1.mono HB.out.size))
  have d1 := (b1.cell (p := ⟨N, 0, none⟩) (Nat.lt_of_lt_of_le hN HB.out.size)).trans c1
  have d2 := (b1.cell (p := ⟨M, 0, none⟩) (Nat.lt_of_lt_of_le hM2 HB.out.size)).trans c2
  have hx := (HX.out.next b1).2 1 _ rfl
  have hx1 := hx.1
  have HU1 := hide (HU.out w1 HC1.out)
  clear b1 HQ c1 c2 hx HU
  cases cv
  · cases deep
    · simp only [Bool.false_and, Bool.or_self] at hT
      subst hT
      go_wp2
      go_ret
      exact ⟨rfl, HC1.out⟩
    · simp only [Bool.true_and, Bool.false_or] at hT
      subst hT
      go_wp2_with fail
      refine HU1.out.mono ?_
      rintro e w2 ⟨rfl, b2⟩
      have HC2 := hide (HC1.out.trans (b2 _))
      clear b2
      go_wp2
      go_ret
      exact ⟨rfl, HC2.out⟩
  · simp only [Bool.true_or] at hT
    subst hT
    go_wp2
    go_ret
    exact ⟨rfl, HC1.out⟩

set_option maxHeartbeats 2000000 in
theorem touching_any (a : Option Addr) (l : List Lk) (cap B : Nat) (qa : Option Addr) (q : List ByteArray) (qc C : Nat) (deep : Bool) (w : World) (h : Lks w B a l) (hB : B ≤ w.heap.size) (hq : Strs w C qa q) (hC : C ≤ w.heap.size) (h1 : q.length ≤ qc) (h2 : qc ≤ maxLen) (hl : l.length ≤ 1048576) :
    Calls Try.prog 55 #[.slice a l.length cap, .slice qa q.length qc, .bool deep] w fun e w' => (∃ (g n c : Nat) (ts : List LkT), e = .returned (.slice (some ⟨g, 0, none⟩) n c) ∧ n = ts.length ∧ n ≤ c ∧ c ≤ maxLen ∧ g < w'.heap.size ∧ ts.map (·.r) = l.filter (touchB q deep) ∧ RowV w' g ts ∧ InV w' B ts) ∧ Below w.heap.size w w' := by
  have hmf : ∀ (fn : Fn) (first cap : Array Value) (w : World), (Instr.makeFunc fn first cap).run Try.prog w = .ok (.func fn first cap) w := fun _ _ _ _ => rfl
  have hb0 := ((Below.refl w.heap.size w).alloc (Nat.le_refl _) (Obj.cells #[.slice qa q.length qc] 23)).alloc (by simp) (Obj.cells #[.bool deep] 4)
  have hc1 : ((w.alloc (Obj.cells #[.slice qa q.length qc] 23)).alloc (Obj.cells #[.bool deep] 4)).cell? ⟨w.heap.size, 0, none⟩ = some (.slice qa q.length qc) := by simp
  have hc2 : ((w.alloc (Obj.cells #[.slice qa q.length qc] 23)).alloc (Obj.cells #[.bool deep] 4)).cell? ⟨w.heap.size + 1, 0, none⟩ = some (.bool deep) := by simp
  have HT := hide (those_any 70 (fun args w => enter_fn Try.func70 (by kernel_rfl) rfl args w) #[.pointer (some ⟨w.heap.size, 0, none⟩), .pointer (some ⟨w.heap.size + 1, 0, none⟩)] (touchB q deep) a l cap B _ (h.below hb0 hB) (Nat.le_trans hB hb0.size) (by omega) (fun k hk pa pc W hW hin => touchFn_any l[k] pa pc w.heap.size (w.heap.size + 1) B C qa q qc deep W ((hW.cell (p := ⟨w.heap.size, 0, none⟩) (by simp; try omega)).trans hc1) ((hW.cell (p := ⟨w.heap.size + 1, 0, none⟩) (by simp; try omega)).trans hc2) hin (Nat.le_trans (Nat.le_trans hB hb0.size) hW.size) ((hq.below hb0 hC).below hW (Nat.le_trans hC hb0.size)) (Nat.le_trans (Nat.le_trans hC hb0.size) hW.size) h1 h2))
  have HB0 := hide hb0
  clear hb0 hc1 hc2 h hq h1 h2
  go_enter Try.func55, Try.ntmps55
  go_wp2_with fail
  refine HT.out.mono ?_
  rintro e w1 ⟨⟨g, n, c, ts, rfl, hn, hc1, hc2, hg, hgl, hts, hrow, hin⟩, b1⟩
  have HC1 := hide (HB0.out.trans (b1.mono HB0.out.size))
  have HF := hide (And.intro hn (And.intro hc1 (And.intro hc2 (And.intro hgl (And.intro hts (And.intro hrow hin))))))
  clear hn hc1 hc2 hg hgl hts hrow hin b1 HT
  go_wp2
  go_ret
  exact ⟨⟨g, n, c, ts, rfl, HF.out⟩, HC1.out⟩
end Go.Proofs.Ytackgogcpdbnlab
