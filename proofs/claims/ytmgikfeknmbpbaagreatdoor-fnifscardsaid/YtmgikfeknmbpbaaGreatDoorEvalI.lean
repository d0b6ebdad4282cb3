/-
  What laws.sameInts does.
  Whether a list of texts stands under another.
  Plain facts on names and paths: no program in sight.
  Plain facts on the text of a path: no program in sight.
  Locks: no program in sight.
  Lists of locks that are right: no program in sight.
  What is told of locks, and which stay: no program in sight.
  What spec.l13Has does.
  The Tokens without Not; and whether a list holds.
  What spec.EvalIf does.
  What slices.Contains at numbers does.
  What impl.EvalIf does: closures that are asked of tokens and a mark.
-/
import Derived.Test.YtmgikfeknmbpbaaGreatDoorSpecSameIf
import Derived.Test.YtmgikfeknmbpbaaGreatDoorInts
import Derived.Deep.Light
import Derived.Deep.QuietTactic
import Derived.Test.YtmgikfeknmbpbaaGreatDoorMathNum
import Derived.Test.YtmgikfeknmbpbaaGreatDoorTurn
import Derived.Lib.Join
import Derived.Test.YtmgikfeknmbpbaaGreatDoorAt7
import Derived.Test.YtmgikfeknmbpbaaGreatDoorMathIf
import Derived.Test.YtmgikfeknmbpbaaGreatDoorConds
import Derived.Deep.RegionHeld3
namespace Go.Proofs.YtmgikfeknmbpbaaGreatDoor
open Go.RowKit M
set_option linter.unusedVariables false

set_option maxRecDepth 100000 in
set_option maxHeartbeats 4000000 in
theorem sameInts_any (p q : Option Addr) (a b : List Int) (ca cb B C : Nat) (w : World) (h : Ints w B p a) (h' : Ints w C q b) (hla : a.length ≤ 4194304) (hlb : b.length ≤ 4194304) :
    Calls Tryz.prog 16 #[.slice p a.length ca, .slice q b.length cb] w fun e w' => (∃ z : Bool, e = .returned (.bool z) ∧ (z = true ↔ a = b)) ∧ Below w.heap.size w w' := by
  have HH := hide h
  have HH' := hide h'
  clear h h'
  by_cases hl : a.length = b.length
  rotate_left
  · have HN := hide (show ¬ a = b from fun e => hl (by rw [e]))
    have hl1 : ((a.length : Int) == (b.length : Int)) = false := by rw [beq_eq_false_iff_ne]; omega
    have hl2 : ((a.length : Int) != (b.length : Int)) = true := by rw [bne_iff_ne]; omega
    go_enter Tryz.func16, Tryz.ntmps16
    go_wp2
    go_ret
    exact ⟨⟨_, rfl, ⟨fun e => (by cases e), fun e => absurd e HN.out⟩⟩, Below.refl _ _⟩
  have hl1 : ((a.length : Int) == (b.length : Int)) = true := by rw [beq_iff_eq]; omega
  have hl2 : ((a.length : Int) != (b.length : Int)) = false := by rw [hl]; simp
  have HL := hide hl
  clear hl
  go_enter Tryz.func16, Tryz.ntmps16
  go_wp2
  go_loopw [5] (fun i wr => ∃ k n : Nat, k ≤ a.length ∧ i = .int .i64 k ∧ Hid (a.take k = b.take k) ∧ wr = w.drewN n) (fun i _ => a.length - (intOf i).toNat)
  case atStart => exact ⟨0, 0, Nat.zero_le _, rfl, rfl, rfl⟩
  case round =>
    obtain ⟨k, n, hk, rfl, HT, hw⟩ := hrel
    subst hw
    by_cases hlt : k < a.length
    · have hltb : k < b.length := by have := HL.out; omega
      obtain ⟨b1, o1, rfl, hb1, hc1⟩ := HH.out (by omega)
      obtain ⟨b2, o2, rfl, hb2, hc2⟩ := HH'.out (by omega)
      have x0 := hc1 k hlt
      have y0 := hc2 k hltb
      have HNE := hide (fun e => take_not hlt hltb e)
      have HSM := hide (fun e => take_sameI hlt hltb HT.out e)
      clear hc1 hc2
      have hi0 : (0 : Int) ≤ (k : Int) := by omega
      have hi1 : (k : Int) < (a.length : Int) := by omega
      have hi2 : (k : Int) < (b.length : Int) := by omega
      obtain ⟨x, hx⟩ : ∃ z, a[k] = z := ⟨_, rfl⟩
      obtain ⟨y, hy⟩ : ∃ z, b[k] = z := ⟨_, rfl⟩
      rw [hx] at HNE HSM x0
      rw [hy] at HNE HSM y0
      clear hx hy
      have d0 : (w.drewN n).cell? ⟨b1, o1 + k, none⟩ = some (.int .i64 x) := x0
      have d1 : (w.drewN n).cell? ⟨b2, o2 + k, none⟩ = some (.int .i64 y) := y0
      by_cases q1 : x = y
      · have HN := hide (HSM.out q1)
        go_wp2
        go_quiet (fail)
        go_wp2
        go_roundw
        case rel => exact ⟨k + 1, n + nq, by omega, by go_num, HN, by simp⟩
        case measure => simp [intOf]; omega
      · have HN := hide (HNE.out q1)
        go_wp2
        go_quiet (fail)
        go_wp2
        go_ret
        exact ⟨⟨_, rfl, ⟨fun e => (by cases e), fun e => absurd e HN.out⟩⟩, below_drewN (below_drewN (Below.refl _ _) _) _⟩
    · have HE := hide (show a = b by
        have h1 := HT.out
        rw [List.take_of_length_le (by omega), List.take_of_length_le (by have := HL.out; omega)] at h1
        exact h1)
      go_wp2
      go_ret
      exact ⟨⟨_, rfl, ⟨fun _ => HE.out, fun _ => rfl⟩⟩, below_drewN (Below.refl _ _) _⟩
end Go.Proofs.YtmgikfeknmbpbaaGreatDoor
namespace Go.Proofs.YtmgikfeknmbpbaaGreatDoor

/-- Whether the first list stands under the second. -/
def underB (ss tt : List ByteArray) : Bool := decide (tt.length < ss.length) && sameL (ss.take tt.length) tt

end Go.Proofs.YtmgikfeknmbpbaaGreatDoor
namespace Go.Proofs.YtmgikfeknmbpbaaGreatDoor.M

/-- Whether a text is a name, as the document has it. -/
def noSlash (l : List UInt8) : Bool := l.all fun c => !(c == 47)
def nameB (s : ByteArray) : Bool := noSlash s.data.toList && (inB s.size 1 8 && (allB s.data.toList [0] && (!(s.toList == [46]) && !(s.toList == [46, 46]))))

theorem noSlash_snoc (s : ByteArray) (k : Nat) (h : k < s.size) (h0 : noSlash (s.data.toList.take k) = true) (h1 : ¬ s[k] = 47) : noSlash (s.data.toList.take (k + 1)) = true := by
  rw [take_snoc s k h]
  unfold noSlash at *
  rw [List.all_append, h0]
  simp [h1]

theorem mem_at (s : ByteArray) (k : Nat) (h : k < s.size) : s[k] ∈ s.data.toList := by
  have e : s.data.toList.length = s.size := Array.length_toList
  have h' : k < s.data.toList.length := by omega
  exact List.getElem_mem h'

theorem noSlash_not (s : ByteArray) (k : Nat) (h : k < s.size) (h1 : s[k] = 47) : noSlash s.data.toList = false := by
  unfold noSlash
  rw [List.all_eq_false]
  exact ⟨_, mem_at s k h, by simp [h1]⟩

theorem u8_47 {c : UInt8} (h : ((c.toNat : Int) == 47) = true) : c = 47 := by
  have h' : c.toNat = 47 := by simp at h; omega
  exact UInt8.toNat_inj.1 (by rw [h']; rfl)

theorem okc_of {c : UInt8} (h : (32 ≤ (c.toNat : Int) ∧ (c.toNat : Int) ≤ 126) ∧ ((c.toNat : Int) == 47) = false) : anyB (c.toNat : Int) [0] = true ∧ ¬ c = 47 := by
  refine ⟨?_, fun e => by rw [e] at h; exact absurd h.2 (by decide)⟩
  simp [anyB, isB]
  omega

theorem okc_not {c : UInt8} (h : ((c.toNat : Int) < 32 ∨ 126 < (c.toNat : Int)) ∨ ((c.toNat : Int) == 47) = true) (h' : anyB (c.toNat : Int) [0] = true ∧ ¬ c = 47) : False := by
  have h0 := h'.1
  simp [anyB, isB] at h0
  rcases h with h | h
  · omega
  · exact h'.2 (u8_47 h)

theorem noSlash_no (s : ByteArray) (k : Nat) (h : k < s.size) (h1 : ((s[k].toNat : Int) == 47) = true) : nameB s = false := by
  unfold nameB; rw [noSlash_not s k h (u8_47 h1)]; rfl

theorem plain_no (s : ByteArray) (k : Nat) (h : k < s.size) (h1 : anyB (s[k].toNat : Int) [0] = false) : nameB s = false := by
  unfold nameB; rw [allB_not s [0] k h (by simp [h1])]; simp

theorem nameB_all (s : ByteArray) (h0 : noSlash s.data.toList = true) (h1 : inB s.size 1 8 = true) (h2 : allB s.data.toList [0] = true) (h3 : ¬ s.toList = [46]) (h4 : ¬ s.toList = [46, 46]) : nameB s = true := by
  unfold nameB; simp [h0, h1, h2, h3, h4]

end Go.Proofs.YtmgikfeknmbpbaaGreatDoor.M
namespace Go.Proofs.YtmgikfeknmbpbaaGreatDoor.M

/-- Whether these are the names of a path, as the document has it. -/
def pathB (ss : List ByteArray) : Bool := ss.all nameB && decide (ss.length ≤ 4)
def qB (s : ByteArray) : ByteArray := bytesOf (quoteL s.data.toList)
def tellL (ss : List ByteArray) : List UInt8 := ss.flatMap fun s => 47 :: quoteL s.data.toList
/-- The text of a path. -/
def ptextL (ss : List ByteArray) : List UInt8 := if pathB ss then (if ss = [] then [47] else tellL ss) else []

theorem ptextL_not {ss : List ByteArray} (h : pathB ss = false) : ptextL ss = [] := by simp [ptextL, h]
theorem ptextL_nil : ptextL [] = [47] := by simp [ptextL, pathB]
theorem ptextL_some {ss : List ByteArray} (h : pathB ss = true) (h0 : ss ≠ []) : ptextL ss = tellL ss := by simp [ptextL, h, h0]

theorem tellL_snoc (ss : List ByteArray) (k : Nat) (h : k < ss.length) : tellL (ss.take (k + 1)) = tellL (ss.take k) ++ [47] ++ quoteL (ss[k]).data.toList := by
  unfold tellL
  rw [List.take_succ_eq_append_getElem h, List.flatMap_append]
  simp only [List.flatMap_cons, List.flatMap_nil, List.append_nil, List.append_assoc, List.singleton_append]

theorem nameB_size {s : ByteArray} (h : nameB s = true) : s.size ≤ 8 := by
  unfold nameB at h
  simp only [Bool.and_eq_true, inB, decide_eq_true_eq] at h
  omega

theorem pathB_name {ss : List ByteArray} (h : pathB ss = true) (k : Nat) (hk : k < ss.length) : nameB ss[k] = true := by
  unfold pathB at h
  simp only [Bool.and_eq_true, List.all_eq_true] at h
  exact h.1 _ (List.getElem_mem hk)
theorem pathB_len {ss : List ByteArray} (h : pathB ss = true) : ss.length ≤ 4 := by
  unfold pathB at h
  simp only [Bool.and_eq_true, decide_eq_true_eq] at h
  exact h.2

theorem quote_short {s : ByteArray} (h : s.size ≤ 8) : (quoteL s.data.toList).length ≤ 24 := by
  have := quoteL_le s.data.toList
  have e : s.data.toList.length = s.size := Array.length_toList
  omega

theorem tellL_le {ss : List ByteArray} (h : pathB ss = true) (k : Nat) (hk : k ≤ ss.length) : (tellL (ss.take k)).length ≤ 25 * k := by
  induction k with
  | zero => simp [tellL]
  | succ k ih =>
    rw [tellL_snoc ss k hk]
    have h1 := ih (by omega)
    have h2 := quote_short (nameB_size (pathB_name h k hk))
    simp only [List.length_append, List.length_cons, List.length_nil]
    omega

theorem tellL_join (ss : List ByteArray) (h : ss ≠ []) : [47] ++ Lib.join ((ss.map qB).map (·.data.toList)) [47] = tellL ss := by
  cases ss with
  | nil => exact absurd rfl h
  | cons s r =>
    rw [List.map_cons, List.map_cons, Lib.join_cons]
    simp only [tellL, Lib.joinTail, List.map_map, List.flatMap]
    simp only [Function.comp_def, qB, bytesOf, List.cons_append, List.nil_append, List.map_cons, List.flatten_cons]

theorem join_le {ss : List ByteArray} (h : pathB ss = true) : (Lib.join ((ss.map qB).map (·.data.toList)) [47]).length ≤ 100 := by
  by_cases h0 : ss = []
  · subst h0; simp [Lib.join]
  · have e := congrArg List.length (tellL_join ss h0)
    have h1 := tellL_le h ss.length (Nat.le_refl _)
    rw [List.take_length] at h1
    have := pathB_len h
    simp only [List.length_append, List.length_cons, List.length_nil] at e
    omega
end Go.Proofs.YtmgikfeknmbpbaaGreatDoor.M
namespace Go.Proofs.YtmgikfeknmbpbaaGreatDoor
open Go.RowKit

namespace M
/-- A lock. -/
structure Lk where
  tk : Int
  pa : List ByteArray
  de : Bool
  sh : Bool
  un : Int
deriving DecidableEq
end M
open M

def szK (r : Lk) : Nat := r.pa.length + sumS r.pa
def sumK (rs : List Lk) : Nat := (rs.map szK).sum
theorem sumK_snoc (rs : List Lk) (k : Nat) (hk : k < rs.length) : sumK (rs.take (k + 1)) = sumK (rs.take k) + szK rs[k] := by
  unfold sumK
  rw [List.take_succ_eq_append_getElem hk, List.map_append, List.sum_append]
  simp only [List.map_cons, List.map_nil, List.sum_cons, List.sum_nil, Nat.add_zero]
theorem sumK_mem (rs : List Lk) (r : Lk) (h : r ∈ rs) : szK r ≤ sumK rs := by
  induction rs with
  | nil => cases h
  | cons x l ih =>
    simp only [sumK, List.map_cons, List.sum_cons] at *
    rcases List.mem_cons.1 h with rfl | h
    · omega
    · have := ih h; omega
theorem sumK_append (a b : List Lk) : sumK (a ++ b) = sumK a + sumK b := by simp [sumK]
theorem sumK_sub {a b : List Lk} (h : List.Sublist a b) : sumK a ≤ sumK b := by
  induction h with
  | slnil => exact Nat.le_refl _
  | cons x _ ih => simp only [sumK, List.map_cons, List.sum_cons] at *; omega
  | cons_cons x _ ih => simp only [sumK, List.map_cons, List.sum_cons] at *; omega

def sameK (ss tt : List Lk) : Bool := decide (ss = tt)
theorem sameK_refl (ss : List Lk) : sameK ss ss = true := by simp [sameK]
theorem sameK_len {ss tt : List Lk} (h : ¬ ss.length = tt.length) : sameK ss tt = false := by
  simp only [sameK, decide_eq_false_iff_not]; intro e; exact h (by rw [e])
theorem sameK_not {ss tt : List Lk} (k : Nat) (h1 : k < ss.length) (h2 : k < tt.length) (h : ¬ ss[k] = tt[k]) : sameK ss tt = false := by
  simp only [sameK, decide_eq_false_iff_not]; intro e; subst e; exact h rfl
theorem sameK_all {ss tt : List Lk} (hl : ss.length = tt.length) (k : Nat) (hk : ¬ k < ss.length) (h : ss.take k = tt.take k) : sameK ss tt = true := by
  rw [List.take_of_length_le (by omega), List.take_of_length_le (by omega)] at h
  simp [sameK, h]
theorem take_sameK {ss tt : List Lk} (k : Nat) (h1 : k < ss.length) (h2 : k < tt.length) (h0 : ss.take k = tt.take k) (h : ss[k] = tt[k]) : ss.take (k + 1) = tt.take (k + 1) := by
  rw [List.take_succ_eq_append_getElem h1, List.take_succ_eq_append_getElem h2, h0, h]

/-- Whether it is a lock. -/
def lockB (x : Lk) : Bool := inB x.tk 1 9999 && (pathB x.pa && inB x.un 0 9999999)
/-- Whether it covers a path. -/
def covB (x : Lk) (p : List ByteArray) : Bool := sameL x.pa p || (x.de && underB p x.pa)
def clashB (a b : Lk) : Bool := (!a.sh || !b.sh) && (covB a b.pa || covB b a.pa)
/-- Whether two of one list bar each other. -/
def barB (a b : Lk) : Bool := decide (a.tk = b.tk) || clashB a b
theorem clashB_comm (a b : Lk) : clashB a b = clashB b a := by
  unfold clashB
  rw [Bool.or_comm (!a.sh), Bool.or_comm (covB a b.pa)]
/-- Whether lock i is right, and bars none ahead of it. -/
def okAt (l : List Lk) (i : Nat) : Bool := match l[i]? with
  | none => true
  | some x => lockB x && (l.take i).all fun y => !barB y x
def locksB (l : List Lk) : Bool := decide (l.length ≤ 6) && (List.range l.length).all (okAt l)
end Go.Proofs.YtmgikfeknmbpbaaGreatDoor
namespace Go.Proofs.YtmgikfeknmbpbaaGreatDoor
open Go.RowKit M
set_option linter.unusedVariables false

theorem locksB_long {l : List Lk} (h : ¬ l.length ≤ 6) : locksB l = false := by unfold locksB; rw [decide_eq_false h]; rfl
theorem locksB_at {l : List Lk} (i : Nat) (hi : i < l.length) (h : okAt l i = false) : locksB l = false := by
  unfold locksB
  have : (List.range l.length).all (okAt l) = false := by
    rw [Bool.eq_false_iff]
    intro e
    rw [List.all_eq_true] at e
    rw [e i (List.mem_range.2 hi)] at h
    cases h
  rw [this, Bool.and_false]
theorem locksB_not {l : List Lk} (i : Nat) (hi : i < l.length) (h : lockB l[i] = false) : locksB l = false := by
  apply locksB_at i hi
  unfold okAt
  rw [List.getElem?_eq_getElem hi]
  simp only [h, Bool.false_and]
theorem locksB_bar {l : List Lk} (k i : Nat) (hk : k < i) (hi : i < l.length) (h : barB (l[k]'(by omega)) l[i] = true) : locksB l = false := by
  apply locksB_at i hi
  unfold okAt
  rw [List.getElem?_eq_getElem hi]
  have : (l.take i).all (fun y => !barB y l[i]) = false := by
    rw [Bool.eq_false_iff]
    intro e
    rw [List.all_eq_true] at e
    have hm : l[k]'(by omega) ∈ l.take i := by
      rw [List.mem_iff_getElem]
      exact ⟨k, by rw [List.length_take]; omega, by rw [List.getElem_take]⟩
    have := e _ hm
    rw [h] at this
    cases this
  simp only [this, Bool.and_false]
theorem locksB_yes {l : List Lk} (h6 : l.length ≤ 6) (h1 : ∀ i (hi : i < l.length), lockB l[i] = true) (h2 : ∀ i k (hk : k < i) (hi : i < l.length), barB (l[k]'(by omega)) l[i] = false) : locksB l = true := by
  unfold locksB
  rw [decide_eq_true h6, Bool.true_and, List.all_eq_true]
  intro i hi
  have hi' : i < l.length := List.mem_range.1 hi
  unfold okAt
  rw [List.getElem?_eq_getElem hi']
  simp only [h1 i hi', Bool.true_and, List.all_eq_true]
  intro y hy
  obtain ⟨k, hk, rfl⟩ := List.mem_iff_getElem.1 hy
  have hk' : k < i := by rw [List.length_take] at hk; omega
  rw [List.getElem_take, h2 i k hk' hi']
  rfl
theorem bar_tk {a b : Lk} (h : a.tk = b.tk) : barB a b = true := by unfold barB; rw [decide_eq_true h]; rfl
theorem bar_cl {a b : Lk} (h : ¬ a.tk = b.tk) : barB a b = clashB a b := by unfold barB; rw [decide_eq_false h]; rfl
end Go.Proofs.YtmgikfeknmbpbaaGreatDoor
namespace Go.Proofs.YtmgikfeknmbpbaaGreatDoor
open Go.RowKit M
set_option linter.unusedVariables false

def liveB (now : Int) (x : Lk) : Bool := decide (now < x.un)
def tokL (l : List Lk) (p : List ByteArray) : List Int := (l.filter fun x => covB x p).map (·.tk)
def isTk (t : Int) (x : Lk) : Bool := x.tk == t
def dropL (t : Int) : List Lk → List Lk
  | [] => []
  | x :: r => if isTk t x = true then r else x :: dropL t r
theorem dropL_none (t : Int) (l : List Lk) (h : l.any (isTk t) = false) : dropL t l = l := by
  induction l with
  | nil => rfl
  | cons x r ih =>
    simp only [List.any_cons, Bool.or_eq_false_iff] at h
    simp only [dropL, h.1, Bool.false_eq_true, if_false]
    rw [ih h.2]
theorem dropL_snoc (t : Int) (l : List Lk) (x : Lk) : dropL t (l ++ [x]) = if l.any (isTk t) = true then dropL t l ++ [x] else if isTk t x = true then dropL t l else dropL t l ++ [x] := by
  induction l with
  | nil => by_cases h : isTk t x = true <;> simp [dropL, h]
  | cons y r ih =>
    by_cases h : isTk t y = true
    · simp [dropL, h]
    · simp only [List.cons_append, dropL, h, Bool.false_eq_true, if_false, List.any_cons, Bool.false_or, ih]
      split
      · rfl
      · split <;> rfl
theorem dropL_at (t : Int) (l : List Lk) (k : Nat) (hk : k < l.length) (h : isTk t l[k] = true) (h0 : ∀ j (hj : j < l.length), j < k → isTk t l[j] = false) : dropL t l = l.take k ++ l.drop (k + 1) := by
  induction l generalizing k with
  | nil => cases hk
  | cons x r ih =>
    cases k with
    | zero => simp at h; simp [dropL, h]
    | succ k =>
      have hx : isTk t x = false := h0 0 (by simp) (Nat.succ_pos _)
      have := ih k (by simpa using hk) (by simpa using h) (fun j hj hjk => by have := h0 (j + 1) (by simpa using hj) (by omega); simpa using this)
      simp [dropL, hx, this]
theorem dropL_sub (t : Int) (l : List Lk) : List.Sublist (dropL t l) l := by
  induction l with
  | nil => exact .slnil
  | cons x r ih =>
    simp only [dropL]
    split
    · exact List.sublist_cons_self _ _
    · exact ih.cons_cons _

/-- Whether a lock must let by what turns at p. -/
def touchB (p : List ByteArray) (deep : Bool) (x : Lk) : Bool := covB x p || (deep && underB x.pa p)
def hasB (toks : List Int) (x : Lk) : Bool := toks.any (· == x.tk)
def mayB (l : List Lk) (p : List ByteArray) (deep : Bool) (toks : List Int) : Bool :=
  (l.filter (touchB p deep)).all (fun x => x.sh || hasB toks x) && (!(l.filter (touchB p deep)).any (·.sh) || (l.filter (touchB p deep)).any (fun x => x.sh && hasB toks x))
/-- What is there behind a lock is added. -/
def addL (l : List Lk) (x : Lk) : List Lk := if locksB (l ++ [x]) = true then l ++ [x] else l
end Go.Proofs.YtmgikfeknmbpbaaGreatDoor
namespace Go.Proofs.YtmgikfeknmbpbaaGreatDoor
open Go.RowKit M
set_option linter.unusedVariables false

theorem anyI_none {t : Int} {l : List Int} (h : ∀ j (hj : j < l.length), l[j] ≠ t) : l.any (· == t) = false := by
  rw [Bool.eq_false_iff]
  intro e
  obtain ⟨x, hx, hp⟩ := List.any_eq_true.1 e
  obtain ⟨j, hj, rfl⟩ := List.mem_iff_getElem.1 hx
  exact h j hj (by simpa using hp)
theorem anyI_some {t : Int} {l : List Int} {k : Nat} (hk : k < l.length) (h : l[k] = t) : l.any (· == t) = true :=
  List.any_eq_true.2 ⟨l[k], List.getElem_mem hk, by simpa using h⟩

set_option maxHeartbeats 1000000 in
theorem specHas_any (a : Option Addr) (l : List Int) (cap B : Nat) (t : Int) (w : World) (h : Ints w B a l) (hl : l.length ≤ 1048576) :
    Calls Tryz.prog 36 #[.slice a l.length cap, .int .i64 t] w fun e w' => e = .returned (.bool (l.any (· == t))) ∧ w' = w := by
  have HH := hide h
  clear h
  go_enter Tryz.func36, Tryz.ntmps36
  go_wp2
  go_loopw [5] (fun i wr => ∃ k : Nat, k ≤ l.length ∧ i = .int .i64 k ∧ Hid (∀ j (hj : j < l.length), j < k → l[j] ≠ t) ∧ wr = w) (fun i _ => l.length - (intOf i).toNat)
  case atStart => exact ⟨0, Nat.zero_le _, rfl, fun j _ hj => absurd hj (Nat.not_lt_zero _), rfl⟩
  case round =>
    obtain ⟨k, hk, rfl, HN, hw⟩ := hrel
    obtain rfl := hw.symm
    by_cases hlt : k < l.length
    · obtain ⟨b, o, rfl, hb, hc⟩ := HH.out (by omega)
      have hck := hc k hlt
      clear hc
      by_cases hz : l[k] = t
      · have HA := hide (anyI_some hlt hz)
        go_wp2
        go_ret
        exact ⟨by rw [HA.out]; rfl, rfl⟩
      · have HZ := hide hz
        go_wp2
        go_roundw
        case rel => exact ⟨k + 1, by omega, by go_num, fun j hj hjk => if e : j = k then by subst e; exact HZ.out else HN.out j hj (by omega), by trivial⟩
        case measure => simp [intOf]; omega
    · have HA := hide (anyI_none (fun j hj => HN.out j hj (by omega)))
      go_wp2
      go_ret
      exact ⟨by rw [HA.out]; rfl, rfl⟩
end Go.Proofs.YtmgikfeknmbpbaaGreatDoor
namespace Go.Proofs.YtmgikfeknmbpbaaGreatDoor.M
set_option linter.unusedVariables false

def subB (c : Cn) : Bool := c.tk != 0 && !c.no
def subC (cs : List Cn) : List Int := (cs.filter subB).map (·.tk)
def subI (ls : List (List Cn)) : List Int := subC ls.flatten
theorem subC_app (a b : List Cn) : subC (a ++ b) = subC a ++ subC b := by simp [subC]
theorem subC_snoc (cs : List Cn) (k : Nat) (hk : k < cs.length) : subC (cs.take (k + 1)) = subC (cs.take k) ++ (if subB cs[k] = true then [cs[k].tk] else []) := by
  rw [List.take_succ_eq_append_getElem hk, subC_app]
  congr 1
  simp only [subC, List.filter_cons, List.filter_nil]
  split <;> rfl
theorem subC_len (cs : List Cn) : (subC cs).length ≤ cs.length := by
  unfold subC
  rw [List.length_map]
  exact List.length_filter_le _ _
theorem subI_snoc (ls : List (List Cn)) (k : Nat) (hk : k < ls.length) : subI (ls.take (k + 1)) = subI (ls.take k) ++ subC ls[k] := by
  unfold subI
  rw [List.take_succ_eq_append_getElem hk, List.flatten_append, subC_app]
  simp
theorem subI_le (ls : List (List Cn)) (k : Nat) : (ls.take k).flatten.length ≤ ls.flatten.length := by
  have h : ls.flatten.length = (ls.take k).flatten.length + (ls.drop k).flatten.length := by
    rw [← List.length_append, ← List.flatten_append, List.take_append_drop]
  omega
theorem flat_here (ls : List (List Cn)) (k : Nat) (hk : k < ls.length) : ls[k].length ≤ ls.flatten.length := by
  have h := subI_le ls (k + 1)
  rw [List.take_succ_eq_append_getElem hk, List.flatten_append, List.length_append] at h
  have e : [ls[k]].flatten = ls[k] := by simp
  rw [e] at h
  omega
def condB (toks : List Int) (tag : ByteArray) (c : Cn) : Bool := (if c.tk = 0 then c.tg.toList == tag.toList else toks.any (· == c.tk)) != c.no
def allC (toks : List Int) (tag : ByteArray) (cs : List Cn) : Bool := cs.all (condB toks tag)
def evalI (ls : List (List Cn)) (toks : List Int) (tag : ByteArray) : Bool := ls.any (allC toks tag)
theorem allC_snoc (toks : List Int) (tag : ByteArray) (cs : List Cn) (k : Nat) (hk : k < cs.length) : allC toks tag (cs.take (k + 1)) = (allC toks tag (cs.take k) && condB toks tag cs[k]) := by
  unfold allC
  rw [List.take_succ_eq_append_getElem hk, List.all_append]
  simp
theorem evalI_snoc (ls : List (List Cn)) (toks : List Int) (tag : ByteArray) (k : Nat) (hk : k < ls.length) : evalI (ls.take (k + 1)) toks tag = (evalI (ls.take k) toks tag || allC toks tag ls[k]) := by
  unfold evalI
  rw [List.take_succ_eq_append_getElem hk, List.any_append]
  simp
theorem evalI_here (ls : List (List Cn)) (toks : List Int) (tag : ByteArray) (k : Nat) (hk : k < ls.length) (h : allC toks tag ls[k] = true) : evalI ls toks tag = true :=
  List.any_eq_true.2 ⟨ls[k], List.getElem_mem hk, h⟩
end Go.Proofs.YtmgikfeknmbpbaaGreatDoor.M
namespace Go.Proofs.YtmgikfeknmbpbaaGreatDoor
open Go.RowKit M
set_option linter.unusedVariables false

set_option maxRecDepth 100000 in
set_option maxHeartbeats 4000000 in
theorem specEval_any (ls : List (List Cn)) (a : Option Addr) (cap : Nat) (tag : ByteArray) (ta : Option Addr) (toks : List Int) (tc D B : Nat) (w : World) (h : Cnss w B a ls) (hB : B ≤ w.heap.size) (hn : ls.length ≤ 1048576) (hn2 : ∀ cs ∈ ls, cs.length ≤ 1048576) (ht : Ints w D ta toks) (hD : D ≤ w.heap.size) (hl : toks.length ≤ 1048576) :
    Calls Tryz.prog 15 #[.slice a ls.length cap, .slice ta toks.length tc, .string tag] w fun e w' => e = .returned (.bool (evalI ls toks tag)) ∧ Below w.heap.size w w' := by
  have HH := hide h
  have HN2 := hide hn2
  have HI := hide (fun w1 (hb : Below w.heap.size w w1) t => specHas_any ta toks tc D t w1 (ht.below hb hD) hl)
  clear h ht hn2
  go_enter Tryz.func15, Tryz.ntmps15
  go_wp2
  go_loopw [7] (fun i wr => ∃ k : Nat, k ≤ ls.length ∧ i = .int .i64 k ∧ Hid (evalI (ls.take k) toks tag = false) ∧ Below w.heap.size w wr) (fun i _ => ls.length - (intOf i).toNat)
  case atStart => exact ⟨0, Nat.zero_le _, rfl, (by show _ = _; simp [evalI]), Below.refl _ _⟩
  case round =>
    obtain ⟨k, hk, rfl, HE, hbe⟩ := hrel
    by_cases hlt : k < ls.length
    · obtain ⟨b, o, rfl, hb, hc⟩ := HH.out (by omega)
      obtain ⟨pa, pc, hc0, hin⟩ := hc k hlt
      have HS := hide (evalI_snoc ls toks tag k hlt)
      have HHE := hide (evalI_here ls toks tag k hlt)
      have hfk : ls[k].length ≤ 1048576 := HN2.out _ (List.getElem_mem hlt)
      obtain ⟨cs, hcs⟩ : ∃ cs, ls[k] = cs := ⟨_, rfl⟩
      rw [hcs] at HS HHE hfk hin hc0
      have HIN := hide hin.ps
      have hbw : b < w.heap.size := by omega
      clear hcs hc hin
      go_wp2
      go_loopw [8, 9] (fun al q wr => ∃ (j : Nat) (z : Bool), j ≤ cs.length ∧ q = .int .i64 j ∧ al = .bool z ∧ Hid (allC toks tag (cs.take j) = z) ∧ Below w.heap.size w wr) (fun _ q _ => cs.length - (intOf q).toNat)
      case atStart => exact ⟨0, true, Nat.zero_le _, rfl, rfl, (by show _ = _; simp [allC]), hbe⟩
      case round =>
        obtain ⟨j, z, hj, rfl, rfl, HAL, hbs⟩ := hrel
        by_cases hjl : j < cs.length
        · obtain ⟨b2, o2, rfl, hb2, hd⟩ := HIN.out (by omega)
          obtain ⟨d0, d1, d2⟩ := hd j hjl
          have hb2w : b2 < w.heap.size := by omega
          have HSJ := hide (allC_snoc toks tag cs j hjl)
          have e0 := (hbs.cell (p := ⟨b, o + k, none⟩) hbw).trans hc0
          have q0 := (hbs.cell (p := ⟨b2, o2 + j * 3, none⟩) hb2w).trans d0
          have q1 := (hbs.cell (p := ⟨b2, o2 + j * 3 + 1, none⟩) hb2w).trans d1
          have q2 := (hbs.cell (p := ⟨b2, o2 + j * 3 + 2, none⟩) hb2w).trans d2
          obtain ⟨x, hx⟩ : ∃ x, cs[j] = x := ⟨_, rfl⟩
          rw [hx] at HSJ q0 q1 q2
          clear hx hd d0 d1 d2
          obtain ⟨no, tk, tg⟩ := x
          simp only at q0 q1 q2
          have HCB := hide (show condB toks tag ⟨no, tk, tg⟩ = ((if tk = 0 then tg.toList == tag.toList else toks.any (· == tk)) != no) from rfl)
          have bX := hbs.alloc hbs.size (Obj.cells #[.bool no, .int .i64 tk, .string tg] 57)
          have HBX := hide bX
          have HX := hide (BoxV.made wr [.bool no, .int .i64 tk, .string tg] 57)
          have HQ := hide (HI.out _ bX tk)
          rw [HAL.out] at HSJ
          clear bX
          by_cases hz : tk = 0
          · rw [if_pos hz] at HCB
            subst hz
            obtain ⟨y, hy⟩ : ∃ y, (tg.toList == tag.toList) = y := ⟨_, rfl⟩
            rw [hy] at HCB
            cases z
            · have HAN := hide (show allC toks tag (cs.take (j + 1)) = false by rw [HSJ.out]; rfl)
              clear HCB HQ HX
              go_wp2
              go_roundw
              case rel => exact ⟨j + 1, false, by omega, by go_num, rfl, HAN, HBX.out⟩
              case measure => simp [intOf]; omega
            · have HAN := hide (show allC toks tag (cs.take (j + 1)) = (y != no) by rw [HSJ.out, HCB.out]; simp)
              clear HCB HQ HX
              go_wp2
              go_roundw
              case rel => exact ⟨j + 1, _, by omega, by go_num, rfl, HAN, HBX.out⟩
              case measure => simp [intOf]; omega
          · rw [if_neg hz] at HCB
            have hz1 : (tk == 0) = false := by simpa using hz
            have hz2 : (tk != 0) = true := by simpa using hz
            obtain ⟨y, hy⟩ : ∃ y, toks.any (· == tk) = y := ⟨_, rfl⟩
            rw [hy] at HCB HQ
            clear hz hy
            go_wp2_with fail
            refine HQ.out.mono ?_
            rintro e w1 ⟨rfl, hw⟩
            subst hw
            have r0 := (HX.out.2 0 _ rfl).1
            cases z
            · have HAN := hide (show allC toks tag (cs.take (j + 1)) = false by rw [HSJ.out]; rfl)
              clear HCB HX
              go_wp2
              go_roundw
              case rel => exact ⟨j + 1, false, by omega, by go_num, rfl, HAN, HBX.out⟩
              case measure => simp [intOf]; omega
            · have HAN := hide (show allC toks tag (cs.take (j + 1)) = (y != no) by rw [HSJ.out, HCB.out]; simp)
              clear HCB HX
              go_wp2
              go_roundw
              case rel => exact ⟨j + 1, _, by omega, by go_num, rfl, HAN, HBX.out⟩
              case measure => simp [intOf]; omega
        · have e0 := (hbs.cell (p := ⟨b, o + k, none⟩) hbw).trans hc0
          have HT := hide (show allC toks tag cs = z by rw [← HAL.out, show cs.take j = cs from List.take_of_length_le (by omega)])
          cases z
          · have HAN := hide (show evalI (ls.take (k + 1)) toks tag = false by rw [HS.out, HE.out, HT.out]; rfl)
            go_wp2
            go_roundw
            case rel => exact ⟨k + 1, by omega, by go_num, HAN, hbs⟩
            case measure => simp [intOf]; omega
          · have HAN := hide (HHE.out HT.out)
            go_wp2
            go_ret
            exact ⟨by rw [HAN.out]; rfl, hbs⟩
    · have HT := hide (show evalI ls toks tag = false by rw [← HE.out, show ls.take k = ls from List.take_of_length_le (by omega)])
      go_wp2
      go_ret
      exact ⟨by rw [HT.out]; rfl, hbe⟩
end Go.Proofs.YtmgikfeknmbpbaaGreatDoor
namespace Go.Proofs.YtmgikfeknmbpbaaGreatDoor
open Go.RowKit M
set_option linter.unusedVariables false

set_option maxHeartbeats 1000000 in
theorem indexI_any (a : Option Addr) (l : List Int) (cap B : Nat) (t : Int) (w : World) (h : Ints w B a l) (hl : l.length ≤ 1048576) :
    Calls Tryz.prog 104 #[.slice a l.length cap, .int .i64 t] w fun e w' => (∃ z : Int, e = .returned (.int .i64 z) ∧ decide (0 ≤ z) = l.any (· == t)) ∧ w' = w := by
  have HH := hide h
  clear h
  go_enter Tryz.func104, Tryz.ntmps104
  go_wp2
  go_loopw [8] (fun i wr => ∃ k : Nat, k ≤ l.length ∧ i = .int .i64 k ∧ Hid (∀ j (hj : j < l.length), j < k → l[j] ≠ t) ∧ wr = w) (fun i _ => l.length - (intOf i).toNat)
  case atStart => exact ⟨0, Nat.zero_le _, rfl, fun j _ hj => absurd hj (Nat.not_lt_zero _), rfl⟩
  case round =>
    obtain ⟨k, hk, rfl, HN, hw⟩ := hrel
    obtain rfl := hw.symm
    by_cases hlt : k < l.length
    · obtain ⟨b, o, rfl, hb, hc⟩ := HH.out (by omega)
      have hck := hc k hlt
      clear hc
      by_cases hz : l[k] = t
      · have HA := hide (anyI_some hlt hz)
        go_wp2
        go_ret
        exact ⟨⟨_, rfl, by rw [HA.out]; simp⟩, rfl⟩
      · have HZ := hide hz
        have hz2 : ¬ t = l[k] := fun e => hz e.symm
        go_wp2
        go_roundw
        case rel => exact ⟨k + 1, by omega, by go_num, fun j hj hjk => if e : j = k then by subst e; exact HZ.out else HN.out j hj (by omega), by trivial⟩
        case measure => simp [intOf]; omega
    · have HA := hide (anyI_none (fun j hj => HN.out j hj (by omega)))
      go_wp2
      go_ret
      exact ⟨⟨_, rfl, by rw [HA.out]; rfl⟩, rfl⟩

set_option maxHeartbeats 1000000 in
theorem containsI_any (a : Option Addr) (l : List Int) (cap B : Nat) (t : Int) (w : World) (h : Ints w B a l) (hl : l.length ≤ 1048576) :
    Calls Tryz.prog 93 #[.slice a l.length cap, .int .i64 t] w fun e w' => e = .returned (.bool (l.any (· == t))) ∧ w' = w := by
  have HQ := hide (indexI_any a l cap B t w h hl)
  clear h
  go_enter Tryz.func93, Tryz.ntmps93
  go_wp2_with fail
  refine HQ.out.mono ?_
  rintro e w1 ⟨⟨z, rfl, hz⟩, hw⟩
  obtain rfl := hw.symm
  have HZ := hide hz
  clear hz hw
  go_wp2
  go_ret
  exact ⟨by rw [← HZ.out]; rfl, rfl⟩
end Go.Proofs.YtmgikfeknmbpbaaGreatDoor
namespace Go.Proofs.YtmgikfeknmbpbaaGreatDoor
open Go.RowKit M
set_option linter.unusedVariables false

theorem any_noneG {α : Type} {P : α → Bool} {l : List α} (h : ∀ j (hj : j < l.length), P l[j] = false) : l.any P = false := by
  rw [Bool.eq_false_iff]
  intro e
  obtain ⟨x, hx, hp⟩ := List.any_eq_true.1 e
  obtain ⟨j, hj, rfl⟩ := List.mem_iff_getElem.1 hx
  rw [h j hj] at hp
  cases hp
theorem enterE {P : Program} {f : FuncId} {fn : Func} {c : Code} (hf : P.funcs[f]? = some fn) (hname : (fn.name == "runtime.NumGoroutine") = false) (hb : fn.body = some c) (args : Array Value) (w : World) : (callFunc f args).run P w = .ok (.enter f args) w := by
  have h1 : fn.name ≠ "runtime.NumGoroutine" := by simpa using hname
  simp [callFunc, hf, h1, hb]
theorem makeE : ∀ (fn : Fn) (first cap : Array Value) (w : World), (Instr.makeFunc fn first cap).run Tryz.prog w = .ok (.func fn first cap) w := fun _ _ _ _ => rfl

set_option maxRecDepth 100000 in
set_option maxHeartbeats 4000000 in
theorem indexC_any (fn : Nat) (hE : ∀ args w, (callFunc fn args).run Tryz.prog w = .ok (.enter fn args) w) (cp : Array Value) (P : Cn → Bool) (a : Option Addr) (l : List Cn) (cap B : Nat) (w : World) (h : Cns w B a l) (hB : B ≤ w.heap.size) (hl : l.length ≤ 1048577)
    (hP : ∀ k (hk : k < l.length) W, Below w.heap.size w W → Calls Tryz.prog fn (#[.agg #[.bool l[k].no, .int .i64 l[k].tk, .string l[k].tg]] ++ cp) W fun e w' => e = .returned (.bool (P l[k])) ∧ Below W.heap.size W w') :
    Calls Tryz.prog 77 #[.slice a l.length cap, .func (.func fn) #[] cp] w fun e w' => (∃ z : Int, e = .returned (.int .i64 z) ∧ decide (0 ≤ z) = l.any P) ∧ Below w.heap.size w w' := by
  have HH := hide h
  have HP := hide hP
  have HE := hide hE
  clear h hP hE
  go_enter Tryz.func77, Tryz.ntmps77
  go_wp2
  go_loopw [8] (fun i wr => ∃ k : Nat, k ≤ l.length ∧ i = .int .i64 k ∧ Hid (∀ j (hj : j < l.length), j < k → P l[j] = false) ∧ Below w.heap.size w wr) (fun i _ => l.length - (intOf i).toNat)
  case atStart => exact ⟨0, Nat.zero_le _, rfl, fun j _ hj => absurd hj (Nat.not_lt_zero _), Below.refl _ _⟩
  case round =>
    obtain ⟨k, hk, rfl, HN, hbe⟩ := hrel
    by_cases hlt : k < l.length
    · obtain ⟨b, o, rfl, hb, hc⟩ := (HH.out.below hbe hB) (by omega)
      obtain ⟨d0, d1, d2⟩ := hc k hlt
      have HC := hide (HP.out k hlt wr hbe)
      obtain ⟨z, hz⟩ : ∃ z, P l[k] = z := ⟨_, rfl⟩
      rw [hz] at HC
      have HZ := hide hz
      clear hz hc
      go_wp2_with fail
      rw [HE.out, Oper.upon_enter]
      refine HC.out.mono ?_
      rintro e w1 ⟨rfl, b1⟩
      have c1 := hbe.trans (b1.mono hbe.size)
      clear b1 HC d0 d1 d2
      cases z
      · go_wp2
        go_roundw
        case rel => exact ⟨k + 1, by omega, by go_num, fun j hj hjk => if e : j = k then by subst e; exact HZ.out else HN.out j hj (by omega), c1⟩
        case measure => simp [intOf]; omega
      · have HA := hide (show l.any P = true from List.any_eq_true.2 ⟨l[k], List.getElem_mem hlt, HZ.out⟩)
        go_wp2
        go_ret
        exact ⟨⟨_, rfl, by rw [HA.out]; simp⟩, c1⟩
    · have HA := hide (show l.any P = false from any_noneG (fun j hj => HN.out j hj (by omega)))
      go_wp2
      go_ret
      exact ⟨⟨_, rfl, by rw [HA.out]; rfl⟩, hbe⟩

set_option maxRecDepth 100000 in
set_option maxHeartbeats 1000000 in
theorem containsC_any (fn : Nat) (hE : ∀ args w, (callFunc fn args).run Tryz.prog w = .ok (.enter fn args) w) (cp : Array Value) (P : Cn → Bool) (a : Option Addr) (l : List Cn) (cap B : Nat) (w : World) (h : Cns w B a l) (hB : B ≤ w.heap.size) (hl : l.length ≤ 1048577)
    (hP : ∀ k (hk : k < l.length) W, Below w.heap.size w W → Calls Tryz.prog fn (#[.agg #[.bool l[k].no, .int .i64 l[k].tk, .string l[k].tg]] ++ cp) W fun e w' => e = .returned (.bool (P l[k])) ∧ Below W.heap.size W w') :
    Calls Tryz.prog 59 #[.slice a l.length cap, .func (.func fn) #[] cp] w fun e w' => e = .returned (.bool (l.any P)) ∧ Below w.heap.size w w' := by
  have HQ := hide (indexC_any fn hE cp P a l cap B w h hB hl hP)
  clear h hP hE
  go_enter Tryz.func59, Tryz.ntmps59
  go_wp2_with fail
  refine HQ.out.mono ?_
  rintro e w1 ⟨⟨z, rfl, hz⟩, b1⟩
  have HZ := hide hz
  have HB := hide b1
  clear hz b1
  go_wp2
  go_ret
  exact ⟨by rw [← HZ.out]; rfl, HB.out⟩

set_option maxRecDepth 100000 in
set_option maxHeartbeats 4000000 in
theorem indexCC_any (fn : Nat) (hE : ∀ args w, (callFunc fn args).run Tryz.prog w = .ok (.enter fn args) w) (cp : Array Value) (P : (List Cn) → Bool) (a : Option Addr) (l : List (List Cn)) (cap B : Nat) (w : World) (h : Cnss w B a l) (hB : B ≤ w.heap.size) (hl : l.length ≤ 1048577)
    (hP : ∀ k (hk : k < l.length) pa pc W, Below w.heap.size w W → CsIn W B pa l[k] pc → Calls Tryz.prog fn (#[.slice pa l[k].length pc] ++ cp) W fun e w' => e = .returned (.bool (P l[k])) ∧ Below W.heap.size W w') :
    Calls Tryz.prog 60 #[.slice a l.length cap, .func (.func fn) #[] cp] w fun e w' => (∃ z : Int, e = .returned (.int .i64 z) ∧ decide (0 ≤ z) = l.any P) ∧ Below w.heap.size w w' := by
  have HH := hide h
  have HP := hide hP
  have HE := hide hE
  clear h hP hE
  go_enter Tryz.func60, Tryz.ntmps60
  go_wp2
  go_loopw [8] (fun i wr => ∃ k : Nat, k ≤ l.length ∧ i = .int .i64 k ∧ Hid (∀ j (hj : j < l.length), j < k → P l[j] = false) ∧ Below w.heap.size w wr) (fun i _ => l.length - (intOf i).toNat)
  case atStart => exact ⟨0, Nat.zero_le _, rfl, fun j _ hj => absurd hj (Nat.not_lt_zero _), Below.refl _ _⟩
  case round =>
    obtain ⟨k, hk, rfl, HN, hbe⟩ := hrel
    by_cases hlt : k < l.length
    · obtain ⟨b, o, rfl, hb, hc⟩ := (HH.out.below hbe hB) (by omega)
      obtain ⟨pa, pc, d0, hin⟩ := hc k hlt
      have HC := hide (HP.out k hlt pa pc wr hbe hin)
      obtain ⟨z, hz⟩ : ∃ z, P l[k] = z := ⟨_, rfl⟩
      rw [hz] at HC
      have HZ := hide hz
      clear hz hc hin
      go_wp2_with fail
      rw [HE.out, Oper.upon_enter]
      refine HC.out.mono ?_
      rintro e w1 ⟨rfl, b1⟩
      have c1 := hbe.trans (b1.mono hbe.size)
      clear b1 HC d0
      cases z
      · go_wp2
        go_roundw
        case rel => exact ⟨k + 1, by omega, by go_num, fun j hj hjk => if e : j = k then by subst e; exact HZ.out else HN.out j hj (by omega), c1⟩
        case measure => simp [intOf]; omega
      · have HA := hide (show l.any P = true from List.any_eq_true.2 ⟨l[k], List.getElem_mem hlt, HZ.out⟩)
        go_wp2
        go_ret
        exact ⟨⟨_, rfl, by rw [HA.out]; simp⟩, c1⟩
    · have HA := hide (show l.any P = false from any_noneG (fun j hj => HN.out j hj (by omega)))
      go_wp2
      go_ret
      exact ⟨⟨_, rfl, by rw [HA.out]; rfl⟩, hbe⟩

set_option maxRecDepth 100000 in
set_option maxHeartbeats 1000000 in
theorem containsCC_any (fn : Nat) (hE : ∀ args w, (callFunc fn args).run Tryz.prog w = .ok (.enter fn args) w) (cp : Array Value) (P : (List Cn) → Bool) (a : Option Addr) (l : List (List Cn)) (cap B : Nat) (w : World) (h : Cnss w B a l) (hB : B ≤ w.heap.size) (hl : l.length ≤ 1048577)
    (hP : ∀ k (hk : k < l.length) pa pc W, Below w.heap.size w W → CsIn W B pa l[k] pc → Calls Tryz.prog fn (#[.slice pa l[k].length pc] ++ cp) W fun e w' => e = .returned (.bool (P l[k])) ∧ Below W.heap.size W w') :
    Calls Tryz.prog 35 #[.slice a l.length cap, .func (.func fn) #[] cp] w fun e w' => e = .returned (.bool (l.any P)) ∧ Below w.heap.size w w' := by
  have HQ := hide (indexCC_any fn hE cp P a l cap B w h hB hl hP)
  clear h hP hE
  go_enter Tryz.func35, Tryz.ntmps35
  go_wp2_with fail
  refine HQ.out.mono ?_
  rintro e w1 ⟨⟨z, rfl, hz⟩, b1⟩
  have HZ := hide hz
  have HB := hide b1
  clear hz b1
  go_wp2
  go_ret
  exact ⟨by rw [← HZ.out]; rfl, HB.out⟩

/-- A closure that answers b, asked of these tokens and this mark, in whatever world is behind. -/
def Must (W : World) (f : Value) (ta : Option Addr) (toks : List Int) (tc : Nat) (tag : ByteArray) (b : Bool) : Prop :=
  ∃ fn cp, f = .func (.func fn) #[] cp ∧ (∀ args w, (callFunc fn args).run Tryz.prog w = .ok (.enter fn args) w) ∧ ∀ W', Below W.heap.size W W' → Calls Tryz.prog fn (#[.slice ta toks.length tc, .string tag] ++ cp) W' fun e w' => e = .returned (.bool b) ∧ Below W'.heap.size W' w'
theorem Must.next {W W' : World} {f : Value} {ta : Option Addr} {toks : List Int} {tc : Nat} {tag : ByteArray} {b : Bool} (h : Must W f ta toks tc tag b) (hb : Below W.heap.size W W') : Must W' f ta toks tc tag b := by
  obtain ⟨fn, cp, e, h1, h2⟩ := h
  exact ⟨fn, cp, e, h1, fun V hV => h2 V (hb.trans (hV.mono hb.size))⟩

set_option maxRecDepth 100000 in
set_option maxHeartbeats 1000000 in
theorem tagIs1_any (N tc : Nat) (s tag : ByteArray) (ta : Option Addr) (toks : List Int) (w : World) (h : w.cell? ⟨N, 0, none⟩ = some (.string s)) :
    Calls Tryz.prog 91 #[.slice ta toks.length tc, .string tag, .pointer (some ⟨N, 0, none⟩)] w fun e w' => e = .returned (.bool (tag.toList == s.toList)) ∧ w' = w := by
  go_enter Tryz.func91, Tryz.ntmps91
  go_wp2
  go_ret
  exact ⟨rfl, rfl⟩
set_option maxRecDepth 100000 in
set_option maxHeartbeats 1000000 in
theorem tagIs_any (s tag : ByteArray) (ta : Option Addr) (toks : List Int) (tc : Nat) (w : World) :
    Calls Tryz.prog 74 #[.string s] w fun e w' => (∃ f, e = .returned f ∧ Must w' f ta toks tc tag (s.toList == tag.toList)) ∧ Below w.heap.size w w' := by
  have hmf := makeE
  have HM := hide (show Must (w.alloc (Obj.cells #[.string s] 9)) (.func (.func 91) #[] #[.pointer (some ⟨w.heap.size, 0, none⟩)]) ta toks tc tag (s.toList == tag.toList) from
    ⟨_, _, rfl, fun args w => enterE Tryz.func91 (by kernel_rfl) rfl args w, fun W' hb => (tagIs1_any w.heap.size tc s tag ta toks W' ((hb.cell (p := ⟨w.heap.size, 0, none⟩) (by simp)).trans (by simp))).mono (by
      rintro e w' ⟨rfl, rfl⟩
      exact ⟨by rw [Bool.beq_comm], Below.refl _ _⟩)⟩)
  go_enter Tryz.func74, Tryz.ntmps74
  go_wp2
  go_ret
  exact ⟨⟨_, rfl, HM.out⟩, (Below.refl _ _).alloc (Nat.le_refl _) _⟩
set_option maxRecDepth 100000 in
set_option maxHeartbeats 1000000 in
theorem token1_any (N tc D : Nat) (n : Int) (tag : ByteArray) (ta : Option Addr) (toks : List Int) (w : World) (h : w.cell? ⟨N, 0, none⟩ = some (.int .i64 n)) (ht : Ints w D ta toks) (hl : toks.length ≤ 1048576) :
    Calls Tryz.prog 92 #[.slice ta toks.length tc, .string tag, .pointer (some ⟨N, 0, none⟩)] w fun e w' => e = .returned (.bool (toks.any (· == n))) ∧ w' = w := by
  have HQ := hide (containsI_any ta toks tc D n w ht hl)
  clear ht
  go_enter Tryz.func92, Tryz.ntmps92
  go_wp2_with fail
  refine HQ.out.mono ?_
  rintro e w1 ⟨rfl, hw⟩
  obtain rfl := hw.symm
  go_wp2
  go_ret
  exact ⟨rfl, rfl⟩
set_option maxRecDepth 100000 in
set_option maxHeartbeats 1000000 in
theorem token_any (n : Int) (tag : ByteArray) (ta : Option Addr) (toks : List Int) (tc D : Nat) (w : World) (ht : Ints w D ta toks) (hD : D ≤ w.heap.size) (hl : toks.length ≤ 1048576) :
    Calls Tryz.prog 75 #[.int .i64 n] w fun e w' => (∃ f, e = .returned f ∧ Must w' f ta toks tc tag (toks.any (· == n))) ∧ Below w.heap.size w w' := by
  have hmf := makeE
  have hb0 := (Below.refl w.heap.size w).alloc (Nat.le_refl _) (Obj.cells #[.int .i64 n] 3)
  have HM := hide (show Must (w.alloc (Obj.cells #[.int .i64 n] 3)) (.func (.func 92) #[] #[.pointer (some ⟨w.heap.size, 0, none⟩)]) ta toks tc tag (toks.any (· == n)) from
    ⟨_, _, rfl, fun args w => enterE Tryz.func92 (by kernel_rfl) rfl args w, fun W' hb => (token1_any w.heap.size tc D n tag ta toks W' ((hb.cell (p := ⟨w.heap.size, 0, none⟩) (by simp)).trans (by simp)) ((ht.below hb0 hD).below hb (Nat.le_trans hD hb0.size)) hl).mono (by
      rintro e w' ⟨rfl, rfl⟩
      exact ⟨rfl, Below.refl _ _⟩)⟩)
  clear ht hb0
  go_enter Tryz.func75, Tryz.ntmps75
  go_wp2
  go_ret
  exact ⟨⟨_, rfl, HM.out⟩, (Below.refl _ _).alloc (Nat.le_refl _) _⟩
set_option maxRecDepth 100000 in
set_option maxHeartbeats 1000000 in
theorem notSo1_any (N tc : Nat) (f : Value) (tag : ByteArray) (ta : Option Addr) (toks : List Int) (b : Bool) (w : World) (h : w.cell? ⟨N, 0, none⟩ = some f) (hm : Must w f ta toks tc tag b) :
    Calls Tryz.prog 94 #[.slice ta toks.length tc, .string tag, .pointer (some ⟨N, 0, none⟩)] w fun e w' => e = .returned (.bool (!b)) ∧ Below w.heap.size w w' := by
  obtain ⟨fn, cp, rfl, hE, hC⟩ := hm
  have HE := hide hE
  have HC := hide (hC w (Below.refl _ _))
  clear hE hC
  go_enter Tryz.func94, Tryz.ntmps94
  go_wp2_with fail
  rw [HE.out, Oper.upon_enter]
  refine HC.out.mono ?_
  rintro e w1 ⟨rfl, b1⟩
  go_wp2
  go_ret
  exact ⟨rfl, b1⟩
set_option maxRecDepth 100000 in
set_option maxHeartbeats 1000000 in
theorem notSo_any (f : Value) (tag : ByteArray) (ta : Option Addr) (toks : List Int) (tc : Nat) (b : Bool) (w : World) (hm : Must w f ta toks tc tag b) :
    Calls Tryz.prog 76 #[f] w fun e w' => (∃ f, e = .returned f ∧ Must w' f ta toks tc tag (!b)) ∧ Below w.heap.size w w' := by
  have hmf := makeE
  obtain ⟨fn, cp, rfl, hE, hC⟩ := hm
  have hb0 := (Below.refl w.heap.size w).alloc (Nat.le_refl _) (Obj.cells #[.func (.func fn) #[] cp] 60)
  have HM := hide (show Must (w.alloc (Obj.cells #[.func (.func fn) #[] cp] 60)) (.func (.func 94) #[] #[.pointer (some ⟨w.heap.size, 0, none⟩)]) ta toks tc tag (!b) from
    ⟨_, _, rfl, fun args w => enterE Tryz.func94 (by kernel_rfl) rfl args w, fun W' hb => notSo1_any w.heap.size tc (.func (.func fn) #[] cp) tag ta toks b W' ((hb.cell (p := ⟨w.heap.size, 0, none⟩) (by simp)).trans (by simp)) (Must.next (Must.next ⟨fn, cp, rfl, hE, hC⟩ hb0) hb)⟩)
  clear hE hC hb0
  go_enter Tryz.func76, Tryz.ntmps76
  go_wp2
  go_ret
  exact ⟨⟨_, rfl, HM.out⟩, (Below.refl _ _).alloc (Nat.le_refl _) _⟩

set_option maxRecDepth 100000 in
set_option maxHeartbeats 2000000 in
theorem mustOf_any (c : Cn) (tag : ByteArray) (ta : Option Addr) (toks : List Int) (tc D : Nat) (w : World) (ht : Ints w D ta toks) (hD : D ≤ w.heap.size) (hl : toks.length ≤ 1048576) :
    Calls Tryz.prog 58 #[.agg #[.bool c.no, .int .i64 c.tk, .string c.tg]] w fun e w' => (∃ f, e = .returned f ∧ Must w' f ta toks tc tag (condB toks tag c)) ∧ Below w.heap.size w w' := by
  obtain ⟨no, tk, tg⟩ := c
  have hb0 := (Below.refl w.heap.size w).alloc (Nat.le_refl _) (Obj.cells #[.bool no, .int .i64 tk, .string tg] 57)
  have HT := hide (tagIs_any tg tag ta toks tc (w.alloc (Obj.cells #[.bool no, .int .i64 tk, .string tg] 57)))
  have HX := hide (BoxV.made w [.bool no, .int .i64 tk, .string tg] 57)
  have HB := hide hb0
  have HIN := hide (ht.below hb0 hD)
  have HCB := hide (show condB toks tag ⟨no, tk, tg⟩ = ((if tk = 0 then tg.toList == tag.toList else toks.any (· == tk)) != no) from rfl)
  have hD0 := Nat.le_trans hD hb0.size
  clear ht hb0
  show Calls Tryz.prog 58 #[.agg #[.bool no, .int .i64 tk, .string tg]] w _
  go_enter Tryz.func58, Tryz.ntmps58
  go_wp2_with fail
  refine HT.out.mono ?_
  rintro e w1 ⟨⟨f1, rfl, hm1⟩, b1⟩
  have HM1 := hide hm1
  have HC1 := hide (HB.out.trans (b1.mono HB.out.size))
  have HI1 := hide (HIN.out.below b1 hD0)
  have HX1 := hide (HX.out.next b1)
  have hD1 := Nat.le_trans hD HC1.out.size
  clear hm1 b1 HT HX HB HIN
  have q0 := (HX1.out.2 0 _ rfl).1
  have q1 := (HX1.out.2 1 _ rfl).1
  by_cases hz : tk = 0
  · rw [if_pos hz] at HCB
    subst hz
    cases no
    · have HR := hide (show Must w1 f1 ta toks tc tag (condB toks tag ⟨false, 0, tg⟩) by rw [HCB.out]; simpa using HM1.out)
      go_wp2
      go_ret
      exact ⟨⟨_, rfl, HR.out⟩, HC1.out⟩
    · have HN := hide (notSo_any f1 tag ta toks tc _ w1 HM1.out)
      go_wp2_with fail
      refine HN.out.mono ?_
      rintro e w2 ⟨⟨f2, rfl, hm2⟩, b2⟩
      have HM2 := hide hm2
      have HC2 := hide (HC1.out.trans (b2.mono HC1.out.size))
      clear hm2 b2 q0 q1
      go_wp2
      go_ret
      exact ⟨⟨_, rfl, by rw [HCB.out]; simpa using HM2.out⟩, HC2.out⟩
  · rw [if_neg hz] at HCB
    have hz1 : (tk == 0) = false := by simpa using hz
    have hz2 : (tk != 0) = true := by simpa using hz
    have HK := hide (token_any tk tag ta toks tc D w1 HI1.out hD1 hl)
    clear hz HM1
    go_wp2_with fail
    refine HK.out.mono ?_
    rintro e w2 ⟨⟨f2, rfl, hm2⟩, b2⟩
    have HM2 := hide hm2
    have HC2 := hide (HC1.out.trans (b2.mono HC1.out.size))
    have HX2 := hide (HX1.out.next b2)
    clear hm2 b2 q0 q1 HK HX1 HC1 HI1
    have q0 := (HX2.out.2 0 _ rfl).1
    cases no
    · go_wp2
      go_ret
      exact ⟨⟨_, rfl, by rw [HCB.out]; simpa using HM2.out⟩, HC2.out⟩
    · have HN := hide (notSo_any f2 tag ta toks tc _ w2 HM2.out)
      go_wp2_with fail
      refine HN.out.mono ?_
      rintro e w3 ⟨⟨f3, rfl, hm3⟩, b3⟩
      have HM3 := hide hm3
      have HC3 := hide (HC2.out.trans (b3.mono HC2.out.size))
      clear hm3 b3 q0
      go_wp2
      go_ret
      exact ⟨⟨_, rfl, by rw [HCB.out]; simpa using HM3.out⟩, HC3.out⟩
end Go.Proofs.YtmgikfeknmbpbaaGreatDoor
