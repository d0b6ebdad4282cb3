/-
  Slices of numbers: what they hold, and that it stays.
  What stands in a walk's context and is not to be used by it.
  Slices of texts: what they hold, and that it stays.
  Whether a list of texts stands under another.
  Plain facts on bytes, their kinds, and texts of them: no program in sight.
  Plain facts on quoted texts: no program in sight.
  Plain facts on names and paths: no program in sight.
  Plain facts on the text of a path: no program in sight.
  Locks: no program in sight.
  Lists of locks that are right: no program in sight.
  What is told of locks, and which stay: no program in sight.
  Two answers that are the same.
-/
import Derived.Test.YtmgikfeknmbpbabRows
import Derived.WalkKit
import Derived.Deep.OwnRows
import Derived.Below
import Derived.WalkSpells
import Derived.WalkLawsBesides
import Derived.Deep.Light
import Derived.Deep.QuietTactic
import Derived.Lib.Join
namespace Go.Proofs.Ytmgikfeknmbpbab
open Go.RowKit

/-- The numbers that a slice holds, in a block below B. -/
def Ints (w : World) (B : Nat) (a : Option Addr) (l : List Int) : Prop :=
  0 < l.length → ∃ b o, a = some ⟨b, o, none⟩ ∧ b < B ∧ ∀ j (hj : j < l.length), w.cell? ⟨b, o + j, none⟩ = some (.int .i64 l[j])

theorem Ints.below {w w' : World} {B C : Nat} {a : Option Addr} {l : List Int} (h : Ints w B a l) (hb : Below C w w') (hB : B ≤ C) : Ints w' B a l := fun h0 => by
  obtain ⟨b, o, e, hbB, hc⟩ := h h0
  exact ⟨b, o, e, hbB, fun j hj => (hb.cell (p := ⟨b, o + j, none⟩) (Nat.lt_of_lt_of_le hbB hB)).trans (hc j hj)⟩
theorem Ints.mono {w : World} {B C : Nat} {a : Option Addr} {l : List Int} (h : Ints w B a l) (hB : B ≤ C) : Ints w C a l := fun h0 => by
  obtain ⟨b, o, e, hbB, hc⟩ := h h0
  exact ⟨b, o, e, Nat.lt_of_lt_of_le hbB hB, hc⟩
end Go.Proofs.Ytmgikfeknmbpbab
namespace Go.Proofs.Ytmgikfeknmbpbab

open Go.RowKit
theorem hide {p : Prop} (h : p) : Hid p := h
end Go.Proofs.Ytmgikfeknmbpbab
namespace Go.Proofs.Ytmgikfeknmbpbab
open Go.RowKit

/-- The texts that a slice holds, in a block below B. -/
def Strs (w : World) (B : Nat) (a : Option Addr) (ss : List ByteArray) : Prop :=
  0 < ss.length → ∃ b o, a = some ⟨b, o, none⟩ ∧ b < B ∧ ∀ j (hj : j < ss.length), w.cell? ⟨b, o + j, none⟩ = some (.string ss[j])

theorem Strs.below {w w' : World} {B C : Nat} {a : Option Addr} {ss : List ByteArray} (h : Strs w B a ss) (hb : Below C w w') (hB : B ≤ C) : Strs w' B a ss := fun h0 => by
  obtain ⟨b, o, e, hbB, hc⟩ := h h0
  exact ⟨b, o, e, hbB, fun j hj => (hb.cell (p := ⟨b, o + j, none⟩) (Nat.lt_of_lt_of_le hbB hB)).trans (hc j hj)⟩

theorem Strs.mono {w : World} {B C : Nat} {a : Option Addr} {ss : List ByteArray} (h : Strs w B a ss) (hB : B ≤ C) : Strs w C a ss := fun h0 => by
  obtain ⟨b, o, e, hbB, hc⟩ := h h0
  exact ⟨b, o, e, Nat.lt_of_lt_of_le hbB hB, hc⟩

theorem Strs.take {w : World} {B : Nat} {a : Option Addr} {ss : List ByteArray} (h : Strs w B a ss) (k : Nat) : Strs w B a (ss.take k) := fun h0 => by
  have hl : (ss.take k).length ≤ ss.length := by rw [List.length_take]; omega
  obtain ⟨b, o, e, hbB, hc⟩ := h (by omega)
  exact ⟨b, o, e, hbB, fun j hj => by rw [hc j (by omega), List.getElem_take]⟩

theorem info_str : (Try.prog.info? 9).map (fun i => (i.zero, i.size, i.bytes)) = some (some (.string ByteArray.empty), 1, 16) := by kernel_rfl

/-- A row of texts that the call made, as a slice. -/
theorem Strs.row {w : World} {N n C : Nat} {ss : List ByteArray} {f : Nat → Value} (h : w.rowIs N 9 n f) (hn : ss.length ≤ n) (hf : ∀ j (hj : j < ss.length), f j = .string ss[j]) (hN : N < C) : Strs w C (some ⟨N, 0, none⟩) ss := fun _ =>
  ⟨N, 0, rfl, hN, fun j hj => by rw [Nat.zero_add, h.cell (by omega), hf j hj]⟩

/-- All of them short enough. -/
def Short (ss : List ByteArray) : Prop := ∀ s ∈ ss, s.size ≤ maxLen
theorem Short.at {ss : List ByteArray} (h : Short ss) (k : Nat) (hk : k < ss.length) : (ss[k]).size ≤ maxLen := h _ (List.getElem_mem hk)

def sumS (ss : List ByteArray) : Nat := (ss.map (·.size)).sum
theorem sumS_snoc (ss : List ByteArray) (k : Nat) (hk : k < ss.length) : sumS (ss.take (k + 1)) = sumS (ss.take k) + (ss[k]).size := by
  unfold sumS
  rw [List.take_succ_eq_append_getElem hk, List.map_append, List.sum_append]
  simp only [List.map_cons, List.map_nil, List.sum_cons, List.sum_nil, Nat.add_zero]
theorem sumS_all (ss : List ByteArray) (k : Nat) (hk : ¬ k < ss.length) : ss.take k = ss := List.take_of_length_le (by omega)
theorem sumS_mem (ss : List ByteArray) (s : ByteArray) (h : s ∈ ss) : s.size ≤ sumS ss := by
  induction ss with
  | nil => cases h
  | cons x l ih =>
    simp only [sumS, List.map_cons, List.sum_cons] at *
    rcases List.mem_cons.1 h with rfl | h
    · omega
    · have := ih h; omega

theorem str_inj {a b : ByteArray} (h : a.toList = b.toList) : a = b := by
  rw [ByteArray.toList_eq, ByteArray.toList_eq] at h
  exact ByteArray.ext (Array.ext' h)

/-- Whether two lists of texts are the same. -/
def sameL (ss tt : List ByteArray) : Bool := decide (ss = tt)
theorem sameL_refl (ss : List ByteArray) : sameL ss ss = true := by simp [sameL]
theorem sameL_len {ss tt : List ByteArray} (h : ¬ ss.length = tt.length) : sameL ss tt = false := by
  simp only [sameL, decide_eq_false_iff_not]; intro e; exact h (by rw [e])
theorem sameL_not {ss tt : List ByteArray} (k : Nat) (h1 : k < ss.length) (h2 : k < tt.length) (h : ¬ ss[k] = tt[k]) : sameL ss tt = false := by
  simp only [sameL, decide_eq_false_iff_not]; intro e; subst e; exact h rfl
theorem sameL_all {ss tt : List ByteArray} (hl : ss.length = tt.length) (k : Nat) (hk : ¬ k < ss.length) (h : ss.take k = tt.take k) : sameL ss tt = true := by
  rw [List.take_of_length_le (by omega), List.take_of_length_le (by omega)] at h
  simp [sameL, h]
theorem take_same {ss tt : List ByteArray} (k : Nat) (h1 : k < ss.length) (h2 : k < tt.length) (h0 : ss.take k = tt.take k) (h : ss[k] = tt[k]) : ss.take (k + 1) = tt.take (k + 1) := by
  rw [List.take_succ_eq_append_getElem h1, List.take_succ_eq_append_getElem h2, h0, h]
end Go.Proofs.Ytmgikfeknmbpbab
namespace Go.Proofs.Ytmgikfeknmbpbab

/-- Whether the first list stands under the second. -/
def underB (ss tt : List ByteArray) : Bool := decide (tt.length < ss.length) && sameL (ss.take tt.length) tt

end Go.Proofs.Ytmgikfeknmbpbab
namespace Go.Proofs.Ytmgikfeknmbpbab.M

/-- Whether a byte is of a kind, as the document has it. -/
def isB (c k : Int) : Bool :=
  if k = 0 then decide (32 ≤ c) && decide (c ≤ 126)
  else if k = 1 then (c == 32) || (c == 9)
  else if k = 2 then decide (97 ≤ c) && decide (c ≤ 122)
  else if k = 3 then decide (65 ≤ c) && decide (c ≤ 90)
  else if k = 4 then decide (48 ≤ c) && decide (c ≤ 57)
  else if k = 5 then decide (97 ≤ c) && decide (c ≤ 102)
  else if k = 6 then decide (65 ≤ c) && decide (c ≤ 70)
  else if k = 7 then c == 45
  else false

def anyB (c : Int) (ks : List Int) : Bool := ks.any (isB c)
def allB (l : List UInt8) (ks : List Int) : Bool := l.all fun c => anyB (c.toNat : Int) ks

theorem take_snoc (s : ByteArray) (k : Nat) (h : k < s.size) : s.data.toList.take (k + 1) = s.data.toList.take k ++ [s[k]] := by
  rw [List.take_succ_eq_append_getElem (by simpa using h)]; rfl

theorem take_all (s : ByteArray) (k : Nat) (h : ¬ k < s.size) : s.data.toList.take k = s.data.toList := by
  rw [List.take_of_length_le]
  have : s.data.toList.length = s.size := Array.length_toList
  omega

theorem anyB_snoc (c : Int) (ks : List Int) (k : Nat) (h : k < ks.length) (h0 : anyB c (ks.take k) = false) (h1 : isB c ks[k] = false) : anyB c (ks.take (k + 1)) = false := by
  unfold anyB at *
  rw [List.take_succ_eq_append_getElem h, List.any_append, h0]
  simp [h1]

theorem anyB_of (c : Int) (ks : List Int) (k : Nat) (h : k < ks.length) (h1 : isB c ks[k] = true) : anyB c ks = true := by
  unfold anyB
  rw [List.any_eq_true]
  exact ⟨_, List.getElem_mem h, h1⟩

theorem allB_snoc (s : ByteArray) (ks : List Int) (k : Nat) (h : k < s.size) (h0 : allB (s.data.toList.take k) ks = true) (h2 : (!anyB (s[k].toNat : Int) ks) = false) : allB (s.data.toList.take (k + 1)) ks = true := by
  have h1 : anyB (s[k].toNat : Int) ks = true := by simpa using h2
  rw [take_snoc s k h]
  unfold allB at *
  rw [List.all_append, h0]
  simp [h1]

theorem allB_not (s : ByteArray) (ks : List Int) (k : Nat) (h : k < s.size) (h2 : (!anyB (s[k].toNat : Int) ks) = true) : allB s.data.toList ks = false := by
  have h1 : anyB (s[k].toNat : Int) ks = false := by simpa using h2
  have hm : s[k] ∈ s.data.toList := by
    have e : s.data.toList.length = s.size := Array.length_toList
    have h' : k < s.data.toList.length := by omega
    exact List.getElem_mem h'
  unfold allB
  rw [List.all_eq_false]
  exact ⟨_, hm, by simp [h1]⟩

/-- Whether a number lies between two. -/
def inB (x a b : Int) : Bool := decide (a ≤ x) && decide (x ≤ b)
theorem inB_plain (c : Int) : inB c 32 126 = anyB c [0] := by simp [inB, anyB, isB]
theorem inB_small (c : Int) : inB c 97 122 = isB c 2 := by simp [inB, isB]
theorem inB_large (c : Int) : inB c 65 90 = isB c 3 := by simp [inB, isB]
theorem inB_digit (c : Int) : inB c 48 57 = isB c 4 := by simp [inB, isB]
theorem inB_hexs (c : Int) : inB c 97 102 = isB c 5 := by simp [inB, isB]
theorem inB_hexl (c : Int) : inB c 65 70 = isB c 6 := by simp [inB, isB]
theorem anyB_one (c k : Int) : anyB c [k] = isB c k := by simp [anyB]

theorem set_last (pre t : List UInt8) (n : Nat) (h : pre.length = n + 1) (c : UInt8) : ∃ q : List UInt8, q.length = n ∧ (pre ++ t).set n c = q ++ c :: t := by
  refine ⟨pre.take n, by rw [List.length_take]; omega, ?_⟩
  have e : pre = pre.take n ++ [pre[n]] := by
    conv => lhs; rw [← List.take_append_drop n pre]
    rw [List.drop_eq_getElem_cons (by omega), List.drop_of_length_le (by omega)]
  have e2 : pre ++ t = pre.take n ++ (pre[n] :: t) := by
    conv => lhs; rw [e]
    rw [List.append_assoc]; rfl
  have l2 : (pre.take n).length = n := by rw [List.length_take]; omega
  rw [e2, List.set_append_right _ _ (by omega), l2, Nat.sub_self, List.set_cons_zero]

/-- A large letter as a small one. -/
def lowB (c : UInt8) : UInt8 := if isB (c.toNat : Int) 3 then c + 32 else c
def lowL (l : List UInt8) : List UInt8 := l.map lowB

theorem lowB_yes (c : UInt8) (h : isB (c.toNat : Int) 3 = true) : (lowB c).toNat = c.toNat + 32 := by
  have h' : 65 ≤ c.toNat ∧ c.toNat ≤ 90 := by simp [isB] at h; omega
  unfold lowB
  rw [if_pos h, UInt8.toNat_add]
  have : (32 : UInt8).toNat = 32 := rfl
  omega

theorem lowB_no (c : UInt8) (h : isB (c.toNat : Int) 3 = false) : lowB c = c := by
  unfold lowB
  rw [if_neg (by simp [h])]

theorem isB3 {c : Int} (h : isB c 3 = true) : 65 ≤ c ∧ c ≤ 90 := by simp [isB] at h; omega

theorem lowL_snoc (s : ByteArray) (k : Nat) (h : k < s.size) : lowL (s.data.toList.take (k + 1)) = lowL (s.data.toList.take k) ++ [lowB s[k]] := by
  rw [take_snoc s k h]; simp [lowL]

/-- The first k made small, the rest as it was. -/
def mixL (l : List UInt8) (k : Nat) : List UInt8 := lowL (l.take k) ++ l.drop k
theorem mixL_length (l : List UInt8) (k : Nat) : (mixL l k).length = l.length := by
  simp only [mixL, lowL, List.length_append, List.length_map, List.length_take, List.length_drop]; omega
theorem mixL_zero (l : List UInt8) : mixL l 0 = l := by simp [mixL, lowL]
theorem mixL_all (l : List UInt8) (k : Nat) (h : l.length ≤ k) : mixL l k = lowL l := by
  simp [mixL, List.take_of_length_le h, List.drop_of_length_le h]
theorem mixL_get (l : List UInt8) (k : Nat) (h : k < l.length) (h' : k < (mixL l k).length) : (mixL l k)[k] = l[k] := by
  have e : (lowL (l.take k)).length = k := by simp only [lowL, List.length_map, List.length_take]; omega
  simp only [mixL]
  rw [List.getElem_append_right (by omega)]
  simp only [e, Nat.sub_self, List.getElem_drop, Nat.add_zero]
theorem mixL_succ (l : List UInt8) (k : Nat) (h : k < l.length) : mixL l (k + 1) = (mixL l k).set k (lowB l[k]) := by
  have e : (lowL (l.take k)).length = k := by simp only [lowL, List.length_map, List.length_take]; omega
  simp only [mixL]
  rw [List.set_append_right _ _ (by omega), e, Nat.sub_self, List.drop_eq_getElem_cons h, List.set_cons_zero, List.take_succ_eq_append_getElem h]
  simp only [lowL, List.map_append, List.map_cons, List.map_nil, List.append_assoc, List.singleton_append]

end Go.Proofs.Ytmgikfeknmbpbab.M
namespace Go.Proofs.Ytmgikfeknmbpbab.M

/-- These bytes, as a text. -/
def bytesOf (l : List UInt8) : ByteArray := ⟨l.toArray⟩
theorem bytesOf_append (l m : List UInt8) : bytesOf l ++ bytesOf m = bytesOf (l ++ m) := by
  apply ByteArray.ext
  simp [bytesOf]

theorem bytesOf_size (l : List UInt8) : (bytesOf l).size = l.length := by
  show l.toArray.size = l.length
  simp

/-- A digit of sixteen, a large one. -/
def digL (n : Nat) : UInt8 := if n < 10 then UInt8.ofNat (48 + n) else UInt8.ofNat (55 + n)
theorem digL_lo (n : Nat) (h : n < 10) : (digL n).toNat = 48 + n := by
  unfold digL; rw [if_pos h]; simp; omega
theorem digL_hi (n : Nat) (h : ¬ n < 10) (h' : n < 16) : (digL n).toNat = 55 + n := by
  unfold digL; rw [if_neg h]; simp; omega

/-- Whether a byte stays as it is in a quoted text. -/
def freeB (c : Int) : Bool := ((((((isB c 2 || isB c 3) || isB c 4) || c == 45) || c == 46) || c == 95) || c == 126)
def quoteB (c : UInt8) : List UInt8 := if freeB (c.toNat : Int) then [c] else [37, digL (c.toNat / 16), digL (c.toNat % 16)]
def quoteL (l : List UInt8) : List UInt8 := l.flatMap quoteB

theorem quoteB_yes {c : UInt8} (h : freeB (c.toNat : Int) = true) : quoteB c = [c] := by unfold quoteB; rw [if_pos h]
theorem quoteB_no {c : UInt8} (h : freeB (c.toNat : Int) = false) : quoteB c = [37, digL (c.toNat / 16), digL (c.toNat % 16)] := by unfold quoteB; rw [if_neg (by simp [h])]

theorem quoteL_snoc (s : ByteArray) (k : Nat) (h : k < s.size) : quoteL (s.data.toList.take (k + 1)) = quoteL (s.data.toList.take k) ++ quoteB s[k] := by
  rw [take_snoc s k h]; simp [quoteL]

theorem quoteB_length (c : UInt8) : (quoteB c).length ≤ 3 := by unfold quoteB; split <;> simp
theorem quoteL_le (l : List UInt8) : (quoteL l).length ≤ 3 * l.length := by
  induction l with
  | nil => simp [quoteL]
  | cons c l ih =>
    have := quoteB_length c
    simp only [quoteL, List.flatMap_cons, List.length_append, List.length_cons] at *
    omega

theorem hex_at (n : Nat) (h : n < 16) : (⟨#[48, 49, 50, 51, 52, 53, 54, 55, 56, 57, 65, 66, 67, 68, 69, 70]⟩ : ByteArray)[n]'(by show n < 16; exact h) = digL n := by
  have key : ∀ i : Fin 16, (⟨#[48, 49, 50, 51, 52, 53, 54, 55, 56, 57, 65, 66, 67, 68, 69, 70]⟩ : ByteArray)[i.val]'(by show i.val < 16; exact i.isLt) = digL i.val := by decide
  exact key ⟨n, h⟩

end Go.Proofs.Ytmgikfeknmbpbab.M
namespace Go.Proofs.Ytmgikfeknmbpbab.M

/-- Whether a text is a name, as the document has it. -/
def noSlash (l : List UInt8) : Bool := l.all fun c => !(c == 47)
def nameB (s : ByteArray) : Bool := noSlash s.data.toList && (inB s.size 1 8 && (allB s.data.toList [0] && (!(s.toList == [46]) && !(s.toList == [46, 46]))))

theorem noSlash_snoc (s : ByteArray) (k : Nat) (h : k < s.size) (h0 : noSlash (s.data.toList.take k) = true) (h1 : ¬ s[k] = 47) : noSlash (s.data.toList.take (k + 1)) = true := by
  rw [take_snoc s k h]
  unfold noSlash at *
  rw [List.all_append, h0]
  simp [h1]

theorem mem_at (s : ByteArray) (k : Nat) (h : k < s.size) : s[k] ∈ s.data.toList := by
  have e : s.data.toList.length = s.size := Array.length_toList
  have h' : k < s.data.toList.length := by omega
  exact List.getElem_mem h'

theorem noSlash_not (s : ByteArray) (k : Nat) (h : k < s.size) (h1 : s[k] = 47) : noSlash s.data.toList = false := by
  unfold noSlash
  rw [List.all_eq_false]
  exact ⟨_, mem_at s k h, by simp [h1]⟩

theorem u8_47 {c : UInt8} (h : ((c.toNat : Int) == 47) = true) : c = 47 := by
  have h' : c.toNat = 47 := by simp at h; omega
  exact UInt8.toNat_inj.1 (by rw [h']; rfl)

theorem okc_of {c : UInt8} (h : (32 ≤ (c.toNat : Int) ∧ (c.toNat : Int) ≤ 126) ∧ ((c.toNat : Int) == 47) = false) : anyB (c.toNat : Int) [0] = true ∧ ¬ c = 47 := by
  refine ⟨?_, fun e => by rw [e] at h; exact absurd h.2 (by decide)⟩
  simp [anyB, isB]
  omega

theorem okc_not {c : UInt8} (h : ((c.toNat : Int) < 32 ∨ 126 < (c.toNat : Int)) ∨ ((c.toNat : Int) == 47) = true) (h' : anyB (c.toNat : Int) [0] = true ∧ ¬ c = 47) : False := by
  have h0 := h'.1
  simp [anyB, isB] at h0
  rcases h with h | h
  · omega
  · exact h'.2 (u8_47 h)

theorem noSlash_no (s : ByteArray) (k : Nat) (h : k < s.size) (h1 : ((s[k].toNat : Int) == 47) = true) : nameB s = false := by
  unfold nameB; rw [noSlash_not s k h (u8_47 h1)]; rfl

theorem plain_no (s : ByteArray) (k : Nat) (h : k < s.size) (h1 : anyB (s[k].toNat : Int) [0] = false) : nameB s = false := by
  unfold nameB; rw [allB_not s [0] k h (by simp [h1])]; simp

theorem nameB_all (s : ByteArray) (h0 : noSlash s.data.toList = true) (h1 : inB s.size 1 8 = true) (h2 : allB s.data.toList [0] = true) (h3 : ¬ s.toList = [46]) (h4 : ¬ s.toList = [46, 46]) : nameB s = true := by
  unfold nameB; simp [h0, h1, h2, h3, h4]

end Go.Proofs.Ytmgikfeknmbpbab.M
namespace Go.Proofs.Ytmgikfeknmbpbab.M

/-- Whether these are the names of a path, as the document has it. -/
def pathB (ss : List ByteArray) : Bool := ss.all nameB && decide (ss.length ≤ 4)
def qB (s : ByteArray) : ByteArray := bytesOf (quoteL s.data.toList)
def tellL (ss : List ByteArray) : List UInt8 := ss.flatMap fun s => 47 :: quoteL s.data.toList
/-- The text of a path. -/
def ptextL (ss : List ByteArray) : List UInt8 := if pathB ss then (if ss = [] then [47] else tellL ss) else []

theorem ptextL_not {ss : List ByteArray} (h : pathB ss = false) : ptextL ss = [] := by simp [ptextL, h]
theorem ptextL_nil : ptextL [] = [47] := by simp [ptextL, pathB]
theorem ptextL_some {ss : List ByteArray} (h : pathB ss = true) (h0 : ss ≠ []) : ptextL ss = tellL ss := by simp [ptextL, h, h0]

theorem tellL_snoc (ss : List ByteArray) (k : Nat) (h : k < ss.length) : tellL (ss.take (k + 1)) = tellL (ss.take k) ++ [47] ++ quoteL (ss[k]).data.toList := by
  unfold tellL
  rw [List.take_succ_eq_append_getElem h, List.flatMap_append]
  simp only [List.flatMap_cons, List.flatMap_nil, List.append_nil, List.append_assoc, List.singleton_append]

theorem nameB_size {s : ByteArray} (h : nameB s = true) : s.size ≤ 8 := by
  unfold nameB at h
  simp only [Bool.and_eq_true, inB, decide_eq_true_eq] at h
  omega

theorem pathB_name {ss : List ByteArray} (h : pathB ss = true) (k : Nat) (hk : k < ss.length) : nameB ss[k] = true := by
  unfold pathB at h
  simp only [Bool.and_eq_true, List.all_eq_true] at h
  exact h.1 _ (List.getElem_mem hk)
theorem pathB_len {ss : List ByteArray} (h : pathB ss = true) : ss.length ≤ 4 := by
  unfold pathB at h
  simp only [Bool.and_eq_true, decide_eq_true_eq] at h
  exact h.2

theorem quote_short {s : ByteArray} (h : s.size ≤ 8) : (quoteL s.data.toList).length ≤ 24 := by
  have := quoteL_le s.data.toList
  have e : s.data.toList.length = s.size := Array.length_toList
  omega

theorem tellL_le {ss : List ByteArray} (h : pathB ss = true) (k : Nat) (hk : k ≤ ss.length) : (tellL (ss.take k)).length ≤ 25 * k := by
  induction k with
  | zero => simp [tellL]
  | succ k ih =>
    rw [tellL_snoc ss k hk]
    have h1 := ih (by omega)
    have h2 := quote_short (nameB_size (pathB_name h k hk))
    simp only [List.length_append, List.length_cons, List.length_nil]
    omega

theorem tellL_join (ss : List ByteArray) (h : ss ≠ []) : [47] ++ Lib.join ((ss.map qB).map (·.data.toList)) [47] = tellL ss := by
  cases ss with
  | nil => exact absurd rfl h
  | cons s r =>
    rw [List.map_cons, List.map_cons, Lib.join_cons]
    simp only [tellL, Lib.joinTail, List.map_map, List.flatMap]
    simp only [Function.comp_def, qB, bytesOf, List.cons_append, List.nil_append, List.map_cons, List.flatten_cons]

theorem join_le {ss : List ByteArray} (h : pathB ss = true) : (Lib.join ((ss.map qB).map (·.data.toList)) [47]).length ≤ 100 := by
  by_cases h0 : ss = []
  · subst h0; simp [Lib.join]
  · have e := congrArg List.length (tellL_join ss h0)
    have h1 := tellL_le h ss.length (Nat.le_refl _)
    rw [List.take_length] at h1
    have := pathB_len h
    simp only [List.length_append, List.length_cons, List.length_nil] at e
    omega
end Go.Proofs.Ytmgikfeknmbpbab.M
namespace Go.Proofs.Ytmgikfeknmbpbab
open Go.RowKit

namespace M
/-- A lock. -/
structure Lk where
  tk : Int
  pa : List ByteArray
  de : Bool
  sh : Bool
  un : Int
deriving DecidableEq
end M
open M

def szK (r : Lk) : Nat := r.pa.length + sumS r.pa
def sumK (rs : List Lk) : Nat := (rs.map szK).sum
theorem sumK_snoc (rs : List Lk) (k : Nat) (hk : k < rs.length) : sumK (rs.take (k + 1)) = sumK (rs.take k) + szK rs[k] := by
  unfold sumK
  rw [List.take_succ_eq_append_getElem hk, List.map_append, List.sum_append]
  simp only [List.map_cons, List.map_nil, List.sum_cons, List.sum_nil, Nat.add_zero]
theorem sumK_mem (rs : List Lk) (r : Lk) (h : r ∈ rs) : szK r ≤ sumK rs := by
  induction rs with
  | nil => cases h
  | cons x l ih =>
    simp only [sumK, List.map_cons, List.sum_cons] at *
    rcases List.mem_cons.1 h with rfl | h
    · omega
    · have := ih h; omega
theorem sumK_append (a b : List Lk) : sumK (a ++ b) = sumK a + sumK b := by simp [sumK]
theorem sumK_sub {a b : List Lk} (h : List.Sublist a b) : sumK a ≤ sumK b := by
  induction h with
  | slnil => exact Nat.le_refl _
  | cons x _ ih => simp only [sumK, List.map_cons, List.sum_cons] at *; omega
  | cons_cons x _ ih => simp only [sumK, List.map_cons, List.sum_cons] at *; omega

def sameK (ss tt : List Lk) : Bool := decide (ss = tt)
theorem sameK_refl (ss : List Lk) : sameK ss ss = true := by simp [sameK]
theorem sameK_len {ss tt : List Lk} (h : ¬ ss.length = tt.length) : sameK ss tt = false := by
  simp only [sameK, decide_eq_false_iff_not]; intro e; exact h (by rw [e])
theorem sameK_not {ss tt : List Lk} (k : Nat) (h1 : k < ss.length) (h2 : k < tt.length) (h : ¬ ss[k] = tt[k]) : sameK ss tt = false := by
  simp only [sameK, decide_eq_false_iff_not]; intro e; subst e; exact h rfl
theorem sameK_all {ss tt : List Lk} (hl : ss.length = tt.length) (k : Nat) (hk : ¬ k < ss.length) (h : ss.take k = tt.take k) : sameK ss tt = true := by
  rw [List.take_of_length_le (by omega), List.take_of_length_le (by omega)] at h
  simp [sameK, h]
theorem take_sameK {ss tt : List Lk} (k : Nat) (h1 : k < ss.length) (h2 : k < tt.length) (h0 : ss.take k = tt.take k) (h : ss[k] = tt[k]) : ss.take (k + 1) = tt.take (k + 1) := by
  rw [List.take_succ_eq_append_getElem h1, List.take_succ_eq_append_getElem h2, h0, h]

/-- Whether it is a lock. -/
def lockB (x : Lk) : Bool := inB x.tk 1 9999 && (pathB x.pa && inB x.un 0 9999999)
/-- Whether it covers a path. -/
def covB (x : Lk) (p : List ByteArray) : Bool := sameL x.pa p || (x.de && underB p x.pa)
def clashB (a b : Lk) : Bool := (!a.sh || !b.sh) && (covB a b.pa || covB b a.pa)
/-- Whether two of one list bar each other. -/
def barB (a b : Lk) : Bool := decide (a.tk = b.tk) || clashB a b
theorem clashB_comm (a b : Lk) : clashB a b = clashB b a := by
  unfold clashB
  rw [Bool.or_comm (!a.sh), Bool.or_comm (covB a b.pa)]
/-- Whether lock i is right, and bars none ahead of it. -/
def okAt (l : List Lk) (i : Nat) : Bool := match l[i]? with
  | none => true
  | some x => lockB x && (l.take i).all fun y => !barB y x
def locksB (l : List Lk) : Bool := decide (l.length ≤ 6) && (List.range l.length).all (okAt l)
end Go.Proofs.Ytmgikfeknmbpbab
namespace Go.Proofs.Ytmgikfeknmbpbab
open Go.RowKit M
set_option linter.unusedVariables false

theorem locksB_long {l : List Lk} (h : ¬ l.length ≤ 6) : locksB l = false := by unfold locksB; rw [decide_eq_false h]; rfl
theorem locksB_at {l : List Lk} (i : Nat) (hi : i < l.length) (h : okAt l i = false) : locksB l = false := by
  unfold locksB
  have : (List.range l.length).all (okAt l) = false := by
    rw [Bool.eq_false_iff]
    intro e
    rw [List.all_eq_true] at e
    rw [e i (List.mem_range.2 hi)] at h
    cases h
  rw [this, Bool.and_false]
theorem locksB_not {l : List Lk} (i : Nat) (hi : i < l.length) (h : lockB l[i] = false) : locksB l = false := by
  apply locksB_at i hi
  unfold okAt
  rw [List.getElem?_eq_getElem hi]
  simp only [h, Bool.false_and]
theorem locksB_bar {l : List Lk} (k i : Nat) (hk : k < i) (hi : i < l.length) (h : barB (l[k]'(by omega)) l[i] = true) : locksB l = false := by
  apply locksB_at i hi
  unfold okAt
  rw [List.getElem?_eq_getElem hi]
  have : (l.take i).all (fun y => !barB y l[i]) = false := by
    rw [Bool.eq_false_iff]
    intro e
    rw [List.all_eq_true] at e
    have hm : l[k]'(by omega) ∈ l.take i := by
      rw [List.mem_iff_getElem]
      exact ⟨k, by rw [List.length_take]; omega, by rw [List.getElem_take]⟩
    have := e _ hm
    rw [h] at this
    cases this
  simp only [this, Bool.and_false]
theorem locksB_yes {l : List Lk} (h6 : l.length ≤ 6) (h1 : ∀ i (hi : i < l.length), lockB l[i] = true) (h2 : ∀ i k (hk : k < i) (hi : i < l.length), barB (l[k]'(by omega)) l[i] = false) : locksB l = true := by
  unfold locksB
  rw [decide_eq_true h6, Bool.true_and, List.all_eq_true]
  intro i hi
  have hi' : i < l.length := List.mem_range.1 hi
  unfold okAt
  rw [List.getElem?_eq_getElem hi']
  simp only [h1 i hi', Bool.true_and, List.all_eq_true]
  intro y hy
  obtain ⟨k, hk, rfl⟩ := List.mem_iff_getElem.1 hy
  have hk' : k < i := by rw [List.length_take] at hk; omega
  rw [List.getElem_take, h2 i k hk' hi']
  rfl
theorem bar_tk {a b : Lk} (h : a.tk = b.tk) : barB a b = true := by unfold barB; rw [decide_eq_true h]; rfl
theorem bar_cl {a b : Lk} (h : ¬ a.tk = b.tk) : barB a b = clashB a b := by unfold barB; rw [decide_eq_false h]; rfl
end Go.Proofs.Ytmgikfeknmbpbab
namespace Go.Proofs.Ytmgikfeknmbpbab
open Go.RowKit M
set_option linter.unusedVariables false

def liveB (now : Int) (x : Lk) : Bool := decide (now < x.un)
def tokL (l : List Lk) (p : List ByteArray) : List Int := (l.filter fun x => covB x p).map (·.tk)
def isTk (t : Int) (x : Lk) : Bool := x.tk == t
def dropL (t : Int) : List Lk → List Lk
  | [] => []
  | x :: r => if isTk t x = true then r else x :: dropL t r
theorem dropL_none (t : Int) (l : List Lk) (h : l.any (isTk t) = false) : dropL t l = l := by
  induction l with
  | nil => rfl
  | cons x r ih =>
    simp only [List.any_cons, Bool.or_eq_false_iff] at h
    simp only [dropL, h.1, Bool.false_eq_true, if_false]
    rw [ih h.2]
theorem dropL_snoc (t : Int) (l : List Lk) (x : Lk) : dropL t (l ++ [x]) = if l.any (isTk t) = true then dropL t l ++ [x] else if isTk t x = true then dropL t l else dropL t l ++ [x] := by
  induction l with
  | nil => by_cases h : isTk t x = true <;> simp [dropL, h]
  | cons y r ih =>
    by_cases h : isTk t y = true
    · simp [dropL, h]
    · simp only [List.cons_append, dropL, h, Bool.false_eq_true, if_false, List.any_cons, Bool.false_or, ih]
      split
      · rfl
      · split <;> rfl
theorem dropL_at (t : Int) (l : List Lk) (k : Nat) (hk : k < l.length) (h : isTk t l[k] = true) (h0 : ∀ j (hj : j < l.length), j < k → isTk t l[j] = false) : dropL t l = l.take k ++ l.drop (k + 1) := by
  induction l generalizing k with
  | nil => cases hk
  | cons x r ih =>
    cases k with
    | zero => simp at h; simp [dropL, h]
    | succ k =>
      have hx : isTk t x = false := h0 0 (by simp) (Nat.succ_pos _)
      have := ih k (by simpa using hk) (by simpa using h) (fun j hj hjk => by have := h0 (j + 1) (by simpa using hj) (by omega); simpa using this)
      simp [dropL, hx, this]
theorem dropL_sub (t : Int) (l : List Lk) : List.Sublist (dropL t l) l := by
  induction l with
  | nil => exact .slnil
  | cons x r ih =>
    simp only [dropL]
    split
    · exact List.sublist_cons_self _ _
    · exact ih.cons_cons _

/-- Whether a lock must let by what turns at p. -/
def touchB (p : List ByteArray) (deep : Bool) (x : Lk) : Bool := covB x p || (deep && underB x.pa p)
def hasB (toks : List Int) (x : Lk) : Bool := toks.any (· == x.tk)
def mayB (l : List Lk) (p : List ByteArray) (deep : Bool) (toks : List Int) : Bool :=
  (l.filter (touchB p deep)).all (fun x => x.sh || hasB toks x) && (!(l.filter (touchB p deep)).any (·.sh) || (l.filter (touchB p deep)).any (fun x => x.sh && hasB toks x))
/-- What is there behind a lock is added. -/
def addL (l : List Lk) (x : Lk) : List Lk := if locksB (l ++ [x]) = true then l ++ [x] else l
end Go.Proofs.Ytmgikfeknmbpbab
namespace Go.Proofs.Ytmgikfeknmbpbab

theorem ret_bool {a b : Bool} (h : a = b) : Ending.returned (.bool a) = .returned (.bool b) := by rw [h]
end Go.Proofs.Ytmgikfeknmbpbab
