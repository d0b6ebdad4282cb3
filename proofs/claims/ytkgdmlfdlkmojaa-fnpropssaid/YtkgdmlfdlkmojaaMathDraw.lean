/-
  The numbers that a draw mixes: no program in sight but the model's own wraps and bits.
-/
import Derived.Laws.BitsLemmas
import Derived.Laws.Wrap64
import Derived.WalkKit
namespace Go.Proofs.Ytkgdmlfdlkmojaa.M
open Go Go.RowKit

theorem i64_and255 (n : Int) : bits .and .i64 n 255 = n % 256 := by
  have h8 : (BitVec.ofInt 64 255).toNat = 2 ^ 8 - 1 := by decide
  have key : (BitVec.ofInt 64 n &&& BitVec.ofInt 64 255).toNat = (n % ((2 ^ 64 : Nat) : Int)).toNat % 2 ^ 8 := by
    rw [BitVec.toNat_and, BitVec.toNat_ofInt, h8, Nat.and_two_pow_sub_one_eq_mod]
  show IntKind.i64.wrap ((BitVec.ofInt 64 n &&& BitVec.ofInt 64 255).toNat : Nat) = n % 256
  rw [key, IntKind.wrap_i64]
  omega

theorem i64_and30 (n : Int) : bits .and .i64 n 1073741823 = n % 1073741824 := by
  have h30 : (BitVec.ofInt 64 1073741823).toNat = 2 ^ 30 - 1 := by decide
  have key : (BitVec.ofInt 64 n &&& BitVec.ofInt 64 1073741823).toNat = (n % ((2 ^ 64 : Nat) : Int)).toNat % 2 ^ 30 := by
    rw [BitVec.toNat_and, BitVec.toNat_ofInt, h30, Nat.and_two_pow_sub_one_eq_mod]
  show IntKind.i64.wrap ((BitVec.ofInt 64 n &&& BitVec.ofInt 64 1073741823).toNat : Nat) = n % 1073741824
  rw [key, IntKind.wrap_i64]
  omega

/-- The next number mixed. -/
def hNext (h : Int) : Int := wrap64 (wrap64 (h * 6364136223846793005) + 1442695040888963407)
/-- The byte that follows from it. -/
def xMix (h : Int) : Int := bits .xor .i64 (hNext h / 8589934592) (hNext h / 140737488355328) % 256
theorem xMix_bd (h : Int) : 0 ≤ xMix h ∧ xMix h ≤ 255 := by unfold xMix; omega

/-- What a draw's byte is, of the bytes zs (the first len of them), the place and the number mixed; and the place behind it. -/
def xByte (zs : List Int) (len : Nat) (i : Nat) (h : Int) : Int := if i < len then (xMix h + zs.getD i 0) % 256 else xMix h
def iNext (len i : Nat) : Nat := if i < len then i + 1 else i
theorem xByte_bd (zs : List Int) (len i : Nat) (h : Int) : 0 ≤ xByte zs len i h ∧ xByte zs len i h ≤ 255 := by
  have := xMix_bd h
  unfold xByte
  split <;> omega
theorem iNext_le {len i : Nat} (h : i ≤ len) : iNext len i ≤ len := by unfold iNext; split <;> omega

/-- The cursor's state: the place and the number mixed. -/
structure St where
  i : Nat
  h : Int

def next (len : Nat) (c : St) : St := ⟨iNext len c.i, hNext c.h⟩

/-- What l1Below draws (n above 0), and the state behind it. -/
def belowV (zs : List Int) (len : Nat) (c : St) (n : Int) : Int :=
  if n ≤ 256 then xByte zs len c.i c.h % n
  else (xByte zs len c.i c.h * 65536 + xByte zs len (next len c).i (next len c).h * 256 + xByte zs len (next len (next len c)).i (next len (next len c)).h) % n
def belowS (len : Nat) (c : St) (n : Int) : St := if n ≤ 256 then next len c else next len (next len (next len c))

theorem belowV_bd (zs : List Int) (len : Nat) (c : St) (n : Int) (hn : 0 < n) : 0 ≤ belowV zs len c n ∧ belowV zs len c n < n := by
  unfold belowV
  split
  · exact ⟨Int.emod_nonneg _ (by omega), Int.emod_lt_of_pos _ hn⟩
  · exact ⟨Int.emod_nonneg _ (by omega), Int.emod_lt_of_pos _ hn⟩

theorem next_le {len : Nat} {c : St} (h : c.i ≤ len) : (next len c).i ≤ len := iNext_le h
theorem belowS_le {len : Nat} {c : St} {n : Int} (h : c.i ≤ len) : (belowS len c n).i ≤ len := by
  unfold belowS
  split
  · exact next_le h
  · exact next_le (next_le (next_le h))

/-- The first state. -/
def mixF (h : Int) (l : List Int) : Int := l.foldl (fun h z => (h * 137 + z + 11) % 1073741824) h
def newS (zs : List Int) (len : Nat) : St := ⟨0, mixF (774774 + (len : Int)) ((zs.take len).take 4000)⟩

theorem mixF_snoc (h : Int) (l : List Int) (z : Int) : mixF h (l ++ [z]) = (mixF h l * 137 + z + 11) % 1073741824 := by simp [mixF]
theorem mixF_bd (h : Int) (l : List Int) (h0 : 0 ≤ h) (h1 : h < 1073741824) : 0 ≤ mixF h l ∧ mixF h l < 1073741824 := by
  induction l generalizing h with
  | nil => exact ⟨h0, h1⟩
  | cons z r ih => exact ih _ (Int.emod_nonneg _ (by omega)) (Int.emod_lt_of_pos _ (by omega))
theorem take_snocZ (zs : List Int) (k : Nat) (h : k < zs.length) : zs.take (k + 1) = zs.take k ++ [zs.getD k 0] := by
  rw [List.take_succ_eq_append_getElem h]
  simp [List.getD_eq_getElem?_getD, List.getElem?_eq_getElem h]

/-- What l1Int and l1Str pick of a list of n. -/
def pick (zs : List Int) (len : Nat) (c : St) (n : Nat) : Nat := (belowV zs len c n).toNat
theorem pick_lt (zs : List Int) (len : Nat) (c : St) (n : Nat) (h : 0 < n) : pick zs len c n < n := by
  have := belowV_bd zs len c n (by omega)
  unfold pick
  omega

end Go.Proofs.Ytkgdmlfdlkmojaa.M
