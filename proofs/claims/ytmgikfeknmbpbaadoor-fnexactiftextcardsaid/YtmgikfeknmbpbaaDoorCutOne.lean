/-
  What strings.Cut does at one byte.
-/
import Derived.Test.YtmgikfeknmbpbaaDoorAt7
import Derived.Test.YtmgikfeknmbpbaaDoorHide
import Derived.Test.YtmgikfeknmbpbaaDoorShelf
import Derived.WalkKit
import Derived.WalkSpells
import Derived.WalkLawsBesides
import Derived.Deep.Light
import Derived.Deep.QuietTactic
import Derived.BigQuiet
namespace Go.Proofs.YtmgikfeknmbpbaaDoor
open Go.RowKit M
set_option linter.unusedVariables false

theorem bytes_of (s : ByteArray) (l : List UInt8) (h : s.data.toList = l) : s = bytesOf l := by
  apply ByteArray.ext; apply Array.ext'; rw [h]; rfl
theorem below_drewC (w : World) (n : Nat) : Below w.heap.size w (w.drewN n) := ⟨rfl, rfl, rfl, Nat.le_refl _, fun _ _ => rfl⟩
theorem ret_three {a a' b b' : ByteArray} {c c' : Bool} (h1 : a = a') (h2 : b = b') (h3 : c = c') : Ending.returned (.tuple #[.string a, .string b, .bool c]) = .returned (.tuple #[.string a', .string b', .bool c']) := by rw [h1, h2, h3]

set_option maxHeartbeats 1000000 in
theorem cutLite_one (s : ByteArray) (c : UInt8) (w : World) (hs : s.size ≤ maxLen) :
    Calls Tryd.prog 72 #[.string s, .string ⟨#[c]⟩] w fun e w' => e = .returned (.tuple #[.string (bytesOf (upTo c s.data.toList)), .string (bytesOf (fromB c s.data.toList).tail), .bool (!(fromB c s.data.toList).isEmpty)]) ∧ Below w.heap.size w w' := by
  unfold maxLen at hs
  have el : s.data.toList.length = s.size := Array.length_toList
  have HI := hide (fun W : World => Tryd.stringslite_Index_one s c W)
  have hix : Lib.indexByte s.data.toList c = if fromB c s.data.toList = [] then -1 else ((upTo c s.data.toList).length : Int) := indexByte_upTo _ c
  have hup := upTo_end c s.data.toList
  by_cases hf : fromB c s.data.toList = []
  · rw [if_pos hf] at hix
    rw [hix] at HI
    have e := upTo_from c s.data.toList
    rw [hf, List.append_nil] at e
    have HR := hide (ret_three (bytes_of s _ e.symm) (show (⟨#[]⟩ : ByteArray) = bytesOf (fromB c s.data.toList).tail by rw [hf]; rfl) (show false = !(fromB c s.data.toList).isEmpty by rw [hf]; rfl))
    clear hix hf e hup el
    go_enter Tryd.func72, Tryd.ntmps72
    go_wp2_with fail
    refine (HI.out w).mono ?_
    rintro e w1 ⟨rfl, hw1⟩
    obtain rfl := hw1.symm
    go_wp2
    go_ret3
    exact ⟨HR.out, Below.refl _ _⟩
  · rw [if_neg hf] at hix
    rw [hix] at HI
    have hlt : (upTo c s.data.toList).length < s.size := by
      have h1 := hup.1
      have h2 : (upTo c s.data.toList).length ≠ s.data.toList.length := fun e => hf (hup.2.1 e)
      omega
    have x1 := extract_upTo s c 0
    have x2 := drop_upTo s c 0
    rw [List.drop_zero, Nat.zero_add] at x1 x2
    have HR := hide (ret_three (bytes_of _ _ x1) (bytes_of _ _ ((extract_rest s ((upTo c s.data.toList).length + 1)).trans x2)) (show true = !(fromB c s.data.toList).isEmpty by cases hq : fromB c s.data.toList with | nil => exact absurd hq hf | cons _ _ => rfl))
    obtain ⟨n, hn⟩ : ∃ n, (upTo c s.data.toList).length = n := ⟨_, rfl⟩
    rw [hn] at HI hlt HR
    have hn1 : (n : Int) + 1 ≤ s.size := by omega
    have hn2 : (n : Int) ≤ s.size := by omega
    have hw : IntKind.i64.wrap ((n : Int) + 1) = (n : Int) + 1 := by rw [IntKind.wrap_i64]; omega
    clear hix hf hup el x1 x2 hn
    go_enter Tryd.func72, Tryd.ntmps72
    go_wp2_with fail
    refine (HI.out w).mono ?_
    rintro e w1 ⟨rfl, hw1⟩
    obtain rfl := hw1.symm
    go_wp2
    go_quiet (fail)
    go_wp2
    go_ret3
    exact ⟨HR.out, below_drewC w nq⟩

set_option maxHeartbeats 1000000 in
theorem cut_any (s : ByteArray) (c : UInt8) (w : World) (hs : s.size ≤ maxLen) :
    Calls Tryd.prog 63 #[.string s, .string ⟨#[c]⟩] w fun e w' => e = .returned (.tuple #[.string (bytesOf (upTo c s.data.toList)), .string (bytesOf (fromB c s.data.toList).tail), .bool (!(fromB c s.data.toList).isEmpty)]) ∧ Below w.heap.size w w' := by
  go_enter Tryd.func63, Tryd.ntmps63
  go_wp2_with fail
  refine (cutLite_one s c w hs).mono ?_
  rintro e w1 ⟨rfl, b1⟩
  go_wp2
  go_ret3
  exact ⟨rfl, b1⟩
end Go.Proofs.YtmgikfeknmbpbaaDoor
