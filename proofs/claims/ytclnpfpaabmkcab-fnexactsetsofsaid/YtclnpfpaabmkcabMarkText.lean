/-
  What the laws' own markText does.
-/
import Derived.Test.YtclnpfpaabmkcabRows
import Derived.Test.YtclnpfpaabmkcabMathQuote
import Derived.Test.YtclnpfpaabmkcabMathMt
import Derived.WalkKit
import Derived.WalkSpells
import Derived.WalkLawsBesides
import Derived.Deep.Light
import Derived.Laws.IdiomStrings
import Derived.Laws.BytesArg
namespace Go.Proofs.Ytclnpfpaabmkcab
open Go.RowKit M
set_option linter.unusedVariables false

theorem digit_nat (m : Nat) : ((dg m).toNat : Int) = 48 + (m : Int) % 10 := by
  unfold dg
  rw [UInt8.toNat_ofNat']
  omega

theorem conv_mark (w : World) (c : UInt8) : (convert 22 9 (.slice (some ⟨w.heap.size, 0, none⟩) 1 1)).run Try.prog (w.alloc (.cells #[.int .u8 c.toNat] 5)) = .ok (.string (bytesOf [c])) (w.alloc (.cells #[.int .u8 c.toNat] 5)) := by
  refine run_convert_bytes_back _ 22 9 5 _ 1 [c] Try.underlying22 Try.underlying5 Try.underlying9 ?_
  intro j hj
  have hj0 : j = 0 := by simp at hj; exact hj
  subst hj0
  simp [Addr.add]

set_option maxRecDepth 100000 in
set_option maxHeartbeats 1000000 in
theorem markText_any (k : Nat) (h1 : 1 ≤ k) (h2 : k ≤ 100000000) (w : World) :
    Calls Try.prog 82 #[.int .i64 k] w fun e w' => e = .returned (.string (mt k)) ∧ Below w.heap.size w w' := by
  have hk0 : ¬ k = 0 := by omega
  go_enter Try.func82, Try.ntmps82
  go_wp2
  go_loopw [0, 3] (fun kv ov wr => ∃ (m : Nat) (acc : List UInt8), kv = .int .i64 m ∧ ov = .string (bytesOf acc) ∧ mtL k = mtL m ++ acc ∧ acc.length + m ≤ k ∧ Below w.heap.size w wr) (fun kv _ _ => (intOf kv).toNat)
  case atStart => exact ⟨k, [], rfl, rfl, by simp, by simp, Below.refl _ _⟩
  case round =>
    obtain ⟨m, acc, rfl, rfl, hm, hle, hbe⟩ := hrel
    have HM : Hid (mtL k = mtL m ++ acc) := hm
    clear hm
    have hz : (bytesOf acc).size ≤ 100000000 := by rw [bytesOf_size]; omega
    by_cases h0 : 0 < m
    · have HS : Hid (mtL m = mtL (m / 10) ++ [dg m]) := mtL_step m h0
      have hcv := conv_mark wr (dg m)
      rw [digit_nat] at hcv
      have h0' : (0 : Int) < m := by omega
      have hz1 : (bytesOf [dg m]).size = 1 := by rw [bytesOf_size]; rfl
      have HD : Hid ((m : Int) / 10 = ((m / 10 : Nat) : Int)) := by show (m : Int) / 10 = ((m / 10 : Nat) : Int); omega
      have hd10 : m / 10 < m := by omega
      go_wp2
      go_roundw
      case rel => exact ⟨m / 10, [dg m] ++ acc, by rw [HD.out], by rw [← bytesOf_append], by rw [HM.out, HS.out, List.append_assoc], by simp; omega, hbe.alloc hbe.size _⟩
      case measure => simp [intOf]; omega
    · have hm0 : m = 0 := by omega
      subst hm0
      have HM2 : Hid (mtL k = acc) := by show mtL k = acc; rw [HM.out, mtL_zero]; rfl
      go_wp2
      go_ret
      refine ⟨?_, hbe⟩
      unfold mt
      rw [HM2.out]
      show Ending.returned (.string (bytesOf [109] ++ bytesOf acc)) = _
      rw [bytesOf_append]; rfl
end Go.Proofs.Ytclnpfpaabmkcab
