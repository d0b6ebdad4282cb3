/-
  A byte of a code.
-/
import Derived.Test.YtccehdlgpbeijaaDoorDrawO
import Derived.Test.YtccehdlgpbeijaaDoorHide
namespace Go.Proofs.YtccehdlgpbeijaaDoor
open Go.RowKit M
set_option linter.unusedVariables false

set_option maxHeartbeats 1000000 in
theorem at_any {w : World} {B : Nat} {a : Option Addr} {len : Nat} {zs : List Int} (h : CodeIn w B a len zs) (cap i : Nat) (hi : i ≤ 100) :
    Calls Tryd.prog 12 #[.slice a len cap, .int .i64 i] w fun e w' => (∃ k : Nat, k ≤ 255 ∧ e = .returned (.int .i64 k)) ∧ w' = w := by
  have hlen := h.hlen
  by_cases hil : i < len
  · obtain ⟨b, off, rfl, hcell⟩ := h.code.at0 (by omega)
    have hb := h.code.bd i hil
    have hcx := hcell i hil
    have hi' : (i : Int) < (len : Int) := by omega
    clear h hcell
    generalize zs.getD i 0 = z at hb hcx
    obtain ⟨k, rfl⟩ : ∃ k : Nat, z = (k : Int) := ⟨z.toNat, by omega⟩
    have hk : k ≤ 255 := by omega
    have hwk : IntKind.i64.wrap (k : Int) = (k : Int) := by rw [IntKind.wrap_i64]; omega
    clear hb
    go_enter Tryd.func12, Tryd.ntmps12
    go_wp2
    go_ret
    exact ⟨⟨k, hk, by first | rfl | rw [hwk]⟩, rfl⟩
  · have hi' : ¬ ((i : Int) < (len : Int)) := by omega
    have hw1 : IntKind.i64.wrap ((i : Int) * 31) = (i : Int) * 31 := by rw [IntKind.wrap_i64]; omega
    have hw2 : IntKind.i64.wrap ((len : Int) * 7) = (len : Int) * 7 := by rw [IntKind.wrap_i64]; omega
    have hw3 : IntKind.i64.wrap ((i : Int) * 31 + (len : Int) * 7) = (i : Int) * 31 + (len : Int) * 7 := by rw [IntKind.wrap_i64]; omega
    obtain ⟨k, hk⟩ : ∃ k : Nat, k = (i * 31 + len * 7) % 256 := ⟨_, rfl⟩
    have hk255 : k ≤ 255 := by omega
    have hk' : ((i : Int) * 31 + (len : Int) * 7).tmod 256 = (k : Int) := by rw [Int.tmod_eq_emod_of_nonneg (by omega)]; omega
    clear h hk
    go_enter Tryd.func12, Tryd.ntmps12
    go_wp2
    go_ret
    exact ⟨⟨k, hk255, by first | rfl | rw [hk']⟩, rfl⟩
end Go.Proofs.YtccehdlgpbeijaaDoor
