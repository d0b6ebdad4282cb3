/-
  Whether two slices of bytes hold the same, by the laws' own help.
-/
import Derived.Test.YtkhnkockdfmkgabByts
import Derived.Test.YtkhnkockdfmkgabRet
namespace Go.Proofs.Ytkhnkockdfmkgab
open Go.RowKit
set_option linter.unusedVariables false

def sameY (l m : List UInt8) : Bool := decide (l = m)
theorem sameY_refl (l : List UInt8) : sameY l l = true := by simp [sameY]
theorem sameY_len {l m : List UInt8} (h : ¬ l.length = m.length) : sameY l m = false := by
  simp only [sameY, decide_eq_false_iff_not]; intro e; exact h (by rw [e])
theorem sameY_not {l m : List UInt8} (k : Nat) (h1 : k < l.length) (h2 : k < m.length) (h : ¬ l[k] = m[k]) : sameY l m = false := by
  simp only [sameY, decide_eq_false_iff_not]; intro e; subst e; exact h rfl
theorem sameY_all {l m : List UInt8} (hl : l.length = m.length) (k : Nat) (hk : ¬ k < l.length) (h : l.take k = m.take k) : sameY l m = true := by
  rw [List.take_of_length_le (by omega), List.take_of_length_le (by omega)] at h
  simp [sameY, h]
theorem take_sameY {l m : List UInt8} (k : Nat) (h1 : k < l.length) (h2 : k < m.length) (h0 : l.take k = m.take k) (h : l[k] = m[k]) : l.take (k + 1) = m.take (k + 1) := by
  rw [List.take_succ_eq_append_getElem h1, List.take_succ_eq_append_getElem h2, h0, h]

set_option maxHeartbeats 400000 in
theorem eqByteS_any (a b : Option Addr) (l m : List UInt8) (cap cap' B C : Nat) (w : World) (h : Byt w B a l) (h' : Byt w C b m) (hl : l.length ≤ maxLen) (hl' : m.length ≤ maxLen) :
    Calls Try.prog 8 #[.slice a l.length cap, .slice b m.length cap'] w fun e w' => e = .returned (.bool (sameY l m)) ∧ ∀ D, Below D w w' := by
  unfold maxLen at hl hl'
  by_cases hlen : l.length = m.length
  · have HL : Hid (l.length = m.length) := hlen
    go_enter Try.func8, Try.ntmps8
    rw [← hlen]
    clear hlen
    go_wp2
    go_loopw [5] (fun i wr => ∃ k n : Nat, k ≤ l.length ∧ i = .int .i64 k ∧ l.take k = m.take k ∧ wr = w.drewN n) (fun i _ => l.length - (intOf i).toNat)
    case atStart => exact ⟨0, 0, Nat.zero_le _, rfl, rfl, rfl⟩
    case round =>
      obtain ⟨k, n, hk, rfl, ht, rfl⟩ := hrel
      have HT : Hid (l.take k = m.take k) := ht
      clear ht
      by_cases hlt : k < l.length
      · have hlt' : k < m.length := by have := HL.out; omega
        obtain ⟨b1, o1, rfl, hb1, hc1⟩ := h (by omega)
        obtain ⟨b2, o2, rfl, hb2, hc2⟩ := h' (by have := HL.out; omega)
        have hcx := hc1 k hlt
        have hcy := hc2 k hlt'
        by_cases he : l[k] = m[k]
        · have e1 : (((l[k]).toNat : Int) != (m[k]).toNat) = false := by rw [he]; simp
          have HE : Hid (l[k] = m[k]) := he
          clear he
          go_wp2
          go_quiet (fail)
          go_wp2
          go_roundw
          case rel => exact ⟨k + 1, n + nq, by omega, by go_num, take_sameY k hlt hlt' HT.out HE.out, rfl⟩
          case measure => simp [intOf]; omega
        · have e1 : (((l[k]).toNat : Int) != (m[k]).toNat) = true := by
            rw [bne_iff_ne]; intro e; exact he (UInt8.toNat_inj.1 (by omega))
          have HE : Hid (sameY l m = false) := sameY_not k hlt hlt' he
          clear he
          go_wp2
          go_quiet (fail)
          go_wp2
          go_ret
          exact ⟨ret_bool HE.out.symm, fun D => below_drewN (below_drewN (Below.refl _ _) _) _⟩
      · go_wp2
        go_ret
        exact ⟨ret_bool (sameY_all HL.out k hlt HT.out).symm, fun D => below_drewN (Below.refl _ _) _⟩
  · have HS := sameY_len hlen
    go_enter Try.func8, Try.ntmps8
    go_wp2
    go_ret
    exact ⟨ret_bool HS.symm, fun D => Below.refl _ _⟩
end Go.Proofs.Ytkhnkockdfmkgab
