/-
  What the specification's and the program's HeadOf do.
-/
import Derived.Test.YtklhplhjnpdigaaHeads
import Derived.Test.YtklhplhjnpdigaaRet
import Derived.Test.YtklhplhjnpdigaaClone
namespace Go.Proofs.Ytklhplhjnpdigaa
open Go.RowKit M
set_option linter.unusedVariables false

theorem neStrB {x y : ByteArray} (h : ¬ x = y) : (x.toList == y.toList) = false := by
  rw [beq_eq_false_iff_ne]; exact fun e => h (strInj e)
theorem eqStrB {x y : ByteArray} (h : x = y) : (x.toList == y.toList) = true := by rw [h]; simp

theorem ret_two {x y : ByteArray} {a b : Bool} (h1 : x = y) (h2 : a = b) : Ending.returned (.tuple #[.string x, .bool a]) = .returned (.tuple #[.string y, .bool b]) := by rw [h1, h2]

set_option maxHeartbeats 400000 in
theorem specHeadOf_any (a : Option Addr) (hs : List Hd) (cap B : Nat) (name : ByteArray) (w : World) (h : Hds w B a hs) (hl : hs.length ≤ maxLen) :
    Calls Try.prog 11 #[.slice a hs.length cap, .string name] w fun e w' => e = .returned (.tuple #[.string (hdOf hs name).1, .bool (hdOf hs name).2]) ∧ w' = w := by
  unfold maxLen at hl
  go_enter Try.func11, Try.ntmps11
  go_wp2
  go_loop [6] (fun i => ∃ k : Nat, k ≤ hs.length ∧ i = .int .i64 k ∧ hdOf hs name = hdOf (hs.drop k) name) (fun i => hs.length - (intOf i).toNat)
  case atStart => exact ⟨0, Nat.zero_le _, rfl, rfl⟩
  case round =>
    obtain ⟨k, hk, rfl, ht⟩ := hrel
    have HT : Hid (hdOf hs name = hdOf (hs.drop k) name) := ht
    clear ht
    by_cases hlt : k < hs.length
    · obtain ⟨b, o, rfl, hb, hc⟩ := h (by omega)
      have hcx := (hc k hlt).1
      have hcy := (hc k hlt).2
      clear hc
      by_cases he : hs[k].1 = name
      · have e1 := eqStrB he
        have HE : Hid (hdOf hs name = (hs[k].2, true)) := hdOf_at hs k hlt name HT.out he
        clear he
        go_wp2
        go_ret2
        exact ⟨ret_two (by rw [HE.out]) (by rw [HE.out]), rfl⟩
      · have e1 := neStrB he
        have HE : Hid (hdOf hs name = hdOf (hs.drop (k + 1)) name) := hdOf_next hs k hlt name HT.out he
        clear he
        go_wp2
        go_round
        case rel => exact ⟨k + 1, by omega, by go_num, HE.out⟩
        case measure => simp [intOf]; omega
    · have HE : Hid (hdOf hs name = (ByteArray.empty, false)) := hdOf_end hs k hlt name HT.out
      go_wp2
      go_ret2
      exact ⟨ret_two (by rw [HE.out]; rfl) (by rw [HE.out]), rfl⟩

set_option maxHeartbeats 1000000 in
theorem headOf_any (a : Option Addr) (hs : List Hd) (cap B : Nat) (name : ByteArray) (w : World) (h : Hds w B a hs) (hB : B ≤ w.heap.size) (hl : hs.length ≤ maxLen) (hz : ∀ x ∈ hs, x.2.size ≤ 281474976710656) :
    Calls Try.prog 10 #[.slice a hs.length cap, .string name] w fun e w' => e = .returned (.tuple #[.string (hdOf hs name).1, .bool (hdOf hs name).2]) ∧ Below w.heap.size w w' := by
  unfold maxLen at hl
  go_enter Try.func10, Try.ntmps10
  go_wp2
  go_loopw [10] (fun i wr => ∃ k : Nat, k ≤ hs.length ∧ i = .int .i64 k ∧ hdOf hs name = hdOf (hs.drop k) name ∧ Below w.heap.size w wr) (fun i _ => hs.length - (intOf i).toNat)
  case atStart => exact ⟨0, Nat.zero_le _, rfl, rfl, Below.refl _ _⟩
  case round =>
    obtain ⟨k, hk, rfl, ht, hbe⟩ := hrel
    have HT : Hid (hdOf hs name = hdOf (hs.drop k) name) := ht
    clear ht
    by_cases hlt : k < hs.length
    · obtain ⟨b, o, rfl, hb, hc⟩ := (h.below hbe hB) (by omega)
      have hcx := (hc k hlt).1
      have hcy := (hc k hlt).2
      have hz2 := hz _ (List.getElem_mem hlt)
      clear hc
      by_cases he : hs[k].1 = name
      · have e1 := eqStrB he
        have HE : Hid (hdOf hs name = (hs[k].2, true)) := hdOf_at hs k hlt name HT.out he
        clear he
        go_wp2_with fail
        refine (clone_any hs[k].2 _ hz2).mono ?_
        rintro e w1 ⟨rfl, b1⟩
        have c1 := (hbe.alloc hbe.size (Obj.cells #[.string hs[k].1, .string hs[k].2] 51)).trans (b1.mono (by have := hbe.size; simp; omega))
        go_wp2
        go_ret2
        exact ⟨ret_two (by rw [HE.out]) (by rw [HE.out]), c1⟩
      · have e1 := neStrB he
        have HE : Hid (hdOf hs name = hdOf (hs.drop (k + 1)) name) := hdOf_next hs k hlt name HT.out he
        clear he
        go_wp2
        go_roundw
        case rel => exact ⟨k + 1, by omega, by go_num, HE.out, hbe.alloc hbe.size _⟩
        case measure => simp [intOf]; omega
    · have HE : Hid (hdOf hs name = (ByteArray.empty, false)) := hdOf_end hs k hlt name HT.out
      go_wp2
      go_ret2
      exact ⟨ret_two (by rw [HE.out]; rfl) (by rw [HE.out]), hbe⟩
end Go.Proofs.Ytklhplhjnpdigaa
