/-
  The draw of bytes for the end of a head; a byte of a code.
-/
import Derived.Test.YtkhnkockdfmkgaaGreatDoorBig
namespace Go.Proofs.YtkhnkockdfmkgaaGreatDoor
open Go.RowKit M
set_option linter.unusedVariables false

set_option maxRecDepth 100000 in
set_option maxHeartbeats 4000000 in
theorem drawHeadEnd_any {w : World} {B : Nat} {a : Option Addr} {len : Nat} {zs : List Int} (h : CodeIn w B a len zs) (hB : B ≤ w.heap.size) (cap : Nat) :
    Calls Tryz.prog 19 #[.slice a len cap] w fun e w' => (∃ v, e = .returned v ∧ RetY w' w.heap.size 8000 v) ∧ Below w.heap.size w w' := by
  have HN := hide (newDX (h.below (Below.refl _ _)) cap)
  clear h
  go_enter Tryz.func19, Tryz.ntmps19
  go_wp2_with fail
  refine HN.out.mono ?_
  rintro e w1 ⟨rfl, hd1, b1⟩
  have D1 := hide hd1
  have hlt := hd1.lt
  have B1 := hide b1
  clear HN hd1 b1
  go_wp2_with fail
  refine (l1OnceX D1.out 6 (by decide) (by decide)).mono ?_
  rintro e w2 ⟨⟨b, rfl⟩, hd2, hg2⟩
  have hz2 := hg2.size
  have D2 := hide hd2
  have B2 := hide (dc_below B1.out hg2)
  clear hd2 hg2 D1 B1
  cases b
  · go_wp2_with fail
    refine (l3Bytes_any D2.out).mono ?_
    rintro e w3 ⟨⟨v, rfl, lb, hl, hy⟩, hd3, hg3⟩
    obtain ⟨gb, cb, rfl, hy'⟩ := hy.slice
    have HF : Hid ((∃ v, Ending.returned (.slice (some ⟨gb, 0, none⟩) lb.length cb) = .returned v ∧ RetY w3 w.heap.size 8000 v) ∧ Below w.heap.size w w3) := hide ⟨⟨_, rfl, _, by omega, hy'.base (by omega)⟩, dc_below B2.out hg3⟩
    clear hy hy' hd3 hg3 D2 B2
    go_wp2
    go_ret
    exact HF.out
  · go_wp2_with fail
    refine (l1BelowX D2.out 5 (by decide) (by decide)).mono ?_
    rintro e w3 ⟨⟨q, rfl, hq⟩, hd3, hg3⟩
    have hz3 := hg3.size
    obtain ⟨n7, hn7⟩ : ∃ n7 : Nat, n7 = 394 + q := ⟨_, rfl⟩
    have hnb : n7 ≤ 500 := by omega
    have hw7 : IntKind.i64.wrap (394 + (q : Int)) = (n7 : Int) := by rw [IntKind.wrap_i64]; omega
    have hmk := run_make_row' (P := Tryz.prog) 22 5 (.int .u8 0) 1 Tryz.underlying22 info_u8b rfl .i64 .i64 n7 (by omega) (by omega) w3
    have B3 := hide (dc_below B2.out hg3)
    have O4 := hide (OwnY.zeros w3 n7 (by omega))
    obtain ⟨w4, hw4⟩ : ∃ w4, w3.alloc (.cells (madeCells #[.int .u8 0] n7) 5) = w4 := ⟨_, rfl⟩
    have B4 := hide (B3.out.alloc B3.out.size (.cells (madeCells #[.int .u8 0] n7) 5))
    have hz4 : w4.heap.size = w3.heap.size + 1 := by rw [← hw4]; simp
    have hb3 := B3.out.size
    rw [hw4] at O4 hmk B4
    have HZ4 := hide hz4
    have hz4' : w3.heap.size ≤ w4.heap.size := by omega
    clear hz4 hd3 hg3 D2 B2 hn7 B3
    go_wp2_with (at_builtin; refine wp_append_byts rfl _ _ rfl w3.heap.size _ (List.replicate n7 0) rfl (O4.out.alloc _) w4.heap.size [13, 10, 13, 10] 4 rfl (fun j hj => ?_) (by simp; omega) (by simp; omega) ?_)
    · match j, hj with
      | 0, _ => simp
      | 1, _ => simp
      | 2, _ => simp
      | 3, _ => simp
      | j + 4, hj => exact absurd hj (by simp)
    · intro v' w7 o7 gr7 _
      have hll : (List.replicate n7 (0 : UInt8) ++ [13, 10, 13, 10]).length ≤ 8000 := by simp; omega
      obtain ⟨l7, hl7⟩ : ∃ l7, List.replicate n7 (0 : UInt8) ++ [13, 10, 13, 10] = l7 := ⟨_, rfl⟩
      rw [hl7] at o7 hll
      clear hl7
      obtain ⟨g7, c7, rfl, o7'⟩ := o7.slice
      have B7 : Below w.heap.size w w7 := (B4.out.alloc (by omega) _).trans ⟨gr7.os, gr7.tape, gr7.output, gr7.size, fun k hk => gr7.block k (by simp; omega) (by simp [Value.ownBlock]; omega)⟩
      have HF : Hid ((∃ v, Ending.returned (.slice (some ⟨g7, 0, none⟩) l7.length c7) = .returned v ∧ RetY w7 w.heap.size 8000 v) ∧ Below w.heap.size w w7) := hide ⟨⟨_, rfl, _, hll, o7'.base (by omega)⟩, B7⟩
      clear o7 o7' gr7 B7 B4 O4
      go_wp2
      go_ret
      exact HF.out

set_option maxHeartbeats 1000000 in
theorem at_any {w : World} {B : Nat} {a : Option Addr} {len : Nat} {zs : List Int} (h : CodeIn w B a len zs) (cap i : Nat) (hi : i ≤ 100) :
    Calls Tryz.prog 17 #[.slice a len cap, .int .i64 i] w fun e w' => (∃ k : Nat, k ≤ 255 ∧ e = .returned (.int .i64 k)) ∧ w' = w := by
  have hlen := h.hlen
  by_cases hil : i < len
  · obtain ⟨b, off, rfl, hcell⟩ := h.code.at0 (by omega)
    have hb := h.code.bd i hil
    have hcx := hcell i hil
    have hi' : (i : Int) < (len : Int) := by omega
    clear h hcell
    generalize zs.getD i 0 = z at hb hcx
    obtain ⟨k, rfl⟩ : ∃ k : Nat, z = (k : Int) := ⟨z.toNat, by omega⟩
    have hk : k ≤ 255 := by omega
    have hwk : IntKind.i64.wrap (k : Int) = (k : Int) := by rw [IntKind.wrap_i64]; omega
    clear hb
    go_enter Tryz.func17, Tryz.ntmps17
    go_wp2
    go_ret
    exact ⟨⟨k, hk, by first | rfl | rw [hwk]⟩, rfl⟩
  · have hi' : ¬ ((i : Int) < (len : Int)) := by omega
    have hw1 : IntKind.i64.wrap ((i : Int) * 31) = (i : Int) * 31 := by rw [IntKind.wrap_i64]; omega
    have hw2 : IntKind.i64.wrap ((len : Int) * 7) = (len : Int) * 7 := by rw [IntKind.wrap_i64]; omega
    have hw3 : IntKind.i64.wrap ((i : Int) * 31 + (len : Int) * 7) = (i : Int) * 31 + (len : Int) * 7 := by rw [IntKind.wrap_i64]; omega
    obtain ⟨k, hk⟩ : ∃ k : Nat, k = (i * 31 + len * 7) % 256 := ⟨_, rfl⟩
    have hk255 : k ≤ 255 := by omega
    have hk' : ((i : Int) * 31 + (len : Int) * 7).tmod 256 = (k : Int) := by rw [Int.tmod_eq_emod_of_nonneg (by omega)]; omega
    clear h hk
    go_enter Tryz.func17, Tryz.ntmps17
    go_wp2
    go_ret
    exact ⟨⟨k, hk255, by first | rfl | rw [hk']⟩, rfl⟩
end Go.Proofs.YtkhnkockdfmkgaaGreatDoor
