/-
  Whether two lists of locks are the same, by the laws' own helps.
-/
import Derived.Test.YtackgogcpdbnlabEqLock
import Derived.Test.YtackgogcpdbnlabLocksOkI
import Derived.Deep.RegionHeld3
namespace Go.Proofs.Ytackgogcpdbnlab
open Go.RowKit M
set_option linter.unusedVariables false

theorem keepL10 {W w1 : World} {b1 b2 o1 o2 : Nat} {r s : Lk} {pa : Option Addr} {pc : Nat} {pa' : Option Addr} {pc' : Nat} (hb : Below W.heap.size W w1) (h1 : b1 < W.heap.size) (h2 : b2 < W.heap.size)
    (h : LkAt W b1 o1 r pa pc ∧ LkAt W b2 o2 s pa' pc') : LkAt w1 b1 o1 r pa pc ∧ LkAt w1 b2 o2 s pa' pc' :=
  ⟨h.1.of (fun o' => (bcellL hb).1 b1 o' h1), h.2.of (fun o' => (bcellL hb).1 b2 o' h2)⟩

set_option maxHeartbeats 2000000 in
theorem eqLockS_any (a b : Option Addr) (ss tt : List Lk) (cap cap' B C : Nat) (w : World) (h : Lks w B a ss) (h' : Lks w C b tt) (hB : B ≤ w.heap.size) (hC : C ≤ w.heap.size) (hl : ss.length ≤ maxLen) (hl' : tt.length ≤ maxLen) :
    Calls Try.prog 14 #[.slice a ss.length cap, .slice b tt.length cap'] w fun e w' => e = .returned (.bool (sameK ss tt)) ∧ Below w.heap.size w w' := by
  unfold maxLen at hl hl'
  by_cases hlen : ss.length = tt.length
  · have HL : Hid (ss.length = tt.length) := hlen
    go_enter Try.func14, Try.ntmps14
    rw [← hlen]
    clear hlen
    go_wp2
    go_loopw [5] (fun i wr => ∃ k : Nat, k ≤ ss.length ∧ i = .int .i64 k ∧ ss.take k = tt.take k ∧ Below w.heap.size w wr) (fun i _ => ss.length - (intOf i).toNat)
    case atStart => exact ⟨0, Nat.zero_le _, rfl, rfl, Below.refl _ _⟩
    case round =>
      obtain ⟨k, hk, rfl, ht, hbe⟩ := hrel
      have HT : Hid (ss.take k = tt.take k) := ht
      clear ht
      by_cases hlt : k < ss.length
      · have hlt' : k < tt.length := by have := HL.out; omega
        obtain ⟨b1, o1, rfl, hb1, hc1⟩ := (h.below hbe hB) (by omega)
        obtain ⟨b2, o2, rfl, hb2, hc2⟩ := (h'.below hbe hC) (by have := HL.out; omega)
        obtain ⟨pa, pc, ha1, hi1⟩ := hc1 k hlt
        obtain ⟨pa', pc', ha2, hi2⟩ := hc2 k hlt'
        clear hc1 hc2
        have hl1 : b1 < wr.drew.heap.size := by have := hbe.size; show b1 < wr.heap.size; omega
        have hl2 : b2 < wr.drew.heap.size := by have := hbe.size; show b2 < wr.heap.size; omega
        have hbd : Below w.heap.size w wr.drew := below_drewL hbe
        have hq := eqLock_any ss[k] tt[k] pa pc pa' pc' B C wr.drew hi1.drew hi2.drew (Nat.le_trans hB hbd.size) (Nat.le_trans hC hbd.size)
        have HX := hide (And.intro (ha1.of (w' := wr.drew) (fun _ => rfl)) (ha2.of (w' := wr.drew) (fun _ => rfl)))
        obtain ⟨hx0, hx1, hx2, hx3, hx4⟩ := ha1
        obtain ⟨hy0, hy1, hy2, hy3, hy4⟩ := ha2
        obtain ⟨z, hz⟩ : ∃ z, decide (ss[k] = tt[k]) = z := ⟨_, rfl⟩
        rw [hz] at hq
        have HZ := hide hz
        clear hz hi1 hi2
        cases z
        · go_wp2
          go_region_held3 (fun W => (W.cell? ⟨b1, o1 + k * 5, none⟩ = some (.int .i64 ss[k].tk) ∧ W.cell? ⟨b1, o1 + k * 5 + 1, none⟩ = some (.slice pa ss[k].pa.length pc) ∧ W.cell? ⟨b1, o1 + k * 5 + 2, none⟩ = some (.bool ss[k].de) ∧ W.cell? ⟨b1, o1 + k * 5 + 3, none⟩ = some (.bool ss[k].sh) ∧ W.cell? ⟨b1, o1 + k * 5 + 4, none⟩ = some (.int .i64 ss[k].un)) ∧ (W.cell? ⟨b2, o2 + k * 5, none⟩ = some (.int .i64 tt[k].tk) ∧ W.cell? ⟨b2, o2 + k * 5 + 1, none⟩ = some (.slice pa' tt[k].pa.length pc') ∧ W.cell? ⟨b2, o2 + k * 5 + 2, none⟩ = some (.bool tt[k].de) ∧ W.cell? ⟨b2, o2 + k * 5 + 3, none⟩ = some (.bool tt[k].sh) ∧ W.cell? ⟨b2, o2 + k * 5 + 4, none⟩ = some (.int .i64 tt[k].un))) (first | exact HX.out | exact HX2.out) ((go_at_call 15; refine hq.mono ?_; rintro e w1 ⟨rfl, hb3⟩; have HX2 := hide (keepL10 hb3 hl1 hl2 HX.out)))
          all_goals
            have c1 := hbd.trans (hb3.mono hbd.size)
            clear hq hb3
            go_wp2
            go_ret
            exact ⟨ret_bool (sameK_not k hlt hlt' (of_decide_eq_false HZ.out)).symm, c1⟩
        · go_wp2
          go_region_held3 (fun W => (W.cell? ⟨b1, o1 + k * 5, none⟩ = some (.int .i64 ss[k].tk) ∧ W.cell? ⟨b1, o1 + k * 5 + 1, none⟩ = some (.slice pa ss[k].pa.length pc) ∧ W.cell? ⟨b1, o1 + k * 5 + 2, none⟩ = some (.bool ss[k].de) ∧ W.cell? ⟨b1, o1 + k * 5 + 3, none⟩ = some (.bool ss[k].sh) ∧ W.cell? ⟨b1, o1 + k * 5 + 4, none⟩ = some (.int .i64 ss[k].un)) ∧ (W.cell? ⟨b2, o2 + k * 5, none⟩ = some (.int .i64 tt[k].tk) ∧ W.cell? ⟨b2, o2 + k * 5 + 1, none⟩ = some (.slice pa' tt[k].pa.length pc') ∧ W.cell? ⟨b2, o2 + k * 5 + 2, none⟩ = some (.bool tt[k].de) ∧ W.cell? ⟨b2, o2 + k * 5 + 3, none⟩ = some (.bool tt[k].sh) ∧ W.cell? ⟨b2, o2 + k * 5 + 4, none⟩ = some (.int .i64 tt[k].un))) (first | exact HX.out | exact HX2.out) ((go_at_call 15; refine hq.mono ?_; rintro e w1 ⟨rfl, hb3⟩; have HX2 := hide (keepL10 hb3 hl1 hl2 HX.out)))
          all_goals
            have c1 := hbd.trans (hb3.mono hbd.size)
            clear hq hb3
            go_wp2
            go_roundw
            case rel => exact ⟨k + 1, by omega, by go_num, take_sameK k hlt hlt' HT.out (of_decide_eq_true HZ.out), c1⟩
            case measure => simp [intOf]; omega
      · go_wp2
        go_ret
        exact ⟨ret_bool (sameK_all HL.out k hlt HT.out).symm, hbe⟩
  · have HS := sameK_len hlen
    go_enter Try.func14, Try.ntmps14
    go_wp2
    go_ret
    exact ⟨ret_bool HS.symm, Below.refl _ _⟩
end Go.Proofs.Ytackgogcpdbnlab
