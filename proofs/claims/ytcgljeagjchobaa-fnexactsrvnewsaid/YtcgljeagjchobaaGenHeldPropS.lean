/-
  A help of the laws, by program (tools/gen_help.py): Held of Prop.
-/
import Derived.Test.YtcgljeagjchobaaRows
import Derived.Test.YtcgljeagjchobaaGenSrv
import Derived.Test.YtcgljeagjchobaaGenBox
import Derived.Test.YtcgljeagjchobaaMarkText
import Derived.WalkKit
import Derived.WalkSpells
import Derived.WalkLawsBesides
import Derived.Deep.Light
import Derived.Deep.QuietTactic
import Derived.Deep.RegionHeld3
namespace Go.Proofs.Ytcgljeagjchobaa
open Go.RowKit M
set_option linter.unusedVariables false

set_option maxRecDepth 100000 in
set_option maxHeartbeats 4000000 in
theorem heldPropS_gen (l : List Pp) (k0 : Nat) (v : Value) (B : Nat) (w : World) (h : View w B v (mkF k0 (.l (l.map dPp)))) (hB : B ≤ w.heap.size) (hk1 : 1 ≤ k0) (hk : k0 + cntRs (l.map dPp) ≤ 90000000) :
    Calls Try.prog 43 #[v, .int .i64 k0] w fun e w' => e = .returned (.int .i64 ((k0 + cntRs (l.map dPp) : Nat) : Int)) ∧ Below w.heap.size w w' := by
  obtain ⟨a, cap, rfl, hl, hm, hat⟩ := h.marked 3 (fun _ => rfl)
  have HAT := hide hat
  have HKB := hide hk
  have hn : l.length ≤ 90000000 := by have := cnt_lenF dPp (fun x => by simp [dPp, cntR, cntF]; try omega) l; omega
  have hka := kAtF_all dPp k0 l
  have HKA := hide hka
  have hk00 := kAtF_zero dPp k0 l
  clear h hat hl hm hk hka
  go_enter Try.func43, Try.ntmps43
  go_wp2
  go_loopw [1, 5] (fun kv i wr => ∃ j K : Nat, j ≤ l.length ∧ i = .int .i64 j ∧ kv = .int .i64 K ∧ Hid (K = kAtF dPp k0 l j) ∧ Below w.heap.size w wr) (fun _ i _ => l.length - (intOf i).toNat)
  case atStart => exact ⟨0, k0, Nat.zero_le _, rfl, rfl, hk00.symm, Below.refl _ _⟩
  case round =>
    obtain ⟨j, K, hj, rfl, rfl, hK, hbe⟩ := hrel
    by_cases hlt : j < l.length
    · obtain ⟨b, o, C, rfl, hb, hc⟩ := HAT.out (by omega)
      have hcj := hc j hlt
      have hN := kAtF_next dPp k0 l j hlt
      have hle := (kAtF_le dPp k0 l (j + 1)).2
      have hle0 := (kAtF_le dPp k0 l j).1
      have hbw : b < w.heap.size := Nat.lt_of_lt_of_le hb hB
      have hi0 : (0 : Int) ≤ (j : Int) := by omega
      have hi1 : (j : Int) < (l.length : Int) := by omega
      obtain ⟨x, hx⟩ : ∃ x, l[j] = x := ⟨_, rfl⟩
      rw [hx] at hcj hN
      rw [hN] at hle
      rw [← hK.out] at hcj hN hle hle0
      clear hx hc
      have hsum : cntR (dPp x) = 1 + 1 + 1 := by simp [dPp, cntR, cntF]
      rw [hsum] at hN hle
      have hle2 := Nat.le_trans hle HKB.out
      have HNX := hide hN
      have hK1 : 1 ≤ K := Nat.le_trans hk1 hle0
      clear hle hle0 hsum hN
      have q0 := hcj 0 (.c (.string (mt (K)))) rfl
      have u0 : w.cell? ⟨b, o + j * 3, none⟩ = some (.string (mt (K))) := by
        have e := q0.2.inv
        have c := q0.1
        simp only [Nat.add_zero] at c
        rw [c, e]
      clear q0
      have q1 := hcj 1 (.c (.string (mt (K + 1)))) rfl
      have u1 : w.cell? ⟨b, o + j * 3 + 1, none⟩ = some (.string (mt (K + 1))) := by
        have e := q1.2.inv
        have c := q1.1
        rw [c, e]
      clear q1
      have q2 := hcj 2 (.c (.string (mt (K + 1 + 1)))) rfl
      have u2 : w.cell? ⟨b, o + j * 3 + 2, none⟩ = some (.string (mt (K + 2))) := by
        have e := q2.2.inv
        have c := q2.1
        rw [c, e]
      clear q2
      clear hcj
      have c0 := (hbe.cell (p := ⟨b, o + j * 3, none⟩) hbw).trans u0
      have HQ0 := hide (show ∀ W, _ from fun W => markText_any (K) (by omega) (by omega) W)
      have hz0 : b < wr.heap.size := Nat.lt_of_lt_of_le hbw hbe.size
      go_wp2
      go_region_held3 (fun w' => w'.cell? ⟨b, o + j * 3, none⟩ = some (.string (mt (K)))) (first | go_keep | (exact (b1.cell (p := ⟨b, o + j * 3, none⟩) (by first | omega | (simp; omega))).trans (by assumption))) ((go_at_call 40; refine (HQ0.out _).mono ?_; rintro e w1 ⟨rfl, b1⟩))
      all_goals
        have bb1 : Below wr.heap.size wr w1 := ((Below.refl wr.heap.size wr).drew).trans b1
        have kk1 := hbe.trans (bb1.mono hbe.size)
        clear b1 bb1 HQ0 hz0 c0
        have c1 := (kk1.cell (p := ⟨b, o + j * 3 + 1, none⟩) hbw).trans u1
        have HQ1 := hide (show ∀ W, _ from fun W => markText_any (K + 1) (by omega) (by omega) W)
        rw [show ((K + 1 : Nat) : Int) = (K : Int) + 1 from by omega] at HQ1
        have hz1 : b < w1.heap.size := Nat.lt_of_lt_of_le hbw kk1.size
        go_wp2
        go_region_held3 (fun w' => w'.cell? ⟨b, o + j * 3 + 1, none⟩ = some (.string (mt (K + 1)))) (first | go_keep | (exact (b2.cell (p := ⟨b, o + j * 3 + 1, none⟩) (by first | omega | (simp; omega))).trans (by assumption))) ((go_at_call 40; refine (HQ1.out _).mono ?_; rintro e w2 ⟨rfl, b2⟩))
        all_goals
          have bb2 : Below w1.heap.size w1 w2 := ((Below.refl w1.heap.size w1).drew).trans b2
          have kk2 := kk1.trans (bb2.mono kk1.size)
          clear b2 bb2 HQ1 hz1 c1
          have c2 := (kk2.cell (p := ⟨b, o + j * 3 + 2, none⟩) hbw).trans u2
          have HQ2 := hide (show ∀ W, _ from fun W => markText_any (K + 2) (by omega) (by omega) W)
          rw [show ((K + 2 : Nat) : Int) = (K : Int) + 1 + 1 from by omega] at HQ2
          have hz2 : b < w2.heap.size := Nat.lt_of_lt_of_le hbw kk2.size
          go_wp2
          go_region_held3 (fun w' => w'.cell? ⟨b, o + j * 3 + 2, none⟩ = some (.string (mt (K + 2)))) (first | go_keep | (exact (b3.cell (p := ⟨b, o + j * 3 + 2, none⟩) (by first | omega | (simp; omega))).trans (by assumption))) ((go_at_call 40; refine (HQ2.out _).mono ?_; rintro e w3 ⟨rfl, b3⟩))
          all_goals
            have bb3 : Below w2.heap.size w2 w3 := ((Below.refl w2.heap.size w2).drew).trans b3
            have kk3 := kk2.trans (bb3.mono kk2.size)
            clear b3 bb3 HQ2 hz2 c2
            have HT := hide kk3
            clear kk3
            go_wp2
            go_roundw
            case rel => exact ⟨j + 1, K + 3, by omega, by go_num, by first | go_num | (congr 1; omega), (by have := HNX.out; show _ = _; omega), HT.out⟩
            case measure => simp [intOf]; omega
    · have hjn : j = l.length := by omega
      subst hjn
      have hKK := hK.out
      rw [HKA.out] at hKK
      subst hKK
      go_wp2
      go_ret
      exact ⟨rfl, hbe⟩
end Go.Proofs.Ytcgljeagjchobaa
