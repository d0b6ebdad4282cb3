/-
  A help of the laws, by program (tools/gen_help.py): Held of String.
-/
import Derived.Test.YtcgljeagjchobaaRows
import Derived.Test.YtcgljeagjchobaaGenSrv
import Derived.Test.YtcgljeagjchobaaGenBox
import Derived.Test.YtcgljeagjchobaaMarkText
import Derived.WalkKit
import Derived.WalkSpells
import Derived.WalkLawsBesides
import Derived.Deep.Light
import Derived.Deep.QuietTactic
import Derived.Deep.RegionHeld3
namespace Go.Proofs.Ytcgljeagjchobaa
open Go.RowKit M
set_option linter.unusedVariables false

set_option maxRecDepth 100000 in
set_option maxHeartbeats 4000000 in
theorem heldStringS_gen (l : List ByteArray) (k0 : Nat) (v : Value) (B : Nat) (w : World) (h : View w B v (mkF k0 (.l (l.map dS)))) (hB : B ≤ w.heap.size) (hk1 : 1 ≤ k0) (hk : k0 + cntRs (l.map dS) ≤ 90000000) :
    Calls Try.prog 42 #[v, .int .i64 k0] w fun e w' => e = .returned (.int .i64 ((k0 + cntRs (l.map dS) : Nat) : Int)) ∧ Below w.heap.size w w' := by
  obtain ⟨a, cap, rfl, hl, hm, hat⟩ := h.marked 1 (fun _ => rfl)
  have HAT := hide hat
  have HKB := hide hk
  have hn : l.length ≤ 90000000 := by have := cnt_lenF dS (fun x => by simp [dS, cntR, cntF]; try omega) l; omega
  have hka := kAtF_all dS k0 l
  have HKA := hide hka
  have hk00 := kAtF_zero dS k0 l
  clear h hat hl hm hk hka
  go_enter Try.func42, Try.ntmps42
  go_wp2
  go_loopw [1, 5] (fun kv i wr => ∃ j K : Nat, j ≤ l.length ∧ i = .int .i64 j ∧ kv = .int .i64 K ∧ Hid (K = kAtF dS k0 l j) ∧ Below w.heap.size w wr) (fun _ i _ => l.length - (intOf i).toNat)
  case atStart => exact ⟨0, k0, Nat.zero_le _, rfl, rfl, hk00.symm, Below.refl _ _⟩
  case round =>
    obtain ⟨j, K, hj, rfl, rfl, hK, hbe⟩ := hrel
    by_cases hlt : j < l.length
    · obtain ⟨b, o, C, rfl, hb, hc⟩ := HAT.out (by omega)
      have hcj := hc j hlt
      have hN := kAtF_next dS k0 l j hlt
      have hle := (kAtF_le dS k0 l (j + 1)).2
      have hle0 := (kAtF_le dS k0 l j).1
      have hbw : b < w.heap.size := Nat.lt_of_lt_of_le hb hB
      have hi0 : (0 : Int) ≤ (j : Int) := by omega
      have hi1 : (j : Int) < (l.length : Int) := by omega
      obtain ⟨x, hx⟩ : ∃ x, l[j] = x := ⟨_, rfl⟩
      rw [hx] at hcj hN
      rw [hN] at hle
      rw [← hK.out] at hcj hN hle hle0
      clear hx hc
      have hsum : cntR (dS x) = 1 := by simp [dS, cntR, cntF]
      rw [hsum] at hN hle
      have hle2 := Nat.le_trans hle HKB.out
      have HNX := hide hN
      have hK1 : 1 ≤ K := Nat.le_trans hk1 hle0
      clear hle hle0 hsum hN
      have q0 := hcj 0 (.c (.string (mt (K)))) rfl
      have u0 : w.cell? ⟨b, o + j, none⟩ = some (.string (mt (K))) := by
        have e := q0.2.inv
        have c := q0.1
        simp only [Nat.mul_one, Nat.add_zero] at c
        rw [c, e]
      clear q0
      clear hcj
      have c0 := (hbe.cell (p := ⟨b, o + j, none⟩) hbw).trans u0
      have HQ0 := hide (show ∀ W, _ from fun W => markText_any (K) (by omega) (by omega) W)
      have hz0 : b < wr.heap.size := Nat.lt_of_lt_of_le hbw hbe.size
      go_wp2
      go_region_held3 (fun w' => w'.cell? ⟨b, o + j, none⟩ = some (.string (mt (K)))) (first | go_keep | (exact (b1.cell (p := ⟨b, o + j, none⟩) (by first | omega | (simp; omega))).trans (by assumption))) ((go_at_call 40; refine (HQ0.out _).mono ?_; rintro e w1 ⟨rfl, b1⟩))
      all_goals
        have bb1 : Below wr.heap.size wr w1 := ((Below.refl wr.heap.size wr).drew).trans b1
        have kk1 := hbe.trans (bb1.mono hbe.size)
        clear b1 bb1 HQ0 hz0 c0
        have HT := hide kk1
        clear kk1
        go_wp2
        go_roundw
        case rel => exact ⟨j + 1, K + 1, by omega, by go_num, by first | go_num | (congr 1; omega), (by have := HNX.out; show _ = _; omega), HT.out⟩
        case measure => simp [intOf]; omega
    · have hjn : j = l.length := by omega
      subst hjn
      have hKK := hK.out
      rw [HKA.out] at hKK
      subst hKK
      go_wp2
      go_ret
      exact ⟨rfl, hbe⟩
end Go.Proofs.Ytcgljeagjchobaa
