/-
  A help of the laws, by program (tools/gen_help.py): Held of Lock.
-/
import Derived.Test.YtcgljeagjchobaaRows
import Derived.Test.YtcgljeagjchobaaGenSrv
import Derived.Test.YtcgljeagjchobaaGenBox
import Derived.Test.YtcgljeagjchobaaGenHeldStringS
import Derived.WalkKit
import Derived.WalkSpells
import Derived.WalkLawsBesides
import Derived.Deep.Light
import Derived.Deep.QuietTactic
import Derived.Deep.RegionHeld3
namespace Go.Proofs.Ytcgljeagjchobaa
open Go.RowKit M
set_option linter.unusedVariables false

set_option maxRecDepth 100000 in
set_option maxHeartbeats 4000000 in
theorem heldLockS_gen (l : List Lk) (k0 : Nat) (v : Value) (B : Nat) (w : World) (h : View w B v (mkF k0 (.l (l.map dLk)))) (hB : B ≤ w.heap.size) (hk1 : 1 ≤ k0) (hk : k0 + cntRs (l.map dLk) ≤ 90000000) :
    Calls Try.prog 21 #[v, .int .i64 k0] w fun e w' => e = .returned (.int .i64 ((k0 + cntRs (l.map dLk) : Nat) : Int)) ∧ Below w.heap.size w w' := by
  obtain ⟨a, cap, rfl, hl, hm, hat⟩ := h.marked 5 (fun _ => rfl)
  have HAT := hide hat
  have HKB := hide hk
  have hn : l.length ≤ 90000000 := by have := cnt_lenF dLk (fun x => by simp [dLk, cntR, cntF]; try omega) l; omega
  have hka := kAtF_all dLk k0 l
  have HKA := hide hka
  have hk00 := kAtF_zero dLk k0 l
  clear h hat hl hm hk hka
  go_enter Try.func21, Try.ntmps21
  go_wp2
  go_loopw [1, 5] (fun kv i wr => ∃ j K : Nat, j ≤ l.length ∧ i = .int .i64 j ∧ kv = .int .i64 K ∧ Hid (K = kAtF dLk k0 l j) ∧ Below w.heap.size w wr) (fun _ i _ => l.length - (intOf i).toNat)
  case atStart => exact ⟨0, k0, Nat.zero_le _, rfl, rfl, hk00.symm, Below.refl _ _⟩
  case round =>
    obtain ⟨j, K, hj, rfl, rfl, hK, hbe⟩ := hrel
    by_cases hlt : j < l.length
    · obtain ⟨b, o, C, rfl, hb, hc⟩ := HAT.out (by omega)
      have hcj := hc j hlt
      have hN := kAtF_next dLk k0 l j hlt
      have hle := (kAtF_le dLk k0 l (j + 1)).2
      have hle0 := (kAtF_le dLk k0 l j).1
      have hbw : b < w.heap.size := Nat.lt_of_lt_of_le hb hB
      have hi0 : (0 : Int) ≤ (j : Int) := by omega
      have hi1 : (j : Int) < (l.length : Int) := by omega
      obtain ⟨x, hx⟩ : ∃ x, l[j] = x := ⟨_, rfl⟩
      rw [hx] at hcj hN
      rw [hN] at hle
      rw [← hK.out] at hcj hN hle hle0
      clear hx hc
      have hsum : cntR (dLk x) = 1 + cntRs (x.pa.map dS) + 1 + 1 + 1 := by simp [dLk, cntR, cntF]; omega
      rw [hsum] at hN hle
      have hle2 := Nat.le_trans hle HKB.out
      have HNX := hide hN
      have hK1 : 1 ≤ K := Nat.le_trans hk1 hle0
      clear hle hle0 hsum hN
      have q0 := hcj 0 (.c (.int .i64 ((K : Nat) : Int))) rfl
      have u0 : w.cell? ⟨b, o + j * 5, none⟩ = some (.int .i64 ((K : Int))) := by
        have e := q0.2.inv
        have c := q0.1
        simp only [Nat.add_zero] at c
        rw [c, e]
      clear q0
      have HQ1 := hide (fun W (hb : Below w.heap.size w W) => heldStringS_gen (x.pa) (K + 1) (C j 1) B W ((hcj 1 (mkF (K + 1) (.l (x.pa.map dS))) rfl).2.stays hb hB) (Nat.le_trans hB hb.size) (by omega) (by omega))
      have u1 := (hcj 1 (mkF (K + 1) (.l (x.pa.map dS))) rfl).1
      obtain ⟨M1, hM1⟩ : ∃ M, K + 1 + cntRs (x.pa.map dS) = M := ⟨_, rfl⟩
      rw [hM1, show ((K + 1 : Nat) : Int) = (K : Int) + 1 from by omega] at HQ1
      have q2 := hcj 2 (.c (.bool (((K + 1 + cntRs (x.pa.map dS) : Nat) : Int) % 3 == 0))) rfl
      have u2 : w.cell? ⟨b, o + j * 5 + 2, none⟩ = some (.bool (((M1 : Int)) % 3 == 0)) := by
        have e := q2.2.inv
        have c := q2.1
        rw [c, e]
        rw [show ((K + 1 + cntRs (x.pa.map dS) : Nat) : Int) = (M1 : Int) from by omega]
      clear q2
      have q3 := hcj 3 (.c (.bool (((K + 1 + cntRs (x.pa.map dS) + 1 : Nat) : Int) % 3 == 0))) rfl
      have u3 : w.cell? ⟨b, o + j * 5 + 3, none⟩ = some (.bool (((M1 : Int) + 1) % 3 == 0)) := by
        have e := q3.2.inv
        have c := q3.1
        rw [c, e]
        rw [show ((K + 1 + cntRs (x.pa.map dS) + 1 : Nat) : Int) = (M1 : Int) + 1 from by omega]
      clear q3
      have q4 := hcj 4 (.c (.int .i64 ((K + 1 + cntRs (x.pa.map dS) + 1 + 1 : Nat) : Int))) rfl
      have u4 : w.cell? ⟨b, o + j * 5 + 4, none⟩ = some (.int .i64 ((M1 : Int) + 1 + 1)) := by
        have e := q4.2.inv
        have c := q4.1
        rw [c, e]
        rw [show ((K + 1 + cntRs (x.pa.map dS) + 1 + 1 : Nat) : Int) = (M1 : Int) + 1 + 1 from by omega]
      clear q4
      clear hcj
      have hb1 : M1 ≤ 90000000 := by omega
      have HM1 := hide hM1
      clear hM1
      have c0 := (hbe.cell (p := ⟨b, o + j * 5, none⟩) hbw).trans u0
      have c1 := (hbe.cell (p := ⟨b, o + j * 5 + 1, none⟩) hbw).trans u1
      go_wp2_with fail
      refine (HQ1.out _ hbe).mono ?_
      rintro e w1 ⟨rfl, b1⟩
      have kk1 := hbe.trans (b1.mono hbe.size)
      clear b1 HQ1 c0 c1
      have c2 := (kk1.cell (p := ⟨b, o + j * 5 + 2, none⟩) hbw).trans u2
      have c3 := (kk1.cell (p := ⟨b, o + j * 5 + 3, none⟩) hbw).trans u3
      have c4 := (kk1.cell (p := ⟨b, o + j * 5 + 4, none⟩) hbw).trans u4
      have hbb2 : ((((M1 : Int)) % 3 == 0) != (((M1 : Int)) % 3 == 0)) = false := by simp
      have hbb3 : ((((M1 : Int) + 1) % 3 == 0) != (((M1 : Int) + 1) % 3 == 0)) = false := by simp
      have HT := hide kk1
      clear kk1
      go_wp2
      go_roundw
      case rel => exact ⟨j + 1, M1 + 3, by omega, by go_num, by first | go_num | (congr 1; omega), (by have := HNX.out; have := HM1.out; show _ = _; omega), HT.out⟩
      case measure => simp [intOf]; omega
    · have hjn : j = l.length := by omega
      subst hjn
      have hKK := hK.out
      rw [HKA.out] at hKK
      subst hKK
      go_wp2
      go_ret
      exact ⟨rfl, hbe⟩
end Go.Proofs.Ytcgljeagjchobaa
