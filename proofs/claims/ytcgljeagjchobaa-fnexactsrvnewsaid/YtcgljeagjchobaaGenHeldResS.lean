/-
  A help of the laws, by program (tools/gen_help.py): Held of Res.
-/
import Derived.Test.YtcgljeagjchobaaRows
import Derived.Test.YtcgljeagjchobaaGenSrv
import Derived.Test.YtcgljeagjchobaaGenBox
import Derived.Test.YtcgljeagjchobaaGenHeldStringS
import Derived.Test.YtcgljeagjchobaaGenHeldPropS
import Derived.Test.YtcgljeagjchobaaMarkText
import Derived.WalkKit
import Derived.WalkSpells
import Derived.WalkLawsBesides
import Derived.Deep.Light
import Derived.Deep.QuietTactic
import Derived.Deep.RegionHeld3
namespace Go.Proofs.Ytcgljeagjchobaa
open Go.RowKit M
set_option linter.unusedVariables false

set_option maxRecDepth 100000 in
set_option maxHeartbeats 4000000 in
theorem heldResS_gen (l : List Rs) (k0 : Nat) (v : Value) (B : Nat) (w : World) (h : View w B v (mkF k0 (.l (l.map dRs)))) (hB : B ≤ w.heap.size) (hk1 : 1 ≤ k0) (hk : k0 + cntRs (l.map dRs) ≤ 90000000) :
    Calls Try.prog 20 #[v, .int .i64 k0] w fun e w' => e = .returned (.int .i64 ((k0 + cntRs (l.map dRs) : Nat) : Int)) ∧ Below w.heap.size w w' := by
  obtain ⟨a, cap, rfl, hl, hm, hat⟩ := h.marked 5 (fun _ => rfl)
  have HAT := hide hat
  have HKB := hide hk
  have hn : l.length ≤ 90000000 := by have := cnt_lenF dRs (fun x => by simp [dRs, cntR, cntF]; try omega) l; omega
  have hka := kAtF_all dRs k0 l
  have HKA := hide hka
  have hk00 := kAtF_zero dRs k0 l
  clear h hat hl hm hk hka
  go_enter Try.func20, Try.ntmps20
  go_wp2
  go_loopw [1, 5] (fun kv i wr => ∃ j K : Nat, j ≤ l.length ∧ i = .int .i64 j ∧ kv = .int .i64 K ∧ Hid (K = kAtF dRs k0 l j) ∧ Below w.heap.size w wr) (fun _ i _ => l.length - (intOf i).toNat)
  case atStart => exact ⟨0, k0, Nat.zero_le _, rfl, rfl, hk00.symm, Below.refl _ _⟩
  case round =>
    obtain ⟨j, K, hj, rfl, rfl, hK, hbe⟩ := hrel
    by_cases hlt : j < l.length
    · obtain ⟨b, o, C, rfl, hb, hc⟩ := HAT.out (by omega)
      have hcj := hc j hlt
      have hN := kAtF_next dRs k0 l j hlt
      have hle := (kAtF_le dRs k0 l (j + 1)).2
      have hle0 := (kAtF_le dRs k0 l j).1
      have hbw : b < w.heap.size := Nat.lt_of_lt_of_le hb hB
      have hi0 : (0 : Int) ≤ (j : Int) := by omega
      have hi1 : (j : Int) < (l.length : Int) := by omega
      obtain ⟨x, hx⟩ : ∃ x, l[j] = x := ⟨_, rfl⟩
      rw [hx] at hcj hN
      rw [hN] at hle
      rw [← hK.out] at hcj hN hle hle0
      clear hx hc
      have hsum : cntR (dRs x) = cntRs (x.pa.map dS) + 1 + 1 + 1 + cntRs (x.ps.map dPp) := by simp [dRs, cntR, cntF]; omega
      rw [hsum] at hN hle
      have hle2 := Nat.le_trans hle HKB.out
      have HNX := hide hN
      have hK1 : 1 ≤ K := Nat.le_trans hk1 hle0
      clear hle hle0 hsum hN
      have HQ0 := hide (fun W (hb : Below w.heap.size w W) => heldStringS_gen (x.pa) (K) (C j 0) B W ((hcj 0 (mkF (K) (.l (x.pa.map dS))) rfl).2.stays hb hB) (Nat.le_trans hB hb.size) (by omega) (by omega))
      have u0 := (hcj 0 (mkF (K) (.l (x.pa.map dS))) rfl).1
      simp only [Nat.add_zero] at u0
      obtain ⟨M0, hM0⟩ : ∃ M, K + cntRs (x.pa.map dS) = M := ⟨_, rfl⟩
      rw [hM0] at HQ0
      have q1 := hcj 1 (.c (.bool (((K + cntRs (x.pa.map dS) : Nat) : Int) % 3 == 0))) rfl
      have u1 : w.cell? ⟨b, o + j * 5 + 1, none⟩ = some (.bool (((M0 : Int)) % 3 == 0)) := by
        have e := q1.2.inv
        have c := q1.1
        rw [c, e]
        rw [show ((K + cntRs (x.pa.map dS) : Nat) : Int) = (M0 : Int) from by omega]
      clear q1
      have q2 := hcj 2 (.c (.string (mt (K + cntRs (x.pa.map dS) + 1)))) rfl
      have u2 : w.cell? ⟨b, o + j * 5 + 2, none⟩ = some (.string (mt (M0 + 1))) := by
        have e := q2.2.inv
        have c := q2.1
        rw [c, e]
        rw [show K + cntRs (x.pa.map dS) + 1 = M0 + 1 from by omega]
      clear q2
      have q3 := hcj 3 (.c (.int .i64 ((K + cntRs (x.pa.map dS) + 1 + 1 : Nat) : Int))) rfl
      have u3 : w.cell? ⟨b, o + j * 5 + 3, none⟩ = some (.int .i64 ((M0 : Int) + 1 + 1)) := by
        have e := q3.2.inv
        have c := q3.1
        rw [c, e]
        rw [show ((K + cntRs (x.pa.map dS) + 1 + 1 : Nat) : Int) = (M0 : Int) + 1 + 1 from by omega]
      clear q3
      have HQ4 := hide (fun W (hb : Below w.heap.size w W) => heldPropS_gen (x.ps) (K + cntRs (x.pa.map dS) + 1 + 1 + 1) (C j 4) B W ((hcj 4 (mkF (K + cntRs (x.pa.map dS) + 1 + 1 + 1) (.l (x.ps.map dPp))) rfl).2.stays hb hB) (Nat.le_trans hB hb.size) (by omega) (by omega))
      have u4 := (hcj 4 (mkF (K + cntRs (x.pa.map dS) + 1 + 1 + 1) (.l (x.ps.map dPp))) rfl).1
      obtain ⟨M4, hM4⟩ : ∃ M, K + cntRs (x.pa.map dS) + 1 + 1 + 1 + cntRs (x.ps.map dPp) = M := ⟨_, rfl⟩
      rw [hM4, show ((K + cntRs (x.pa.map dS) + 1 + 1 + 1 : Nat) : Int) = (M0 : Int) + 1 + 1 + 1 from by omega] at HQ4
      clear hcj
      have hb0 : M0 ≤ 90000000 := by omega
      have HM0 := hide hM0
      clear hM0
      have hb4 : M4 ≤ 90000000 := by omega
      have HM4 := hide hM4
      clear hM4
      have c0 := (hbe.cell (p := ⟨b, o + j * 5, none⟩) hbw).trans u0
      go_wp2_with fail
      refine (HQ0.out _ hbe).mono ?_
      rintro e w1 ⟨rfl, b1⟩
      have kk1 := hbe.trans (b1.mono hbe.size)
      clear b1 HQ0 c0
      have c1 := (kk1.cell (p := ⟨b, o + j * 5 + 1, none⟩) hbw).trans u1
      have c2 := (kk1.cell (p := ⟨b, o + j * 5 + 2, none⟩) hbw).trans u2
      have hbb1 : ((((M0 : Int)) % 3 == 0) != (((M0 : Int)) % 3 == 0)) = false := by simp
      have HQ2 := hide (show ∀ W, _ from fun W => markText_any (M0 + 1) (by omega) (by omega) W)
      rw [show ((M0 + 1 : Nat) : Int) = (M0 : Int) + 1 from by omega] at HQ2
      have hz1 : b < w1.heap.size := Nat.lt_of_lt_of_le hbw kk1.size
      go_wp2
      go_region_held3 (fun w' => w'.cell? ⟨b, o + j * 5 + 2, none⟩ = some (.string (mt (M0 + 1)))) (first | go_keep | (exact (b2.cell (p := ⟨b, o + j * 5 + 2, none⟩) (by first | omega | (simp; omega))).trans (by assumption))) ((go_at_call 40; refine (HQ2.out _).mono ?_; rintro e w2 ⟨rfl, b2⟩))
      all_goals
        have bb2 : Below w1.heap.size w1 w2 := ((Below.refl w1.heap.size w1).drew).trans b2
        have kk2 := kk1.trans (bb2.mono kk1.size)
        clear b2 bb2 HQ2 hz1 c1 c2
        have c3 := (kk2.cell (p := ⟨b, o + j * 5 + 3, none⟩) hbw).trans u3
        have c4 := (kk2.cell (p := ⟨b, o + j * 5 + 4, none⟩) hbw).trans u4
        go_wp2_with fail
        refine (HQ4.out _ kk2).mono ?_
        rintro e w3 ⟨rfl, b3⟩
        have kk3 := kk2.trans (b3.mono kk2.size)
        clear b3 HQ4 c3 c4
        have HT := hide kk3
        clear kk3
        go_wp2
        go_roundw
        case rel => exact ⟨j + 1, M4, by omega, by go_num, by first | go_num | (congr 1; omega), (by have := HNX.out; have := HM0.out; have := HM4.out; show _ = _; omega), HT.out⟩
        case measure => simp [intOf]; omega
    · have hjn : j = l.length := by omega
      subst hjn
      have hKK := hK.out
      rw [HKA.out] at hKK
      subst hKK
      go_wp2
      go_ret
      exact ⟨rfl, hbe⟩
end Go.Proofs.Ytcgljeagjchobaa
