/-
  A help of the laws, by program (tools/gen_help.py): Held of String.
  A help of the laws, by program (tools/gen_help.py): Held of Prop.
  A help of the laws, by program (tools/gen_help.py): Held of Res.
  A help of the laws, by program (tools/gen_help.py): Held of Lock.
  A help of the laws, by program (tools/gen_help.py): Held of Int.
  A help of the laws, by program (tools/gen_help.py): He1 of Srv.
-/
import Derived.Test.YtcgljeagjchobaaGreatRows
import Derived.Test.YtcgljeagjchobaaGreatGenSrv
import Derived.Test.YtcgljeagjchobaaGreatGenPick
import Derived.Test.YtcgljeagjchobaaGreatGenMk1Srv
import Derived.WalkKit
import Derived.WalkSpells
import Derived.WalkLawsBesides
import Derived.Deep.Light
import Derived.Deep.QuietTactic
import Derived.Deep.RegionHeld3
namespace Go.Proofs.YtcgljeagjchobaaGreat
open Go.RowKit M
set_option linter.unusedVariables false

set_option maxRecDepth 100000 in
set_option maxHeartbeats 4000000 in
theorem heldStringS_gen (l : List ByteArray) (k0 : Nat) (v : Value) (B : Nat) (w : World) (h : View w B v (mkF k0 (.l (l.map dS)))) (hB : B ≤ w.heap.size) (hk1 : 1 ≤ k0) (hk : k0 + cntRs (l.map dS) ≤ 90000000) :
    Calls Tryz.prog 87 #[v, .int .i64 k0] w fun e w' => e = .returned (.int .i64 ((k0 + cntRs (l.map dS) : Nat) : Int)) ∧ Below w.heap.size w w' := by
  obtain ⟨a, cap, rfl, hl, hm, hat⟩ := h.marked 1 (fun _ => rfl)
  have HAT := hide hat
  have HKB := hide hk
  have hn : l.length ≤ 90000000 := by have := cnt_lenF dS (fun x => by simp [dS, cntR, cntF]; try omega) l; omega
  have hka := kAtF_all dS k0 l
  have HKA := hide hka
  have hk00 := kAtF_zero dS k0 l
  clear h hat hl hm hk hka
  go_enter Tryz.func87, Tryz.ntmps87
  go_wp2
  go_loopw [1, 5] (fun kv i wr => ∃ j K : Nat, j ≤ l.length ∧ i = .int .i64 j ∧ kv = .int .i64 K ∧ Hid (K = kAtF dS k0 l j) ∧ Below w.heap.size w wr) (fun _ i _ => l.length - (intOf i).toNat)
  case atStart => exact ⟨0, k0, Nat.zero_le _, rfl, rfl, hk00.symm, Below.refl _ _⟩
  case round =>
    obtain ⟨j, K, hj, rfl, rfl, hK, hbe⟩ := hrel
    by_cases hlt : j < l.length
    · obtain ⟨b, o, C, rfl, hb, hc⟩ := HAT.out (by omega)
      have hcj := hc j hlt
      have hN := kAtF_next dS k0 l j hlt
      have hle := (kAtF_le dS k0 l (j + 1)).2
      have hle0 := (kAtF_le dS k0 l j).1
      have hbw : b < w.heap.size := Nat.lt_of_lt_of_le hb hB
      have hi0 : (0 : Int) ≤ (j : Int) := by omega
      have hi1 : (j : Int) < (l.length : Int) := by omega
      obtain ⟨x, hx⟩ : ∃ x, l[j] = x := ⟨_, rfl⟩
      rw [hx] at hcj hN
      rw [hN] at hle
      rw [← hK.out] at hcj hN hle hle0
      clear hx hc
      have hsum : cntR (dS x) = 1 := by simp [dS, cntR, cntF]
      rw [hsum] at hN hle
      have hle2 := Nat.le_trans hle HKB.out
      have HNX := hide hN
      have hK1 : 1 ≤ K := Nat.le_trans hk1 hle0
      clear hle hle0 hsum hN
      have q0 := hcj 0 (.c (.string (mt (K)))) rfl
      have u0 : w.cell? ⟨b, o + j, none⟩ = some (.string (mt (K))) := by
        have e := q0.2.inv
        have c := q0.1
        simp only [Nat.mul_one, Nat.add_zero] at c
        rw [c, e]
      clear q0
      clear hcj
      have c0 := (hbe.cell (p := ⟨b, o + j, none⟩) hbw).trans u0
      have HQ0 := hide (show ∀ W, _ from fun W => markText_any (K) (by omega) (by omega) W)
      have hz0 : b < wr.heap.size := Nat.lt_of_lt_of_le hbw hbe.size
      go_wp2
      go_region_held3 (fun w' => w'.cell? ⟨b, o + j, none⟩ = some (.string (mt (K)))) (first | go_keep | (exact (b1.cell (p := ⟨b, o + j, none⟩) (by first | omega | (simp; omega))).trans (by assumption))) ((go_at_call 85; refine (HQ0.out _).mono ?_; rintro e w1 ⟨rfl, b1⟩))
      all_goals
        have bb1 : Below wr.heap.size wr w1 := ((Below.refl wr.heap.size wr).drew).trans b1
        have kk1 := hbe.trans (bb1.mono hbe.size)
        clear b1 bb1 HQ0 hz0 c0
        have HT := hide kk1
        clear kk1
        go_wp2
        go_roundw
        case rel => exact ⟨j + 1, K + 1, by omega, by go_num, by first | go_num | (congr 1; omega), (by have := HNX.out; show _ = _; omega), HT.out⟩
        case measure => simp [intOf]; omega
    · have hjn : j = l.length := by omega
      subst hjn
      have hKK := hK.out
      rw [HKA.out] at hKK
      subst hKK
      go_wp2
      go_ret
      exact ⟨rfl, hbe⟩
end Go.Proofs.YtcgljeagjchobaaGreat
namespace Go.Proofs.YtcgljeagjchobaaGreat
open Go.RowKit M
set_option linter.unusedVariables false

set_option maxRecDepth 100000 in
set_option maxHeartbeats 4000000 in
theorem heldPropS_gen (l : List Pp) (k0 : Nat) (v : Value) (B : Nat) (w : World) (h : View w B v (mkF k0 (.l (l.map dPp)))) (hB : B ≤ w.heap.size) (hk1 : 1 ≤ k0) (hk : k0 + cntRs (l.map dPp) ≤ 90000000) :
    Calls Tryz.prog 88 #[v, .int .i64 k0] w fun e w' => e = .returned (.int .i64 ((k0 + cntRs (l.map dPp) : Nat) : Int)) ∧ Below w.heap.size w w' := by
  obtain ⟨a, cap, rfl, hl, hm, hat⟩ := h.marked 3 (fun _ => rfl)
  have HAT := hide hat
  have HKB := hide hk
  have hn : l.length ≤ 90000000 := by have := cnt_lenF dPp (fun x => by simp [dPp, cntR, cntF]; try omega) l; omega
  have hka := kAtF_all dPp k0 l
  have HKA := hide hka
  have hk00 := kAtF_zero dPp k0 l
  clear h hat hl hm hk hka
  go_enter Tryz.func88, Tryz.ntmps88
  go_wp2
  go_loopw [1, 5] (fun kv i wr => ∃ j K : Nat, j ≤ l.length ∧ i = .int .i64 j ∧ kv = .int .i64 K ∧ Hid (K = kAtF dPp k0 l j) ∧ Below w.heap.size w wr) (fun _ i _ => l.length - (intOf i).toNat)
  case atStart => exact ⟨0, k0, Nat.zero_le _, rfl, rfl, hk00.symm, Below.refl _ _⟩
  case round =>
    obtain ⟨j, K, hj, rfl, rfl, hK, hbe⟩ := hrel
    by_cases hlt : j < l.length
    · obtain ⟨b, o, C, rfl, hb, hc⟩ := HAT.out (by omega)
      have hcj := hc j hlt
      have hN := kAtF_next dPp k0 l j hlt
      have hle := (kAtF_le dPp k0 l (j + 1)).2
      have hle0 := (kAtF_le dPp k0 l j).1
      have hbw : b < w.heap.size := Nat.lt_of_lt_of_le hb hB
      have hi0 : (0 : Int) ≤ (j : Int) := by omega
      have hi1 : (j : Int) < (l.length : Int) := by omega
      obtain ⟨x, hx⟩ : ∃ x, l[j] = x := ⟨_, rfl⟩
      rw [hx] at hcj hN
      rw [hN] at hle
      rw [← hK.out] at hcj hN hle hle0
      clear hx hc
      have hsum : cntR (dPp x) = 1 + 1 + 1 := by simp [dPp, cntR, cntF]
      rw [hsum] at hN hle
      have hle2 := Nat.le_trans hle HKB.out
      have HNX := hide hN
      have hK1 : 1 ≤ K := Nat.le_trans hk1 hle0
      clear hle hle0 hsum hN
      have q0 := hcj 0 (.c (.string (mt (K)))) rfl
      have u0 : w.cell? ⟨b, o + j * 3, none⟩ = some (.string (mt (K))) := by
        have e := q0.2.inv
        have c := q0.1
        simp only [Nat.add_zero] at c
        rw [c, e]
      clear q0
      have q1 := hcj 1 (.c (.string (mt (K + 1)))) rfl
      have u1 : w.cell? ⟨b, o + j * 3 + 1, none⟩ = some (.string (mt (K + 1))) := by
        have e := q1.2.inv
        have c := q1.1
        rw [c, e]
      clear q1
      have q2 := hcj 2 (.c (.string (mt (K + 1 + 1)))) rfl
      have u2 : w.cell? ⟨b, o + j * 3 + 2, none⟩ = some (.string (mt (K + 2))) := by
        have e := q2.2.inv
        have c := q2.1
        rw [c, e]
      clear q2
      clear hcj
      have c0 := (hbe.cell (p := ⟨b, o + j * 3, none⟩) hbw).trans u0
      have HQ0 := hide (show ∀ W, _ from fun W => markText_any (K) (by omega) (by omega) W)
      have hz0 : b < wr.heap.size := Nat.lt_of_lt_of_le hbw hbe.size
      go_wp2
      go_region_held3 (fun w' => w'.cell? ⟨b, o + j * 3, none⟩ = some (.string (mt (K)))) (first | go_keep | (exact (b1.cell (p := ⟨b, o + j * 3, none⟩) (by first | omega | (simp; omega))).trans (by assumption))) ((go_at_call 85; refine (HQ0.out _).mono ?_; rintro e w1 ⟨rfl, b1⟩))
      all_goals
        have bb1 : Below wr.heap.size wr w1 := ((Below.refl wr.heap.size wr).drew).trans b1
        have kk1 := hbe.trans (bb1.mono hbe.size)
        clear b1 bb1 HQ0 hz0 c0
        have c1 := (kk1.cell (p := ⟨b, o + j * 3 + 1, none⟩) hbw).trans u1
        have HQ1 := hide (show ∀ W, _ from fun W => markText_any (K + 1) (by omega) (by omega) W)
        rw [show ((K + 1 : Nat) : Int) = (K : Int) + 1 from by omega] at HQ1
        have hz1 : b < w1.heap.size := Nat.lt_of_lt_of_le hbw kk1.size
        go_wp2
        go_region_held3 (fun w' => w'.cell? ⟨b, o + j * 3 + 1, none⟩ = some (.string (mt (K + 1)))) (first | go_keep | (exact (b2.cell (p := ⟨b, o + j * 3 + 1, none⟩) (by first | omega | (simp; omega))).trans (by assumption))) ((go_at_call 85; refine (HQ1.out _).mono ?_; rintro e w2 ⟨rfl, b2⟩))
        all_goals
          have bb2 : Below w1.heap.size w1 w2 := ((Below.refl w1.heap.size w1).drew).trans b2
          have kk2 := kk1.trans (bb2.mono kk1.size)
          clear b2 bb2 HQ1 hz1 c1
          have c2 := (kk2.cell (p := ⟨b, o + j * 3 + 2, none⟩) hbw).trans u2
          have HQ2 := hide (show ∀ W, _ from fun W => markText_any (K + 2) (by omega) (by omega) W)
          rw [show ((K + 2 : Nat) : Int) = (K : Int) + 1 + 1 from by omega] at HQ2
          have hz2 : b < w2.heap.size := Nat.lt_of_lt_of_le hbw kk2.size
          go_wp2
          go_region_held3 (fun w' => w'.cell? ⟨b, o + j * 3 + 2, none⟩ = some (.string (mt (K + 2)))) (first | go_keep | (exact (b3.cell (p := ⟨b, o + j * 3 + 2, none⟩) (by first | omega | (simp; omega))).trans (by assumption))) ((go_at_call 85; refine (HQ2.out _).mono ?_; rintro e w3 ⟨rfl, b3⟩))
          all_goals
            have bb3 : Below w2.heap.size w2 w3 := ((Below.refl w2.heap.size w2).drew).trans b3
            have kk3 := kk2.trans (bb3.mono kk2.size)
            clear b3 bb3 HQ2 hz2 c2
            have HT := hide kk3
            clear kk3
            go_wp2
            go_roundw
            case rel => exact ⟨j + 1, K + 3, by omega, by go_num, by first | go_num | (congr 1; omega), (by have := HNX.out; show _ = _; omega), HT.out⟩
            case measure => simp [intOf]; omega
    · have hjn : j = l.length := by omega
      subst hjn
      have hKK := hK.out
      rw [HKA.out] at hKK
      subst hKK
      go_wp2
      go_ret
      exact ⟨rfl, hbe⟩
end Go.Proofs.YtcgljeagjchobaaGreat
namespace Go.Proofs.YtcgljeagjchobaaGreat
open Go.RowKit M
set_option linter.unusedVariables false

set_option maxRecDepth 100000 in
set_option maxHeartbeats 4000000 in
theorem heldResS_gen (l : List Rs) (k0 : Nat) (v : Value) (B : Nat) (w : World) (h : View w B v (mkF k0 (.l (l.map dRs)))) (hB : B ≤ w.heap.size) (hk1 : 1 ≤ k0) (hk : k0 + cntRs (l.map dRs) ≤ 90000000) :
    Calls Tryz.prog 45 #[v, .int .i64 k0] w fun e w' => e = .returned (.int .i64 ((k0 + cntRs (l.map dRs) : Nat) : Int)) ∧ Below w.heap.size w w' := by
  obtain ⟨a, cap, rfl, hl, hm, hat⟩ := h.marked 5 (fun _ => rfl)
  have HAT := hide hat
  have HKB := hide hk
  have hn : l.length ≤ 90000000 := by have := cnt_lenF dRs (fun x => by simp [dRs, cntR, cntF]; try omega) l; omega
  have hka := kAtF_all dRs k0 l
  have HKA := hide hka
  have hk00 := kAtF_zero dRs k0 l
  clear h hat hl hm hk hka
  go_enter Tryz.func45, Tryz.ntmps45
  go_wp2
  go_loopw [1, 5] (fun kv i wr => ∃ j K : Nat, j ≤ l.length ∧ i = .int .i64 j ∧ kv = .int .i64 K ∧ Hid (K = kAtF dRs k0 l j) ∧ Below w.heap.size w wr) (fun _ i _ => l.length - (intOf i).toNat)
  case atStart => exact ⟨0, k0, Nat.zero_le _, rfl, rfl, hk00.symm, Below.refl _ _⟩
  case round =>
    obtain ⟨j, K, hj, rfl, rfl, hK, hbe⟩ := hrel
    by_cases hlt : j < l.length
    · obtain ⟨b, o, C, rfl, hb, hc⟩ := HAT.out (by omega)
      have hcj := hc j hlt
      have hN := kAtF_next dRs k0 l j hlt
      have hle := (kAtF_le dRs k0 l (j + 1)).2
      have hle0 := (kAtF_le dRs k0 l j).1
      have hbw : b < w.heap.size := Nat.lt_of_lt_of_le hb hB
      have hi0 : (0 : Int) ≤ (j : Int) := by omega
      have hi1 : (j : Int) < (l.length : Int) := by omega
      obtain ⟨x, hx⟩ : ∃ x, l[j] = x := ⟨_, rfl⟩
      rw [hx] at hcj hN
      rw [hN] at hle
      rw [← hK.out] at hcj hN hle hle0
      clear hx hc
      have hsum : cntR (dRs x) = cntRs (x.pa.map dS) + 1 + 1 + 1 + cntRs (x.ps.map dPp) := by simp [dRs, cntR, cntF]; omega
      rw [hsum] at hN hle
      have hle2 := Nat.le_trans hle HKB.out
      have HNX := hide hN
      have hK1 : 1 ≤ K := Nat.le_trans hk1 hle0
      clear hle hle0 hsum hN
      have HQ0 := hide (fun W (hb : Below w.heap.size w W) => heldStringS_gen (x.pa) (K) (C j 0) B W ((hcj 0 (mkF (K) (.l (x.pa.map dS))) rfl).2.stays hb hB) (Nat.le_trans hB hb.size) (by omega) (by omega))
      have u0 := (hcj 0 (mkF (K) (.l (x.pa.map dS))) rfl).1
      simp only [Nat.add_zero] at u0
      obtain ⟨M0, hM0⟩ : ∃ M, K + cntRs (x.pa.map dS) = M := ⟨_, rfl⟩
      rw [hM0] at HQ0
      have q1 := hcj 1 (.c (.bool (((K + cntRs (x.pa.map dS) : Nat) : Int) % 3 == 0))) rfl
      have u1 : w.cell? ⟨b, o + j * 5 + 1, none⟩ = some (.bool (((M0 : Int)) % 3 == 0)) := by
        have e := q1.2.inv
        have c := q1.1
        rw [c, e]
        rw [show ((K + cntRs (x.pa.map dS) : Nat) : Int) = (M0 : Int) from by omega]
      clear q1
      have q2 := hcj 2 (.c (.string (mt (K + cntRs (x.pa.map dS) + 1)))) rfl
      have u2 : w.cell? ⟨b, o + j * 5 + 2, none⟩ = some (.string (mt (M0 + 1))) := by
        have e := q2.2.inv
        have c := q2.1
        rw [c, e]
        rw [show K + cntRs (x.pa.map dS) + 1 = M0 + 1 from by omega]
      clear q2
      have q3 := hcj 3 (.c (.int .i64 ((K + cntRs (x.pa.map dS) + 1 + 1 : Nat) : Int))) rfl
      have u3 : w.cell? ⟨b, o + j * 5 + 3, none⟩ = some (.int .i64 ((M0 : Int) + 1 + 1)) := by
        have e := q3.2.inv
        have c := q3.1
        rw [c, e]
        rw [show ((K + cntRs (x.pa.map dS) + 1 + 1 : Nat) : Int) = (M0 : Int) + 1 + 1 from by omega]
      clear q3
      have HQ4 := hide (fun W (hb : Below w.heap.size w W) => heldPropS_gen (x.ps) (K + cntRs (x.pa.map dS) + 1 + 1 + 1) (C j 4) B W ((hcj 4 (mkF (K + cntRs (x.pa.map dS) + 1 + 1 + 1) (.l (x.ps.map dPp))) rfl).2.stays hb hB) (Nat.le_trans hB hb.size) (by omega) (by omega))
      have u4 := (hcj 4 (mkF (K + cntRs (x.pa.map dS) + 1 + 1 + 1) (.l (x.ps.map dPp))) rfl).1
      obtain ⟨M4, hM4⟩ : ∃ M, K + cntRs (x.pa.map dS) + 1 + 1 + 1 + cntRs (x.ps.map dPp) = M := ⟨_, rfl⟩
      rw [hM4, show ((K + cntRs (x.pa.map dS) + 1 + 1 + 1 : Nat) : Int) = (M0 : Int) + 1 + 1 + 1 from by omega] at HQ4
      clear hcj
      have hb0 : M0 ≤ 90000000 := by omega
      have HM0 := hide hM0
      clear hM0
      have hb4 : M4 ≤ 90000000 := by omega
      have HM4 := hide hM4
      clear hM4
      have c0 := (hbe.cell (p := ⟨b, o + j * 5, none⟩) hbw).trans u0
      go_wp2_with fail
      refine (HQ0.out _ hbe).mono ?_
      rintro e w1 ⟨rfl, b1⟩
      have kk1 := hbe.trans (b1.mono hbe.size)
      clear b1 HQ0 c0
      have c1 := (kk1.cell (p := ⟨b, o + j * 5 + 1, none⟩) hbw).trans u1
      have c2 := (kk1.cell (p := ⟨b, o + j * 5 + 2, none⟩) hbw).trans u2
      have hbb1 : ((((M0 : Int)) % 3 == 0) != (((M0 : Int)) % 3 == 0)) = false := by simp
      have HQ2 := hide (show ∀ W, _ from fun W => markText_any (M0 + 1) (by omega) (by omega) W)
      rw [show ((M0 + 1 : Nat) : Int) = (M0 : Int) + 1 from by omega] at HQ2
      have hz1 : b < w1.heap.size := Nat.lt_of_lt_of_le hbw kk1.size
      go_wp2
      go_region_held3 (fun w' => w'.cell? ⟨b, o + j * 5 + 2, none⟩ = some (.string (mt (M0 + 1)))) (first | go_keep | (exact (b2.cell (p := ⟨b, o + j * 5 + 2, none⟩) (by first | omega | (simp; omega))).trans (by assumption))) ((go_at_call 85; refine (HQ2.out _).mono ?_; rintro e w2 ⟨rfl, b2⟩))
      all_goals
        have bb2 : Below w1.heap.size w1 w2 := ((Below.refl w1.heap.size w1).drew).trans b2
        have kk2 := kk1.trans (bb2.mono kk1.size)
        clear b2 bb2 HQ2 hz1 c1 c2
        have c3 := (kk2.cell (p := ⟨b, o + j * 5 + 3, none⟩) hbw).trans u3
        have c4 := (kk2.cell (p := ⟨b, o + j * 5 + 4, none⟩) hbw).trans u4
        go_wp2_with fail
        refine (HQ4.out _ kk2).mono ?_
        rintro e w3 ⟨rfl, b3⟩
        have kk3 := kk2.trans (b3.mono kk2.size)
        clear b3 HQ4 c3 c4
        have HT := hide kk3
        clear kk3
        go_wp2
        go_roundw
        case rel => exact ⟨j + 1, M4, by omega, by go_num, by first | go_num | (congr 1; omega), (by have := HNX.out; have := HM0.out; have := HM4.out; show _ = _; omega), HT.out⟩
        case measure => simp [intOf]; omega
    · have hjn : j = l.length := by omega
      subst hjn
      have hKK := hK.out
      rw [HKA.out] at hKK
      subst hKK
      go_wp2
      go_ret
      exact ⟨rfl, hbe⟩
end Go.Proofs.YtcgljeagjchobaaGreat
namespace Go.Proofs.YtcgljeagjchobaaGreat
open Go.RowKit M
set_option linter.unusedVariables false

set_option maxRecDepth 100000 in
set_option maxHeartbeats 4000000 in
theorem heldLockS_gen (l : List Lk) (k0 : Nat) (v : Value) (B : Nat) (w : World) (h : View w B v (mkF k0 (.l (l.map dLk)))) (hB : B ≤ w.heap.size) (hk1 : 1 ≤ k0) (hk : k0 + cntRs (l.map dLk) ≤ 90000000) :
    Calls Tryz.prog 46 #[v, .int .i64 k0] w fun e w' => e = .returned (.int .i64 ((k0 + cntRs (l.map dLk) : Nat) : Int)) ∧ Below w.heap.size w w' := by
  obtain ⟨a, cap, rfl, hl, hm, hat⟩ := h.marked 5 (fun _ => rfl)
  have HAT := hide hat
  have HKB := hide hk
  have hn : l.length ≤ 90000000 := by have := cnt_lenF dLk (fun x => by simp [dLk, cntR, cntF]; try omega) l; omega
  have hka := kAtF_all dLk k0 l
  have HKA := hide hka
  have hk00 := kAtF_zero dLk k0 l
  clear h hat hl hm hk hka
  go_enter Tryz.func46, Tryz.ntmps46
  go_wp2
  go_loopw [1, 5] (fun kv i wr => ∃ j K : Nat, j ≤ l.length ∧ i = .int .i64 j ∧ kv = .int .i64 K ∧ Hid (K = kAtF dLk k0 l j) ∧ Below w.heap.size w wr) (fun _ i _ => l.length - (intOf i).toNat)
  case atStart => exact ⟨0, k0, Nat.zero_le _, rfl, rfl, hk00.symm, Below.refl _ _⟩
  case round =>
    obtain ⟨j, K, hj, rfl, rfl, hK, hbe⟩ := hrel
    by_cases hlt : j < l.length
    · obtain ⟨b, o, C, rfl, hb, hc⟩ := HAT.out (by omega)
      have hcj := hc j hlt
      have hN := kAtF_next dLk k0 l j hlt
      have hle := (kAtF_le dLk k0 l (j + 1)).2
      have hle0 := (kAtF_le dLk k0 l j).1
      have hbw : b < w.heap.size := Nat.lt_of_lt_of_le hb hB
      have hi0 : (0 : Int) ≤ (j : Int) := by omega
      have hi1 : (j : Int) < (l.length : Int) := by omega
      obtain ⟨x, hx⟩ : ∃ x, l[j] = x := ⟨_, rfl⟩
      rw [hx] at hcj hN
      rw [hN] at hle
      rw [← hK.out] at hcj hN hle hle0
      clear hx hc
      have hsum : cntR (dLk x) = 1 + cntRs (x.pa.map dS) + 1 + 1 + 1 := by simp [dLk, cntR, cntF]; omega
      rw [hsum] at hN hle
      have hle2 := Nat.le_trans hle HKB.out
      have HNX := hide hN
      have hK1 : 1 ≤ K := Nat.le_trans hk1 hle0
      clear hle hle0 hsum hN
      have q0 := hcj 0 (.c (.int .i64 ((K : Nat) : Int))) rfl
      have u0 : w.cell? ⟨b, o + j * 5, none⟩ = some (.int .i64 ((K : Int))) := by
        have e := q0.2.inv
        have c := q0.1
        simp only [Nat.add_zero] at c
        rw [c, e]
      clear q0
      have HQ1 := hide (fun W (hb : Below w.heap.size w W) => heldStringS_gen (x.pa) (K + 1) (C j 1) B W ((hcj 1 (mkF (K + 1) (.l (x.pa.map dS))) rfl).2.stays hb hB) (Nat.le_trans hB hb.size) (by omega) (by omega))
      have u1 := (hcj 1 (mkF (K + 1) (.l (x.pa.map dS))) rfl).1
      obtain ⟨M1, hM1⟩ : ∃ M, K + 1 + cntRs (x.pa.map dS) = M := ⟨_, rfl⟩
      rw [hM1, show ((K + 1 : Nat) : Int) = (K : Int) + 1 from by omega] at HQ1
      have q2 := hcj 2 (.c (.bool (((K + 1 + cntRs (x.pa.map dS) : Nat) : Int) % 3 == 0))) rfl
      have u2 : w.cell? ⟨b, o + j * 5 + 2, none⟩ = some (.bool (((M1 : Int)) % 3 == 0)) := by
        have e := q2.2.inv
        have c := q2.1
        rw [c, e]
        rw [show ((K + 1 + cntRs (x.pa.map dS) : Nat) : Int) = (M1 : Int) from by omega]
      clear q2
      have q3 := hcj 3 (.c (.bool (((K + 1 + cntRs (x.pa.map dS) + 1 : Nat) : Int) % 3 == 0))) rfl
      have u3 : w.cell? ⟨b, o + j * 5 + 3, none⟩ = some (.bool (((M1 : Int) + 1) % 3 == 0)) := by
        have e := q3.2.inv
        have c := q3.1
        rw [c, e]
        rw [show ((K + 1 + cntRs (x.pa.map dS) + 1 : Nat) : Int) = (M1 : Int) + 1 from by omega]
      clear q3
      have q4 := hcj 4 (.c (.int .i64 ((K + 1 + cntRs (x.pa.map dS) + 1 + 1 : Nat) : Int))) rfl
      have u4 : w.cell? ⟨b, o + j * 5 + 4, none⟩ = some (.int .i64 ((M1 : Int) + 1 + 1)) := by
        have e := q4.2.inv
        have c := q4.1
        rw [c, e]
        rw [show ((K + 1 + cntRs (x.pa.map dS) + 1 + 1 : Nat) : Int) = (M1 : Int) + 1 + 1 from by omega]
      clear q4
      clear hcj
      have hb1 : M1 ≤ 90000000 := by omega
      have HM1 := hide hM1
      clear hM1
      have c0 := (hbe.cell (p := ⟨b, o + j * 5, none⟩) hbw).trans u0
      have c1 := (hbe.cell (p := ⟨b, o + j * 5 + 1, none⟩) hbw).trans u1
      go_wp2_with fail
      refine (HQ1.out _ hbe).mono ?_
      rintro e w1 ⟨rfl, b1⟩
      have kk1 := hbe.trans (b1.mono hbe.size)
      clear b1 HQ1 c0 c1
      have c2 := (kk1.cell (p := ⟨b, o + j * 5 + 2, none⟩) hbw).trans u2
      have c3 := (kk1.cell (p := ⟨b, o + j * 5 + 3, none⟩) hbw).trans u3
      have c4 := (kk1.cell (p := ⟨b, o + j * 5 + 4, none⟩) hbw).trans u4
      have hbb2 : ((((M1 : Int)) % 3 == 0) != (((M1 : Int)) % 3 == 0)) = false := by simp
      have hbb3 : ((((M1 : Int) + 1) % 3 == 0) != (((M1 : Int) + 1) % 3 == 0)) = false := by simp
      have HT := hide kk1
      clear kk1
      go_wp2
      go_roundw
      case rel => exact ⟨j + 1, M1 + 3, by omega, by go_num, by first | go_num | (congr 1; omega), (by have := HNX.out; have := HM1.out; show _ = _; omega), HT.out⟩
      case measure => simp [intOf]; omega
    · have hjn : j = l.length := by omega
      subst hjn
      have hKK := hK.out
      rw [HKA.out] at hKK
      subst hKK
      go_wp2
      go_ret
      exact ⟨rfl, hbe⟩
end Go.Proofs.YtcgljeagjchobaaGreat
namespace Go.Proofs.YtcgljeagjchobaaGreat
open Go.RowKit M
set_option linter.unusedVariables false

set_option maxRecDepth 100000 in
set_option maxHeartbeats 4000000 in
theorem heldIntS_gen (l : List Int) (k0 : Nat) (v : Value) (B : Nat) (w : World) (h : View w B v (mkF k0 (.l (l.map dI)))) (hB : B ≤ w.heap.size) (hk1 : 1 ≤ k0) (hk : k0 + cntRs (l.map dI) ≤ 90000000) :
    Calls Tryz.prog 47 #[v, .int .i64 k0] w fun e w' => e = .returned (.int .i64 ((k0 + cntRs (l.map dI) : Nat) : Int)) ∧ Below w.heap.size w w' := by
  obtain ⟨a, cap, rfl, hl, hm, hat⟩ := h.marked 1 (fun _ => rfl)
  have HAT := hide hat
  have HKB := hide hk
  have hn : l.length ≤ 90000000 := by have := cnt_lenF dI (fun x => by simp [dI, cntR, cntF]; try omega) l; omega
  have hka := kAtF_all dI k0 l
  have HKA := hide hka
  have hk00 := kAtF_zero dI k0 l
  clear h hat hl hm hk hka
  go_enter Tryz.func47, Tryz.ntmps47
  go_wp2
  go_loopw [1, 5] (fun kv i wr => ∃ j K : Nat, j ≤ l.length ∧ i = .int .i64 j ∧ kv = .int .i64 K ∧ Hid (K = kAtF dI k0 l j) ∧ Below w.heap.size w wr) (fun _ i _ => l.length - (intOf i).toNat)
  case atStart => exact ⟨0, k0, Nat.zero_le _, rfl, rfl, hk00.symm, Below.refl _ _⟩
  case round =>
    obtain ⟨j, K, hj, rfl, rfl, hK, hbe⟩ := hrel
    by_cases hlt : j < l.length
    · obtain ⟨b, o, C, rfl, hb, hc⟩ := HAT.out (by omega)
      have hcj := hc j hlt
      have hN := kAtF_next dI k0 l j hlt
      have hle := (kAtF_le dI k0 l (j + 1)).2
      have hle0 := (kAtF_le dI k0 l j).1
      have hbw : b < w.heap.size := Nat.lt_of_lt_of_le hb hB
      have hi0 : (0 : Int) ≤ (j : Int) := by omega
      have hi1 : (j : Int) < (l.length : Int) := by omega
      obtain ⟨x, hx⟩ : ∃ x, l[j] = x := ⟨_, rfl⟩
      rw [hx] at hcj hN
      rw [hN] at hle
      rw [← hK.out] at hcj hN hle hle0
      clear hx hc
      have hsum : cntR (dI x) = 1 := by simp [dI, cntR, cntF]
      rw [hsum] at hN hle
      have hle2 := Nat.le_trans hle HKB.out
      have HNX := hide hN
      have hK1 : 1 ≤ K := Nat.le_trans hk1 hle0
      clear hle hle0 hsum hN
      have q0 := hcj 0 (.c (.int .i64 ((K : Nat) : Int))) rfl
      have u0 : w.cell? ⟨b, o + j, none⟩ = some (.int .i64 ((K : Int))) := by
        have e := q0.2.inv
        have c := q0.1
        simp only [Nat.mul_one, Nat.add_zero] at c
        rw [c, e]
      clear q0
      clear hcj
      have c0 := (hbe.cell (p := ⟨b, o + j, none⟩) hbw).trans u0
      have HT := hide hbe
      go_wp2
      go_roundw
      case rel => exact ⟨j + 1, K + 1, by omega, by go_num, by first | go_num | (congr 1; omega), (by have := HNX.out; show _ = _; omega), HT.out⟩
      case measure => simp [intOf]; omega
    · have hjn : j = l.length := by omega
      subst hjn
      have hKK := hK.out
      rw [HKA.out] at hKK
      subst hKK
      go_wp2
      go_ret
      exact ⟨rfl, hbe⟩
end Go.Proofs.YtcgljeagjchobaaGreat
namespace Go.Proofs.YtcgljeagjchobaaGreat
open Go.RowKit M
set_option linter.unusedVariables false

set_option maxRecDepth 100000 in
set_option maxHeartbeats 4000000 in
theorem heldSrv_gen (x : Sv) (u0 u1 u4 u5 : Value) (k0 B : Nat) (w : World) (h0 : View w B u0 (mkF (k0) (.l (x.t.map dRs)))) (h1 : View w B u1 (mkF (k0 + cntRs (x.t.map dRs)) (.l (x.l.map dLk)))) (h4 : View w B u4 (mkF (k0 + cntRs (x.t.map dRs) + cntRs (x.l.map dLk)) (.l (x.dr.map dI)))) (h5 : View w B u5 (mkF (k0 + cntRs (x.t.map dRs) + cntRs (x.l.map dLk) + cntRs (x.dr.map dI)) (.l (x.us.map dI)))) (hB : B ≤ w.heap.size) (hk1 : 1 ≤ k0) (hk : k0 + cntRs (x.t.map dRs) + cntRs (x.l.map dLk) + cntRs (x.dr.map dI) + cntRs (x.us.map dI) ≤ 90000000) :
    Calls Tryz.prog 14 #[.agg #[u0, u1, .int .i64 x.now, .int .i64 x.ver, u4, u5], .int .i64 k0] w fun e w' => e = .returned (.int .i64 ((k0 + cntRs (x.t.map dRs) + cntRs (x.l.map dLk) + cntRs (x.dr.map dI) + cntRs (x.us.map dI) : Nat) : Int)) ∧ Below w.heap.size w w' := by
  have b0 := (Below.refl w.heap.size w).alloc (Nat.le_refl _) (Obj.cells #[u0, u1, .int .i64 x.now, .int .i64 x.ver, u4, u5] 32)
  have X0 := hide (BoxV.made w [u0, u1, .int .i64 x.now, .int .i64 x.ver, u4, u5] 32)
  have K0 := hide b0
  clear b0
  obtain ⟨M1, hM1⟩ : ∃ M, k0 + cntRs (x.t.map dRs) = M := ⟨_, rfl⟩
  obtain ⟨M2, hM2⟩ : ∃ M, M1 + cntRs (x.l.map dLk) = M := ⟨_, rfl⟩
  obtain ⟨M3, hM3⟩ : ∃ M, M2 + cntRs (x.dr.map dI) = M := ⟨_, rfl⟩
  obtain ⟨M4, hM4⟩ : ∃ M, M3 + cntRs (x.us.map dI) = M := ⟨_, rfl⟩
  rw [hM1, hM2, hM3, hM4] at hk
  have hb : M1 ≤ 90000000 ∧ 1 ≤ M1 ∧ M2 ≤ 90000000 ∧ 1 ≤ M2 ∧ M3 ≤ 90000000 ∧ 1 ≤ M3 ∧ M4 ≤ 90000000 ∧ 1 ≤ M4 := by omega
  rw [hM1] at h1
  rw [hM1, hM2] at h4
  rw [hM1, hM2, hM3] at h5
  rw [hM1, hM2, hM3, hM4]
  have HM1 := hide hM1
  clear hM1
  have HM2 := hide hM2
  clear hM2
  have HM3 := hide hM3
  clear hM3
  have HM4 := hide hM4
  clear hM4
  go_enter Tryz.func14, Tryz.ntmps14
  have HQ := hide (heldResS_gen (x.t) (k0) u0 B _ (h0.stays K0.out hB) (Nat.le_trans hB K0.out.size) (by omega) (by have := HM1.out; omega))
  rw [HM1.out] at HQ
  go_wp2_with fail
  refine HQ.out.mono ?_
  rintro e w1 ⟨rfl, b1⟩
  have K1 := hide (K0.out.trans (b1.mono K0.out.size))
  have X1 := hide (X0.out.next b1)
  clear HQ b1 K0 X0
  have c1 := (X1.out.2 1 _ rfl).1
  have HQ := hide (heldLockS_gen (x.l) (M1) u1 B _ (h1.stays K1.out hB) (Nat.le_trans hB K1.out.size) (by omega) (by have := HM2.out; omega))
  rw [HM2.out] at HQ
  go_wp2_with fail
  refine HQ.out.mono ?_
  rintro e w2 ⟨rfl, b2⟩
  have K2 := hide (K1.out.trans (b2.mono K1.out.size))
  have X2 := hide (X1.out.next b2)
  clear HQ b2 K1 X1 c1
  have c4 := (X2.out.2 4 _ rfl).1
  have HQ := hide (heldIntS_gen (x.dr) (M2) u4 B _ (h4.stays K2.out hB) (Nat.le_trans hB K2.out.size) (by omega) (by have := HM3.out; omega))
  rw [HM3.out] at HQ
  go_wp2_with fail
  refine HQ.out.mono ?_
  rintro e w3 ⟨rfl, b3⟩
  have K3 := hide (K2.out.trans (b3.mono K2.out.size))
  have X3 := hide (X2.out.next b3)
  clear HQ b3 K2 X2 c4
  have c5 := (X3.out.2 5 _ rfl).1
  have HQ := hide (heldIntS_gen (x.us) (M3) u5 B _ (h5.stays K3.out hB) (Nat.le_trans hB K3.out.size) (by omega) (by have := HM4.out; omega))
  rw [HM4.out] at HQ
  go_wp2_with fail
  refine HQ.out.mono ?_
  rintro e w4 ⟨rfl, b4⟩
  have K4 := hide (K3.out.trans (b4.mono K3.out.size))
  have X4 := hide (X3.out.next b4)
  clear HQ b4 K3 X3 c5
  go_wp2
  go_ret
  exact ⟨rfl, K4.out⟩
end Go.Proofs.YtcgljeagjchobaaGreat
