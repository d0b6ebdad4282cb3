/-
  A help of the laws, by program (tools/gen_help.py): Held of Int.
  A help of the laws, by program (tools/gen_help.py): He1 of Ask.
  A help of the laws, by program (tools/gen_help.py): Eq1 of Ask.
-/
import Derived.Test.YtfhcniifennfbaaGreatDoorRows
import Derived.Test.YtfhcniifennfbaaGreatDoorMathMark2
import Derived.WalkKit
import Derived.WalkSpells
import Derived.WalkLawsBesides
import Derived.Deep.Light
import Derived.Deep.QuietTactic
import Derived.Deep.RegionHeld3
import Derived.Test.YtfhcniifennfbaaGreatDoorGenAsk
import Derived.Test.YtfhcniifennfbaaGreatDoorGenHeldStringS
import Derived.Test.YtfhcniifennfbaaGreatDoorGenEqqResS
import Derived.Test.YtfhcniifennfbaaGreatDoorGenEqqHeadS
namespace Go.Proofs.YtfhcniifennfbaaGreatDoor
open Go.RowKit M
set_option linter.unusedVariables false

set_option maxRecDepth 100000 in
set_option maxHeartbeats 4000000 in
theorem heldIntS_gen (l : List Int) (k0 : Nat) (v : Value) (B : Nat) (w : World) (h : View w B v (mkF k0 (.l (l.map dI)))) (hB : B ≤ w.heap.size) (hk1 : 1 ≤ k0) (hk : k0 + cntRs (l.map dI) ≤ 90000000) :
    Calls Tryz.prog 43 #[v, .int .i64 k0] w fun e w' => e = .returned (.int .i64 ((k0 + cntRs (l.map dI) : Nat) : Int)) ∧ Below w.heap.size w w' := by
  obtain ⟨a, cap, rfl, hl, hm, hat⟩ := h.marked 1 (fun _ => rfl)
  have HAT := hide hat
  have HKB := hide hk
  have hn : l.length ≤ 90000000 := by have := cnt_lenF dI (fun x => by simp [dI, cntR, cntF]; try omega) l; omega
  have hka := kAtF_all dI k0 l
  have HKA := hide hka
  have hk00 := kAtF_zero dI k0 l
  clear h hat hl hm hk hka
  go_enter Tryz.func43, Tryz.ntmps43
  go_wp2
  go_loopw [1, 5] (fun kv i wr => ∃ j K : Nat, j ≤ l.length ∧ i = .int .i64 j ∧ kv = .int .i64 K ∧ Hid (K = kAtF dI k0 l j) ∧ Below w.heap.size w wr) (fun _ i _ => l.length - (intOf i).toNat)
  case atStart => exact ⟨0, k0, Nat.zero_le _, rfl, rfl, hk00.symm, Below.refl _ _⟩
  case round =>
    obtain ⟨j, K, hj, rfl, rfl, hK, hbe⟩ := hrel
    by_cases hlt : j < l.length
    · obtain ⟨b, o, C, rfl, hb, hc⟩ := HAT.out (by omega)
      have hcj := hc j hlt
      have hN := kAtF_next dI k0 l j hlt
      have hle := (kAtF_le dI k0 l (j + 1)).2
      have hle0 := (kAtF_le dI k0 l j).1
      have hbw : b < w.heap.size := Nat.lt_of_lt_of_le hb hB
      have hi0 : (0 : Int) ≤ (j : Int) := by omega
      have hi1 : (j : Int) < (l.length : Int) := by omega
      obtain ⟨x, hx⟩ : ∃ x, l[j] = x := ⟨_, rfl⟩
      rw [hx] at hcj hN
      rw [hN] at hle
      rw [← hK.out] at hcj hN hle hle0
      clear hx hc
      have hsum : cntR (dI x) = 1 := by simp [dI, cntR, cntF]
      rw [hsum] at hN hle
      have hle2 := Nat.le_trans hle HKB.out
      have HNX := hide hN
      have hK1 : 1 ≤ K := Nat.le_trans hk1 hle0
      clear hle hle0 hsum hN
      have q0 := hcj 0 (.c (.int .i64 ((K : Nat) : Int))) rfl
      have u0 : w.cell? ⟨b, o + j, none⟩ = some (.int .i64 ((K : Int))) := by
        have e := q0.2.inv
        have c := q0.1
        simp only [Nat.mul_one, Nat.add_zero] at c
        rw [c, e]
      clear q0
      clear hcj
      have c0 := (hbe.cell (p := ⟨b, o + j, none⟩) hbw).trans u0
      have HT := hide hbe
      go_wp2
      go_roundw
      case rel => exact ⟨j + 1, K + 1, by omega, by go_num, by first | go_num | (congr 1; omega), (by have := HNX.out; show _ = _; omega), HT.out⟩
      case measure => simp [intOf]; omega
    · have hjn : j = l.length := by omega
      subst hjn
      have hKK := hK.out
      rw [HKA.out] at hKK
      subst hKK
      go_wp2
      go_ret
      exact ⟨rfl, hbe⟩
end Go.Proofs.YtfhcniifennfbaaGreatDoor
namespace Go.Proofs.YtfhcniifennfbaaGreatDoor
open Go.RowKit M
set_option linter.unusedVariables false

set_option maxRecDepth 100000 in
set_option maxHeartbeats 4000000 in
theorem heldAsk_gen (x : Ak) (u0 u1 u4 : Value) (k0 B : Nat) (w : World) (h0 : View w B u0 (mkF (k0) (.l (x.pa.map dS)))) (h1 : View w B u1 (mkF (k0 + cntRs (x.pa.map dS)) (.l (x.to.map dS)))) (h4 : View w B u4 (mkF (k0 + cntRs (x.pa.map dS) + cntRs (x.to.map dS)) (.l (x.tk.map dI)))) (hB : B ≤ w.heap.size) (hk1 : 1 ≤ k0) (hk : k0 + cntRs (x.pa.map dS) + cntRs (x.to.map dS) + cntRs (x.tk.map dI) ≤ 90000000) :
    Calls Tryz.prog 16 #[.agg #[u0, u1, .bool x.de, .bool x.ov, u4, .int .i64 x.co], .int .i64 k0] w fun e w' => e = .returned (.int .i64 ((k0 + cntRs (x.pa.map dS) + cntRs (x.to.map dS) + cntRs (x.tk.map dI) : Nat) : Int)) ∧ Below w.heap.size w w' := by
  have b0 := (Below.refl w.heap.size w).alloc (Nat.le_refl _) (Obj.cells #[u0, u1, .bool x.de, .bool x.ov, u4, .int .i64 x.co] 34)
  have X0 := hide (BoxV.made w [u0, u1, .bool x.de, .bool x.ov, u4, .int .i64 x.co] 34)
  have K0 := hide b0
  clear b0
  obtain ⟨M1, hM1⟩ : ∃ M, k0 + cntRs (x.pa.map dS) = M := ⟨_, rfl⟩
  obtain ⟨M2, hM2⟩ : ∃ M, M1 + cntRs (x.to.map dS) = M := ⟨_, rfl⟩
  obtain ⟨M3, hM3⟩ : ∃ M, M2 + cntRs (x.tk.map dI) = M := ⟨_, rfl⟩
  rw [hM1, hM2, hM3] at hk
  have hb : M1 ≤ 90000000 ∧ 1 ≤ M1 ∧ M2 ≤ 90000000 ∧ 1 ≤ M2 ∧ M3 ≤ 90000000 ∧ 1 ≤ M3 := by omega
  rw [hM1] at h1
  rw [hM1, hM2] at h4
  rw [hM1, hM2, hM3]
  have HM1 := hide hM1
  clear hM1
  have HM2 := hide hM2
  clear hM2
  have HM3 := hide hM3
  clear hM3
  go_enter Tryz.func16, Tryz.ntmps16
  have HQ := hide (heldStringS_gen (x.pa) (k0) u0 B _ (h0.stays K0.out hB) (Nat.le_trans hB K0.out.size) (by omega) (by have := HM1.out; omega))
  rw [HM1.out] at HQ
  go_wp2_with fail
  refine HQ.out.mono ?_
  rintro e w1 ⟨rfl, b1⟩
  have K1 := hide (K0.out.trans (b1.mono K0.out.size))
  have X1 := hide (X0.out.next b1)
  clear HQ b1 K0 X0
  have c1 := (X1.out.2 1 _ rfl).1
  have HQ := hide (heldStringS_gen (x.to) (M1) u1 B _ (h1.stays K1.out hB) (Nat.le_trans hB K1.out.size) (by omega) (by have := HM2.out; omega))
  rw [HM2.out] at HQ
  go_wp2_with fail
  refine HQ.out.mono ?_
  rintro e w2 ⟨rfl, b2⟩
  have K2 := hide (K1.out.trans (b2.mono K1.out.size))
  have X2 := hide (X1.out.next b2)
  clear HQ b2 K1 X1 c1
  have c4 := (X2.out.2 4 _ rfl).1
  have HQ := hide (heldIntS_gen (x.tk) (M2) u4 B _ (h4.stays K2.out hB) (Nat.le_trans hB K2.out.size) (by omega) (by have := HM3.out; omega))
  rw [HM3.out] at HQ
  go_wp2_with fail
  refine HQ.out.mono ?_
  rintro e w3 ⟨rfl, b3⟩
  have K3 := hide (K2.out.trans (b3.mono K2.out.size))
  have X3 := hide (X2.out.next b3)
  clear HQ b3 K2 X2 c4
  go_wp2
  go_ret
  exact ⟨rfl, K3.out⟩
end Go.Proofs.YtfhcniifennfbaaGreatDoor
namespace Go.Proofs.YtfhcniifennfbaaGreatDoor
open Go.RowKit M
set_option linter.unusedVariables false

set_option maxRecDepth 100000 in
set_option maxHeartbeats 4000000 in
theorem eqAsk_gen (x : Ak) (u0 t0 u1 t1 u4 t4 : Value) (B C : Nat) (w : World) (h0 : View w B u0 (.l (x.pa.map dS))) (j0 : View w C t0 (.l (x.pa.map dS))) (h1 : View w B u1 (.l (x.to.map dS))) (j1 : View w C t1 (.l (x.to.map dS))) (h4 : View w B u4 (.l (x.tk.map dI))) (j4 : View w C t4 (.l (x.tk.map dI))) (hB : B ≤ w.heap.size) (hC : C ≤ w.heap.size) :
    Calls Tryz.prog 10 #[.agg #[u0, u1, .bool x.de, .bool x.ov, u4, .int .i64 x.co], .agg #[t0, t1, .bool x.de, .bool x.ov, t4, .int .i64 x.co]] w fun e w' => e = .returned (.bool true) ∧ Below w.heap.size w w' := by
  have K0 := hide (show Below w.heap.size w ((w.alloc (Obj.cells #[u0, u1, .bool x.de, .bool x.ov, u4, .int .i64 x.co] 34)).alloc (Obj.cells #[t0, t1, .bool x.de, .bool x.ov, t4, .int .i64 x.co] 34)) from ((Below.refl _ _).alloc (Nat.le_refl _) _).alloc (by simp) _)
  have X0 := hide (show BoxV ((w.alloc (Obj.cells #[u0, u1, .bool x.de, .bool x.ov, u4, .int .i64 x.co] 34)).alloc (Obj.cells #[t0, t1, .bool x.de, .bool x.ov, t4, .int .i64 x.co] 34)) w.heap.size [u0, u1, .bool x.de, .bool x.ov, u4, .int .i64 x.co] from (BoxV.made w [u0, u1, .bool x.de, .bool x.ov, u4, .int .i64 x.co] 34).alloc _)
  have Y0 := hide (show BoxV ((w.alloc (Obj.cells #[u0, u1, .bool x.de, .bool x.ov, u4, .int .i64 x.co] 34)).alloc (Obj.cells #[t0, t1, .bool x.de, .bool x.ov, t4, .int .i64 x.co] 34)) (w.heap.size + 1) [t0, t1, .bool x.de, .bool x.ov, t4, .int .i64 x.co] by have h := BoxV.made (w.alloc (Obj.cells #[u0, u1, .bool x.de, .bool x.ov, u4, .int .i64 x.co] 34)) [t0, t1, .bool x.de, .bool x.ov, t4, .int .i64 x.co] 34; simpa using h)
  have e5 : (x.co == x.co) = true := beq_self_eq_true _
  go_enter Tryz.func10, Tryz.ntmps10
  have HQ := hide (eqStringS_gen (x.pa) u0 t0 B C _ (h0.stays K0.out hB) (j0.stays K0.out hC) (Nat.le_trans hB K0.out.size) (Nat.le_trans hC K0.out.size))
  go_wp2_with fail
  refine HQ.out.mono ?_
  rintro e w1 ⟨rfl, b1⟩
  have K1 := hide (K0.out.trans (b1.mono K0.out.size))
  have X1 := hide (X0.out.next b1)
  have Y1 := hide (Y0.out.next b1)
  clear HQ b1 K0 X0 Y0
  have c1 := (X1.out.2 1 _ rfl).1
  have d1 := (Y1.out.2 1 _ rfl).1
  have HQ := hide (eqStringS_gen (x.to) u1 t1 B C _ (h1.stays K1.out hB) (j1.stays K1.out hC) (Nat.le_trans hB K1.out.size) (Nat.le_trans hC K1.out.size))
  go_wp2_with fail
  refine HQ.out.mono ?_
  rintro e w2 ⟨rfl, b2⟩
  have K2 := hide (K1.out.trans (b2.mono K1.out.size))
  have X2 := hide (X1.out.next b2)
  have Y2 := hide (Y1.out.next b2)
  clear HQ b2 K1 X1 Y1 c1 d1
  have c2 := (X2.out.2 2 _ rfl).1
  have d2 := (Y2.out.2 2 _ rfl).1
  have c3 := (X2.out.2 3 _ rfl).1
  have d3 := (Y2.out.2 3 _ rfl).1
  have c4 := (X2.out.2 4 _ rfl).1
  have d4 := (Y2.out.2 4 _ rfl).1
  have HQ := hide (eqIntS_gen (x.tk) u4 t4 B C _ (h4.stays K2.out hB) (j4.stays K2.out hC) (Nat.le_trans hB K2.out.size) (Nat.le_trans hC K2.out.size))
  go_wp2_with fail
  refine HQ.out.mono ?_
  rintro e w3 ⟨rfl, b3⟩
  have K3 := hide (K2.out.trans (b3.mono K2.out.size))
  have X3 := hide (X2.out.next b3)
  have Y3 := hide (Y2.out.next b3)
  clear HQ b3 K2 X2 Y2 c2 d2 c3 d3 c4 d4
  have c5 := (X3.out.2 5 _ rfl).1
  have d5 := (Y3.out.2 5 _ rfl).1
  go_wp2
  go_ret
  exact ⟨rfl, K3.out⟩
end Go.Proofs.YtfhcniifennfbaaGreatDoor
