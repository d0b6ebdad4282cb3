/-
  A help of the laws, by program (tools/gen_help.py): He1 of Srv.
-/
import Derived.Test.YtcgljeagjchobaaRows
import Derived.Test.YtcgljeagjchobaaGenSrv
import Derived.Test.YtcgljeagjchobaaGenBox
import Derived.Test.YtcgljeagjchobaaGenHeldResS
import Derived.Test.YtcgljeagjchobaaGenHeldLockS
import Derived.Test.YtcgljeagjchobaaGenHeldIntS
import Derived.WalkKit
import Derived.WalkSpells
import Derived.WalkLawsBesides
import Derived.Deep.Light
import Derived.Deep.QuietTactic
import Derived.Deep.RegionHeld3
namespace Go.Proofs.Ytcgljeagjchobaa
open Go.RowKit M
set_option linter.unusedVariables false

set_option maxRecDepth 100000 in
set_option maxHeartbeats 4000000 in
theorem heldSrv_gen (x : Sv) (u0 u1 u4 u5 : Value) (k0 B : Nat) (w : World) (h0 : View w B u0 (mkF (k0) (.l (x.t.map dRs)))) (h1 : View w B u1 (mkF (k0 + cntRs (x.t.map dRs)) (.l (x.l.map dLk)))) (h4 : View w B u4 (mkF (k0 + cntRs (x.t.map dRs) + cntRs (x.l.map dLk)) (.l (x.dr.map dI)))) (h5 : View w B u5 (mkF (k0 + cntRs (x.t.map dRs) + cntRs (x.l.map dLk) + cntRs (x.dr.map dI)) (.l (x.us.map dI)))) (hB : B ≤ w.heap.size) (hk1 : 1 ≤ k0) (hk : k0 + cntRs (x.t.map dRs) + cntRs (x.l.map dLk) + cntRs (x.dr.map dI) + cntRs (x.us.map dI) ≤ 90000000) :
    Calls Try.prog 9 #[.agg #[u0, u1, .int .i64 x.now, .int .i64 x.ver, u4, u5], .int .i64 k0] w fun e w' => e = .returned (.int .i64 ((k0 + cntRs (x.t.map dRs) + cntRs (x.l.map dLk) + cntRs (x.dr.map dI) + cntRs (x.us.map dI) : Nat) : Int)) ∧ Below w.heap.size w w' := by
  have b0 := (Below.refl w.heap.size w).alloc (Nat.le_refl _) (Obj.cells #[u0, u1, .int .i64 x.now, .int .i64 x.ver, u4, u5] 26)
  have X0 := hide (BoxV.made w [u0, u1, .int .i64 x.now, .int .i64 x.ver, u4, u5] 26)
  have K0 := hide b0
  clear b0
  obtain ⟨M1, hM1⟩ : ∃ M, k0 + cntRs (x.t.map dRs) = M := ⟨_, rfl⟩
  obtain ⟨M2, hM2⟩ : ∃ M, M1 + cntRs (x.l.map dLk) = M := ⟨_, rfl⟩
  obtain ⟨M3, hM3⟩ : ∃ M, M2 + cntRs (x.dr.map dI) = M := ⟨_, rfl⟩
  obtain ⟨M4, hM4⟩ : ∃ M, M3 + cntRs (x.us.map dI) = M := ⟨_, rfl⟩
  rw [hM1, hM2, hM3, hM4] at hk
  have hb : M1 ≤ 90000000 ∧ 1 ≤ M1 ∧ M2 ≤ 90000000 ∧ 1 ≤ M2 ∧ M3 ≤ 90000000 ∧ 1 ≤ M3 ∧ M4 ≤ 90000000 ∧ 1 ≤ M4 := by omega
  rw [hM1] at h1
  rw [hM1, hM2] at h4
  rw [hM1, hM2, hM3] at h5
  rw [hM1, hM2, hM3, hM4]
  have HM1 := hide hM1
  clear hM1
  have HM2 := hide hM2
  clear hM2
  have HM3 := hide hM3
  clear hM3
  have HM4 := hide hM4
  clear hM4
  go_enter Try.func9, Try.ntmps9
  have HQ := hide (heldResS_gen (x.t) (k0) u0 B _ (h0.stays K0.out hB) (Nat.le_trans hB K0.out.size) (by omega) (by have := HM1.out; omega))
  rw [HM1.out] at HQ
  go_wp2_with fail
  refine HQ.out.mono ?_
  rintro e w1 ⟨rfl, b1⟩
  have K1 := hide (K0.out.trans (b1.mono K0.out.size))
  have X1 := hide (X0.out.next b1)
  clear HQ b1 K0 X0
  have c1 := (X1.out.2 1 _ rfl).1
  have HQ := hide (heldLockS_gen (x.l) (M1) u1 B _ (h1.stays K1.out hB) (Nat.le_trans hB K1.out.size) (by omega) (by have := HM2.out; omega))
  rw [HM2.out] at HQ
  go_wp2_with fail
  refine HQ.out.mono ?_
  rintro e w2 ⟨rfl, b2⟩
  have K2 := hide (K1.out.trans (b2.mono K1.out.size))
  have X2 := hide (X1.out.next b2)
  clear HQ b2 K1 X1 c1
  have c4 := (X2.out.2 4 _ rfl).1
  have HQ := hide (heldIntS_gen (x.dr) (M2) u4 B _ (h4.stays K2.out hB) (Nat.le_trans hB K2.out.size) (by omega) (by have := HM3.out; omega))
  rw [HM3.out] at HQ
  go_wp2_with fail
  refine HQ.out.mono ?_
  rintro e w3 ⟨rfl, b3⟩
  have K3 := hide (K2.out.trans (b3.mono K2.out.size))
  have X3 := hide (X2.out.next b3)
  clear HQ b3 K2 X2 c4
  have c5 := (X3.out.2 5 _ rfl).1
  have HQ := hide (heldIntS_gen (x.us) (M3) u5 B _ (h5.stays K3.out hB) (Nat.le_trans hB K3.out.size) (by omega) (by have := HM4.out; omega))
  rw [HM4.out] at HQ
  go_wp2_with fail
  refine HQ.out.mono ?_
  rintro e w4 ⟨rfl, b4⟩
  have K4 := hide (K3.out.trans (b4.mono K3.out.size))
  have X4 := hide (X3.out.next b4)
  clear HQ b4 K3 X3 c5
  go_wp2
  go_ret
  exact ⟨rfl, K4.out⟩
end Go.Proofs.Ytcgljeagjchobaa
