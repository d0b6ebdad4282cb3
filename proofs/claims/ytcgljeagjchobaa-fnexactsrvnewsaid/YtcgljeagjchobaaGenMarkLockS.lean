/-
  A help of the laws, by program (tools/gen_help.py): Mark of Lock.
-/
import Derived.Test.YtcgljeagjchobaaRows
import Derived.Test.YtcgljeagjchobaaGenSrv
import Derived.Test.YtcgljeagjchobaaGenBox
import Derived.Test.YtcgljeagjchobaaGenMarkStringS
import Derived.WalkKit
import Derived.WalkSpells
import Derived.WalkLawsBesides
import Derived.Deep.Light
import Derived.Deep.QuietTactic
import Derived.Deep.RegionHeld3
namespace Go.Proofs.Ytcgljeagjchobaa
open Go.RowKit M
set_option linter.unusedVariables false

set_option maxRecDepth 100000 in
set_option maxHeartbeats 4000000 in
theorem markLockS_gen (l : List Lk) (k0 : Nat) (v : Value) (S : Nat → Prop) (w : World) (h : Own w v (.l (l.map dLk)) S) (hk1 : 1 ≤ k0) (hk : k0 + cntRs (l.map dLk) ≤ 90000000) :
    Calls Try.prog 18 #[v, .int .i64 k0] w fun e w' => e = .returned (.int .i64 ((k0 + cntRs (l.map dLk) : Nat) : Int)) ∧ Own w' v (mkF k0 (.l (l.map dLk))) S ∧ Turn S w w' := by
  obtain ⟨a, cap, rfl, hl, hm, hst⟩ := h.rows 5 (fun _ => rfl)
  have HST := hide (hst.mid0 (k0 := k0))
  have HLM := hide (And.intro hl hm)
  have HKB := hide hk
  have hn : l.length ≤ 90000000 := by have := cnt_lenF dLk (fun x => by simp [dLk, cntR, cntF]; try omega) l; omega
  have hka := kAtF_all dLk k0 l
  have HKA := hide hka
  have hk00 := kAtF_zero dLk k0 l
  clear h hst hl hm hk hka
  go_enter Try.func18, Try.ntmps18
  go_wp2
  go_loopw [1, 5] (fun kv i wr => ∃ j K : Nat, j ≤ l.length ∧ i = .int .i64 j ∧ kv = .int .i64 K ∧ Hid (K = kAtF dLk k0 l j) ∧ Hid (OwnSt wr a l.length cap 5 (midF dLk k0 l j) S) ∧ Turn S w wr) (fun _ i _ => l.length - (intOf i).toNat)
  case atStart => exact ⟨0, k0, Nat.zero_le _, rfl, rfl, hk00.symm, HST, Turn.refl _ _⟩
  case round =>
    obtain ⟨j, K, hj, rfl, rfl, hK, hR, ht⟩ := hrel
    by_cases hlt : j < l.length
    · obtain ⟨b, o, C, Sf, rfl, hG⟩ := hR.out.at (by omega)
      have hG := hG.start hlt
      have hN := kAtF_next dLk k0 l j hlt
      have hle := (kAtF_le dLk k0 l (j + 1)).2
      have hle0 := (kAtF_le dLk k0 l j).1
      obtain ⟨x, hx⟩ : ∃ x, l[j] = x := ⟨_, rfl⟩
      rw [hx] at hG hN
      rw [hN] at hle
      rw [← hK.out] at hN hle hle0
      have HX := hide hx
      clear hx
      have hsum : cntR (dLk x) = 1 + cntRs (x.pa.map dS) + 1 + 1 + 1 := by simp [dLk, cntR, cntF]; omega
      rw [hsum] at hN hle
      have hle2 := Nat.le_trans hle HKB.out
      have HNX := hide hN
      have hK1 : 1 ≤ K := Nat.le_trans hk1 hle0
      clear hle hle0 hsum hN
      obtain ⟨c0, z0⟩ := hG.hc j 0 hlt (by decide)
      simp only [Nat.add_zero] at c0 z0
      obtain ⟨c1, z1⟩ := hG.hc j 1 hlt (by decide)
      obtain ⟨C1, hG1, e1⟩ := hG.set hlt (i := 0) (by decide) (.int .i64 ((K : Int)))
      have t1 := ht.trans (Turn.set (S := S) wr ⟨b, o + j * 5 + 0, none⟩ (.int .i64 ((K : Int))) hG1.hS)
      clear hG ht
      have hO := hG1.leaf hlt 1 (.l (x.pa.map dS)) rfl
      have hce := e1 j 1 (by omega)
      rw [hce] at hO
      have HCE := hide hce
      clear hce
      have HQ1 := hide (markStringS_gen (x.pa) (K + 1) _ _ _ hO (by omega) (by omega))
      rw [show ((K + 1 : Nat) : Int) = (K : Int) + 1 from by omega] at HQ1
      obtain ⟨M1, hM1⟩ : ∃ M, K + 1 + cntRs (x.pa.map dS) = M := ⟨_, rfl⟩
      rw [hM1] at HQ1
      have hGk := hide hG1
      have htk := hide t1
      have HM1 := hide hM1
      have hbM1 : M1 ≤ 90000000 ∧ 1 ≤ M1 := by omega
      clear hO hG1 t1 hM1
      go_wp2_with fail
      refine HQ1.out.mono ?_
      rintro e w1 ⟨rfl, o1, tt1⟩
      rw [← HCE.out] at o1
      clear HCE
      have hGw1 := hGk.out.turn hlt (i := 1) (by decide) tt1 o1
      have tw1 := htk.out.trans (tt1.wide (fun y hy => (hGk.out.hs j 1 y hy).1))
      clear hGk htk HQ1 tt1 o1 c0 z0 c1 z1
      obtain ⟨c2, z2⟩ := hGw1.hc j 2 hlt (by decide)
      obtain ⟨c3, z3⟩ := hGw1.hc j 3 hlt (by decide)
      obtain ⟨c4, z4⟩ := hGw1.hc j 4 hlt (by decide)
      obtain ⟨C2, hG2, e2⟩ := hGw1.set hlt (i := 2) (by decide) (.bool (((M1 : Int)) % 3 == 0))
      have t2 := tw1.trans (Turn.set (S := S) w1 ⟨b, o + j * 5 + 2, none⟩ (.bool (((M1 : Int)) % 3 == 0)) hG2.hS)
      clear hGw1 tw1
      obtain ⟨C3, hG3, e3⟩ := hG2.set hlt (i := 3) (by decide) (.bool (((M1 : Int) + 1) % 3 == 0))
      have t3 := t2.trans (Turn.set (S := S) (w1.setCell ⟨b, o + j * 5 + 2, none⟩ (.bool (((M1 : Int)) % 3 == 0))) ⟨b, o + j * 5 + 3, none⟩ (.bool (((M1 : Int) + 1) % 3 == 0)) hG3.hS)
      clear hG2 t2
      obtain ⟨C4, hG4, e4⟩ := hG3.set hlt (i := 4) (by decide) (.int .i64 ((M1 : Int) + 1 + 1))
      have t4 := t3.trans (Turn.set (S := S) ((w1.setCell ⟨b, o + j * 5 + 2, none⟩ (.bool (((M1 : Int)) % 3 == 0))).setCell ⟨b, o + j * 5 + 3, none⟩ (.bool (((M1 : Int) + 1) % 3 == 0))) ⟨b, o + j * 5 + 4, none⟩ (.int .i64 ((M1 : Int) + 1 + 1)) hG4.hS)
      clear hG3 t3
      have HG := hide hG4
      have HT := hide t4
      clear hG4 t4
      go_wp2
      go_roundw
      case rel =>
        refine ⟨j + 1, M1 + 3, by omega, by go_num, by first | go_num | (congr 1; omega), ?_, .inr ⟨b, o, _, _, rfl, RowG.close HG.out hlt ?_⟩, HT.out⟩
        · have := HNX.out; have := HM1.out; show _ = _; omega
        · rw [HX.out, ← hK.out]
          simp [dLk, mkR, mkF, mkV, mkI, cntF, ← HM1.out]
          try omega
      case measure => simp [intOf]; omega
    · have hjn : j = l.length := by omega
      subst hjn
      have hKK := hK.out
      rw [HKA.out] at hKK
      subst hKK
      go_wp2
      go_ret
      exact ⟨rfl, hR.out.marked HLM.out.1 HLM.out.2, ht⟩
end Go.Proofs.Ytcgljeagjchobaa
