/-
  A help of the laws, by program (tools/gen_help.py): Mark of Res.
-/
import Derived.Test.YtcgljeagjchobaaRows
import Derived.Test.YtcgljeagjchobaaGenSrv
import Derived.Test.YtcgljeagjchobaaGenBox
import Derived.Test.YtcgljeagjchobaaGenMarkStringS
import Derived.Test.YtcgljeagjchobaaGenMarkPropS
import Derived.Test.YtcgljeagjchobaaMarkText
import Derived.WalkKit
import Derived.WalkSpells
import Derived.WalkLawsBesides
import Derived.Deep.Light
import Derived.Deep.QuietTactic
import Derived.Deep.RegionHeld3
namespace Go.Proofs.Ytcgljeagjchobaa
open Go.RowKit M
set_option linter.unusedVariables false

set_option maxRecDepth 100000 in
set_option maxHeartbeats 4000000 in
theorem markResS_gen (l : List Rs) (k0 : Nat) (v : Value) (S : Nat → Prop) (w : World) (h : Own w v (.l (l.map dRs)) S) (hk1 : 1 ≤ k0) (hk : k0 + cntRs (l.map dRs) ≤ 90000000) :
    Calls Try.prog 17 #[v, .int .i64 k0] w fun e w' => e = .returned (.int .i64 ((k0 + cntRs (l.map dRs) : Nat) : Int)) ∧ Own w' v (mkF k0 (.l (l.map dRs))) S ∧ Turn S w w' := by
  obtain ⟨a, cap, rfl, hl, hm, hst⟩ := h.rows 5 (fun _ => rfl)
  have HST := hide (hst.mid0 (k0 := k0))
  have HLM := hide (And.intro hl hm)
  have HKB := hide hk
  have hn : l.length ≤ 90000000 := by have := cnt_lenF dRs (fun x => by simp [dRs, cntR, cntF]; try omega) l; omega
  have hka := kAtF_all dRs k0 l
  have HKA := hide hka
  have hk00 := kAtF_zero dRs k0 l
  clear h hst hl hm hk hka
  go_enter Try.func17, Try.ntmps17
  go_wp2
  go_loopw [1, 5] (fun kv i wr => ∃ j K : Nat, j ≤ l.length ∧ i = .int .i64 j ∧ kv = .int .i64 K ∧ Hid (K = kAtF dRs k0 l j) ∧ Hid (OwnSt wr a l.length cap 5 (midF dRs k0 l j) S) ∧ Turn S w wr) (fun _ i _ => l.length - (intOf i).toNat)
  case atStart => exact ⟨0, k0, Nat.zero_le _, rfl, rfl, hk00.symm, HST, Turn.refl _ _⟩
  case round =>
    obtain ⟨j, K, hj, rfl, rfl, hK, hR, ht⟩ := hrel
    by_cases hlt : j < l.length
    · obtain ⟨b, o, C, Sf, rfl, hG⟩ := hR.out.at (by omega)
      have hG := hG.start hlt
      have hN := kAtF_next dRs k0 l j hlt
      have hle := (kAtF_le dRs k0 l (j + 1)).2
      have hle0 := (kAtF_le dRs k0 l j).1
      obtain ⟨x, hx⟩ : ∃ x, l[j] = x := ⟨_, rfl⟩
      rw [hx] at hG hN
      rw [hN] at hle
      rw [← hK.out] at hN hle hle0
      have HX := hide hx
      clear hx
      have hsum : cntR (dRs x) = cntRs (x.pa.map dS) + 1 + 1 + 1 + cntRs (x.ps.map dPp) := by simp [dRs, cntR, cntF]; omega
      rw [hsum] at hN hle
      have hle2 := Nat.le_trans hle HKB.out
      have HNX := hide hN
      have hK1 : 1 ≤ K := Nat.le_trans hk1 hle0
      clear hle hle0 hsum hN
      obtain ⟨c0, z0⟩ := hG.hc j 0 hlt (by decide)
      simp only [Nat.add_zero] at c0 z0
      have hO := hG.leaf hlt 0 (.l (x.pa.map dS)) rfl
      have HQ0 := hide (markStringS_gen (x.pa) (K) _ _ _ hO (by omega) (by omega))
      obtain ⟨M0, hM0⟩ : ∃ M, K + cntRs (x.pa.map dS) = M := ⟨_, rfl⟩
      rw [hM0] at HQ0
      have hGk := hide hG
      have htk := hide ht
      have HM0 := hide hM0
      have hbM0 : M0 ≤ 90000000 ∧ 1 ≤ M0 := by omega
      clear hO hG ht hM0
      go_wp2_with fail
      refine HQ0.out.mono ?_
      rintro e w1 ⟨rfl, o1, tt1⟩
      have hGw1 := hGk.out.turn hlt (i := 0) (by decide) tt1 o1
      have tw1 := htk.out.trans (tt1.wide (fun y hy => (hGk.out.hs j 0 y hy).1))
      clear hGk htk HQ0 tt1 o1 c0 z0
      obtain ⟨c1, z1⟩ := hGw1.hc j 1 hlt (by decide)
      obtain ⟨c2, z2⟩ := hGw1.hc j 2 hlt (by decide)
      obtain ⟨C1, hG1, e1⟩ := hGw1.set hlt (i := 1) (by decide) (.bool (((M0 : Int)) % 3 == 0))
      have t1 := tw1.trans (Turn.set (S := S) w1 ⟨b, o + j * 5 + 1, none⟩ (.bool (((M0 : Int)) % 3 == 0)) hG1.hS)
      clear hGw1 tw1
      have HQ2 := hide (show ∀ W, _ from fun W => markText_any (M0 + 1) (by omega) (by omega) W)
      rw [show ((M0 + 1 : Nat) : Int) = (M0 : Int) + 1 from by omega] at HQ2
      have hGk := hide hG1
      have htk := hide t1
      clear hG1 t1
      go_wp2_with fail
      refine (HQ2.out _).mono ?_
      rintro e w2 ⟨rfl, b2⟩
      have hGw2 := hGk.out.below b2
      have tw2 := htk.out.trans (Turn.of_below b2)
      clear hGk htk HQ2 b2 c1 z1 c2 z2
      clear e1
      obtain ⟨c2, z2⟩ := hGw2.hc j 2 hlt (by decide)
      obtain ⟨c3, z3⟩ := hGw2.hc j 3 hlt (by decide)
      obtain ⟨c4, z4⟩ := hGw2.hc j 4 hlt (by decide)
      obtain ⟨C2, hG2, e2⟩ := hGw2.set hlt (i := 2) (by decide) (.string (mt (M0 + 1)))
      have t2 := tw2.trans (Turn.set (S := S) w2 ⟨b, o + j * 5 + 2, none⟩ (.string (mt (M0 + 1))) hG2.hS)
      clear hGw2 tw2
      obtain ⟨C3, hG3, e3⟩ := hG2.set hlt (i := 3) (by decide) (.int .i64 ((M0 : Int) + 1 + 1))
      have t3 := t2.trans (Turn.set (S := S) (w2.setCell ⟨b, o + j * 5 + 2, none⟩ (.string (mt (M0 + 1)))) ⟨b, o + j * 5 + 3, none⟩ (.int .i64 ((M0 : Int) + 1 + 1)) hG3.hS)
      clear hG2 t2
      have hO := hG3.leaf hlt 4 (.l (x.ps.map dPp)) rfl
      have hce := (e3 j 4 (by omega)).trans (e2 j 4 (by omega))
      rw [hce] at hO
      have HCE := hide hce
      clear hce
      have HQ4 := hide (markPropS_gen (x.ps) (M0 + 3) _ _ _ hO (by have := HM0.out; omega) (by have := HM0.out; omega))
      rw [show ((M0 + 3 : Nat) : Int) = (M0 : Int) + 1 + 1 + 1 from by omega] at HQ4
      obtain ⟨M4, hM4⟩ : ∃ M, M0 + 3 + cntRs (x.ps.map dPp) = M := ⟨_, rfl⟩
      rw [hM4] at HQ4
      have hGk := hide hG3
      have htk := hide t3
      have HM4 := hide hM4
      have hbM4 : M4 ≤ 90000000 ∧ 1 ≤ M4 := by have := HM0.out; omega
      clear hO hG3 t3 hM4
      go_wp2_with fail
      refine HQ4.out.mono ?_
      rintro e w3 ⟨rfl, o3, tt3⟩
      rw [← HCE.out] at o3
      clear HCE
      have hGw3 := hGk.out.turn hlt (i := 4) (by decide) tt3 o3
      have tw3 := htk.out.trans (tt3.wide (fun y hy => (hGk.out.hs j 4 y hy).1))
      clear hGk htk HQ4 tt3 o3 c2 z2 c3 z3 c4 z4
      have HG := hide hGw3
      have HT := hide tw3
      clear hGw3 tw3
      go_wp2
      go_roundw
      case rel =>
        refine ⟨j + 1, M4, by omega, by go_num, by first | go_num | (congr 1; omega), ?_, .inr ⟨b, o, _, _, rfl, RowG.close HG.out hlt ?_⟩, HT.out⟩
        · have := HNX.out; have := HM0.out; have := HM4.out; show _ = _; omega
        · rw [HX.out, ← hK.out]
          simp [dRs, mkR, mkF, mkV, mkI, cntF, ← HM0.out]
          try omega
      case measure => simp [intOf]; omega
    · have hjn : j = l.length := by omega
      subst hjn
      have hKK := hK.out
      rw [HKA.out] at hKK
      subst hKK
      go_wp2
      go_ret
      exact ⟨rfl, hR.out.marked HLM.out.1 HLM.out.2, ht⟩
end Go.Proofs.Ytcgljeagjchobaa
