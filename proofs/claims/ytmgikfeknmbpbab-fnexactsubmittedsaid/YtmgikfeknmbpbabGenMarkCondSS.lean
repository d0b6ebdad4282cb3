/-
  A help of the laws, by program (tools/gen_help.py): Mark of CondS.
-/
import Derived.Test.YtmgikfeknmbpbabRows
import Derived.Test.YtmgikfeknmbpbabGenLeaf
import Derived.Test.YtmgikfeknmbpbabGenBox
import Derived.Test.YtmgikfeknmbpbabGenCond
import Derived.Test.YtmgikfeknmbpbabGenMarkCondS
import Derived.WalkKit
import Derived.WalkSpells
import Derived.WalkLawsBesides
import Derived.Deep.Light
import Derived.Deep.QuietTactic
import Derived.Deep.RegionHeld3
namespace Go.Proofs.Ytmgikfeknmbpbab
open Go.RowKit M
set_option linter.unusedVariables false

set_option maxRecDepth 100000 in
set_option maxHeartbeats 4000000 in
theorem markCondSS_gen (l : List (List Cn)) (k0 : Nat) (v : Value) (S : Nat → Prop) (w : World) (h : Own w v (.l (l.map dCs)) S) (hk1 : 1 ≤ k0) (hk : k0 + cntRs (l.map dCs) ≤ 90000000) (hn : l.length ≤ 90000000) :
    Calls Try.prog 14 #[v, .int .i64 k0] w fun e w' => e = .returned (.int .i64 ((k0 + cntRs (l.map dCs) : Nat) : Int)) ∧ Own w' v (mkF k0 (.l (l.map dCs))) S ∧ Turn S w w' := by
  obtain ⟨a, cap, rfl, hl, hm, hst⟩ := h.rows 1 (fun _ => rfl)
  have HST := hide (hst.mid0 (k0 := k0))
  have HLM := hide (And.intro hl hm)
  have HKB := hide hk
  have hka := kAtF_all dCs k0 l
  have HKA := hide hka
  have hk00 := kAtF_zero dCs k0 l
  clear h hst hl hm hk hka
  go_enter Try.func14, Try.ntmps14
  go_wp2
  go_loopw [1, 5] (fun kv i wr => ∃ j K : Nat, j ≤ l.length ∧ i = .int .i64 j ∧ kv = .int .i64 K ∧ Hid (K = kAtF dCs k0 l j) ∧ Hid (OwnSt wr a l.length cap 1 (midF dCs k0 l j) S) ∧ Turn S w wr) (fun _ i _ => l.length - (intOf i).toNat)
  case atStart => exact ⟨0, k0, Nat.zero_le _, rfl, rfl, hk00.symm, HST, Turn.refl _ _⟩
  case round =>
    obtain ⟨j, K, hj, rfl, rfl, hK, hR, ht⟩ := hrel
    by_cases hlt : j < l.length
    · obtain ⟨b, o, C, Sf, rfl, hG⟩ := hR.out.at (by omega)
      have hG := hG.start hlt
      have hN := kAtF_next dCs k0 l j hlt
      have hle := (kAtF_le dCs k0 l (j + 1)).2
      have hle0 := (kAtF_le dCs k0 l j).1
      obtain ⟨x, hx⟩ : ∃ x, l[j] = x := ⟨_, rfl⟩
      rw [hx] at hG hN
      rw [hN] at hle
      rw [← hK.out] at hN hle hle0
      have HX := hide hx
      clear hx
      have hsum : cntR (dCs x) = cntRs (x.map dCn) := by simp [dCs, cntR, cntF]
      rw [hsum] at hN hle
      have hle2 := Nat.le_trans hle HKB.out
      have HNX := hide hN
      have hK1 : 1 ≤ K := Nat.le_trans hk1 hle0
      clear hle hle0 hsum hN
      obtain ⟨c0, z0⟩ := hG.hc j 0 hlt (by decide)
      simp only [Nat.mul_one, Nat.add_zero] at c0 z0
      have hO := hG.leaf hlt 0 (.l (x.map dCn)) rfl
      have HQ0 := hide (markCondS_gen (x) (K) _ _ _ hO (by omega) (by omega))
      obtain ⟨M0, hM0⟩ : ∃ M, K + cntRs (x.map dCn) = M := ⟨_, rfl⟩
      rw [hM0] at HQ0
      have hGk := hide hG
      have htk := hide ht
      have HM0 := hide hM0
      have hbM0 : M0 ≤ 90000000 ∧ 1 ≤ M0 := by omega
      clear hO hG ht hM0
      go_wp2_with fail
      refine HQ0.out.mono ?_
      rintro e w1 ⟨rfl, o1, tt1⟩
      have hGw1 := hGk.out.turn hlt (i := 0) (by decide) tt1 o1
      have tw1 := htk.out.trans (tt1.wide (fun y hy => (hGk.out.hs j 0 y hy).1))
      clear hGk htk HQ0 tt1 o1 c0 z0
      have HG := hide hGw1
      have HT := hide tw1
      clear hGw1 tw1
      go_wp2
      go_roundw
      case rel =>
        refine ⟨j + 1, M0, by omega, by go_num, by first | go_num | (congr 1; omega), ?_, .inr ⟨b, o, _, _, rfl, RowG.close HG.out hlt ?_⟩, HT.out⟩
        · have := HNX.out; have := HM0.out; show _ = _; omega
        · rw [HX.out, ← hK.out]
          simp [dCs, mkR, mkF]
      case measure => simp [intOf]; omega
    · have hjn : j = l.length := by omega
      subst hjn
      have hKK := hK.out
      rw [HKA.out] at hKK
      subst hKK
      go_wp2
      go_ret
      exact ⟨rfl, hR.out.marked HLM.out.1 HLM.out.2, ht⟩
end Go.Proofs.Ytmgikfeknmbpbab
