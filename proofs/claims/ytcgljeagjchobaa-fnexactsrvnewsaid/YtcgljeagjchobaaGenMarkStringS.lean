/-
  A help of the laws, by program (tools/gen_help.py): Mark of String.
-/
import Derived.Test.YtcgljeagjchobaaRows
import Derived.Test.YtcgljeagjchobaaGenSrv
import Derived.Test.YtcgljeagjchobaaGenBox
import Derived.Test.YtcgljeagjchobaaMarkText
import Derived.WalkKit
import Derived.WalkSpells
import Derived.WalkLawsBesides
import Derived.Deep.Light
import Derived.Deep.QuietTactic
import Derived.Deep.RegionHeld3
namespace Go.Proofs.Ytcgljeagjchobaa
open Go.RowKit M
set_option linter.unusedVariables false

set_option maxRecDepth 100000 in
set_option maxHeartbeats 4000000 in
theorem markStringS_gen (l : List ByteArray) (k0 : Nat) (v : Value) (S : Nat → Prop) (w : World) (h : Own w v (.l (l.map dS)) S) (hk1 : 1 ≤ k0) (hk : k0 + cntRs (l.map dS) ≤ 90000000) :
    Calls Try.prog 39 #[v, .int .i64 k0] w fun e w' => e = .returned (.int .i64 ((k0 + cntRs (l.map dS) : Nat) : Int)) ∧ Own w' v (mkF k0 (.l (l.map dS))) S ∧ Turn S w w' := by
  obtain ⟨a, cap, rfl, hl, hm, hst⟩ := h.rows 1 (fun _ => rfl)
  have HST := hide (hst.mid0 (k0 := k0))
  have HLM := hide (And.intro hl hm)
  have HKB := hide hk
  have hn : l.length ≤ 90000000 := by have := cnt_lenF dS (fun x => by simp [dS, cntR, cntF]; try omega) l; omega
  have hka := kAtF_all dS k0 l
  have HKA := hide hka
  have hk00 := kAtF_zero dS k0 l
  clear h hst hl hm hk hka
  go_enter Try.func39, Try.ntmps39
  go_wp2
  go_loopw [1, 5] (fun kv i wr => ∃ j K : Nat, j ≤ l.length ∧ i = .int .i64 j ∧ kv = .int .i64 K ∧ Hid (K = kAtF dS k0 l j) ∧ Hid (OwnSt wr a l.length cap 1 (midF dS k0 l j) S) ∧ Turn S w wr) (fun _ i _ => l.length - (intOf i).toNat)
  case atStart => exact ⟨0, k0, Nat.zero_le _, rfl, rfl, hk00.symm, HST, Turn.refl _ _⟩
  case round =>
    obtain ⟨j, K, hj, rfl, rfl, hK, hR, ht⟩ := hrel
    by_cases hlt : j < l.length
    · obtain ⟨b, o, C, Sf, rfl, hG⟩ := hR.out.at (by omega)
      have hG := hG.start hlt
      have hN := kAtF_next dS k0 l j hlt
      have hle := (kAtF_le dS k0 l (j + 1)).2
      have hle0 := (kAtF_le dS k0 l j).1
      obtain ⟨x, hx⟩ : ∃ x, l[j] = x := ⟨_, rfl⟩
      rw [hx] at hG hN
      rw [hN] at hle
      rw [← hK.out] at hN hle hle0
      have HX := hide hx
      clear hx
      have hsum : cntR (dS x) = 1 := by simp [dS, cntR, cntF]
      rw [hsum] at hN hle
      have hle2 := Nat.le_trans hle HKB.out
      have HNX := hide hN
      have hK1 : 1 ≤ K := Nat.le_trans hk1 hle0
      clear hle hle0 hsum hN
      obtain ⟨c0, z0⟩ := hG.hc j 0 hlt (by decide)
      simp only [Nat.mul_one, Nat.add_zero] at c0 z0
      have HQ0 := hide (show ∀ W, _ from fun W => markText_any (K) (by omega) (by omega) W)
      have hGk := hide hG
      have htk := hide ht
      clear hG ht
      go_wp2_with fail
      refine (HQ0.out _).mono ?_
      rintro e w1 ⟨rfl, b1⟩
      have hGw1 := hGk.out.below b1
      have tw1 := htk.out.trans (Turn.of_below b1)
      clear hGk htk HQ0 b1 c0 z0
      obtain ⟨c0, z0⟩ := hGw1.hc j 0 hlt (by decide)
      simp only [Nat.mul_one, Nat.add_zero] at c0 z0
      obtain ⟨C1, hG1, e1⟩ := hGw1.set hlt (i := 0) (by decide) (.string (mt (K)))
      simp only [Nat.mul_one, Nat.add_zero] at hG1
      have t1 := tw1.trans (Turn.set (S := S) w1 ⟨b, o + j, none⟩ (.string (mt (K))) hG1.hS)
      clear hGw1 tw1
      have HG := hide hG1
      have HT := hide t1
      clear hG1 t1
      go_wp2
      go_roundw
      case rel =>
        refine ⟨j + 1, K + 1, by omega, by go_num, by first | go_num | (congr 1; omega), ?_, .inr ⟨b, o, _, _, rfl, RowG.close HG.out hlt ?_⟩, HT.out⟩
        · have := HNX.out; show _ = _; omega
        · rw [HX.out, ← hK.out]
          simp [dS, mkR, mkF, mkV]
      case measure => simp [intOf]; omega
    · have hjn : j = l.length := by omega
      subst hjn
      have hKK := hK.out
      rw [HKA.out] at hKK
      subst hKK
      go_wp2
      go_ret
      exact ⟨rfl, hR.out.marked HLM.out.1 HLM.out.2, ht⟩
end Go.Proofs.Ytcgljeagjchobaa
