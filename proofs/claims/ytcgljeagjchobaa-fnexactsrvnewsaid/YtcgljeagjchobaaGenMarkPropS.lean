/-
  A help of the laws, by program (tools/gen_help.py): Mark of Prop.
-/
import Derived.Test.YtcgljeagjchobaaRows
import Derived.Test.YtcgljeagjchobaaGenSrv
import Derived.Test.YtcgljeagjchobaaGenBox
import Derived.Test.YtcgljeagjchobaaMarkText
import Derived.WalkKit
import Derived.WalkSpells
import Derived.WalkLawsBesides
import Derived.Deep.Light
import Derived.Deep.QuietTactic
import Derived.Deep.RegionHeld3
namespace Go.Proofs.Ytcgljeagjchobaa
open Go.RowKit M
set_option linter.unusedVariables false

set_option maxRecDepth 100000 in
set_option maxHeartbeats 4000000 in
theorem markPropS_gen (l : List Pp) (k0 : Nat) (v : Value) (S : Nat → Prop) (w : World) (h : Own w v (.l (l.map dPp)) S) (hk1 : 1 ≤ k0) (hk : k0 + cntRs (l.map dPp) ≤ 90000000) :
    Calls Try.prog 41 #[v, .int .i64 k0] w fun e w' => e = .returned (.int .i64 ((k0 + cntRs (l.map dPp) : Nat) : Int)) ∧ Own w' v (mkF k0 (.l (l.map dPp))) S ∧ Turn S w w' := by
  obtain ⟨a, cap, rfl, hl, hm, hst⟩ := h.rows 3 (fun _ => rfl)
  have HST := hide (hst.mid0 (k0 := k0))
  have HLM := hide (And.intro hl hm)
  have HKB := hide hk
  have hn : l.length ≤ 90000000 := by have := cnt_lenF dPp (fun x => by simp [dPp, cntR, cntF]; try omega) l; omega
  have hka := kAtF_all dPp k0 l
  have HKA := hide hka
  have hk00 := kAtF_zero dPp k0 l
  clear h hst hl hm hk hka
  go_enter Try.func41, Try.ntmps41
  go_wp2
  go_loopw [1, 5] (fun kv i wr => ∃ j K : Nat, j ≤ l.length ∧ i = .int .i64 j ∧ kv = .int .i64 K ∧ Hid (K = kAtF dPp k0 l j) ∧ Hid (OwnSt wr a l.length cap 3 (midF dPp k0 l j) S) ∧ Turn S w wr) (fun _ i _ => l.length - (intOf i).toNat)
  case atStart => exact ⟨0, k0, Nat.zero_le _, rfl, rfl, hk00.symm, HST, Turn.refl _ _⟩
  case round =>
    obtain ⟨j, K, hj, rfl, rfl, hK, hR, ht⟩ := hrel
    by_cases hlt : j < l.length
    · obtain ⟨b, o, C, Sf, rfl, hG⟩ := hR.out.at (by omega)
      have hG := hG.start hlt
      have hN := kAtF_next dPp k0 l j hlt
      have hle := (kAtF_le dPp k0 l (j + 1)).2
      have hle0 := (kAtF_le dPp k0 l j).1
      obtain ⟨x, hx⟩ : ∃ x, l[j] = x := ⟨_, rfl⟩
      rw [hx] at hG hN
      rw [hN] at hle
      rw [← hK.out] at hN hle hle0
      have HX := hide hx
      clear hx
      have hsum : cntR (dPp x) = 1 + 1 + 1 := by simp [dPp, cntR, cntF]
      rw [hsum] at hN hle
      have hle2 := Nat.le_trans hle HKB.out
      have HNX := hide hN
      have hK1 : 1 ≤ K := Nat.le_trans hk1 hle0
      clear hle hle0 hsum hN
      obtain ⟨c0, z0⟩ := hG.hc j 0 hlt (by decide)
      simp only [Nat.add_zero] at c0 z0
      have HQ0 := hide (show ∀ W, _ from fun W => markText_any (K) (by omega) (by omega) W)
      have hGk := hide hG
      have htk := hide ht
      clear hG ht
      go_wp2_with fail
      refine (HQ0.out _).mono ?_
      rintro e w1 ⟨rfl, b1⟩
      have hGw1 := hGk.out.below b1
      have tw1 := htk.out.trans (Turn.of_below b1)
      clear hGk htk HQ0 b1 c0 z0
      obtain ⟨c0, z0⟩ := hGw1.hc j 0 hlt (by decide)
      simp only [Nat.add_zero] at c0 z0
      obtain ⟨c1, z1⟩ := hGw1.hc j 1 hlt (by decide)
      obtain ⟨C1, hG1, e1⟩ := hGw1.set hlt (i := 0) (by decide) (.string (mt (K)))
      have t1 := tw1.trans (Turn.set (S := S) w1 ⟨b, o + j * 3 + 0, none⟩ (.string (mt (K))) hG1.hS)
      clear hGw1 tw1
      have HQ1 := hide (show ∀ W, _ from fun W => markText_any (K + 1) (by omega) (by omega) W)
      rw [show ((K + 1 : Nat) : Int) = (K : Int) + 1 from by omega] at HQ1
      have hGk := hide hG1
      have htk := hide t1
      clear hG1 t1
      go_wp2_with fail
      refine (HQ1.out _).mono ?_
      rintro e w2 ⟨rfl, b2⟩
      have hGw2 := hGk.out.below b2
      have tw2 := htk.out.trans (Turn.of_below b2)
      clear hGk htk HQ1 b2 c0 z0 c1 z1
      obtain ⟨c1, z1⟩ := hGw2.hc j 1 hlt (by decide)
      obtain ⟨c2, z2⟩ := hGw2.hc j 2 hlt (by decide)
      obtain ⟨C2, hG2, e2⟩ := hGw2.set hlt (i := 1) (by decide) (.string (mt (K + 1)))
      have t2 := tw2.trans (Turn.set (S := S) w2 ⟨b, o + j * 3 + 1, none⟩ (.string (mt (K + 1))) hG2.hS)
      clear hGw2 tw2
      have HQ2 := hide (show ∀ W, _ from fun W => markText_any (K + 2) (by omega) (by omega) W)
      rw [show ((K + 2 : Nat) : Int) = (K : Int) + 1 + 1 from by omega] at HQ2
      have hGk := hide hG2
      have htk := hide t2
      clear hG2 t2
      go_wp2_with fail
      refine (HQ2.out _).mono ?_
      rintro e w3 ⟨rfl, b3⟩
      have hGw3 := hGk.out.below b3
      have tw3 := htk.out.trans (Turn.of_below b3)
      clear hGk htk HQ2 b3 c1 z1 c2 z2
      obtain ⟨c2, z2⟩ := hGw3.hc j 2 hlt (by decide)
      obtain ⟨C3, hG3, e3⟩ := hGw3.set hlt (i := 2) (by decide) (.string (mt (K + 2)))
      have t3 := tw3.trans (Turn.set (S := S) w3 ⟨b, o + j * 3 + 2, none⟩ (.string (mt (K + 2))) hG3.hS)
      clear hGw3 tw3
      have HG := hide hG3
      have HT := hide t3
      clear hG3 t3
      go_wp2
      go_roundw
      case rel =>
        refine ⟨j + 1, K + 3, by omega, by go_num, by first | go_num | (congr 1; omega), ?_, .inr ⟨b, o, _, _, rfl, RowG.close HG.out hlt ?_⟩, HT.out⟩
        · have := HNX.out; show _ = _; omega
        · rw [HX.out, ← hK.out]
          simp [dPp, mkR, mkF, mkV, cntF]
          try omega
      case measure => simp [intOf]; omega
    · have hjn : j = l.length := by omega
      subst hjn
      have hKK := hK.out
      rw [HKA.out] at hKK
      subst hKK
      go_wp2
      go_ret
      exact ⟨rfl, hR.out.marked HLM.out.1 HLM.out.2, ht⟩
end Go.Proofs.Ytcgljeagjchobaa
