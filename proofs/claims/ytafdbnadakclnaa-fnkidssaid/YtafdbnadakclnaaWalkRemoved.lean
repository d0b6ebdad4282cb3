/-
  A slice of integers as the row hands it in.
  Codes that are too long; what stays below what was there.
  The bytes of a draw as the row hands them in.
  The walk of the law FnRemoved: what is taken away is gone, with all under it; nothing else is.
-/
import Derived.Test.YtafdbnadakclnaaRows
import Derived.OpenShut
import Derived.WalkKit
import Derived.WalkSpells
import Derived.WalkLawsBesides
import Derived.Test.YtafdbnadakclnaaDrawC
import Derived.Test.YtafdbnadakclnaaSameTexts
import Derived.Test.YtafdbnadakclnaaSameTree
import Derived.Test.YtafdbnadakclnaaMathRemoved
import Derived.Test.YtafdbnadakclnaaSamePathI
namespace Go.Proofs.Ytafdbnadakclnaa
open Go.RowKit

/-- What the walk is told of a slice of integers that came in: it is nil; or it leads to a row of 'cap' cells, the numbers 'zs' (the first 'len' are its elements), each fitting its kind. -/
def IsRow (k : IntKind) (w : World) (a : Option Addr) (len cap : Nat) (zs : List Int) : Prop :=
  (a = none ∧ len = 0 ∧ cap = 0 ∧ zs = []) ∨
  ∃ x, a = some x ∧ len ≤ cap ∧ cap ≤ maxLen ∧ zs.length = cap ∧ (∀ i, i < zs.length → w.cell? (x.add i) = some (.int k (zs.getD i 0))) ∧ ∀ n ∈ zs, (Lit.int k n).wf = true
end Go.Proofs.Ytafdbnadakclnaa
namespace Go.Proofs.Ytafdbnadakclnaa
open Go.RowKit
set_option linter.unusedVariables false

set_option maxHeartbeats 400000 in
theorem big_any (a : Option Addr) (len cap : Nat) (w : World) (_hl : len ≤ maxLen) :
    Calls Try.prog 5 #[.slice a len cap] w fun e w' => e = .returned (.bool (decide ((1048576 : Int) < len))) ∧ w' = w := by
  unfold maxLen at _hl
  go_enter Try.func5, Try.ntmps5
  go_wp2
  go_ret
  exact ⟨rfl, rfl⟩

theorem row_len {w : World} {a : Option Addr} {len cap : Nat} {zs : List Int} (h : IsRow .u8 w a len cap zs) : len ≤ maxLen := by
  rcases h with ⟨_, rfl, _, _⟩ | ⟨x, _, hl, hm, _⟩
  · exact Nat.zero_le _
  · omega
end Go.Proofs.Ytafdbnadakclnaa
namespace Go.Proofs.Ytafdbnadakclnaa
open Go.RowKit M

theorem code_of_row {w : World} {a : Option Addr} {len cap : Nat} {zs : List Int} (h : IsRow .u8 w a len cap zs) (hlen : len ≤ 1048576) : CodeIn w w.heap.size a len zs := by
  rcases h with ⟨rfl, rfl, rfl, rfl⟩ | ⟨x, rfl, hl, hm, hz, hcell, hwz⟩
  · exact ⟨⟨Nat.le_refl _, fun j hj => absurd hj (Nat.not_lt_zero _), fun h => absurd h (Nat.lt_irrefl _)⟩, fun h => absurd h (Nat.lt_irrefl _), hlen, Nat.le_refl _⟩
  · obtain ⟨b, off, spot⟩ := x
    by_cases h0 : 0 < len
    · have hc := hcell 0 (by omega)
      have hspot : spot = none := by simpa [Addr.add] using World.cell?_spot hc
      subst hspot
      have hb : b < w.heap.size := by
        have := World.block_lt_of_cell? w _ hc
        simpa [Addr.add] using this
      refine ⟨⟨by omega, fun j hj => ?_, fun _ => ⟨b, off, rfl, fun j hj => ?_⟩⟩, fun _ b' off' e => ?_, hlen, Nat.le_refl _⟩
      · have hj' : j < zs.length := by omega
        refine bounds_u8 (hwz _ ?_)
        rw [List.getD_eq_getElem?_getD, List.getElem?_eq_getElem hj']
        exact List.getElem_mem hj'
      · have h1 := hcell j (by omega)
        have e : (⟨b, off, none⟩ : Addr).add j = ⟨b, off + j, none⟩ := by unfold Addr.add; split <;> simp_all
        rwa [e] at h1
      · cases e; exact hb
    · exact ⟨⟨by omega, fun j hj => absurd hj (by omega), fun h => absurd h h0⟩, fun h => absurd h h0, hlen, Nat.le_refl _⟩
end Go.Proofs.Ytafdbnadakclnaa
namespace Go.Proofs.Ytafdbnadakclnaa
open Go.RowKit M
set_option linter.unusedVariables false

theorem find_path {rs : List Rs} {p : List ByteArray} (h : treeB rs = true) (hp : pathB p = false) : findI rs p < 0 := by
  by_cases hf : findI rs p < 0
  · exact hf
  · exfalso
    unfold findI at hf
    by_cases e : rs.findIdx (isAt p) < rs.length
    · have h1 : isAt p rs[rs.findIdx (isAt p)] = true := List.findIdx_getElem (w := e)
      have h2 := tree_res h _ (List.getElem_mem e)
      have h3 : rs[rs.findIdx (isAt p)].pa = p := by
        unfold isAt sameL at h1
        exact of_decide_eq_true h1
      have h4 := resB_path h2
      rw [h3, hp] at h4
      cases h4
    · rw [if_neg e] at hf; omega
theorem path_root : pathB [] = true := by decide
theorem rem_cases {rs : List Rs} {p : List ByteArray} (h : treeB rs = true) :
    ((remC (remI rs p) = 400 ∧ ¬ p.length = 0 ∧ findI rs p < 0 ∧ remR rs p = rs) ∨ (remC (remI rs p) = 403 ∧ p.length = 0 ∧ remR rs p = rs)) ∨ (remC (remI rs p) = 404 ∧ ¬ p.length = 0 ∧ findI rs p < 0 ∧ remR rs p = rs) ∨ (remC (remI rs p) = 204 ∧ remR rs p = withoutL rs p) := by
  cases hp : pathB p
  · left; left
    have h1 : remI rs p = 400 := by unfold remI; rw [mayI_400 h hp]; rfl
    refine ⟨by rw [h1]; rfl, fun e => ?_, find_path h hp, by unfold remR; rw [h1]; rfl⟩
    rw [List.length_eq_zero_iff.1 e, path_root] at hp
    cases hp
  · have hm : mayI rs p 0 = 0 := mayI_0 h hp (by decide)
    by_cases h0 : p.length = 0
    · left; right
      have h1 : remI rs p = 403 := by unfold remI; rw [hm, if_neg (by decide), if_pos h0]
      exact ⟨by rw [h1]; rfl, h0, by unfold remR; rw [h1]; rfl⟩
    · by_cases hf : findI rs p < 0
      · right; left
        have h1 : remI rs p = 404 := by unfold remI; rw [hm, if_neg (by decide), if_neg h0, if_pos hf]
        exact ⟨by rw [h1]; rfl, h0, hf, by unfold remR; rw [h1]; rfl⟩
      · right; right
        have h1 : remI rs p = 0 := by unfold remI; rw [hm, if_neg (by decide), if_neg h0, if_neg hf]
        exact ⟨by rw [h1]; rfl, by unfold remR; rw [h1]; rfl⟩

set_option maxRecDepth 100000 in
set_option maxHeartbeats 16000000 in
theorem FnRemoved_walk (a : Option Addr) (len cap : Nat) (zs : List Int) (w : World) (hr : IsRow .u8 w a len cap zs) :
    Calls Try.prog 3 #[.slice a len cap] w fun e w' => e = .returned (.bool true) ∧ Below w.heap.size w w' := by
  have hml := row_len hr
  by_cases hb : (1048576 : Int) < (len : Int)
  · clear hr
    go_enter Try.func3, Try.ntmps3
    go_wp2_with (go_at_call 5; refine (big_any a len cap _ hml).mono ?_; rintro e w1 ⟨rfl, hw⟩; obtain rfl := hw.symm; rw [decide_eq_true hb])
    go_ret
    exact ⟨rfl, Below.refl _ _⟩
  · have HC : Hid (CodeIn w w.heap.size a len zs) := code_of_row hr (by omega)
    clear hr
    go_enter Try.func3, Try.ntmps3
    go_wp2_with (go_at_call 5; refine (big_any a len cap _ hml).mono ?_; rintro e w1 ⟨rfl, hw⟩; obtain rfl := hw.symm; rw [decide_eq_false hb])
    refine (drawShelves_any HC.out cap).mono ?_
    rintro e w1 ⟨⟨rs, g, c, ss, gp, cp, tt, gq, cq, htr, hf, _, rfl, hR, hP, ⟨hp1, hp2⟩, _, _⟩, b1⟩
    have HTR := hide htr
    have hrl := tree_len htr
    have hS := short_of_sumK (tree_sum htr)
    have hSh := short_sum (tree_sum htr)
    have hpl : ss.length ≤ 6 := hf.1
    have hlm : rs.length ≤ maxLen := by unfold maxLen; omega
    have hpm : ss.length ≤ maxLen := by unfold maxLen; omega
    have HREM := hide (remove_any (some ⟨g, 0, none⟩) rs c w1.heap.size (some ⟨gp, 0, none⟩) ss cp w1.heap.size w1 hR hP (Nat.le_refl _) (Nat.le_refl _) hSh (by omega) hS hf.short (by omega))
    have HFT := hide (fun W (hW : Below w1.heap.size w1 W) => findRes_any (some ⟨g, 0, none⟩) rs c w1.heap.size (some ⟨gp, 0, none⟩) ss cp w1.heap.size W (hR.below hW (Nat.le_refl _)) (hP.below hW (Nat.le_refl _)) hlm hpm hW.size hW.size)
    have HDT := hide (fun W (hW : Below w1.heap.size w1 W) => deepOf_any (some ⟨g, 0, none⟩) rs c w1.heap.size (some ⟨gp, 0, none⟩) ss cp w1.heap.size W (hR.below hW (Nat.le_refl _)) (hP.below hW (Nat.le_refl _)) hW.size hW.size (by omega) (by omega) hS)
    have HCS := hide (rem_cases (p := ss) htr)
    have HB1 := hide b1
    clear hf htr HC b1
    have hri : (rs.length : Int) ≤ 12 := by omega
    have hsi : (ss.length : Int) ≤ 6 := by omega
    go_wp2_with fail
    refine HREM.out.mono ?_
    rintro e w2 ⟨⟨gx, cx, pb, qb, rfl, oX⟩, b2⟩
    have HB2 := hide (HB1.out.trans (b2.mono HB1.out.size))
    have HD2 := hide b2
    clear HREM b2
    obtain ⟨R, hRR⟩ : ∃ R, remR rs ss = R := ⟨_, rfl⟩
    obtain ⟨cc, hcc⟩ : ∃ cc, remC (remI rs ss) = cc := ⟨_, rfl⟩
    rw [hRR] at oX HCS ⊢
    rw [hcc] at HCS ⊢
    clear hRR hcc
    rcases HCS.out with (⟨rfl, h0, hf, rfl⟩ | ⟨rfl, h0, rfl⟩) | ⟨rfl, h0, hf, rfl⟩ | ⟨rfl, rfl⟩
    · have HX := hide (oX.rss (C := w2.heap.size) (fun r hr => by have := hS r hr; unfold maxLen; omega) (Nat.le_refl _))
      have HSA := hide (sameTree_same (some ⟨gx, 0, none⟩) (some ⟨g, 0, none⟩) R cx c w2.heap.size w1.heap.size w2 HX.out (hR.below HD2.out (Nat.le_refl _)) (Nat.le_refl _) HD2.out.size hlm)
      have h0i : (0 : Int) < (ss.length : Int) := by omega
      have e0 : ((ss.length : Int) == 0) = false := by rw [beq_eq_false_iff_ne]; omega
      clear oX HCS
      go_wp2_with fail
      refine HSA.out.mono ?_
      rintro e w3 ⟨rfl, b3⟩
      have c3 := HB2.out.trans (b3.mono HB2.out.size)
      have HF1 := hide (HFT.out w3 (HD2.out.trans (b3.mono HD2.out.size)))
      obtain ⟨F, hF⟩ : ∃ F, findI R ss = F := ⟨_, rfl⟩
      rw [hF] at hf HF1
      clear hF
      go_wp2_with fail
      refine HF1.out.mono ?_
      rintro e w4 ⟨rfl, b4⟩
      have c4 := c3.trans (b4.mono c3.size)
      go_wp2
      go_ret
      exact ⟨rfl, c4⟩
    · have HX := hide (oX.rss (C := w2.heap.size) (fun r hr => by have := hS r hr; unfold maxLen; omega) (Nat.le_refl _))
      have HSA := hide (sameTree_same (some ⟨gx, 0, none⟩) (some ⟨g, 0, none⟩) R cx c w2.heap.size w1.heap.size w2 HX.out (hR.below HD2.out (Nat.le_refl _)) (Nat.le_refl _) HD2.out.size hlm)
      obtain rfl := List.length_eq_zero_iff.1 h0
      clear oX HCS h0
      go_wp2_with fail
      refine HSA.out.mono ?_
      rintro e w3 ⟨rfl, b3⟩
      have c3 := HB2.out.trans (b3.mono HB2.out.size)
      go_wp2
      go_ret
      exact ⟨rfl, c3⟩
    · have HX := hide (oX.rss (C := w2.heap.size) (fun r hr => by have := hS r hr; unfold maxLen; omega) (Nat.le_refl _))
      have HSA := hide (sameTree_same (some ⟨gx, 0, none⟩) (some ⟨g, 0, none⟩) R cx c w2.heap.size w1.heap.size w2 HX.out (hR.below HD2.out (Nat.le_refl _)) (Nat.le_refl _) HD2.out.size hlm)
      have h0i : (0 : Int) < (ss.length : Int) := by omega
      have e0 : ((ss.length : Int) == 0) = false := by rw [beq_eq_false_iff_ne]; omega
      clear oX HCS
      go_wp2_with fail
      refine HSA.out.mono ?_
      rintro e w3 ⟨rfl, b3⟩
      have c3 := HB2.out.trans (b3.mono HB2.out.size)
      have HF1 := hide (HFT.out w3 (HD2.out.trans (b3.mono HD2.out.size)))
      obtain ⟨F, hF⟩ : ∃ F, findI R ss = F := ⟨_, rfl⟩
      rw [hF] at hf HF1
      clear hF
      go_wp2_with fail
      refine HF1.out.mono ?_
      rintro e w4 ⟨rfl, b4⟩
      have c4 := c3.trans (b4.mono c3.size)
      go_wp2
      go_ret
      exact ⟨rfl, c4⟩
    · have hwl : (withoutL rs ss).length ≤ rs.length := by have := without_count rs ss; omega
      have HWC := hide (without_count rs ss)
      have HWD := hide (without_deep rs ss)
      have HWT := hide (without_tree (p := ss) HTR.out)
      have hWsh := short_of_sumK (tree_sum HWT.out)
      have hWS := short_sum (tree_sum HWT.out)
      have HWF := hide (fun k (hk : k < rs.length) => without_find (p := ss) (List.getElem_mem hk))
      obtain ⟨xs, hxs⟩ : ∃ xs, withoutL rs ss = xs := ⟨_, rfl⟩
      rw [hxs] at HWC HWD HWT hWsh hWS hwl oX ⊢
      simp only [hxs] at HWF
      clear hxs HCS
      have hxm : xs.length ≤ maxLen := by unfold maxLen; omega
      have hX2 : Rss w2 w2.heap.size (some ⟨gx, 0, none⟩) xs := oX.rss (fun r hr => by have := hWsh r hr; unfold maxLen; omega) (Nat.le_refl _)
      clear oX
      have hxi : (xs.length : Int) ≤ 12 := by omega
      have HTO := hide (fun W (hW : Below w2.heap.size w2 W) => treeOk_any (some ⟨gx, 0, none⟩) xs cx w2.heap.size W (hX2.below hW (Nat.le_refl _)) hW.size hWS hxm)
      simp only [HWT.out] at HTO
      have HDX := hide (fun W (hW : Below w2.heap.size w2 W) => deepOf_any (some ⟨gx, 0, none⟩) xs cx w2.heap.size (some ⟨gp, 0, none⟩) ss cp w1.heap.size W (hX2.below hW (Nat.le_refl _)) (hP.below (HD2.out.trans (hW.mono HD2.out.size)) (Nat.le_refl _)) hW.size (Nat.le_trans HD2.out.size hW.size) (by omega) (by omega) hWsh)
      simp only [HWD.out] at HDX
      go_wp2
      go_loopw [8] (fun i wr => ∃ k : Nat, k ≤ rs.length ∧ i = .int .i64 k ∧ Below w2.heap.size w2 wr) (fun i _ => rs.length - (intOf i).toNat)
      case atStart => exact ⟨0, Nat.zero_le _, rfl, Below.refl _ _⟩
      case round =>
        obtain ⟨k, hk, rfl, hbe⟩ := hrel
        have d1 := HD2.out.trans (hbe.mono HD2.out.size)
        by_cases hlt : k < rs.length
        · obtain ⟨b9, o9, e9, hb9, hc9⟩ := (hR.below d1 (Nat.le_refl _)) (by omega)
          have e9' : b9 = g ∧ o9 = 0 := by cases e9; exact ⟨rfl, rfl⟩
          obtain ⟨rfl, rfl⟩ := e9'
          obtain ⟨pa, pc, qa, qc, ⟨x0, _⟩, hin⟩ := hc9 k hlt
          rw [Nat.zero_add] at x0
          have hpk : rs[k].pa.length ≤ maxLen := Nat.le_trans hin.pl hin.pm
          have HSM := hide (samePath_any pa (some ⟨gp, 0, none⟩) rs[k].pa ss pc cp w1.heap.size w1.heap.size wr hin.ph (hP.below d1 (Nat.le_refl _)) hpk hpm)
          have hph := hin.ph
          have HUN := hide (fun W (hW : Below wr.heap.size wr W) => under_any pa (some ⟨gp, 0, none⟩) rs[k].pa ss pc cp w1.heap.size w1.heap.size W (hph.below hW d1.size) ((hP.below d1 (Nat.le_refl _)).below hW d1.size) hpk hpm hin.pl hin.pm)
          have HFX := hide (fun W (hW : Below wr.heap.size wr W) => findRes_any (some ⟨gx, 0, none⟩) xs cx w2.heap.size pa rs[k].pa pc w1.heap.size W (hX2.below (hbe.trans (hW.mono hbe.size)) (Nat.le_refl _)) (hph.below hW d1.size) hxm hpk (hbe.trans (hW.mono hbe.size)).size (Nat.le_trans d1.size hW.size))
          have HWK := hide (HWF.out k hlt)
          obtain ⟨F, hF⟩ : ∃ F, findI xs rs[k].pa = F := ⟨_, rfl⟩
          simp only [hF] at HFX HWK
          unfold deepB at HWK
          clear hF hc9 e9 hin
          obtain ⟨s, hs⟩ : ∃ s, sameL rs[k].pa ss = s := ⟨_, rfl⟩
          rw [hs] at HSM HWK
          obtain ⟨u, hu⟩ : ∃ s, underB rs[k].pa ss = s := ⟨_, rfl⟩
          simp only [hu] at HUN HWK
          clear hs hu
          have hki : (k : Int) < (rs.length : Int) := by omega
          go_wp2_with fail
          refine HSM.out.mono ?_
          rintro e w3 ⟨rfl, b3'⟩
          have b3 := b3' wr.heap.size
          have hgs : b9 < wr.heap.size := by have := d1.size; omega
          have y0 : w3.cell? ⟨b9, k * 5, none⟩ = some (.slice pa rs[k].pa.length pc) := (b3.cell (p := ⟨b9, k * 5, none⟩) hgs).trans x0
          clear b3' HSM
          cases s
          · have HU1 := hide (HUN.out w3 b3)
            go_wp2_with fail
            refine HU1.out.mono ?_
            rintro e w4 ⟨rfl, b4'⟩
            have b4 := b4' w3.heap.size
            have c4 := b3.trans (b4.mono b3.size)
            have z0 : w4.cell? ⟨b9, k * 5, none⟩ = some (.slice pa rs[k].pa.length pc) := (c4.cell (p := ⟨b9, k * 5, none⟩) hgs).trans x0
            have HF1 := hide (HFX.out w4 c4)
            clear b4' HU1 HUN HFX
            cases u
            · have hF0 : ¬ F < 0 := fun e => by have := HWK.out.1 e; simp at this
              go_wp2_with fail
              refine HF1.out.mono ?_
              rintro e w5 ⟨rfl, b5⟩
              have c5 := hbe.trans ((c4.trans (b5.mono c4.size)).mono hbe.size)
              go_wp2
              go_roundw
              case rel => exact ⟨k + 1, by omega, by go_num, c5⟩
              case measure => simp [intOf]; omega
            · have hF0 : F < 0 := HWK.out.2 rfl
              go_wp2_with fail
              refine HF1.out.mono ?_
              rintro e w5 ⟨rfl, b5⟩
              have c5 := hbe.trans ((c4.trans (b5.mono c4.size)).mono hbe.size)
              go_wp2
              go_roundw
              case rel => exact ⟨k + 1, by omega, by go_num, c5⟩
              case measure => simp [intOf]; omega
          · have hF0 : F < 0 := HWK.out.2 rfl
            have HF1 := hide (HFX.out w3 b3)
            clear HFX HUN
            go_wp2_with fail
            refine HF1.out.mono ?_
            rintro e w5 ⟨rfl, b5⟩
            have c5 := hbe.trans ((b3.trans (b5.mono b3.size)).mono hbe.size)
            go_wp2
            go_roundw
            case rel => exact ⟨k + 1, by omega, by go_num, c5⟩
            case measure => simp [intOf]; omega
        · have HT1 := hide (HTO.out wr hbe)
          go_wp2_with fail
          refine HT1.out.mono ?_
          rintro e w3 ⟨rfl, b3⟩
          have c3 := hbe.trans (b3.mono hbe.size)
          have HD3 := hide (HDT.out w3 (HD2.out.trans (c3.mono HD2.out.size)))
          obtain ⟨dl, hdl⟩ : ∃ dl, (deepL rs ss).length = dl := ⟨_, rfl⟩
          have HDL := hide hdl
          have hdc : xs.length + dl = rs.length := by rw [← hdl]; exact HWC.out
          clear HT1
          go_wp2_with fail
          refine HD3.out.mono ?_
          rintro e w4 ⟨⟨g4, c4', pb4, qb4, rfl, _⟩, b4⟩
          have c4 := c3.trans (b4.mono c3.size)
          have HD5 := hide (HDX.out w4 c4)
          have hx9 : (xs.length : Int) = (rs.length : Int) - (dl : Int) := by omega
          clear HD3
          go_wp2_with fail
          refine HD5.out.mono ?_
          rintro e w5 ⟨⟨g5, c5', pb5, qb5, rfl, _⟩, b5⟩
          have c5 := c4.trans (b5.mono c4.size)
          have c6 := HB2.out.trans (c5.mono HB2.out.size)
          go_wp2
          go_ret
          exact ⟨rfl, c6⟩
end Go.Proofs.Ytafdbnadakclnaa
