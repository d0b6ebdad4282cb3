/-
  What spec.l11Far does where it is done, moving.
  What spec.CopyTree and spec.MoveTree do.
-/
import Derived.Test.YtifnolomekhmfaaGreatSpecCopyAll
import Derived.Test.YtifnolomekhmfaaGreatMathFarS
import Derived.Test.YtifnolomekhmfaaGreatMapHeld
import Derived.Test.YtifnolomekhmfaaGreatSpecLess
import Derived.Test.YtifnolomekhmfaaGreatTurnIs
import Derived.Test.YtifnolomekhmfaaGreatSpecFarD0
import Derived.Test.YtifnolomekhmfaaGreatSpecPutR
import Derived.Test.YtifnolomekhmfaaGreatRowsW
import Derived.Deep.RegionHeld3
import Derived.Test.YtifnolomekhmfaaGreatSpecFarB
import Derived.Test.YtifnolomekhmfaaGreatSpecFarC
namespace Go.Proofs.YtifnolomekhmfaaGreat
open Go.RowKit M
set_option linter.unusedVariables false
set_option linter.unusedSimpArgs false

set_option maxRecDepth 100000 in
set_option maxHeartbeats 16000000 in
theorem specFarD1_any (a : Option Addr) (rs : List Rs) (cap B : Nat) (b1 : Option Addr) (fr : List ByteArray) (cap1 : Nat) (bt ot : Nat) (to : List ByteArray) (cap2 : Nat) (ov : Bool) (v : Int) (w : World) (h : Rss w B a rs) (h1 : Strs w B b1 fr) (h2 : Strs w B (some ⟨bt, ot, none⟩) to) (hB : B ≤ w.heap.size) (hs : ShortT rs) (hl : rs.length ≤ 1048576) (hlp : ∀ r ∈ rs, r.pa.length ≤ 1048576 ∧ r.ps.length ≤ 1048576) (hs1 : Short fr) (hl1 : fr.length ≤ 1048576) (hs2 : Short to) (hl2 : to.length ≤ 1048576) (hc1 : fr.length ≤ cap1) (hm1 : cap1 ≤ maxLen) (hc2 : to.length ≤ cap2) (hm2 : cap2 ≤ maxLen) (ht : treeB rs = true) (hf : pathB fr = true) (hto : pathB to = true) (hv : inB v 0 99999 = true) (hF1 : ¬ findI rs fr < 0) (hap : apartB fr to = true) (ho : findI rs to < 0 ∨ ov = true) (hca : collB rs (aboveL to) = true) (hlg : (deepL rs fr).any (longB fr to) = false) (h12 : ¬ 12 < (restL rs fr to true).length + (deepL rs fr).length) :
    Calls Tryz.prog 63 #[.slice a rs.length cap, .slice b1 fr.length cap1, .slice (some ⟨bt, ot, none⟩) to.length cap2, .bool ov, .int .i64 v, .bool true] w fun e w' => TurnIs w w' e (farR rs fr to ov v true) (farC rs fr to ov v true) ∧ Below w.heap.size w w' := by
  have hlm : rs.length ≤ maxLen := by unfold maxLen; omega
  have hlm1 : fr.length ≤ maxLen := by unfold maxLen; omega
  have hlm2 : to.length ≤ maxLen := by unfold maxLen; omega
  have hdl : (deepL rs fr).length ≤ 1048576 := Nat.le_trans (List.length_filter_le _ _) hl
  have hrl : (restL rs fr to true).length ≤ 1048576 := Nat.le_trans (restL_len rs fr to true) hl
  have M1 := hide (specMay_any a rs cap B b1 fr cap1 B v w h h1 hB hB hs hlm (fun r hr => (hlp r hr).1) hs1 hlm1)
  have M2 := hide (fun W (hb : Below w.heap.size w W) => specMay_any a rs cap B (some ⟨bt, ot, none⟩) to cap2 B v W (h.below hb hB) (h2.below hb hB) (Nat.le_trans hB hb.size) (Nat.le_trans hB hb.size) hs hlm (fun r hr => (hlp r hr).1) hs2 hlm2)
  have FT := hide (fun W (hb : Below w.heap.size w W) => specFind_any a rs cap B (some ⟨bt, ot, none⟩) to cap2 B W (h.below hb hB) (h2.below hb hB) hlm hlm2)
  have DO := hide (fun W (hb : Below w.heap.size w W) => specDeepOf_any a rs cap B b1 fr cap1 B W (h.below hb hB) (h1.below hb hB) (Nat.le_trans hB hb.size) (Nat.le_trans hB hb.size) hl hl1 hlp)
  have WO := hide (fun W (hb : Below w.heap.size w W) => specWithout_any a rs cap B (some ⟨bt, ot, none⟩) to cap2 B W (h.below hb hB) (h2.below hb hB) (Nat.le_trans hB hb.size) (Nat.le_trans hB hb.size) hl hl2 hlp)
  have WP := hide (fun W g c (hb : Below w.heap.size w W) (hr : Rss W W.heap.size (some ⟨g, 0, none⟩) (withoutL rs to)) => specWithout_any (some ⟨g, 0, none⟩) (withoutL rs to) c W.heap.size b1 fr cap1 B W hr (h1.below hb hB) (Nat.le_refl _) (Nat.le_trans hB hb.size) (Nat.le_trans (List.length_filter_le _ _) hl) hl1 (fun r hr => hlp r (List.mem_filter.1 hr).1))
  have FF := hide (fun W (hb : Below w.heap.size w W) => specFind_any a rs cap B b1 fr cap1 B W (h.below hb hB) (h1.below hb hB) hlm hlm1)
  have SP := hide (fun W (hb : Below w.heap.size w W) => specSamePath_any b1 (some ⟨bt, ot, none⟩) fr to cap1 cap2 B B W (h1.below hb hB) (h2.below hb hB) hlm1 hlm2)
  have U1 := hide (fun W (hb : Below w.heap.size w W) => specUnder_any b1 (some ⟨bt, ot, none⟩) fr to cap1 cap2 B B W (h1.below hb hB) (h2.below hb hB) hlm1 hlm2 hc1 hm1)
  have U2 := hide (fun W (hb : Below w.heap.size w W) => specUnder_any (some ⟨bt, ot, none⟩) b1 to fr cap2 cap1 B B W (h2.below hb hB) (h1.below hb hB) hlm2 hlm1 hc2 hm2)
  have IC := hide (fun W g c (hb : Below w.heap.size w W) (x : RowS W g (aboveL to)) => specIsColl_any a rs cap B (some ⟨g, 0, none⟩) (aboveL to) c W.heap.size W (h.below hb hB) (x.strs' x.1) hlm (by rw [aboveL_len]; unfold maxLen; omega))
  have LG := hide (fun W g c (hr : Rss W W.heap.size (some ⟨g, 0, none⟩) (deepL rs fr)) => specLong_any (some ⟨g, 0, none⟩) (deepL rs fr) c W.heap.size b1 (some ⟨bt, ot, none⟩) fr to cap1 cap2 W hr hdl (fun r hr => ⟨(deep_iff.1 (deepL_mem.1 hr).2).length_le, (hlp r (deepL_mem.1 hr).1).1⟩) hl1 hl2)
  have CA := hide (fun W (hb : Below w.heap.size w W) => specCopyAll_any a rs cap B W (h.below hb hB) (Nat.le_trans hB hb.size) hl hlp)
  have hask := ask_zero ht hf hto hv
  rw [mayI_0 ht hf hv] at M1
  rw [mayI_0 ht hto hv] at M2
  have ht0 : ¬ to.length = 0 := fun e => by rw [apart_no (.inr (.inl e))] at hap; cases hap
  have hf0 : ¬ fr.length = 0 := fun e => by rw [apart_no (.inl e)] at hap; cases hap
  have e0 : ((fr.length : Int) == 0) = false := by rw [beq_eq_false_iff_ne]; omega
  have e1 : decide ((0 : Int) < (fr.length : Int)) = true := by rw [decide_eq_true_iff]; omega
  have e2 : ((to.length : Int) == 0) = false := by rw [beq_eq_false_iff_ne]; omega
  have hsm : sameL fr to = false := by
    cases e : sameL fr to
    · rfl
    · rw [apart_no (.inr (.inr (.inl e)))] at hap; cases hap
  have hu1 : underB fr to = false := by
    cases e : underB fr to
    · rfl
    · rw [apart_no (.inr (.inr (.inr (.inl e))))] at hap; cases hap
  have hu2 : underB to fr = false := by
    cases e : underB to fr
    · rfl
    · rw [apart_no (.inr (.inr (.inr (.inr e))))] at hap; cases hap
  rw [hsm] at SP
  rw [hu1] at U1
  rw [hu2] at U2
  have hth := there_of hF1
  have hfar : far1 rs fr to ov v = 0 := far1_zero hask hth hap (by
    rcases ho with ho | ho
    · rw [there_not ht0 ho]; rfl
    · rw [ho]; simp)
  have hI := farI_0 (mv := true) hfar hca hlg h12
  rw [hca] at IC
  rw [hlg] at LG
  have e12 : decide ((12 : Int) < ((restL rs fr to true).length : Int) + ((deepL rs fr).length : Int)) = false := by rw [decide_eq_false_iff_not]; omega
  have HRF := hide (show farR rs fr to ov v true = (carryL rs fr to v).foldl (fun acc c => putR c false acc) (restL rs fr to true) by unfold farR; rw [if_pos hI, far_fold (tree_asc ht)])
  have HFC := hide (show farC rs fr to ov v true = if thereB rs to = true then 204 else 201 by unfold farC takenC; rw [if_pos hI])
  have HLP := hide (fun r (hr : r ∈ deepL rs fr) => show fr.length ≤ r.pa.length ∧ r.pa.length ≤ 4 ∧ r.ps.length ≤ 1048576 from by
    have hm := (deepL_mem.1 hr).1
    have htt := ht
    unfold treeB at htt
    simp only [Bool.and_eq_true, decide_eq_true_eq, List.all_eq_true] at htt
    exact ⟨(deep_iff.1 (deepL_mem.1 hr).2).length_le, (pathB_iff.1 (resB_path (htt.2.1 r hm))).2, (hlp r hm).2⟩)
  have hto4 : to.length ≤ 4 := (pathB_iff.1 hto).2
  have HRS := hide (show ∀ y ∈ restL rs fr to true, y.pa.length ≤ 1048576 ∧ y.ps.length ≤ 1048576 from fun y hy => by
    unfold restL at hy
    split at hy
    · exact hlp y (List.mem_filter.1 (List.mem_filter.1 hy).1).1
    · exact hlp y (List.mem_filter.1 hy).1)
  have hr12 : (restL rs fr to true).length + (deepL rs fr).length ≤ 12 := by omega
  obtain ⟨ii, hii, hz, hsz, hby⟩ := info_parts info_strC
  by_cases hF2 : findI rs to < 0
  · skip
    have HFC' := hide (show farC rs fr to ov v true = 201 by rw [HFC.out, there_not ht0 hF2]; rfl)
    generalize findI rs to = F2 at *
    generalize findI rs fr = F1 at *
    have HDN := hide (And.intro HRF.out HFC'.out)
    clear HRF HFC HFC' hI hfar hth
    go_enter Tryz.func63, Tryz.ntmps63
    go_wp2_with fail
    refine M1.out.mono ?_
    rintro e w1 ⟨rfl, c1⟩
    have X := hide (M2.out w1 c1)
    go_wp2_with fail
    refine X.out.mono ?_
    rintro e w2 ⟨rfl, b'⟩
    have c2 := c1.trans (b'.mono c1.size)
    clear X b'
    have X := hide (FT.out w2 c2)
    go_wp2_with fail
    refine X.out.mono ?_
    rintro e w3 ⟨rfl, b'⟩
    have c3 := c2.trans (b' _)
    clear X b'
    have X := hide (DO.out w3 c3)
    go_wp2_with fail
    refine X.out.mono ?_
    rintro e w4 ⟨⟨gl, cl, _, rfl, hL4⟩, b'⟩
    have c4 := c3.trans (b'.mono c3.size)
    clear X b'
    have X := hide (WO.out w4 c4)
    go_wp2_with fail
    refine X.out.mono ?_
    rintro e w5 ⟨⟨vr, tr, rfl, hG5, hm5⟩, b'⟩
    have c5 := c4.trans (b'.mono c4.size)
    have hL5 := (hL4.below b' (Nat.le_refl _)).mono b'.size
    obtain ⟨gr, cr, rfl, hR5⟩ := hG5.rss (Nat.le_refl _)
    have htl : tr.length = (withoutL rs to).length := by rw [← hm5]; simp
    rw [hm5] at hR5
    clear X b'
    rw [htl]
    have X := hide (WP.out w5 gr cr c5 hR5)
    clear hG5 hm5 htl
    go_wp2_with fail
    refine X.out.mono ?_
    rintro e w6 ⟨⟨vr2, tr2, rfl, hG6, hm6⟩, b'⟩
    have c6 := c5.trans (b'.mono c5.size)
    have hL6 := (hL5.below b' (Nat.le_refl _)).mono b'.size
    obtain ⟨gr2, cr2, rfl, hR6⟩ := hG6.rss (Nat.le_refl _)
    have htl : tr2.length = (withoutL (withoutL rs to) fr).length := by rw [← hm6]; simp
    clear X b'
    rw [htl]
    have HGk := hide hG6
    have hmk := hide hm6
    clear hG6 hR6
    have X := hide (FF.out w6 c6)
    go_wp2_with fail
    refine X.out.mono ?_
    rintro e w7 ⟨rfl, b'⟩
    have c7 := c6.trans (b' _)
    have hL7 := (hL6.below (b' _) (Nat.le_refl _)).mono (b' 0).size
    have HGn := hide (HGk.out.next (b' _))
    clear HGk
    have HGk := HGn
    clear HGn
    clear X b'
    have X := hide (SP.out w7 c7)
    go_wp2_with fail
    refine X.out.mono ?_
    rintro e w8 ⟨rfl, b'⟩
    have c8 := c7.trans (b' _)
    have hL8 := (hL7.below (b' _) (Nat.le_refl _)).mono (b' 0).size
    have HGn := hide (HGk.out.next (b' _))
    clear HGk
    have HGk := HGn
    clear HGn
    clear X b'
    have X := hide (U1.out w8 c8)
    go_wp2_with fail
    refine X.out.mono ?_
    rintro e w9 ⟨rfl, b'⟩
    have c9 := c8.trans (b' _)
    have hL9 := (hL8.below (b' _) (Nat.le_refl _)).mono (b' 0).size
    have HGn := hide (HGk.out.next (b' _))
    clear HGk
    have HGk := HGn
    clear HGn
    clear X b'
    have X := hide (U2.out w9 c9)
    go_wp2_with fail
    refine X.out.mono ?_
    rintro e w10 ⟨rfl, b'⟩
    have c10 := c9.trans (b' _)
    have hL10 := (hL9.below (b' _) (Nat.le_refl _)).mono (b' 0).size
    have HGn := hide (HGk.out.next (b' _))
    clear HGk
    have HGk := HGn
    clear HGn
    clear X b'
    have X := hide (specAboveT_any bt ot to cap2 B w10 (h2.below c10 hB) (Nat.le_trans hB c10.size) hl2 (by omega) hc2 hm2)
    go_wp2_with fail
    refine X.out.mono ?_
    rintro e w11 ⟨⟨ga, ca, rfl, _, _, rA⟩, b'⟩
    have c11 := c10.trans (b'.mono c10.size)
    have hL11 := (hL10.below b' (Nat.le_refl _)).mono b'.size
    have HGn := hide (HGk.out.next b')
    clear HGk
    have HGk := HGn
    clear HGn
    clear X b'
    have X := hide (IC.out w11 ga ca c11 rA)
    go_wp2_with fail
    refine X.out.mono ?_
    rintro e w12 ⟨rfl, b'⟩
    have c12 := c11.trans (b' _)
    have hL12 := (hL11.below (b' _) (Nat.le_refl _)).mono (b' 0).size
    have HGn := hide (HGk.out.next (b' _))
    clear HGk
    have HGk := HGn
    clear HGn
    clear X b' rA
    have X := hide (LG.out w12 gl cl hL12)
    go_wp2_with fail
    refine X.out.mono ?_
    rintro e w12' ⟨rfl, hw'⟩
    obtain rfl := hw'.symm
    clear X
    have hGk2 := HGk.out.up (by have := HGk.out.top; omega) (Nat.le_refl _)
    rw [htl] at hGk2
    have HGZ := hide hGk2
    clear hGk2
    have hmZ := hmk.out
    have HLZ := hide hL12
    obtain ⟨wZ, hwZ⟩ : ∃ wZ, w12 = wZ := ⟨_, rfl⟩
    subst hwZ
    have cZ := c12
    have hbsZ : w.heap.size ≤ w5.heap.size := c5.size
    have HCL := hide (show carryL rs fr to v = (deepL rs fr).map (carryR fr to v) from rfl)
    have HRE := hide (show restL rs fr to true = withoutL (withoutL rs to) fr from rfl)
    rw [HCL.out] at HDN
    rw [HRE.out] at HDN HRS hr12 e12
    clear HCL HRE M1 M2 FT DO WO WP FF SP U1 U2 IC LG CA HGk hmk
    generalize withoutL (withoutL rs to) fr = rest at *
    generalize deepL rs fr = ls at *
    have HRD := hide (show ∀ W' (vv : Value) (ts : List RsT) (base : Nat), w.heap.size ≤ base → GrowR W' base vv ts W'.heap.size → ts.map (·.r) = ((ls.map (carryR fr to v)).take ls.length).foldl (fun acc c => putR c false acc) rest → TurnIs w W' (.returned (.tuple #[vv, .int .i64 201])) (farR rs fr to ov v true) (farC rs fr to ov v true) from fun W' vv ts base hb hg hm => ⟨vv, ts, base, hb, by rw [HDN.out.2], hg, by rw [HDN.out.1, hm, List.take_of_length_le (by simp)]⟩)
    go_wp2
    go_loopw [18, 19] (fun vr i wr => ∃ (k : Nat) (ts : List RsT) (base : Nat), k ≤ ls.length ∧ i = .int .i64 k ∧ w.heap.size ≤ base ∧ GrowR wr base vr ts wr.heap.size ∧ ts.map (·.r) = ((ls.map (carryR fr to v)).take k).foldl (fun acc c => putR c false acc) rest ∧ ts.length ≤ rest.length + k ∧ (∀ y ∈ ts.map (·.r), y.pa.length ≤ 1048576 ∧ y.ps.length ≤ 1048576) ∧ Below w12.heap.size w12 wr) (fun _ i _ => ls.length - (intOf i).toNat)
    case atStart => exact ⟨0, tr2, w5.heap.size, Nat.zero_le _, rfl, hbsZ, HGZ.out, by rw [List.take_zero]; exact hmZ, by rw [htl]; omega, by rw [hmZ]; exact HRS.out, Below.refl _ _⟩
    case round =>
      obtain ⟨k, ts, base, hk, rfl, hbas, hG, hts, htn, hty, hbe⟩ := hrel
      have HG := hide hG
      have HTS := hide hts
      have HTY := hide hty
      have cR := cZ.trans (hbe.mono cZ.size)
      clear hG hts hty
      by_cases hlt : k < ls.length
      · obtain ⟨gl2, ol, egl, hgl, hcc⟩ := (HLZ.out.below hbe (Nat.le_refl _)) (by omega)
        cases egl
        obtain ⟨pa, cx, qa, qc, ⟨hc0, hc1, hc2, hc3, hc4⟩, hin⟩ := hcc k hlt
        clear hcc
        simp only [Nat.zero_add] at hc0 hc1 hc2 hc3 hc4
        obtain ⟨lp1, lp2, lp3⟩ := HLP.out _ (List.getElem_mem hlt)
        have hpl9 : 0 < (ls[k]).pa.length := by omega
        obtain ⟨bx, ox, rfl, hbx, hpc⟩ := hin.ph hpl9
        have HNX := hide (show ((ls.map (carryR fr to v)).take (k + 1)).foldl (fun acc c => putR c false acc) rest = putR (carryR fr to v ls[k]) false (((ls.map (carryR fr to v)).take k).foldl (fun acc c => putR c false acc) rest) by rw [fold_snoc _ _ _ k (by simpa using hlt), List.getElem_map])
        have HCR := hide (show carryR fr to v ls[k] = ⟨to ++ (ls[k]).pa.drop fr.length, (ls[k]).co, (ls[k]).bo, v, (ls[k]).ps⟩ from rfl)
        have ybe := hbe.size
        have HCPY := hide (specCopy_any ls[k] (some ⟨bx, ox, none⟩) cx qa qc w12.heap.size wr hin ybe (by omega) lp3)
        have hglr : gl < wr.heap.size := by omega
        have hpd : ∀ j (hj : j < ((ls[k]).pa.drop fr.length).length), wr.cell? ⟨bx, ox + fr.length + j, none⟩ = some (.string ((ls[k]).pa.drop fr.length)[j]) := fun j hj => by
          have hj2 : fr.length + j < (ls[k]).pa.length := by rw [List.length_drop] at hj; omega
          rw [Nat.add_assoc, hpc (fr.length + j) hj2, List.getElem_drop]
        have hpcx := hin.pl
        have hpm := hin.pm
        obtain ⟨np, hnp⟩ : ∃ np, to ++ (ls[k]).pa.drop fr.length = np := ⟨_, rfl⟩
        have HNP := hide hnp
        have hnl : np.length = to.length + ((ls[k]).pa.length - fr.length) := by rw [← hnp, List.length_append, List.length_drop]
        have HNL := hide hnl
        rw [hnp] at HCR
        obtain ⟨rk, hrk⟩ : ∃ rk, ls[k] = rk := ⟨_, rfl⟩
        rw [hrk] at HCR HNX HCPY hc0 hc1 hc2 hc3 hc4 hpd hpl9 hpcx lp1 lp2 lp3 HNL HNP
        obtain ⟨pk, ck, bk, vk, qk⟩ := rk
        simp only at HCR HCPY hc0 hc1 hc2 hc3 hc4 hpd hpl9 hpcx lp1 lp2 lp3 HNL HNP
        clear hin hrk hnp hnl hpc
        go_wp2_with fail
        refine HCPY.out.mono ?_
        rintro e w2 ⟨⟨pp, cc, qq, dd, rfl, hpp, hpq, r3, q3', k1, k2, k3', k4'⟩, b2⟩
        have y2 := b2.size
        have hq0 : (w2.alloc (Obj.cells #[.slice (some ⟨pp, 0, none⟩) pk.length cc, .bool ck, .string bk, .int .i64 vk, .slice (some ⟨qq, 0, none⟩) qk.length dd] 62)).drew.cell? ⟨w2.heap.size, 0, none⟩ = some (.slice (some ⟨pp, 0, none⟩) pk.length cc) := by show (w2.alloc _).cell? _ = _; simp
        have hq1 : (w2.alloc (Obj.cells #[.slice (some ⟨pp, 0, none⟩) pk.length cc, .bool ck, .string bk, .int .i64 vk, .slice (some ⟨qq, 0, none⟩) qk.length dd] 62)).drew.cell? ⟨w2.heap.size, 1, none⟩ = some (.bool ck) := by show (w2.alloc _).cell? _ = _; simp
        have hq2 : (w2.alloc (Obj.cells #[.slice (some ⟨pp, 0, none⟩) pk.length cc, .bool ck, .string bk, .int .i64 vk, .slice (some ⟨qq, 0, none⟩) qk.length dd] 62)).drew.cell? ⟨w2.heap.size, 2, none⟩ = some (.string bk) := by show (w2.alloc _).cell? _ = _; simp
        have hq3 : (w2.alloc (Obj.cells #[.slice (some ⟨pp, 0, none⟩) pk.length cc, .bool ck, .string bk, .int .i64 vk, .slice (some ⟨qq, 0, none⟩) qk.length dd] 62)).drew.cell? ⟨w2.heap.size, 3, none⟩ = some (.int .i64 vk) := by show (w2.alloc _).cell? _ = _; simp
        have hq4 : (w2.alloc (Obj.cells #[.slice (some ⟨pp, 0, none⟩) pk.length cc, .bool ck, .string bk, .int .i64 vk, .slice (some ⟨qq, 0, none⟩) qk.length dd] 62)).drew.cell? ⟨w2.heap.size, 4, none⟩ = some (.slice (some ⟨qq, 0, none⟩) qk.length dd) := by show (w2.alloc _).cell? _ = _; simp
        have hfz0 : (w2.alloc (Obj.cells #[.slice (some ⟨pp, 0, none⟩) pk.length cc, .bool ck, .string bk, .int .i64 vk, .slice (some ⟨qq, 0, none⟩) qk.length dd] 62)).drew.frozen? ⟨w2.heap.size, 0, none⟩ = false := by show (w2.alloc _).frozen? _ = _; simp
        have hfz3 : (w2.alloc (Obj.cells #[.slice (some ⟨pp, 0, none⟩) pk.length cc, .bool ck, .string bk, .int .i64 vk, .slice (some ⟨qq, 0, none⟩) qk.length dd] 62)).drew.frozen? ⟨w2.heap.size, 3, none⟩ = false := by show (w2.alloc _).frozen? _ = _; simp
        have hw2 : w2.heap.size < (w2.alloc (Obj.cells #[.slice (some ⟨pp, 0, none⟩) pk.length cc, .bool ck, .string bk, .int .i64 vk, .slice (some ⟨qq, 0, none⟩) qk.length dd] 62)).drew.heap.size := by show _ < (w2.alloc _).heap.size; simp
        have bA := (Below.refl w2.heap.size w2).alloc (Nat.le_refl _) (Obj.cells #[.slice (some ⟨pp, 0, none⟩) pk.length cc, .bool ck, .string bk, .int .i64 vk, .slice (some ⟨qq, 0, none⟩) qk.length dd] 62)
        obtain ⟨w3, hw3⟩ : ∃ w3, w2.alloc (Obj.cells #[.slice (some ⟨pp, 0, none⟩) pk.length cc, .bool ck, .string bk, .int .i64 vk, .slice (some ⟨qq, 0, none⟩) qk.length dd] 62) = w3 := ⟨_, rfl⟩
        rw [hw3] at hq0 hq1 hq2 hq3 hq4 hfz0 hfz3 hw2 bA
        have b3 : Below wr.heap.size wr w3.drew := belowDF (b2.trans (bA.mono y2))
        have cW := cR.trans (b3.mono cR.size)
        have y3 : w2.heap.size < w3.heap.size := hw2
        have hBw : B ≤ w3.heap.size := by have := cR.size; omega
        have kp : ∀ {wA : World}, Below w3.drew.heap.size w3.drew wA → wA.cell? ⟨gl, k * 5, none⟩ = some (.slice (some ⟨bx, ox, none⟩) pk.length cx) := fun hb => (hb.cell (p := ⟨gl, k * 5, none⟩) (show gl < w3.heap.size by omega)).trans ((b3.cell (p := ⟨gl, k * 5, none⟩) hglr).trans hc0)
        have hglw : gl ≠ w2.heap.size := by omega
        have HSF := hide (fun (W : World) (hb : Below w3.drew.heap.size w3.drew W) => show ∀ j u, (strV (pk.drop fr.length))[j]? = some u → W.cell? ((⟨bx, ox + fr.length, none⟩ : Addr).add j) = some u from fun j u hj => by
          have hjl : j < (pk.drop fr.length).length := by
            have := (List.getElem?_eq_some_iff.1 hj).1
            rw [strV_length] at this
            exact this
          rw [Addr.add_lit, (hb.cell (p := ⟨bx, ox + fr.length + j, none⟩) (show bx < w3.heap.size by omega)), (b3.cell (p := ⟨bx, ox + fr.length + j, none⟩) (show bx < wr.heap.size by omega)), hpd j hjl]
          unfold strV at hj
          rw [List.getElem?_map, List.getElem?_eq_getElem hjl] at hj
          exact hj)
        have HQ3 := hide q3'.rp
        have B3 := hide b3
        have hi0 : (0 : Int) ≤ (k : Int) := by omega
        have hi3 : (k : Int) < (ls.length : Int) := by omega
        have hj0 : (0 : Int) ≤ (fr.length : Int) := by omega
        have hj3 : (fr.length : Int) ≤ (pk.length : Int) := by omega
        clear r3 q3' b2 HCPY hpd hc0 hc1 hc2 hc3 hc4 bA
        by_cases hcx : cx = fr.length
        · skip
          have hsl0 : pk.length - fr.length = 0 := by omega
          have hnil : pk.drop fr.length = [] := List.drop_of_length_le (by omega)
          have HSG := hide (show ∀ (W : World), Below w3.drew.heap.size w3.drew W → ∀ j u, (strV (pk.drop fr.length))[j]? = some u → W.cell? ((⟨bx, ox, none⟩ : Addr).add j) = some u from fun W _ j u hj => by rw [hnil] at hj; simp [strV] at hj)
          subst hcx
          clear hnil hsl0
          go_wp2
          refine wp_region_held_drew (S := (fun W => W.cell? ⟨gl, k * 5, none⟩ = some (.slice (some ⟨bx, ox, none⟩) pk.length fr.length))) (by kernel_rfl) (kp (wA := w3.drew) (Below.refl _ _)) (fun hHeld => ?_)
          simp only [List.size_toArray, List.length_cons, List.length_nil, Nat.reduceAdd, Array.replicate_succ, Array.replicate_zero, List.push_toArray, List.nil_append, List.cons_append]
          refine wpAnyH_take (i := 1) (v := ?_) rfl (by kernel_rfl) (by kernel_rfl) (by kernel_rfl) (fun _ _ _ h => h) (Or.inl ⟨by rfl, ?_⟩) (by assumption) ?_
          rotate_left
          · intro w hSw; (try dsimp only at hSw); go_simp; try with_reducible rfl
          simp only [Act.put, List.getElem_toArray, List.getElem_cons_succ, List.getElem_cons_zero, List.setIfInBounds_toArray, List.set_cons_succ, List.set_cons_zero]
          refine wpAnyH_take (i := 3) (v := ?_) rfl (by kernel_rfl) (by kernel_rfl) (by kernel_rfl) (fun _ _ _ h => h) (Or.inl ⟨by rfl, ?_⟩) (by assumption) ?_
          rotate_left
          · intro w hSw; (try dsimp only at hSw); go_simp; try with_reducible rfl
          simp only [Act.put, List.getElem_toArray, List.getElem_cons_succ, List.getElem_cons_zero, List.setIfInBounds_toArray, List.set_cons_succ, List.set_cons_zero]
          refine wpAnyH_take (i := 4) (v := ?_) rfl (by kernel_rfl) (by kernel_rfl) (by kernel_rfl) (fun _ _ _ h => h) (Or.inl ⟨by rfl, ?_⟩) (by assumption) ?_
          rotate_left
          · intro w hSw; (try dsimp only at hSw); go_simp; try with_reducible rfl
          simp only [Act.put, List.getElem_toArray, List.getElem_cons_succ, List.getElem_cons_zero, List.setIfInBounds_toArray, List.set_cons_succ, List.set_cons_zero]
          refine wpAnyH_take (i := 5) (v := ?_) rfl (by kernel_rfl) (by kernel_rfl) (by kernel_rfl) (fun _ _ _ h => h) (Or.inl ⟨by rfl, ?_⟩) (by assumption) ?_
          rotate_left
          · intro w hSw; (try dsimp only at hSw); go_simp; try with_reducible rfl
          simp only [Act.put, List.getElem_toArray, List.getElem_cons_succ, List.getElem_cons_zero, List.setIfInBounds_toArray, List.set_cons_succ, List.set_cons_zero]
          refine wpAnyH_take (i := 6) (v := ?_) rfl (by kernel_rfl) (by kernel_rfl) (by kernel_rfl) (fun _ _ _ h => h) (Or.inl ⟨by rfl, ?_⟩) (by assumption) ?_
          rotate_left
          · intro w hSw; (try dsimp only at hSw); go_simp; try with_reducible rfl
          simp only [Act.put, List.getElem_toArray, List.getElem_cons_succ, List.getElem_cons_zero, List.setIfInBounds_toArray, List.set_cons_succ, List.set_cons_zero]
          refine wpAnyH_take (i := 7) (v := ?_) rfl (by kernel_rfl) (by kernel_rfl) (by kernel_rfl) (fun _ _ _ h => h) (Or.inl ⟨by rfl, ?_⟩) (by assumption) ?_
          rotate_left
          · intro w hSw; (try dsimp only at hSw); go_simp; try with_reducible rfl
          simp only [Act.put, List.getElem_toArray, List.getElem_cons_succ, List.getElem_cons_zero, List.setIfInBounds_toArray, List.set_cons_succ, List.set_cons_zero]
          refine wpAnyH_take (i := 8) (v := ?_) rfl (by kernel_rfl) (by kernel_rfl) (by kernel_rfl) (fun _ _ _ h => h) (Or.inl ⟨by rfl, ?_⟩) (by assumption) ?_
          rotate_left
          · intro w hSw; (try dsimp only at hSw); go_simp; try with_reducible rfl
          simp only [Act.put, List.getElem_toArray, List.getElem_cons_succ, List.getElem_cons_zero, List.setIfInBounds_toArray, List.set_cons_succ, List.set_cons_zero]
          refine wpAnyH_take (i := 9) (v := ?_) rfl (by kernel_rfl) (by kernel_rfl) (by kernel_rfl) (fun _ _ _ h => h) (Or.inl ⟨by rfl, ?_⟩) (by assumption) ?_
          rotate_left
          · intro w hSw; (try dsimp only at hSw); go_simp; try with_reducible rfl
          simp only [Act.put, List.getElem_toArray, List.getElem_cons_succ, List.getElem_cons_zero, List.setIfInBounds_toArray, List.set_cons_succ, List.set_cons_zero]
          refine wpAnyH_take (i := 10) (v := ?_) rfl (by kernel_rfl) (by kernel_rfl) (by kernel_rfl) (fun _ _ _ h => h) (Or.inl ⟨by rfl, ?_⟩) (by assumption) ?_
          rotate_left
          · intro w hSw; (try dsimp only at hSw); go_simp; try with_reducible rfl
          simp only [Act.put, List.getElem_toArray, List.getElem_cons_succ, List.getElem_cons_zero, List.setIfInBounds_toArray, List.set_cons_succ, List.set_cons_zero]
          refine wpAnyH_ready (rs := [0]) (by kernel_rfl) (by simp) ?_
          refine AllReadyH.cons rfl (fun K hK => ?_) AllReadyH.nil
          go_simp
          refine hK.out _ _ (kp (wA := _) ((Below.refl _ _).alloc (Nat.le_refl _) _)) (fun hHeld2 => ?_)
          have k4 := (Below.refl w3.drew.heap.size w3.drew).alloc (Nat.le_refl _) (Obj.cells #[] 9)
          have hT4 := hide ((h2.below cW hB).below k4 (by show B ≤ w3.heap.size; omega))
          clear hK K hHeld
          have hHeld := hHeld2
          clear hHeld2
          simp only [List.setIfInBounds_toArray, List.set_cons_succ, List.set_cons_zero]
          refine wpAnyH_ready (rs := [2]) (by kernel_rfl) (by simp) ?_
          refine AllReadyH.cons rfl (fun K hK => ?_) AllReadyH.nil
          refine step_append_ownT rfl _ _ 25 rfl w3.heap.size 9 ii _ 1 16 Tryz.underlying25 hii hz hsz hby rfl (by omega) (.slice (some ⟨w3.heap.size, 0, none⟩) 0 0) 0 [] (by simp [Act.eval, Act.put]) (World.ownsRow_made w3.drew #[] 0 (Nat.le_refl _) (by decide) rfl) ⟨bt, ot, none⟩ to.length cap2 (strV to) (by simp [Act.eval, Act.put]) (by rw [strV_length]; omega) (strs_cells hT4.out) (strV_one _) (by unfold maxLen; omega) (by omega) (by simp) ?_
          intro v5 w5 hown5 hgr5
          have b5 := k4.trans (below_own (e := 9) (size := 1) (World.ownsRow_made w3.drew #[] 0 (Nat.le_refl _) (by decide) rfl) hgr5 (Nat.le_refl _) (by simp))
          have HO5 := hide hown5
          refine hK.out _ _ (kp (wA := w5) b5) (fun hHeld2 => ?_)
          clear hown5 hgr5
          clear hK K hHeld
          have hHeld := hHeld2
          clear hHeld2
          simp only [List.setIfInBounds_toArray, List.set_cons_succ, List.set_cons_zero]
          refine wpAnyH_ready (rs := [11]) (by kernel_rfl) (by simp) ?_
          refine AllReadyH.cons rfl (fun K hK => ?_) AllReadyH.nil
          refine step_append_ownT rfl _ _ 25 rfl w3.heap.size 9 ii _ 1 16 Tryz.underlying25 hii hz hsz hby rfl (by omega) v5 (0 + to.length) ([] ++ strV to) (by simp [Act.eval, Act.put]) HO5.out ⟨bx, ox, none⟩ (pk.length - fr.length) 0 (strV (pk.drop fr.length)) (by simp [Act.eval, Act.put]; omega) (by rw [strV_length, List.length_drop]; omega) (HSG.out w5 b5) (strV_one _) (by unfold maxLen; omega) (by omega) (by have := b5.size; show w3.heap.size ≤ w5.heap.size; exact this) ?_
          intro v6 w6 hown6 hgr6
          obtain ⟨b9, c8, rfl, q1, q2, q3, hst6⟩ := row_got (ss := np) hown6 (by omega) (by rw [← HNP.out, List.nil_append, strV_append]) (by rw [HNL.out]; omega)
          have b6 := b5.trans (below_own HO5.out hgr6 (Nat.le_refl _) (by have := b5.size; exact this))
          have hb9 : w3.heap.size ≤ b9 := q1
          have f0 := (b6.frozen (p := ⟨w2.heap.size, 0, none⟩) hw2).trans hfz0
          have g0 := (b6.cell (p := ⟨w2.heap.size, 0, none⟩) hw2).trans hq0
          have f3 := (b6.frozen (p := ⟨w2.heap.size, 3, none⟩) hw2).trans hfz3
          have g1 := (b6.cell (p := ⟨w2.heap.size, 1, none⟩) hw2).trans hq1
          have g2 := (b6.cell (p := ⟨w2.heap.size, 2, none⟩) hw2).trans hq2
          have g3 := (b6.cell (p := ⟨w2.heap.size, 3, none⟩) hw2).trans hq3
          have g4 := (b6.cell (p := ⟨w2.heap.size, 4, none⟩) hw2).trans hq4
          refine hK.out _ _ (kp (wA := w6) b6) (fun hHeld2 => ?_)
          clear hown6 hgr6
          clear hK K hHeld
          have hHeld := hHeld2
          clear hHeld2
          simp only [List.setIfInBounds_toArray, List.set_cons_succ, List.set_cons_zero]
          refine wpAnyH_take (i := 12) (v := ?_) rfl (by kernel_rfl) (by kernel_rfl) (by kernel_rfl) (fun _ _ _ h => h) (Or.inl ⟨by rfl, ?_⟩) (by assumption) ?_
          rotate_left
          · intro w hSw; (try dsimp only at hSw); go_simp; try with_reducible rfl
          simp only [Act.put, List.getElem_toArray, List.getElem_cons_succ, List.getElem_cons_zero, List.setIfInBounds_toArray, List.set_cons_succ, List.set_cons_zero]
          refine wpAnyH_ready (rs := [13]) (by kernel_rfl) (by simp) ?_
          refine AllReadyH.cons rfl (fun K hK => ?_) AllReadyH.nil
          go_simp
          refine hK.out _ _ (by rw [World.cell?_setCell_other _ _ _ _ (fun e => hglw (congrArg Addr.block e).symm)]; exact kp (wA := w6) b6) (fun hHeld2 => ?_)
          clear hK K hHeld
          have hHeld := hHeld2
          clear hHeld2
          simp only [List.setIfInBounds_toArray, List.set_cons_succ, List.set_cons_zero]
          refine wpAnyH_done (by kernel_rfl) ?_ _
          clear hHeld
          have y6 := b6.size
          have y6' : w3.heap.size ≤ w6.heap.size := y6
          have b7 := B3.out.trans (b6.mono (show wr.heap.size ≤ w3.heap.size by omega))
          have b8 := (b7.setCell (p := ⟨w2.heap.size, 0, none⟩) (by show wr.heap.size ≤ w2.heap.size; omega) (.slice (some ⟨b9, 0, none⟩) np.length c8)).setCell (p := ⟨w2.heap.size, 3, none⟩) (by show wr.heap.size ≤ w2.heap.size; omega) (.int .i64 v)
          have hst8 : Strs ((w6.setCell ⟨w2.heap.size, 0, none⟩ (.slice (some ⟨b9, 0, none⟩) np.length c8)).setCell ⟨w2.heap.size, 3, none⟩ (.int .i64 v)) ((w6.setCell ⟨w2.heap.size, 0, none⟩ (.slice (some ⟨b9, 0, none⟩) np.length c8)).setCell ⟨w2.heap.size, 3, none⟩ (.int .i64 v)).heap.size (some ⟨b9, 0, none⟩) np := by
            have hsz : ((w6.setCell ⟨w2.heap.size, 0, none⟩ (.slice (some ⟨b9, 0, none⟩) np.length c8)).setCell ⟨w2.heap.size, 3, none⟩ (.int .i64 v)).heap.size = w6.heap.size := by simp
            rw [hsz]
            intro h0
            obtain ⟨b0, o0, ea, hb0, hcc0⟩ := hst6 h0
            cases ea
            refine ⟨b9, 0, rfl, hb0, fun j hj => ?_⟩
            rw [World.cell?_setCell_other _ _ _ _ (fun e => absurd (congrArg Addr.block e) (show w2.heap.size ≠ b9 by omega)), World.cell?_setCell_other _ _ _ _ (fun e => absurd (congrArg Addr.block e) (show w2.heap.size ≠ b9 by omega))]
            exact hcc0 j hj
          have hps8 : Pps ((w6.setCell ⟨w2.heap.size, 0, none⟩ (.slice (some ⟨b9, 0, none⟩) np.length c8)).setCell ⟨w2.heap.size, 3, none⟩ (.int .i64 v)) ((w6.setCell ⟨w2.heap.size, 0, none⟩ (.slice (some ⟨b9, 0, none⟩) np.length c8)).setCell ⟨w2.heap.size, 3, none⟩ (.int .i64 v)).heap.size (some ⟨qq, 0, none⟩) qk := by
            have hqq := HQ3.out.1
            have r0 : RowP w3.drew qq qk := HQ3.out.of (show qq < w3.heap.size by omega) (fun o => by show w3.cell? _ = _; rw [← hw3]; exact World.cell?_alloc_past (w := w2) _ qq o hqq) (fun o => by show w3.frozen? _ = _; rw [← hw3]; exact ((Below.refl w2.heap.size w2).alloc (Nat.le_refl _) _).frozen (p := ⟨qq, o, none⟩) hqq)
            have r1 := r0.below b6
            have r2 := (r1.setCell ⟨w2.heap.size, 0, none⟩ (.slice (some ⟨b9, 0, none⟩) np.length c8) (show w2.heap.size ≠ qq by omega)).setCell ⟨w2.heap.size, 3, none⟩ (.int .i64 v) (show w2.heap.size ≠ qq by omega)
            exact r2.pps r2.1
          have HG8 := HG.out.next b8
          obtain ⟨gr, cr, rfl, hR8⟩ := HG8.rss (Nat.le_refl _)
          have hlt9 : (ts.map (·.r)).length = ts.length := by simp
          have X9 := hide (specPutR_any (some ⟨gr, 0, none⟩) (ts.map (·.r)) cr _ _ (carryR fr to v ⟨pk, ck, bk, vk, qk⟩) (some ⟨b9, 0, none⟩) c8 (some ⟨qq, 0, none⟩) dd hR8 (by rw [HCR.out]; exact ⟨hst8, hps8, q2, k3', q3, k4', (fun e => by cases e), (fun e => by cases e)⟩) (Nat.le_refl _) (by rw [hlt9]; omega) HTY.out (by rw [HCR.out]; exact ⟨by show np.length ≤ _; rw [HNL.out]; omega, lp3⟩))
          rw [hlt9, HCR.out] at X9
          have HCX := hide (show putR ⟨np, ck, bk, v, qk⟩ false (ts.map (·.r)) = ((ls.map (carryR fr to v)).take (k + 1)).foldl (fun acc c => putR c false acc) rest by rw [HNX.out, HCR.out, HTS.out])
          have HY9 := hide (show ∀ y ∈ putR ⟨np, ck, bk, v, qk⟩ false (ts.map (·.r)), y.pa.length ≤ 1048576 ∧ y.ps.length ≤ 1048576 from fun y hy => by
            rcases putR_mem.1 hy with rfl | ⟨hm, _⟩
            · exact ⟨by show np.length ≤ _; rw [HNL.out]; omega, lp3⟩
            · exact HTY.out y hm)
          have HN9 := hide (show (putR ⟨np, ck, bk, v, qk⟩ false (ts.map (·.r))).length ≤ rest.length + (k + 1) by
            have h1 := putR_len (r := ⟨np, ck, bk, v, qk⟩) (l := ts.map (·.r))
            have h2 := notAt_len (r := ⟨np, ck, bk, v, qk⟩) (l := ts.map (·.r))
            omega)
          generalize ts.map (·.r) = acc at *
          have z8 := b8.size
          clear hst8 hps8 HG8 hR8 hst6 HNX HCR HTS HTY HNL HNP HSF HQ3 B3 b7 b6 b5 HO5 hT4 kp hlt9 HG
          go_wp2_with fail
          refine X9.out.mono ?_
          rintro e w10 ⟨⟨v10, ts10, rfl, hG10, hm10⟩, b10⟩
          have b11 := b8.trans (b10.mono z8)
          have z10 := b10.size
          have HG10 := hide (hG10.up (hG10.top) (Nat.le_refl _))
          have hm10' := hide hm10
          clear X9 hG10 hm10 b10 b8
          go_wp2
          go_roundw
          case rel => exact ⟨k + 1, ts10, _, by omega, by go_num, by have := cR.size; simp; omega, HG10.out, by rw [hm10'.out]; exact HCX.out, by have := HN9.out; rw [← hm10'.out] at this; simpa using this, by rw [hm10'.out]; exact HY9.out, hbe.trans (b11.mono ybe)⟩
          case measure => simp [intOf]; omega
        · skip
          go_wp2
          refine wp_region_held_drew (S := (fun W => W.cell? ⟨gl, k * 5, none⟩ = some (.slice (some ⟨bx, ox, none⟩) pk.length cx))) (by kernel_rfl) (kp (wA := w3.drew) (Below.refl _ _)) (fun hHeld => ?_)
          simp only [List.size_toArray, List.length_cons, List.length_nil, Nat.reduceAdd, Array.replicate_succ, Array.replicate_zero, List.push_toArray, List.nil_append, List.cons_append]
          refine wpAnyH_take (i := 1) (v := ?_) rfl (by kernel_rfl) (by kernel_rfl) (by kernel_rfl) (fun _ _ _ h => h) (Or.inl ⟨by rfl, ?_⟩) (by assumption) ?_
          rotate_left
          · intro w hSw; (try dsimp only at hSw); go_simp; try with_reducible rfl
          simp only [Act.put, List.getElem_toArray, List.getElem_cons_succ, List.getElem_cons_zero, List.setIfInBounds_toArray, List.set_cons_succ, List.set_cons_zero]
          refine wpAnyH_take (i := 3) (v := ?_) rfl (by kernel_rfl) (by kernel_rfl) (by kernel_rfl) (fun _ _ _ h => h) (Or.inl ⟨by rfl, ?_⟩) (by assumption) ?_
          rotate_left
          · intro w hSw; (try dsimp only at hSw); go_simp; try with_reducible rfl
          simp only [Act.put, List.getElem_toArray, List.getElem_cons_succ, List.getElem_cons_zero, List.setIfInBounds_toArray, List.set_cons_succ, List.set_cons_zero]
          refine wpAnyH_take (i := 4) (v := ?_) rfl (by kernel_rfl) (by kernel_rfl) (by kernel_rfl) (fun _ _ _ h => h) (Or.inl ⟨by rfl, ?_⟩) (by assumption) ?_
          rotate_left
          · intro w hSw; (try dsimp only at hSw); go_simp; try with_reducible rfl
          simp only [Act.put, List.getElem_toArray, List.getElem_cons_succ, List.getElem_cons_zero, List.setIfInBounds_toArray, List.set_cons_succ, List.set_cons_zero]
          refine wpAnyH_take (i := 5) (v := ?_) rfl (by kernel_rfl) (by kernel_rfl) (by kernel_rfl) (fun _ _ _ h => h) (Or.inl ⟨by rfl, ?_⟩) (by assumption) ?_
          rotate_left
          · intro w hSw; (try dsimp only at hSw); go_simp; try with_reducible rfl
          simp only [Act.put, List.getElem_toArray, List.getElem_cons_succ, List.getElem_cons_zero, List.setIfInBounds_toArray, List.set_cons_succ, List.set_cons_zero]
          refine wpAnyH_take (i := 6) (v := ?_) rfl (by kernel_rfl) (by kernel_rfl) (by kernel_rfl) (fun _ _ _ h => h) (Or.inl ⟨by rfl, ?_⟩) (by assumption) ?_
          rotate_left
          · intro w hSw; (try dsimp only at hSw); go_simp; try with_reducible rfl
          simp only [Act.put, List.getElem_toArray, List.getElem_cons_succ, List.getElem_cons_zero, List.setIfInBounds_toArray, List.set_cons_succ, List.set_cons_zero]
          refine wpAnyH_take (i := 7) (v := ?_) rfl (by kernel_rfl) (by kernel_rfl) (by kernel_rfl) (fun _ _ _ h => h) (Or.inl ⟨by rfl, ?_⟩) (by assumption) ?_
          rotate_left
          · intro w hSw; (try dsimp only at hSw); go_simp; try with_reducible rfl
          simp only [Act.put, List.getElem_toArray, List.getElem_cons_succ, List.getElem_cons_zero, List.setIfInBounds_toArray, List.set_cons_succ, List.set_cons_zero]
          refine wpAnyH_take (i := 8) (v := ?_) rfl (by kernel_rfl) (by kernel_rfl) (by kernel_rfl) (fun _ _ _ h => h) (Or.inl ⟨by rfl, ?_⟩) (by assumption) ?_
          rotate_left
          · intro w hSw; (try dsimp only at hSw); go_simp; try with_reducible rfl
          simp only [Act.put, List.getElem_toArray, List.getElem_cons_succ, List.getElem_cons_zero, List.setIfInBounds_toArray, List.set_cons_succ, List.set_cons_zero]
          refine wpAnyH_take (i := 9) (v := ?_) rfl (by kernel_rfl) (by kernel_rfl) (by kernel_rfl) (fun _ _ _ h => h) (Or.inl ⟨by rfl, ?_⟩) (by assumption) ?_
          rotate_left
          · intro w hSw; (try dsimp only at hSw); go_simp; try with_reducible rfl
          simp only [Act.put, List.getElem_toArray, List.getElem_cons_succ, List.getElem_cons_zero, List.setIfInBounds_toArray, List.set_cons_succ, List.set_cons_zero]
          refine wpAnyH_take (i := 10) (v := ?_) rfl (by kernel_rfl) (by kernel_rfl) (by kernel_rfl) (fun _ _ _ h => h) (Or.inl ⟨by rfl, ?_⟩) (by assumption) ?_
          rotate_left
          · intro w hSw; (try dsimp only at hSw); go_simp; try with_reducible rfl
          simp only [Act.put, List.getElem_toArray, List.getElem_cons_succ, List.getElem_cons_zero, List.setIfInBounds_toArray, List.set_cons_succ, List.set_cons_zero]
          refine wpAnyH_ready (rs := [0]) (by kernel_rfl) (by simp) ?_
          refine AllReadyH.cons rfl (fun K hK => ?_) AllReadyH.nil
          go_simp
          refine hK.out _ _ (kp (wA := _) ((Below.refl _ _).alloc (Nat.le_refl _) _)) (fun hHeld2 => ?_)
          have k4 := (Below.refl w3.drew.heap.size w3.drew).alloc (Nat.le_refl _) (Obj.cells #[] 9)
          have hT4 := hide ((h2.below cW hB).below k4 (by show B ≤ w3.heap.size; omega))
          clear hK K hHeld
          have hHeld := hHeld2
          clear hHeld2
          simp only [List.setIfInBounds_toArray, List.set_cons_succ, List.set_cons_zero]
          refine wpAnyH_ready (rs := [2]) (by kernel_rfl) (by simp) ?_
          refine AllReadyH.cons rfl (fun K hK => ?_) AllReadyH.nil
          refine step_append_ownT rfl _ _ 25 rfl w3.heap.size 9 ii _ 1 16 Tryz.underlying25 hii hz hsz hby rfl (by omega) (.slice (some ⟨w3.heap.size, 0, none⟩) 0 0) 0 [] (by simp [Act.eval, Act.put]) (World.ownsRow_made w3.drew #[] 0 (Nat.le_refl _) (by decide) rfl) ⟨bt, ot, none⟩ to.length cap2 (strV to) (by simp [Act.eval, Act.put]) (by rw [strV_length]; omega) (strs_cells hT4.out) (strV_one _) (by unfold maxLen; omega) (by omega) (by simp) ?_
          intro v5 w5 hown5 hgr5
          have b5 := k4.trans (below_own (e := 9) (size := 1) (World.ownsRow_made w3.drew #[] 0 (Nat.le_refl _) (by decide) rfl) hgr5 (Nat.le_refl _) (by simp))
          have HO5 := hide hown5
          refine hK.out _ _ (kp (wA := w5) b5) (fun hHeld2 => ?_)
          clear hown5 hgr5
          clear hK K hHeld
          have hHeld := hHeld2
          clear hHeld2
          simp only [List.setIfInBounds_toArray, List.set_cons_succ, List.set_cons_zero]
          refine wpAnyH_ready (rs := [11]) (by kernel_rfl) (by simp) ?_
          refine AllReadyH.cons rfl (fun K hK => ?_) AllReadyH.nil
          refine step_append_ownT rfl _ _ 25 rfl w3.heap.size 9 ii _ 1 16 Tryz.underlying25 hii hz hsz hby rfl (by omega) v5 (0 + to.length) ([] ++ strV to) (by simp [Act.eval, Act.put]) HO5.out ⟨bx, ox + fr.length, none⟩ (pk.length - fr.length) (cx - fr.length) (strV (pk.drop fr.length)) (by simp [Act.eval, Act.put]) (by rw [strV_length, List.length_drop]; omega) (HSF.out w5 b5) (strV_one _) (by unfold maxLen; omega) (by omega) (by have := b5.size; show w3.heap.size ≤ w5.heap.size; exact this) ?_
          intro v6 w6 hown6 hgr6
          obtain ⟨b9, c8, rfl, q1, q2, q3, hst6⟩ := row_got (ss := np) hown6 (by omega) (by rw [← HNP.out, List.nil_append, strV_append]) (by rw [HNL.out]; omega)
          have b6 := b5.trans (below_own HO5.out hgr6 (Nat.le_refl _) (by have := b5.size; exact this))
          have hb9 : w3.heap.size ≤ b9 := q1
          have f0 := (b6.frozen (p := ⟨w2.heap.size, 0, none⟩) hw2).trans hfz0
          have g0 := (b6.cell (p := ⟨w2.heap.size, 0, none⟩) hw2).trans hq0
          have f3 := (b6.frozen (p := ⟨w2.heap.size, 3, none⟩) hw2).trans hfz3
          have g1 := (b6.cell (p := ⟨w2.heap.size, 1, none⟩) hw2).trans hq1
          have g2 := (b6.cell (p := ⟨w2.heap.size, 2, none⟩) hw2).trans hq2
          have g3 := (b6.cell (p := ⟨w2.heap.size, 3, none⟩) hw2).trans hq3
          have g4 := (b6.cell (p := ⟨w2.heap.size, 4, none⟩) hw2).trans hq4
          refine hK.out _ _ (kp (wA := w6) b6) (fun hHeld2 => ?_)
          clear hown6 hgr6
          clear hK K hHeld
          have hHeld := hHeld2
          clear hHeld2
          simp only [List.setIfInBounds_toArray, List.set_cons_succ, List.set_cons_zero]
          refine wpAnyH_take (i := 12) (v := ?_) rfl (by kernel_rfl) (by kernel_rfl) (by kernel_rfl) (fun _ _ _ h => h) (Or.inl ⟨by rfl, ?_⟩) (by assumption) ?_
          rotate_left
          · intro w hSw; (try dsimp only at hSw); go_simp; try with_reducible rfl
          simp only [Act.put, List.getElem_toArray, List.getElem_cons_succ, List.getElem_cons_zero, List.setIfInBounds_toArray, List.set_cons_succ, List.set_cons_zero]
          refine wpAnyH_ready (rs := [13]) (by kernel_rfl) (by simp) ?_
          refine AllReadyH.cons rfl (fun K hK => ?_) AllReadyH.nil
          go_simp
          refine hK.out _ _ (by rw [World.cell?_setCell_other _ _ _ _ (fun e => hglw (congrArg Addr.block e).symm)]; exact kp (wA := w6) b6) (fun hHeld2 => ?_)
          clear hK K hHeld
          have hHeld := hHeld2
          clear hHeld2
          simp only [List.setIfInBounds_toArray, List.set_cons_succ, List.set_cons_zero]
          refine wpAnyH_done (by kernel_rfl) ?_ _
          clear hHeld
          have y6 := b6.size
          have y6' : w3.heap.size ≤ w6.heap.size := y6
          have b7 := B3.out.trans (b6.mono (show wr.heap.size ≤ w3.heap.size by omega))
          have b8 := (b7.setCell (p := ⟨w2.heap.size, 0, none⟩) (by show wr.heap.size ≤ w2.heap.size; omega) (.slice (some ⟨b9, 0, none⟩) np.length c8)).setCell (p := ⟨w2.heap.size, 3, none⟩) (by show wr.heap.size ≤ w2.heap.size; omega) (.int .i64 v)
          have hst8 : Strs ((w6.setCell ⟨w2.heap.size, 0, none⟩ (.slice (some ⟨b9, 0, none⟩) np.length c8)).setCell ⟨w2.heap.size, 3, none⟩ (.int .i64 v)) ((w6.setCell ⟨w2.heap.size, 0, none⟩ (.slice (some ⟨b9, 0, none⟩) np.length c8)).setCell ⟨w2.heap.size, 3, none⟩ (.int .i64 v)).heap.size (some ⟨b9, 0, none⟩) np := by
            have hsz : ((w6.setCell ⟨w2.heap.size, 0, none⟩ (.slice (some ⟨b9, 0, none⟩) np.length c8)).setCell ⟨w2.heap.size, 3, none⟩ (.int .i64 v)).heap.size = w6.heap.size := by simp
            rw [hsz]
            intro h0
            obtain ⟨b0, o0, ea, hb0, hcc0⟩ := hst6 h0
            cases ea
            refine ⟨b9, 0, rfl, hb0, fun j hj => ?_⟩
            rw [World.cell?_setCell_other _ _ _ _ (fun e => absurd (congrArg Addr.block e) (show w2.heap.size ≠ b9 by omega)), World.cell?_setCell_other _ _ _ _ (fun e => absurd (congrArg Addr.block e) (show w2.heap.size ≠ b9 by omega))]
            exact hcc0 j hj
          have hps8 : Pps ((w6.setCell ⟨w2.heap.size, 0, none⟩ (.slice (some ⟨b9, 0, none⟩) np.length c8)).setCell ⟨w2.heap.size, 3, none⟩ (.int .i64 v)) ((w6.setCell ⟨w2.heap.size, 0, none⟩ (.slice (some ⟨b9, 0, none⟩) np.length c8)).setCell ⟨w2.heap.size, 3, none⟩ (.int .i64 v)).heap.size (some ⟨qq, 0, none⟩) qk := by
            have hqq := HQ3.out.1
            have r0 : RowP w3.drew qq qk := HQ3.out.of (show qq < w3.heap.size by omega) (fun o => by show w3.cell? _ = _; rw [← hw3]; exact World.cell?_alloc_past (w := w2) _ qq o hqq) (fun o => by show w3.frozen? _ = _; rw [← hw3]; exact ((Below.refl w2.heap.size w2).alloc (Nat.le_refl _) _).frozen (p := ⟨qq, o, none⟩) hqq)
            have r1 := r0.below b6
            have r2 := (r1.setCell ⟨w2.heap.size, 0, none⟩ (.slice (some ⟨b9, 0, none⟩) np.length c8) (show w2.heap.size ≠ qq by omega)).setCell ⟨w2.heap.size, 3, none⟩ (.int .i64 v) (show w2.heap.size ≠ qq by omega)
            exact r2.pps r2.1
          have HG8 := HG.out.next b8
          obtain ⟨gr, cr, rfl, hR8⟩ := HG8.rss (Nat.le_refl _)
          have hlt9 : (ts.map (·.r)).length = ts.length := by simp
          have X9 := hide (specPutR_any (some ⟨gr, 0, none⟩) (ts.map (·.r)) cr _ _ (carryR fr to v ⟨pk, ck, bk, vk, qk⟩) (some ⟨b9, 0, none⟩) c8 (some ⟨qq, 0, none⟩) dd hR8 (by rw [HCR.out]; exact ⟨hst8, hps8, q2, k3', q3, k4', (fun e => by cases e), (fun e => by cases e)⟩) (Nat.le_refl _) (by rw [hlt9]; omega) HTY.out (by rw [HCR.out]; exact ⟨by show np.length ≤ _; rw [HNL.out]; omega, lp3⟩))
          rw [hlt9, HCR.out] at X9
          have HCX := hide (show putR ⟨np, ck, bk, v, qk⟩ false (ts.map (·.r)) = ((ls.map (carryR fr to v)).take (k + 1)).foldl (fun acc c => putR c false acc) rest by rw [HNX.out, HCR.out, HTS.out])
          have HY9 := hide (show ∀ y ∈ putR ⟨np, ck, bk, v, qk⟩ false (ts.map (·.r)), y.pa.length ≤ 1048576 ∧ y.ps.length ≤ 1048576 from fun y hy => by
            rcases putR_mem.1 hy with rfl | ⟨hm, _⟩
            · exact ⟨by show np.length ≤ _; rw [HNL.out]; omega, lp3⟩
            · exact HTY.out y hm)
          have HN9 := hide (show (putR ⟨np, ck, bk, v, qk⟩ false (ts.map (·.r))).length ≤ rest.length + (k + 1) by
            have h1 := putR_len (r := ⟨np, ck, bk, v, qk⟩) (l := ts.map (·.r))
            have h2 := notAt_len (r := ⟨np, ck, bk, v, qk⟩) (l := ts.map (·.r))
            omega)
          generalize ts.map (·.r) = acc at *
          have z8 := b8.size
          clear hst8 hps8 HG8 hR8 hst6 HNX HCR HTS HTY HNL HNP HSF HQ3 B3 b7 b6 b5 HO5 hT4 kp hlt9 HG
          go_wp2_with fail
          refine X9.out.mono ?_
          rintro e w10 ⟨⟨v10, ts10, rfl, hG10, hm10⟩, b10⟩
          have b11 := b8.trans (b10.mono z8)
          have z10 := b10.size
          have HG10 := hide (hG10.up (hG10.top) (Nat.le_refl _))
          have hm10' := hide hm10
          clear X9 hG10 hm10 b10 b8
          go_wp2
          go_roundw
          case rel => exact ⟨k + 1, ts10, _, by omega, by go_num, by have := cR.size; simp; omega, HG10.out, by rw [hm10'.out]; exact HCX.out, by have := HN9.out; rw [← hm10'.out] at this; simpa using this, by rw [hm10'.out]; exact HY9.out, hbe.trans (b11.mono ybe)⟩
          case measure => simp [intOf]; omega
      · have hke : k = ls.length := by omega
        subst hke
        have TT := hide (HRD.out _ _ ts base hbas HG.out HTS.out)
        clear HG HTS
        go_wp2
        go_ret2
        exact ⟨TT.out, cR⟩
  · skip
    obtain rfl : ov = true := by
      rcases ho with ho | ho
      · exact absurd ho hF2
      · exact ho
    have HFC' := hide (show farC rs fr to true v true = 204 by rw [HFC.out, there_of hF2]; rfl)
    generalize findI rs to = F2 at *
    generalize findI rs fr = F1 at *
    have HDN := hide (And.intro HRF.out HFC'.out)
    clear HRF HFC HFC' hI hfar hth
    go_enter Tryz.func63, Tryz.ntmps63
    go_wp2_with fail
    refine M1.out.mono ?_
    rintro e w1 ⟨rfl, c1⟩
    have X := hide (M2.out w1 c1)
    go_wp2_with fail
    refine X.out.mono ?_
    rintro e w2 ⟨rfl, b'⟩
    have c2 := c1.trans (b'.mono c1.size)
    clear X b'
    have X := hide (FT.out w2 c2)
    go_wp2_with fail
    refine X.out.mono ?_
    rintro e w3 ⟨rfl, b'⟩
    have c3 := c2.trans (b' _)
    clear X b'
    have X := hide (DO.out w3 c3)
    go_wp2_with fail
    refine X.out.mono ?_
    rintro e w4 ⟨⟨gl, cl, _, rfl, hL4⟩, b'⟩
    have c4 := c3.trans (b'.mono c3.size)
    clear X b'
    have X := hide (WO.out w4 c4)
    go_wp2_with fail
    refine X.out.mono ?_
    rintro e w5 ⟨⟨vr, tr, rfl, hG5, hm5⟩, b'⟩
    have c5 := c4.trans (b'.mono c4.size)
    have hL5 := (hL4.below b' (Nat.le_refl _)).mono b'.size
    obtain ⟨gr, cr, rfl, hR5⟩ := hG5.rss (Nat.le_refl _)
    have htl : tr.length = (withoutL rs to).length := by rw [← hm5]; simp
    rw [hm5] at hR5
    clear X b'
    rw [htl]
    have X := hide (WP.out w5 gr cr c5 hR5)
    clear hG5 hm5 htl
    go_wp2_with fail
    refine X.out.mono ?_
    rintro e w6 ⟨⟨vr2, tr2, rfl, hG6, hm6⟩, b'⟩
    have c6 := c5.trans (b'.mono c5.size)
    have hL6 := (hL5.below b' (Nat.le_refl _)).mono b'.size
    obtain ⟨gr2, cr2, rfl, hR6⟩ := hG6.rss (Nat.le_refl _)
    have htl : tr2.length = (withoutL (withoutL rs to) fr).length := by rw [← hm6]; simp
    clear X b'
    rw [htl]
    have HGk := hide hG6
    have hmk := hide hm6
    clear hG6 hR6
    have X := hide (FF.out w6 c6)
    go_wp2_with fail
    refine X.out.mono ?_
    rintro e w7 ⟨rfl, b'⟩
    have c7 := c6.trans (b' _)
    have hL7 := (hL6.below (b' _) (Nat.le_refl _)).mono (b' 0).size
    have HGn := hide (HGk.out.next (b' _))
    clear HGk
    have HGk := HGn
    clear HGn
    clear X b'
    have X := hide (SP.out w7 c7)
    go_wp2_with fail
    refine X.out.mono ?_
    rintro e w8 ⟨rfl, b'⟩
    have c8 := c7.trans (b' _)
    have hL8 := (hL7.below (b' _) (Nat.le_refl _)).mono (b' 0).size
    have HGn := hide (HGk.out.next (b' _))
    clear HGk
    have HGk := HGn
    clear HGn
    clear X b'
    have X := hide (U1.out w8 c8)
    go_wp2_with fail
    refine X.out.mono ?_
    rintro e w9 ⟨rfl, b'⟩
    have c9 := c8.trans (b' _)
    have hL9 := (hL8.below (b' _) (Nat.le_refl _)).mono (b' 0).size
    have HGn := hide (HGk.out.next (b' _))
    clear HGk
    have HGk := HGn
    clear HGn
    clear X b'
    have X := hide (U2.out w9 c9)
    go_wp2_with fail
    refine X.out.mono ?_
    rintro e w10 ⟨rfl, b'⟩
    have c10 := c9.trans (b' _)
    have hL10 := (hL9.below (b' _) (Nat.le_refl _)).mono (b' 0).size
    have HGn := hide (HGk.out.next (b' _))
    clear HGk
    have HGk := HGn
    clear HGn
    clear X b'
    have X := hide (specAboveT_any bt ot to cap2 B w10 (h2.below c10 hB) (Nat.le_trans hB c10.size) hl2 (by omega) hc2 hm2)
    go_wp2_with fail
    refine X.out.mono ?_
    rintro e w11 ⟨⟨ga, ca, rfl, _, _, rA⟩, b'⟩
    have c11 := c10.trans (b'.mono c10.size)
    have hL11 := (hL10.below b' (Nat.le_refl _)).mono b'.size
    have HGn := hide (HGk.out.next b')
    clear HGk
    have HGk := HGn
    clear HGn
    clear X b'
    have X := hide (IC.out w11 ga ca c11 rA)
    go_wp2_with fail
    refine X.out.mono ?_
    rintro e w12 ⟨rfl, b'⟩
    have c12 := c11.trans (b' _)
    have hL12 := (hL11.below (b' _) (Nat.le_refl _)).mono (b' 0).size
    have HGn := hide (HGk.out.next (b' _))
    clear HGk
    have HGk := HGn
    clear HGn
    clear X b' rA
    have X := hide (LG.out w12 gl cl hL12)
    go_wp2_with fail
    refine X.out.mono ?_
    rintro e w12' ⟨rfl, hw'⟩
    obtain rfl := hw'.symm
    clear X
    have hGk2 := HGk.out.up (by have := HGk.out.top; omega) (Nat.le_refl _)
    rw [htl] at hGk2
    have HGZ := hide hGk2
    clear hGk2
    have hmZ := hmk.out
    have HLZ := hide hL12
    obtain ⟨wZ, hwZ⟩ : ∃ wZ, w12 = wZ := ⟨_, rfl⟩
    subst hwZ
    have cZ := c12
    have hbsZ : w.heap.size ≤ w5.heap.size := c5.size
    have HCL := hide (show carryL rs fr to v = (deepL rs fr).map (carryR fr to v) from rfl)
    have HRE := hide (show restL rs fr to true = withoutL (withoutL rs to) fr from rfl)
    rw [HCL.out] at HDN
    rw [HRE.out] at HDN HRS hr12 e12
    clear HCL HRE M1 M2 FT DO WO WP FF SP U1 U2 IC LG CA HGk hmk
    generalize withoutL (withoutL rs to) fr = rest at *
    generalize deepL rs fr = ls at *
    have HRD := hide (show ∀ W' (vv : Value) (ts : List RsT) (base : Nat), w.heap.size ≤ base → GrowR W' base vv ts W'.heap.size → ts.map (·.r) = ((ls.map (carryR fr to v)).take ls.length).foldl (fun acc c => putR c false acc) rest → TurnIs w W' (.returned (.tuple #[vv, .int .i64 204])) (farR rs fr to true v true) (farC rs fr to true v true) from fun W' vv ts base hb hg hm => ⟨vv, ts, base, hb, by rw [HDN.out.2], hg, by rw [HDN.out.1, hm, List.take_of_length_le (by simp)]⟩)
    go_wp2
    go_loopw [18, 19] (fun vr i wr => ∃ (k : Nat) (ts : List RsT) (base : Nat), k ≤ ls.length ∧ i = .int .i64 k ∧ w.heap.size ≤ base ∧ GrowR wr base vr ts wr.heap.size ∧ ts.map (·.r) = ((ls.map (carryR fr to v)).take k).foldl (fun acc c => putR c false acc) rest ∧ ts.length ≤ rest.length + k ∧ (∀ y ∈ ts.map (·.r), y.pa.length ≤ 1048576 ∧ y.ps.length ≤ 1048576) ∧ Below w12.heap.size w12 wr) (fun _ i _ => ls.length - (intOf i).toNat)
    case atStart => exact ⟨0, tr2, w5.heap.size, Nat.zero_le _, rfl, hbsZ, HGZ.out, by rw [List.take_zero]; exact hmZ, by rw [htl]; omega, by rw [hmZ]; exact HRS.out, Below.refl _ _⟩
    case round =>
      obtain ⟨k, ts, base, hk, rfl, hbas, hG, hts, htn, hty, hbe⟩ := hrel
      have HG := hide hG
      have HTS := hide hts
      have HTY := hide hty
      have cR := cZ.trans (hbe.mono cZ.size)
      clear hG hts hty
      by_cases hlt : k < ls.length
      · obtain ⟨gl2, ol, egl, hgl, hcc⟩ := (HLZ.out.below hbe (Nat.le_refl _)) (by omega)
        cases egl
        obtain ⟨pa, cx, qa, qc, ⟨hc0, hc1, hc2, hc3, hc4⟩, hin⟩ := hcc k hlt
        clear hcc
        simp only [Nat.zero_add] at hc0 hc1 hc2 hc3 hc4
        obtain ⟨lp1, lp2, lp3⟩ := HLP.out _ (List.getElem_mem hlt)
        have hpl9 : 0 < (ls[k]).pa.length := by omega
        obtain ⟨bx, ox, rfl, hbx, hpc⟩ := hin.ph hpl9
        have HNX := hide (show ((ls.map (carryR fr to v)).take (k + 1)).foldl (fun acc c => putR c false acc) rest = putR (carryR fr to v ls[k]) false (((ls.map (carryR fr to v)).take k).foldl (fun acc c => putR c false acc) rest) by rw [fold_snoc _ _ _ k (by simpa using hlt), List.getElem_map])
        have HCR := hide (show carryR fr to v ls[k] = ⟨to ++ (ls[k]).pa.drop fr.length, (ls[k]).co, (ls[k]).bo, v, (ls[k]).ps⟩ from rfl)
        have ybe := hbe.size
        have HCPY := hide (specCopy_any ls[k] (some ⟨bx, ox, none⟩) cx qa qc w12.heap.size wr hin ybe (by omega) lp3)
        have hglr : gl < wr.heap.size := by omega
        have hpd : ∀ j (hj : j < ((ls[k]).pa.drop fr.length).length), wr.cell? ⟨bx, ox + fr.length + j, none⟩ = some (.string ((ls[k]).pa.drop fr.length)[j]) := fun j hj => by
          have hj2 : fr.length + j < (ls[k]).pa.length := by rw [List.length_drop] at hj; omega
          rw [Nat.add_assoc, hpc (fr.length + j) hj2, List.getElem_drop]
        have hpcx := hin.pl
        have hpm := hin.pm
        obtain ⟨np, hnp⟩ : ∃ np, to ++ (ls[k]).pa.drop fr.length = np := ⟨_, rfl⟩
        have HNP := hide hnp
        have hnl : np.length = to.length + ((ls[k]).pa.length - fr.length) := by rw [← hnp, List.length_append, List.length_drop]
        have HNL := hide hnl
        rw [hnp] at HCR
        obtain ⟨rk, hrk⟩ : ∃ rk, ls[k] = rk := ⟨_, rfl⟩
        rw [hrk] at HCR HNX HCPY hc0 hc1 hc2 hc3 hc4 hpd hpl9 hpcx lp1 lp2 lp3 HNL HNP
        obtain ⟨pk, ck, bk, vk, qk⟩ := rk
        simp only at HCR HCPY hc0 hc1 hc2 hc3 hc4 hpd hpl9 hpcx lp1 lp2 lp3 HNL HNP
        clear hin hrk hnp hnl hpc
        go_wp2_with fail
        refine HCPY.out.mono ?_
        rintro e w2 ⟨⟨pp, cc, qq, dd, rfl, hpp, hpq, r3, q3', k1, k2, k3', k4'⟩, b2⟩
        have y2 := b2.size
        have hq0 : (w2.alloc (Obj.cells #[.slice (some ⟨pp, 0, none⟩) pk.length cc, .bool ck, .string bk, .int .i64 vk, .slice (some ⟨qq, 0, none⟩) qk.length dd] 62)).drew.cell? ⟨w2.heap.size, 0, none⟩ = some (.slice (some ⟨pp, 0, none⟩) pk.length cc) := by show (w2.alloc _).cell? _ = _; simp
        have hq1 : (w2.alloc (Obj.cells #[.slice (some ⟨pp, 0, none⟩) pk.length cc, .bool ck, .string bk, .int .i64 vk, .slice (some ⟨qq, 0, none⟩) qk.length dd] 62)).drew.cell? ⟨w2.heap.size, 1, none⟩ = some (.bool ck) := by show (w2.alloc _).cell? _ = _; simp
        have hq2 : (w2.alloc (Obj.cells #[.slice (some ⟨pp, 0, none⟩) pk.length cc, .bool ck, .string bk, .int .i64 vk, .slice (some ⟨qq, 0, none⟩) qk.length dd] 62)).drew.cell? ⟨w2.heap.size, 2, none⟩ = some (.string bk) := by show (w2.alloc _).cell? _ = _; simp
        have hq3 : (w2.alloc (Obj.cells #[.slice (some ⟨pp, 0, none⟩) pk.length cc, .bool ck, .string bk, .int .i64 vk, .slice (some ⟨qq, 0, none⟩) qk.length dd] 62)).drew.cell? ⟨w2.heap.size, 3, none⟩ = some (.int .i64 vk) := by show (w2.alloc _).cell? _ = _; simp
        have hq4 : (w2.alloc (Obj.cells #[.slice (some ⟨pp, 0, none⟩) pk.length cc, .bool ck, .string bk, .int .i64 vk, .slice (some ⟨qq, 0, none⟩) qk.length dd] 62)).drew.cell? ⟨w2.heap.size, 4, none⟩ = some (.slice (some ⟨qq, 0, none⟩) qk.length dd) := by show (w2.alloc _).cell? _ = _; simp
        have hfz0 : (w2.alloc (Obj.cells #[.slice (some ⟨pp, 0, none⟩) pk.length cc, .bool ck, .string bk, .int .i64 vk, .slice (some ⟨qq, 0, none⟩) qk.length dd] 62)).drew.frozen? ⟨w2.heap.size, 0, none⟩ = false := by show (w2.alloc _).frozen? _ = _; simp
        have hfz3 : (w2.alloc (Obj.cells #[.slice (some ⟨pp, 0, none⟩) pk.length cc, .bool ck, .string bk, .int .i64 vk, .slice (some ⟨qq, 0, none⟩) qk.length dd] 62)).drew.frozen? ⟨w2.heap.size, 3, none⟩ = false := by show (w2.alloc _).frozen? _ = _; simp
        have hw2 : w2.heap.size < (w2.alloc (Obj.cells #[.slice (some ⟨pp, 0, none⟩) pk.length cc, .bool ck, .string bk, .int .i64 vk, .slice (some ⟨qq, 0, none⟩) qk.length dd] 62)).drew.heap.size := by show _ < (w2.alloc _).heap.size; simp
        have bA := (Below.refl w2.heap.size w2).alloc (Nat.le_refl _) (Obj.cells #[.slice (some ⟨pp, 0, none⟩) pk.length cc, .bool ck, .string bk, .int .i64 vk, .slice (some ⟨qq, 0, none⟩) qk.length dd] 62)
        obtain ⟨w3, hw3⟩ : ∃ w3, w2.alloc (Obj.cells #[.slice (some ⟨pp, 0, none⟩) pk.length cc, .bool ck, .string bk, .int .i64 vk, .slice (some ⟨qq, 0, none⟩) qk.length dd] 62) = w3 := ⟨_, rfl⟩
        rw [hw3] at hq0 hq1 hq2 hq3 hq4 hfz0 hfz3 hw2 bA
        have b3 : Below wr.heap.size wr w3.drew := belowDF (b2.trans (bA.mono y2))
        have cW := cR.trans (b3.mono cR.size)
        have y3 : w2.heap.size < w3.heap.size := hw2
        have hBw : B ≤ w3.heap.size := by have := cR.size; omega
        have kp : ∀ {wA : World}, Below w3.drew.heap.size w3.drew wA → wA.cell? ⟨gl, k * 5, none⟩ = some (.slice (some ⟨bx, ox, none⟩) pk.length cx) := fun hb => (hb.cell (p := ⟨gl, k * 5, none⟩) (show gl < w3.heap.size by omega)).trans ((b3.cell (p := ⟨gl, k * 5, none⟩) hglr).trans hc0)
        have hglw : gl ≠ w2.heap.size := by omega
        have HSF := hide (fun (W : World) (hb : Below w3.drew.heap.size w3.drew W) => show ∀ j u, (strV (pk.drop fr.length))[j]? = some u → W.cell? ((⟨bx, ox + fr.length, none⟩ : Addr).add j) = some u from fun j u hj => by
          have hjl : j < (pk.drop fr.length).length := by
            have := (List.getElem?_eq_some_iff.1 hj).1
            rw [strV_length] at this
            exact this
          rw [Addr.add_lit, (hb.cell (p := ⟨bx, ox + fr.length + j, none⟩) (show bx < w3.heap.size by omega)), (b3.cell (p := ⟨bx, ox + fr.length + j, none⟩) (show bx < wr.heap.size by omega)), hpd j hjl]
          unfold strV at hj
          rw [List.getElem?_map, List.getElem?_eq_getElem hjl] at hj
          exact hj)
        have HQ3 := hide q3'.rp
        have B3 := hide b3
        have hi0 : (0 : Int) ≤ (k : Int) := by omega
        have hi3 : (k : Int) < (ls.length : Int) := by omega
        have hj0 : (0 : Int) ≤ (fr.length : Int) := by omega
        have hj3 : (fr.length : Int) ≤ (pk.length : Int) := by omega
        clear r3 q3' b2 HCPY hpd hc0 hc1 hc2 hc3 hc4 bA
        by_cases hcx : cx = fr.length
        · skip
          have hsl0 : pk.length - fr.length = 0 := by omega
          have hnil : pk.drop fr.length = [] := List.drop_of_length_le (by omega)
          have HSG := hide (show ∀ (W : World), Below w3.drew.heap.size w3.drew W → ∀ j u, (strV (pk.drop fr.length))[j]? = some u → W.cell? ((⟨bx, ox, none⟩ : Addr).add j) = some u from fun W _ j u hj => by rw [hnil] at hj; simp [strV] at hj)
          subst hcx
          clear hnil hsl0
          go_wp2
          refine wp_region_held_drew (S := (fun W => W.cell? ⟨gl, k * 5, none⟩ = some (.slice (some ⟨bx, ox, none⟩) pk.length fr.length))) (by kernel_rfl) (kp (wA := w3.drew) (Below.refl _ _)) (fun hHeld => ?_)
          simp only [List.size_toArray, List.length_cons, List.length_nil, Nat.reduceAdd, Array.replicate_succ, Array.replicate_zero, List.push_toArray, List.nil_append, List.cons_append]
          refine wpAnyH_take (i := 1) (v := ?_) rfl (by kernel_rfl) (by kernel_rfl) (by kernel_rfl) (fun _ _ _ h => h) (Or.inl ⟨by rfl, ?_⟩) (by assumption) ?_
          rotate_left
          · intro w hSw; (try dsimp only at hSw); go_simp; try with_reducible rfl
          simp only [Act.put, List.getElem_toArray, List.getElem_cons_succ, List.getElem_cons_zero, List.setIfInBounds_toArray, List.set_cons_succ, List.set_cons_zero]
          refine wpAnyH_take (i := 3) (v := ?_) rfl (by kernel_rfl) (by kernel_rfl) (by kernel_rfl) (fun _ _ _ h => h) (Or.inl ⟨by rfl, ?_⟩) (by assumption) ?_
          rotate_left
          · intro w hSw; (try dsimp only at hSw); go_simp; try with_reducible rfl
          simp only [Act.put, List.getElem_toArray, List.getElem_cons_succ, List.getElem_cons_zero, List.setIfInBounds_toArray, List.set_cons_succ, List.set_cons_zero]
          refine wpAnyH_take (i := 4) (v := ?_) rfl (by kernel_rfl) (by kernel_rfl) (by kernel_rfl) (fun _ _ _ h => h) (Or.inl ⟨by rfl, ?_⟩) (by assumption) ?_
          rotate_left
          · intro w hSw; (try dsimp only at hSw); go_simp; try with_reducible rfl
          simp only [Act.put, List.getElem_toArray, List.getElem_cons_succ, List.getElem_cons_zero, List.setIfInBounds_toArray, List.set_cons_succ, List.set_cons_zero]
          refine wpAnyH_take (i := 5) (v := ?_) rfl (by kernel_rfl) (by kernel_rfl) (by kernel_rfl) (fun _ _ _ h => h) (Or.inl ⟨by rfl, ?_⟩) (by assumption) ?_
          rotate_left
          · intro w hSw; (try dsimp only at hSw); go_simp; try with_reducible rfl
          simp only [Act.put, List.getElem_toArray, List.getElem_cons_succ, List.getElem_cons_zero, List.setIfInBounds_toArray, List.set_cons_succ, List.set_cons_zero]
          refine wpAnyH_take (i := 6) (v := ?_) rfl (by kernel_rfl) (by kernel_rfl) (by kernel_rfl) (fun _ _ _ h => h) (Or.inl ⟨by rfl, ?_⟩) (by assumption) ?_
          rotate_left
          · intro w hSw; (try dsimp only at hSw); go_simp; try with_reducible rfl
          simp only [Act.put, List.getElem_toArray, List.getElem_cons_succ, List.getElem_cons_zero, List.setIfInBounds_toArray, List.set_cons_succ, List.set_cons_zero]
          refine wpAnyH_take (i := 7) (v := ?_) rfl (by kernel_rfl) (by kernel_rfl) (by kernel_rfl) (fun _ _ _ h => h) (Or.inl ⟨by rfl, ?_⟩) (by assumption) ?_
          rotate_left
          · intro w hSw; (try dsimp only at hSw); go_simp; try with_reducible rfl
          simp only [Act.put, List.getElem_toArray, List.getElem_cons_succ, List.getElem_cons_zero, List.setIfInBounds_toArray, List.set_cons_succ, List.set_cons_zero]
          refine wpAnyH_take (i := 8) (v := ?_) rfl (by kernel_rfl) (by kernel_rfl) (by kernel_rfl) (fun _ _ _ h => h) (Or.inl ⟨by rfl, ?_⟩) (by assumption) ?_
          rotate_left
          · intro w hSw; (try dsimp only at hSw); go_simp; try with_reducible rfl
          simp only [Act.put, List.getElem_toArray, List.getElem_cons_succ, List.getElem_cons_zero, List.setIfInBounds_toArray, List.set_cons_succ, List.set_cons_zero]
          refine wpAnyH_take (i := 9) (v := ?_) rfl (by kernel_rfl) (by kernel_rfl) (by kernel_rfl) (fun _ _ _ h => h) (Or.inl ⟨by rfl, ?_⟩) (by assumption) ?_
          rotate_left
          · intro w hSw; (try dsimp only at hSw); go_simp; try with_reducible rfl
          simp only [Act.put, List.getElem_toArray, List.getElem_cons_succ, List.getElem_cons_zero, List.setIfInBounds_toArray, List.set_cons_succ, List.set_cons_zero]
          refine wpAnyH_take (i := 10) (v := ?_) rfl (by kernel_rfl) (by kernel_rfl) (by kernel_rfl) (fun _ _ _ h => h) (Or.inl ⟨by rfl, ?_⟩) (by assumption) ?_
          rotate_left
          · intro w hSw; (try dsimp only at hSw); go_simp; try with_reducible rfl
          simp only [Act.put, List.getElem_toArray, List.getElem_cons_succ, List.getElem_cons_zero, List.setIfInBounds_toArray, List.set_cons_succ, List.set_cons_zero]
          refine wpAnyH_ready (rs := [0]) (by kernel_rfl) (by simp) ?_
          refine AllReadyH.cons rfl (fun K hK => ?_) AllReadyH.nil
          go_simp
          refine hK.out _ _ (kp (wA := _) ((Below.refl _ _).alloc (Nat.le_refl _) _)) (fun hHeld2 => ?_)
          have k4 := (Below.refl w3.drew.heap.size w3.drew).alloc (Nat.le_refl _) (Obj.cells #[] 9)
          have hT4 := hide ((h2.below cW hB).below k4 (by show B ≤ w3.heap.size; omega))
          clear hK K hHeld
          have hHeld := hHeld2
          clear hHeld2
          simp only [List.setIfInBounds_toArray, List.set_cons_succ, List.set_cons_zero]
          refine wpAnyH_ready (rs := [2]) (by kernel_rfl) (by simp) ?_
          refine AllReadyH.cons rfl (fun K hK => ?_) AllReadyH.nil
          refine step_append_ownT rfl _ _ 25 rfl w3.heap.size 9 ii _ 1 16 Tryz.underlying25 hii hz hsz hby rfl (by omega) (.slice (some ⟨w3.heap.size, 0, none⟩) 0 0) 0 [] (by simp [Act.eval, Act.put]) (World.ownsRow_made w3.drew #[] 0 (Nat.le_refl _) (by decide) rfl) ⟨bt, ot, none⟩ to.length cap2 (strV to) (by simp [Act.eval, Act.put]) (by rw [strV_length]; omega) (strs_cells hT4.out) (strV_one _) (by unfold maxLen; omega) (by omega) (by simp) ?_
          intro v5 w5 hown5 hgr5
          have b5 := k4.trans (below_own (e := 9) (size := 1) (World.ownsRow_made w3.drew #[] 0 (Nat.le_refl _) (by decide) rfl) hgr5 (Nat.le_refl _) (by simp))
          have HO5 := hide hown5
          refine hK.out _ _ (kp (wA := w5) b5) (fun hHeld2 => ?_)
          clear hown5 hgr5
          clear hK K hHeld
          have hHeld := hHeld2
          clear hHeld2
          simp only [List.setIfInBounds_toArray, List.set_cons_succ, List.set_cons_zero]
          refine wpAnyH_ready (rs := [11]) (by kernel_rfl) (by simp) ?_
          refine AllReadyH.cons rfl (fun K hK => ?_) AllReadyH.nil
          refine step_append_ownT rfl _ _ 25 rfl w3.heap.size 9 ii _ 1 16 Tryz.underlying25 hii hz hsz hby rfl (by omega) v5 (0 + to.length) ([] ++ strV to) (by simp [Act.eval, Act.put]) HO5.out ⟨bx, ox, none⟩ (pk.length - fr.length) 0 (strV (pk.drop fr.length)) (by simp [Act.eval, Act.put]; omega) (by rw [strV_length, List.length_drop]; omega) (HSG.out w5 b5) (strV_one _) (by unfold maxLen; omega) (by omega) (by have := b5.size; show w3.heap.size ≤ w5.heap.size; exact this) ?_
          intro v6 w6 hown6 hgr6
          obtain ⟨b9, c8, rfl, q1, q2, q3, hst6⟩ := row_got (ss := np) hown6 (by omega) (by rw [← HNP.out, List.nil_append, strV_append]) (by rw [HNL.out]; omega)
          have b6 := b5.trans (below_own HO5.out hgr6 (Nat.le_refl _) (by have := b5.size; exact this))
          have hb9 : w3.heap.size ≤ b9 := q1
          have f0 := (b6.frozen (p := ⟨w2.heap.size, 0, none⟩) hw2).trans hfz0
          have g0 := (b6.cell (p := ⟨w2.heap.size, 0, none⟩) hw2).trans hq0
          have f3 := (b6.frozen (p := ⟨w2.heap.size, 3, none⟩) hw2).trans hfz3
          have g1 := (b6.cell (p := ⟨w2.heap.size, 1, none⟩) hw2).trans hq1
          have g2 := (b6.cell (p := ⟨w2.heap.size, 2, none⟩) hw2).trans hq2
          have g3 := (b6.cell (p := ⟨w2.heap.size, 3, none⟩) hw2).trans hq3
          have g4 := (b6.cell (p := ⟨w2.heap.size, 4, none⟩) hw2).trans hq4
          refine hK.out _ _ (kp (wA := w6) b6) (fun hHeld2 => ?_)
          clear hown6 hgr6
          clear hK K hHeld
          have hHeld := hHeld2
          clear hHeld2
          simp only [List.setIfInBounds_toArray, List.set_cons_succ, List.set_cons_zero]
          refine wpAnyH_take (i := 12) (v := ?_) rfl (by kernel_rfl) (by kernel_rfl) (by kernel_rfl) (fun _ _ _ h => h) (Or.inl ⟨by rfl, ?_⟩) (by assumption) ?_
          rotate_left
          · intro w hSw; (try dsimp only at hSw); go_simp; try with_reducible rfl
          simp only [Act.put, List.getElem_toArray, List.getElem_cons_succ, List.getElem_cons_zero, List.setIfInBounds_toArray, List.set_cons_succ, List.set_cons_zero]
          refine wpAnyH_ready (rs := [13]) (by kernel_rfl) (by simp) ?_
          refine AllReadyH.cons rfl (fun K hK => ?_) AllReadyH.nil
          go_simp
          refine hK.out _ _ (by rw [World.cell?_setCell_other _ _ _ _ (fun e => hglw (congrArg Addr.block e).symm)]; exact kp (wA := w6) b6) (fun hHeld2 => ?_)
          clear hK K hHeld
          have hHeld := hHeld2
          clear hHeld2
          simp only [List.setIfInBounds_toArray, List.set_cons_succ, List.set_cons_zero]
          refine wpAnyH_done (by kernel_rfl) ?_ _
          clear hHeld
          have y6 := b6.size
          have y6' : w3.heap.size ≤ w6.heap.size := y6
          have b7 := B3.out.trans (b6.mono (show wr.heap.size ≤ w3.heap.size by omega))
          have b8 := (b7.setCell (p := ⟨w2.heap.size, 0, none⟩) (by show wr.heap.size ≤ w2.heap.size; omega) (.slice (some ⟨b9, 0, none⟩) np.length c8)).setCell (p := ⟨w2.heap.size, 3, none⟩) (by show wr.heap.size ≤ w2.heap.size; omega) (.int .i64 v)
          have hst8 : Strs ((w6.setCell ⟨w2.heap.size, 0, none⟩ (.slice (some ⟨b9, 0, none⟩) np.length c8)).setCell ⟨w2.heap.size, 3, none⟩ (.int .i64 v)) ((w6.setCell ⟨w2.heap.size, 0, none⟩ (.slice (some ⟨b9, 0, none⟩) np.length c8)).setCell ⟨w2.heap.size, 3, none⟩ (.int .i64 v)).heap.size (some ⟨b9, 0, none⟩) np := by
            have hsz : ((w6.setCell ⟨w2.heap.size, 0, none⟩ (.slice (some ⟨b9, 0, none⟩) np.length c8)).setCell ⟨w2.heap.size, 3, none⟩ (.int .i64 v)).heap.size = w6.heap.size := by simp
            rw [hsz]
            intro h0
            obtain ⟨b0, o0, ea, hb0, hcc0⟩ := hst6 h0
            cases ea
            refine ⟨b9, 0, rfl, hb0, fun j hj => ?_⟩
            rw [World.cell?_setCell_other _ _ _ _ (fun e => absurd (congrArg Addr.block e) (show w2.heap.size ≠ b9 by omega)), World.cell?_setCell_other _ _ _ _ (fun e => absurd (congrArg Addr.block e) (show w2.heap.size ≠ b9 by omega))]
            exact hcc0 j hj
          have hps8 : Pps ((w6.setCell ⟨w2.heap.size, 0, none⟩ (.slice (some ⟨b9, 0, none⟩) np.length c8)).setCell ⟨w2.heap.size, 3, none⟩ (.int .i64 v)) ((w6.setCell ⟨w2.heap.size, 0, none⟩ (.slice (some ⟨b9, 0, none⟩) np.length c8)).setCell ⟨w2.heap.size, 3, none⟩ (.int .i64 v)).heap.size (some ⟨qq, 0, none⟩) qk := by
            have hqq := HQ3.out.1
            have r0 : RowP w3.drew qq qk := HQ3.out.of (show qq < w3.heap.size by omega) (fun o => by show w3.cell? _ = _; rw [← hw3]; exact World.cell?_alloc_past (w := w2) _ qq o hqq) (fun o => by show w3.frozen? _ = _; rw [← hw3]; exact ((Below.refl w2.heap.size w2).alloc (Nat.le_refl _) _).frozen (p := ⟨qq, o, none⟩) hqq)
            have r1 := r0.below b6
            have r2 := (r1.setCell ⟨w2.heap.size, 0, none⟩ (.slice (some ⟨b9, 0, none⟩) np.length c8) (show w2.heap.size ≠ qq by omega)).setCell ⟨w2.heap.size, 3, none⟩ (.int .i64 v) (show w2.heap.size ≠ qq by omega)
            exact r2.pps r2.1
          have HG8 := HG.out.next b8
          obtain ⟨gr, cr, rfl, hR8⟩ := HG8.rss (Nat.le_refl _)
          have hlt9 : (ts.map (·.r)).length = ts.length := by simp
          have X9 := hide (specPutR_any (some ⟨gr, 0, none⟩) (ts.map (·.r)) cr _ _ (carryR fr to v ⟨pk, ck, bk, vk, qk⟩) (some ⟨b9, 0, none⟩) c8 (some ⟨qq, 0, none⟩) dd hR8 (by rw [HCR.out]; exact ⟨hst8, hps8, q2, k3', q3, k4', (fun e => by cases e), (fun e => by cases e)⟩) (Nat.le_refl _) (by rw [hlt9]; omega) HTY.out (by rw [HCR.out]; exact ⟨by show np.length ≤ _; rw [HNL.out]; omega, lp3⟩))
          rw [hlt9, HCR.out] at X9
          have HCX := hide (show putR ⟨np, ck, bk, v, qk⟩ false (ts.map (·.r)) = ((ls.map (carryR fr to v)).take (k + 1)).foldl (fun acc c => putR c false acc) rest by rw [HNX.out, HCR.out, HTS.out])
          have HY9 := hide (show ∀ y ∈ putR ⟨np, ck, bk, v, qk⟩ false (ts.map (·.r)), y.pa.length ≤ 1048576 ∧ y.ps.length ≤ 1048576 from fun y hy => by
            rcases putR_mem.1 hy with rfl | ⟨hm, _⟩
            · exact ⟨by show np.length ≤ _; rw [HNL.out]; omega, lp3⟩
            · exact HTY.out y hm)
          have HN9 := hide (show (putR ⟨np, ck, bk, v, qk⟩ false (ts.map (·.r))).length ≤ rest.length + (k + 1) by
            have h1 := putR_len (r := ⟨np, ck, bk, v, qk⟩) (l := ts.map (·.r))
            have h2 := notAt_len (r := ⟨np, ck, bk, v, qk⟩) (l := ts.map (·.r))
            omega)
          generalize ts.map (·.r) = acc at *
          have z8 := b8.size
          clear hst8 hps8 HG8 hR8 hst6 HNX HCR HTS HTY HNL HNP HSF HQ3 B3 b7 b6 b5 HO5 hT4 kp hlt9 HG
          go_wp2_with fail
          refine X9.out.mono ?_
          rintro e w10 ⟨⟨v10, ts10, rfl, hG10, hm10⟩, b10⟩
          have b11 := b8.trans (b10.mono z8)
          have z10 := b10.size
          have HG10 := hide (hG10.up (hG10.top) (Nat.le_refl _))
          have hm10' := hide hm10
          clear X9 hG10 hm10 b10 b8
          go_wp2
          go_roundw
          case rel => exact ⟨k + 1, ts10, _, by omega, by go_num, by have := cR.size; simp; omega, HG10.out, by rw [hm10'.out]; exact HCX.out, by have := HN9.out; rw [← hm10'.out] at this; simpa using this, by rw [hm10'.out]; exact HY9.out, hbe.trans (b11.mono ybe)⟩
          case measure => simp [intOf]; omega
        · skip
          go_wp2
          refine wp_region_held_drew (S := (fun W => W.cell? ⟨gl, k * 5, none⟩ = some (.slice (some ⟨bx, ox, none⟩) pk.length cx))) (by kernel_rfl) (kp (wA := w3.drew) (Below.refl _ _)) (fun hHeld => ?_)
          simp only [List.size_toArray, List.length_cons, List.length_nil, Nat.reduceAdd, Array.replicate_succ, Array.replicate_zero, List.push_toArray, List.nil_append, List.cons_append]
          refine wpAnyH_take (i := 1) (v := ?_) rfl (by kernel_rfl) (by kernel_rfl) (by kernel_rfl) (fun _ _ _ h => h) (Or.inl ⟨by rfl, ?_⟩) (by assumption) ?_
          rotate_left
          · intro w hSw; (try dsimp only at hSw); go_simp; try with_reducible rfl
          simp only [Act.put, List.getElem_toArray, List.getElem_cons_succ, List.getElem_cons_zero, List.setIfInBounds_toArray, List.set_cons_succ, List.set_cons_zero]
          refine wpAnyH_take (i := 3) (v := ?_) rfl (by kernel_rfl) (by kernel_rfl) (by kernel_rfl) (fun _ _ _ h => h) (Or.inl ⟨by rfl, ?_⟩) (by assumption) ?_
          rotate_left
          · intro w hSw; (try dsimp only at hSw); go_simp; try with_reducible rfl
          simp only [Act.put, List.getElem_toArray, List.getElem_cons_succ, List.getElem_cons_zero, List.setIfInBounds_toArray, List.set_cons_succ, List.set_cons_zero]
          refine wpAnyH_take (i := 4) (v := ?_) rfl (by kernel_rfl) (by kernel_rfl) (by kernel_rfl) (fun _ _ _ h => h) (Or.inl ⟨by rfl, ?_⟩) (by assumption) ?_
          rotate_left
          · intro w hSw; (try dsimp only at hSw); go_simp; try with_reducible rfl
          simp only [Act.put, List.getElem_toArray, List.getElem_cons_succ, List.getElem_cons_zero, List.setIfInBounds_toArray, List.set_cons_succ, List.set_cons_zero]
          refine wpAnyH_take (i := 5) (v := ?_) rfl (by kernel_rfl) (by kernel_rfl) (by kernel_rfl) (fun _ _ _ h => h) (Or.inl ⟨by rfl, ?_⟩) (by assumption) ?_
          rotate_left
          · intro w hSw; (try dsimp only at hSw); go_simp; try with_reducible rfl
          simp only [Act.put, List.getElem_toArray, List.getElem_cons_succ, List.getElem_cons_zero, List.setIfInBounds_toArray, List.set_cons_succ, List.set_cons_zero]
          refine wpAnyH_take (i := 6) (v := ?_) rfl (by kernel_rfl) (by kernel_rfl) (by kernel_rfl) (fun _ _ _ h => h) (Or.inl ⟨by rfl, ?_⟩) (by assumption) ?_
          rotate_left
          · intro w hSw; (try dsimp only at hSw); go_simp; try with_reducible rfl
          simp only [Act.put, List.getElem_toArray, List.getElem_cons_succ, List.getElem_cons_zero, List.setIfInBounds_toArray, List.set_cons_succ, List.set_cons_zero]
          refine wpAnyH_take (i := 7) (v := ?_) rfl (by kernel_rfl) (by kernel_rfl) (by kernel_rfl) (fun _ _ _ h => h) (Or.inl ⟨by rfl, ?_⟩) (by assumption) ?_
          rotate_left
          · intro w hSw; (try dsimp only at hSw); go_simp; try with_reducible rfl
          simp only [Act.put, List.getElem_toArray, List.getElem_cons_succ, List.getElem_cons_zero, List.setIfInBounds_toArray, List.set_cons_succ, List.set_cons_zero]
          refine wpAnyH_take (i := 8) (v := ?_) rfl (by kernel_rfl) (by kernel_rfl) (by kernel_rfl) (fun _ _ _ h => h) (Or.inl ⟨by rfl, ?_⟩) (by assumption) ?_
          rotate_left
          · intro w hSw; (try dsimp only at hSw); go_simp; try with_reducible rfl
          simp only [Act.put, List.getElem_toArray, List.getElem_cons_succ, List.getElem_cons_zero, List.setIfInBounds_toArray, List.set_cons_succ, List.set_cons_zero]
          refine wpAnyH_take (i := 9) (v := ?_) rfl (by kernel_rfl) (by kernel_rfl) (by kernel_rfl) (fun _ _ _ h => h) (Or.inl ⟨by rfl, ?_⟩) (by assumption) ?_
          rotate_left
          · intro w hSw; (try dsimp only at hSw); go_simp; try with_reducible rfl
          simp only [Act.put, List.getElem_toArray, List.getElem_cons_succ, List.getElem_cons_zero, List.setIfInBounds_toArray, List.set_cons_succ, List.set_cons_zero]
          refine wpAnyH_take (i := 10) (v := ?_) rfl (by kernel_rfl) (by kernel_rfl) (by kernel_rfl) (fun _ _ _ h => h) (Or.inl ⟨by rfl, ?_⟩) (by assumption) ?_
          rotate_left
          · intro w hSw; (try dsimp only at hSw); go_simp; try with_reducible rfl
          simp only [Act.put, List.getElem_toArray, List.getElem_cons_succ, List.getElem_cons_zero, List.setIfInBounds_toArray, List.set_cons_succ, List.set_cons_zero]
          refine wpAnyH_ready (rs := [0]) (by kernel_rfl) (by simp) ?_
          refine AllReadyH.cons rfl (fun K hK => ?_) AllReadyH.nil
          go_simp
          refine hK.out _ _ (kp (wA := _) ((Below.refl _ _).alloc (Nat.le_refl _) _)) (fun hHeld2 => ?_)
          have k4 := (Below.refl w3.drew.heap.size w3.drew).alloc (Nat.le_refl _) (Obj.cells #[] 9)
          have hT4 := hide ((h2.below cW hB).below k4 (by show B ≤ w3.heap.size; omega))
          clear hK K hHeld
          have hHeld := hHeld2
          clear hHeld2
          simp only [List.setIfInBounds_toArray, List.set_cons_succ, List.set_cons_zero]
          refine wpAnyH_ready (rs := [2]) (by kernel_rfl) (by simp) ?_
          refine AllReadyH.cons rfl (fun K hK => ?_) AllReadyH.nil
          refine step_append_ownT rfl _ _ 25 rfl w3.heap.size 9 ii _ 1 16 Tryz.underlying25 hii hz hsz hby rfl (by omega) (.slice (some ⟨w3.heap.size, 0, none⟩) 0 0) 0 [] (by simp [Act.eval, Act.put]) (World.ownsRow_made w3.drew #[] 0 (Nat.le_refl _) (by decide) rfl) ⟨bt, ot, none⟩ to.length cap2 (strV to) (by simp [Act.eval, Act.put]) (by rw [strV_length]; omega) (strs_cells hT4.out) (strV_one _) (by unfold maxLen; omega) (by omega) (by simp) ?_
          intro v5 w5 hown5 hgr5
          have b5 := k4.trans (below_own (e := 9) (size := 1) (World.ownsRow_made w3.drew #[] 0 (Nat.le_refl _) (by decide) rfl) hgr5 (Nat.le_refl _) (by simp))
          have HO5 := hide hown5
          refine hK.out _ _ (kp (wA := w5) b5) (fun hHeld2 => ?_)
          clear hown5 hgr5
          clear hK K hHeld
          have hHeld := hHeld2
          clear hHeld2
          simp only [List.setIfInBounds_toArray, List.set_cons_succ, List.set_cons_zero]
          refine wpAnyH_ready (rs := [11]) (by kernel_rfl) (by simp) ?_
          refine AllReadyH.cons rfl (fun K hK => ?_) AllReadyH.nil
          refine step_append_ownT rfl _ _ 25 rfl w3.heap.size 9 ii _ 1 16 Tryz.underlying25 hii hz hsz hby rfl (by omega) v5 (0 + to.length) ([] ++ strV to) (by simp [Act.eval, Act.put]) HO5.out ⟨bx, ox + fr.length, none⟩ (pk.length - fr.length) (cx - fr.length) (strV (pk.drop fr.length)) (by simp [Act.eval, Act.put]) (by rw [strV_length, List.length_drop]; omega) (HSF.out w5 b5) (strV_one _) (by unfold maxLen; omega) (by omega) (by have := b5.size; show w3.heap.size ≤ w5.heap.size; exact this) ?_
          intro v6 w6 hown6 hgr6
          obtain ⟨b9, c8, rfl, q1, q2, q3, hst6⟩ := row_got (ss := np) hown6 (by omega) (by rw [← HNP.out, List.nil_append, strV_append]) (by rw [HNL.out]; omega)
          have b6 := b5.trans (below_own HO5.out hgr6 (Nat.le_refl _) (by have := b5.size; exact this))
          have hb9 : w3.heap.size ≤ b9 := q1
          have f0 := (b6.frozen (p := ⟨w2.heap.size, 0, none⟩) hw2).trans hfz0
          have g0 := (b6.cell (p := ⟨w2.heap.size, 0, none⟩) hw2).trans hq0
          have f3 := (b6.frozen (p := ⟨w2.heap.size, 3, none⟩) hw2).trans hfz3
          have g1 := (b6.cell (p := ⟨w2.heap.size, 1, none⟩) hw2).trans hq1
          have g2 := (b6.cell (p := ⟨w2.heap.size, 2, none⟩) hw2).trans hq2
          have g3 := (b6.cell (p := ⟨w2.heap.size, 3, none⟩) hw2).trans hq3
          have g4 := (b6.cell (p := ⟨w2.heap.size, 4, none⟩) hw2).trans hq4
          refine hK.out _ _ (kp (wA := w6) b6) (fun hHeld2 => ?_)
          clear hown6 hgr6
          clear hK K hHeld
          have hHeld := hHeld2
          clear hHeld2
          simp only [List.setIfInBounds_toArray, List.set_cons_succ, List.set_cons_zero]
          refine wpAnyH_take (i := 12) (v := ?_) rfl (by kernel_rfl) (by kernel_rfl) (by kernel_rfl) (fun _ _ _ h => h) (Or.inl ⟨by rfl, ?_⟩) (by assumption) ?_
          rotate_left
          · intro w hSw; (try dsimp only at hSw); go_simp; try with_reducible rfl
          simp only [Act.put, List.getElem_toArray, List.getElem_cons_succ, List.getElem_cons_zero, List.setIfInBounds_toArray, List.set_cons_succ, List.set_cons_zero]
          refine wpAnyH_ready (rs := [13]) (by kernel_rfl) (by simp) ?_
          refine AllReadyH.cons rfl (fun K hK => ?_) AllReadyH.nil
          go_simp
          refine hK.out _ _ (by rw [World.cell?_setCell_other _ _ _ _ (fun e => hglw (congrArg Addr.block e).symm)]; exact kp (wA := w6) b6) (fun hHeld2 => ?_)
          clear hK K hHeld
          have hHeld := hHeld2
          clear hHeld2
          simp only [List.setIfInBounds_toArray, List.set_cons_succ, List.set_cons_zero]
          refine wpAnyH_done (by kernel_rfl) ?_ _
          clear hHeld
          have y6 := b6.size
          have y6' : w3.heap.size ≤ w6.heap.size := y6
          have b7 := B3.out.trans (b6.mono (show wr.heap.size ≤ w3.heap.size by omega))
          have b8 := (b7.setCell (p := ⟨w2.heap.size, 0, none⟩) (by show wr.heap.size ≤ w2.heap.size; omega) (.slice (some ⟨b9, 0, none⟩) np.length c8)).setCell (p := ⟨w2.heap.size, 3, none⟩) (by show wr.heap.size ≤ w2.heap.size; omega) (.int .i64 v)
          have hst8 : Strs ((w6.setCell ⟨w2.heap.size, 0, none⟩ (.slice (some ⟨b9, 0, none⟩) np.length c8)).setCell ⟨w2.heap.size, 3, none⟩ (.int .i64 v)) ((w6.setCell ⟨w2.heap.size, 0, none⟩ (.slice (some ⟨b9, 0, none⟩) np.length c8)).setCell ⟨w2.heap.size, 3, none⟩ (.int .i64 v)).heap.size (some ⟨b9, 0, none⟩) np := by
            have hsz : ((w6.setCell ⟨w2.heap.size, 0, none⟩ (.slice (some ⟨b9, 0, none⟩) np.length c8)).setCell ⟨w2.heap.size, 3, none⟩ (.int .i64 v)).heap.size = w6.heap.size := by simp
            rw [hsz]
            intro h0
            obtain ⟨b0, o0, ea, hb0, hcc0⟩ := hst6 h0
            cases ea
            refine ⟨b9, 0, rfl, hb0, fun j hj => ?_⟩
            rw [World.cell?_setCell_other _ _ _ _ (fun e => absurd (congrArg Addr.block e) (show w2.heap.size ≠ b9 by omega)), World.cell?_setCell_other _ _ _ _ (fun e => absurd (congrArg Addr.block e) (show w2.heap.size ≠ b9 by omega))]
            exact hcc0 j hj
          have hps8 : Pps ((w6.setCell ⟨w2.heap.size, 0, none⟩ (.slice (some ⟨b9, 0, none⟩) np.length c8)).setCell ⟨w2.heap.size, 3, none⟩ (.int .i64 v)) ((w6.setCell ⟨w2.heap.size, 0, none⟩ (.slice (some ⟨b9, 0, none⟩) np.length c8)).setCell ⟨w2.heap.size, 3, none⟩ (.int .i64 v)).heap.size (some ⟨qq, 0, none⟩) qk := by
            have hqq := HQ3.out.1
            have r0 : RowP w3.drew qq qk := HQ3.out.of (show qq < w3.heap.size by omega) (fun o => by show w3.cell? _ = _; rw [← hw3]; exact World.cell?_alloc_past (w := w2) _ qq o hqq) (fun o => by show w3.frozen? _ = _; rw [← hw3]; exact ((Below.refl w2.heap.size w2).alloc (Nat.le_refl _) _).frozen (p := ⟨qq, o, none⟩) hqq)
            have r1 := r0.below b6
            have r2 := (r1.setCell ⟨w2.heap.size, 0, none⟩ (.slice (some ⟨b9, 0, none⟩) np.length c8) (show w2.heap.size ≠ qq by omega)).setCell ⟨w2.heap.size, 3, none⟩ (.int .i64 v) (show w2.heap.size ≠ qq by omega)
            exact r2.pps r2.1
          have HG8 := HG.out.next b8
          obtain ⟨gr, cr, rfl, hR8⟩ := HG8.rss (Nat.le_refl _)
          have hlt9 : (ts.map (·.r)).length = ts.length := by simp
          have X9 := hide (specPutR_any (some ⟨gr, 0, none⟩) (ts.map (·.r)) cr _ _ (carryR fr to v ⟨pk, ck, bk, vk, qk⟩) (some ⟨b9, 0, none⟩) c8 (some ⟨qq, 0, none⟩) dd hR8 (by rw [HCR.out]; exact ⟨hst8, hps8, q2, k3', q3, k4', (fun e => by cases e), (fun e => by cases e)⟩) (Nat.le_refl _) (by rw [hlt9]; omega) HTY.out (by rw [HCR.out]; exact ⟨by show np.length ≤ _; rw [HNL.out]; omega, lp3⟩))
          rw [hlt9, HCR.out] at X9
          have HCX := hide (show putR ⟨np, ck, bk, v, qk⟩ false (ts.map (·.r)) = ((ls.map (carryR fr to v)).take (k + 1)).foldl (fun acc c => putR c false acc) rest by rw [HNX.out, HCR.out, HTS.out])
          have HY9 := hide (show ∀ y ∈ putR ⟨np, ck, bk, v, qk⟩ false (ts.map (·.r)), y.pa.length ≤ 1048576 ∧ y.ps.length ≤ 1048576 from fun y hy => by
            rcases putR_mem.1 hy with rfl | ⟨hm, _⟩
            · exact ⟨by show np.length ≤ _; rw [HNL.out]; omega, lp3⟩
            · exact HTY.out y hm)
          have HN9 := hide (show (putR ⟨np, ck, bk, v, qk⟩ false (ts.map (·.r))).length ≤ rest.length + (k + 1) by
            have h1 := putR_len (r := ⟨np, ck, bk, v, qk⟩) (l := ts.map (·.r))
            have h2 := notAt_len (r := ⟨np, ck, bk, v, qk⟩) (l := ts.map (·.r))
            omega)
          generalize ts.map (·.r) = acc at *
          have z8 := b8.size
          clear hst8 hps8 HG8 hR8 hst6 HNX HCR HTS HTY HNL HNP HSF HQ3 B3 b7 b6 b5 HO5 hT4 kp hlt9 HG
          go_wp2_with fail
          refine X9.out.mono ?_
          rintro e w10 ⟨⟨v10, ts10, rfl, hG10, hm10⟩, b10⟩
          have b11 := b8.trans (b10.mono z8)
          have z10 := b10.size
          have HG10 := hide (hG10.up (hG10.top) (Nat.le_refl _))
          have hm10' := hide hm10
          clear X9 hG10 hm10 b10 b8
          go_wp2
          go_roundw
          case rel => exact ⟨k + 1, ts10, _, by omega, by go_num, by have := cR.size; simp; omega, HG10.out, by rw [hm10'.out]; exact HCX.out, by have := HN9.out; rw [← hm10'.out] at this; simpa using this, by rw [hm10'.out]; exact HY9.out, hbe.trans (b11.mono ybe)⟩
          case measure => simp [intOf]; omega
      · have hke : k = ls.length := by omega
        subst hke
        have TT := hide (HRD.out _ _ ts base hbas HG.out HTS.out)
        clear HG HTS
        go_wp2
        go_ret2
        exact ⟨TT.out, cR⟩
end Go.Proofs.YtifnolomekhmfaaGreat
namespace Go.Proofs.YtifnolomekhmfaaGreat
open Go.RowKit M
set_option linter.unusedVariables false

theorem specFar_any (a : Option Addr) (rs : List Rs) (cap B : Nat) (b1 : Option Addr) (fr : List ByteArray) (cap1 : Nat) (bt ot : Nat) (to : List ByteArray) (cap2 : Nat) (ov : Bool) (v : Int) (mv : Bool) (w : World) (h : Rss w B a rs) (h1 : Strs w B b1 fr) (h2 : Strs w B (some ⟨bt, ot, none⟩) to) (hB : B ≤ w.heap.size) (hs : ShortT rs) (hl : rs.length ≤ 1048576) (hlp : ∀ r ∈ rs, r.pa.length ≤ 1048576 ∧ r.ps.length ≤ 1048576) (hs1 : Short fr) (hl1 : fr.length ≤ 1048576) (hs2 : Short to) (hl2 : to.length ≤ 1048576) (hc1 : fr.length ≤ cap1) (hm1 : cap1 ≤ maxLen) (hc2 : to.length ≤ cap2) (hm2 : cap2 ≤ maxLen) :
    Calls Tryz.prog 63 #[.slice a rs.length cap, .slice b1 fr.length cap1, .slice (some ⟨bt, ot, none⟩) to.length cap2, .bool ov, .int .i64 v, .bool mv] w fun e w' => TurnIs w w' e (farR rs fr to ov v mv) (farC rs fr to ov v mv) ∧ Below w.heap.size w w' := by
  have A1 := fun hq => specFarA_any a rs cap B b1 fr cap1 bt ot to cap2 ov v mv w h h1 h2 hB hs hl hlp hs1 hl1 hs2 hl2 hc1 hm1 hc2 hm2 hq
  cases ht : treeB rs
  · exact A1 (.inl ht)
  cases hf : pathB fr
  · exact A1 (.inr (.inl ⟨ht, hf⟩))
  cases hv : inB v 0 99999
  · cases hto : pathB to
    · exact A1 (.inr (.inr (.inl ⟨ht, hf, hv, hto⟩)))
    · exact A1 (.inr (.inr (.inr (.inl ⟨ht, hf, hv, hto⟩))))
  cases hto : pathB to
  · exact A1 (.inr (.inr (.inr (.inr ⟨ht, hf, hv, hto⟩))))
  have B1 := fun hq => specFarB_any a rs cap B b1 fr cap1 bt ot to cap2 ov v mv w h h1 h2 hB hs hl hlp hs1 hl1 hs2 hl2 hc1 hm1 hc2 hm2 ht hf hto hv hq
  by_cases hF1 : findI rs fr < 0
  · exact B1 (.inl hF1)
  cases hap : apartB fr to
  · exact B1 (.inr (.inr (.inl hap)))
  by_cases ho : findI rs to < 0 ∨ ov = true
  rotate_left
  · have h3 : ¬ findI rs to < 0 := fun e => ho (.inl e)
    have h4 : ov = false := by cases ov with | false => rfl | true => exact absurd (.inr rfl) ho
    exact B1 (.inr (.inr (.inr ⟨h3, h4⟩)))
  have C1 := fun hq => specFarC_any a rs cap B b1 fr cap1 bt ot to cap2 ov v mv w h h1 h2 hB hs hl hlp hs1 hl1 hs2 hl2 hc1 hm1 hc2 hm2 ht hf hto hv hF1 hap ho hq
  cases hca : collB rs (aboveL to)
  · exact C1 (.inl hca)
  cases hlg : (deepL rs fr).any (longB fr to)
  rotate_left
  · exact C1 (.inr (.inl hlg))
  by_cases h12 : 12 < (restL rs fr to mv).length + (deepL rs fr).length
  · exact C1 (.inr (.inr h12))
  cases mv
  · exact specFarD0_any a rs cap B b1 fr cap1 bt ot to cap2 ov v w h h1 h2 hB hs hl hlp hs1 hl1 hs2 hl2 hc1 hm1 hc2 hm2 ht hf hto hv hF1 hap ho hca hlg h12
  · exact specFarD1_any a rs cap B b1 fr cap1 bt ot to cap2 ov v w h h1 h2 hB hs hl hlp hs1 hl1 hs2 hl2 hc1 hm1 hc2 hm2 ht hf hto hv hF1 hap ho hca hlg h12

set_option maxHeartbeats 1000000 in
theorem specCopyTree_any (a : Option Addr) (rs : List Rs) (cap B : Nat) (b1 : Option Addr) (fr : List ByteArray) (cap1 : Nat) (bt ot : Nat) (to : List ByteArray) (cap2 : Nat) (ov : Bool) (v : Int) (w : World) (h : Rss w B a rs) (h1 : Strs w B b1 fr) (h2 : Strs w B (some ⟨bt, ot, none⟩) to) (hB : B ≤ w.heap.size) (hs : ShortT rs) (hl : rs.length ≤ 1048576) (hlp : ∀ r ∈ rs, r.pa.length ≤ 1048576 ∧ r.ps.length ≤ 1048576) (hs1 : Short fr) (hl1 : fr.length ≤ 1048576) (hs2 : Short to) (hl2 : to.length ≤ 1048576) (hc1 : fr.length ≤ cap1) (hm1 : cap1 ≤ maxLen) (hc2 : to.length ≤ cap2) (hm2 : cap2 ≤ maxLen) :
    Calls Tryz.prog 9 #[.slice a rs.length cap, .slice b1 fr.length cap1, .slice (some ⟨bt, ot, none⟩) to.length cap2, .bool ov, .int .i64 v] w fun e w' => TurnIs w w' e (farR rs fr to ov v false) (farC rs fr to ov v false) ∧ Below w.heap.size w w' := by
  have HX := hide (specFar_any a rs cap B b1 fr cap1 bt ot to cap2 ov v false w h h1 h2 hB hs hl hlp hs1 hl1 hs2 hl2 hc1 hm1 hc2 hm2)
  go_enter Tryz.func9, Tryz.ntmps9
  go_wp2_with fail
  refine HX.out.mono ?_
  rintro e w1 ⟨⟨vv, ts, base, hb, rfl, hg, hm⟩, c1⟩
  have TT := hide (show TurnIs w w1 (.returned (.tuple #[vv, .int .i64 (farC rs fr to ov v false)])) (farR rs fr to ov v false) (farC rs fr to ov v false) from ⟨vv, ts, base, hb, rfl, hg, hm⟩)
  clear hg hm HX
  go_wp2
  go_ret2
  exact ⟨TT.out, c1⟩

set_option maxHeartbeats 1000000 in
theorem specMoveTree_any (a : Option Addr) (rs : List Rs) (cap B : Nat) (b1 : Option Addr) (fr : List ByteArray) (cap1 : Nat) (bt ot : Nat) (to : List ByteArray) (cap2 : Nat) (ov : Bool) (v : Int) (w : World) (h : Rss w B a rs) (h1 : Strs w B b1 fr) (h2 : Strs w B (some ⟨bt, ot, none⟩) to) (hB : B ≤ w.heap.size) (hs : ShortT rs) (hl : rs.length ≤ 1048576) (hlp : ∀ r ∈ rs, r.pa.length ≤ 1048576 ∧ r.ps.length ≤ 1048576) (hs1 : Short fr) (hl1 : fr.length ≤ 1048576) (hs2 : Short to) (hl2 : to.length ≤ 1048576) (hc1 : fr.length ≤ cap1) (hm1 : cap1 ≤ maxLen) (hc2 : to.length ≤ cap2) (hm2 : cap2 ≤ maxLen) :
    Calls Tryz.prog 11 #[.slice a rs.length cap, .slice b1 fr.length cap1, .slice (some ⟨bt, ot, none⟩) to.length cap2, .bool ov, .int .i64 v] w fun e w' => TurnIs w w' e (farR rs fr to ov v true) (farC rs fr to ov v true) ∧ Below w.heap.size w w' := by
  have HX := hide (specFar_any a rs cap B b1 fr cap1 bt ot to cap2 ov v true w h h1 h2 hB hs hl hlp hs1 hl1 hs2 hl2 hc1 hm1 hc2 hm2)
  go_enter Tryz.func11, Tryz.ntmps11
  go_wp2_with fail
  refine HX.out.mono ?_
  rintro e w1 ⟨⟨vv, ts, base, hb, rfl, hg, hm⟩, c1⟩
  have TT := hide (show TurnIs w w1 (.returned (.tuple #[vv, .int .i64 (farC rs fr to ov v true)])) (farR rs fr to ov v true) (farC rs fr to ov v true) from ⟨vv, ts, base, hb, rfl, hg, hm⟩)
  clear hg hm HX
  go_wp2
  go_ret2
  exact ⟨TT.out, c1⟩
end Go.Proofs.YtifnolomekhmfaaGreat
