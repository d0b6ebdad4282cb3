/-
  What spec.l11Far does where a code says no ahead of all.
  What spec.l11Far does where it is 404, 403 or 412.
-/
import Derived.Test.YtifnolomekhmfaaGreatSpecCopyAll
import Derived.Test.YtifnolomekhmfaaGreatMathFarS
import Derived.Test.YtifnolomekhmfaaGreatMapHeld
import Derived.Test.YtifnolomekhmfaaGreatSpecLess
import Derived.Test.YtifnolomekhmfaaGreatTurnIs
namespace Go.Proofs.YtifnolomekhmfaaGreat
open Go.RowKit M
set_option linter.unusedVariables false

set_option maxRecDepth 100000 in
set_option maxHeartbeats 16000000 in
theorem specFarA_any (a : Option Addr) (rs : List Rs) (cap B : Nat) (b1 : Option Addr) (fr : List ByteArray) (cap1 : Nat) (bt ot : Nat) (to : List ByteArray) (cap2 : Nat) (ov : Bool) (v : Int) (mv : Bool) (w : World) (h : Rss w B a rs) (h1 : Strs w B b1 fr) (h2 : Strs w B (some ⟨bt, ot, none⟩) to) (hB : B ≤ w.heap.size) (hs : ShortT rs) (hl : rs.length ≤ 1048576) (hlp : ∀ r ∈ rs, r.pa.length ≤ 1048576 ∧ r.ps.length ≤ 1048576) (hs1 : Short fr) (hl1 : fr.length ≤ 1048576) (hs2 : Short to) (hl2 : to.length ≤ 1048576) (hc1 : fr.length ≤ cap1) (hm1 : cap1 ≤ maxLen) (hc2 : to.length ≤ cap2) (hm2 : cap2 ≤ maxLen) (hq : treeB rs = false ∨ (treeB rs = true ∧ pathB fr = false) ∨ (treeB rs = true ∧ pathB fr = true ∧ inB v 0 99999 = false ∧ pathB to = false) ∨ (treeB rs = true ∧ pathB fr = true ∧ inB v 0 99999 = false ∧ pathB to = true) ∨ (treeB rs = true ∧ pathB fr = true ∧ inB v 0 99999 = true ∧ pathB to = false)) :
    Calls Tryz.prog 63 #[.slice a rs.length cap, .slice b1 fr.length cap1, .slice (some ⟨bt, ot, none⟩) to.length cap2, .bool ov, .int .i64 v, .bool mv] w fun e w' => TurnIs w w' e (farR rs fr to ov v mv) (farC rs fr to ov v mv) ∧ Below w.heap.size w w' := by
  have hlm : rs.length ≤ maxLen := by unfold maxLen; omega
  have hlm1 : fr.length ≤ maxLen := by unfold maxLen; omega
  have hlm2 : to.length ≤ maxLen := by unfold maxLen; omega
  have hdl : (deepL rs fr).length ≤ 1048576 := Nat.le_trans (List.length_filter_le _ _) hl
  have hrl : (restL rs fr to mv).length ≤ 1048576 := Nat.le_trans (restL_len rs fr to mv) hl
  have M1 := hide (specMay_any a rs cap B b1 fr cap1 B v w h h1 hB hB hs hlm (fun r hr => (hlp r hr).1) hs1 hlm1)
  have M2 := hide (fun W (hb : Below w.heap.size w W) => specMay_any a rs cap B (some ⟨bt, ot, none⟩) to cap2 B v W (h.below hb hB) (h2.below hb hB) (Nat.le_trans hB hb.size) (Nat.le_trans hB hb.size) hs hlm (fun r hr => (hlp r hr).1) hs2 hlm2)
  have FT := hide (fun W (hb : Below w.heap.size w W) => specFind_any a rs cap B (some ⟨bt, ot, none⟩) to cap2 B W (h.below hb hB) (h2.below hb hB) hlm hlm2)
  have DO := hide (fun W (hb : Below w.heap.size w W) => specDeepOf_any a rs cap B b1 fr cap1 B W (h.below hb hB) (h1.below hb hB) (Nat.le_trans hB hb.size) (Nat.le_trans hB hb.size) hl hl1 hlp)
  have WO := hide (fun W (hb : Below w.heap.size w W) => specWithout_any a rs cap B (some ⟨bt, ot, none⟩) to cap2 B W (h.below hb hB) (h2.below hb hB) (Nat.le_trans hB hb.size) (Nat.le_trans hB hb.size) hl hl2 hlp)
  have WP := hide (fun W g c (hb : Below w.heap.size w W) (hr : Rss W W.heap.size (some ⟨g, 0, none⟩) (withoutL rs to)) => specWithout_any (some ⟨g, 0, none⟩) (withoutL rs to) c W.heap.size b1 fr cap1 B W hr (h1.below hb hB) (Nat.le_refl _) (Nat.le_trans hB hb.size) (Nat.le_trans (List.length_filter_le _ _) hl) hl1 (fun r hr => hlp r (List.mem_filter.1 hr).1))
  have FF := hide (fun W (hb : Below w.heap.size w W) => specFind_any a rs cap B b1 fr cap1 B W (h.below hb hB) (h1.below hb hB) hlm hlm1)
  have SP := hide (fun W (hb : Below w.heap.size w W) => specSamePath_any b1 (some ⟨bt, ot, none⟩) fr to cap1 cap2 B B W (h1.below hb hB) (h2.below hb hB) hlm1 hlm2)
  have U1 := hide (fun W (hb : Below w.heap.size w W) => specUnder_any b1 (some ⟨bt, ot, none⟩) fr to cap1 cap2 B B W (h1.below hb hB) (h2.below hb hB) hlm1 hlm2 hc1 hm1)
  have U2 := hide (fun W (hb : Below w.heap.size w W) => specUnder_any (some ⟨bt, ot, none⟩) b1 to fr cap2 cap1 B B W (h2.below hb hB) (h1.below hb hB) hlm2 hlm1 hc2 hm2)
  have IC := hide (fun W g c (hb : Below w.heap.size w W) (x : RowS W g (aboveL to)) => specIsColl_any a rs cap B (some ⟨g, 0, none⟩) (aboveL to) c W.heap.size W (h.below hb hB) (x.strs' x.1) hlm (by rw [aboveL_len]; unfold maxLen; omega))
  have LG := hide (fun W g c (hr : Rss W W.heap.size (some ⟨g, 0, none⟩) (deepL rs fr)) => specLong_any (some ⟨g, 0, none⟩) (deepL rs fr) c W.heap.size b1 (some ⟨bt, ot, none⟩) fr to cap1 cap2 W hr hdl (fun r hr => ⟨(deep_iff.1 (deepL_mem.1 hr).2).length_le, (hlp r (deepL_mem.1 hr).1).1⟩) hl1 hl2)
  have CA := hide (fun W (hb : Below w.heap.size w W) => specCopyAll_any a rs cap B W (h.below hb hB) (Nat.le_trans hB hb.size) hl hlp)
  rcases hq with hq | hq | hq | hq | hq
  · skip
    cases mv
    · skip
      have HR := hide (show farR rs fr to ov v false = rs ∧ farC rs fr to ov v false = 500 from far_code (farI_ask (show askI rs v (pathB fr && pathB to) = 500 by unfold askI; rw [hq]; rfl) (by decide)) (by decide))
      rw [mayI_500 hq] at M1
      clear FF SP U1 U2 IC LG
      generalize findI rs to = F2 at *
      go_enter Tryz.func63, Tryz.ntmps63
      go_wp2_with fail
      refine M1.out.mono ?_
      rintro e w1 ⟨rfl, c1⟩
      have X := hide (FT.out w1 c1)
      go_wp2_with fail
      refine X.out.mono ?_
      rintro e w2 ⟨rfl, b'⟩
      have c2 := c1.trans (b' _)
      clear X b'
      have X := hide (DO.out w2 c2)
      go_wp2_with fail
      refine X.out.mono ?_
      rintro e w3 ⟨⟨gl, cl, _, rfl, hL3⟩, b'⟩
      have c3 := c2.trans (b'.mono c2.size)
      clear X b'
      have X := hide (WO.out w3 c3)
      go_wp2_with fail
      refine X.out.mono ?_
      rintro e w4 ⟨⟨vr, tr, rfl, hG4, hm4⟩, b'⟩
      have c4 := c3.trans (b'.mono c3.size)
      have hL4 := (hL3.below b' (Nat.le_refl _)).mono b'.size
      obtain ⟨gr, cr, rfl, hR4⟩ := hG4.rss (Nat.le_refl _)
      have htl : tr.length = (withoutL rs to).length := by rw [← hm4]; simp
      rw [hm4] at hR4
      clear X b'
      rw [htl]
      have X := hide (CA.out w4 c4)
      go_wp2_with fail
      refine X.out.mono ?_
      rintro e w5 ⟨⟨vv, ts, rfl, hg, hm⟩, b'⟩
      have TT := hide (show TurnIs w w5 (.returned (.tuple #[vv, .int .i64 500])) (farR rs fr to ov v false) (farC rs fr to ov v false) from ⟨vv, ts, w4.heap.size, c4.size, by rw [HR.out.2], hg, by rw [HR.out.1]; exact hm⟩)
      have c9 := c4.trans (b'.mono c4.size)
      clear hg hm X b'
      go_wp2
      go_ret2
      exact ⟨TT.out, c9⟩
    · skip
      have HR := hide (show farR rs fr to ov v true = rs ∧ farC rs fr to ov v true = 500 from far_code (farI_ask (show askI rs v (pathB fr && pathB to) = 500 by unfold askI; rw [hq]; rfl) (by decide)) (by decide))
      rw [mayI_500 hq] at M1
      clear FF SP U1 U2 IC LG
      generalize findI rs to = F2 at *
      go_enter Tryz.func63, Tryz.ntmps63
      go_wp2_with fail
      refine M1.out.mono ?_
      rintro e w1 ⟨rfl, c1⟩
      have X := hide (FT.out w1 c1)
      go_wp2_with fail
      refine X.out.mono ?_
      rintro e w2 ⟨rfl, b'⟩
      have c2 := c1.trans (b' _)
      clear X b'
      have X := hide (DO.out w2 c2)
      go_wp2_with fail
      refine X.out.mono ?_
      rintro e w3 ⟨⟨gl, cl, _, rfl, hL3⟩, b'⟩
      have c3 := c2.trans (b'.mono c2.size)
      clear X b'
      have X := hide (WO.out w3 c3)
      go_wp2_with fail
      refine X.out.mono ?_
      rintro e w4 ⟨⟨vr, tr, rfl, hG4, hm4⟩, b'⟩
      have c4 := c3.trans (b'.mono c3.size)
      have hL4 := (hL3.below b' (Nat.le_refl _)).mono b'.size
      obtain ⟨gr, cr, rfl, hR4⟩ := hG4.rss (Nat.le_refl _)
      have htl : tr.length = (withoutL rs to).length := by rw [← hm4]; simp
      rw [hm4] at hR4
      clear X b'
      rw [htl]
      have X := hide (WP.out w4 gr cr c4 hR4)
      clear hG4 hm4 htl
      go_wp2_with fail
      refine X.out.mono ?_
      rintro e w5 ⟨⟨vr2, tr2, rfl, hG5, hm5⟩, b'⟩
      have c5 := c4.trans (b'.mono c4.size)
      have hL5 := (hL4.below b' (Nat.le_refl _)).mono b'.size
      obtain ⟨gr2, cr2, rfl, hR5⟩ := hG5.rss (Nat.le_refl _)
      have htl : tr2.length = (withoutL (withoutL rs to) fr).length := by rw [← hm5]; simp
      clear X b'
      rw [htl]
      have X := hide (CA.out w5 c5)
      go_wp2_with fail
      refine X.out.mono ?_
      rintro e w6 ⟨⟨vv, ts, rfl, hg, hm⟩, b'⟩
      have TT := hide (show TurnIs w w6 (.returned (.tuple #[vv, .int .i64 500])) (farR rs fr to ov v true) (farC rs fr to ov v true) from ⟨vv, ts, w5.heap.size, c5.size, by rw [HR.out.2], hg, by rw [HR.out.1]; exact hm⟩)
      have c9 := c5.trans (b'.mono c5.size)
      clear hg hm X b'
      go_wp2
      go_ret2
      exact ⟨TT.out, c9⟩
  · obtain ⟨ht, hq⟩ := hq
    cases mv
    · skip
      have HR := hide (show farR rs fr to ov v false = rs ∧ farC rs fr to ov v false = 400 from far_code (farI_ask (show askI rs v (pathB fr && pathB to) = 400 by unfold askI; rw [ht, hq]; rfl) (by decide)) (by decide))
      rw [mayI_400 ht hq] at M1
      clear FF SP U1 U2 IC LG
      generalize findI rs to = F2 at *
      go_enter Tryz.func63, Tryz.ntmps63
      go_wp2_with fail
      refine M1.out.mono ?_
      rintro e w1 ⟨rfl, c1⟩
      have X := hide (FT.out w1 c1)
      go_wp2_with fail
      refine X.out.mono ?_
      rintro e w2 ⟨rfl, b'⟩
      have c2 := c1.trans (b' _)
      clear X b'
      have X := hide (DO.out w2 c2)
      go_wp2_with fail
      refine X.out.mono ?_
      rintro e w3 ⟨⟨gl, cl, _, rfl, hL3⟩, b'⟩
      have c3 := c2.trans (b'.mono c2.size)
      clear X b'
      have X := hide (WO.out w3 c3)
      go_wp2_with fail
      refine X.out.mono ?_
      rintro e w4 ⟨⟨vr, tr, rfl, hG4, hm4⟩, b'⟩
      have c4 := c3.trans (b'.mono c3.size)
      have hL4 := (hL3.below b' (Nat.le_refl _)).mono b'.size
      obtain ⟨gr, cr, rfl, hR4⟩ := hG4.rss (Nat.le_refl _)
      have htl : tr.length = (withoutL rs to).length := by rw [← hm4]; simp
      rw [hm4] at hR4
      clear X b'
      rw [htl]
      have X := hide (CA.out w4 c4)
      go_wp2_with fail
      refine X.out.mono ?_
      rintro e w5 ⟨⟨vv, ts, rfl, hg, hm⟩, b'⟩
      have TT := hide (show TurnIs w w5 (.returned (.tuple #[vv, .int .i64 400])) (farR rs fr to ov v false) (farC rs fr to ov v false) from ⟨vv, ts, w4.heap.size, c4.size, by rw [HR.out.2], hg, by rw [HR.out.1]; exact hm⟩)
      have c9 := c4.trans (b'.mono c4.size)
      clear hg hm X b'
      go_wp2
      go_ret2
      exact ⟨TT.out, c9⟩
    · skip
      have HR := hide (show farR rs fr to ov v true = rs ∧ farC rs fr to ov v true = 400 from far_code (farI_ask (show askI rs v (pathB fr && pathB to) = 400 by unfold askI; rw [ht, hq]; rfl) (by decide)) (by decide))
      rw [mayI_400 ht hq] at M1
      clear FF SP U1 U2 IC LG
      generalize findI rs to = F2 at *
      go_enter Tryz.func63, Tryz.ntmps63
      go_wp2_with fail
      refine M1.out.mono ?_
      rintro e w1 ⟨rfl, c1⟩
      have X := hide (FT.out w1 c1)
      go_wp2_with fail
      refine X.out.mono ?_
      rintro e w2 ⟨rfl, b'⟩
      have c2 := c1.trans (b' _)
      clear X b'
      have X := hide (DO.out w2 c2)
      go_wp2_with fail
      refine X.out.mono ?_
      rintro e w3 ⟨⟨gl, cl, _, rfl, hL3⟩, b'⟩
      have c3 := c2.trans (b'.mono c2.size)
      clear X b'
      have X := hide (WO.out w3 c3)
      go_wp2_with fail
      refine X.out.mono ?_
      rintro e w4 ⟨⟨vr, tr, rfl, hG4, hm4⟩, b'⟩
      have c4 := c3.trans (b'.mono c3.size)
      have hL4 := (hL3.below b' (Nat.le_refl _)).mono b'.size
      obtain ⟨gr, cr, rfl, hR4⟩ := hG4.rss (Nat.le_refl _)
      have htl : tr.length = (withoutL rs to).length := by rw [← hm4]; simp
      rw [hm4] at hR4
      clear X b'
      rw [htl]
      have X := hide (WP.out w4 gr cr c4 hR4)
      clear hG4 hm4 htl
      go_wp2_with fail
      refine X.out.mono ?_
      rintro e w5 ⟨⟨vr2, tr2, rfl, hG5, hm5⟩, b'⟩
      have c5 := c4.trans (b'.mono c4.size)
      have hL5 := (hL4.below b' (Nat.le_refl _)).mono b'.size
      obtain ⟨gr2, cr2, rfl, hR5⟩ := hG5.rss (Nat.le_refl _)
      have htl : tr2.length = (withoutL (withoutL rs to) fr).length := by rw [← hm5]; simp
      clear X b'
      rw [htl]
      have X := hide (CA.out w5 c5)
      go_wp2_with fail
      refine X.out.mono ?_
      rintro e w6 ⟨⟨vv, ts, rfl, hg, hm⟩, b'⟩
      have TT := hide (show TurnIs w w6 (.returned (.tuple #[vv, .int .i64 400])) (farR rs fr to ov v true) (farC rs fr to ov v true) from ⟨vv, ts, w5.heap.size, c5.size, by rw [HR.out.2], hg, by rw [HR.out.1]; exact hm⟩)
      have c9 := c5.trans (b'.mono c5.size)
      clear hg hm X b'
      go_wp2
      go_ret2
      exact ⟨TT.out, c9⟩
  · obtain ⟨ht, hf, hv, hq⟩ := hq
    cases mv
    · skip
      have HR := hide (show farR rs fr to ov v false = rs ∧ farC rs fr to ov v false = 400 from far_code (farI_ask (show askI rs v (pathB fr && pathB to) = 400 by unfold askI; rw [ht, hf, hq]; rfl) (by decide)) (by decide))
      rw [mayI_507 ht hf hv] at M1
      rw [mayI_400 ht hq] at M2
      clear FF SP U1 U2 IC LG
      generalize findI rs to = F2 at *
      go_enter Tryz.func63, Tryz.ntmps63
      go_wp2_with fail
      refine M1.out.mono ?_
      rintro e w1 ⟨rfl, c1⟩
      have X := hide (M2.out w1 c1)
      go_wp2_with fail
      refine X.out.mono ?_
      rintro e w2 ⟨rfl, b'⟩
      have c2 := c1.trans (b'.mono c1.size)
      clear X b'
      have X := hide (FT.out w2 c2)
      go_wp2_with fail
      refine X.out.mono ?_
      rintro e w3 ⟨rfl, b'⟩
      have c3 := c2.trans (b' _)
      clear X b'
      have X := hide (DO.out w3 c3)
      go_wp2_with fail
      refine X.out.mono ?_
      rintro e w4 ⟨⟨gl, cl, _, rfl, hL4⟩, b'⟩
      have c4 := c3.trans (b'.mono c3.size)
      clear X b'
      have X := hide (WO.out w4 c4)
      go_wp2_with fail
      refine X.out.mono ?_
      rintro e w5 ⟨⟨vr, tr, rfl, hG5, hm5⟩, b'⟩
      have c5 := c4.trans (b'.mono c4.size)
      have hL5 := (hL4.below b' (Nat.le_refl _)).mono b'.size
      obtain ⟨gr, cr, rfl, hR5⟩ := hG5.rss (Nat.le_refl _)
      have htl : tr.length = (withoutL rs to).length := by rw [← hm5]; simp
      rw [hm5] at hR5
      clear X b'
      rw [htl]
      have X := hide (CA.out w5 c5)
      go_wp2_with fail
      refine X.out.mono ?_
      rintro e w6 ⟨⟨vv, ts, rfl, hg, hm⟩, b'⟩
      have TT := hide (show TurnIs w w6 (.returned (.tuple #[vv, .int .i64 400])) (farR rs fr to ov v false) (farC rs fr to ov v false) from ⟨vv, ts, w5.heap.size, c5.size, by rw [HR.out.2], hg, by rw [HR.out.1]; exact hm⟩)
      have c9 := c5.trans (b'.mono c5.size)
      clear hg hm X b'
      go_wp2
      go_ret2
      exact ⟨TT.out, c9⟩
    · skip
      have HR := hide (show farR rs fr to ov v true = rs ∧ farC rs fr to ov v true = 400 from far_code (farI_ask (show askI rs v (pathB fr && pathB to) = 400 by unfold askI; rw [ht, hf, hq]; rfl) (by decide)) (by decide))
      rw [mayI_507 ht hf hv] at M1
      rw [mayI_400 ht hq] at M2
      clear FF SP U1 U2 IC LG
      generalize findI rs to = F2 at *
      go_enter Tryz.func63, Tryz.ntmps63
      go_wp2_with fail
      refine M1.out.mono ?_
      rintro e w1 ⟨rfl, c1⟩
      have X := hide (M2.out w1 c1)
      go_wp2_with fail
      refine X.out.mono ?_
      rintro e w2 ⟨rfl, b'⟩
      have c2 := c1.trans (b'.mono c1.size)
      clear X b'
      have X := hide (FT.out w2 c2)
      go_wp2_with fail
      refine X.out.mono ?_
      rintro e w3 ⟨rfl, b'⟩
      have c3 := c2.trans (b' _)
      clear X b'
      have X := hide (DO.out w3 c3)
      go_wp2_with fail
      refine X.out.mono ?_
      rintro e w4 ⟨⟨gl, cl, _, rfl, hL4⟩, b'⟩
      have c4 := c3.trans (b'.mono c3.size)
      clear X b'
      have X := hide (WO.out w4 c4)
      go_wp2_with fail
      refine X.out.mono ?_
      rintro e w5 ⟨⟨vr, tr, rfl, hG5, hm5⟩, b'⟩
      have c5 := c4.trans (b'.mono c4.size)
      have hL5 := (hL4.below b' (Nat.le_refl _)).mono b'.size
      obtain ⟨gr, cr, rfl, hR5⟩ := hG5.rss (Nat.le_refl _)
      have htl : tr.length = (withoutL rs to).length := by rw [← hm5]; simp
      rw [hm5] at hR5
      clear X b'
      rw [htl]
      have X := hide (WP.out w5 gr cr c5 hR5)
      clear hG5 hm5 htl
      go_wp2_with fail
      refine X.out.mono ?_
      rintro e w6 ⟨⟨vr2, tr2, rfl, hG6, hm6⟩, b'⟩
      have c6 := c5.trans (b'.mono c5.size)
      have hL6 := (hL5.below b' (Nat.le_refl _)).mono b'.size
      obtain ⟨gr2, cr2, rfl, hR6⟩ := hG6.rss (Nat.le_refl _)
      have htl : tr2.length = (withoutL (withoutL rs to) fr).length := by rw [← hm6]; simp
      clear X b'
      rw [htl]
      have X := hide (CA.out w6 c6)
      go_wp2_with fail
      refine X.out.mono ?_
      rintro e w7 ⟨⟨vv, ts, rfl, hg, hm⟩, b'⟩
      have TT := hide (show TurnIs w w7 (.returned (.tuple #[vv, .int .i64 400])) (farR rs fr to ov v true) (farC rs fr to ov v true) from ⟨vv, ts, w6.heap.size, c6.size, by rw [HR.out.2], hg, by rw [HR.out.1]; exact hm⟩)
      have c9 := c6.trans (b'.mono c6.size)
      clear hg hm X b'
      go_wp2
      go_ret2
      exact ⟨TT.out, c9⟩
  · obtain ⟨ht, hf, hv, hq⟩ := hq
    cases mv
    · skip
      have HR := hide (show farR rs fr to ov v false = rs ∧ farC rs fr to ov v false = 507 from far_code (farI_ask (show askI rs v (pathB fr && pathB to) = 507 by unfold askI; rw [ht, hf, hq, hv]; rfl) (by decide)) (by decide))
      rw [mayI_507 ht hf hv] at M1
      rw [mayI_507 ht hq hv] at M2
      clear FF SP U1 U2 IC LG
      generalize findI rs to = F2 at *
      go_enter Tryz.func63, Tryz.ntmps63
      go_wp2_with fail
      refine M1.out.mono ?_
      rintro e w1 ⟨rfl, c1⟩
      have X := hide (M2.out w1 c1)
      go_wp2_with fail
      refine X.out.mono ?_
      rintro e w2 ⟨rfl, b'⟩
      have c2 := c1.trans (b'.mono c1.size)
      clear X b'
      have X := hide (FT.out w2 c2)
      go_wp2_with fail
      refine X.out.mono ?_
      rintro e w3 ⟨rfl, b'⟩
      have c3 := c2.trans (b' _)
      clear X b'
      have X := hide (DO.out w3 c3)
      go_wp2_with fail
      refine X.out.mono ?_
      rintro e w4 ⟨⟨gl, cl, _, rfl, hL4⟩, b'⟩
      have c4 := c3.trans (b'.mono c3.size)
      clear X b'
      have X := hide (WO.out w4 c4)
      go_wp2_with fail
      refine X.out.mono ?_
      rintro e w5 ⟨⟨vr, tr, rfl, hG5, hm5⟩, b'⟩
      have c5 := c4.trans (b'.mono c4.size)
      have hL5 := (hL4.below b' (Nat.le_refl _)).mono b'.size
      obtain ⟨gr, cr, rfl, hR5⟩ := hG5.rss (Nat.le_refl _)
      have htl : tr.length = (withoutL rs to).length := by rw [← hm5]; simp
      rw [hm5] at hR5
      clear X b'
      rw [htl]
      have X := hide (CA.out w5 c5)
      go_wp2_with fail
      refine X.out.mono ?_
      rintro e w6 ⟨⟨vv, ts, rfl, hg, hm⟩, b'⟩
      have TT := hide (show TurnIs w w6 (.returned (.tuple #[vv, .int .i64 507])) (farR rs fr to ov v false) (farC rs fr to ov v false) from ⟨vv, ts, w5.heap.size, c5.size, by rw [HR.out.2], hg, by rw [HR.out.1]; exact hm⟩)
      have c9 := c5.trans (b'.mono c5.size)
      clear hg hm X b'
      go_wp2
      go_ret2
      exact ⟨TT.out, c9⟩
    · skip
      have HR := hide (show farR rs fr to ov v true = rs ∧ farC rs fr to ov v true = 507 from far_code (farI_ask (show askI rs v (pathB fr && pathB to) = 507 by unfold askI; rw [ht, hf, hq, hv]; rfl) (by decide)) (by decide))
      rw [mayI_507 ht hf hv] at M1
      rw [mayI_507 ht hq hv] at M2
      clear FF SP U1 U2 IC LG
      generalize findI rs to = F2 at *
      go_enter Tryz.func63, Tryz.ntmps63
      go_wp2_with fail
      refine M1.out.mono ?_
      rintro e w1 ⟨rfl, c1⟩
      have X := hide (M2.out w1 c1)
      go_wp2_with fail
      refine X.out.mono ?_
      rintro e w2 ⟨rfl, b'⟩
      have c2 := c1.trans (b'.mono c1.size)
      clear X b'
      have X := hide (FT.out w2 c2)
      go_wp2_with fail
      refine X.out.mono ?_
      rintro e w3 ⟨rfl, b'⟩
      have c3 := c2.trans (b' _)
      clear X b'
      have X := hide (DO.out w3 c3)
      go_wp2_with fail
      refine X.out.mono ?_
      rintro e w4 ⟨⟨gl, cl, _, rfl, hL4⟩, b'⟩
      have c4 := c3.trans (b'.mono c3.size)
      clear X b'
      have X := hide (WO.out w4 c4)
      go_wp2_with fail
      refine X.out.mono ?_
      rintro e w5 ⟨⟨vr, tr, rfl, hG5, hm5⟩, b'⟩
      have c5 := c4.trans (b'.mono c4.size)
      have hL5 := (hL4.below b' (Nat.le_refl _)).mono b'.size
      obtain ⟨gr, cr, rfl, hR5⟩ := hG5.rss (Nat.le_refl _)
      have htl : tr.length = (withoutL rs to).length := by rw [← hm5]; simp
      rw [hm5] at hR5
      clear X b'
      rw [htl]
      have X := hide (WP.out w5 gr cr c5 hR5)
      clear hG5 hm5 htl
      go_wp2_with fail
      refine X.out.mono ?_
      rintro e w6 ⟨⟨vr2, tr2, rfl, hG6, hm6⟩, b'⟩
      have c6 := c5.trans (b'.mono c5.size)
      have hL6 := (hL5.below b' (Nat.le_refl _)).mono b'.size
      obtain ⟨gr2, cr2, rfl, hR6⟩ := hG6.rss (Nat.le_refl _)
      have htl : tr2.length = (withoutL (withoutL rs to) fr).length := by rw [← hm6]; simp
      clear X b'
      rw [htl]
      have X := hide (CA.out w6 c6)
      go_wp2_with fail
      refine X.out.mono ?_
      rintro e w7 ⟨⟨vv, ts, rfl, hg, hm⟩, b'⟩
      have TT := hide (show TurnIs w w7 (.returned (.tuple #[vv, .int .i64 507])) (farR rs fr to ov v true) (farC rs fr to ov v true) from ⟨vv, ts, w6.heap.size, c6.size, by rw [HR.out.2], hg, by rw [HR.out.1]; exact hm⟩)
      have c9 := c6.trans (b'.mono c6.size)
      clear hg hm X b'
      go_wp2
      go_ret2
      exact ⟨TT.out, c9⟩
  · obtain ⟨ht, hf, hv, hq⟩ := hq
    cases mv
    · skip
      have HR := hide (show farR rs fr to ov v false = rs ∧ farC rs fr to ov v false = 400 from far_code (farI_ask (show askI rs v (pathB fr && pathB to) = 400 by unfold askI; rw [ht, hf, hq]; rfl) (by decide)) (by decide))
      rw [mayI_0 ht hf hv] at M1
      rw [mayI_400 ht hq] at M2
      clear FF SP U1 U2 IC LG
      generalize findI rs to = F2 at *
      go_enter Tryz.func63, Tryz.ntmps63
      go_wp2_with fail
      refine M1.out.mono ?_
      rintro e w1 ⟨rfl, c1⟩
      have X := hide (M2.out w1 c1)
      go_wp2_with fail
      refine X.out.mono ?_
      rintro e w2 ⟨rfl, b'⟩
      have c2 := c1.trans (b'.mono c1.size)
      clear X b'
      have X := hide (FT.out w2 c2)
      go_wp2_with fail
      refine X.out.mono ?_
      rintro e w3 ⟨rfl, b'⟩
      have c3 := c2.trans (b' _)
      clear X b'
      have X := hide (DO.out w3 c3)
      go_wp2_with fail
      refine X.out.mono ?_
      rintro e w4 ⟨⟨gl, cl, _, rfl, hL4⟩, b'⟩
      have c4 := c3.trans (b'.mono c3.size)
      clear X b'
      have X := hide (WO.out w4 c4)
      go_wp2_with fail
      refine X.out.mono ?_
      rintro e w5 ⟨⟨vr, tr, rfl, hG5, hm5⟩, b'⟩
      have c5 := c4.trans (b'.mono c4.size)
      have hL5 := (hL4.below b' (Nat.le_refl _)).mono b'.size
      obtain ⟨gr, cr, rfl, hR5⟩ := hG5.rss (Nat.le_refl _)
      have htl : tr.length = (withoutL rs to).length := by rw [← hm5]; simp
      rw [hm5] at hR5
      clear X b'
      rw [htl]
      have X := hide (CA.out w5 c5)
      go_wp2_with fail
      refine X.out.mono ?_
      rintro e w6 ⟨⟨vv, ts, rfl, hg, hm⟩, b'⟩
      have TT := hide (show TurnIs w w6 (.returned (.tuple #[vv, .int .i64 400])) (farR rs fr to ov v false) (farC rs fr to ov v false) from ⟨vv, ts, w5.heap.size, c5.size, by rw [HR.out.2], hg, by rw [HR.out.1]; exact hm⟩)
      have c9 := c5.trans (b'.mono c5.size)
      clear hg hm X b'
      go_wp2
      go_ret2
      exact ⟨TT.out, c9⟩
    · skip
      have HR := hide (show farR rs fr to ov v true = rs ∧ farC rs fr to ov v true = 400 from far_code (farI_ask (show askI rs v (pathB fr && pathB to) = 400 by unfold askI; rw [ht, hf, hq]; rfl) (by decide)) (by decide))
      rw [mayI_0 ht hf hv] at M1
      rw [mayI_400 ht hq] at M2
      clear FF SP U1 U2 IC LG
      generalize findI rs to = F2 at *
      go_enter Tryz.func63, Tryz.ntmps63
      go_wp2_with fail
      refine M1.out.mono ?_
      rintro e w1 ⟨rfl, c1⟩
      have X := hide (M2.out w1 c1)
      go_wp2_with fail
      refine X.out.mono ?_
      rintro e w2 ⟨rfl, b'⟩
      have c2 := c1.trans (b'.mono c1.size)
      clear X b'
      have X := hide (FT.out w2 c2)
      go_wp2_with fail
      refine X.out.mono ?_
      rintro e w3 ⟨rfl, b'⟩
      have c3 := c2.trans (b' _)
      clear X b'
      have X := hide (DO.out w3 c3)
      go_wp2_with fail
      refine X.out.mono ?_
      rintro e w4 ⟨⟨gl, cl, _, rfl, hL4⟩, b'⟩
      have c4 := c3.trans (b'.mono c3.size)
      clear X b'
      have X := hide (WO.out w4 c4)
      go_wp2_with fail
      refine X.out.mono ?_
      rintro e w5 ⟨⟨vr, tr, rfl, hG5, hm5⟩, b'⟩
      have c5 := c4.trans (b'.mono c4.size)
      have hL5 := (hL4.below b' (Nat.le_refl _)).mono b'.size
      obtain ⟨gr, cr, rfl, hR5⟩ := hG5.rss (Nat.le_refl _)
      have htl : tr.length = (withoutL rs to).length := by rw [← hm5]; simp
      rw [hm5] at hR5
      clear X b'
      rw [htl]
      have X := hide (WP.out w5 gr cr c5 hR5)
      clear hG5 hm5 htl
      go_wp2_with fail
      refine X.out.mono ?_
      rintro e w6 ⟨⟨vr2, tr2, rfl, hG6, hm6⟩, b'⟩
      have c6 := c5.trans (b'.mono c5.size)
      have hL6 := (hL5.below b' (Nat.le_refl _)).mono b'.size
      obtain ⟨gr2, cr2, rfl, hR6⟩ := hG6.rss (Nat.le_refl _)
      have htl : tr2.length = (withoutL (withoutL rs to) fr).length := by rw [← hm6]; simp
      clear X b'
      rw [htl]
      have X := hide (CA.out w6 c6)
      go_wp2_with fail
      refine X.out.mono ?_
      rintro e w7 ⟨⟨vv, ts, rfl, hg, hm⟩, b'⟩
      have TT := hide (show TurnIs w w7 (.returned (.tuple #[vv, .int .i64 400])) (farR rs fr to ov v true) (farC rs fr to ov v true) from ⟨vv, ts, w6.heap.size, c6.size, by rw [HR.out.2], hg, by rw [HR.out.1]; exact hm⟩)
      have c9 := c6.trans (b'.mono c6.size)
      clear hg hm X b'
      go_wp2
      go_ret2
      exact ⟨TT.out, c9⟩
end Go.Proofs.YtifnolomekhmfaaGreat
namespace Go.Proofs.YtifnolomekhmfaaGreat
open Go.RowKit M
set_option linter.unusedVariables false

set_option maxRecDepth 100000 in
set_option maxHeartbeats 16000000 in
theorem specFarB_any (a : Option Addr) (rs : List Rs) (cap B : Nat) (b1 : Option Addr) (fr : List ByteArray) (cap1 : Nat) (bt ot : Nat) (to : List ByteArray) (cap2 : Nat) (ov : Bool) (v : Int) (mv : Bool) (w : World) (h : Rss w B a rs) (h1 : Strs w B b1 fr) (h2 : Strs w B (some ⟨bt, ot, none⟩) to) (hB : B ≤ w.heap.size) (hs : ShortT rs) (hl : rs.length ≤ 1048576) (hlp : ∀ r ∈ rs, r.pa.length ≤ 1048576 ∧ r.ps.length ≤ 1048576) (hs1 : Short fr) (hl1 : fr.length ≤ 1048576) (hs2 : Short to) (hl2 : to.length ≤ 1048576) (hc1 : fr.length ≤ cap1) (hm1 : cap1 ≤ maxLen) (hc2 : to.length ≤ cap2) (hm2 : cap2 ≤ maxLen) (ht : treeB rs = true) (hf : pathB fr = true) (hto : pathB to = true) (hv : inB v 0 99999 = true) (hq : findI rs fr < 0 ∨ fr.length = 0 ∨ apartB fr to = false ∨ (¬ findI rs to < 0 ∧ ov = false)) :
    Calls Tryz.prog 63 #[.slice a rs.length cap, .slice b1 fr.length cap1, .slice (some ⟨bt, ot, none⟩) to.length cap2, .bool ov, .int .i64 v, .bool mv] w fun e w' => TurnIs w w' e (farR rs fr to ov v mv) (farC rs fr to ov v mv) ∧ Below w.heap.size w w' := by
  have hlm : rs.length ≤ maxLen := by unfold maxLen; omega
  have hlm1 : fr.length ≤ maxLen := by unfold maxLen; omega
  have hlm2 : to.length ≤ maxLen := by unfold maxLen; omega
  have hdl : (deepL rs fr).length ≤ 1048576 := Nat.le_trans (List.length_filter_le _ _) hl
  have hrl : (restL rs fr to mv).length ≤ 1048576 := Nat.le_trans (restL_len rs fr to mv) hl
  have M1 := hide (specMay_any a rs cap B b1 fr cap1 B v w h h1 hB hB hs hlm (fun r hr => (hlp r hr).1) hs1 hlm1)
  have M2 := hide (fun W (hb : Below w.heap.size w W) => specMay_any a rs cap B (some ⟨bt, ot, none⟩) to cap2 B v W (h.below hb hB) (h2.below hb hB) (Nat.le_trans hB hb.size) (Nat.le_trans hB hb.size) hs hlm (fun r hr => (hlp r hr).1) hs2 hlm2)
  have FT := hide (fun W (hb : Below w.heap.size w W) => specFind_any a rs cap B (some ⟨bt, ot, none⟩) to cap2 B W (h.below hb hB) (h2.below hb hB) hlm hlm2)
  have DO := hide (fun W (hb : Below w.heap.size w W) => specDeepOf_any a rs cap B b1 fr cap1 B W (h.below hb hB) (h1.below hb hB) (Nat.le_trans hB hb.size) (Nat.le_trans hB hb.size) hl hl1 hlp)
  have WO := hide (fun W (hb : Below w.heap.size w W) => specWithout_any a rs cap B (some ⟨bt, ot, none⟩) to cap2 B W (h.below hb hB) (h2.below hb hB) (Nat.le_trans hB hb.size) (Nat.le_trans hB hb.size) hl hl2 hlp)
  have WP := hide (fun W g c (hb : Below w.heap.size w W) (hr : Rss W W.heap.size (some ⟨g, 0, none⟩) (withoutL rs to)) => specWithout_any (some ⟨g, 0, none⟩) (withoutL rs to) c W.heap.size b1 fr cap1 B W hr (h1.below hb hB) (Nat.le_refl _) (Nat.le_trans hB hb.size) (Nat.le_trans (List.length_filter_le _ _) hl) hl1 (fun r hr => hlp r (List.mem_filter.1 hr).1))
  have FF := hide (fun W (hb : Below w.heap.size w W) => specFind_any a rs cap B b1 fr cap1 B W (h.below hb hB) (h1.below hb hB) hlm hlm1)
  have SP := hide (fun W (hb : Below w.heap.size w W) => specSamePath_any b1 (some ⟨bt, ot, none⟩) fr to cap1 cap2 B B W (h1.below hb hB) (h2.below hb hB) hlm1 hlm2)
  have U1 := hide (fun W (hb : Below w.heap.size w W) => specUnder_any b1 (some ⟨bt, ot, none⟩) fr to cap1 cap2 B B W (h1.below hb hB) (h2.below hb hB) hlm1 hlm2 hc1 hm1)
  have U2 := hide (fun W (hb : Below w.heap.size w W) => specUnder_any (some ⟨bt, ot, none⟩) b1 to fr cap2 cap1 B B W (h2.below hb hB) (h1.below hb hB) hlm2 hlm1 hc2 hm2)
  have IC := hide (fun W g c (hb : Below w.heap.size w W) (x : RowS W g (aboveL to)) => specIsColl_any a rs cap B (some ⟨g, 0, none⟩) (aboveL to) c W.heap.size W (h.below hb hB) (x.strs' x.1) hlm (by rw [aboveL_len]; unfold maxLen; omega))
  have LG := hide (fun W g c (hr : Rss W W.heap.size (some ⟨g, 0, none⟩) (deepL rs fr)) => specLong_any (some ⟨g, 0, none⟩) (deepL rs fr) c W.heap.size b1 (some ⟨bt, ot, none⟩) fr to cap1 cap2 W hr hdl (fun r hr => ⟨(deep_iff.1 (deepL_mem.1 hr).2).length_le, (hlp r (deepL_mem.1 hr).1).1⟩) hl1 hl2)
  have CA := hide (fun W (hb : Below w.heap.size w W) => specCopyAll_any a rs cap B W (h.below hb hB) (Nat.le_trans hB hb.size) hl hlp)
  have hask := ask_zero ht hf hto hv
  rw [mayI_0 ht hf hv] at M1
  rw [mayI_0 ht hto hv] at M2
  by_cases hf0 : fr.length = 0
  · skip
    cases mv
    · skip
      have HR := hide (show farR rs fr to ov v false = rs ∧ farC rs fr to ov v false = 403 from far_code (farI_403 hask (there_iff.2 (.inl hf0)) (apart_no (.inl hf0))) (by decide))
      have e0 : ((fr.length : Int) == 0) = true := by rw [beq_iff_eq]; omega
      have e1 : decide ((0 : Int) < (fr.length : Int)) = false := by rw [decide_eq_false_iff_not]; omega
      have e3 : decide (0 < fr.length) = false := by rw [decide_eq_false_iff_not]; omega
      generalize findI rs to = F2 at *
      clear hf0
      go_enter Tryz.func63, Tryz.ntmps63
      go_wp2_with fail
      refine M1.out.mono ?_
      rintro e w1 ⟨rfl, c1⟩
      have X := hide (M2.out w1 c1)
      go_wp2_with fail
      refine X.out.mono ?_
      rintro e w2 ⟨rfl, b'⟩
      have c2 := c1.trans (b'.mono c1.size)
      clear X b'
      have X := hide (FT.out w2 c2)
      go_wp2_with fail
      refine X.out.mono ?_
      rintro e w3 ⟨rfl, b'⟩
      have c3 := c2.trans (b' _)
      clear X b'
      have X := hide (DO.out w3 c3)
      go_wp2_with fail
      refine X.out.mono ?_
      rintro e w4 ⟨⟨gl, cl, _, rfl, hL4⟩, b'⟩
      have c4 := c3.trans (b'.mono c3.size)
      clear X b'
      have X := hide (WO.out w4 c4)
      go_wp2_with fail
      refine X.out.mono ?_
      rintro e w5 ⟨⟨vr, tr, rfl, hG5, hm5⟩, b'⟩
      have c5 := c4.trans (b'.mono c4.size)
      have hL5 := (hL4.below b' (Nat.le_refl _)).mono b'.size
      obtain ⟨gr, cr, rfl, hR5⟩ := hG5.rss (Nat.le_refl _)
      have htl : tr.length = (withoutL rs to).length := by rw [← hm5]; simp
      rw [hm5] at hR5
      clear X b'
      rw [htl]
      have X := hide (CA.out w5 c5)
      go_wp2_with fail
      refine X.out.mono ?_
      rintro e w6 ⟨⟨vv, ts, rfl, hg, hm⟩, b'⟩
      have TT := hide (show TurnIs w w6 (.returned (.tuple #[vv, .int .i64 403])) (farR rs fr to ov v false) (farC rs fr to ov v false) from ⟨vv, ts, w5.heap.size, c5.size, by rw [HR.out.2], hg, by rw [HR.out.1]; exact hm⟩)
      have c9 := c5.trans (b'.mono c5.size)
      clear hg hm X b'
      go_wp2
      go_ret2
      exact ⟨TT.out, c9⟩
    · skip
      have HR := hide (show farR rs fr to ov v true = rs ∧ farC rs fr to ov v true = 403 from far_code (farI_403 hask (there_iff.2 (.inl hf0)) (apart_no (.inl hf0))) (by decide))
      have e0 : ((fr.length : Int) == 0) = true := by rw [beq_iff_eq]; omega
      have e1 : decide ((0 : Int) < (fr.length : Int)) = false := by rw [decide_eq_false_iff_not]; omega
      have e3 : decide (0 < fr.length) = false := by rw [decide_eq_false_iff_not]; omega
      generalize findI rs to = F2 at *
      clear hf0
      go_enter Tryz.func63, Tryz.ntmps63
      go_wp2_with fail
      refine M1.out.mono ?_
      rintro e w1 ⟨rfl, c1⟩
      have X := hide (M2.out w1 c1)
      go_wp2_with fail
      refine X.out.mono ?_
      rintro e w2 ⟨rfl, b'⟩
      have c2 := c1.trans (b'.mono c1.size)
      clear X b'
      have X := hide (FT.out w2 c2)
      go_wp2_with fail
      refine X.out.mono ?_
      rintro e w3 ⟨rfl, b'⟩
      have c3 := c2.trans (b' _)
      clear X b'
      have X := hide (DO.out w3 c3)
      go_wp2_with fail
      refine X.out.mono ?_
      rintro e w4 ⟨⟨gl, cl, _, rfl, hL4⟩, b'⟩
      have c4 := c3.trans (b'.mono c3.size)
      clear X b'
      have X := hide (WO.out w4 c4)
      go_wp2_with fail
      refine X.out.mono ?_
      rintro e w5 ⟨⟨vr, tr, rfl, hG5, hm5⟩, b'⟩
      have c5 := c4.trans (b'.mono c4.size)
      have hL5 := (hL4.below b' (Nat.le_refl _)).mono b'.size
      obtain ⟨gr, cr, rfl, hR5⟩ := hG5.rss (Nat.le_refl _)
      have htl : tr.length = (withoutL rs to).length := by rw [← hm5]; simp
      rw [hm5] at hR5
      clear X b'
      rw [htl]
      have X := hide (WP.out w5 gr cr c5 hR5)
      clear hG5 hm5 htl
      go_wp2_with fail
      refine X.out.mono ?_
      rintro e w6 ⟨⟨vr2, tr2, rfl, hG6, hm6⟩, b'⟩
      have c6 := c5.trans (b'.mono c5.size)
      have hL6 := (hL5.below b' (Nat.le_refl _)).mono b'.size
      obtain ⟨gr2, cr2, rfl, hR6⟩ := hG6.rss (Nat.le_refl _)
      have htl : tr2.length = (withoutL (withoutL rs to) fr).length := by rw [← hm6]; simp
      clear X b'
      rw [htl]
      have X := hide (CA.out w6 c6)
      go_wp2_with fail
      refine X.out.mono ?_
      rintro e w7 ⟨⟨vv, ts, rfl, hg, hm⟩, b'⟩
      have TT := hide (show TurnIs w w7 (.returned (.tuple #[vv, .int .i64 403])) (farR rs fr to ov v true) (farC rs fr to ov v true) from ⟨vv, ts, w6.heap.size, c6.size, by rw [HR.out.2], hg, by rw [HR.out.1]; exact hm⟩)
      have c9 := c6.trans (b'.mono c6.size)
      clear hg hm X b'
      go_wp2
      go_ret2
      exact ⟨TT.out, c9⟩
  have e0 : ((fr.length : Int) == 0) = false := by rw [beq_eq_false_iff_ne]; omega
  have e1 : decide ((0 : Int) < (fr.length : Int)) = true := by rw [decide_eq_true_iff]; omega
  by_cases hF1 : findI rs fr < 0
  · skip
    cases mv
    · skip
      have HR := hide (show farR rs fr to ov v false = rs ∧ farC rs fr to ov v false = 404 from far_code (farI_404 hask (there_not hf0 hF1)) (by decide))
      generalize findI rs to = F2 at *
      generalize findI rs fr = F1 at *
      go_enter Tryz.func63, Tryz.ntmps63
      go_wp2_with fail
      refine M1.out.mono ?_
      rintro e w1 ⟨rfl, c1⟩
      have X := hide (M2.out w1 c1)
      go_wp2_with fail
      refine X.out.mono ?_
      rintro e w2 ⟨rfl, b'⟩
      have c2 := c1.trans (b'.mono c1.size)
      clear X b'
      have X := hide (FT.out w2 c2)
      go_wp2_with fail
      refine X.out.mono ?_
      rintro e w3 ⟨rfl, b'⟩
      have c3 := c2.trans (b' _)
      clear X b'
      have X := hide (DO.out w3 c3)
      go_wp2_with fail
      refine X.out.mono ?_
      rintro e w4 ⟨⟨gl, cl, _, rfl, hL4⟩, b'⟩
      have c4 := c3.trans (b'.mono c3.size)
      clear X b'
      have X := hide (WO.out w4 c4)
      go_wp2_with fail
      refine X.out.mono ?_
      rintro e w5 ⟨⟨vr, tr, rfl, hG5, hm5⟩, b'⟩
      have c5 := c4.trans (b'.mono c4.size)
      have hL5 := (hL4.below b' (Nat.le_refl _)).mono b'.size
      obtain ⟨gr, cr, rfl, hR5⟩ := hG5.rss (Nat.le_refl _)
      have htl : tr.length = (withoutL rs to).length := by rw [← hm5]; simp
      rw [hm5] at hR5
      clear X b'
      rw [htl]
      have X := hide (FF.out w5 c5)
      go_wp2_with fail
      refine X.out.mono ?_
      rintro e w6 ⟨rfl, b'⟩
      have c6 := c5.trans (b' _)
      have hL6 := (hL5.below (b' _) (Nat.le_refl _)).mono (b' 0).size
      clear X b'
      have X := hide (CA.out w6 c6)
      go_wp2_with fail
      refine X.out.mono ?_
      rintro e w7 ⟨⟨vv, ts, rfl, hg, hm⟩, b'⟩
      have TT := hide (show TurnIs w w7 (.returned (.tuple #[vv, .int .i64 404])) (farR rs fr to ov v false) (farC rs fr to ov v false) from ⟨vv, ts, w6.heap.size, c6.size, by rw [HR.out.2], hg, by rw [HR.out.1]; exact hm⟩)
      have c9 := c6.trans (b'.mono c6.size)
      clear hg hm X b'
      go_wp2
      go_ret2
      exact ⟨TT.out, c9⟩
    · skip
      have HR := hide (show farR rs fr to ov v true = rs ∧ farC rs fr to ov v true = 404 from far_code (farI_404 hask (there_not hf0 hF1)) (by decide))
      generalize findI rs to = F2 at *
      generalize findI rs fr = F1 at *
      go_enter Tryz.func63, Tryz.ntmps63
      go_wp2_with fail
      refine M1.out.mono ?_
      rintro e w1 ⟨rfl, c1⟩
      have X := hide (M2.out w1 c1)
      go_wp2_with fail
      refine X.out.mono ?_
      rintro e w2 ⟨rfl, b'⟩
      have c2 := c1.trans (b'.mono c1.size)
      clear X b'
      have X := hide (FT.out w2 c2)
      go_wp2_with fail
      refine X.out.mono ?_
      rintro e w3 ⟨rfl, b'⟩
      have c3 := c2.trans (b' _)
      clear X b'
      have X := hide (DO.out w3 c3)
      go_wp2_with fail
      refine X.out.mono ?_
      rintro e w4 ⟨⟨gl, cl, _, rfl, hL4⟩, b'⟩
      have c4 := c3.trans (b'.mono c3.size)
      clear X b'
      have X := hide (WO.out w4 c4)
      go_wp2_with fail
      refine X.out.mono ?_
      rintro e w5 ⟨⟨vr, tr, rfl, hG5, hm5⟩, b'⟩
      have c5 := c4.trans (b'.mono c4.size)
      have hL5 := (hL4.below b' (Nat.le_refl _)).mono b'.size
      obtain ⟨gr, cr, rfl, hR5⟩ := hG5.rss (Nat.le_refl _)
      have htl : tr.length = (withoutL rs to).length := by rw [← hm5]; simp
      rw [hm5] at hR5
      clear X b'
      rw [htl]
      have X := hide (WP.out w5 gr cr c5 hR5)
      clear hG5 hm5 htl
      go_wp2_with fail
      refine X.out.mono ?_
      rintro e w6 ⟨⟨vr2, tr2, rfl, hG6, hm6⟩, b'⟩
      have c6 := c5.trans (b'.mono c5.size)
      have hL6 := (hL5.below b' (Nat.le_refl _)).mono b'.size
      obtain ⟨gr2, cr2, rfl, hR6⟩ := hG6.rss (Nat.le_refl _)
      have htl : tr2.length = (withoutL (withoutL rs to) fr).length := by rw [← hm6]; simp
      clear X b'
      rw [htl]
      have X := hide (FF.out w6 c6)
      go_wp2_with fail
      refine X.out.mono ?_
      rintro e w7 ⟨rfl, b'⟩
      have c7 := c6.trans (b' _)
      have hL7 := (hL6.below (b' _) (Nat.le_refl _)).mono (b' 0).size
      clear X b'
      have X := hide (CA.out w7 c7)
      go_wp2_with fail
      refine X.out.mono ?_
      rintro e w8 ⟨⟨vv, ts, rfl, hg, hm⟩, b'⟩
      have TT := hide (show TurnIs w w8 (.returned (.tuple #[vv, .int .i64 404])) (farR rs fr to ov v true) (farC rs fr to ov v true) from ⟨vv, ts, w7.heap.size, c7.size, by rw [HR.out.2], hg, by rw [HR.out.1]; exact hm⟩)
      have c9 := c7.trans (b'.mono c7.size)
      clear hg hm X b'
      go_wp2
      go_ret2
      exact ⟨TT.out, c9⟩
  have hth := there_of hF1
  by_cases ht0 : to.length = 0
  · skip
    cases mv
    · skip
      have HR := hide (show farR rs fr to ov v false = rs ∧ farC rs fr to ov v false = 403 from far_code (farI_403 hask hth (apart_no (.inr (.inl ht0)))) (by decide))
      have e2 : ((to.length : Int) == 0) = true := by rw [beq_iff_eq]; omega
      generalize findI rs to = F2 at *
      generalize findI rs fr = F1 at *
      clear ht0
      go_enter Tryz.func63, Tryz.ntmps63
      go_wp2_with fail
      refine M1.out.mono ?_
      rintro e w1 ⟨rfl, c1⟩
      have X := hide (M2.out w1 c1)
      go_wp2_with fail
      refine X.out.mono ?_
      rintro e w2 ⟨rfl, b'⟩
      have c2 := c1.trans (b'.mono c1.size)
      clear X b'
      have X := hide (FT.out w2 c2)
      go_wp2_with fail
      refine X.out.mono ?_
      rintro e w3 ⟨rfl, b'⟩
      have c3 := c2.trans (b' _)
      clear X b'
      have X := hide (DO.out w3 c3)
      go_wp2_with fail
      refine X.out.mono ?_
      rintro e w4 ⟨⟨gl, cl, _, rfl, hL4⟩, b'⟩
      have c4 := c3.trans (b'.mono c3.size)
      clear X b'
      have X := hide (WO.out w4 c4)
      go_wp2_with fail
      refine X.out.mono ?_
      rintro e w5 ⟨⟨vr, tr, rfl, hG5, hm5⟩, b'⟩
      have c5 := c4.trans (b'.mono c4.size)
      have hL5 := (hL4.below b' (Nat.le_refl _)).mono b'.size
      obtain ⟨gr, cr, rfl, hR5⟩ := hG5.rss (Nat.le_refl _)
      have htl : tr.length = (withoutL rs to).length := by rw [← hm5]; simp
      rw [hm5] at hR5
      clear X b'
      rw [htl]
      have X := hide (FF.out w5 c5)
      go_wp2_with fail
      refine X.out.mono ?_
      rintro e w6 ⟨rfl, b'⟩
      have c6 := c5.trans (b' _)
      have hL6 := (hL5.below (b' _) (Nat.le_refl _)).mono (b' 0).size
      clear X b'
      have X := hide (CA.out w6 c6)
      go_wp2_with fail
      refine X.out.mono ?_
      rintro e w7 ⟨⟨vv, ts, rfl, hg, hm⟩, b'⟩
      have TT := hide (show TurnIs w w7 (.returned (.tuple #[vv, .int .i64 403])) (farR rs fr to ov v false) (farC rs fr to ov v false) from ⟨vv, ts, w6.heap.size, c6.size, by rw [HR.out.2], hg, by rw [HR.out.1]; exact hm⟩)
      have c9 := c6.trans (b'.mono c6.size)
      clear hg hm X b'
      go_wp2
      go_ret2
      exact ⟨TT.out, c9⟩
    · skip
      have HR := hide (show farR rs fr to ov v true = rs ∧ farC rs fr to ov v true = 403 from far_code (farI_403 hask hth (apart_no (.inr (.inl ht0)))) (by decide))
      have e2 : ((to.length : Int) == 0) = true := by rw [beq_iff_eq]; omega
      generalize findI rs to = F2 at *
      generalize findI rs fr = F1 at *
      clear ht0
      go_enter Tryz.func63, Tryz.ntmps63
      go_wp2_with fail
      refine M1.out.mono ?_
      rintro e w1 ⟨rfl, c1⟩
      have X := hide (M2.out w1 c1)
      go_wp2_with fail
      refine X.out.mono ?_
      rintro e w2 ⟨rfl, b'⟩
      have c2 := c1.trans (b'.mono c1.size)
      clear X b'
      have X := hide (FT.out w2 c2)
      go_wp2_with fail
      refine X.out.mono ?_
      rintro e w3 ⟨rfl, b'⟩
      have c3 := c2.trans (b' _)
      clear X b'
      have X := hide (DO.out w3 c3)
      go_wp2_with fail
      refine X.out.mono ?_
      rintro e w4 ⟨⟨gl, cl, _, rfl, hL4⟩, b'⟩
      have c4 := c3.trans (b'.mono c3.size)
      clear X b'
      have X := hide (WO.out w4 c4)
      go_wp2_with fail
      refine X.out.mono ?_
      rintro e w5 ⟨⟨vr, tr, rfl, hG5, hm5⟩, b'⟩
      have c5 := c4.trans (b'.mono c4.size)
      have hL5 := (hL4.below b' (Nat.le_refl _)).mono b'.size
      obtain ⟨gr, cr, rfl, hR5⟩ := hG5.rss (Nat.le_refl _)
      have htl : tr.length = (withoutL rs to).length := by rw [← hm5]; simp
      rw [hm5] at hR5
      clear X b'
      rw [htl]
      have X := hide (WP.out w5 gr cr c5 hR5)
      clear hG5 hm5 htl
      go_wp2_with fail
      refine X.out.mono ?_
      rintro e w6 ⟨⟨vr2, tr2, rfl, hG6, hm6⟩, b'⟩
      have c6 := c5.trans (b'.mono c5.size)
      have hL6 := (hL5.below b' (Nat.le_refl _)).mono b'.size
      obtain ⟨gr2, cr2, rfl, hR6⟩ := hG6.rss (Nat.le_refl _)
      have htl : tr2.length = (withoutL (withoutL rs to) fr).length := by rw [← hm6]; simp
      clear X b'
      rw [htl]
      have X := hide (FF.out w6 c6)
      go_wp2_with fail
      refine X.out.mono ?_
      rintro e w7 ⟨rfl, b'⟩
      have c7 := c6.trans (b' _)
      have hL7 := (hL6.below (b' _) (Nat.le_refl _)).mono (b' 0).size
      clear X b'
      have X := hide (CA.out w7 c7)
      go_wp2_with fail
      refine X.out.mono ?_
      rintro e w8 ⟨⟨vv, ts, rfl, hg, hm⟩, b'⟩
      have TT := hide (show TurnIs w w8 (.returned (.tuple #[vv, .int .i64 403])) (farR rs fr to ov v true) (farC rs fr to ov v true) from ⟨vv, ts, w7.heap.size, c7.size, by rw [HR.out.2], hg, by rw [HR.out.1]; exact hm⟩)
      have c9 := c7.trans (b'.mono c7.size)
      clear hg hm X b'
      go_wp2
      go_ret2
      exact ⟨TT.out, c9⟩
  have e2 : ((to.length : Int) == 0) = false := by rw [beq_eq_false_iff_ne]; omega
  cases hsm : sameL fr to
  rotate_left
  · skip
    cases mv
    · skip
      have HR := hide (show farR rs fr to ov v false = rs ∧ farC rs fr to ov v false = 403 from far_code (farI_403 hask hth (apart_no (.inr (.inr (.inl hsm))))) (by decide))
      rw [hsm] at SP
      generalize findI rs to = F2 at *
      generalize findI rs fr = F1 at *
      go_enter Tryz.func63, Tryz.ntmps63
      go_wp2_with fail
      refine M1.out.mono ?_
      rintro e w1 ⟨rfl, c1⟩
      have X := hide (M2.out w1 c1)
      go_wp2_with fail
      refine X.out.mono ?_
      rintro e w2 ⟨rfl, b'⟩
      have c2 := c1.trans (b'.mono c1.size)
      clear X b'
      have X := hide (FT.out w2 c2)
      go_wp2_with fail
      refine X.out.mono ?_
      rintro e w3 ⟨rfl, b'⟩
      have c3 := c2.trans (b' _)
      clear X b'
      have X := hide (DO.out w3 c3)
      go_wp2_with fail
      refine X.out.mono ?_
      rintro e w4 ⟨⟨gl, cl, _, rfl, hL4⟩, b'⟩
      have c4 := c3.trans (b'.mono c3.size)
      clear X b'
      have X := hide (WO.out w4 c4)
      go_wp2_with fail
      refine X.out.mono ?_
      rintro e w5 ⟨⟨vr, tr, rfl, hG5, hm5⟩, b'⟩
      have c5 := c4.trans (b'.mono c4.size)
      have hL5 := (hL4.below b' (Nat.le_refl _)).mono b'.size
      obtain ⟨gr, cr, rfl, hR5⟩ := hG5.rss (Nat.le_refl _)
      have htl : tr.length = (withoutL rs to).length := by rw [← hm5]; simp
      rw [hm5] at hR5
      clear X b'
      rw [htl]
      have X := hide (FF.out w5 c5)
      go_wp2_with fail
      refine X.out.mono ?_
      rintro e w6 ⟨rfl, b'⟩
      have c6 := c5.trans (b' _)
      have hL6 := (hL5.below (b' _) (Nat.le_refl _)).mono (b' 0).size
      clear X b'
      have X := hide (SP.out w6 c6)
      go_wp2_with fail
      refine X.out.mono ?_
      rintro e w7 ⟨rfl, b'⟩
      have c7 := c6.trans (b' _)
      have hL7 := (hL6.below (b' _) (Nat.le_refl _)).mono (b' 0).size
      clear X b'
      have X := hide (CA.out w7 c7)
      go_wp2_with fail
      refine X.out.mono ?_
      rintro e w8 ⟨⟨vv, ts, rfl, hg, hm⟩, b'⟩
      have TT := hide (show TurnIs w w8 (.returned (.tuple #[vv, .int .i64 403])) (farR rs fr to ov v false) (farC rs fr to ov v false) from ⟨vv, ts, w7.heap.size, c7.size, by rw [HR.out.2], hg, by rw [HR.out.1]; exact hm⟩)
      have c9 := c7.trans (b'.mono c7.size)
      clear hg hm X b'
      go_wp2
      go_ret2
      exact ⟨TT.out, c9⟩
    · skip
      have HR := hide (show farR rs fr to ov v true = rs ∧ farC rs fr to ov v true = 403 from far_code (farI_403 hask hth (apart_no (.inr (.inr (.inl hsm))))) (by decide))
      rw [hsm] at SP
      generalize findI rs to = F2 at *
      generalize findI rs fr = F1 at *
      go_enter Tryz.func63, Tryz.ntmps63
      go_wp2_with fail
      refine M1.out.mono ?_
      rintro e w1 ⟨rfl, c1⟩
      have X := hide (M2.out w1 c1)
      go_wp2_with fail
      refine X.out.mono ?_
      rintro e w2 ⟨rfl, b'⟩
      have c2 := c1.trans (b'.mono c1.size)
      clear X b'
      have X := hide (FT.out w2 c2)
      go_wp2_with fail
      refine X.out.mono ?_
      rintro e w3 ⟨rfl, b'⟩
      have c3 := c2.trans (b' _)
      clear X b'
      have X := hide (DO.out w3 c3)
      go_wp2_with fail
      refine X.out.mono ?_
      rintro e w4 ⟨⟨gl, cl, _, rfl, hL4⟩, b'⟩
      have c4 := c3.trans (b'.mono c3.size)
      clear X b'
      have X := hide (WO.out w4 c4)
      go_wp2_with fail
      refine X.out.mono ?_
      rintro e w5 ⟨⟨vr, tr, rfl, hG5, hm5⟩, b'⟩
      have c5 := c4.trans (b'.mono c4.size)
      have hL5 := (hL4.below b' (Nat.le_refl _)).mono b'.size
      obtain ⟨gr, cr, rfl, hR5⟩ := hG5.rss (Nat.le_refl _)
      have htl : tr.length = (withoutL rs to).length := by rw [← hm5]; simp
      rw [hm5] at hR5
      clear X b'
      rw [htl]
      have X := hide (WP.out w5 gr cr c5 hR5)
      clear hG5 hm5 htl
      go_wp2_with fail
      refine X.out.mono ?_
      rintro e w6 ⟨⟨vr2, tr2, rfl, hG6, hm6⟩, b'⟩
      have c6 := c5.trans (b'.mono c5.size)
      have hL6 := (hL5.below b' (Nat.le_refl _)).mono b'.size
      obtain ⟨gr2, cr2, rfl, hR6⟩ := hG6.rss (Nat.le_refl _)
      have htl : tr2.length = (withoutL (withoutL rs to) fr).length := by rw [← hm6]; simp
      clear X b'
      rw [htl]
      have X := hide (FF.out w6 c6)
      go_wp2_with fail
      refine X.out.mono ?_
      rintro e w7 ⟨rfl, b'⟩
      have c7 := c6.trans (b' _)
      have hL7 := (hL6.below (b' _) (Nat.le_refl _)).mono (b' 0).size
      clear X b'
      have X := hide (SP.out w7 c7)
      go_wp2_with fail
      refine X.out.mono ?_
      rintro e w8 ⟨rfl, b'⟩
      have c8 := c7.trans (b' _)
      have hL8 := (hL7.below (b' _) (Nat.le_refl _)).mono (b' 0).size
      clear X b'
      have X := hide (CA.out w8 c8)
      go_wp2_with fail
      refine X.out.mono ?_
      rintro e w9 ⟨⟨vv, ts, rfl, hg, hm⟩, b'⟩
      have TT := hide (show TurnIs w w9 (.returned (.tuple #[vv, .int .i64 403])) (farR rs fr to ov v true) (farC rs fr to ov v true) from ⟨vv, ts, w8.heap.size, c8.size, by rw [HR.out.2], hg, by rw [HR.out.1]; exact hm⟩)
      have c9 := c8.trans (b'.mono c8.size)
      clear hg hm X b'
      go_wp2
      go_ret2
      exact ⟨TT.out, c9⟩
  rw [hsm] at SP
  cases hu1 : underB fr to
  rotate_left
  · skip
    cases mv
    · skip
      have HR := hide (show farR rs fr to ov v false = rs ∧ farC rs fr to ov v false = 403 from far_code (farI_403 hask hth (apart_no (.inr (.inr (.inr (.inl hu1)))))) (by decide))
      rw [hu1] at U1
      generalize findI rs to = F2 at *
      generalize findI rs fr = F1 at *
      go_enter Tryz.func63, Tryz.ntmps63
      go_wp2_with fail
      refine M1.out.mono ?_
      rintro e w1 ⟨rfl, c1⟩
      have X := hide (M2.out w1 c1)
      go_wp2_with fail
      refine X.out.mono ?_
      rintro e w2 ⟨rfl, b'⟩
      have c2 := c1.trans (b'.mono c1.size)
      clear X b'
      have X := hide (FT.out w2 c2)
      go_wp2_with fail
      refine X.out.mono ?_
      rintro e w3 ⟨rfl, b'⟩
      have c3 := c2.trans (b' _)
      clear X b'
      have X := hide (DO.out w3 c3)
      go_wp2_with fail
      refine X.out.mono ?_
      rintro e w4 ⟨⟨gl, cl, _, rfl, hL4⟩, b'⟩
      have c4 := c3.trans (b'.mono c3.size)
      clear X b'
      have X := hide (WO.out w4 c4)
      go_wp2_with fail
      refine X.out.mono ?_
      rintro e w5 ⟨⟨vr, tr, rfl, hG5, hm5⟩, b'⟩
      have c5 := c4.trans (b'.mono c4.size)
      have hL5 := (hL4.below b' (Nat.le_refl _)).mono b'.size
      obtain ⟨gr, cr, rfl, hR5⟩ := hG5.rss (Nat.le_refl _)
      have htl : tr.length = (withoutL rs to).length := by rw [← hm5]; simp
      rw [hm5] at hR5
      clear X b'
      rw [htl]
      have X := hide (FF.out w5 c5)
      go_wp2_with fail
      refine X.out.mono ?_
      rintro e w6 ⟨rfl, b'⟩
      have c6 := c5.trans (b' _)
      have hL6 := (hL5.below (b' _) (Nat.le_refl _)).mono (b' 0).size
      clear X b'
      have X := hide (SP.out w6 c6)
      go_wp2_with fail
      refine X.out.mono ?_
      rintro e w7 ⟨rfl, b'⟩
      have c7 := c6.trans (b' _)
      have hL7 := (hL6.below (b' _) (Nat.le_refl _)).mono (b' 0).size
      clear X b'
      have X := hide (U1.out w7 c7)
      go_wp2_with fail
      refine X.out.mono ?_
      rintro e w8 ⟨rfl, b'⟩
      have c8 := c7.trans (b' _)
      have hL8 := (hL7.below (b' _) (Nat.le_refl _)).mono (b' 0).size
      clear X b'
      have X := hide (CA.out w8 c8)
      go_wp2_with fail
      refine X.out.mono ?_
      rintro e w9 ⟨⟨vv, ts, rfl, hg, hm⟩, b'⟩
      have TT := hide (show TurnIs w w9 (.returned (.tuple #[vv, .int .i64 403])) (farR rs fr to ov v false) (farC rs fr to ov v false) from ⟨vv, ts, w8.heap.size, c8.size, by rw [HR.out.2], hg, by rw [HR.out.1]; exact hm⟩)
      have c9 := c8.trans (b'.mono c8.size)
      clear hg hm X b'
      go_wp2
      go_ret2
      exact ⟨TT.out, c9⟩
    · skip
      have HR := hide (show farR rs fr to ov v true = rs ∧ farC rs fr to ov v true = 403 from far_code (farI_403 hask hth (apart_no (.inr (.inr (.inr (.inl hu1)))))) (by decide))
      rw [hu1] at U1
      generalize findI rs to = F2 at *
      generalize findI rs fr = F1 at *
      go_enter Tryz.func63, Tryz.ntmps63
      go_wp2_with fail
      refine M1.out.mono ?_
      rintro e w1 ⟨rfl, c1⟩
      have X := hide (M2.out w1 c1)
      go_wp2_with fail
      refine X.out.mono ?_
      rintro e w2 ⟨rfl, b'⟩
      have c2 := c1.trans (b'.mono c1.size)
      clear X b'
      have X := hide (FT.out w2 c2)
      go_wp2_with fail
      refine X.out.mono ?_
      rintro e w3 ⟨rfl, b'⟩
      have c3 := c2.trans (b' _)
      clear X b'
      have X := hide (DO.out w3 c3)
      go_wp2_with fail
      refine X.out.mono ?_
      rintro e w4 ⟨⟨gl, cl, _, rfl, hL4⟩, b'⟩
      have c4 := c3.trans (b'.mono c3.size)
      clear X b'
      have X := hide (WO.out w4 c4)
      go_wp2_with fail
      refine X.out.mono ?_
      rintro e w5 ⟨⟨vr, tr, rfl, hG5, hm5⟩, b'⟩
      have c5 := c4.trans (b'.mono c4.size)
      have hL5 := (hL4.below b' (Nat.le_refl _)).mono b'.size
      obtain ⟨gr, cr, rfl, hR5⟩ := hG5.rss (Nat.le_refl _)
      have htl : tr.length = (withoutL rs to).length := by rw [← hm5]; simp
      rw [hm5] at hR5
      clear X b'
      rw [htl]
      have X := hide (WP.out w5 gr cr c5 hR5)
      clear hG5 hm5 htl
      go_wp2_with fail
      refine X.out.mono ?_
      rintro e w6 ⟨⟨vr2, tr2, rfl, hG6, hm6⟩, b'⟩
      have c6 := c5.trans (b'.mono c5.size)
      have hL6 := (hL5.below b' (Nat.le_refl _)).mono b'.size
      obtain ⟨gr2, cr2, rfl, hR6⟩ := hG6.rss (Nat.le_refl _)
      have htl : tr2.length = (withoutL (withoutL rs to) fr).length := by rw [← hm6]; simp
      clear X b'
      rw [htl]
      have X := hide (FF.out w6 c6)
      go_wp2_with fail
      refine X.out.mono ?_
      rintro e w7 ⟨rfl, b'⟩
      have c7 := c6.trans (b' _)
      have hL7 := (hL6.below (b' _) (Nat.le_refl _)).mono (b' 0).size
      clear X b'
      have X := hide (SP.out w7 c7)
      go_wp2_with fail
      refine X.out.mono ?_
      rintro e w8 ⟨rfl, b'⟩
      have c8 := c7.trans (b' _)
      have hL8 := (hL7.below (b' _) (Nat.le_refl _)).mono (b' 0).size
      clear X b'
      have X := hide (U1.out w8 c8)
      go_wp2_with fail
      refine X.out.mono ?_
      rintro e w9 ⟨rfl, b'⟩
      have c9 := c8.trans (b' _)
      have hL9 := (hL8.below (b' _) (Nat.le_refl _)).mono (b' 0).size
      clear X b'
      have X := hide (CA.out w9 c9)
      go_wp2_with fail
      refine X.out.mono ?_
      rintro e w10 ⟨⟨vv, ts, rfl, hg, hm⟩, b'⟩
      have TT := hide (show TurnIs w w10 (.returned (.tuple #[vv, .int .i64 403])) (farR rs fr to ov v true) (farC rs fr to ov v true) from ⟨vv, ts, w9.heap.size, c9.size, by rw [HR.out.2], hg, by rw [HR.out.1]; exact hm⟩)
      have c9 := c9.trans (b'.mono c9.size)
      clear hg hm X b'
      go_wp2
      go_ret2
      exact ⟨TT.out, c9⟩
  rw [hu1] at U1
  cases hu2 : underB to fr
  rotate_left
  · skip
    cases mv
    · skip
      have HR := hide (show farR rs fr to ov v false = rs ∧ farC rs fr to ov v false = 403 from far_code (farI_403 hask hth (apart_no (.inr (.inr (.inr (.inr hu2)))))) (by decide))
      rw [hu2] at U2
      generalize findI rs to = F2 at *
      generalize findI rs fr = F1 at *
      go_enter Tryz.func63, Tryz.ntmps63
      go_wp2_with fail
      refine M1.out.mono ?_
      rintro e w1 ⟨rfl, c1⟩
      have X := hide (M2.out w1 c1)
      go_wp2_with fail
      refine X.out.mono ?_
      rintro e w2 ⟨rfl, b'⟩
      have c2 := c1.trans (b'.mono c1.size)
      clear X b'
      have X := hide (FT.out w2 c2)
      go_wp2_with fail
      refine X.out.mono ?_
      rintro e w3 ⟨rfl, b'⟩
      have c3 := c2.trans (b' _)
      clear X b'
      have X := hide (DO.out w3 c3)
      go_wp2_with fail
      refine X.out.mono ?_
      rintro e w4 ⟨⟨gl, cl, _, rfl, hL4⟩, b'⟩
      have c4 := c3.trans (b'.mono c3.size)
      clear X b'
      have X := hide (WO.out w4 c4)
      go_wp2_with fail
      refine X.out.mono ?_
      rintro e w5 ⟨⟨vr, tr, rfl, hG5, hm5⟩, b'⟩
      have c5 := c4.trans (b'.mono c4.size)
      have hL5 := (hL4.below b' (Nat.le_refl _)).mono b'.size
      obtain ⟨gr, cr, rfl, hR5⟩ := hG5.rss (Nat.le_refl _)
      have htl : tr.length = (withoutL rs to).length := by rw [← hm5]; simp
      rw [hm5] at hR5
      clear X b'
      rw [htl]
      have X := hide (FF.out w5 c5)
      go_wp2_with fail
      refine X.out.mono ?_
      rintro e w6 ⟨rfl, b'⟩
      have c6 := c5.trans (b' _)
      have hL6 := (hL5.below (b' _) (Nat.le_refl _)).mono (b' 0).size
      clear X b'
      have X := hide (SP.out w6 c6)
      go_wp2_with fail
      refine X.out.mono ?_
      rintro e w7 ⟨rfl, b'⟩
      have c7 := c6.trans (b' _)
      have hL7 := (hL6.below (b' _) (Nat.le_refl _)).mono (b' 0).size
      clear X b'
      have X := hide (U1.out w7 c7)
      go_wp2_with fail
      refine X.out.mono ?_
      rintro e w8 ⟨rfl, b'⟩
      have c8 := c7.trans (b' _)
      have hL8 := (hL7.below (b' _) (Nat.le_refl _)).mono (b' 0).size
      clear X b'
      have X := hide (U2.out w8 c8)
      go_wp2_with fail
      refine X.out.mono ?_
      rintro e w9 ⟨rfl, b'⟩
      have c9 := c8.trans (b' _)
      have hL9 := (hL8.below (b' _) (Nat.le_refl _)).mono (b' 0).size
      clear X b'
      have X := hide (CA.out w9 c9)
      go_wp2_with fail
      refine X.out.mono ?_
      rintro e w10 ⟨⟨vv, ts, rfl, hg, hm⟩, b'⟩
      have TT := hide (show TurnIs w w10 (.returned (.tuple #[vv, .int .i64 403])) (farR rs fr to ov v false) (farC rs fr to ov v false) from ⟨vv, ts, w9.heap.size, c9.size, by rw [HR.out.2], hg, by rw [HR.out.1]; exact hm⟩)
      have c9 := c9.trans (b'.mono c9.size)
      clear hg hm X b'
      go_wp2
      go_ret2
      exact ⟨TT.out, c9⟩
    · skip
      have HR := hide (show farR rs fr to ov v true = rs ∧ farC rs fr to ov v true = 403 from far_code (farI_403 hask hth (apart_no (.inr (.inr (.inr (.inr hu2)))))) (by decide))
      rw [hu2] at U2
      generalize findI rs to = F2 at *
      generalize findI rs fr = F1 at *
      go_enter Tryz.func63, Tryz.ntmps63
      go_wp2_with fail
      refine M1.out.mono ?_
      rintro e w1 ⟨rfl, c1⟩
      have X := hide (M2.out w1 c1)
      go_wp2_with fail
      refine X.out.mono ?_
      rintro e w2 ⟨rfl, b'⟩
      have c2 := c1.trans (b'.mono c1.size)
      clear X b'
      have X := hide (FT.out w2 c2)
      go_wp2_with fail
      refine X.out.mono ?_
      rintro e w3 ⟨rfl, b'⟩
      have c3 := c2.trans (b' _)
      clear X b'
      have X := hide (DO.out w3 c3)
      go_wp2_with fail
      refine X.out.mono ?_
      rintro e w4 ⟨⟨gl, cl, _, rfl, hL4⟩, b'⟩
      have c4 := c3.trans (b'.mono c3.size)
      clear X b'
      have X := hide (WO.out w4 c4)
      go_wp2_with fail
      refine X.out.mono ?_
      rintro e w5 ⟨⟨vr, tr, rfl, hG5, hm5⟩, b'⟩
      have c5 := c4.trans (b'.mono c4.size)
      have hL5 := (hL4.below b' (Nat.le_refl _)).mono b'.size
      obtain ⟨gr, cr, rfl, hR5⟩ := hG5.rss (Nat.le_refl _)
      have htl : tr.length = (withoutL rs to).length := by rw [← hm5]; simp
      rw [hm5] at hR5
      clear X b'
      rw [htl]
      have X := hide (WP.out w5 gr cr c5 hR5)
      clear hG5 hm5 htl
      go_wp2_with fail
      refine X.out.mono ?_
      rintro e w6 ⟨⟨vr2, tr2, rfl, hG6, hm6⟩, b'⟩
      have c6 := c5.trans (b'.mono c5.size)
      have hL6 := (hL5.below b' (Nat.le_refl _)).mono b'.size
      obtain ⟨gr2, cr2, rfl, hR6⟩ := hG6.rss (Nat.le_refl _)
      have htl : tr2.length = (withoutL (withoutL rs to) fr).length := by rw [← hm6]; simp
      clear X b'
      rw [htl]
      have X := hide (FF.out w6 c6)
      go_wp2_with fail
      refine X.out.mono ?_
      rintro e w7 ⟨rfl, b'⟩
      have c7 := c6.trans (b' _)
      have hL7 := (hL6.below (b' _) (Nat.le_refl _)).mono (b' 0).size
      clear X b'
      have X := hide (SP.out w7 c7)
      go_wp2_with fail
      refine X.out.mono ?_
      rintro e w8 ⟨rfl, b'⟩
      have c8 := c7.trans (b' _)
      have hL8 := (hL7.below (b' _) (Nat.le_refl _)).mono (b' 0).size
      clear X b'
      have X := hide (U1.out w8 c8)
      go_wp2_with fail
      refine X.out.mono ?_
      rintro e w9 ⟨rfl, b'⟩
      have c9 := c8.trans (b' _)
      have hL9 := (hL8.below (b' _) (Nat.le_refl _)).mono (b' 0).size
      clear X b'
      have X := hide (U2.out w9 c9)
      go_wp2_with fail
      refine X.out.mono ?_
      rintro e w10 ⟨rfl, b'⟩
      have c10 := c9.trans (b' _)
      have hL10 := (hL9.below (b' _) (Nat.le_refl _)).mono (b' 0).size
      clear X b'
      have X := hide (CA.out w10 c10)
      go_wp2_with fail
      refine X.out.mono ?_
      rintro e w11 ⟨⟨vv, ts, rfl, hg, hm⟩, b'⟩
      have TT := hide (show TurnIs w w11 (.returned (.tuple #[vv, .int .i64 403])) (farR rs fr to ov v true) (farC rs fr to ov v true) from ⟨vv, ts, w10.heap.size, c10.size, by rw [HR.out.2], hg, by rw [HR.out.1]; exact hm⟩)
      have c9 := c10.trans (b'.mono c10.size)
      clear hg hm X b'
      go_wp2
      go_ret2
      exact ⟨TT.out, c9⟩
  rw [hu2] at U2
  have hap := apart_yes hsm hu1 hu2
  obtain ⟨hF2, rfl⟩ : ¬ findI rs to < 0 ∧ ov = false := by
    rcases hq with hq | hq | hq | hq
    · exact absurd hq hF1
    · exact absurd hq hf0
    · rw [hap] at hq; cases hq
    · exact hq
  cases mv
  · skip
    have HR := hide (show farR rs fr to false v false = rs ∧ farC rs fr to false v false = 412 from far_code (farI_412 hask hth hap (there_of hF2)) (by decide))
    generalize findI rs to = F2 at *
    generalize findI rs fr = F1 at *
    go_enter Tryz.func63, Tryz.ntmps63
    go_wp2_with fail
    refine M1.out.mono ?_
    rintro e w1 ⟨rfl, c1⟩
    have X := hide (M2.out w1 c1)
    go_wp2_with fail
    refine X.out.mono ?_
    rintro e w2 ⟨rfl, b'⟩
    have c2 := c1.trans (b'.mono c1.size)
    clear X b'
    have X := hide (FT.out w2 c2)
    go_wp2_with fail
    refine X.out.mono ?_
    rintro e w3 ⟨rfl, b'⟩
    have c3 := c2.trans (b' _)
    clear X b'
    have X := hide (DO.out w3 c3)
    go_wp2_with fail
    refine X.out.mono ?_
    rintro e w4 ⟨⟨gl, cl, _, rfl, hL4⟩, b'⟩
    have c4 := c3.trans (b'.mono c3.size)
    clear X b'
    have X := hide (WO.out w4 c4)
    go_wp2_with fail
    refine X.out.mono ?_
    rintro e w5 ⟨⟨vr, tr, rfl, hG5, hm5⟩, b'⟩
    have c5 := c4.trans (b'.mono c4.size)
    have hL5 := (hL4.below b' (Nat.le_refl _)).mono b'.size
    obtain ⟨gr, cr, rfl, hR5⟩ := hG5.rss (Nat.le_refl _)
    have htl : tr.length = (withoutL rs to).length := by rw [← hm5]; simp
    rw [hm5] at hR5
    clear X b'
    rw [htl]
    have X := hide (FF.out w5 c5)
    go_wp2_with fail
    refine X.out.mono ?_
    rintro e w6 ⟨rfl, b'⟩
    have c6 := c5.trans (b' _)
    have hL6 := (hL5.below (b' _) (Nat.le_refl _)).mono (b' 0).size
    clear X b'
    have X := hide (SP.out w6 c6)
    go_wp2_with fail
    refine X.out.mono ?_
    rintro e w7 ⟨rfl, b'⟩
    have c7 := c6.trans (b' _)
    have hL7 := (hL6.below (b' _) (Nat.le_refl _)).mono (b' 0).size
    clear X b'
    have X := hide (U1.out w7 c7)
    go_wp2_with fail
    refine X.out.mono ?_
    rintro e w8 ⟨rfl, b'⟩
    have c8 := c7.trans (b' _)
    have hL8 := (hL7.below (b' _) (Nat.le_refl _)).mono (b' 0).size
    clear X b'
    have X := hide (U2.out w8 c8)
    go_wp2_with fail
    refine X.out.mono ?_
    rintro e w9 ⟨rfl, b'⟩
    have c9 := c8.trans (b' _)
    have hL9 := (hL8.below (b' _) (Nat.le_refl _)).mono (b' 0).size
    clear X b'
    have X := hide (CA.out w9 c9)
    go_wp2_with fail
    refine X.out.mono ?_
    rintro e w10 ⟨⟨vv, ts, rfl, hg, hm⟩, b'⟩
    have TT := hide (show TurnIs w w10 (.returned (.tuple #[vv, .int .i64 412])) (farR rs fr to false v false) (farC rs fr to false v false) from ⟨vv, ts, w9.heap.size, c9.size, by rw [HR.out.2], hg, by rw [HR.out.1]; exact hm⟩)
    have c9 := c9.trans (b'.mono c9.size)
    clear hg hm X b'
    go_wp2
    go_ret2
    exact ⟨TT.out, c9⟩
  · skip
    have HR := hide (show farR rs fr to false v true = rs ∧ farC rs fr to false v true = 412 from far_code (farI_412 hask hth hap (there_of hF2)) (by decide))
    generalize findI rs to = F2 at *
    generalize findI rs fr = F1 at *
    go_enter Tryz.func63, Tryz.ntmps63
    go_wp2_with fail
    refine M1.out.mono ?_
    rintro e w1 ⟨rfl, c1⟩
    have X := hide (M2.out w1 c1)
    go_wp2_with fail
    refine X.out.mono ?_
    rintro e w2 ⟨rfl, b'⟩
    have c2 := c1.trans (b'.mono c1.size)
    clear X b'
    have X := hide (FT.out w2 c2)
    go_wp2_with fail
    refine X.out.mono ?_
    rintro e w3 ⟨rfl, b'⟩
    have c3 := c2.trans (b' _)
    clear X b'
    have X := hide (DO.out w3 c3)
    go_wp2_with fail
    refine X.out.mono ?_
    rintro e w4 ⟨⟨gl, cl, _, rfl, hL4⟩, b'⟩
    have c4 := c3.trans (b'.mono c3.size)
    clear X b'
    have X := hide (WO.out w4 c4)
    go_wp2_with fail
    refine X.out.mono ?_
    rintro e w5 ⟨⟨vr, tr, rfl, hG5, hm5⟩, b'⟩
    have c5 := c4.trans (b'.mono c4.size)
    have hL5 := (hL4.below b' (Nat.le_refl _)).mono b'.size
    obtain ⟨gr, cr, rfl, hR5⟩ := hG5.rss (Nat.le_refl _)
    have htl : tr.length = (withoutL rs to).length := by rw [← hm5]; simp
    rw [hm5] at hR5
    clear X b'
    rw [htl]
    have X := hide (WP.out w5 gr cr c5 hR5)
    clear hG5 hm5 htl
    go_wp2_with fail
    refine X.out.mono ?_
    rintro e w6 ⟨⟨vr2, tr2, rfl, hG6, hm6⟩, b'⟩
    have c6 := c5.trans (b'.mono c5.size)
    have hL6 := (hL5.below b' (Nat.le_refl _)).mono b'.size
    obtain ⟨gr2, cr2, rfl, hR6⟩ := hG6.rss (Nat.le_refl _)
    have htl : tr2.length = (withoutL (withoutL rs to) fr).length := by rw [← hm6]; simp
    clear X b'
    rw [htl]
    have X := hide (FF.out w6 c6)
    go_wp2_with fail
    refine X.out.mono ?_
    rintro e w7 ⟨rfl, b'⟩
    have c7 := c6.trans (b' _)
    have hL7 := (hL6.below (b' _) (Nat.le_refl _)).mono (b' 0).size
    clear X b'
    have X := hide (SP.out w7 c7)
    go_wp2_with fail
    refine X.out.mono ?_
    rintro e w8 ⟨rfl, b'⟩
    have c8 := c7.trans (b' _)
    have hL8 := (hL7.below (b' _) (Nat.le_refl _)).mono (b' 0).size
    clear X b'
    have X := hide (U1.out w8 c8)
    go_wp2_with fail
    refine X.out.mono ?_
    rintro e w9 ⟨rfl, b'⟩
    have c9 := c8.trans (b' _)
    have hL9 := (hL8.below (b' _) (Nat.le_refl _)).mono (b' 0).size
    clear X b'
    have X := hide (U2.out w9 c9)
    go_wp2_with fail
    refine X.out.mono ?_
    rintro e w10 ⟨rfl, b'⟩
    have c10 := c9.trans (b' _)
    have hL10 := (hL9.below (b' _) (Nat.le_refl _)).mono (b' 0).size
    clear X b'
    have X := hide (CA.out w10 c10)
    go_wp2_with fail
    refine X.out.mono ?_
    rintro e w11 ⟨⟨vv, ts, rfl, hg, hm⟩, b'⟩
    have TT := hide (show TurnIs w w11 (.returned (.tuple #[vv, .int .i64 412])) (farR rs fr to false v true) (farC rs fr to false v true) from ⟨vv, ts, w10.heap.size, c10.size, by rw [HR.out.2], hg, by rw [HR.out.1]; exact hm⟩)
    have c9 := c10.trans (b'.mono c10.size)
    clear hg hm X b'
    go_wp2
    go_ret2
    exact ⟨TT.out, c9⟩
end Go.Proofs.YtifnolomekhmfaaGreat
