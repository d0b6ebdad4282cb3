/-
  What spec.PutFile does where it refuses, and where nothing was there yet.
-/
import Derived.Test.YtifnolomekhmfaaGreatSpecMake
namespace Go.Proofs.YtifnolomekhmfaaGreat
open Go.RowKit M
set_option linter.unusedVariables false

theorem oldPs_at {rs : List Rs} {p : List ByteArray} (k : Nat) (hk : k < rs.length) (h : findI rs p = k) : oldPs rs p = rs[k].ps := by
  unfold findI at h
  by_cases h' : rs.findIdx (isAt p) < rs.length
  · rw [if_pos h'] at h
    have e : rs.findIdx (isAt p) = k := by omega
    unfold oldPs
    rw [find_of_findIdx h']
    simp [e]
  · rw [if_neg h'] at h; omega
theorem oldPs_none {rs : List Rs} {p : List ByteArray} (h : findI rs p < 0) : oldPs rs p = [] := by
  unfold findI at h
  by_cases h' : rs.findIdx (isAt p) < rs.length
  · rw [if_pos h'] at h; omega
  · unfold oldPs
    have : rs.find? (isAt p) = none := by
      rw [List.find?_eq_none]
      intro x hx hq
      exact h' (List.findIdx_lt_length_of_exists ⟨x, hx, hq⟩)
    rw [this]

set_option maxRecDepth 100000 in
set_option maxHeartbeats 4000000 in
theorem specPutFile_new (a : Option Addr) (rs : List Rs) (cap B : Nat) (b : Option Addr) (p : List ByteArray) (cap' : Nat) (bo : ByteArray) (v : Int) (w : World) (h : Rss w B a rs) (h' : Strs w B b p) (hB : B ≤ w.heap.size) (hs : ShortT rs) (hl : rs.length ≤ 1048576) (hlp : ∀ r ∈ rs, r.pa.length ≤ 1048576 ∧ r.ps.length ≤ 1048576) (hs' : Short p) (hl' : p.length ≤ 1048576) (hc : p.length ≤ cap') (hc' : cap' ≤ maxLen) (hn : b = none → cap' = 0) (hbo : bo.size ≤ maxLen) (hq : ¬ fileI rs p bo v = 0 ∨ findI rs p < 0) :
    Calls Tryz.prog 14 #[.slice a rs.length cap, .slice b p.length cap', .string bo, .int .i64 v] w fun e w' => TurnIs w w' e (putFR rs p bo v) (codeM (fileI rs p bo v) (okF (findI rs p))) ∧ Below w.heap.size w w' := by
  have hlm : rs.length ≤ maxLen := by unfold maxLen; omega
  have hlm' : p.length ≤ maxLen := by unfold maxLen; omega
  have hbo' := hbo
  unfold maxLen at hbo'
  have HM := hide (specMay_any a rs cap B b p cap' B v w h h' hB hB hs hlm (fun r hr => (hlp r hr).1) hs' hlm')
  have HF := hide (fun W (hb : Below w.heap.size w W) => specFind_any a rs cap B b p cap' B W (h.below hb hB) (h'.below hb hB) hlm hlm')
  have HJ := hide (fun W (hb : Below w.heap.size w W) => specIsColl_any a rs cap B b p cap' B W (h.below hb hB) (h'.below hb hB) hlm hlm')
  have HC := hide (fun W (hb : Below w.heap.size w W) => specCopyAll_any a rs cap B W (h.below hb hB) (Nat.le_trans hB hb.size) hl hlp)
  have HI := hide (fun W g c (x : RowS W g (aboveL p)) (hb : Below w.heap.size w W) => specIsColl_any a rs cap B (some ⟨g, 0, none⟩) (aboveL p) c W.heap.size W (h.below hb hB) (x.strs' x.1) hlm (by rw [aboveL_len]; unfold maxLen; omega))
  have REF := hide (fun (W W' : World) (c : Int) (vv : Value) (ts : List RsT) (hcc : fileI rs p bo v = c) (hne : ¬ c = 0) (hb : Below w.heap.size w W) (g : GrowR W' W.heap.size vv ts W'.heap.size) (m : ts.map (·.r) = rs) => show TurnIs w W' (.returned (.tuple #[vv, .int .i64 c])) (putFR rs p bo v) (codeM (fileI rs p bo v) (okF (findI rs p))) from ⟨vv, ts, W.heap.size, hb.size, by unfold codeM; rw [hcc, if_neg hne], g, by unfold putFR; rw [if_neg (by rw [hcc]; exact hne)]; exact m⟩)
  by_cases h1 : mayI rs p v = 0
  rotate_left
  · have hcc : fileI rs p bo v = mayI rs p v := by unfold fileI; rw [if_pos h1]
    have HR := hide (fun W W' vv ts => REF.out W W' _ vv ts hcc h1)
    clear hcc REF HI
    generalize mayI rs p v = M at *
    generalize findI rs p = F at *
    go_enter Tryz.func14, Tryz.ntmps14
    go_wp2_with fail
    refine HM.out.mono ?_
    rintro e w1 ⟨rfl, b1⟩
    have HF1 := hide (HF.out w1 b1)
    go_wp2_with fail
    refine HF1.out.mono ?_
    rintro e w2 ⟨rfl, b2'⟩
    have b2 := b1.trans (b2' w.heap.size)
    clear b2' HF1
    have HC1 := hide (HC.out w2 b2)
    go_wp2_with fail
    refine HC1.out.mono ?_
    rintro e wz ⟨⟨vv, ts, rfl, hg, hm⟩, bz⟩
    have T := hide (HR.out w2 wz vv ts b2 hg hm)
    have cz := b2.trans (bz.mono b2.size)
    clear hg hm bz HC1
    go_wp2
    go_ret2
    exact ⟨T.out, cz⟩
  rw [h1] at HM
  cases h2 : collB rs p
  rotate_left
  · have hcc : fileI rs p bo v = 405 := by unfold fileI; rw [if_neg (by simp [h1]), if_pos h2]
    have HR := hide (fun W W' vv ts => REF.out W W' _ vv ts hcc (by decide))
    clear hcc REF
    simp only [h2] at HJ
    clear HI h2
    generalize findI rs p = F at *
    go_enter Tryz.func14, Tryz.ntmps14
    go_wp2_with fail
    refine HM.out.mono ?_
    rintro e w1 ⟨rfl, b1⟩
    have HF1 := hide (HF.out w1 b1)
    go_wp2_with fail
    refine HF1.out.mono ?_
    rintro e w2 ⟨rfl, b2'⟩
    have b2 := b1.trans (b2' w.heap.size)
    clear b2' HF1
    have HJ1 := hide (HJ.out w2 b2)
    go_wp2_with fail
    refine HJ1.out.mono ?_
    rintro e w3 ⟨rfl, b3'⟩
    have b3 := b2.trans (b3' w.heap.size)
    clear b3' HJ1
    have HC1 := hide (HC.out w3 b3)
    go_wp2_with fail
    refine HC1.out.mono ?_
    rintro e wz ⟨⟨vv, ts, rfl, hg, hm⟩, bz⟩
    have T := hide (HR.out w3 wz vv ts b3 hg hm)
    have cz := b3.trans (bz.mono b3.size)
    clear hg hm bz HC1
    go_wp2
    go_ret2
    exact ⟨T.out, cz⟩
  simp only [h2] at HJ
  have h0 : 0 < p.length := by
    refine Nat.pos_of_ne_zero fun e => ?_
    rw [collB_root e] at h2
    cases h2
  obtain ⟨b2x, o2x, rfl, _, _⟩ := h' h0
  have HA := hide (fun W (hb : Below w.heap.size w W) => specAboveT_any b2x o2x p cap' B W (h'.below hb hB) (Nat.le_trans hB hb.size) hl' h0 hc hc')
  cases h4 : collB rs (aboveL p)
  · have hcc : fileI rs p bo v = 409 := by unfold fileI; rw [if_neg (by simp [h1]), if_neg (by simp [h2]), if_pos h4]
    have HR := hide (fun W W' vv ts => REF.out W W' _ vv ts hcc (by decide))
    clear hcc REF
    simp only [h4] at HI
    clear h2 h4
    generalize findI rs p = F at *
    go_enter Tryz.func14, Tryz.ntmps14
    go_wp2_with fail
    refine HM.out.mono ?_
    rintro e w1 ⟨rfl, b1⟩
    have HF1 := hide (HF.out w1 b1)
    go_wp2_with fail
    refine HF1.out.mono ?_
    rintro e w2 ⟨rfl, b2'⟩
    have b2 := b1.trans (b2' w.heap.size)
    clear b2' HF1
    have HJ1 := hide (HJ.out w2 b2)
    go_wp2_with fail
    refine HJ1.out.mono ?_
    rintro e w3 ⟨rfl, b3'⟩
    have b3 := b2.trans (b3' w.heap.size)
    clear b3' HJ1
    have HA1 := hide (HA.out w3 b3)
    go_wp2_with fail
    refine HA1.out.mono ?_
    rintro e w4 ⟨⟨g4, c4, rfl, _, _, r4⟩, b4'⟩
    have b4 := b3.trans (b4'.mono b3.size)
    have HI1 := hide (HI.out w4 g4 c4 r4 b4)
    clear b4' HA1 r4
    go_wp2_with fail
    refine HI1.out.mono ?_
    rintro e w5 ⟨rfl, b5'⟩
    have b5 := b4.trans (b5' w.heap.size)
    clear b5' HI1
    have HC1 := hide (HC.out w5 b5)
    go_wp2_with fail
    refine HC1.out.mono ?_
    rintro e wz ⟨⟨vv, ts, rfl, hg, hm⟩, bz⟩
    have T := hide (HR.out w5 wz vv ts b5 hg hm)
    have cz := b5.trans (bz.mono b5.size)
    clear hg hm bz HC1
    go_wp2
    go_ret2
    exact ⟨T.out, cz⟩
  simp only [h4] at HI
  by_cases h5 : 200 < bo.size
  · have hcc : fileI rs p bo v = 413 := by unfold fileI; rw [if_neg (by simp [h1]), if_neg (by simp [h2]), if_neg (by simp [h4]), if_pos h5]
    have HR := hide (fun W W' vv ts => REF.out W W' _ vv ts hcc (by decide))
    clear hcc REF
    clear h2 h4
    generalize findI rs p = F at *
    go_enter Tryz.func14, Tryz.ntmps14
    go_wp2_with fail
    refine HM.out.mono ?_
    rintro e w1 ⟨rfl, b1⟩
    have HF1 := hide (HF.out w1 b1)
    go_wp2_with fail
    refine HF1.out.mono ?_
    rintro e w2 ⟨rfl, b2'⟩
    have b2 := b1.trans (b2' w.heap.size)
    clear b2' HF1
    have HJ1 := hide (HJ.out w2 b2)
    go_wp2_with fail
    refine HJ1.out.mono ?_
    rintro e w3 ⟨rfl, b3'⟩
    have b3 := b2.trans (b3' w.heap.size)
    clear b3' HJ1
    have HA1 := hide (HA.out w3 b3)
    go_wp2_with fail
    refine HA1.out.mono ?_
    rintro e w4 ⟨⟨g4, c4, rfl, _, _, r4⟩, b4'⟩
    have b4 := b3.trans (b4'.mono b3.size)
    have HI1 := hide (HI.out w4 g4 c4 r4 b4)
    clear b4' HA1 r4
    go_wp2_with fail
    refine HI1.out.mono ?_
    rintro e w5 ⟨rfl, b5'⟩
    have b5 := b4.trans (b5' w.heap.size)
    clear b5' HI1
    have HC1 := hide (HC.out w5 b5)
    go_wp2_with fail
    refine HC1.out.mono ?_
    rintro e wz ⟨⟨vv, ts, rfl, hg, hm⟩, bz⟩
    have T := hide (HR.out w5 wz vv ts b5 hg hm)
    have cz := b5.trans (bz.mono b5.size)
    clear hg hm bz HC1
    go_wp2
    go_ret2
    exact ⟨T.out, cz⟩
  by_cases h6 : findI rs p < 0
  · by_cases h7 : 12 ≤ rs.length
    · have hcc : fileI rs p bo v = 507 := by unfold fileI; rw [if_neg (by simp [h1]), if_neg (by simp [h2]), if_neg (by simp [h4]), if_neg h5, if_pos ⟨h6, h7⟩]
      have HR := hide (fun W W' vv ts => REF.out W W' _ vv ts hcc (by decide))
      clear hcc REF
      clear h2 h4
      generalize findI rs p = F at *
      go_enter Tryz.func14, Tryz.ntmps14
      go_wp2_with fail
      refine HM.out.mono ?_
      rintro e w1 ⟨rfl, b1⟩
      have HF1 := hide (HF.out w1 b1)
      go_wp2_with fail
      refine HF1.out.mono ?_
      rintro e w2 ⟨rfl, b2'⟩
      have b2 := b1.trans (b2' w.heap.size)
      clear b2' HF1
      have HJ1 := hide (HJ.out w2 b2)
      go_wp2_with fail
      refine HJ1.out.mono ?_
      rintro e w3 ⟨rfl, b3'⟩
      have b3 := b2.trans (b3' w.heap.size)
      clear b3' HJ1
      have HA1 := hide (HA.out w3 b3)
      go_wp2_with fail
      refine HA1.out.mono ?_
      rintro e w4 ⟨⟨g4, c4, rfl, _, _, r4⟩, b4'⟩
      have b4 := b3.trans (b4'.mono b3.size)
      have HI1 := hide (HI.out w4 g4 c4 r4 b4)
      clear b4' HA1 r4
      go_wp2_with fail
      refine HI1.out.mono ?_
      rintro e w5 ⟨rfl, b5'⟩
      have b5 := b4.trans (b5' w.heap.size)
      clear b5' HI1
      have HC1 := hide (HC.out w5 b5)
      go_wp2_with fail
      refine HC1.out.mono ?_
      rintro e wz ⟨⟨vv, ts, rfl, hg, hm⟩, bz⟩
      have T := hide (HR.out w5 wz vv ts b5 hg hm)
      have cz := b5.trans (bz.mono b5.size)
      clear hg hm bz HC1
      go_wp2
      go_ret2
      exact ⟨T.out, cz⟩
    · have hcc : fileI rs p bo v = 0 := by unfold fileI; rw [if_neg (by simp [h1]), if_neg (by simp [h2]), if_neg (by simp [h4]), if_neg h5, if_neg (fun x => h7 x.2)]
      have hfr : fileR rs p bo v = ⟨p, false, bo, v, []⟩ := by unfold fileR; rw [oldPs_none h6]
      have HR := hide (fun (W W' : World) (vv : Value) (ts : List RsT) (hb : Below w.heap.size w W) (g : GrowR W' (W.heap.size + 1) vv ts W'.heap.size) (m : ts.map (·.r) = putR ⟨p, false, bo, v, []⟩ false rs) => show TurnIs w W' (.returned (.tuple #[vv, .int .i64 201])) (putFR rs p bo v) (codeM (fileI rs p bo v) (okF (findI rs p))) from ⟨vv, ts, W.heap.size + 1, by have := hb.size; omega, by unfold codeM; rw [if_pos hcc, okF_new h6], g, by unfold putFR; rw [if_pos hcc, hfr]; exact m⟩)
      have HP2 := hide (fun W (hb : Below w.heap.size w W) => show Calls Tryz.prog 71 #[.slice a rs.length cap, .agg #[.slice (some ⟨b2x, o2x, none⟩) p.length cap', .bool false, .string bo, .int .i64 v, .slice none 0 0]] W _ from specPutR_any a rs cap B W ⟨p, false, bo, v, []⟩ (some ⟨b2x, o2x, none⟩) cap' none 0 (h.below hb hB) ⟨h'.below hb hB, Pps.nil _ _ _, hc, Nat.le_refl _, hc', Nat.zero_le _, hn, fun _ => rfl⟩ (Nat.le_trans hB hb.size) hl hlp ⟨hl', Nat.zero_le _⟩)
      clear hcc REF HC h2 h4 hfr
      generalize findI rs p = F at *
      go_enter Tryz.func14, Tryz.ntmps14
      go_wp2_with fail
      refine HM.out.mono ?_
      rintro e w1 ⟨rfl, b1⟩
      have HF1 := hide (HF.out w1 b1)
      go_wp2_with fail
      refine HF1.out.mono ?_
      rintro e w2 ⟨rfl, b2'⟩
      have b2 := b1.trans (b2' w.heap.size)
      clear b2' HF1
      have HJ1 := hide (HJ.out w2 b2)
      go_wp2_with fail
      refine HJ1.out.mono ?_
      rintro e w3 ⟨rfl, b3'⟩
      have b3 := b2.trans (b3' w.heap.size)
      clear b3' HJ1
      have HA1 := hide (HA.out w3 b3)
      go_wp2_with fail
      refine HA1.out.mono ?_
      rintro e w4 ⟨⟨g4, c4, rfl, _, _, r4⟩, b4'⟩
      have b4 := b3.trans (b4'.mono b3.size)
      have HI1 := hide (HI.out w4 g4 c4 r4 b4)
      clear b4' HA1 r4
      go_wp2_with fail
      refine HI1.out.mono ?_
      rintro e w5 ⟨rfl, b5'⟩
      have b5 := b4.trans (b5' w.heap.size)
      clear b5' HI1
      have b6 := b5.alloc b5.size (Obj.cells #[.slice (some ⟨b2x, o2x, none⟩) p.length cap', .bool false, .string bo, .int .i64 v, .slice none 0 0] 62)
      have HP3 := hide (HP2.out _ b6)
      have B6 := hide b6
      clear b6
      go_wp2_with fail
      refine HP3.out.mono ?_
      rintro e wz ⟨⟨vv, ts, rfl, hg, hm⟩, bz⟩
      have T := hide (HR.out _ wz vv ts B6.out hg hm)
      have cz := B6.out.trans (bz.mono B6.out.size)
      clear hg hm bz HP3
      go_wp2
      go_ret2
      exact ⟨T.out, cz⟩
  · exfalso
    rcases hq with hq | hq
    · exact hq (by unfold fileI; rw [if_neg (by simp [h1]), if_neg (by simp [h2]), if_neg (by simp [h4]), if_neg h5, if_neg (fun x => h6 x.1)])
    · exact h6 hq
end Go.Proofs.YtifnolomekhmfaaGreat
