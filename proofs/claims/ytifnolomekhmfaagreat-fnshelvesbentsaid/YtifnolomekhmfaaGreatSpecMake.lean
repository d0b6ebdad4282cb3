/-
  What spec.MakeColl does.
-/
import Derived.Test.YtifnolomekhmfaaGreatSpecCopyAll
import Derived.Test.YtifnolomekhmfaaGreatSpecPutR
import Derived.Test.YtifnolomekhmfaaGreatMathOps
import Derived.Test.YtifnolomekhmfaaGreatTurnIs
namespace Go.Proofs.YtifnolomekhmfaaGreat
open Go.RowKit M
set_option linter.unusedVariables false

set_option maxRecDepth 100000 in
set_option maxHeartbeats 4000000 in
theorem specMakeColl_any (a : Option Addr) (rs : List Rs) (cap B : Nat) (b : Option Addr) (p : List ByteArray) (cap' : Nat) (v : Int) (w : World) (h : Rss w B a rs) (h' : Strs w B b p) (hB : B ≤ w.heap.size) (hs : ShortT rs) (hl : rs.length ≤ 1048576) (hlp : ∀ r ∈ rs, r.pa.length ≤ 1048576 ∧ r.ps.length ≤ 1048576) (hs' : Short p) (hl' : p.length ≤ 1048576) (hc : p.length ≤ cap') (hc' : cap' ≤ maxLen) (hn : b = none → cap' = 0) :
    Calls Tryz.prog 17 #[.slice a rs.length cap, .slice b p.length cap', .int .i64 v] w fun e w' => TurnIs w w' e (makeR rs p v) (codeM (collI rs p v) 201) ∧ Below w.heap.size w w' := by
  have hlm : rs.length ≤ maxLen := by unfold maxLen; omega
  have hlm' : p.length ≤ maxLen := by unfold maxLen; omega
  have HM := hide (specMay_any a rs cap B b p cap' B v w h h' hB hB hs hlm (fun r hr => (hlp r hr).1) hs' hlm')
  have HF := hide (fun W (hb : Below w.heap.size w W) => specFind_any a rs cap B b p cap' B W (h.below hb hB) (h'.below hb hB) hlm hlm')
  have HC := hide (fun W (hb : Below w.heap.size w W) => specCopyAll_any a rs cap B W (h.below hb hB) (Nat.le_trans hB hb.size) hl hlp)
  have HI := hide (fun W g c (x : RowS W g (aboveL p)) (hb : Below w.heap.size w W) => specIsColl_any a rs cap B (some ⟨g, 0, none⟩) (aboveL p) c W.heap.size W (h.below hb hB) (x.strs' x.1) hlm (by rw [aboveL_len]; unfold maxLen; omega))
  have HP := hide (fun W (hb : Below w.heap.size w W) => specPutR_any a rs cap B W (shelfR p v) b cap' none 0 (h.below hb hB) ⟨h'.below hb hB, Pps.nil _ _ _, hc, Nat.le_refl _, hc', Nat.zero_le _, hn, fun _ => rfl⟩ (Nat.le_trans hB hb.size) hl hlp ⟨hl', Nat.zero_le _⟩)
  -- what is refused: a copy of all
  have REF := hide (fun (W W' : World) (c : Int) (vv : Value) (ts : List RsT) (hcc : collI rs p v = c) (hne : ¬ c = 0) (hb : Below w.heap.size w W) (g : GrowR W' W.heap.size vv ts W'.heap.size) (m : ts.map (·.r) = rs) => show TurnIs w W' (.returned (.tuple #[vv, .int .i64 c])) (makeR rs p v) (codeM (collI rs p v) 201) from ⟨vv, ts, W.heap.size, hb.size, by unfold codeM; rw [hcc, if_neg hne], g, by unfold makeR; rw [if_neg (by rw [hcc]; exact hne)]; exact m⟩)
  by_cases h1 : mayI rs p v = 0
  rotate_left
  · have hcc : collI rs p v = mayI rs p v := by unfold collI; rw [if_pos h1]
    have HR := hide (fun W W' vv ts => REF.out W W' _ vv ts hcc h1)
    clear hcc REF HF HI HP
    generalize mayI rs p v = M at *
    go_enter Tryz.func17, Tryz.ntmps17
    go_wp2_with fail
    refine HM.out.mono ?_
    rintro e w1 ⟨rfl, b1⟩
    have HC1 := hide (HC.out w1 b1)
    go_wp2_with fail
    refine HC1.out.mono ?_
    rintro e w2 ⟨⟨vv, ts, rfl, hg, hm⟩, b2⟩
    have T := hide (HR.out w1 w2 vv ts b1 hg hm)
    have c2 := b1.trans (b2.mono b1.size)
    clear hg hm b2 HC1
    go_wp2
    go_ret2
    exact ⟨T.out, c2⟩
  rw [h1] at HM
  by_cases h2 : p.length = 0
  · have hcc : collI rs p v = 405 := by unfold collI; rw [if_neg (by simp [h1]), if_pos (.inl h2)]
    have HR := hide (fun W W' vv ts => REF.out W W' _ vv ts hcc (by decide))
    have hp0 : ((p.length : Int) == 0) = true := by rw [beq_iff_eq]; omega
    clear hcc REF HF HI HP h2
    go_enter Tryz.func17, Tryz.ntmps17
    go_wp2_with fail
    refine HM.out.mono ?_
    rintro e w1 ⟨rfl, b1⟩
    have HC1 := hide (HC.out w1 b1)
    go_wp2_with fail
    refine HC1.out.mono ?_
    rintro e wz ⟨⟨vv, ts, rfl, hg, hm⟩, bz⟩
    have T := hide (HR.out w1 wz vv ts b1 hg hm)
    have cz := b1.trans (bz.mono b1.size)
    clear hg hm bz HC1
    go_wp2
    go_ret2
    exact ⟨T.out, cz⟩
  have hp0 : ((p.length : Int) == 0) = false := by rw [beq_eq_false_iff_ne]; omega
  by_cases h3 : 0 ≤ findI rs p
  · have hcc : collI rs p v = 405 := by unfold collI; rw [if_neg (by simp [h1]), if_pos (.inr h3)]
    have HR := hide (fun W W' vv ts => REF.out W W' _ vv ts hcc (by decide))
    clear hcc REF HI HP h2
    generalize findI rs p = F at *
    go_enter Tryz.func17, Tryz.ntmps17
    go_wp2_with fail
    refine HM.out.mono ?_
    rintro e w1 ⟨rfl, b1⟩
    have HF1 := hide (HF.out w1 b1)
    go_wp2_with fail
    refine HF1.out.mono ?_
    rintro e w2 ⟨rfl, b2'⟩
    have b2 := b1.trans (b2' w.heap.size)
    clear b2' HF1
    have HC1 := hide (HC.out w2 b2)
    go_wp2_with fail
    refine HC1.out.mono ?_
    rintro e wz ⟨⟨vv, ts, rfl, hg, hm⟩, bz⟩
    have T := hide (HR.out w2 wz vv ts b2 hg hm)
    have cz := b2.trans (bz.mono b2.size)
    clear hg hm bz HC1
    go_wp2
    go_ret2
    exact ⟨T.out, cz⟩
  obtain ⟨b2x, o2x, rfl, _, _⟩ := h' (by omega)
  have HA := hide (fun W (hb : Below w.heap.size w W) => specAboveT_any b2x o2x p cap' B W (h'.below hb hB) (Nat.le_trans hB hb.size) hl' (by omega) hc hc')
  cases h4 : collB rs (aboveL p)
  · have hcc : collI rs p v = 409 := by unfold collI; rw [if_neg (by simp [h1]), if_neg (by omega), if_pos h4]
    have HR := hide (fun W W' vv ts => REF.out W W' _ vv ts hcc (by decide))
    simp only [h4] at HI
    clear hcc REF HP h2 h4
    generalize findI rs p = F at *
    go_enter Tryz.func17, Tryz.ntmps17
    go_wp2_with fail
    refine HM.out.mono ?_
    rintro e w1 ⟨rfl, b1⟩
    have HF1 := hide (HF.out w1 b1)
    go_wp2_with fail
    refine HF1.out.mono ?_
    rintro e w2 ⟨rfl, b2'⟩
    have b2 := b1.trans (b2' w.heap.size)
    clear b2' HF1
    have HA1 := hide (HA.out w2 b2)
    go_wp2_with fail
    refine HA1.out.mono ?_
    rintro e w3 ⟨⟨g3, c3, rfl, _, _, r3⟩, b3'⟩
    have b3 := b2.trans (b3'.mono b2.size)
    have HI1 := hide (HI.out w3 g3 c3 r3 b3)
    clear b3' HA1 r3
    go_wp2_with fail
    refine HI1.out.mono ?_
    rintro e w4 ⟨rfl, b4'⟩
    have b4 := b3.trans (b4' w.heap.size)
    clear b4' HI1
    have HC1 := hide (HC.out w4 b4)
    go_wp2_with fail
    refine HC1.out.mono ?_
    rintro e wz ⟨⟨vv, ts, rfl, hg, hm⟩, bz⟩
    have T := hide (HR.out w4 wz vv ts b4 hg hm)
    have cz := b4.trans (bz.mono b4.size)
    clear hg hm bz HC1
    go_wp2
    go_ret2
    exact ⟨T.out, cz⟩
  simp only [h4] at HI
  by_cases h5 : 12 ≤ rs.length
  · have hcc : collI rs p v = 507 := by unfold collI; rw [if_neg (by simp [h1]), if_neg (by omega), if_neg (by simp [h4]), if_pos h5]
    have HR := hide (fun W W' vv ts => REF.out W W' _ vv ts hcc (by decide))
    clear hcc REF HP h2 h4
    generalize findI rs p = F at *
    go_enter Tryz.func17, Tryz.ntmps17
    go_wp2_with fail
    refine HM.out.mono ?_
    rintro e w1 ⟨rfl, b1⟩
    have HF1 := hide (HF.out w1 b1)
    go_wp2_with fail
    refine HF1.out.mono ?_
    rintro e w2 ⟨rfl, b2'⟩
    have b2 := b1.trans (b2' w.heap.size)
    clear b2' HF1
    have HA1 := hide (HA.out w2 b2)
    go_wp2_with fail
    refine HA1.out.mono ?_
    rintro e w3 ⟨⟨g3, c3, rfl, _, _, r3⟩, b3'⟩
    have b3 := b2.trans (b3'.mono b2.size)
    have HI1 := hide (HI.out w3 g3 c3 r3 b3)
    clear b3' HA1 r3
    go_wp2_with fail
    refine HI1.out.mono ?_
    rintro e w4 ⟨rfl, b4'⟩
    have b4 := b3.trans (b4' w.heap.size)
    clear b4' HI1
    have HC1 := hide (HC.out w4 b4)
    go_wp2_with fail
    refine HC1.out.mono ?_
    rintro e wz ⟨⟨vv, ts, rfl, hg, hm⟩, bz⟩
    have T := hide (HR.out w4 wz vv ts b4 hg hm)
    have cz := b4.trans (bz.mono b4.size)
    clear hg hm bz HC1
    go_wp2
    go_ret2
    exact ⟨T.out, cz⟩
  have hcc : collI rs p v = 0 := by unfold collI; rw [if_neg (by simp [h1]), if_neg (by omega), if_neg (by simp [h4]), if_neg h5]
  have HR := hide (fun (W W' : World) (vv : Value) (ts : List RsT) (hb : Below w.heap.size w W) (g : GrowR W' (W.heap.size + 1) vv ts W'.heap.size) (m : ts.map (·.r) = putR (shelfR p v) false rs) => show TurnIs w W' (.returned (.tuple #[vv, .int .i64 201])) (makeR rs p v) (codeM (collI rs p v) 201) from ⟨vv, ts, W.heap.size + 1, by have := hb.size; omega, by unfold codeM; rw [if_pos hcc], g, by unfold makeR; rw [if_pos hcc]; exact m⟩)
  clear hcc REF HC h2 h4
  have HP2 := hide (fun W (hb : Below w.heap.size w W) => show Calls Tryz.prog 71 #[.slice a rs.length cap, .agg #[.slice (some ⟨b2x, o2x, none⟩) p.length cap', .bool true, .string { data := #[] }, .int .i64 v, .slice none 0 0]] W _ from HP.out W hb)
  clear HP
  generalize findI rs p = F at *
  go_enter Tryz.func17, Tryz.ntmps17
  go_wp2_with fail
  refine HM.out.mono ?_
  rintro e w1 ⟨rfl, b1⟩
  have HF1 := hide (HF.out w1 b1)
  go_wp2_with fail
  refine HF1.out.mono ?_
  rintro e w2 ⟨rfl, b2'⟩
  have b2 := b1.trans (b2' w.heap.size)
  clear b2' HF1
  have HA1 := hide (HA.out w2 b2)
  go_wp2_with fail
  refine HA1.out.mono ?_
  rintro e w3 ⟨⟨g3, c3, rfl, _, _, r3⟩, b3'⟩
  have b3 := b2.trans (b3'.mono b2.size)
  have HI1 := hide (HI.out w3 g3 c3 r3 b3)
  clear b3' HA1 r3
  go_wp2_with fail
  refine HI1.out.mono ?_
  rintro e w4 ⟨rfl, b4'⟩
  have b4 := b3.trans (b4' w.heap.size)
  clear b4' HI1
  have HP3 := hide (HP2.out w4 b4)
  go_wp2_with fail
  refine HP3.out.mono ?_
  rintro e wz ⟨⟨vv, ts, rfl, hg, hm⟩, bz⟩
  have T := hide (HR.out w4 wz vv ts b4 hg hm)
  have cz := b4.trans (bz.mono b4.size)
  clear hg hm bz HP3
  go_wp2
  go_ret2
  exact ⟨T.out, cz⟩
end Go.Proofs.YtifnolomekhmfaaGreat
