/-
  What spec.MakeColl does.
  What spec.PutFile does where it refuses, and where nothing was there yet.
  What spec.PutFile does where a file is put over another; and with that in all cases.
  What the laws' own helps on what is known do: sizes, copies.
  What the laws' own helps on slices of texts do: sizes, copies, the same.
  What laws.toStringS does: a row of one's own.
  What the laws' own helps on things do: sizes, copies.
  What the laws' own helps on things do: copies.
  Whether two slices of texts hold the same: what laws.eqStringS does.
  Whether two lists of what is known are the same, by the laws' own helps.
  Whether two lists of things are the same, by the laws' own helps.
  Whether two lists of things are the same, by the laws' own helps: the lists.
-/
import Derived.Test.YtepdfppbnepamabGreatSpecMay
import Derived.Test.YtepdfppbnepamabGreatSpecPutR
import Derived.Test.YtepdfppbnepamabGreatRowsW
import Derived.Test.YtepdfppbnepamabGreatMathMake
import Derived.Test.YtepdfppbnepamabGreatMathOrder
import Derived.Test.YtepdfppbnepamabGreatBld
import Derived.Test.YtepdfppbnepamabGreatLess
import Derived.Deep.RegionHeld3
namespace Go.Proofs.YtepdfppbnepamabGreat
open Go.RowKit M
set_option linter.unusedVariables false

set_option maxRecDepth 100000 in
set_option maxHeartbeats 4000000 in
theorem specMakeColl_any (a : Option Addr) (rs : List Rs) (cap B : Nat) (b : Option Addr) (p : List ByteArray) (cap' : Nat) (v : Int) (w : World) (h : Rss w B a rs) (h' : Strs w B b p) (hB : B ≤ w.heap.size) (hs : ShortT rs) (hl : rs.length ≤ 1048576) (hlp : ∀ r ∈ rs, r.pa.length ≤ 1048576 ∧ r.ps.length ≤ 1048576) (hs' : Short p) (hl' : p.length ≤ 1048576) (hc : p.length ≤ cap') (hc' : cap' ≤ maxLen) (hn : b = none → cap' = 0) :
    Calls Tryz.prog 18 #[.slice a rs.length cap, .slice b p.length cap', .int .i64 v] w fun e w' => TurnIs w w' e (makeR rs p v) (codeM (collI rs p v) 201) ∧ Below w.heap.size w w' := by
  have hlm : rs.length ≤ maxLen := by unfold maxLen; omega
  have hlm' : p.length ≤ maxLen := by unfold maxLen; omega
  have HM := hide (specMay_any a rs cap B b p cap' B v w h h' hB hB hs hlm (fun r hr => (hlp r hr).1) hs' hlm')
  have HF := hide (fun W (hb : Below w.heap.size w W) => specFind_any a rs cap B b p cap' B W (h.below hb hB) (h'.below hb hB) hlm hlm')
  have HC := hide (fun W (hb : Below w.heap.size w W) => specCopyAll_any a rs cap B W (h.below hb hB) (Nat.le_trans hB hb.size) hl hlp)
  have HI := hide (fun W g c (x : RowS W g (aboveL p)) (hb : Below w.heap.size w W) => specIsColl_any a rs cap B (some ⟨g, 0, none⟩) (aboveL p) c W.heap.size W (h.below hb hB) (x.strs' x.1) hlm (by rw [aboveL_len]; unfold maxLen; omega))
  have HP := hide (fun W (hb : Below w.heap.size w W) => specPutR_any a rs cap B W (shelfR p v) b cap' none 0 (h.below hb hB) ⟨h'.below hb hB, Pps.nil _ _ _, hc, Nat.le_refl _, hc', Nat.zero_le _, hn, fun _ => rfl⟩ (Nat.le_trans hB hb.size) hl hlp ⟨hl', Nat.zero_le _⟩)
  -- what is refused: a copy of all
  have REF := hide (fun (W W' : World) (c : Int) (vv : Value) (ts : List RsT) (hcc : collI rs p v = c) (hne : ¬ c = 0) (hb : Below w.heap.size w W) (g : GrowR W' W.heap.size vv ts W'.heap.size) (m : ts.map (·.r) = rs) => show TurnIs w W' (.returned (.tuple #[vv, .int .i64 c])) (makeR rs p v) (codeM (collI rs p v) 201) from ⟨vv, ts, W.heap.size, hb.size, by unfold codeM; rw [hcc, if_neg hne], g, by unfold makeR; rw [if_neg (by rw [hcc]; exact hne)]; exact m⟩)
  by_cases h1 : mayI rs p v = 0
  rotate_left
  · have hcc : collI rs p v = mayI rs p v := by unfold collI; rw [if_pos h1]
    have HR := hide (fun W W' vv ts => REF.out W W' _ vv ts hcc h1)
    clear hcc REF HF HI HP
    generalize mayI rs p v = M at *
    go_enter Tryz.func18, Tryz.ntmps18
    go_wp2_with fail
    refine HM.out.mono ?_
    rintro e w1 ⟨rfl, b1⟩
    have HC1 := hide (HC.out w1 b1)
    go_wp2_with fail
    refine HC1.out.mono ?_
    rintro e w2 ⟨⟨vv, ts, rfl, hg, hm⟩, b2⟩
    have T := hide (HR.out w1 w2 vv ts b1 hg hm)
    have c2 := b1.trans (b2.mono b1.size)
    clear hg hm b2 HC1
    go_wp2
    go_ret2
    exact ⟨T.out, c2⟩
  rw [h1] at HM
  by_cases h2 : p.length = 0
  · have hcc : collI rs p v = 405 := by unfold collI; rw [if_neg (by simp [h1]), if_pos (.inl h2)]
    have HR := hide (fun W W' vv ts => REF.out W W' _ vv ts hcc (by decide))
    have hp0 : ((p.length : Int) == 0) = true := by rw [beq_iff_eq]; omega
    clear hcc REF HF HI HP h2
    go_enter Tryz.func18, Tryz.ntmps18
    go_wp2_with fail
    refine HM.out.mono ?_
    rintro e w1 ⟨rfl, b1⟩
    have HC1 := hide (HC.out w1 b1)
    go_wp2_with fail
    refine HC1.out.mono ?_
    rintro e wz ⟨⟨vv, ts, rfl, hg, hm⟩, bz⟩
    have T := hide (HR.out w1 wz vv ts b1 hg hm)
    have cz := b1.trans (bz.mono b1.size)
    clear hg hm bz HC1
    go_wp2
    go_ret2
    exact ⟨T.out, cz⟩
  have hp0 : ((p.length : Int) == 0) = false := by rw [beq_eq_false_iff_ne]; omega
  by_cases h3 : 0 ≤ findI rs p
  · have hcc : collI rs p v = 405 := by unfold collI; rw [if_neg (by simp [h1]), if_pos (.inr h3)]
    have HR := hide (fun W W' vv ts => REF.out W W' _ vv ts hcc (by decide))
    clear hcc REF HI HP h2
    generalize findI rs p = F at *
    go_enter Tryz.func18, Tryz.ntmps18
    go_wp2_with fail
    refine HM.out.mono ?_
    rintro e w1 ⟨rfl, b1⟩
    have HF1 := hide (HF.out w1 b1)
    go_wp2_with fail
    refine HF1.out.mono ?_
    rintro e w2 ⟨rfl, b2'⟩
    have b2 := b1.trans (b2' w.heap.size)
    clear b2' HF1
    have HC1 := hide (HC.out w2 b2)
    go_wp2_with fail
    refine HC1.out.mono ?_
    rintro e wz ⟨⟨vv, ts, rfl, hg, hm⟩, bz⟩
    have T := hide (HR.out w2 wz vv ts b2 hg hm)
    have cz := b2.trans (bz.mono b2.size)
    clear hg hm bz HC1
    go_wp2
    go_ret2
    exact ⟨T.out, cz⟩
  obtain ⟨b2x, o2x, rfl, _, _⟩ := h' (by omega)
  have HA := hide (fun W (hb : Below w.heap.size w W) => specAboveT_any b2x o2x p cap' B W (h'.below hb hB) (Nat.le_trans hB hb.size) hl' (by omega) hc hc')
  cases h4 : collB rs (aboveL p)
  · have hcc : collI rs p v = 409 := by unfold collI; rw [if_neg (by simp [h1]), if_neg (by omega), if_pos h4]
    have HR := hide (fun W W' vv ts => REF.out W W' _ vv ts hcc (by decide))
    simp only [h4] at HI
    clear hcc REF HP h2 h4
    generalize findI rs p = F at *
    go_enter Tryz.func18, Tryz.ntmps18
    go_wp2_with fail
    refine HM.out.mono ?_
    rintro e w1 ⟨rfl, b1⟩
    have HF1 := hide (HF.out w1 b1)
    go_wp2_with fail
    refine HF1.out.mono ?_
    rintro e w2 ⟨rfl, b2'⟩
    have b2 := b1.trans (b2' w.heap.size)
    clear b2' HF1
    have HA1 := hide (HA.out w2 b2)
    go_wp2_with fail
    refine HA1.out.mono ?_
    rintro e w3 ⟨⟨g3, c3, rfl, _, _, r3⟩, b3'⟩
    have b3 := b2.trans (b3'.mono b2.size)
    have HI1 := hide (HI.out w3 g3 c3 r3 b3)
    clear b3' HA1 r3
    go_wp2_with fail
    refine HI1.out.mono ?_
    rintro e w4 ⟨rfl, b4'⟩
    have b4 := b3.trans (b4' w.heap.size)
    clear b4' HI1
    have HC1 := hide (HC.out w4 b4)
    go_wp2_with fail
    refine HC1.out.mono ?_
    rintro e wz ⟨⟨vv, ts, rfl, hg, hm⟩, bz⟩
    have T := hide (HR.out w4 wz vv ts b4 hg hm)
    have cz := b4.trans (bz.mono b4.size)
    clear hg hm bz HC1
    go_wp2
    go_ret2
    exact ⟨T.out, cz⟩
  simp only [h4] at HI
  by_cases h5 : 12 ≤ rs.length
  · have hcc : collI rs p v = 507 := by unfold collI; rw [if_neg (by simp [h1]), if_neg (by omega), if_neg (by simp [h4]), if_pos h5]
    have HR := hide (fun W W' vv ts => REF.out W W' _ vv ts hcc (by decide))
    clear hcc REF HP h2 h4
    generalize findI rs p = F at *
    go_enter Tryz.func18, Tryz.ntmps18
    go_wp2_with fail
    refine HM.out.mono ?_
    rintro e w1 ⟨rfl, b1⟩
    have HF1 := hide (HF.out w1 b1)
    go_wp2_with fail
    refine HF1.out.mono ?_
    rintro e w2 ⟨rfl, b2'⟩
    have b2 := b1.trans (b2' w.heap.size)
    clear b2' HF1
    have HA1 := hide (HA.out w2 b2)
    go_wp2_with fail
    refine HA1.out.mono ?_
    rintro e w3 ⟨⟨g3, c3, rfl, _, _, r3⟩, b3'⟩
    have b3 := b2.trans (b3'.mono b2.size)
    have HI1 := hide (HI.out w3 g3 c3 r3 b3)
    clear b3' HA1 r3
    go_wp2_with fail
    refine HI1.out.mono ?_
    rintro e w4 ⟨rfl, b4'⟩
    have b4 := b3.trans (b4' w.heap.size)
    clear b4' HI1
    have HC1 := hide (HC.out w4 b4)
    go_wp2_with fail
    refine HC1.out.mono ?_
    rintro e wz ⟨⟨vv, ts, rfl, hg, hm⟩, bz⟩
    have T := hide (HR.out w4 wz vv ts b4 hg hm)
    have cz := b4.trans (bz.mono b4.size)
    clear hg hm bz HC1
    go_wp2
    go_ret2
    exact ⟨T.out, cz⟩
  have hcc : collI rs p v = 0 := by unfold collI; rw [if_neg (by simp [h1]), if_neg (by omega), if_neg (by simp [h4]), if_neg h5]
  have HR := hide (fun (W W' : World) (vv : Value) (ts : List RsT) (hb : Below w.heap.size w W) (g : GrowR W' (W.heap.size + 1) vv ts W'.heap.size) (m : ts.map (·.r) = putR (shelfR p v) false rs) => show TurnIs w W' (.returned (.tuple #[vv, .int .i64 201])) (makeR rs p v) (codeM (collI rs p v) 201) from ⟨vv, ts, W.heap.size + 1, by have := hb.size; omega, by unfold codeM; rw [if_pos hcc], g, by unfold makeR; rw [if_pos hcc]; exact m⟩)
  clear hcc REF HC h2 h4
  have HP2 := hide (fun W (hb : Below w.heap.size w W) => show Calls Tryz.prog 30 #[.slice a rs.length cap, .agg #[.slice (some ⟨b2x, o2x, none⟩) p.length cap', .bool true, .string { data := #[] }, .int .i64 v, .slice none 0 0]] W _ from HP.out W hb)
  clear HP
  generalize findI rs p = F at *
  go_enter Tryz.func18, Tryz.ntmps18
  go_wp2_with fail
  refine HM.out.mono ?_
  rintro e w1 ⟨rfl, b1⟩
  have HF1 := hide (HF.out w1 b1)
  go_wp2_with fail
  refine HF1.out.mono ?_
  rintro e w2 ⟨rfl, b2'⟩
  have b2 := b1.trans (b2' w.heap.size)
  clear b2' HF1
  have HA1 := hide (HA.out w2 b2)
  go_wp2_with fail
  refine HA1.out.mono ?_
  rintro e w3 ⟨⟨g3, c3, rfl, _, _, r3⟩, b3'⟩
  have b3 := b2.trans (b3'.mono b2.size)
  have HI1 := hide (HI.out w3 g3 c3 r3 b3)
  clear b3' HA1 r3
  go_wp2_with fail
  refine HI1.out.mono ?_
  rintro e w4 ⟨rfl, b4'⟩
  have b4 := b3.trans (b4' w.heap.size)
  clear b4' HI1
  have HP3 := hide (HP2.out w4 b4)
  go_wp2_with fail
  refine HP3.out.mono ?_
  rintro e wz ⟨⟨vv, ts, rfl, hg, hm⟩, bz⟩
  have T := hide (HR.out w4 wz vv ts b4 hg hm)
  have cz := b4.trans (bz.mono b4.size)
  clear hg hm bz HP3
  go_wp2
  go_ret2
  exact ⟨T.out, cz⟩
end Go.Proofs.YtepdfppbnepamabGreat
namespace Go.Proofs.YtepdfppbnepamabGreat
open Go.RowKit M
set_option linter.unusedVariables false

theorem oldPs_at {rs : List Rs} {p : List ByteArray} (k : Nat) (hk : k < rs.length) (h : findI rs p = k) : oldPs rs p = rs[k].ps := by
  unfold findI at h
  by_cases h' : rs.findIdx (isAt p) < rs.length
  · rw [if_pos h'] at h
    have e : rs.findIdx (isAt p) = k := by omega
    unfold oldPs
    rw [find_of_findIdx h']
    simp [e]
  · rw [if_neg h'] at h; omega
theorem oldPs_none {rs : List Rs} {p : List ByteArray} (h : findI rs p < 0) : oldPs rs p = [] := by
  unfold findI at h
  by_cases h' : rs.findIdx (isAt p) < rs.length
  · rw [if_pos h'] at h; omega
  · unfold oldPs
    have : rs.find? (isAt p) = none := by
      rw [List.find?_eq_none]
      intro x hx hq
      exact h' (List.findIdx_lt_length_of_exists ⟨x, hx, hq⟩)
    rw [this]

set_option maxRecDepth 100000 in
set_option maxHeartbeats 4000000 in
theorem specPutFile_new (a : Option Addr) (rs : List Rs) (cap B : Nat) (b : Option Addr) (p : List ByteArray) (cap' : Nat) (bo : ByteArray) (v : Int) (w : World) (h : Rss w B a rs) (h' : Strs w B b p) (hB : B ≤ w.heap.size) (hs : ShortT rs) (hl : rs.length ≤ 1048576) (hlp : ∀ r ∈ rs, r.pa.length ≤ 1048576 ∧ r.ps.length ≤ 1048576) (hs' : Short p) (hl' : p.length ≤ 1048576) (hc : p.length ≤ cap') (hc' : cap' ≤ maxLen) (hn : b = none → cap' = 0) (hbo : bo.size ≤ maxLen) (hq : ¬ fileI rs p bo v = 0 ∨ findI rs p < 0) :
    Calls Tryz.prog 9 #[.slice a rs.length cap, .slice b p.length cap', .string bo, .int .i64 v] w fun e w' => TurnIs w w' e (putFR rs p bo v) (codeM (fileI rs p bo v) (okF (findI rs p))) ∧ Below w.heap.size w w' := by
  have hlm : rs.length ≤ maxLen := by unfold maxLen; omega
  have hlm' : p.length ≤ maxLen := by unfold maxLen; omega
  have hbo' := hbo
  unfold maxLen at hbo'
  have HM := hide (specMay_any a rs cap B b p cap' B v w h h' hB hB hs hlm (fun r hr => (hlp r hr).1) hs' hlm')
  have HF := hide (fun W (hb : Below w.heap.size w W) => specFind_any a rs cap B b p cap' B W (h.below hb hB) (h'.below hb hB) hlm hlm')
  have HJ := hide (fun W (hb : Below w.heap.size w W) => specIsColl_any a rs cap B b p cap' B W (h.below hb hB) (h'.below hb hB) hlm hlm')
  have HC := hide (fun W (hb : Below w.heap.size w W) => specCopyAll_any a rs cap B W (h.below hb hB) (Nat.le_trans hB hb.size) hl hlp)
  have HI := hide (fun W g c (x : RowS W g (aboveL p)) (hb : Below w.heap.size w W) => specIsColl_any a rs cap B (some ⟨g, 0, none⟩) (aboveL p) c W.heap.size W (h.below hb hB) (x.strs' x.1) hlm (by rw [aboveL_len]; unfold maxLen; omega))
  have REF := hide (fun (W W' : World) (c : Int) (vv : Value) (ts : List RsT) (hcc : fileI rs p bo v = c) (hne : ¬ c = 0) (hb : Below w.heap.size w W) (g : GrowR W' W.heap.size vv ts W'.heap.size) (m : ts.map (·.r) = rs) => show TurnIs w W' (.returned (.tuple #[vv, .int .i64 c])) (putFR rs p bo v) (codeM (fileI rs p bo v) (okF (findI rs p))) from ⟨vv, ts, W.heap.size, hb.size, by unfold codeM; rw [hcc, if_neg hne], g, by unfold putFR; rw [if_neg (by rw [hcc]; exact hne)]; exact m⟩)
  by_cases h1 : mayI rs p v = 0
  rotate_left
  · have hcc : fileI rs p bo v = mayI rs p v := by unfold fileI; rw [if_pos h1]
    have HR := hide (fun W W' vv ts => REF.out W W' _ vv ts hcc h1)
    clear hcc REF HI
    generalize mayI rs p v = M at *
    generalize findI rs p = F at *
    go_enter Tryz.func9, Tryz.ntmps9
    go_wp2_with fail
    refine HM.out.mono ?_
    rintro e w1 ⟨rfl, b1⟩
    have HF1 := hide (HF.out w1 b1)
    go_wp2_with fail
    refine HF1.out.mono ?_
    rintro e w2 ⟨rfl, b2'⟩
    have b2 := b1.trans (b2' w.heap.size)
    clear b2' HF1
    have HC1 := hide (HC.out w2 b2)
    go_wp2_with fail
    refine HC1.out.mono ?_
    rintro e wz ⟨⟨vv, ts, rfl, hg, hm⟩, bz⟩
    have T := hide (HR.out w2 wz vv ts b2 hg hm)
    have cz := b2.trans (bz.mono b2.size)
    clear hg hm bz HC1
    go_wp2
    go_ret2
    exact ⟨T.out, cz⟩
  rw [h1] at HM
  cases h2 : collB rs p
  rotate_left
  · have hcc : fileI rs p bo v = 405 := by unfold fileI; rw [if_neg (by simp [h1]), if_pos h2]
    have HR := hide (fun W W' vv ts => REF.out W W' _ vv ts hcc (by decide))
    clear hcc REF
    simp only [h2] at HJ
    clear HI h2
    generalize findI rs p = F at *
    go_enter Tryz.func9, Tryz.ntmps9
    go_wp2_with fail
    refine HM.out.mono ?_
    rintro e w1 ⟨rfl, b1⟩
    have HF1 := hide (HF.out w1 b1)
    go_wp2_with fail
    refine HF1.out.mono ?_
    rintro e w2 ⟨rfl, b2'⟩
    have b2 := b1.trans (b2' w.heap.size)
    clear b2' HF1
    have HJ1 := hide (HJ.out w2 b2)
    go_wp2_with fail
    refine HJ1.out.mono ?_
    rintro e w3 ⟨rfl, b3'⟩
    have b3 := b2.trans (b3' w.heap.size)
    clear b3' HJ1
    have HC1 := hide (HC.out w3 b3)
    go_wp2_with fail
    refine HC1.out.mono ?_
    rintro e wz ⟨⟨vv, ts, rfl, hg, hm⟩, bz⟩
    have T := hide (HR.out w3 wz vv ts b3 hg hm)
    have cz := b3.trans (bz.mono b3.size)
    clear hg hm bz HC1
    go_wp2
    go_ret2
    exact ⟨T.out, cz⟩
  simp only [h2] at HJ
  have h0 : 0 < p.length := by
    refine Nat.pos_of_ne_zero fun e => ?_
    rw [collB_root e] at h2
    cases h2
  obtain ⟨b2x, o2x, rfl, _, _⟩ := h' h0
  have HA := hide (fun W (hb : Below w.heap.size w W) => specAboveT_any b2x o2x p cap' B W (h'.below hb hB) (Nat.le_trans hB hb.size) hl' h0 hc hc')
  cases h4 : collB rs (aboveL p)
  · have hcc : fileI rs p bo v = 409 := by unfold fileI; rw [if_neg (by simp [h1]), if_neg (by simp [h2]), if_pos h4]
    have HR := hide (fun W W' vv ts => REF.out W W' _ vv ts hcc (by decide))
    clear hcc REF
    simp only [h4] at HI
    clear h2 h4
    generalize findI rs p = F at *
    go_enter Tryz.func9, Tryz.ntmps9
    go_wp2_with fail
    refine HM.out.mono ?_
    rintro e w1 ⟨rfl, b1⟩
    have HF1 := hide (HF.out w1 b1)
    go_wp2_with fail
    refine HF1.out.mono ?_
    rintro e w2 ⟨rfl, b2'⟩
    have b2 := b1.trans (b2' w.heap.size)
    clear b2' HF1
    have HJ1 := hide (HJ.out w2 b2)
    go_wp2_with fail
    refine HJ1.out.mono ?_
    rintro e w3 ⟨rfl, b3'⟩
    have b3 := b2.trans (b3' w.heap.size)
    clear b3' HJ1
    have HA1 := hide (HA.out w3 b3)
    go_wp2_with fail
    refine HA1.out.mono ?_
    rintro e w4 ⟨⟨g4, c4, rfl, _, _, r4⟩, b4'⟩
    have b4 := b3.trans (b4'.mono b3.size)
    have HI1 := hide (HI.out w4 g4 c4 r4 b4)
    clear b4' HA1 r4
    go_wp2_with fail
    refine HI1.out.mono ?_
    rintro e w5 ⟨rfl, b5'⟩
    have b5 := b4.trans (b5' w.heap.size)
    clear b5' HI1
    have HC1 := hide (HC.out w5 b5)
    go_wp2_with fail
    refine HC1.out.mono ?_
    rintro e wz ⟨⟨vv, ts, rfl, hg, hm⟩, bz⟩
    have T := hide (HR.out w5 wz vv ts b5 hg hm)
    have cz := b5.trans (bz.mono b5.size)
    clear hg hm bz HC1
    go_wp2
    go_ret2
    exact ⟨T.out, cz⟩
  simp only [h4] at HI
  by_cases h5 : 200 < bo.size
  · have hcc : fileI rs p bo v = 413 := by unfold fileI; rw [if_neg (by simp [h1]), if_neg (by simp [h2]), if_neg (by simp [h4]), if_pos h5]
    have HR := hide (fun W W' vv ts => REF.out W W' _ vv ts hcc (by decide))
    clear hcc REF
    clear h2 h4
    generalize findI rs p = F at *
    go_enter Tryz.func9, Tryz.ntmps9
    go_wp2_with fail
    refine HM.out.mono ?_
    rintro e w1 ⟨rfl, b1⟩
    have HF1 := hide (HF.out w1 b1)
    go_wp2_with fail
    refine HF1.out.mono ?_
    rintro e w2 ⟨rfl, b2'⟩
    have b2 := b1.trans (b2' w.heap.size)
    clear b2' HF1
    have HJ1 := hide (HJ.out w2 b2)
    go_wp2_with fail
    refine HJ1.out.mono ?_
    rintro e w3 ⟨rfl, b3'⟩
    have b3 := b2.trans (b3' w.heap.size)
    clear b3' HJ1
    have HA1 := hide (HA.out w3 b3)
    go_wp2_with fail
    refine HA1.out.mono ?_
    rintro e w4 ⟨⟨g4, c4, rfl, _, _, r4⟩, b4'⟩
    have b4 := b3.trans (b4'.mono b3.size)
    have HI1 := hide (HI.out w4 g4 c4 r4 b4)
    clear b4' HA1 r4
    go_wp2_with fail
    refine HI1.out.mono ?_
    rintro e w5 ⟨rfl, b5'⟩
    have b5 := b4.trans (b5' w.heap.size)
    clear b5' HI1
    have HC1 := hide (HC.out w5 b5)
    go_wp2_with fail
    refine HC1.out.mono ?_
    rintro e wz ⟨⟨vv, ts, rfl, hg, hm⟩, bz⟩
    have T := hide (HR.out w5 wz vv ts b5 hg hm)
    have cz := b5.trans (bz.mono b5.size)
    clear hg hm bz HC1
    go_wp2
    go_ret2
    exact ⟨T.out, cz⟩
  by_cases h6 : findI rs p < 0
  · by_cases h7 : 12 ≤ rs.length
    · have hcc : fileI rs p bo v = 507 := by unfold fileI; rw [if_neg (by simp [h1]), if_neg (by simp [h2]), if_neg (by simp [h4]), if_neg h5, if_pos ⟨h6, h7⟩]
      have HR := hide (fun W W' vv ts => REF.out W W' _ vv ts hcc (by decide))
      clear hcc REF
      clear h2 h4
      generalize findI rs p = F at *
      go_enter Tryz.func9, Tryz.ntmps9
      go_wp2_with fail
      refine HM.out.mono ?_
      rintro e w1 ⟨rfl, b1⟩
      have HF1 := hide (HF.out w1 b1)
      go_wp2_with fail
      refine HF1.out.mono ?_
      rintro e w2 ⟨rfl, b2'⟩
      have b2 := b1.trans (b2' w.heap.size)
      clear b2' HF1
      have HJ1 := hide (HJ.out w2 b2)
      go_wp2_with fail
      refine HJ1.out.mono ?_
      rintro e w3 ⟨rfl, b3'⟩
      have b3 := b2.trans (b3' w.heap.size)
      clear b3' HJ1
      have HA1 := hide (HA.out w3 b3)
      go_wp2_with fail
      refine HA1.out.mono ?_
      rintro e w4 ⟨⟨g4, c4, rfl, _, _, r4⟩, b4'⟩
      have b4 := b3.trans (b4'.mono b3.size)
      have HI1 := hide (HI.out w4 g4 c4 r4 b4)
      clear b4' HA1 r4
      go_wp2_with fail
      refine HI1.out.mono ?_
      rintro e w5 ⟨rfl, b5'⟩
      have b5 := b4.trans (b5' w.heap.size)
      clear b5' HI1
      have HC1 := hide (HC.out w5 b5)
      go_wp2_with fail
      refine HC1.out.mono ?_
      rintro e wz ⟨⟨vv, ts, rfl, hg, hm⟩, bz⟩
      have T := hide (HR.out w5 wz vv ts b5 hg hm)
      have cz := b5.trans (bz.mono b5.size)
      clear hg hm bz HC1
      go_wp2
      go_ret2
      exact ⟨T.out, cz⟩
    · have hcc : fileI rs p bo v = 0 := by unfold fileI; rw [if_neg (by simp [h1]), if_neg (by simp [h2]), if_neg (by simp [h4]), if_neg h5, if_neg (fun x => h7 x.2)]
      have hfr : fileR rs p bo v = ⟨p, false, bo, v, []⟩ := by unfold fileR; rw [oldPs_none h6]
      have HR := hide (fun (W W' : World) (vv : Value) (ts : List RsT) (hb : Below w.heap.size w W) (g : GrowR W' (W.heap.size + 1) vv ts W'.heap.size) (m : ts.map (·.r) = putR ⟨p, false, bo, v, []⟩ false rs) => show TurnIs w W' (.returned (.tuple #[vv, .int .i64 201])) (putFR rs p bo v) (codeM (fileI rs p bo v) (okF (findI rs p))) from ⟨vv, ts, W.heap.size + 1, by have := hb.size; omega, by unfold codeM; rw [if_pos hcc, okF_new h6], g, by unfold putFR; rw [if_pos hcc, hfr]; exact m⟩)
      have HP2 := hide (fun W (hb : Below w.heap.size w W) => show Calls Tryz.prog 30 #[.slice a rs.length cap, .agg #[.slice (some ⟨b2x, o2x, none⟩) p.length cap', .bool false, .string bo, .int .i64 v, .slice none 0 0]] W _ from specPutR_any a rs cap B W ⟨p, false, bo, v, []⟩ (some ⟨b2x, o2x, none⟩) cap' none 0 (h.below hb hB) ⟨h'.below hb hB, Pps.nil _ _ _, hc, Nat.le_refl _, hc', Nat.zero_le _, hn, fun _ => rfl⟩ (Nat.le_trans hB hb.size) hl hlp ⟨hl', Nat.zero_le _⟩)
      clear hcc REF HC h2 h4 hfr
      generalize findI rs p = F at *
      go_enter Tryz.func9, Tryz.ntmps9
      go_wp2_with fail
      refine HM.out.mono ?_
      rintro e w1 ⟨rfl, b1⟩
      have HF1 := hide (HF.out w1 b1)
      go_wp2_with fail
      refine HF1.out.mono ?_
      rintro e w2 ⟨rfl, b2'⟩
      have b2 := b1.trans (b2' w.heap.size)
      clear b2' HF1
      have HJ1 := hide (HJ.out w2 b2)
      go_wp2_with fail
      refine HJ1.out.mono ?_
      rintro e w3 ⟨rfl, b3'⟩
      have b3 := b2.trans (b3' w.heap.size)
      clear b3' HJ1
      have HA1 := hide (HA.out w3 b3)
      go_wp2_with fail
      refine HA1.out.mono ?_
      rintro e w4 ⟨⟨g4, c4, rfl, _, _, r4⟩, b4'⟩
      have b4 := b3.trans (b4'.mono b3.size)
      have HI1 := hide (HI.out w4 g4 c4 r4 b4)
      clear b4' HA1 r4
      go_wp2_with fail
      refine HI1.out.mono ?_
      rintro e w5 ⟨rfl, b5'⟩
      have b5 := b4.trans (b5' w.heap.size)
      clear b5' HI1
      have b6 := b5.alloc b5.size (Obj.cells #[.slice (some ⟨b2x, o2x, none⟩) p.length cap', .bool false, .string bo, .int .i64 v, .slice none 0 0] 49)
      have HP3 := hide (HP2.out _ b6)
      have B6 := hide b6
      clear b6
      go_wp2_with fail
      refine HP3.out.mono ?_
      rintro e wz ⟨⟨vv, ts, rfl, hg, hm⟩, bz⟩
      have T := hide (HR.out _ wz vv ts B6.out hg hm)
      have cz := B6.out.trans (bz.mono B6.out.size)
      clear hg hm bz HP3
      go_wp2
      go_ret2
      exact ⟨T.out, cz⟩
  · exfalso
    rcases hq with hq | hq
    · exact hq (by unfold fileI; rw [if_neg (by simp [h1]), if_neg (by simp [h2]), if_neg (by simp [h4]), if_neg h5, if_neg (fun x => h6 x.1)])
    · exact h6 hq
end Go.Proofs.YtepdfppbnepamabGreat
namespace Go.Proofs.YtepdfppbnepamabGreat
open Go.RowKit M
set_option linter.unusedVariables false

set_option maxRecDepth 100000 in
set_option maxHeartbeats 4000000 in
theorem specPutFile_old (a : Option Addr) (rs : List Rs) (cap B : Nat) (b : Option Addr) (p : List ByteArray) (cap' : Nat) (bo : ByteArray) (v : Int) (w : World) (h : Rss w B a rs) (h' : Strs w B b p) (hB : B ≤ w.heap.size) (hs : ShortT rs) (hl : rs.length ≤ 1048576) (hlp : ∀ r ∈ rs, r.pa.length ≤ 1048576 ∧ r.ps.length ≤ 1048576) (hs' : Short p) (hl' : p.length ≤ 1048576) (hc : p.length ≤ cap') (hc' : cap' ≤ maxLen) (hn : b = none → cap' = 0) (hbo : bo.size ≤ maxLen) (hcc : fileI rs p bo v = 0) (h6 : ¬ findI rs p < 0) :
    Calls Tryz.prog 9 #[.slice a rs.length cap, .slice b p.length cap', .string bo, .int .i64 v] w fun e w' => TurnIs w w' e (putFR rs p bo v) (codeM (fileI rs p bo v) (okF (findI rs p))) ∧ Below w.heap.size w w' := by
  have hlm : rs.length ≤ maxLen := by unfold maxLen; omega
  have hlm' : p.length ≤ maxLen := by unfold maxLen; omega
  have hbo' := hbo
  unfold maxLen at hbo'
  have HM := hide (specMay_any a rs cap B b p cap' B v w h h' hB hB hs hlm (fun r hr => (hlp r hr).1) hs' hlm')
  have HF := hide (fun W (hb : Below w.heap.size w W) => specFind_any a rs cap B b p cap' B W (h.below hb hB) (h'.below hb hB) hlm hlm')
  have HJ := hide (fun W (hb : Below w.heap.size w W) => specIsColl_any a rs cap B b p cap' B W (h.below hb hB) (h'.below hb hB) hlm hlm')
  have HI := hide (fun W g c (x : RowS W g (aboveL p)) (hb : Below w.heap.size w W) => specIsColl_any a rs cap B (some ⟨g, 0, none⟩) (aboveL p) c W.heap.size W (h.below hb hB) (x.strs' x.1) hlm (by rw [aboveL_len]; unfold maxLen; omega))
  have h1 : mayI rs p v = 0 := by
    refine Classical.byContradiction fun e => ?_
    unfold fileI at hcc; rw [if_pos e] at hcc; exact e hcc
  have h2 : collB rs p = false := by
    cases e : collB rs p
    · rfl
    · unfold fileI at hcc; rw [if_neg (by simp [h1]), if_pos e] at hcc; exact absurd hcc (by decide)
  have h4 : collB rs (aboveL p) = true := by
    cases e : collB rs (aboveL p)
    · unfold fileI at hcc; rw [if_neg (by simp [h1]), if_neg (by simp [h2]), if_pos e] at hcc; exact absurd hcc (by decide)
    · rfl
  have h5 : ¬ 200 < bo.size := fun e => by
    unfold fileI at hcc; rw [if_neg (by simp [h1]), if_neg (by simp [h2]), if_neg (by simp [h4]), if_pos e] at hcc; exact absurd hcc (by decide)
  rw [h1] at HM
  simp only [h2] at HJ
  simp only [h4] at HI
  have h0 : 0 < p.length := by
    refine Nat.pos_of_ne_zero fun e => ?_
    rw [collB_root e] at h2
    cases h2
  obtain ⟨b2x, o2x, rfl, _, _⟩ := h' h0
  have HA := hide (fun W (hb : Below w.heap.size w W) => specAboveT_any b2x o2x p cap' B W (h'.below hb hB) (Nat.le_trans hB hb.size) hl' h0 hc hc')
  obtain ⟨k, hk, hfk⟩ : ∃ k, ∃ hk : k < rs.length, findI rs p = (k : Nat) := by
    rcases findI_cases rs p with e | ⟨k, hk, e, _⟩
    · exact absurd (by omega) h6
    · exact ⟨k, hk, e⟩
  have hfr : fileR rs p bo v = ⟨p, false, bo, v, rs[k].ps⟩ := by unfold fileR; rw [oldPs_at k hk hfk]
  have hlk := hlp _ (List.getElem_mem hk)
  obtain ⟨ba, oa, rfl, hba, hcells⟩ := h (by omega)
  obtain ⟨pa, pc, qa, qc, hat, hin⟩ := hcells k hk
  clear hcells
  have HAT := hide (fun W (hb : Below w.heap.size w W) => hat.of (w' := W) (fun o' => hb.cell (p := ⟨ba, o', none⟩) (Nat.lt_of_lt_of_le hba hB)))
  have HR := hide (fun (W W' : World) (vv : Value) (ts : List RsT) (hb : Below w.heap.size w W) (g : GrowR W' (W.heap.size + 1) vv ts W'.heap.size) (m : ts.map (·.r) = putR ⟨p, false, bo, v, rs[k].ps⟩ false rs) => show TurnIs w W' (.returned (.tuple #[vv, .int .i64 204])) (putFR rs p bo v) (codeM (fileI rs p bo v) (okF (findI rs p))) from ⟨vv, ts, W.heap.size + 1, by have := hb.size; omega, by unfold codeM; rw [if_pos hcc, okF_old h6], g, by unfold putFR; rw [if_pos hcc, hfr]; exact m⟩)
  have HP2 := hide (fun W (hb : Below w.heap.size w W) => show Calls Tryz.prog 30 #[.slice (some ⟨ba, oa, none⟩) rs.length cap, .agg #[.slice (some ⟨b2x, o2x, none⟩) p.length cap', .bool false, .string bo, .int .i64 v, .slice qa rs[k].ps.length qc]] W _ from specPutR_any (some ⟨ba, oa, none⟩) rs cap B W ⟨p, false, bo, v, rs[k].ps⟩ (some ⟨b2x, o2x, none⟩) cap' qa qc (h.below hb hB) ⟨h'.below hb hB, (hin.below hb hB).qh, hc, hin.ql, hc', hin.qm, hn, hin.qn⟩ (Nat.le_trans hB hb.size) hl hlp ⟨hl', hlk.2⟩)
  clear hcc h2 h4 hfr hin hat
  rw [hfk] at HF
  have HF' := hide (fun W hb => HF.out W hb)
  go_enter Tryz.func9, Tryz.ntmps9
  go_wp2_with fail
  refine HM.out.mono ?_
  rintro e w1 ⟨rfl, b1⟩
  have HF1 := hide (HF.out w1 b1)
  go_wp2_with fail
  refine HF1.out.mono ?_
  rintro e w2 ⟨rfl, b2'⟩
  have b2 := b1.trans (b2' w.heap.size)
  clear b2' HF1
  have HJ1 := hide (HJ.out w2 b2)
  go_wp2_with fail
  refine HJ1.out.mono ?_
  rintro e w3 ⟨rfl, b3'⟩
  have b3 := b2.trans (b3' w.heap.size)
  clear b3' HJ1
  have HA1 := hide (HA.out w3 b3)
  go_wp2_with fail
  refine HA1.out.mono ?_
  rintro e w4 ⟨⟨g4, c4, rfl, _, _, r4⟩, b4'⟩
  have b4 := b3.trans (b4'.mono b3.size)
  have HI1 := hide (HI.out w4 g4 c4 r4 b4)
  clear b4' HA1 r4
  go_wp2_with fail
  refine HI1.out.mono ?_
  rintro e w5 ⟨rfl, b5'⟩
  have b5 := b4.trans (b5' w.heap.size)
  clear b5' HI1
  have b6 := b5.alloc b5.size (Obj.cells #[.slice (some ⟨b2x, o2x, none⟩) p.length cap', .bool false, .string bo, .int .i64 v, .slice none 0 0] 49)
  have c4' := (HAT.out _ b6).2.2.2.2
  have b7 := b5.alloc b5.size (Obj.cells #[.slice (some ⟨b2x, o2x, none⟩) p.length cap', .bool false, .string bo, .int .i64 v, .slice qa rs[k].ps.length qc] 49)
  have HP3 := hide (HP2.out _ b7)
  have B6 := hide b7
  clear b6 b7
  go_wp2_with fail
  refine HP3.out.mono ?_
  rintro e wz ⟨⟨vv, ts, rfl, hg, hm⟩, bz⟩
  have T := hide (HR.out _ wz vv ts B6.out hg hm)
  have cz := B6.out.trans (bz.mono B6.out.size)
  clear hg hm bz HP3
  go_wp2
  go_ret2
  exact ⟨T.out, cz⟩

theorem specPutFile_any (a : Option Addr) (rs : List Rs) (cap B : Nat) (b : Option Addr) (p : List ByteArray) (cap' : Nat) (bo : ByteArray) (v : Int) (w : World) (h : Rss w B a rs) (h' : Strs w B b p) (hB : B ≤ w.heap.size) (hs : ShortT rs) (hl : rs.length ≤ 1048576) (hlp : ∀ r ∈ rs, r.pa.length ≤ 1048576 ∧ r.ps.length ≤ 1048576) (hs' : Short p) (hl' : p.length ≤ 1048576) (hc : p.length ≤ cap') (hc' : cap' ≤ maxLen) (hn : b = none → cap' = 0) (hbo : bo.size ≤ maxLen) :
    Calls Tryz.prog 9 #[.slice a rs.length cap, .slice b p.length cap', .string bo, .int .i64 v] w fun e w' => TurnIs w w' e (putFR rs p bo v) (codeM (fileI rs p bo v) (okF (findI rs p))) ∧ Below w.heap.size w w' := by
  by_cases h6 : findI rs p < 0
  · exact specPutFile_new a rs cap B b p cap' bo v w h h' hB hs hl hlp hs' hl' hc hc' hn hbo (.inr h6)
  by_cases hcc : fileI rs p bo v = 0
  · exact specPutFile_old a rs cap B b p cap' bo v w h h' hB hs hl hlp hs' hl' hc hc' hn hbo hcc h6
  · exact specPutFile_new a rs cap B b p cap' bo v w h h' hB hs hl hlp hs' hl' hc hc' hn hbo (.inl hcc)
end Go.Proofs.YtepdfppbnepamabGreat
namespace Go.Proofs.YtepdfppbnepamabGreat
open Go.RowKit M
set_option linter.unusedVariables false

set_option maxHeartbeats 1000000 in
theorem szProp_any (x y z : ByteArray) (left : Nat) (w : World) (h1 : x.size ≤ maxLen) (h2 : y.size ≤ maxLen) (h3 : z.size ≤ maxLen) (hleft : left ≤ 1048576) :
    Calls Tryz.prog 71 #[.agg #[.string x, .string y, .string z], .int .i64 left] w fun e w' => (∃ v : Int, e = .returned (.int .i64 v) ∧ (v < 0 ∨ ∃ m : Nat, v = m ∧ x.size + y.size + z.size + m = left)) ∧ Below w.heap.size w w' := by
  unfold maxLen at h1 h2 h3
  have hb0 : Below w.heap.size w (w.alloc (Obj.cells #[.string x, .string y, .string z] 84)) := (Below.refl _ _).alloc (Nat.le_refl _) _
  by_cases hx : left < x.size
  · go_enter Tryz.func71, Tryz.ntmps71
    go_wp2
    go_ret
    exact ⟨⟨_, rfl, .inl (by omega)⟩, hb0⟩
  · by_cases hy : left < x.size + y.size
    · go_enter Tryz.func71, Tryz.ntmps71
      go_wp2
      go_ret
      exact ⟨⟨_, rfl, .inl (by omega)⟩, hb0⟩
    · by_cases hv : left < x.size + y.size + z.size
      · go_enter Tryz.func71, Tryz.ntmps71
        go_wp2
        go_ret
        exact ⟨⟨_, rfl, .inl (by omega)⟩, hb0⟩
      · go_enter Tryz.func71, Tryz.ntmps71
        go_wp2
        go_ret
        exact ⟨⟨_, rfl, .inr ⟨left - x.size - y.size - z.size, by omega, by omega⟩⟩, hb0⟩

set_option maxHeartbeats 1000000 in
theorem szPropS_any (a : Option Addr) (ps : List Pp) (cap B left : Nat) (w : World) (h : Pps w B a ps) (hB : B ≤ w.heap.size) (hsh : ShortPs ps) (hl : ps.length ≤ maxLen) (hleft : left ≤ 1048576) :
    Calls Tryz.prog 46 #[.slice a ps.length cap, .int .i64 left] w fun e w' => (∃ z : Int, e = .returned (.int .i64 z) ∧ (z < 0 ∨ ∃ m : Nat, z = m ∧ ps.length + sumP ps + m = left)) ∧ Below w.heap.size w w' := by
  unfold maxLen at hl
  by_cases hlt0 : left < ps.length
  · go_enter Tryz.func46, Tryz.ntmps46
    go_wp2
    go_ret
    exact ⟨⟨_, rfl, .inl (by omega)⟩, Below.refl _ _⟩
  · go_enter Tryz.func46, Tryz.ntmps46
    go_wp2
    go_loopw [1, 5] (fun l i wr => ∃ k m : Nat, k ≤ ps.length ∧ i = .int .i64 k ∧ l = .int .i64 m ∧ ps.length + sumP (ps.take k) + m = left ∧ Below w.heap.size w wr) (fun _ i _ => ps.length - (intOf i).toNat)
    case atStart => exact ⟨0, left - ps.length, Nat.zero_le _, rfl, by congr 1; omega, by simp [sumP]; omega, Below.refl _ _⟩
    case round =>
      obtain ⟨k, m, hk, rfl, rfl, hm, hbe⟩ := hrel
      by_cases hlt : k < ps.length
      · obtain ⟨b, o, rfl, hb, hc⟩ := (h.below hbe hB) (by omega)
        obtain ⟨hcx, hcy, hcz⟩ := hc k hlt
        have hsz := hsh.at k hlt
        have HS2 := hide (sumP_snoc ps k hlt)
        have HM : Hid (ps.length + sumP (ps.take k) + m = left) := hm
        clear hm
        have hm1 : m ≤ 1048576 := by have := HM.out; omega
        go_wp2_with fail
        refine (szProp_any ps[k].1 ps[k].2.1 ps[k].2.2 m wr hsz.1 hsz.2.1 hsz.2.2 hm1).mono ?_
        rintro e w1 ⟨⟨z, rfl, hz⟩, hb1⟩
        have c1 := hbe.trans (hb1.mono hbe.size)
        rcases hz with hz | ⟨m', rfl, hm'⟩
        · go_wp2
          go_ret
          exact ⟨⟨_, rfl, .inl (by omega)⟩, c1⟩
        · have HM' : Hid ((ps[k]).1.size + (ps[k]).2.1.size + (ps[k]).2.2.size + m' = m) := hm'
          clear hm'
          go_wp2
          go_roundw
          case rel => exact ⟨k + 1, m', by omega, by go_num, rfl, by rw [HS2.out]; have := HM.out; have := HM'.out; unfold szP; omega, c1⟩
          case measure => simp [intOf]; omega
      · go_wp2
        go_ret
        exact ⟨⟨m, rfl, .inr ⟨m, rfl, by rw [List.take_of_length_le (by omega)] at hm; exact hm⟩⟩, hbe⟩

set_option maxHeartbeats 400000 in
theorem toProp_any (x y z : ByteArray) (w : World) :
    Calls Tryz.prog 74 #[.agg #[.string x, .string y, .string z]] w fun e w' => e = .returned (.agg #[.string x, .string y, .string z]) ∧ Below w.heap.size w w' := by
  go_enter Tryz.func74, Tryz.ntmps74
  go_wp2
  exact bodyPost_ret (v := .agg #[.string x, .string y, .string z]) (by simp [results, Tryz.results74, go_sem]) rfl ⟨rfl, (((Below.refl _ _).alloc (Nat.le_refl _) _).alloc (by simp) _).alloc (by simp; omega) _⟩

set_option maxHeartbeats 1000000 in
theorem toPropS_any (a : Option Addr) (ps : List Pp) (cap B : Nat) (w : World) (h : Pps w B a ps) (hB : B ≤ w.heap.size) (hl : ps.length ≤ 1048576) :
    Calls Tryz.prog 53 #[.slice a ps.length cap] w fun e w' => e = .returned (.slice (some ⟨w.heap.size, 0, none⟩) ps.length ps.length) ∧ RowP w' w.heap.size ps ∧ Below w.heap.size w w' := by
  have hmk := run_make_props ps.length hl w
  go_enter Tryz.func53, Tryz.ntmps53
  go_wp2
  clear hmk
  go_loopw [4] (fun i wr => ∃ k : Nat, k ≤ ps.length ∧ i = .int .i64 k ∧ MadeP wr w.heap.size ps k ∧ Below w.heap.size w wr) (fun i _ => ps.length - (intOf i).toNat)
  case atStart => exact ⟨0, Nat.zero_le _, rfl, MadeP.start w ps, (Below.refl _ _).alloc (Nat.le_refl _) _⟩
  case round =>
    obtain ⟨k, hk, rfl, hrow, hbe⟩ := hrel
    by_cases hlt : k < ps.length
    · obtain ⟨b, o, rfl, hb, hc⟩ := (h.below hbe hB) (by omega)
      obtain ⟨hcx, hcy, hcz⟩ := hc k hlt
      clear hc
      go_wp2_with fail
      refine (toProp_any ps[k].1 ps[k].2.1 ps[k].2.2 wr).mono ?_
      rintro e w1 ⟨rfl, hb1⟩
      have c1 := hbe.trans (hb1.mono hbe.size)
      have hrow1 := hrow.below hb1
      obtain ⟨v0, v1, v2, hd0, hd1, hd2, hf0, hf1, hf2⟩ := hrow1.cells hlt
      have HR := hide (hrow1.next hlt)
      clear hrow1 hrow
      go_wp2
      go_roundw
      case rel => exact ⟨k + 1, by omega, by go_num, HR.out, ((c1.setCell (Nat.le_refl _) _).setCell (Nat.le_refl _) _).setCell (Nat.le_refl _) _⟩
      case measure => simp [intOf]; omega
    · go_wp2
      go_ret
      exact ⟨rfl, hrow.done hlt, hbe⟩
end Go.Proofs.YtepdfppbnepamabGreat
namespace Go.Proofs.YtepdfppbnepamabGreat
open Go.RowKit
set_option linter.unusedVariables false

set_option maxHeartbeats 400000 in
theorem szStringS_any (a : Option Addr) (ss : List ByteArray) (cap B left : Nat) (w : World) (h : Strs w B a ss) (hs : Short ss) (hl : ss.length ≤ maxLen) (hleft : left ≤ 1048576) :
    Calls Tryz.prog 8 #[.slice a ss.length cap, .int .i64 left] w fun e w' => (∃ z : Int, e = .returned (.int .i64 z) ∧ (z < 0 ∨ ∃ m : Nat, z = m ∧ ss.length + sumS ss + m = left)) ∧ w' = w := by
  unfold maxLen at hl
  by_cases hlt0 : left < ss.length
  · go_enter Tryz.func8, Tryz.ntmps8
    go_wp2
    go_ret
    exact ⟨⟨_, rfl, .inl (by omega)⟩, rfl⟩
  · go_enter Tryz.func8, Tryz.ntmps8
    go_wp2
    go_loop [1, 5] (fun l i => ∃ k m : Nat, k ≤ ss.length ∧ i = .int .i64 k ∧ l = .int .i64 m ∧ ss.length + sumS (ss.take k) + m = left) (fun _ i => ss.length - (intOf i).toNat)
    case atStart => exact ⟨0, left - ss.length, Nat.zero_le _, rfl, by congr 1; omega, by simp [sumS]; omega⟩
    case round =>
      obtain ⟨k, m, hk, rfl, rfl, hm⟩ := hrel
      by_cases hlt : k < ss.length
      · obtain ⟨b, o, rfl, hb, hc⟩ := h (by omega)
        have hcx := hc k hlt
        have hsz := hs.at k hlt
        unfold maxLen at hsz
        have HS := sumS_snoc ss k hlt
        by_cases hm2 : m < (ss[k]).size
        · go_wp2
          go_ret
          exact ⟨⟨_, rfl, .inl (by omega)⟩, rfl⟩
        · go_wp2
          go_round
          case rel => exact ⟨k + 1, m - (ss[k]).size, by omega, by go_num, by congr 1; omega, by omega⟩
          case measure => simp [intOf]; omega
      · go_wp2
        go_ret
        exact ⟨⟨m, rfl, .inr ⟨m, rfl, by rw [← sumS_all ss k hlt]; simpa [sumS_all ss k hlt] using hm⟩⟩, rfl⟩

set_option maxHeartbeats 400000 in
theorem toStringS_any (a : Option Addr) (ss : List ByteArray) (cap B : Nat) (w : World) (h : Strs w B a ss) (hB : B ≤ w.heap.size) (hl : ss.length ≤ 1048576) :
    Calls Tryz.prog 11 #[.slice a ss.length cap] w fun e w' => e = .returned (.slice (some ⟨w.heap.size, 0, none⟩) ss.length ss.length) ∧ Strs w' (w.heap.size + 1) (some ⟨w.heap.size, 0, none⟩) ss ∧ Below w.heap.size w w' ∧ w.heap.size < w'.heap.size := by
  have hmk := run_make_row' (P := Tryz.prog) 23 9 (.string ByteArray.empty) 16 Tryz.underlying23 info_str rfl .i64 .i64 ss.length (by omega) (by omega) w
  go_enter Tryz.func11, Tryz.ntmps11
  go_wp2
  clear hmk
  go_loopw [4] (fun i wr => ∃ k : Nat, k ≤ ss.length ∧ i = .int .i64 k ∧ wr.rowIs w.heap.size 9 ss.length (fun j => if j < k then .string (ss.getD j ByteArray.empty) else .string ByteArray.empty) ∧ Below w.heap.size w wr) (fun i _ => ss.length - (intOf i).toNat)
  case atStart => exact ⟨0, Nat.zero_le _, rfl, (World.rowIs_made w _ _ _).congr (fun i _ => by simp), (Below.refl _ _).alloc (Nat.le_refl _) _⟩
  case round =>
    obtain ⟨k, hk, rfl, hrow, hbe⟩ := hrel
    by_cases hlt : k < ss.length
    · obtain ⟨b, o, rfl, hb, hc⟩ := h (by omega)
      have hcx := (hbe.cell (p := ⟨b, o + k, none⟩) (Nat.lt_of_lt_of_le hb hB)).trans (hc k hlt)
      have hcn := hrow.cell hlt
      have hfn := hrow.frozen k
      have hrow2 := (hrow.set k (.string ss[k])).congr (g := fun j => if j < k + 1 then .string (ss.getD j ByteArray.empty) else .string ByteArray.empty) (fun j hj => by
        by_cases e : j = k
        · subst e; simp [List.getD, List.getElem?_eq_getElem hlt]
        · simp only [e, if_false]
          by_cases e2 : j < k
          · rw [if_pos e2, if_pos (by omega)]
          · rw [if_neg e2, if_neg (by omega)])
      have HR : Hid _ := hrow2
      clear hrow2
      go_wp2
      go_roundw
      case rel => exact ⟨k + 1, by omega, by go_num, HR.out, hbe.setCell (Nat.le_refl _) _⟩
      case measure => simp [intOf]; omega
    · go_wp2
      go_ret
      exact ⟨rfl, Strs.row hrow (Nat.le_refl _) (fun j hj => by rw [if_pos (by omega)]; simp [List.getD, List.getElem?_eq_getElem hj]) (Nat.lt_succ_self _), hbe, hrow.lt⟩

end Go.Proofs.YtepdfppbnepamabGreat
namespace Go.Proofs.YtepdfppbnepamabGreat
open Go.RowKit
set_option linter.unusedVariables false

set_option maxHeartbeats 400000 in
theorem toStringS_row (a : Option Addr) (ss : List ByteArray) (cap B : Nat) (w : World) (h : Strs w B a ss) (hB : B ≤ w.heap.size) (hl : ss.length ≤ 1048576) :
    Calls Tryz.prog 11 #[.slice a ss.length cap] w fun e w' => e = .returned (.slice (some ⟨w.heap.size, 0, none⟩) ss.length ss.length) ∧ RowS w' w.heap.size ss ∧ Below w.heap.size w w' := by
  have hmk := run_make_row' (P := Tryz.prog) 23 9 (.string ByteArray.empty) 16 Tryz.underlying23 info_str rfl .i64 .i64 ss.length (by omega) (by omega) w
  go_enter Tryz.func11, Tryz.ntmps11
  go_wp2
  clear hmk
  go_loopw [4] (fun i wr => ∃ k : Nat, k ≤ ss.length ∧ i = .int .i64 k ∧ wr.rowIs w.heap.size 9 ss.length (fun j => if j < k then .string (ss.getD j ByteArray.empty) else .string ByteArray.empty) ∧ Below w.heap.size w wr) (fun i _ => ss.length - (intOf i).toNat)
  case atStart => exact ⟨0, Nat.zero_le _, rfl, (World.rowIs_made w _ _ _).congr (fun i _ => by simp), (Below.refl _ _).alloc (Nat.le_refl _) _⟩
  case round =>
    obtain ⟨k, hk, rfl, hrow, hbe⟩ := hrel
    by_cases hlt : k < ss.length
    · obtain ⟨b, o, rfl, hb, hc⟩ := h (by omega)
      have hcx := (hbe.cell (p := ⟨b, o + k, none⟩) (Nat.lt_of_lt_of_le hb hB)).trans (hc k hlt)
      have hcn := hrow.cell hlt
      have hfn := hrow.frozen k
      have hrow2 := (hrow.set k (.string ss[k])).congr (g := fun j => if j < k + 1 then .string (ss.getD j ByteArray.empty) else .string ByteArray.empty) (fun j hj => by
        by_cases e : j = k
        · subst e; simp [List.getD, List.getElem?_eq_getElem hlt]
        · simp only [e, if_false]
          by_cases e2 : j < k
          · rw [if_pos e2, if_pos (by omega)]
          · rw [if_neg e2, if_neg (by omega)])
      have HR : Hid _ := hrow2
      clear hrow2
      go_wp2
      go_roundw
      case rel => exact ⟨k + 1, by omega, by go_num, HR.out, hbe.setCell (Nat.le_refl _) _⟩
      case measure => simp [intOf]; omega
    · go_wp2
      go_ret
      exact ⟨rfl, RowS.row hrow (Nat.le_refl _) (fun j hj => by rw [if_pos (by omega)]; simp [List.getD, List.getElem?_eq_getElem hj]), hbe⟩

end Go.Proofs.YtepdfppbnepamabGreat
namespace Go.Proofs.YtepdfppbnepamabGreat
open Go.RowKit M
set_option linter.unusedVariables false

theorem sumL_is (ss : List ByteArray) : sumL ss = sumS ss := rfl

set_option maxHeartbeats 1000000 in
theorem szRes_any (r : Rs) (pa : Option Addr) (pc : Nat) (qa : Option Addr) (qc B left : Nat) (w : World) (h : RsIn w B r pa pc qa qc) (hB : B ≤ w.heap.size) (hs : ShortRs r) (hleft : left ≤ 1048576) :
    Calls Tryz.prog 24 #[.agg #[.slice pa r.pa.length pc, .bool r.co, .string r.bo, .int .i64 r.ve, .slice qa r.ps.length qc], .int .i64 left] w fun e w' => (∃ z : Int, e = .returned (.int .i64 z) ∧ (z < 0 ∨ ∃ m : Nat, z = m ∧ szR r + m = left)) ∧ Below w.heap.size w w' := by
  have hbo := hs.bo
  unfold maxLen at hbo
  have h1 := h.ph
  have h2 := h.qh
  have s1 := hs.ps
  have s2 := hs.qs
  have l1 := hs.pl
  have l2 := hs.ql
  have HZ : Hid (szR r = r.pa.length + sumS r.pa + r.bo.size + (r.ps.length + sumP r.ps)) := rfl
  clear h hs
  obtain ⟨ss, co, bo, ve, ps⟩ := r
  simp only at *
  generalize szR ⟨ss, co, bo, ve, ps⟩ = Z at *
  have hb0 : Below w.heap.size w (w.alloc (.cells #[.slice pa ss.length pc, .bool co, .string bo, .int .i64 ve, .slice qa ps.length qc] 42)) := (Below.refl _ _).alloc (Nat.le_refl _) _
  have k1 := h1.below hb0 hB
  have k2 := h2.below hb0 hB
  have hB0 : B ≤ (w.alloc (.cells #[.slice pa ss.length pc, .bool co, .string bo, .int .i64 ve, .slice qa ps.length qc] 42)).heap.size := Nat.le_trans hB hb0.size
  have HS := hide (fun left hl => szStringS_any pa ss pc B left _ k1 s1 l1 hl)
  have HP := hide (fun left hl => szPropS_any qa ps qc B left _ k2 hB0 s2 l2 hl)
  have HB := hide hb0
  clear hb0 k1 k2 h1 h2
  go_enter Tryz.func24, Tryz.ntmps24
  go_wp2_with fail
  refine (HS.out left hleft).mono ?_
  rintro e w1 ⟨⟨z, rfl, hz⟩, hw⟩
  obtain rfl := hw
  rcases hz with hz | ⟨m, rfl, hm⟩
  · go_wp2
    go_ret
    exact ⟨⟨_, rfl, .inl (by omega)⟩, HB.out⟩
  by_cases hb : m < bo.size
  · have hm1 : m ≤ 1048576 := by omega
    go_wp2
    go_ret
    exact ⟨⟨_, rfl, .inl (by omega)⟩, HB.out⟩
  have hm1 : m ≤ 1048576 := by omega
  have HM := hide hm
  clear hm
  have hq : (((m - bo.size : Nat)) : Int) = (m : Int) - bo.size := by omega
  have hP := HP.out (m - bo.size) (by omega)
  rw [hq] at hP
  have HP2 := hide hP
  clear hP hq
  go_wp2_with fail
  refine HP2.out.mono ?_
  rintro e w1 ⟨⟨z, rfl, hz⟩, hb1⟩
  have c1 := HB.out.trans (hb1.mono (by simp))
  rcases hz with hz | ⟨m', rfl, hm'⟩
  · go_wp2
    go_ret
    exact ⟨⟨_, rfl, .inl (by omega)⟩, c1⟩
  · have hm1' : m' ≤ 1048576 := by omega
    have HM' := hide hm'
    clear hm'
    go_wp2
    go_ret
    exact ⟨⟨_, rfl, .inr ⟨m', rfl, by rw [HZ.out]; have := HM'.out; have := HM.out; omega⟩⟩, c1⟩

set_option maxHeartbeats 1000000 in
theorem szResS_any (a : Option Addr) (rs : List Rs) (cap B left : Nat) (w : World) (h : Rss w B a rs) (hB : B ≤ w.heap.size) (hsh : ShortT rs) (hl : rs.length ≤ maxLen) (hleft : left ≤ 1048576) :
    Calls Tryz.prog 7 #[.slice a rs.length cap, .int .i64 left] w fun e w' => (∃ z : Int, e = .returned (.int .i64 z) ∧ (z < 0 ∨ ∃ m : Nat, z = m ∧ rs.length + sumR rs + m = left)) ∧ Below w.heap.size w w' := by
  unfold maxLen at hl
  by_cases hlt0 : left < rs.length
  · go_enter Tryz.func7, Tryz.ntmps7
    go_wp2
    go_ret
    exact ⟨⟨_, rfl, .inl (by omega)⟩, Below.refl _ _⟩
  · go_enter Tryz.func7, Tryz.ntmps7
    go_wp2
    go_loopw [1, 5] (fun l i wr => ∃ k m : Nat, k ≤ rs.length ∧ i = .int .i64 k ∧ l = .int .i64 m ∧ rs.length + sumR (rs.take k) + m = left ∧ Below w.heap.size w wr) (fun _ i _ => rs.length - (intOf i).toNat)
    case atStart => exact ⟨0, left - rs.length, Nat.zero_le _, rfl, by congr 1; omega, by simp [sumR]; omega, Below.refl _ _⟩
    case round =>
      obtain ⟨k, m, hk, rfl, rfl, hm, hbe⟩ := hrel
      by_cases hlt : k < rs.length
      · obtain ⟨b, o, rfl, hb, hc⟩ := (h.below hbe hB) (by omega)
        obtain ⟨pa, pc, qa, qc, ⟨hc0, hc1, hc2, hc3, hc4⟩, hin⟩ := hc k hlt
        have hsz := hsh.at k hlt
        have HS2 := hide (sumR_snoc rs k hlt)
        have HM : Hid (rs.length + sumR (rs.take k) + m = left) := hm
        clear hm hc
        have hm1 : m ≤ 1048576 := by have := HM.out; omega
        have HC := hide (szRes_any rs[k] pa pc qa qc B m wr hin (Nat.le_trans hB hbe.size) hsz hm1)
        clear hin hsz
        go_wp2_with fail
        refine HC.out.mono ?_
        rintro e w1 ⟨⟨z, rfl, hz⟩, hb1⟩
        have c1 := hbe.trans (hb1.mono hbe.size)
        rcases hz with hz | ⟨m', rfl, hm'⟩
        · go_wp2
          go_ret
          exact ⟨⟨_, rfl, .inl (by omega)⟩, c1⟩
        · have HM' := hide hm'
          clear hm'
          go_wp2
          go_roundw
          case rel => exact ⟨k + 1, m', by omega, by go_num, rfl, by rw [HS2.out]; have := HM.out; have := HM'.out; omega, c1⟩
          case measure => simp [intOf]; omega
      · go_wp2
        go_ret
        exact ⟨⟨m, rfl, .inr ⟨m, rfl, by rw [List.take_of_length_le (by omega)] at hm; exact hm⟩⟩, hbe⟩
end Go.Proofs.YtepdfppbnepamabGreat
namespace Go.Proofs.YtepdfppbnepamabGreat
open Go.RowKit M
set_option linter.unusedVariables false

set_option maxHeartbeats 1000000 in
theorem toRes_any (r : Rs) (pa : Option Addr) (pc : Nat) (qa : Option Addr) (qc B : Nat) (w : World) (h : RsIn w B r pa pc qa qc) (hB : B ≤ w.heap.size) (hp : r.pa.length ≤ 1048576) (hq : r.ps.length ≤ 1048576) :
    Calls Tryz.prog 31 #[.agg #[.slice pa r.pa.length pc, .bool r.co, .string r.bo, .int .i64 r.ve, .slice qa r.ps.length qc]] w fun e w' => (∃ p q : Nat, e = .returned (.agg #[.slice (some ⟨p, 0, none⟩) r.pa.length r.pa.length, .bool r.co, .string r.bo, .int .i64 r.ve, .slice (some ⟨q, 0, none⟩) r.ps.length r.ps.length]) ∧ w.heap.size ≤ p ∧ p < q ∧ RowS w' p r.pa ∧ RowP w' q r.ps) ∧ Below w.heap.size w w' := by
  have h1 := h.ph
  have h2 := h.qh
  clear h
  obtain ⟨ss, co, bo, ve, ps⟩ := r
  simp only at *
  have H1 := hide h1
  have H2 := hide h2
  clear h1 h2
  go_enter Tryz.func31, Tryz.ntmps31
  go_wp2_with fail
  have hb0 : Below w.heap.size w (((w.alloc (Obj.cells #[Value.slice pa ss.length pc, Value.bool co, Value.string bo, Value.int .i64 ve, Value.slice qa ps.length qc] 42)).alloc (Obj.cells #[Value.slice none 0 0, Value.bool false, Value.string { data := #[] }, Value.int .i64 0, Value.slice none 0 0] 49)).alloc (Obj.cells #[Value.slice none 0 0, Value.bool false, Value.string { data := #[] }, Value.int .i64 0, Value.slice none 0 0] 49)) := (((Below.refl _ _).alloc (Nat.le_refl _) _).alloc (by simp) _).alloc (by simp; omega) _
  refine (toStringS_row pa ss pc B _ (H1.out.below hb0 hB) (by simp; omega) hp).mono ?_
  rintro e w1 ⟨rfl, r1, b1⟩
  have hc1 := hb0.trans (b1.mono hb0.size)
  obtain ⟨hc, hf⟩ := bcellP b1
  have HR1 := hide (show RowS w1 (w.heap.size + 1 + 1 + 1) ss by simpa using r1)
  have HB1 := hide b1
  have HC1 := hide hc1
  have hz1 : w.heap.size + 1 + 1 + 1 < w1.heap.size := by have := r1.1; simp at this; omega
  clear hc1 b1 r1 hb0
  go_wp2_with fail
  have hb2 : Below w.heap.size w ((((w1.setCell ⟨w.heap.size + 1 + 1, 0, none⟩ (Value.slice (some ⟨w.heap.size + 1 + 1 + 1, 0, none⟩) ss.length ss.length)).setCell ⟨w.heap.size + 1 + 1, 1, none⟩ (Value.bool co)).setCell ⟨w.heap.size + 1 + 1, 2, none⟩ (Value.string bo)).setCell ⟨w.heap.size + 1 + 1, 3, none⟩ (Value.int IntKind.i64 ve)) := (((HC1.out.setCell (by simp; omega) _).setCell (by simp; omega) _).setCell (by simp; omega) _).setCell (by simp; omega) _
  refine (toPropS_any qa ps qc B _ (H2.out.below hb2 hB) (by simp; omega) hq).mono ?_
  rintro e w3 ⟨rfl, r3, b3⟩
  have HB3 := hide (hb2.trans (b3.mono hb2.size))
  have r2 := (((HR1.out.setCell ⟨w.heap.size + 1 + 1, 0, none⟩ (Value.slice (some ⟨w.heap.size + 1 + 1 + 1, 0, none⟩) ss.length ss.length) (by simp)).setCell ⟨w.heap.size + 1 + 1, 1, none⟩ (Value.bool co) (by simp)).setCell ⟨w.heap.size + 1 + 1, 2, none⟩ (Value.string bo) (by simp)).setCell ⟨w.heap.size + 1 + 1, 3, none⟩ (Value.int IntKind.i64 ve) (by simp)
  have HR2 := hide (r2.below b3)
  have HR3 := hide (show RowP w3 w1.heap.size ps by simpa using r3)
  have hz2 : w.heap.size + 1 + 1 < w1.heap.size := by omega
  have hz3 : w.heap.size + 1 < w1.heap.size := by omega
  have hz4 : w.heap.size < w1.heap.size := by omega
  obtain ⟨hc3, hf3⟩ := bcellP b3
  clear r2 r3 b3 hb2 HR1 HB1 HC1
  go_wp2
  refine bodyPost_ret (v := .agg #[.slice (some ⟨w.heap.size + 1 + 1 + 1, 0, none⟩) ss.length ss.length, .bool co, .string bo, .int .i64 ve, .slice (some ⟨w1.heap.size, 0, none⟩) ps.length ps.length]) (by simp [results, Tryz.results31, go_sem, hc3, hc, hz3]) rfl ⟨⟨_, _, rfl, by omega, hz1, ?_, ?_⟩, ?_⟩
  · exact ((((((HR2.out.setCell ⟨w.heap.size + 1 + 1, 4, none⟩ (Value.slice (some ⟨w1.heap.size, 0, none⟩) ps.length ps.length) (by simp)).setCell ⟨w.heap.size + 1, 0, none⟩ (Value.slice (some ⟨w.heap.size + 1 + 1 + 1, 0, none⟩) ss.length ss.length) (by simp)).setCell ⟨w.heap.size + 1, 1, none⟩ (Value.bool co) (by simp)).setCell ⟨w.heap.size + 1, 2, none⟩ (Value.string bo) (by simp)).setCell ⟨w.heap.size + 1, 3, none⟩ (Value.int IntKind.i64 ve) (by simp)).setCell ⟨w.heap.size + 1, 4, none⟩ (Value.slice (some ⟨w1.heap.size, 0, none⟩) ps.length ps.length) (by simp))
  · exact ((((((HR3.out.setCell ⟨w.heap.size + 1 + 1, 4, none⟩ (Value.slice (some ⟨w1.heap.size, 0, none⟩) ps.length ps.length) (by simp; omega)).setCell ⟨w.heap.size + 1, 0, none⟩ (Value.slice (some ⟨w.heap.size + 1 + 1 + 1, 0, none⟩) ss.length ss.length) (by simp; omega)).setCell ⟨w.heap.size + 1, 1, none⟩ (Value.bool co) (by simp; omega)).setCell ⟨w.heap.size + 1, 2, none⟩ (Value.string bo) (by simp; omega)).setCell ⟨w.heap.size + 1, 3, none⟩ (Value.int IntKind.i64 ve) (by simp; omega)).setCell ⟨w.heap.size + 1, 4, none⟩ (Value.slice (some ⟨w1.heap.size, 0, none⟩) ps.length ps.length) (by simp; omega))
  · exact (((((HB3.out.setCell (by simp; omega) _).setCell (by simp) _).setCell (by simp) _).setCell (by simp) _).setCell (by simp) _).setCell (by simp) _

set_option maxHeartbeats 1000000 in
theorem toResS_any (a : Option Addr) (rs : List Rs) (cap B : Nat) (w : World) (h : Rss w B a rs) (hB : B ≤ w.heap.size) (hl : rs.length + sumR rs ≤ 1048576) :
    Calls Tryz.prog 10 #[.slice a rs.length cap] w fun e w' => e = .returned (.slice (some ⟨w.heap.size, 0, none⟩) rs.length rs.length) ∧ (∃ pb qb, OwnR w' w.heap.size w'.heap.size w.heap.size rs pb qb) ∧ Below w.heap.size w w' := by
  have hl1 : rs.length ≤ 1048576 := by omega
  have HL := hide hl
  clear hl
  have hmk := run_make_ress rs.length hl1 w
  go_enter Tryz.func10, Tryz.ntmps10
  go_wp2
  clear hmk
  go_loopw [4] (fun i wr => ∃ k : Nat, k ≤ rs.length ∧ i = .int .i64 k ∧ MadeR wr w.heap.size rs k ∧ Below w.heap.size w wr) (fun i _ => rs.length - (intOf i).toNat)
  case atStart => exact ⟨0, Nat.zero_le _, rfl, MadeR.start w rs, (Below.refl _ _).alloc (Nat.le_refl _) _⟩
  case round =>
    obtain ⟨k, hk, rfl, hrow, hbe⟩ := hrel
    by_cases hlt : k < rs.length
    · obtain ⟨b, o, rfl, hb, hc⟩ := (h.below hbe hB) (by omega)
      obtain ⟨pa, pc, qa, qc, ⟨hc0, hc1, hc2, hc3, hc4⟩, hin⟩ := hc k hlt
      clear hc
      have hm := sumR_mem rs _ (List.getElem_mem hlt)
      have hsz : szR rs[k] = (rs[k]).pa.length + sumL (rs[k]).pa + (rs[k]).bo.size + ((rs[k]).ps.length + sumP (rs[k]).ps) := rfl
      have HC := hide (toRes_any rs[k] pa pc qa qc B wr hin (Nat.le_trans hB hbe.size) (by have := HL.out; omega) (by have := HL.out; omega))
      clear hm hsz hin
      go_wp2_with fail
      refine HC.out.mono ?_
      rintro e w1 ⟨⟨p, q, rfl, hp, hpq, rp, rq⟩, hb1⟩
      have c1 := hbe.trans (hb1.mono hbe.size)
      obtain ⟨v0, v1, v2, v3, v4, hd0, hd1, hd2, hd3, hd4, hf0, hf1, hf2, hf3, hf4⟩ := (hrow.below hb1).cells hlt
      have HR := hide (hrow.next hb1 hlt p q hp hpq rp rq)
      clear hrow rp rq hp hpq
      go_wp2
      go_roundw
      case rel => exact ⟨k + 1, by omega, by go_num, HR.out, ((((c1.setCell (Nat.le_refl _) _).setCell (Nat.le_refl _) _).setCell (Nat.le_refl _) _).setCell (Nat.le_refl _) _).setCell (Nat.le_refl _) _⟩
      case measure => simp [intOf]; omega
    · go_wp2
      go_ret
      exact ⟨rfl, hrow.done hlt, hbe⟩
end Go.Proofs.YtepdfppbnepamabGreat
namespace Go.Proofs.YtepdfppbnepamabGreat
open Go.RowKit
set_option linter.unusedVariables false

set_option maxHeartbeats 400000 in
theorem eqStringS_any (a b : Option Addr) (ss tt : List ByteArray) (cap cap' B C : Nat) (w : World) (h : Strs w B a ss) (h' : Strs w C b tt) (hl : ss.length ≤ maxLen) (hl' : tt.length ≤ maxLen) :
    Calls Tryz.prog 14 #[.slice a ss.length cap, .slice b tt.length cap'] w fun e w' => e = .returned (.bool (sameL ss tt)) ∧ ∀ D, Below D w w' := by
  unfold maxLen at hl hl'
  by_cases hlen : ss.length = tt.length
  · have HL : Hid (ss.length = tt.length) := hlen
    go_enter Tryz.func14, Tryz.ntmps14
    rw [← hlen]
    clear hlen
    go_wp2
    go_loopw [5] (fun i wr => ∃ k n : Nat, k ≤ ss.length ∧ i = .int .i64 k ∧ ss.take k = tt.take k ∧ wr = w.drewN n) (fun i _ => ss.length - (intOf i).toNat)
    case atStart => exact ⟨0, 0, Nat.zero_le _, rfl, rfl, rfl⟩
    case round =>
      obtain ⟨k, n, hk, rfl, ht, rfl⟩ := hrel
      have HT : Hid (ss.take k = tt.take k) := ht
      clear ht
      by_cases hlt : k < ss.length
      · have hlt' : k < tt.length := by have := HL.out; omega
        obtain ⟨b1, o1, rfl, hb1, hc1⟩ := h (by omega)
        obtain ⟨b2, o2, rfl, hb2, hc2⟩ := h' (by have := HL.out; omega)
        have hcx := hc1 k hlt
        have hcy := hc2 k hlt'
        go_wp2
        go_quiet (fail)
        go_wp2
        · rename_i hne
          have hne' : ¬ ss[k] = tt[k] := fun e => by rw [e] at hne; simp at hne
          go_ret
          exact ⟨ret_bool (sameL_not k hlt hlt' hne').symm, fun D => below_drewN (below_drewN (Below.refl _ _) _) _⟩
        · rename_i he
          have he' : ss[k] = tt[k] := str_inj (by simpa using he)
          go_roundw
          case rel => exact ⟨k + 1, n + nq, by omega, by go_num, take_same k hlt hlt' HT.out he', by simp⟩
          case measure => simp [intOf]; omega
      · go_wp2
        go_ret
        exact ⟨ret_bool (sameL_all HL.out k hlt HT.out).symm, fun D => below_drewN (Below.refl _ _) _⟩
  · have HS := sameL_len hlen
    go_enter Tryz.func14, Tryz.ntmps14
    go_wp2
    go_ret
    exact ⟨ret_bool HS.symm, fun D => Below.refl _ _⟩
end Go.Proofs.YtepdfppbnepamabGreat
namespace Go.Proofs.YtepdfppbnepamabGreat
open Go.RowKit M
set_option linter.unusedVariables false

set_option maxHeartbeats 1000000 in
theorem eqProp_any (x y z u v t : ByteArray) (w : World) :
    Calls Tryz.prog 92 #[.agg #[.string x, .string y, .string z], .agg #[.string u, .string v, .string t]] w fun e w' => e = .returned (.bool (decide (((x, y, z) : Pp) = (u, v, t)))) ∧ Below w.heap.size w w' := by
  go_enter Tryz.func92, Tryz.ntmps92
  go_wp2
  all_goals go_ret
  · rename_i h1
    refine ⟨ret_bool ?_, ((Below.refl _ _).alloc (Nat.le_refl _) _).alloc (by simp) _⟩
    have : ¬ x = u := fun e => by subst e; simp at h1
    simp [this]
  · rename_i h1 h2
    refine ⟨ret_bool ?_, ((Below.refl _ _).alloc (Nat.le_refl _) _).alloc (by simp) _⟩
    have : ¬ y = v := fun e => by subst e; simp at h2
    simp [this]
  · rename_i h1 h2 h3
    refine ⟨ret_bool ?_, ((Below.refl _ _).alloc (Nat.le_refl _) _).alloc (by simp) _⟩
    have : ¬ z = t := fun e => by subst e; simp at h3
    simp [this]
  · rename_i h1 h2 h3
    refine ⟨ret_bool ?_, ((Below.refl _ _).alloc (Nat.le_refl _) _).alloc (by simp) _⟩
    have e1 : x = u := strInjP (by simpa using h1)
    have e2 : y = v := strInjP (by simpa using h2)
    have e3 : z = t := strInjP (by simpa using h3)
    simp [e1, e2, e3]

set_option maxHeartbeats 1000000 in
theorem eqPropS_any (a b : Option Addr) (ss tt : List Pp) (cap cap' B C : Nat) (w : World) (h : Pps w B a ss) (h' : Pps w C b tt) (hB : B ≤ w.heap.size) (hC : C ≤ w.heap.size) (hl : ss.length ≤ maxLen) (hl' : tt.length ≤ maxLen) :
    Calls Tryz.prog 62 #[.slice a ss.length cap, .slice b tt.length cap'] w fun e w' => e = .returned (.bool (sameP ss tt)) ∧ Below w.heap.size w w' := by
  unfold maxLen at hl hl'
  by_cases hlen : ss.length = tt.length
  · have HL : Hid (ss.length = tt.length) := hlen
    go_enter Tryz.func62, Tryz.ntmps62
    rw [← hlen]
    clear hlen
    go_wp2
    go_loopw [5] (fun i wr => ∃ k : Nat, k ≤ ss.length ∧ i = .int .i64 k ∧ ss.take k = tt.take k ∧ Below w.heap.size w wr) (fun i _ => ss.length - (intOf i).toNat)
    case atStart => exact ⟨0, Nat.zero_le _, rfl, rfl, Below.refl _ _⟩
    case round =>
      obtain ⟨k, hk, rfl, ht, hbe⟩ := hrel
      have HT : Hid (ss.take k = tt.take k) := ht
      clear ht
      by_cases hlt : k < ss.length
      · have hlt' : k < tt.length := by have := HL.out; omega
        obtain ⟨b1, o1, rfl, hb1, hc1⟩ := (h.below hbe hB) (by omega)
        obtain ⟨b2, o2, rfl, hb2, hc2⟩ := (h'.below hbe hC) (by have := HL.out; omega)
        obtain ⟨hx0, hx1, hx2⟩ := hc1 k hlt
        obtain ⟨hy0, hy1, hy2⟩ := hc2 k hlt'
        clear hc1 hc2
        have hl1 : b1 < wr.drew.heap.size := by have := hbe.size; show b1 < wr.heap.size; omega
        have hl2 : b2 < wr.drew.heap.size := by have := hbe.size; show b2 < wr.heap.size; omega
        have hq := eqProp_any ss[k].1 ss[k].2.1 ss[k].2.2 tt[k].1 tt[k].2.1 tt[k].2.2 wr.drew
        have hbd : Below w.heap.size w wr.drew := below_drewP hbe
        obtain ⟨z, hz⟩ : ∃ z, decide (((ss[k].1, ss[k].2.1, ss[k].2.2) : Pp) = (tt[k].1, tt[k].2.1, tt[k].2.2)) = z := ⟨_, rfl⟩
        rw [hz] at hq
        have HZ := hide hz
        clear hz
        cases z
        · go_wp2
          go_region_held3 (fun W => W.cell? ⟨b1, o1 + k * 3, none⟩ = some (.string ss[k].1) ∧ W.cell? ⟨b1, o1 + k * 3 + 1, none⟩ = some (.string ss[k].2.1) ∧ W.cell? ⟨b1, o1 + k * 3 + 2, none⟩ = some (.string ss[k].2.2) ∧ W.cell? ⟨b2, o2 + k * 3, none⟩ = some (.string tt[k].1) ∧ W.cell? ⟨b2, o2 + k * 3 + 1, none⟩ = some (.string tt[k].2.1) ∧ W.cell? ⟨b2, o2 + k * 3 + 2, none⟩ = some (.string tt[k].2.2)) (first | exact ⟨hx0, hx1, hx2, hy0, hy1, hy2⟩ | (simp only [(bcellP hb3).1 b1 _ hl1, (bcellP hb3).1 b2 _ hl2]; exact ⟨hx0, hx1, hx2, hy0, hy1, hy2⟩)) ((go_at_call 92; refine hq.mono ?_; rintro e w1 ⟨rfl, hb3⟩))
          all_goals
            have c1 := hbd.trans (hb3.mono hbd.size)
            clear hq hb3
            go_wp2
            go_ret
            exact ⟨ret_bool (sameP_not k hlt hlt' (of_decide_eq_false HZ.out)).symm, c1⟩
        · go_wp2
          go_region_held3 (fun W => W.cell? ⟨b1, o1 + k * 3, none⟩ = some (.string ss[k].1) ∧ W.cell? ⟨b1, o1 + k * 3 + 1, none⟩ = some (.string ss[k].2.1) ∧ W.cell? ⟨b1, o1 + k * 3 + 2, none⟩ = some (.string ss[k].2.2) ∧ W.cell? ⟨b2, o2 + k * 3, none⟩ = some (.string tt[k].1) ∧ W.cell? ⟨b2, o2 + k * 3 + 1, none⟩ = some (.string tt[k].2.1) ∧ W.cell? ⟨b2, o2 + k * 3 + 2, none⟩ = some (.string tt[k].2.2)) (first | exact ⟨hx0, hx1, hx2, hy0, hy1, hy2⟩ | (simp only [(bcellP hb3).1 b1 _ hl1, (bcellP hb3).1 b2 _ hl2]; exact ⟨hx0, hx1, hx2, hy0, hy1, hy2⟩)) ((go_at_call 92; refine hq.mono ?_; rintro e w1 ⟨rfl, hb3⟩))
          all_goals
            have c1 := hbd.trans (hb3.mono hbd.size)
            clear hq hb3
            go_wp2
            go_roundw
            case rel => exact ⟨k + 1, by omega, by go_num, take_sameP k hlt hlt' HT.out (of_decide_eq_true HZ.out), c1⟩
            case measure => simp [intOf]; omega
      · go_wp2
        go_ret
        exact ⟨ret_bool (sameP_all HL.out k hlt HT.out).symm, hbe⟩
  · have HS := sameP_len hlen
    go_enter Tryz.func62, Tryz.ntmps62
    go_wp2
    go_ret
    exact ⟨ret_bool HS.symm, Below.refl _ _⟩
end Go.Proofs.YtepdfppbnepamabGreat
namespace Go.Proofs.YtepdfppbnepamabGreat
open Go.RowKit M
set_option linter.unusedVariables false

theorem neStrP {x y : ByteArray} (h : ¬ x = y) : (x.toList == y.toList) = false := by
  rw [beq_eq_false_iff_ne]; exact fun e => h (strInjP e)
theorem eqStrP {x y : ByteArray} (h : x = y) : (x.toList == y.toList) = true := by rw [h]; simp

/-- Its four parts that are told ahead, and the fifth. -/
theorem rs_eq (r s : Rs) : (r = s) ↔ (r.pa = s.pa ∧ r.co = s.co ∧ r.bo = s.bo ∧ r.ve = s.ve ∧ r.ps = s.ps) := by
  cases r; cases s; simp

set_option maxHeartbeats 2000000 in
theorem eqRes_any (r s : Rs) (pa : Option Addr) (pc : Nat) (qa : Option Addr) (qc : Nat) (pa' : Option Addr) (pc' : Nat) (qa' : Option Addr) (qc' : Nat) (B C : Nat) (w : World) (h : RsIn w B r pa pc qa qc) (h' : RsIn w C s pa' pc' qa' qc') (hB : B ≤ w.heap.size) (hC : C ≤ w.heap.size) :
    Calls Tryz.prog 37 #[.agg #[.slice pa r.pa.length pc, .bool r.co, .string r.bo, .int .i64 r.ve, .slice qa r.ps.length qc], .agg #[.slice pa' s.pa.length pc', .bool s.co, .string s.bo, .int .i64 s.ve, .slice qa' s.ps.length qc']] w fun e w' => e = .returned (.bool (decide (r = s))) ∧ Below w.heap.size w w' := by
  have l1 : r.pa.length ≤ maxLen := Nat.le_trans h.pl h.pm
  have l2 : r.ps.length ≤ maxLen := Nat.le_trans h.ql h.qm
  have l1' : s.pa.length ≤ maxLen := Nat.le_trans h'.pl h'.pm
  have l2' : s.ps.length ≤ maxLen := Nat.le_trans h'.ql h'.qm
  have p1 := h.ph
  have q1 := h.qh
  have p2 := h'.ph
  have q2 := h'.qh
  have F1 : Hid (¬ r.pa = s.pa → decide (r = s) = false) := fun e => by rw [decide_eq_false_iff_not, rs_eq]; exact fun x => e x.1
  have F2 : Hid (¬ r.co = s.co → decide (r = s) = false) := fun e => by rw [decide_eq_false_iff_not, rs_eq]; exact fun x => e x.2.1
  have F3 : Hid (¬ r.bo = s.bo → decide (r = s) = false) := fun e => by rw [decide_eq_false_iff_not, rs_eq]; exact fun x => e x.2.2.1
  have F4 : Hid (¬ r.ve = s.ve → decide (r = s) = false) := fun e => by rw [decide_eq_false_iff_not, rs_eq]; exact fun x => e x.2.2.2.1
  have F5 : Hid (r.pa = s.pa → r.co = s.co → r.bo = s.bo → r.ve = s.ve → decide (r = s) = sameP r.ps s.ps) := fun e1 e2 e3 e4 => by
    unfold sameP
    by_cases e5 : r.ps = s.ps
    · rw [decide_eq_true e5, decide_eq_true_eq, rs_eq]; exact ⟨e1, e2, e3, e4, e5⟩
    · rw [decide_eq_false e5, decide_eq_false_iff_not, rs_eq]; exact fun x => e5 x.2.2.2.2
  generalize decide (r = s) = dd at *
  clear h h'
  obtain ⟨ss, co, bo, ve, ps⟩ := r
  obtain ⟨ss', co', bo', ve', ps'⟩ := s
  simp only at *
  have hb0 : Below w.heap.size w ((w.alloc (Obj.cells #[.slice pa ss.length pc, .bool co, .string bo, .int .i64 ve, .slice qa ps.length qc] 49)).alloc (Obj.cells #[.slice pa' ss'.length pc', .bool co', .string bo', .int .i64 ve', .slice qa' ps'.length qc'] 49)) := ((Below.refl _ _).alloc (Nat.le_refl _) _).alloc (by simp) _
  have hE := eqStringS_any pa pa' ss ss' pc pc' B C _ (p1.below hb0 hB) (p2.below hb0 hC) l1 l1'
  have HB0 := hide hb0
  have HQ := hide (fun w1 (hb : ∀ D, Below D ((w.alloc (Obj.cells #[.slice pa ss.length pc, .bool co, .string bo, .int .i64 ve, .slice qa ps.length qc] 49)).alloc (Obj.cells #[.slice pa' ss'.length pc', .bool co', .string bo', .int .i64 ve', .slice qa' ps'.length qc'] 49)) w1) => eqPropS_any qa qa' ps ps' qc qc' B C w1 ((q1.below hb0 hB).below (hb _) (Nat.le_refl _)) ((q2.below hb0 hC).below (hb _) (Nat.le_refl _)) (Nat.le_trans hB (hb0.trans (hb _)).size) (Nat.le_trans hC (hb0.trans (hb _)).size) l2 l2')
  clear q1 q2 p1 p2 hb0
  by_cases h1 : ss = ss'
  · have hs1 : sameL ss ss' = true := by rw [h1]; exact sameL_refl _
    rw [hs1] at hE
    have HE := hide hE
    clear hE hs1
    by_cases h2 : co = co'
    · by_cases h3 : bo = bo'
      · have e3 := eqStrP h3
        by_cases h4 : ve = ve'
        · have hz := F5.out h1 h2 h3 h4
          rw [hz]
          generalize sameP ps ps' = z at *
          have hv : (ve == ve') = true := by rw [h4]; simp
          have hv2 : (co == co') = true := by rw [h2]; simp
          subst h2 h4
          clear h1 h3 hz hv hv2
          cases z
          all_goals
            go_enter Tryz.func37, Tryz.ntmps37
            go_wp2_with fail
            refine HE.out.mono ?_
            rintro e w1 ⟨rfl, hb1⟩
            have hcl : ∀ b o, w1.cell? ⟨b, o, none⟩ = _ := fun b o => (hb1 (b + 1)).cell (p := ⟨b, o, none⟩) (Nat.lt_succ_self _)
            have HP := hide (HQ.out w1 hb1)
            have HC1 := hide (HB0.out.trans (hb1 _))
            clear hb1
            go_wp2_with fail
            refine HP.out.mono ?_
            rintro e w2 ⟨rfl, hb2⟩
            have c2 := HC1.out.trans (hb2.mono HC1.out.size)
            go_wp2
            go_ret
            exact ⟨rfl, c2⟩
        · have hz := F4.out h4
          rw [hz]
          have hv : (ve == ve') = false := by rw [beq_eq_false_iff_ne]; exact h4
          subst h2
          clear h1 h3 hz
          go_enter Tryz.func37, Tryz.ntmps37
          go_wp2_with fail
          refine HE.out.mono ?_
          rintro e w1 ⟨rfl, hb1⟩
          have hcl : ∀ b o, w1.cell? ⟨b, o, none⟩ = _ := fun b o => (hb1 (b + 1)).cell (p := ⟨b, o, none⟩) (Nat.lt_succ_self _)
          have HC1 := hide (HB0.out.trans (hb1 _))
          clear hb1
          go_wp2
          go_ret
          exact ⟨rfl, HC1.out⟩
      · have e3 := neStrP h3
        have hz := F3.out h3
        rw [hz]
        subst h2
        clear h1 h3 hz
        go_enter Tryz.func37, Tryz.ntmps37
        go_wp2_with fail
        refine HE.out.mono ?_
        rintro e w1 ⟨rfl, hb1⟩
        have hcl : ∀ b o, w1.cell? ⟨b, o, none⟩ = _ := fun b o => (hb1 (b + 1)).cell (p := ⟨b, o, none⟩) (Nat.lt_succ_self _)
        have HC1 := hide (HB0.out.trans (hb1 _))
        clear hb1
        go_wp2
        go_ret
        exact ⟨rfl, HC1.out⟩
    · have hz := F2.out h2
      rw [hz]
      have e2 : (co == co') = false := by rw [beq_eq_false_iff_ne]; exact h2
      have e2' : co' = !co := by cases co <;> cases co' <;> simp_all
      subst e2'
      clear h1 hz h2 e2
      cases co
      all_goals
        go_enter Tryz.func37, Tryz.ntmps37
        go_wp2_with fail
        refine HE.out.mono ?_
        rintro e w1 ⟨rfl, hb1⟩
        have hcl : ∀ b o, w1.cell? ⟨b, o, none⟩ = _ := fun b o => (hb1 (b + 1)).cell (p := ⟨b, o, none⟩) (Nat.lt_succ_self _)
        have HC1 := hide (HB0.out.trans (hb1 _))
        clear hb1
        go_wp2
        go_ret
        exact ⟨rfl, HC1.out⟩
  · have hs1 : sameL ss ss' = false := by unfold sameL; rw [decide_eq_false_iff_not]; exact h1
    rw [hs1] at hE
    have hz := F1.out h1
    rw [hz]
    have HE := hide hE
    clear hE hs1 h1 hz
    go_enter Tryz.func37, Tryz.ntmps37
    go_wp2_with fail
    refine HE.out.mono ?_
    rintro e w1 ⟨rfl, hb1⟩
    have HC1 := hide (HB0.out.trans (hb1 _))
    go_wp2
    go_ret
    exact ⟨rfl, HC1.out⟩
end Go.Proofs.YtepdfppbnepamabGreat
namespace Go.Proofs.YtepdfppbnepamabGreat
open Go.RowKit M
set_option linter.unusedVariables false

theorem keep10 {W w1 : World} {b1 b2 o1 o2 : Nat} {r s : Rs} {pa : Option Addr} {pc : Nat} {qa : Option Addr} {qc : Nat} {pa' : Option Addr} {pc' : Nat} {qa' : Option Addr} {qc' : Nat} (hb : Below W.heap.size W w1) (h1 : b1 < W.heap.size) (h2 : b2 < W.heap.size)
    (h : RsAt W b1 o1 r pa pc qa qc ∧ RsAt W b2 o2 s pa' pc' qa' qc') : RsAt w1 b1 o1 r pa pc qa qc ∧ RsAt w1 b2 o2 s pa' pc' qa' qc' :=
  ⟨h.1.of (fun o' => (bcellP hb).1 b1 o' h1), h.2.of (fun o' => (bcellP hb).1 b2 o' h2)⟩

set_option maxHeartbeats 2000000 in
theorem eqResS_any (a b : Option Addr) (ss tt : List Rs) (cap cap' B C : Nat) (w : World) (h : Rss w B a ss) (h' : Rss w C b tt) (hB : B ≤ w.heap.size) (hC : C ≤ w.heap.size) (hl : ss.length ≤ maxLen) (hl' : tt.length ≤ maxLen) :
    Calls Tryz.prog 13 #[.slice a ss.length cap, .slice b tt.length cap'] w fun e w' => e = .returned (.bool (sameT ss tt)) ∧ Below w.heap.size w w' := by
  unfold maxLen at hl hl'
  by_cases hlen : ss.length = tt.length
  · have HL : Hid (ss.length = tt.length) := hlen
    go_enter Tryz.func13, Tryz.ntmps13
    rw [← hlen]
    clear hlen
    go_wp2
    go_loopw [5] (fun i wr => ∃ k : Nat, k ≤ ss.length ∧ i = .int .i64 k ∧ ss.take k = tt.take k ∧ Below w.heap.size w wr) (fun i _ => ss.length - (intOf i).toNat)
    case atStart => exact ⟨0, Nat.zero_le _, rfl, rfl, Below.refl _ _⟩
    case round =>
      obtain ⟨k, hk, rfl, ht, hbe⟩ := hrel
      have HT : Hid (ss.take k = tt.take k) := ht
      clear ht
      by_cases hlt : k < ss.length
      · have hlt' : k < tt.length := by have := HL.out; omega
        obtain ⟨b1, o1, rfl, hb1, hc1⟩ := (h.below hbe hB) (by omega)
        obtain ⟨b2, o2, rfl, hb2, hc2⟩ := (h'.below hbe hC) (by have := HL.out; omega)
        obtain ⟨pa, pc, qa, qc, ha1, hi1⟩ := hc1 k hlt
        obtain ⟨pa', pc', qa', qc', ha2, hi2⟩ := hc2 k hlt'
        clear hc1 hc2
        have hl1 : b1 < wr.drew.heap.size := by have := hbe.size; show b1 < wr.heap.size; omega
        have hl2 : b2 < wr.drew.heap.size := by have := hbe.size; show b2 < wr.heap.size; omega
        have hbd : Below w.heap.size w wr.drew := below_drewP hbe
        have hq := eqRes_any ss[k] tt[k] pa pc qa qc pa' pc' qa' qc' B C wr.drew hi1.drew hi2.drew (Nat.le_trans hB hbd.size) (Nat.le_trans hC hbd.size)
        have HX := hide (And.intro (ha1.of (w' := wr.drew) (fun _ => rfl)) (ha2.of (w' := wr.drew) (fun _ => rfl)))
        obtain ⟨hx0, hx1, hx2, hx3, hx4⟩ := ha1
        obtain ⟨hy0, hy1, hy2, hy3, hy4⟩ := ha2
        obtain ⟨z, hz⟩ : ∃ z, decide (ss[k] = tt[k]) = z := ⟨_, rfl⟩
        rw [hz] at hq
        have HZ := hide hz
        clear hz hi1 hi2
        cases z
        · go_wp2
          go_region_held3 (fun W => (W.cell? ⟨b1, o1 + k * 5, none⟩ = some (.slice pa ss[k].pa.length pc) ∧ W.cell? ⟨b1, o1 + k * 5 + 1, none⟩ = some (.bool ss[k].co) ∧ W.cell? ⟨b1, o1 + k * 5 + 2, none⟩ = some (.string ss[k].bo) ∧ W.cell? ⟨b1, o1 + k * 5 + 3, none⟩ = some (.int .i64 ss[k].ve) ∧ W.cell? ⟨b1, o1 + k * 5 + 4, none⟩ = some (.slice qa ss[k].ps.length qc)) ∧ (W.cell? ⟨b2, o2 + k * 5, none⟩ = some (.slice pa' tt[k].pa.length pc') ∧ W.cell? ⟨b2, o2 + k * 5 + 1, none⟩ = some (.bool tt[k].co) ∧ W.cell? ⟨b2, o2 + k * 5 + 2, none⟩ = some (.string tt[k].bo) ∧ W.cell? ⟨b2, o2 + k * 5 + 3, none⟩ = some (.int .i64 tt[k].ve) ∧ W.cell? ⟨b2, o2 + k * 5 + 4, none⟩ = some (.slice qa' tt[k].ps.length qc'))) (first | exact HX.out | exact HX2.out) ((go_at_call 37; refine hq.mono ?_; rintro e w1 ⟨rfl, hb3⟩; have HX2 := hide (keep10 hb3 hl1 hl2 HX.out)))
          all_goals
            have c1 := hbd.trans (hb3.mono hbd.size)
            clear hq hb3
            go_wp2
            go_ret
            exact ⟨ret_bool (sameT_not k hlt hlt' (of_decide_eq_false HZ.out)).symm, c1⟩
        · go_wp2
          go_region_held3 (fun W => (W.cell? ⟨b1, o1 + k * 5, none⟩ = some (.slice pa ss[k].pa.length pc) ∧ W.cell? ⟨b1, o1 + k * 5 + 1, none⟩ = some (.bool ss[k].co) ∧ W.cell? ⟨b1, o1 + k * 5 + 2, none⟩ = some (.string ss[k].bo) ∧ W.cell? ⟨b1, o1 + k * 5 + 3, none⟩ = some (.int .i64 ss[k].ve) ∧ W.cell? ⟨b1, o1 + k * 5 + 4, none⟩ = some (.slice qa ss[k].ps.length qc)) ∧ (W.cell? ⟨b2, o2 + k * 5, none⟩ = some (.slice pa' tt[k].pa.length pc') ∧ W.cell? ⟨b2, o2 + k * 5 + 1, none⟩ = some (.bool tt[k].co) ∧ W.cell? ⟨b2, o2 + k * 5 + 2, none⟩ = some (.string tt[k].bo) ∧ W.cell? ⟨b2, o2 + k * 5 + 3, none⟩ = some (.int .i64 tt[k].ve) ∧ W.cell? ⟨b2, o2 + k * 5 + 4, none⟩ = some (.slice qa' tt[k].ps.length qc'))) (first | exact HX.out | exact HX2.out) ((go_at_call 37; refine hq.mono ?_; rintro e w1 ⟨rfl, hb3⟩; have HX2 := hide (keep10 hb3 hl1 hl2 HX.out)))
          all_goals
            have c1 := hbd.trans (hb3.mono hbd.size)
            clear hq hb3
            go_wp2
            go_roundw
            case rel => exact ⟨k + 1, by omega, by go_num, take_sameT k hlt hlt' HT.out (of_decide_eq_true HZ.out), c1⟩
            case measure => simp [intOf]; omega
      · go_wp2
        go_ret
        exact ⟨ret_bool (sameT_all HL.out k hlt HT.out).symm, hbe⟩
  · have HS := sameT_len hlen
    go_enter Tryz.func13, Tryz.ntmps13
    go_wp2
    go_ret
    exact ⟨ret_bool HS.symm, Below.refl _ _⟩
end Go.Proofs.YtepdfppbnepamabGreat
