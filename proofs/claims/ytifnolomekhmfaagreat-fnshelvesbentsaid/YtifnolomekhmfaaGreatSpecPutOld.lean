/-
  What spec.PutFile does where a file is put over another; and with that in all cases.
-/
import Derived.Test.YtifnolomekhmfaaGreatSpecPutFile
namespace Go.Proofs.YtifnolomekhmfaaGreat
open Go.RowKit M
set_option linter.unusedVariables false

set_option maxRecDepth 100000 in
set_option maxHeartbeats 4000000 in
theorem specPutFile_old (a : Option Addr) (rs : List Rs) (cap B : Nat) (b : Option Addr) (p : List ByteArray) (cap' : Nat) (bo : ByteArray) (v : Int) (w : World) (h : Rss w B a rs) (h' : Strs w B b p) (hB : B ≤ w.heap.size) (hs : ShortT rs) (hl : rs.length ≤ 1048576) (hlp : ∀ r ∈ rs, r.pa.length ≤ 1048576 ∧ r.ps.length ≤ 1048576) (hs' : Short p) (hl' : p.length ≤ 1048576) (hc : p.length ≤ cap') (hc' : cap' ≤ maxLen) (hn : b = none → cap' = 0) (hbo : bo.size ≤ maxLen) (hcc : fileI rs p bo v = 0) (h6 : ¬ findI rs p < 0) :
    Calls Tryz.prog 14 #[.slice a rs.length cap, .slice b p.length cap', .string bo, .int .i64 v] w fun e w' => TurnIs w w' e (putFR rs p bo v) (codeM (fileI rs p bo v) (okF (findI rs p))) ∧ Below w.heap.size w w' := by
  have hlm : rs.length ≤ maxLen := by unfold maxLen; omega
  have hlm' : p.length ≤ maxLen := by unfold maxLen; omega
  have hbo' := hbo
  unfold maxLen at hbo'
  have HM := hide (specMay_any a rs cap B b p cap' B v w h h' hB hB hs hlm (fun r hr => (hlp r hr).1) hs' hlm')
  have HF := hide (fun W (hb : Below w.heap.size w W) => specFind_any a rs cap B b p cap' B W (h.below hb hB) (h'.below hb hB) hlm hlm')
  have HJ := hide (fun W (hb : Below w.heap.size w W) => specIsColl_any a rs cap B b p cap' B W (h.below hb hB) (h'.below hb hB) hlm hlm')
  have HI := hide (fun W g c (x : RowS W g (aboveL p)) (hb : Below w.heap.size w W) => specIsColl_any a rs cap B (some ⟨g, 0, none⟩) (aboveL p) c W.heap.size W (h.below hb hB) (x.strs' x.1) hlm (by rw [aboveL_len]; unfold maxLen; omega))
  have h1 : mayI rs p v = 0 := by
    refine Classical.byContradiction fun e => ?_
    unfold fileI at hcc; rw [if_pos e] at hcc; exact e hcc
  have h2 : collB rs p = false := by
    cases e : collB rs p
    · rfl
    · unfold fileI at hcc; rw [if_neg (by simp [h1]), if_pos e] at hcc; exact absurd hcc (by decide)
  have h4 : collB rs (aboveL p) = true := by
    cases e : collB rs (aboveL p)
    · unfold fileI at hcc; rw [if_neg (by simp [h1]), if_neg (by simp [h2]), if_pos e] at hcc; exact absurd hcc (by decide)
    · rfl
  have h5 : ¬ 200 < bo.size := fun e => by
    unfold fileI at hcc; rw [if_neg (by simp [h1]), if_neg (by simp [h2]), if_neg (by simp [h4]), if_pos e] at hcc; exact absurd hcc (by decide)
  rw [h1] at HM
  simp only [h2] at HJ
  simp only [h4] at HI
  have h0 : 0 < p.length := by
    refine Nat.pos_of_ne_zero fun e => ?_
    rw [collB_root e] at h2
    cases h2
  obtain ⟨b2x, o2x, rfl, _, _⟩ := h' h0
  have HA := hide (fun W (hb : Below w.heap.size w W) => specAboveT_any b2x o2x p cap' B W (h'.below hb hB) (Nat.le_trans hB hb.size) hl' h0 hc hc')
  obtain ⟨k, hk, hfk⟩ : ∃ k, ∃ hk : k < rs.length, findI rs p = (k : Nat) := by
    rcases findI_cases rs p with e | ⟨k, hk, e, _⟩
    · exact absurd (by omega) h6
    · exact ⟨k, hk, e⟩
  have hfr : fileR rs p bo v = ⟨p, false, bo, v, rs[k].ps⟩ := by unfold fileR; rw [oldPs_at k hk hfk]
  have hlk := hlp _ (List.getElem_mem hk)
  obtain ⟨ba, oa, rfl, hba, hcells⟩ := h (by omega)
  obtain ⟨pa, pc, qa, qc, hat, hin⟩ := hcells k hk
  clear hcells
  have HAT := hide (fun W (hb : Below w.heap.size w W) => hat.of (w' := W) (fun o' => hb.cell (p := ⟨ba, o', none⟩) (Nat.lt_of_lt_of_le hba hB)))
  have HR := hide (fun (W W' : World) (vv : Value) (ts : List RsT) (hb : Below w.heap.size w W) (g : GrowR W' (W.heap.size + 1) vv ts W'.heap.size) (m : ts.map (·.r) = putR ⟨p, false, bo, v, rs[k].ps⟩ false rs) => show TurnIs w W' (.returned (.tuple #[vv, .int .i64 204])) (putFR rs p bo v) (codeM (fileI rs p bo v) (okF (findI rs p))) from ⟨vv, ts, W.heap.size + 1, by have := hb.size; omega, by unfold codeM; rw [if_pos hcc, okF_old h6], g, by unfold putFR; rw [if_pos hcc, hfr]; exact m⟩)
  have HP2 := hide (fun W (hb : Below w.heap.size w W) => show Calls Tryz.prog 71 #[.slice (some ⟨ba, oa, none⟩) rs.length cap, .agg #[.slice (some ⟨b2x, o2x, none⟩) p.length cap', .bool false, .string bo, .int .i64 v, .slice qa rs[k].ps.length qc]] W _ from specPutR_any (some ⟨ba, oa, none⟩) rs cap B W ⟨p, false, bo, v, rs[k].ps⟩ (some ⟨b2x, o2x, none⟩) cap' qa qc (h.below hb hB) ⟨h'.below hb hB, (hin.below hb hB).qh, hc, hin.ql, hc', hin.qm, hn, hin.qn⟩ (Nat.le_trans hB hb.size) hl hlp ⟨hl', hlk.2⟩)
  clear hcc h2 h4 hfr hin hat
  rw [hfk] at HF
  have HF' := hide (fun W hb => HF.out W hb)
  go_enter Tryz.func14, Tryz.ntmps14
  go_wp2_with fail
  refine HM.out.mono ?_
  rintro e w1 ⟨rfl, b1⟩
  have HF1 := hide (HF.out w1 b1)
  go_wp2_with fail
  refine HF1.out.mono ?_
  rintro e w2 ⟨rfl, b2'⟩
  have b2 := b1.trans (b2' w.heap.size)
  clear b2' HF1
  have HJ1 := hide (HJ.out w2 b2)
  go_wp2_with fail
  refine HJ1.out.mono ?_
  rintro e w3 ⟨rfl, b3'⟩
  have b3 := b2.trans (b3' w.heap.size)
  clear b3' HJ1
  have HA1 := hide (HA.out w3 b3)
  go_wp2_with fail
  refine HA1.out.mono ?_
  rintro e w4 ⟨⟨g4, c4, rfl, _, _, r4⟩, b4'⟩
  have b4 := b3.trans (b4'.mono b3.size)
  have HI1 := hide (HI.out w4 g4 c4 r4 b4)
  clear b4' HA1 r4
  go_wp2_with fail
  refine HI1.out.mono ?_
  rintro e w5 ⟨rfl, b5'⟩
  have b5 := b4.trans (b5' w.heap.size)
  clear b5' HI1
  have b6 := b5.alloc b5.size (Obj.cells #[.slice (some ⟨b2x, o2x, none⟩) p.length cap', .bool false, .string bo, .int .i64 v, .slice none 0 0] 62)
  have c4' := (HAT.out _ b6).2.2.2.2
  have b7 := b5.alloc b5.size (Obj.cells #[.slice (some ⟨b2x, o2x, none⟩) p.length cap', .bool false, .string bo, .int .i64 v, .slice qa rs[k].ps.length qc] 62)
  have HP3 := hide (HP2.out _ b7)
  have B6 := hide b7
  clear b6 b7
  go_wp2_with fail
  refine HP3.out.mono ?_
  rintro e wz ⟨⟨vv, ts, rfl, hg, hm⟩, bz⟩
  have T := hide (HR.out _ wz vv ts B6.out hg hm)
  have cz := B6.out.trans (bz.mono B6.out.size)
  clear hg hm bz HP3
  go_wp2
  go_ret2
  exact ⟨T.out, cz⟩

theorem specPutFile_any (a : Option Addr) (rs : List Rs) (cap B : Nat) (b : Option Addr) (p : List ByteArray) (cap' : Nat) (bo : ByteArray) (v : Int) (w : World) (h : Rss w B a rs) (h' : Strs w B b p) (hB : B ≤ w.heap.size) (hs : ShortT rs) (hl : rs.length ≤ 1048576) (hlp : ∀ r ∈ rs, r.pa.length ≤ 1048576 ∧ r.ps.length ≤ 1048576) (hs' : Short p) (hl' : p.length ≤ 1048576) (hc : p.length ≤ cap') (hc' : cap' ≤ maxLen) (hn : b = none → cap' = 0) (hbo : bo.size ≤ maxLen) :
    Calls Tryz.prog 14 #[.slice a rs.length cap, .slice b p.length cap', .string bo, .int .i64 v] w fun e w' => TurnIs w w' e (putFR rs p bo v) (codeM (fileI rs p bo v) (okF (findI rs p))) ∧ Below w.heap.size w w' := by
  by_cases h6 : findI rs p < 0
  · exact specPutFile_new a rs cap B b p cap' bo v w h h' hB hs hl hlp hs' hl' hc hc' hn hbo (.inr h6)
  by_cases hcc : fileI rs p bo v = 0
  · exact specPutFile_old a rs cap B b p cap' bo v w h h' hB hs hl hlp hs' hl' hc hc' hn hbo hcc h6
  · exact specPutFile_new a rs cap B b p cap' bo v w h h' hB hs hl hlp hs' hl' hc hc' hn hbo (.inl hcc)
end Go.Proofs.YtifnolomekhmfaaGreat
