/-
  What a turn of the specification hands back.
  What spec.MakeColl does.
  What spec.PutFile does where it refuses, and where nothing was there yet.
  What spec.PutFile does where a file is put over another; and with that in all cases.
  Whether a list of texts stands under another.
  What stands right on a path, and what is deep there.
  What stands on a path of right things: no program in sight.
  What stays, what comes, and all of it in order: no program in sight.
  How much what is handed back may be.
  Things that are drawn: they are right, and lie behind the cursor.
  Right shelves that are drawn, and two paths.
  Whether two slices of texts hold the same: what laws.sameTexts does.
-/
import Derived.Test.YtclnpfpaabmkcaaGreatSpecCopyAll
import Derived.Test.YtclnpfpaabmkcaaGreatSpecPutR
import Derived.Test.YtclnpfpaabmkcaaGreatSpecPathOk
import Derived.Test.YtclnpfpaabmkcaaGreatHide
import Derived.Test.YtclnpfpaabmkcaaGreatMathOrder
import Derived.Test.YtclnpfpaabmkcaaGreatEqBs
namespace Go.Proofs.YtclnpfpaabmkcaaGreat
open Go.RowKit M
/-- What such a call answers: a row of its own, and a code. -/
def TurnIs (w w' : World) (e : Ending) (rs : List Rs) (c : Int) : Prop := ∃ (v : Value) (ts : List RsT) (base : Nat), w.heap.size ≤ base ∧ e = .returned (.tuple #[v, .int .i64 c]) ∧ GrowR w' base v ts w'.heap.size ∧ ts.map (·.r) = rs
def codeM (c ok : Int) : Int := if c = 0 then ok else c

/-- what a put answers when it puts -/
def okF (F : Int) : Int := if F < 0 then 201 else 204
theorem okF_new {F : Int} (h : F < 0) : okF F = 201 := by unfold okF; rw [if_pos h]
theorem okF_old {F : Int} (h : ¬ F < 0) : okF F = 204 := by unfold okF; rw [if_neg h]
end Go.Proofs.YtclnpfpaabmkcaaGreat
namespace Go.Proofs.YtclnpfpaabmkcaaGreat
open Go.RowKit M
set_option linter.unusedVariables false

set_option maxRecDepth 100000 in
set_option maxHeartbeats 4000000 in
theorem specMakeColl_any (a : Option Addr) (rs : List Rs) (cap B : Nat) (b : Option Addr) (p : List ByteArray) (cap' : Nat) (v : Int) (w : World) (h : Rss w B a rs) (h' : Strs w B b p) (hB : B ≤ w.heap.size) (hs : ShortT rs) (hl : rs.length ≤ 1048576) (hlp : ∀ r ∈ rs, r.pa.length ≤ 1048576 ∧ r.ps.length ≤ 1048576) (hs' : Short p) (hl' : p.length ≤ 1048576) (hc : p.length ≤ cap') (hc' : cap' ≤ maxLen) (hn : b = none → cap' = 0) :
    Calls Tryz.prog 27 #[.slice a rs.length cap, .slice b p.length cap', .int .i64 v] w fun e w' => TurnIs w w' e (makeR rs p v) (codeM (collI rs p v) 201) ∧ Below w.heap.size w w' := by
  have hlm : rs.length ≤ maxLen := by unfold maxLen; omega
  have hlm' : p.length ≤ maxLen := by unfold maxLen; omega
  have HM := hide (specMay_any a rs cap B b p cap' B v w h h' hB hB hs hlm (fun r hr => (hlp r hr).1) hs' hlm')
  have HF := hide (fun W (hb : Below w.heap.size w W) => specFind_any a rs cap B b p cap' B W (h.below hb hB) (h'.below hb hB) hlm hlm')
  have HC := hide (fun W (hb : Below w.heap.size w W) => specCopyAll_any a rs cap B W (h.below hb hB) (Nat.le_trans hB hb.size) hl hlp)
  have HI := hide (fun W g c (x : RowS W g (aboveL p)) (hb : Below w.heap.size w W) => specIsColl_any a rs cap B (some ⟨g, 0, none⟩) (aboveL p) c W.heap.size W (h.below hb hB) (x.strs' x.1) hlm (by rw [aboveL_len]; unfold maxLen; omega))
  have HP := hide (fun W (hb : Below w.heap.size w W) => specPutR_any a rs cap B W (shelfR p v) b cap' none 0 (h.below hb hB) ⟨h'.below hb hB, Pps.nil _ _ _, hc, Nat.le_refl _, hc', Nat.zero_le _, hn, fun _ => rfl⟩ (Nat.le_trans hB hb.size) hl hlp ⟨hl', Nat.zero_le _⟩)
  -- what is refused: a copy of all
  have REF := hide (fun (W W' : World) (c : Int) (vv : Value) (ts : List RsT) (hcc : collI rs p v = c) (hne : ¬ c = 0) (hb : Below w.heap.size w W) (g : GrowR W' W.heap.size vv ts W'.heap.size) (m : ts.map (·.r) = rs) => show TurnIs w W' (.returned (.tuple #[vv, .int .i64 c])) (makeR rs p v) (codeM (collI rs p v) 201) from ⟨vv, ts, W.heap.size, hb.size, by unfold codeM; rw [hcc, if_neg hne], g, by unfold makeR; rw [if_neg (by rw [hcc]; exact hne)]; exact m⟩)
  by_cases h1 : mayI rs p v = 0
  rotate_left
  · have hcc : collI rs p v = mayI rs p v := by unfold collI; rw [if_pos h1]
    have HR := hide (fun W W' vv ts => REF.out W W' _ vv ts hcc h1)
    clear hcc REF HF HI HP
    generalize mayI rs p v = M at *
    go_enter Tryz.func27, Tryz.ntmps27
    go_wp2_with fail
    refine HM.out.mono ?_
    rintro e w1 ⟨rfl, b1⟩
    have HC1 := hide (HC.out w1 b1)
    go_wp2_with fail
    refine HC1.out.mono ?_
    rintro e w2 ⟨⟨vv, ts, rfl, hg, hm⟩, b2⟩
    have T := hide (HR.out w1 w2 vv ts b1 hg hm)
    have c2 := b1.trans (b2.mono b1.size)
    clear hg hm b2 HC1
    go_wp2
    go_ret2
    exact ⟨T.out, c2⟩
  rw [h1] at HM
  by_cases h2 : p.length = 0
  · have hcc : collI rs p v = 405 := by unfold collI; rw [if_neg (by simp [h1]), if_pos (.inl h2)]
    have HR := hide (fun W W' vv ts => REF.out W W' _ vv ts hcc (by decide))
    have hp0 : ((p.length : Int) == 0) = true := by rw [beq_iff_eq]; omega
    clear hcc REF HF HI HP h2
    go_enter Tryz.func27, Tryz.ntmps27
    go_wp2_with fail
    refine HM.out.mono ?_
    rintro e w1 ⟨rfl, b1⟩
    have HC1 := hide (HC.out w1 b1)
    go_wp2_with fail
    refine HC1.out.mono ?_
    rintro e wz ⟨⟨vv, ts, rfl, hg, hm⟩, bz⟩
    have T := hide (HR.out w1 wz vv ts b1 hg hm)
    have cz := b1.trans (bz.mono b1.size)
    clear hg hm bz HC1
    go_wp2
    go_ret2
    exact ⟨T.out, cz⟩
  have hp0 : ((p.length : Int) == 0) = false := by rw [beq_eq_false_iff_ne]; omega
  by_cases h3 : 0 ≤ findI rs p
  · have hcc : collI rs p v = 405 := by unfold collI; rw [if_neg (by simp [h1]), if_pos (.inr h3)]
    have HR := hide (fun W W' vv ts => REF.out W W' _ vv ts hcc (by decide))
    clear hcc REF HI HP h2
    generalize findI rs p = F at *
    go_enter Tryz.func27, Tryz.ntmps27
    go_wp2_with fail
    refine HM.out.mono ?_
    rintro e w1 ⟨rfl, b1⟩
    have HF1 := hide (HF.out w1 b1)
    go_wp2_with fail
    refine HF1.out.mono ?_
    rintro e w2 ⟨rfl, b2'⟩
    have b2 := b1.trans (b2' w.heap.size)
    clear b2' HF1
    have HC1 := hide (HC.out w2 b2)
    go_wp2_with fail
    refine HC1.out.mono ?_
    rintro e wz ⟨⟨vv, ts, rfl, hg, hm⟩, bz⟩
    have T := hide (HR.out w2 wz vv ts b2 hg hm)
    have cz := b2.trans (bz.mono b2.size)
    clear hg hm bz HC1
    go_wp2
    go_ret2
    exact ⟨T.out, cz⟩
  obtain ⟨b2x, o2x, rfl, _, _⟩ := h' (by omega)
  have HA := hide (fun W (hb : Below w.heap.size w W) => specAboveT_any b2x o2x p cap' B W (h'.below hb hB) (Nat.le_trans hB hb.size) hl' (by omega) hc hc')
  cases h4 : collB rs (aboveL p)
  · have hcc : collI rs p v = 409 := by unfold collI; rw [if_neg (by simp [h1]), if_neg (by omega), if_pos h4]
    have HR := hide (fun W W' vv ts => REF.out W W' _ vv ts hcc (by decide))
    simp only [h4] at HI
    clear hcc REF HP h2 h4
    generalize findI rs p = F at *
    go_enter Tryz.func27, Tryz.ntmps27
    go_wp2_with fail
    refine HM.out.mono ?_
    rintro e w1 ⟨rfl, b1⟩
    have HF1 := hide (HF.out w1 b1)
    go_wp2_with fail
    refine HF1.out.mono ?_
    rintro e w2 ⟨rfl, b2'⟩
    have b2 := b1.trans (b2' w.heap.size)
    clear b2' HF1
    have HA1 := hide (HA.out w2 b2)
    go_wp2_with fail
    refine HA1.out.mono ?_
    rintro e w3 ⟨⟨g3, c3, rfl, _, _, r3⟩, b3'⟩
    have b3 := b2.trans (b3'.mono b2.size)
    have HI1 := hide (HI.out w3 g3 c3 r3 b3)
    clear b3' HA1 r3
    go_wp2_with fail
    refine HI1.out.mono ?_
    rintro e w4 ⟨rfl, b4'⟩
    have b4 := b3.trans (b4' w.heap.size)
    clear b4' HI1
    have HC1 := hide (HC.out w4 b4)
    go_wp2_with fail
    refine HC1.out.mono ?_
    rintro e wz ⟨⟨vv, ts, rfl, hg, hm⟩, bz⟩
    have T := hide (HR.out w4 wz vv ts b4 hg hm)
    have cz := b4.trans (bz.mono b4.size)
    clear hg hm bz HC1
    go_wp2
    go_ret2
    exact ⟨T.out, cz⟩
  simp only [h4] at HI
  by_cases h5 : 12 ≤ rs.length
  · have hcc : collI rs p v = 507 := by unfold collI; rw [if_neg (by simp [h1]), if_neg (by omega), if_neg (by simp [h4]), if_pos h5]
    have HR := hide (fun W W' vv ts => REF.out W W' _ vv ts hcc (by decide))
    clear hcc REF HP h2 h4
    generalize findI rs p = F at *
    go_enter Tryz.func27, Tryz.ntmps27
    go_wp2_with fail
    refine HM.out.mono ?_
    rintro e w1 ⟨rfl, b1⟩
    have HF1 := hide (HF.out w1 b1)
    go_wp2_with fail
    refine HF1.out.mono ?_
    rintro e w2 ⟨rfl, b2'⟩
    have b2 := b1.trans (b2' w.heap.size)
    clear b2' HF1
    have HA1 := hide (HA.out w2 b2)
    go_wp2_with fail
    refine HA1.out.mono ?_
    rintro e w3 ⟨⟨g3, c3, rfl, _, _, r3⟩, b3'⟩
    have b3 := b2.trans (b3'.mono b2.size)
    have HI1 := hide (HI.out w3 g3 c3 r3 b3)
    clear b3' HA1 r3
    go_wp2_with fail
    refine HI1.out.mono ?_
    rintro e w4 ⟨rfl, b4'⟩
    have b4 := b3.trans (b4' w.heap.size)
    clear b4' HI1
    have HC1 := hide (HC.out w4 b4)
    go_wp2_with fail
    refine HC1.out.mono ?_
    rintro e wz ⟨⟨vv, ts, rfl, hg, hm⟩, bz⟩
    have T := hide (HR.out w4 wz vv ts b4 hg hm)
    have cz := b4.trans (bz.mono b4.size)
    clear hg hm bz HC1
    go_wp2
    go_ret2
    exact ⟨T.out, cz⟩
  have hcc : collI rs p v = 0 := by unfold collI; rw [if_neg (by simp [h1]), if_neg (by omega), if_neg (by simp [h4]), if_neg h5]
  have HR := hide (fun (W W' : World) (vv : Value) (ts : List RsT) (hb : Below w.heap.size w W) (g : GrowR W' (W.heap.size + 1) vv ts W'.heap.size) (m : ts.map (·.r) = putR (shelfR p v) false rs) => show TurnIs w W' (.returned (.tuple #[vv, .int .i64 201])) (makeR rs p v) (codeM (collI rs p v) 201) from ⟨vv, ts, W.heap.size + 1, by have := hb.size; omega, by unfold codeM; rw [if_pos hcc], g, by unfold makeR; rw [if_pos hcc]; exact m⟩)
  clear hcc REF HC h2 h4
  have HP2 := hide (fun W (hb : Below w.heap.size w W) => show Calls Tryz.prog 85 #[.slice a rs.length cap, .agg #[.slice (some ⟨b2x, o2x, none⟩) p.length cap', .bool true, .string { data := #[] }, .int .i64 v, .slice none 0 0]] W _ from HP.out W hb)
  clear HP
  generalize findI rs p = F at *
  go_enter Tryz.func27, Tryz.ntmps27
  go_wp2_with fail
  refine HM.out.mono ?_
  rintro e w1 ⟨rfl, b1⟩
  have HF1 := hide (HF.out w1 b1)
  go_wp2_with fail
  refine HF1.out.mono ?_
  rintro e w2 ⟨rfl, b2'⟩
  have b2 := b1.trans (b2' w.heap.size)
  clear b2' HF1
  have HA1 := hide (HA.out w2 b2)
  go_wp2_with fail
  refine HA1.out.mono ?_
  rintro e w3 ⟨⟨g3, c3, rfl, _, _, r3⟩, b3'⟩
  have b3 := b2.trans (b3'.mono b2.size)
  have HI1 := hide (HI.out w3 g3 c3 r3 b3)
  clear b3' HA1 r3
  go_wp2_with fail
  refine HI1.out.mono ?_
  rintro e w4 ⟨rfl, b4'⟩
  have b4 := b3.trans (b4' w.heap.size)
  clear b4' HI1
  have HP3 := hide (HP2.out w4 b4)
  go_wp2_with fail
  refine HP3.out.mono ?_
  rintro e wz ⟨⟨vv, ts, rfl, hg, hm⟩, bz⟩
  have T := hide (HR.out w4 wz vv ts b4 hg hm)
  have cz := b4.trans (bz.mono b4.size)
  clear hg hm bz HP3
  go_wp2
  go_ret2
  exact ⟨T.out, cz⟩
end Go.Proofs.YtclnpfpaabmkcaaGreat
namespace Go.Proofs.YtclnpfpaabmkcaaGreat
open Go.RowKit M
set_option linter.unusedVariables false

theorem oldPs_at {rs : List Rs} {p : List ByteArray} (k : Nat) (hk : k < rs.length) (h : findI rs p = k) : oldPs rs p = rs[k].ps := by
  unfold findI at h
  by_cases h' : rs.findIdx (isAt p) < rs.length
  · rw [if_pos h'] at h
    have e : rs.findIdx (isAt p) = k := by omega
    unfold oldPs
    rw [find_of_findIdx h']
    simp [e]
  · rw [if_neg h'] at h; omega
theorem oldPs_none {rs : List Rs} {p : List ByteArray} (h : findI rs p < 0) : oldPs rs p = [] := by
  unfold findI at h
  by_cases h' : rs.findIdx (isAt p) < rs.length
  · rw [if_pos h'] at h; omega
  · unfold oldPs
    have : rs.find? (isAt p) = none := by
      rw [List.find?_eq_none]
      intro x hx hq
      exact h' (List.findIdx_lt_length_of_exists ⟨x, hx, hq⟩)
    rw [this]

set_option maxRecDepth 100000 in
set_option maxHeartbeats 4000000 in
theorem specPutFile_new (a : Option Addr) (rs : List Rs) (cap B : Nat) (b : Option Addr) (p : List ByteArray) (cap' : Nat) (bo : ByteArray) (v : Int) (w : World) (h : Rss w B a rs) (h' : Strs w B b p) (hB : B ≤ w.heap.size) (hs : ShortT rs) (hl : rs.length ≤ 1048576) (hlp : ∀ r ∈ rs, r.pa.length ≤ 1048576 ∧ r.ps.length ≤ 1048576) (hs' : Short p) (hl' : p.length ≤ 1048576) (hc : p.length ≤ cap') (hc' : cap' ≤ maxLen) (hn : b = none → cap' = 0) (hbo : bo.size ≤ maxLen) (hq : ¬ fileI rs p bo v = 0 ∨ findI rs p < 0) :
    Calls Tryz.prog 24 #[.slice a rs.length cap, .slice b p.length cap', .string bo, .int .i64 v] w fun e w' => TurnIs w w' e (putFR rs p bo v) (codeM (fileI rs p bo v) (okF (findI rs p))) ∧ Below w.heap.size w w' := by
  have hlm : rs.length ≤ maxLen := by unfold maxLen; omega
  have hlm' : p.length ≤ maxLen := by unfold maxLen; omega
  have hbo' := hbo
  unfold maxLen at hbo'
  have HM := hide (specMay_any a rs cap B b p cap' B v w h h' hB hB hs hlm (fun r hr => (hlp r hr).1) hs' hlm')
  have HF := hide (fun W (hb : Below w.heap.size w W) => specFind_any a rs cap B b p cap' B W (h.below hb hB) (h'.below hb hB) hlm hlm')
  have HJ := hide (fun W (hb : Below w.heap.size w W) => specIsColl_any a rs cap B b p cap' B W (h.below hb hB) (h'.below hb hB) hlm hlm')
  have HC := hide (fun W (hb : Below w.heap.size w W) => specCopyAll_any a rs cap B W (h.below hb hB) (Nat.le_trans hB hb.size) hl hlp)
  have HI := hide (fun W g c (x : RowS W g (aboveL p)) (hb : Below w.heap.size w W) => specIsColl_any a rs cap B (some ⟨g, 0, none⟩) (aboveL p) c W.heap.size W (h.below hb hB) (x.strs' x.1) hlm (by rw [aboveL_len]; unfold maxLen; omega))
  have REF := hide (fun (W W' : World) (c : Int) (vv : Value) (ts : List RsT) (hcc : fileI rs p bo v = c) (hne : ¬ c = 0) (hb : Below w.heap.size w W) (g : GrowR W' W.heap.size vv ts W'.heap.size) (m : ts.map (·.r) = rs) => show TurnIs w W' (.returned (.tuple #[vv, .int .i64 c])) (putFR rs p bo v) (codeM (fileI rs p bo v) (okF (findI rs p))) from ⟨vv, ts, W.heap.size, hb.size, by unfold codeM; rw [hcc, if_neg hne], g, by unfold putFR; rw [if_neg (by rw [hcc]; exact hne)]; exact m⟩)
  by_cases h1 : mayI rs p v = 0
  rotate_left
  · have hcc : fileI rs p bo v = mayI rs p v := by unfold fileI; rw [if_pos h1]
    have HR := hide (fun W W' vv ts => REF.out W W' _ vv ts hcc h1)
    clear hcc REF HI
    generalize mayI rs p v = M at *
    generalize findI rs p = F at *
    go_enter Tryz.func24, Tryz.ntmps24
    go_wp2_with fail
    refine HM.out.mono ?_
    rintro e w1 ⟨rfl, b1⟩
    have HF1 := hide (HF.out w1 b1)
    go_wp2_with fail
    refine HF1.out.mono ?_
    rintro e w2 ⟨rfl, b2'⟩
    have b2 := b1.trans (b2' w.heap.size)
    clear b2' HF1
    have HC1 := hide (HC.out w2 b2)
    go_wp2_with fail
    refine HC1.out.mono ?_
    rintro e wz ⟨⟨vv, ts, rfl, hg, hm⟩, bz⟩
    have T := hide (HR.out w2 wz vv ts b2 hg hm)
    have cz := b2.trans (bz.mono b2.size)
    clear hg hm bz HC1
    go_wp2
    go_ret2
    exact ⟨T.out, cz⟩
  rw [h1] at HM
  cases h2 : collB rs p
  rotate_left
  · have hcc : fileI rs p bo v = 405 := by unfold fileI; rw [if_neg (by simp [h1]), if_pos h2]
    have HR := hide (fun W W' vv ts => REF.out W W' _ vv ts hcc (by decide))
    clear hcc REF
    simp only [h2] at HJ
    clear HI h2
    generalize findI rs p = F at *
    go_enter Tryz.func24, Tryz.ntmps24
    go_wp2_with fail
    refine HM.out.mono ?_
    rintro e w1 ⟨rfl, b1⟩
    have HF1 := hide (HF.out w1 b1)
    go_wp2_with fail
    refine HF1.out.mono ?_
    rintro e w2 ⟨rfl, b2'⟩
    have b2 := b1.trans (b2' w.heap.size)
    clear b2' HF1
    have HJ1 := hide (HJ.out w2 b2)
    go_wp2_with fail
    refine HJ1.out.mono ?_
    rintro e w3 ⟨rfl, b3'⟩
    have b3 := b2.trans (b3' w.heap.size)
    clear b3' HJ1
    have HC1 := hide (HC.out w3 b3)
    go_wp2_with fail
    refine HC1.out.mono ?_
    rintro e wz ⟨⟨vv, ts, rfl, hg, hm⟩, bz⟩
    have T := hide (HR.out w3 wz vv ts b3 hg hm)
    have cz := b3.trans (bz.mono b3.size)
    clear hg hm bz HC1
    go_wp2
    go_ret2
    exact ⟨T.out, cz⟩
  simp only [h2] at HJ
  have h0 : 0 < p.length := by
    refine Nat.pos_of_ne_zero fun e => ?_
    rw [collB_root e] at h2
    cases h2
  obtain ⟨b2x, o2x, rfl, _, _⟩ := h' h0
  have HA := hide (fun W (hb : Below w.heap.size w W) => specAboveT_any b2x o2x p cap' B W (h'.below hb hB) (Nat.le_trans hB hb.size) hl' h0 hc hc')
  cases h4 : collB rs (aboveL p)
  · have hcc : fileI rs p bo v = 409 := by unfold fileI; rw [if_neg (by simp [h1]), if_neg (by simp [h2]), if_pos h4]
    have HR := hide (fun W W' vv ts => REF.out W W' _ vv ts hcc (by decide))
    clear hcc REF
    simp only [h4] at HI
    clear h2 h4
    generalize findI rs p = F at *
    go_enter Tryz.func24, Tryz.ntmps24
    go_wp2_with fail
    refine HM.out.mono ?_
    rintro e w1 ⟨rfl, b1⟩
    have HF1 := hide (HF.out w1 b1)
    go_wp2_with fail
    refine HF1.out.mono ?_
    rintro e w2 ⟨rfl, b2'⟩
    have b2 := b1.trans (b2' w.heap.size)
    clear b2' HF1
    have HJ1 := hide (HJ.out w2 b2)
    go_wp2_with fail
    refine HJ1.out.mono ?_
    rintro e w3 ⟨rfl, b3'⟩
    have b3 := b2.trans (b3' w.heap.size)
    clear b3' HJ1
    have HA1 := hide (HA.out w3 b3)
    go_wp2_with fail
    refine HA1.out.mono ?_
    rintro e w4 ⟨⟨g4, c4, rfl, _, _, r4⟩, b4'⟩
    have b4 := b3.trans (b4'.mono b3.size)
    have HI1 := hide (HI.out w4 g4 c4 r4 b4)
    clear b4' HA1 r4
    go_wp2_with fail
    refine HI1.out.mono ?_
    rintro e w5 ⟨rfl, b5'⟩
    have b5 := b4.trans (b5' w.heap.size)
    clear b5' HI1
    have HC1 := hide (HC.out w5 b5)
    go_wp2_with fail
    refine HC1.out.mono ?_
    rintro e wz ⟨⟨vv, ts, rfl, hg, hm⟩, bz⟩
    have T := hide (HR.out w5 wz vv ts b5 hg hm)
    have cz := b5.trans (bz.mono b5.size)
    clear hg hm bz HC1
    go_wp2
    go_ret2
    exact ⟨T.out, cz⟩
  simp only [h4] at HI
  by_cases h5 : 200 < bo.size
  · have hcc : fileI rs p bo v = 413 := by unfold fileI; rw [if_neg (by simp [h1]), if_neg (by simp [h2]), if_neg (by simp [h4]), if_pos h5]
    have HR := hide (fun W W' vv ts => REF.out W W' _ vv ts hcc (by decide))
    clear hcc REF
    clear h2 h4
    generalize findI rs p = F at *
    go_enter Tryz.func24, Tryz.ntmps24
    go_wp2_with fail
    refine HM.out.mono ?_
    rintro e w1 ⟨rfl, b1⟩
    have HF1 := hide (HF.out w1 b1)
    go_wp2_with fail
    refine HF1.out.mono ?_
    rintro e w2 ⟨rfl, b2'⟩
    have b2 := b1.trans (b2' w.heap.size)
    clear b2' HF1
    have HJ1 := hide (HJ.out w2 b2)
    go_wp2_with fail
    refine HJ1.out.mono ?_
    rintro e w3 ⟨rfl, b3'⟩
    have b3 := b2.trans (b3' w.heap.size)
    clear b3' HJ1
    have HA1 := hide (HA.out w3 b3)
    go_wp2_with fail
    refine HA1.out.mono ?_
    rintro e w4 ⟨⟨g4, c4, rfl, _, _, r4⟩, b4'⟩
    have b4 := b3.trans (b4'.mono b3.size)
    have HI1 := hide (HI.out w4 g4 c4 r4 b4)
    clear b4' HA1 r4
    go_wp2_with fail
    refine HI1.out.mono ?_
    rintro e w5 ⟨rfl, b5'⟩
    have b5 := b4.trans (b5' w.heap.size)
    clear b5' HI1
    have HC1 := hide (HC.out w5 b5)
    go_wp2_with fail
    refine HC1.out.mono ?_
    rintro e wz ⟨⟨vv, ts, rfl, hg, hm⟩, bz⟩
    have T := hide (HR.out w5 wz vv ts b5 hg hm)
    have cz := b5.trans (bz.mono b5.size)
    clear hg hm bz HC1
    go_wp2
    go_ret2
    exact ⟨T.out, cz⟩
  by_cases h6 : findI rs p < 0
  · by_cases h7 : 12 ≤ rs.length
    · have hcc : fileI rs p bo v = 507 := by unfold fileI; rw [if_neg (by simp [h1]), if_neg (by simp [h2]), if_neg (by simp [h4]), if_neg h5, if_pos ⟨h6, h7⟩]
      have HR := hide (fun W W' vv ts => REF.out W W' _ vv ts hcc (by decide))
      clear hcc REF
      clear h2 h4
      generalize findI rs p = F at *
      go_enter Tryz.func24, Tryz.ntmps24
      go_wp2_with fail
      refine HM.out.mono ?_
      rintro e w1 ⟨rfl, b1⟩
      have HF1 := hide (HF.out w1 b1)
      go_wp2_with fail
      refine HF1.out.mono ?_
      rintro e w2 ⟨rfl, b2'⟩
      have b2 := b1.trans (b2' w.heap.size)
      clear b2' HF1
      have HJ1 := hide (HJ.out w2 b2)
      go_wp2_with fail
      refine HJ1.out.mono ?_
      rintro e w3 ⟨rfl, b3'⟩
      have b3 := b2.trans (b3' w.heap.size)
      clear b3' HJ1
      have HA1 := hide (HA.out w3 b3)
      go_wp2_with fail
      refine HA1.out.mono ?_
      rintro e w4 ⟨⟨g4, c4, rfl, _, _, r4⟩, b4'⟩
      have b4 := b3.trans (b4'.mono b3.size)
      have HI1 := hide (HI.out w4 g4 c4 r4 b4)
      clear b4' HA1 r4
      go_wp2_with fail
      refine HI1.out.mono ?_
      rintro e w5 ⟨rfl, b5'⟩
      have b5 := b4.trans (b5' w.heap.size)
      clear b5' HI1
      have HC1 := hide (HC.out w5 b5)
      go_wp2_with fail
      refine HC1.out.mono ?_
      rintro e wz ⟨⟨vv, ts, rfl, hg, hm⟩, bz⟩
      have T := hide (HR.out w5 wz vv ts b5 hg hm)
      have cz := b5.trans (bz.mono b5.size)
      clear hg hm bz HC1
      go_wp2
      go_ret2
      exact ⟨T.out, cz⟩
    · have hcc : fileI rs p bo v = 0 := by unfold fileI; rw [if_neg (by simp [h1]), if_neg (by simp [h2]), if_neg (by simp [h4]), if_neg h5, if_neg (fun x => h7 x.2)]
      have hfr : fileR rs p bo v = ⟨p, false, bo, v, []⟩ := by unfold fileR; rw [oldPs_none h6]
      have HR := hide (fun (W W' : World) (vv : Value) (ts : List RsT) (hb : Below w.heap.size w W) (g : GrowR W' (W.heap.size + 1) vv ts W'.heap.size) (m : ts.map (·.r) = putR ⟨p, false, bo, v, []⟩ false rs) => show TurnIs w W' (.returned (.tuple #[vv, .int .i64 201])) (putFR rs p bo v) (codeM (fileI rs p bo v) (okF (findI rs p))) from ⟨vv, ts, W.heap.size + 1, by have := hb.size; omega, by unfold codeM; rw [if_pos hcc, okF_new h6], g, by unfold putFR; rw [if_pos hcc, hfr]; exact m⟩)
      have HP2 := hide (fun W (hb : Below w.heap.size w W) => show Calls Tryz.prog 85 #[.slice a rs.length cap, .agg #[.slice (some ⟨b2x, o2x, none⟩) p.length cap', .bool false, .string bo, .int .i64 v, .slice none 0 0]] W _ from specPutR_any a rs cap B W ⟨p, false, bo, v, []⟩ (some ⟨b2x, o2x, none⟩) cap' none 0 (h.below hb hB) ⟨h'.below hb hB, Pps.nil _ _ _, hc, Nat.le_refl _, hc', Nat.zero_le _, hn, fun _ => rfl⟩ (Nat.le_trans hB hb.size) hl hlp ⟨hl', Nat.zero_le _⟩)
      clear hcc REF HC h2 h4 hfr
      generalize findI rs p = F at *
      go_enter Tryz.func24, Tryz.ntmps24
      go_wp2_with fail
      refine HM.out.mono ?_
      rintro e w1 ⟨rfl, b1⟩
      have HF1 := hide (HF.out w1 b1)
      go_wp2_with fail
      refine HF1.out.mono ?_
      rintro e w2 ⟨rfl, b2'⟩
      have b2 := b1.trans (b2' w.heap.size)
      clear b2' HF1
      have HJ1 := hide (HJ.out w2 b2)
      go_wp2_with fail
      refine HJ1.out.mono ?_
      rintro e w3 ⟨rfl, b3'⟩
      have b3 := b2.trans (b3' w.heap.size)
      clear b3' HJ1
      have HA1 := hide (HA.out w3 b3)
      go_wp2_with fail
      refine HA1.out.mono ?_
      rintro e w4 ⟨⟨g4, c4, rfl, _, _, r4⟩, b4'⟩
      have b4 := b3.trans (b4'.mono b3.size)
      have HI1 := hide (HI.out w4 g4 c4 r4 b4)
      clear b4' HA1 r4
      go_wp2_with fail
      refine HI1.out.mono ?_
      rintro e w5 ⟨rfl, b5'⟩
      have b5 := b4.trans (b5' w.heap.size)
      clear b5' HI1
      have b6 := b5.alloc b5.size (Obj.cells #[.slice (some ⟨b2x, o2x, none⟩) p.length cap', .bool false, .string bo, .int .i64 v, .slice none 0 0] 35)
      have HP3 := hide (HP2.out _ b6)
      have B6 := hide b6
      clear b6
      go_wp2_with fail
      refine HP3.out.mono ?_
      rintro e wz ⟨⟨vv, ts, rfl, hg, hm⟩, bz⟩
      have T := hide (HR.out _ wz vv ts B6.out hg hm)
      have cz := B6.out.trans (bz.mono B6.out.size)
      clear hg hm bz HP3
      go_wp2
      go_ret2
      exact ⟨T.out, cz⟩
  · exfalso
    rcases hq with hq | hq
    · exact hq (by unfold fileI; rw [if_neg (by simp [h1]), if_neg (by simp [h2]), if_neg (by simp [h4]), if_neg h5, if_neg (fun x => h6 x.1)])
    · exact h6 hq
end Go.Proofs.YtclnpfpaabmkcaaGreat
namespace Go.Proofs.YtclnpfpaabmkcaaGreat
open Go.RowKit M
set_option linter.unusedVariables false

set_option maxRecDepth 100000 in
set_option maxHeartbeats 4000000 in
theorem specPutFile_old (a : Option Addr) (rs : List Rs) (cap B : Nat) (b : Option Addr) (p : List ByteArray) (cap' : Nat) (bo : ByteArray) (v : Int) (w : World) (h : Rss w B a rs) (h' : Strs w B b p) (hB : B ≤ w.heap.size) (hs : ShortT rs) (hl : rs.length ≤ 1048576) (hlp : ∀ r ∈ rs, r.pa.length ≤ 1048576 ∧ r.ps.length ≤ 1048576) (hs' : Short p) (hl' : p.length ≤ 1048576) (hc : p.length ≤ cap') (hc' : cap' ≤ maxLen) (hn : b = none → cap' = 0) (hbo : bo.size ≤ maxLen) (hcc : fileI rs p bo v = 0) (h6 : ¬ findI rs p < 0) :
    Calls Tryz.prog 24 #[.slice a rs.length cap, .slice b p.length cap', .string bo, .int .i64 v] w fun e w' => TurnIs w w' e (putFR rs p bo v) (codeM (fileI rs p bo v) (okF (findI rs p))) ∧ Below w.heap.size w w' := by
  have hlm : rs.length ≤ maxLen := by unfold maxLen; omega
  have hlm' : p.length ≤ maxLen := by unfold maxLen; omega
  have hbo' := hbo
  unfold maxLen at hbo'
  have HM := hide (specMay_any a rs cap B b p cap' B v w h h' hB hB hs hlm (fun r hr => (hlp r hr).1) hs' hlm')
  have HF := hide (fun W (hb : Below w.heap.size w W) => specFind_any a rs cap B b p cap' B W (h.below hb hB) (h'.below hb hB) hlm hlm')
  have HJ := hide (fun W (hb : Below w.heap.size w W) => specIsColl_any a rs cap B b p cap' B W (h.below hb hB) (h'.below hb hB) hlm hlm')
  have HI := hide (fun W g c (x : RowS W g (aboveL p)) (hb : Below w.heap.size w W) => specIsColl_any a rs cap B (some ⟨g, 0, none⟩) (aboveL p) c W.heap.size W (h.below hb hB) (x.strs' x.1) hlm (by rw [aboveL_len]; unfold maxLen; omega))
  have h1 : mayI rs p v = 0 := by
    refine Classical.byContradiction fun e => ?_
    unfold fileI at hcc; rw [if_pos e] at hcc; exact e hcc
  have h2 : collB rs p = false := by
    cases e : collB rs p
    · rfl
    · unfold fileI at hcc; rw [if_neg (by simp [h1]), if_pos e] at hcc; exact absurd hcc (by decide)
  have h4 : collB rs (aboveL p) = true := by
    cases e : collB rs (aboveL p)
    · unfold fileI at hcc; rw [if_neg (by simp [h1]), if_neg (by simp [h2]), if_pos e] at hcc; exact absurd hcc (by decide)
    · rfl
  have h5 : ¬ 200 < bo.size := fun e => by
    unfold fileI at hcc; rw [if_neg (by simp [h1]), if_neg (by simp [h2]), if_neg (by simp [h4]), if_pos e] at hcc; exact absurd hcc (by decide)
  rw [h1] at HM
  simp only [h2] at HJ
  simp only [h4] at HI
  have h0 : 0 < p.length := by
    refine Nat.pos_of_ne_zero fun e => ?_
    rw [collB_root e] at h2
    cases h2
  obtain ⟨b2x, o2x, rfl, _, _⟩ := h' h0
  have HA := hide (fun W (hb : Below w.heap.size w W) => specAboveT_any b2x o2x p cap' B W (h'.below hb hB) (Nat.le_trans hB hb.size) hl' h0 hc hc')
  obtain ⟨k, hk, hfk⟩ : ∃ k, ∃ hk : k < rs.length, findI rs p = (k : Nat) := by
    rcases findI_cases rs p with e | ⟨k, hk, e, _⟩
    · exact absurd (by omega) h6
    · exact ⟨k, hk, e⟩
  have hfr : fileR rs p bo v = ⟨p, false, bo, v, rs[k].ps⟩ := by unfold fileR; rw [oldPs_at k hk hfk]
  have hlk := hlp _ (List.getElem_mem hk)
  obtain ⟨ba, oa, rfl, hba, hcells⟩ := h (by omega)
  obtain ⟨pa, pc, qa, qc, hat, hin⟩ := hcells k hk
  clear hcells
  have HAT := hide (fun W (hb : Below w.heap.size w W) => hat.of (w' := W) (fun o' => hb.cell (p := ⟨ba, o', none⟩) (Nat.lt_of_lt_of_le hba hB)))
  have HR := hide (fun (W W' : World) (vv : Value) (ts : List RsT) (hb : Below w.heap.size w W) (g : GrowR W' (W.heap.size + 1) vv ts W'.heap.size) (m : ts.map (·.r) = putR ⟨p, false, bo, v, rs[k].ps⟩ false rs) => show TurnIs w W' (.returned (.tuple #[vv, .int .i64 204])) (putFR rs p bo v) (codeM (fileI rs p bo v) (okF (findI rs p))) from ⟨vv, ts, W.heap.size + 1, by have := hb.size; omega, by unfold codeM; rw [if_pos hcc, okF_old h6], g, by unfold putFR; rw [if_pos hcc, hfr]; exact m⟩)
  have HP2 := hide (fun W (hb : Below w.heap.size w W) => show Calls Tryz.prog 85 #[.slice (some ⟨ba, oa, none⟩) rs.length cap, .agg #[.slice (some ⟨b2x, o2x, none⟩) p.length cap', .bool false, .string bo, .int .i64 v, .slice qa rs[k].ps.length qc]] W _ from specPutR_any (some ⟨ba, oa, none⟩) rs cap B W ⟨p, false, bo, v, rs[k].ps⟩ (some ⟨b2x, o2x, none⟩) cap' qa qc (h.below hb hB) ⟨h'.below hb hB, (hin.below hb hB).qh, hc, hin.ql, hc', hin.qm, hn, hin.qn⟩ (Nat.le_trans hB hb.size) hl hlp ⟨hl', hlk.2⟩)
  clear hcc h2 h4 hfr hin hat
  rw [hfk] at HF
  have HF' := hide (fun W hb => HF.out W hb)
  go_enter Tryz.func24, Tryz.ntmps24
  go_wp2_with fail
  refine HM.out.mono ?_
  rintro e w1 ⟨rfl, b1⟩
  have HF1 := hide (HF.out w1 b1)
  go_wp2_with fail
  refine HF1.out.mono ?_
  rintro e w2 ⟨rfl, b2'⟩
  have b2 := b1.trans (b2' w.heap.size)
  clear b2' HF1
  have HJ1 := hide (HJ.out w2 b2)
  go_wp2_with fail
  refine HJ1.out.mono ?_
  rintro e w3 ⟨rfl, b3'⟩
  have b3 := b2.trans (b3' w.heap.size)
  clear b3' HJ1
  have HA1 := hide (HA.out w3 b3)
  go_wp2_with fail
  refine HA1.out.mono ?_
  rintro e w4 ⟨⟨g4, c4, rfl, _, _, r4⟩, b4'⟩
  have b4 := b3.trans (b4'.mono b3.size)
  have HI1 := hide (HI.out w4 g4 c4 r4 b4)
  clear b4' HA1 r4
  go_wp2_with fail
  refine HI1.out.mono ?_
  rintro e w5 ⟨rfl, b5'⟩
  have b5 := b4.trans (b5' w.heap.size)
  clear b5' HI1
  have b6 := b5.alloc b5.size (Obj.cells #[.slice (some ⟨b2x, o2x, none⟩) p.length cap', .bool false, .string bo, .int .i64 v, .slice none 0 0] 35)
  have c4' := (HAT.out _ b6).2.2.2.2
  have b7 := b5.alloc b5.size (Obj.cells #[.slice (some ⟨b2x, o2x, none⟩) p.length cap', .bool false, .string bo, .int .i64 v, .slice qa rs[k].ps.length qc] 35)
  have HP3 := hide (HP2.out _ b7)
  have B6 := hide b7
  clear b6 b7
  go_wp2_with fail
  refine HP3.out.mono ?_
  rintro e wz ⟨⟨vv, ts, rfl, hg, hm⟩, bz⟩
  have T := hide (HR.out _ wz vv ts B6.out hg hm)
  have cz := B6.out.trans (bz.mono B6.out.size)
  clear hg hm bz HP3
  go_wp2
  go_ret2
  exact ⟨T.out, cz⟩

theorem specPutFile_any (a : Option Addr) (rs : List Rs) (cap B : Nat) (b : Option Addr) (p : List ByteArray) (cap' : Nat) (bo : ByteArray) (v : Int) (w : World) (h : Rss w B a rs) (h' : Strs w B b p) (hB : B ≤ w.heap.size) (hs : ShortT rs) (hl : rs.length ≤ 1048576) (hlp : ∀ r ∈ rs, r.pa.length ≤ 1048576 ∧ r.ps.length ≤ 1048576) (hs' : Short p) (hl' : p.length ≤ 1048576) (hc : p.length ≤ cap') (hc' : cap' ≤ maxLen) (hn : b = none → cap' = 0) (hbo : bo.size ≤ maxLen) :
    Calls Tryz.prog 24 #[.slice a rs.length cap, .slice b p.length cap', .string bo, .int .i64 v] w fun e w' => TurnIs w w' e (putFR rs p bo v) (codeM (fileI rs p bo v) (okF (findI rs p))) ∧ Below w.heap.size w w' := by
  by_cases h6 : findI rs p < 0
  · exact specPutFile_new a rs cap B b p cap' bo v w h h' hB hs hl hlp hs' hl' hc hc' hn hbo (.inr h6)
  by_cases hcc : fileI rs p bo v = 0
  · exact specPutFile_old a rs cap B b p cap' bo v w h h' hB hs hl hlp hs' hl' hc hc' hn hbo hcc h6
  · exact specPutFile_new a rs cap B b p cap' bo v w h h' hB hs hl hlp hs' hl' hc hc' hn hbo (.inl hcc)
end Go.Proofs.YtclnpfpaabmkcaaGreat
namespace Go.Proofs.YtclnpfpaabmkcaaGreat

/-- Whether the first list stands under the second. -/
def underB (ss tt : List ByteArray) : Bool := decide (tt.length < ss.length) && sameL (ss.take tt.length) tt

end Go.Proofs.YtclnpfpaabmkcaaGreat
namespace Go.Proofs.YtclnpfpaabmkcaaGreat
open M

def kidB (p : List ByteArray) (r : Rs) : Bool := decide (r.pa.length = p.length + 1) && underB r.pa p
def kidsL (rs : List Rs) (p : List ByteArray) : List (List ByteArray) := (rs.filter (kidB p)).map (·.pa)
def deepB (p : List ByteArray) (r : Rs) : Bool := sameL r.pa p || underB r.pa p
def deepL (rs : List Rs) (p : List ByteArray) : List Rs := rs.filter (deepB p)

theorem filter_yes {q : Rs → Bool} {rs : List Rs} {k : Nat} (hk : k < rs.length) (h : q rs[k] = true) : (rs.take (k + 1)).filter q = (rs.take k).filter q ++ [rs[k]] := by
  rw [List.take_succ_eq_append_getElem hk, List.filter_append]; simp [h]
theorem filter_no {q : Rs → Bool} {rs : List Rs} {k : Nat} (hk : k < rs.length) (h : q rs[k] = false) : (rs.take (k + 1)).filter q = (rs.take k).filter q := by
  rw [List.take_succ_eq_append_getElem hk, List.filter_append]; simp [h]
theorem filter_end {q : Rs → Bool} {rs : List Rs} {k : Nat} (hk : ¬ k < rs.length) : (rs.take k).filter q = rs.filter q := by rw [List.take_of_length_le (by omega)]
theorem filter_len {q : Rs → Bool} (rs : List Rs) (k : Nat) : ((rs.take k).filter q).length ≤ rs.length := by
  have h1 := List.length_filter_le q (rs.take k)
  rw [List.length_take] at h1
  omega
end Go.Proofs.YtclnpfpaabmkcaaGreat
namespace Go.Proofs.YtclnpfpaabmkcaaGreat
open M

theorem kid_above {p : List ByteArray} {r : Rs} (h : kidB p r = true) : aboveL r.pa = p := by
  unfold kidB underB at h
  simp only [Bool.and_eq_true, decide_eq_true_eq] at h
  obtain ⟨h1, _, h3⟩ := h
  unfold sameL at h3
  unfold aboveL
  rw [h1, Nat.add_sub_cancel]
  exact of_decide_eq_true h3
theorem kids_mem {rs : List Rs} {p s : List ByteArray} (h : s ∈ kidsL rs p) : ∃ r ∈ rs, r.pa = s ∧ kidB p r = true := by
  unfold kidsL at h
  obtain ⟨r, hr, rfl⟩ := List.mem_map.1 h
  obtain ⟨h1, h2⟩ := List.mem_filter.1 hr
  exact ⟨r, h1, rfl, h2⟩
theorem kids_above {rs : List Rs} {p s : List ByteArray} (h : s ∈ kidsL rs p) : aboveL s = p := by
  obtain ⟨r, _, rfl, hk⟩ := kids_mem h
  exact kid_above hk
theorem findI_there {rs : List Rs} {r : Rs} (h : r ∈ rs) : 0 ≤ findI rs r.pa := by
  rcases findI_cases rs r.pa with e | ⟨k, hk, e, _⟩
  · exfalso
    unfold findI at e
    by_cases hlt : rs.findIdx (isAt r.pa) < rs.length
    · rw [if_pos hlt] at e; omega
    · exact hlt (List.findIdx_lt_length_of_exists ⟨_, h, by unfold isAt; exact sameL_refl _⟩)
  · rw [e]; omega
theorem kids_found {rs : List Rs} {p s : List ByteArray} (h : s ∈ kidsL rs p) : 0 ≤ findI rs s := by
  obtain ⟨r, hr, rfl, _⟩ := kids_mem h
  exact findI_there hr
theorem kids_asc {rs : List Rs} (h : Asc rs) (p : List ByteArray) : (kidsL rs p).Pairwise fun a b => lessL a b = true := by
  unfold kidsL
  rw [List.pairwise_map]
  exact List.Pairwise.filter _ h
theorem kids_next {rs : List Rs} (h : Asc rs) (p : List ByteArray) (i : Nat) (hi : i + 1 < (kidsL rs p).length) : lessL (kidsL rs p)[i] (kidsL rs p)[i + 1] = true := by
  have := kids_asc h p
  rw [List.pairwise_iff_getElem] at this
  exact this i (i + 1) (by omega) hi (Nat.lt_succ_self _)
/-- As many as are deep there of one name more. -/
theorem kids_count (rs : List Rs) (p : List ByteArray) : (kidsL rs p).length = ((deepL rs p).filter fun r => decide (r.pa.length = p.length + 1)).length := by
  unfold kidsL deepL
  rw [List.length_map, List.filter_filter]
  congr 1
  refine List.filter_congr fun r _ => ?_
  unfold kidB deepB
  by_cases h : r.pa.length = p.length + 1
  · have hs : sameL r.pa p = false := sameL_len (by omega)
    simp [h, hs]
  · simp [h]
theorem kids_shelf {rs : List Rs} (h : treeB rs = true) {p s : List ByteArray} (hk : s ∈ kidsL rs p) : collB rs p = true := by
  obtain ⟨r, hr, _, hb⟩ := kids_mem hk
  unfold treeB at h
  simp only [Bool.and_eq_true, decide_eq_true_eq, List.all_eq_true] at h
  have := h.2.2.2 r hr
  unfold onB at this
  rw [kid_above hb] at this
  exact this
theorem tree_asc {rs : List Rs} (h : treeB rs = true) : Asc rs := by
  unfold treeB at h
  simp only [Bool.and_eq_true, decide_eq_true_eq, List.all_eq_true] at h
  exact asc_of h.2.2.1
end Go.Proofs.YtclnpfpaabmkcaaGreat
namespace Go.Proofs.YtclnpfpaabmkcaaGreat
open M

theorem deep_iff {p : List ByteArray} {r : Rs} : deepB p r = true ↔ p <+: r.pa := by
  unfold deepB underB sameL
  rw [Bool.or_eq_true, Bool.and_eq_true, decide_eq_true_eq, decide_eq_true_eq, decide_eq_true_eq]
  constructor
  · rintro (h | ⟨_, h⟩)
    · rw [h]; exact List.prefix_refl _
    · exact ⟨r.pa.drop p.length, by conv => { lhs; lhs; rw [← h] }; exact List.take_append_drop _ _⟩
  · rintro ⟨x, hx⟩
    cases x with
    | nil => left; rw [← hx]; simp
    | cons y l => right; rw [← hx]; simp
theorem under_iff {q p : List ByteArray} : underB q p = true ↔ p <+: q ∧ p.length < q.length := by
  unfold underB sameL
  rw [Bool.and_eq_true, decide_eq_true_eq, decide_eq_true_eq]
  constructor
  · rintro ⟨h1, h⟩
    exact ⟨⟨q.drop p.length, by conv => { lhs; lhs; rw [← h] }; exact List.take_append_drop _ _⟩, h1⟩
  · rintro ⟨⟨x, hx⟩, h1⟩
    exact ⟨h1, by rw [← hx]; simp⟩

/-- What stays where p is gone, with all under it. -/
def withoutL (rs : List Rs) (p : List ByteArray) : List Rs := rs.filter fun r => !deepB p r
/-- All: what comes stands together. -/
def aheadB (to : List ByteArray) (r : Rs) : Bool := lessL r.pa to
def wholeL (st : List Rs) (to : List ByteArray) (cs : List Rs) : List Rs := st.takeWhile (aheadB to) ++ (cs ++ st.dropWhile (aheadB to))

theorem lessL_pre : ∀ (a to x : List ByteArray), lessL a to = true → lessL a (to ++ x) = true
  | [], [], _, h => by simp [lessL] at h
  | [], _ :: _, _, _ => by simp [lessL]
  | _ :: _, [], _, h => by simp [lessL] at h
  | u :: a, v :: to, x, h => by
    rw [List.cons_append, lessL] at *
    by_cases e : u = v
    · rw [if_pos e] at *; exact lessL_pre a to x h
    · rw [if_neg e] at *; exact h
theorem lessL_out : ∀ (b to x : List ByteArray), lessL b to = false → ¬ to <+: b → lessL (to ++ x) b = true
  | _, [], _, _, h => absurd (List.nil_prefix) h
  | [], _ :: _, _, h, _ => by simp [lessL] at h
  | u :: b, v :: to, x, h, hp => by
    rw [List.cons_append, lessL] at *
    by_cases e : u = v
    · subst e
      rw [if_pos rfl] at *
      exact lessL_out b to x h (fun hq => hp (by obtain ⟨y, rfl⟩ := hq; exact ⟨y, rfl⟩))
    · rw [if_neg e] at h
      rw [if_neg (fun e' => e e'.symm)]
      cases h2 : lessT v u
      · exact absurd (str_inj (bytesLess_tri _ _ h h2)) e
      · rfl

theorem putR_split {r : Rs} : ∀ {A B : List Rs}, (∀ a ∈ A, lessL a.pa r.pa = true) → (∀ b ∈ B, lessL b.pa r.pa = false) → putR r false (A ++ B) = A ++ r :: notAt r B
  | [], [], _, _ => by simp [putR, notAt]
  | [], b :: B, _, hb => by
    rw [List.nil_append, putR_here (hb b (List.mem_cons_self ..))]; rfl
  | a :: A, B, ha, hb => by
    rw [List.cons_append, putR_less (ha a (List.mem_cons_self ..)), putR_split (fun x hx => ha x (List.mem_cons_of_mem _ hx)) hb]
    rfl
theorem notAt_all {r : Rs} {B : List Rs} (h : ∀ b ∈ B, lessL r.pa b.pa = true) : notAt r B = B := by
  unfold notAt
  rw [List.filter_eq_self]
  intro b hb
  have := h b hb
  unfold sameL
  rw [Bool.not_eq_true', decide_eq_false_iff_not]
  intro e
  rw [e, lessL_irr] at this
  cases this
theorem putR_mid {r : Rs} {A B : List Rs} (ha : ∀ a ∈ A, lessL a.pa r.pa = true) (hb : ∀ b ∈ B, lessL r.pa b.pa = true) : putR r false (A ++ B) = A ++ r :: B := by
  rw [putR_split ha (fun b h => lessL_asym _ _ (hb b h)), notAt_all hb]
theorem ahead_all {st : List Rs} {to : List ByteArray} : ∀ a ∈ st.takeWhile (aheadB to), lessL a.pa to = true := fun a ha => by
  have := List.all_takeWhile (l := st) (p := aheadB to)
  rw [List.all_eq_true] at this
  exact this a ha
theorem behind_all {to : List ByteArray} : ∀ {st : List Rs}, Asc st → ∀ b ∈ st.dropWhile (aheadB to), lessL b.pa to = false
  | [], _, b, hb => by simp at hb
  | x :: st, h, b, hb => by
    rw [List.dropWhile_cons] at hb
    cases e : aheadB to x
    · rw [e] at hb
      simp only [Bool.false_eq_true, if_false] at hb
      rcases List.mem_cons.1 hb with rfl | hm
      · exact e
      · have h1 := (List.pairwise_cons.1 h).1 b hm
        cases h2 : lessL b.pa to
        · rfl
        · have h3 := lessL_trans _ _ _ h1 h2
          unfold aheadB at e
          rw [e] at h3; cases h3
    · rw [e] at hb
      simp only [if_true] at hb
      exact behind_all (List.pairwise_cons.1 h).2 b hb

theorem fold_step {to : List ByteArray} {A B : List Rs} (ha : ∀ a ∈ A, lessL a.pa to = true) (hb : ∀ b ∈ B, lessL b.pa to = false ∧ ¬ to <+: b.pa) : ∀ (cs c0 : List Rs), (∀ c ∈ c0 ++ cs, to <+: c.pa) → Asc (c0 ++ cs) → cs.foldl (fun acc c => putR c false acc) (A ++ (c0 ++ B)) = A ++ ((c0 ++ cs) ++ B)
  | [], c0, _, _ => by simp
  | c :: cs, c0, hp, hA => by
    have hc := hp c (by simp)
    have e : putR c false (A ++ (c0 ++ B)) = A ++ ((c0 ++ [c]) ++ B) := by
      rw [← List.append_assoc]
      obtain ⟨x, hx⟩ := hc
      rw [putR_mid (r := c) (fun a h => ?_) (fun b h => ?_)]
      · simp
      · rcases List.mem_append.1 h with h | h
        · rw [← hx]; exact lessL_pre _ _ _ (ha a h)
        · have := List.pairwise_append.1 hA
          exact this.2.2 a h c (List.mem_cons_self ..)
      · rw [← hx]; exact lessL_out _ _ _ (hb b h).1 (hb b h).2
    rw [List.foldl_cons, e, fold_step ha hb cs (c0 ++ [c]) (by simpa using hp) (by simpa using hA)]
    simp
/-- What comes, put one by one where all else stays, stands together. -/
theorem whole_fold {st cs : List Rs} {to : List ByteArray} (hs : Asc st) (hn : ∀ y ∈ st, deepB to y = false) (hc : ∀ c ∈ cs, deepB to c = true) (hA : Asc cs) : cs.foldl (fun acc c => putR c false acc) st = wholeL st to cs := by
  have := fold_step (to := to) (A := st.takeWhile (aheadB to)) (B := st.dropWhile (aheadB to)) ahead_all (fun b hb => ⟨behind_all hs b hb, fun h => by
    have := hn b (List.dropWhile_subset _ hb)
    rw [deep_iff.2 h] at this; cases this⟩) cs [] (fun c h => deep_iff.1 (hc c (by simpa using h))) (by simpa using hA)
  rw [List.nil_append, List.takeWhile_append_dropWhile] at this
  rw [this]
  rfl

theorem putR_notAt {r : Rs} {rs : List Rs} (h : Asc rs) : putR r false (notAt r rs) = putR r false rs := by
  have e : rs = rs.takeWhile (aheadB r.pa) ++ rs.dropWhile (aheadB r.pa) := (List.takeWhile_append_dropWhile).symm
  generalize hA : rs.takeWhile (aheadB r.pa) = A at e
  generalize hB : rs.dropWhile (aheadB r.pa) = B at e
  have ha : ∀ a ∈ A, lessL a.pa r.pa = true := by rw [← hA]; exact ahead_all
  have hb : ∀ b ∈ B, lessL b.pa r.pa = false := by rw [← hB]; exact behind_all h
  have e1 : notAt r A = A := by
    unfold notAt
    rw [List.filter_eq_self]
    intro a h
    have := ha a h
    unfold sameL
    rw [Bool.not_eq_true', decide_eq_false_iff_not]
    intro e
    rw [e, lessL_irr] at this
    cases this
  have e2 : notAt r rs = A ++ notAt r B := by
    rw [e]; unfold notAt at *; rw [List.filter_append, e1]
  rw [e2, putR_split ha (fun b h => hb b (notAt_mem.1 h).1)]
  conv => { rhs; rw [e] }
  rw [putR_split ha hb]
  congr 2
  unfold notAt
  rw [List.filter_filter]
  simp

/-- Of right things: what something is under is a shelf. -/
theorem under_coll {rs : List Rs} (h : treeB rs = true) {p : List ByteArray} : ∀ (n : Nat) (y : Rs), y ∈ rs → y.pa.length = n → underB y.pa p = true → collB rs p = true := by
  have ha := tree_asc h
  have ht := h
  unfold treeB at ht
  simp only [Bool.and_eq_true, decide_eq_true_eq, List.all_eq_true] at ht
  intro n
  induction n with
  | zero =>
    intro y _ hl hu
    have := (under_iff.1 hu).2
    omega
  | succ n ih =>
    intro y hy hl hu
    obtain ⟨hp, hlt⟩ := under_iff.1 hu
    have hon := ht.2.2.2 y hy
    unfold onB at hon
    have hal : (aboveL y.pa).length = n := by rw [aboveL_len]; omega
    have hpp : p <+: aboveL y.pa := List.prefix_take_iff.2 ⟨hp, by omega⟩
    by_cases e : p.length = n
    · have : p = aboveL y.pa := by
        obtain ⟨x, hx⟩ := hpp
        have hx0 : x = [] := by
          have := congrArg List.length hx
          rw [List.length_append, hal] at this
          exact List.length_eq_zero_iff.1 (by omega)
        rw [← hx, hx0]; simp
      rw [this]; exact hon
    · have hpl : p.length < n := by omega
      rcases (coll_iff ha _).1 hon with h0 | ⟨r, hr, hrp, _⟩
      · rw [hal] at h0; omega
      · exact ih r hr (by rw [hrp, hal]) (under_iff.2 ⟨by rw [hrp]; exact hpp, by rw [hrp, hal]; exact hpl⟩)
theorem without_notAt {rs : List Rs} (h : treeB rs = true) {r : Rs} (hc : collB rs r.pa = false) : withoutL rs r.pa = notAt r rs := by
  unfold withoutL notAt
  refine List.filter_congr fun y hy => ?_
  have : underB y.pa r.pa = false := by
    cases e : underB y.pa r.pa
    · rfl
    · rw [under_coll h _ y hy rfl e] at hc; cases hc
  unfold deepB
  rw [this, Bool.or_false]
theorem without_asc {rs : List Rs} (h : Asc rs) (p : List ByteArray) : Asc (withoutL rs p) := List.Pairwise.filter _ h
theorem without_not {rs : List Rs} (p : List ByteArray) : ∀ y ∈ withoutL rs p, deepB p y = false := fun y hy => by
  have := (List.mem_filter.1 hy).2
  simpa using this
/-- One thing put where no shelf is: what stays, and it. -/
theorem whole_one {rs : List Rs} (h : treeB rs = true) {r : Rs} (hc : collB rs r.pa = false) : wholeL (withoutL rs r.pa) r.pa [r] = putR r false rs := by
  rw [← whole_fold (without_asc (tree_asc h) _) (without_not _) (fun c hc => by rw [List.mem_singleton.1 hc]; exact deep_iff.2 (List.prefix_refl _)) (by simp [Asc])]
  rw [List.foldl_cons, List.foldl_nil, without_notAt h hc, putR_notAt (tree_asc h)]
end Go.Proofs.YtclnpfpaabmkcaaGreat
namespace Go.Proofs.YtclnpfpaabmkcaaGreat
open M

theorem filter_sumR (q : Rs → Bool) (rs : List Rs) : (rs.filter q).length + sumR (rs.filter q) ≤ rs.length + sumR rs := by
  induction rs with
  | nil => simp [sumR]
  | cons r l ih =>
    have h1 : sumR (r :: l) = szR r + sumR l := by simp [sumR]
    rw [h1, List.length_cons, List.filter_cons]
    cases e : q r
    · simp only [Bool.false_eq_true, if_false]
      omega
    · simp only [if_true]
      have h3 : sumR (r :: l.filter q) = szR r + sumR (l.filter q) := by simp [sumR]
      rw [List.length_cons, h3]
      omega
theorem without_sum (rs : List Rs) (p : List ByteArray) : (withoutL rs p).length + sumR (withoutL rs p) ≤ rs.length + sumR rs := filter_sumR _ rs

theorem short_of_sumK {rs : List Rs} (h : rs.length + sumR rs ≤ 1048576) : ∀ r ∈ rs, r.pa.length ≤ 1048576 ∧ r.ps.length ≤ 1048576 ∧ (∀ s ∈ r.pa, s.size ≤ 281474976710656) ∧ r.bo.size ≤ 281474976710656 ∧ ∀ p ∈ r.ps, p.1.size ≤ 281474976710656 ∧ p.2.1.size ≤ 281474976710656 ∧ p.2.2.size ≤ 281474976710656 := fun r hr => by
  have h1 := sumR_mem rs r hr
  have h2 : szR r = r.pa.length + sumL r.pa + r.bo.size + (r.ps.length + sumP r.ps) := rfl
  refine ⟨by omega, by omega, fun s hs => ?_, by omega, fun p hp => ?_⟩
  · have h3 : s.size ≤ sumL r.pa := sumS_mem r.pa s hs
    omega
  · have h3 := sumP_mem r.ps p hp
    have h4 : szP p = p.1.size + p.2.1.size + p.2.2.size := rfl
    omega
end Go.Proofs.YtclnpfpaabmkcaaGreat
namespace Go.Proofs.YtclnpfpaabmkcaaGreat
open Go.RowKit M
set_option linter.unusedVariables false

theorem tree_len {rs : List Rs} (h : treeB rs = true) : rs.length ≤ 12 := by
  by_cases e : rs.length ≤ 12
  · exact e
  · rw [treeB_long e] at h; cases h
theorem tree_res {rs : List Rs} (h : treeB rs = true) : ∀ r ∈ rs, resB r = true := by
  unfold treeB at h
  simp only [Bool.and_eq_true, List.all_eq_true] at h
  exact h.2.1
theorem path_few {p : List ByteArray} (h : pathB p = true) : Few 5 p := by
  unfold pathB at h
  simp only [Bool.and_eq_true, decide_eq_true_eq, List.all_eq_true] at h
  refine ⟨by have := h.2; omega, fun s hs => ?_⟩
  have h1 := sumL_small [s] (fun x hx => by have e : x = s := by simpa using hx
                                            rw [e]; exact h.1 s hs)
  have e : sumL [s] = s.size := by simp [sumL]
  rw [e] at h1
  simp at h1
  omega
theorem tree_few {rs : List Rs} (h : treeB rs = true) : ∀ r ∈ rs, Few 5 r.pa := fun r hr => path_few (resB_path (tree_res h r hr))
theorem tree_sum {rs : List Rs} (h : treeB rs = true) : rs.length + sumR rs ≤ 1048576 := by have := tree_small h; omega
theorem short_sum {rs : List Rs} (h : rs.length + sumR rs ≤ 1048576) : ShortT rs := fun r hr => by
  obtain ⟨h1, h2, h3, h4, h5⟩ := short_of_sumK h r hr
  refine ⟨by unfold maxLen; omega, fun s hs => ?_, by unfold maxLen; omega, by unfold maxLen; omega, fun p hp => ?_⟩
  · have := h3 s hs; unfold maxLen; omega
  · have := h5 p hp; unfold maxLen; omega
theorem owns_low {w : World} {B C g n c : Nat} {ss : List ByteArray} (h : w.ownsRow B 9 1 (.slice (some ⟨g, 0, none⟩) n c) n (strCells ss)) (hC : C ≤ B) : w.ownsRow C 9 1 (.slice (some ⟨g, 0, none⟩) n c) n (strCells ss) := ⟨h.1, by
  rcases h.2 with e | ⟨g', cap', cur, e, hB, hr⟩
  · exact .inl e
  · exact .inr ⟨g', cap', cur, e, Nat.le_trans hC hB, hr⟩⟩
theorem make_draw {w : World} {N g gp np cp B : Nat} {rs : List Rs} {ss : List ByteArray} (h : HasT w N g rs) (ht : treeB rs = true) (ho : w.ownsRow B 9 1 (.slice (some ⟨gp, 0, none⟩) np cp) np (strCells ss)) (hnp : np = ss.length) (hf : Few 6 ss) (v : Int) (c : Nat) :
    Calls Tryz.prog 27 #[.slice (some ⟨g, 0, none⟩) rs.length c, .slice (some ⟨gp, 0, none⟩) ss.length cp, .int .i64 v] w fun e w' => TurnIs w w' e (makeR rs ss v) (codeM (collI rs ss v) 201) ∧ Below w.heap.size w w' := by
  obtain ⟨hs, h1, h2, _⟩ := own_strs ho hnp
  have hS := short_of_sumK (tree_sum ht)
  have := hf.1
  have hl := tree_len ht
  exact specMakeColl_any _ rs c w.heap.size _ ss cp v w h.rss hs (Nat.le_refl _) (short_sum (tree_sum ht)) (by omega) (fun r hr => ⟨(hS r hr).1, (hS r hr).2.1⟩) hf.short (by omega) (by omega) h2 (fun e => by cases e)
theorem put_draw {w : World} {N g gp np cp B : Nat} {rs : List Rs} {ss : List ByteArray} (h : HasT w N g rs) (ht : treeB rs = true) (ho : w.ownsRow B 9 1 (.slice (some ⟨gp, 0, none⟩) np cp) np (strCells ss)) (hnp : np = ss.length) (hf : Few 6 ss) (bo : ByteArray) (hbo : bo.size ≤ 1000) (v : Int) (c : Nat) :
    Calls Tryz.prog 24 #[.slice (some ⟨g, 0, none⟩) rs.length c, .slice (some ⟨gp, 0, none⟩) ss.length cp, .string bo, .int .i64 v] w fun e w' => TurnIs w w' e (putFR rs ss bo v) (codeM (fileI rs ss bo v) (okF (findI rs ss))) ∧ Below w.heap.size w w' := by
  obtain ⟨hs, h1, h2, _⟩ := own_strs ho hnp
  have hS := short_of_sumK (tree_sum ht)
  have := hf.1
  have hl := tree_len ht
  exact specPutFile_any _ rs c w.heap.size _ ss cp bo v w h.rss hs (Nat.le_refl _) (short_sum (tree_sum ht)) (by omega) (fun r hr => ⟨(hS r hr).1, (hS r hr).2.1⟩) hf.short (by omega) (by omega) h2 (fun e => by cases e) (by unfold maxLen; omega)
def bodiesD : List ByteArray := [⟨#[]⟩, ⟨#[120]⟩, ⟨#[104, 101, 108, 108, 111]⟩]

set_option maxRecDepth 100000 in
set_option maxHeartbeats 8000000 in
theorem l10Draw_any {w : World} {N : Nat} {a : Option Addr} {len cap : Nat} {zs : List Int} (h : DX w N a len cap zs) :
    Calls Tryz.prog 57 #[.pointer (some ⟨N, 0, none⟩)] w fun e w' => (∃ (rs : List Rs) (g n c : Nat), treeB rs = true ∧ n = rs.length ∧ e = .returned (.slice (some ⟨g, 0, none⟩) n c) ∧ HasT w' N g rs ∧ w.heap.size ≤ g) ∧ DX w' N a len cap zs ∧ w.grownBy w' (some N) := by
  have hlt := h.lt
  have H := hide h
  have HM := hide (HasT.made w N hlt)
  clear h
  go_enter Tryz.func57, Tryz.ntmps57
  go_wp2_with fail
  refine (l1BelowX (H.out.alloc _) 10 (by decide) (by decide)).mono ?_
  rintro e w1 ⟨⟨k0, rfl, hk0⟩, hd1, hg1⟩
  have HG := hide (grown_trans (grown_alloc (grown_refl w (some N)) _) hg1)
  have HO1 := hide (HM.out.grown hg1)
  have HD := hide hd1
  clear hg1 hd1
  go_wp2
  go_loopw [3, 4] (fun v i wr => ∃ (k : Nat) (rs : List Rs) (n g c : Nat), i = .int .i64 k ∧ k ≤ 10 ∧ v = .slice (some ⟨g, 0, none⟩) n c ∧ Hid (n = rs.length) ∧ Hid (treeB rs = true) ∧ Hid (HasT wr N g rs) ∧ w.heap.size ≤ g ∧ Hid (DX wr N a len cap zs) ∧ Hid (w.grownBy wr (some N))) (fun _ i _ => (intOf i).toNat)
  case atStart => exact ⟨k0, [], 0, w.heap.size, 0, rfl, by omega, rfl, rfl, hide (by decide), HO1, Nat.le_refl _, HD, HG⟩
  case round =>
    obtain ⟨k, rs, n, g, c, rfl, hk3, rfl, hn, htr, HT, hgw, HD2, HG2⟩ := hrel
    have hn12 : n ≤ 12 := by rw [hn.out]; exact tree_len htr.out
    by_cases h0 : 0 < k
    · have h0' : (0 : Int) < k := by omega
      go_wp2_with fail
      refine (l10Path_any HD2.out g n c rs hn HT.out (by omega) (tree_few htr.out)).mono ?_
      rintro e w2 ⟨⟨ss, np, gp, cp, hf, hnp, rfl, hop⟩, hd3, hg3⟩
      have HF := hide hf
      have HNP := hide hnp
      have HOP := hide (owns_low hop HG2.out.size)
      have HD3 := hide hd3
      have HG3 := hide (grown_trans HG2.out hg3)
      have HT3 := hide (HT.out.grown hg3)
      clear hf hnp hop hd3 hg3 HD2 HG2 HT
      go_wp2_with fail
      refine (l1OnceQ HD3.out 2 (by decide) (by decide)).mono ?_
      rintro e w3 ⟨⟨b, rfl⟩, hd4, hg4⟩
      have HOP4 := hide (owns_grown HOP.out hg4 hlt)
      have HD4 := hide hd4
      have HG4 := hide (grown_trans HG3.out hg4)
      have HT4 := hide (HT3.out.grown hg4)
      clear hd4 hg4 HD3 HG3 HT3 HOP
      cases b
      · go_wp2_with fail
        refine (strNewQ HD4.out 30 bodiesD _ _ 3 _ rfl rfl rfl (by decide) (by decide) (by decide)).mono ?_
        rintro e w4 ⟨⟨bo, rfl, hbo⟩, hd5, hg5⟩
        have HOP5 := hide (owns_grown HOP4.out hg5 hlt)
        have HD5 := hide hd5
        have HG5 := hide (grown_trans HG4.out hg5)
        have HT5 := hide (HT4.out.grown hg5)
        clear hd5 hg5 HD4 HG4 HT4 HOP4
        go_wp2_with fail
        refine (l1BelowX HD5.out 9 (by decide) (by decide)).mono ?_
        rintro e w5 ⟨⟨v, rfl, hv⟩, hd6, hg6⟩
        have HOP6 := hide (owns_grown HOP5.out hg6 hlt)
        have HD6 := hide hd6
        have HG6 := hide (grown_trans HG5.out hg6)
        have HT6 := hide (HT5.out.grown hg6)
        clear hd6 hg6 HD5 HG5 HT5 HOP5
        have HC := hide (put_draw HT6.out htr.out HOP6.out HNP.out HF.out bo (by omega) v c)
        rw [← hn.out] at HC
        rw [← HNP.out] at HC
        clear HOP6
        go_wp2_with fail
        refine HC.out.mono ?_
        rintro e w6 ⟨⟨vt, ts, base, hbase, rfl, hGr, hmr⟩, b6⟩
        have HTR := hide (put_tree (p := ss) (bo := bo) (v := v) htr.out)
        generalize codeM (fileI rs ss bo v) (okF (findI rs ss)) = cc at *
        generalize putFR rs ss bo v = rs2 at *
        obtain ⟨g7, c7, rfl, hT7⟩ := HasT.of_grow hGr (N := N) (by have := HG6.out.size; omega) hmr
        have hg7 : w.heap.size ≤ g7 := by
          obtain ⟨b', cap', hv', hb'⟩ := hGr.blk
          have := (World.ownsRow.lt hGr.own g7 rfl).1
          have := HG6.out.size
          omega
        have HT7 := hide hT7
        have HD7 := hide (HD6.out.below b6)
        have HG7 := hide (grown_belowQ HG6.out b6 HG6.out.size)
        have hrl : rs2.length ≤ 12 := tree_len HTR.out
        obtain ⟨n7, hn7⟩ : ∃ n7, rs2.length = n7 := ⟨_, rfl⟩
        rw [hn7] at hrl ⊢
        have HN7 := hide hn7.symm
        clear hGr hmr hT7 b6 HD6 HG6 HT6 HC hn7 hbase
        by_cases hz : n7 = 0
        · subst hz
          go_wp2
          go_roundw
          case rel => exact ⟨k - 1, rs2, 0, g7, c7, by first | go_num | (congr 1; omega), by omega, rfl, HN7, HTR, HT7, hg7, HD7, HG7⟩
          case measure => simp [intOf]; omega
        · have hz' : (0 : Int) < n7 := by omega
          go_wp2_with fail
          refine (l1OnceQ HD7.out 3 (by decide) (by decide)).mono ?_
          rintro e w8 ⟨⟨b, rfl⟩, hd8, hg8⟩
          have HD8 := hide hd8
          have HG8 := hide (grown_trans HG7.out hg8)
          have HT8 := hide (HT7.out.grown hg8)
          clear hd8 hg8 HD7 HG7 HT7
          cases b
          · go_wp2
            go_roundw
            case rel => exact ⟨k - 1, rs2, n7, g7, c7, by first | go_num | (congr 1; omega), by omega, rfl, HN7, HTR, HT8, hg7, HD8, HG8⟩
            case measure => simp [intOf]; omega
          · go_wp2_with fail
            refine (l1BelowX HD8.out n7 hz' (by omega)).mono ?_
            rintro e w9 ⟨⟨j, rfl, hj⟩, hd9, hg9⟩
            have HD9 := hide hd9
            have HG9 := hide (grown_trans HG8.out hg9)
            have HT9 := hide (HT8.out.grown hg9)
            clear hd9 hg9 HD8 HG8 HT8
            go_wp2_with fail
            refine (l10Props_any HD9.out).mono ?_
            rintro e w10 ⟨⟨ps, gq, nq, cq, hps, hnq, rfl, hoq⟩, hd10, hg10⟩
            have HD10 := hide hd10
            have HG10 := hide (grown_trans HG9.out hg10)
            have HT10 := hide (HT9.out.grown hg10)
            have hjr : j < rs2.length := by have := HN7.out; omega
            obtain ⟨rq, hqB, hq1, hq2⟩ := hoq.row hnq
            have hgs9 := HT9.out.gs
            have HT11 := hide (HT10.out.setProps j hjr gq nq cq ps hnq rq (by have := HG9.out.size; omega) (by omega) hq1 hq2)
            have HTR11 := hide (tree_setP HTR.out j hjr ps hps)
            obtain ⟨x0, x1, x2, x3, hx⟩ := HT10.out.el j hjr
            have hcell := hx.at'.2.2.2.2
            have hfz := HT10.out.fz (j * 5 + 4)
            have hji : (j : Int) < (n7 : Int) := by omega
            have HN11 := hide (show n7 = (rs2.set j (setP rs2[j] ps)).length by rw [List.length_set]; exact HN7.out)
            clear hoq hd10 hg10 hps hnq rq HT10 hx
            go_wp2
            go_roundw
            case rel => exact ⟨k - 1, _, n7, g7, c7, by first | go_num | (congr 1; omega), by omega, rfl, HN11, HTR11, HT11, hg7, hide (HD10.out.set _ (by omega)), hide (grown_setQ HG10.out _ hg7)⟩
            case measure => simp [intOf]; omega
      · go_wp2_with fail
        refine (l1BelowX HD4.out 9 (by decide) (by decide)).mono ?_
        rintro e w5 ⟨⟨v, rfl, hv⟩, hd6, hg6⟩
        have HOP6 := hide (owns_grown HOP4.out hg6 hlt)
        have HD6 := hide hd6
        have HG6 := hide (grown_trans HG4.out hg6)
        have HT6 := hide (HT4.out.grown hg6)
        clear hd6 hg6 HD4 HG4 HT4 HOP4
        have HC := hide (make_draw HT6.out htr.out HOP6.out HNP.out HF.out v c)
        rw [← hn.out] at HC
        rw [← HNP.out] at HC
        clear HOP6
        go_wp2_with fail
        refine HC.out.mono ?_
        rintro e w6 ⟨⟨vt, ts, base, hbase, rfl, hGr, hmr⟩, b6⟩
        have HTR := hide (make_tree (p := ss) (v := v) htr.out)
        generalize codeM (collI rs ss v) 201 = cc at *
        generalize makeR rs ss v = rs2 at *
        obtain ⟨g7, c7, rfl, hT7⟩ := HasT.of_grow hGr (N := N) (by have := HG6.out.size; omega) hmr
        have hg7 : w.heap.size ≤ g7 := by
          obtain ⟨b', cap', hv', hb'⟩ := hGr.blk
          have := (World.ownsRow.lt hGr.own g7 rfl).1
          have := HG6.out.size
          omega
        have HT7 := hide hT7
        have HD7 := hide (HD6.out.below b6)
        have HG7 := hide (grown_belowQ HG6.out b6 HG6.out.size)
        have hrl : rs2.length ≤ 12 := tree_len HTR.out
        obtain ⟨n7, hn7⟩ : ∃ n7, rs2.length = n7 := ⟨_, rfl⟩
        rw [hn7] at hrl ⊢
        have HN7 := hide hn7.symm
        clear hGr hmr hT7 b6 HD6 HG6 HT6 HC hn7 hbase
        by_cases hz : n7 = 0
        · subst hz
          go_wp2
          go_roundw
          case rel => exact ⟨k - 1, rs2, 0, g7, c7, by first | go_num | (congr 1; omega), by omega, rfl, HN7, HTR, HT7, hg7, HD7, HG7⟩
          case measure => simp [intOf]; omega
        · have hz' : (0 : Int) < n7 := by omega
          go_wp2_with fail
          refine (l1OnceQ HD7.out 3 (by decide) (by decide)).mono ?_
          rintro e w8 ⟨⟨b, rfl⟩, hd8, hg8⟩
          have HD8 := hide hd8
          have HG8 := hide (grown_trans HG7.out hg8)
          have HT8 := hide (HT7.out.grown hg8)
          clear hd8 hg8 HD7 HG7 HT7
          cases b
          · go_wp2
            go_roundw
            case rel => exact ⟨k - 1, rs2, n7, g7, c7, by first | go_num | (congr 1; omega), by omega, rfl, HN7, HTR, HT8, hg7, HD8, HG8⟩
            case measure => simp [intOf]; omega
          · go_wp2_with fail
            refine (l1BelowX HD8.out n7 hz' (by omega)).mono ?_
            rintro e w9 ⟨⟨j, rfl, hj⟩, hd9, hg9⟩
            have HD9 := hide hd9
            have HG9 := hide (grown_trans HG8.out hg9)
            have HT9 := hide (HT8.out.grown hg9)
            clear hd9 hg9 HD8 HG8 HT8
            go_wp2_with fail
            refine (l10Props_any HD9.out).mono ?_
            rintro e w10 ⟨⟨ps, gq, nq, cq, hps, hnq, rfl, hoq⟩, hd10, hg10⟩
            have HD10 := hide hd10
            have HG10 := hide (grown_trans HG9.out hg10)
            have HT10 := hide (HT9.out.grown hg10)
            have hjr : j < rs2.length := by have := HN7.out; omega
            obtain ⟨rq, hqB, hq1, hq2⟩ := hoq.row hnq
            have hgs9 := HT9.out.gs
            have HT11 := hide (HT10.out.setProps j hjr gq nq cq ps hnq rq (by have := HG9.out.size; omega) (by omega) hq1 hq2)
            have HTR11 := hide (tree_setP HTR.out j hjr ps hps)
            obtain ⟨x0, x1, x2, x3, hx⟩ := HT10.out.el j hjr
            have hcell := hx.at'.2.2.2.2
            have hfz := HT10.out.fz (j * 5 + 4)
            have hji : (j : Int) < (n7 : Int) := by omega
            have HN11 := hide (show n7 = (rs2.set j (setP rs2[j] ps)).length by rw [List.length_set]; exact HN7.out)
            clear hoq hd10 hg10 hps hnq rq HT10 hx
            go_wp2
            go_roundw
            case rel => exact ⟨k - 1, _, n7, g7, c7, by first | go_num | (congr 1; omega), by omega, rfl, HN11, HTR11, HT11, hg7, hide (HD10.out.set _ (by omega)), hide (grown_setQ HG10.out _ hg7)⟩
            case measure => simp [intOf]; omega
    · have hk : k = 0 := by omega
      subst hk
      go_wp2
      go_ret
      exact ⟨⟨rs, g, n, c, htr.out, hn.out, rfl, HT.out, hgw⟩, HD2.out, HG2.out⟩
end Go.Proofs.YtclnpfpaabmkcaaGreat
namespace Go.Proofs.YtclnpfpaabmkcaaGreat
open Go.RowKit M
set_option linter.unusedVariables false

/-- What is drawn: right things, and two paths. -/
def ShelvesD (w w' : World) (e : Ending) : Prop := ∃ (rs : List Rs) (g c : Nat) (ss : List ByteArray) (gp cp : Nat) (tt : List ByteArray) (gq cq : Nat), treeB rs = true ∧ Few 6 ss ∧ Few 6 tt ∧ e = .returned (.tuple #[.slice (some ⟨g, 0, none⟩) rs.length c, .slice (some ⟨gp, 0, none⟩) ss.length cp, .slice (some ⟨gq, 0, none⟩) tt.length cq]) ∧ Rss w' w'.heap.size (some ⟨g, 0, none⟩) rs ∧ Strs w' w'.heap.size (some ⟨gp, 0, none⟩) ss ∧ (ss.length ≤ cp ∧ cp ≤ maxLen) ∧ Strs w' w'.heap.size (some ⟨gq, 0, none⟩) tt ∧ (tt.length ≤ cq ∧ cq ≤ maxLen)

set_option maxRecDepth 100000 in
set_option maxHeartbeats 4000000 in
theorem drawShelves_any {w : World} {B : Nat} {a : Option Addr} {len : Nat} {zs : List Int} (h : CodeIn w B a len zs) (cap : Nat) :
    Calls Tryz.prog 8 #[.slice a len cap] w fun e w' => ShelvesD w w' e ∧ Below w.heap.size w w' := by
  have HC := hide h
  clear h
  go_enter Tryz.func8, Tryz.ntmps8
  go_wp2_with fail
  refine (newDC HC.out cap).mono ?_
  rintro e w1 ⟨rfl, hd1, b1⟩
  have hN1 : w.heap.size < w1.heap.size := hd1.lt
  have HD1 : Hid (DX w1 w.heap.size a len cap zs) := ⟨_, hd1⟩
  clear hd1
  go_wp2_with fail
  refine (l10Draw_any HD1.out).mono ?_
  rintro e w2 ⟨⟨rs, g, n, c, htr, hn, rfl, ht2, _⟩, hd2, hg2⟩
  have HTR := hide htr
  have HN := hide hn
  have HT2 := hide ht2
  have HD2 := hide hd2
  have HG2 := hide hg2
  have hn12 : n ≤ 12 := by rw [hn]; exact tree_len htr
  clear htr hn ht2 hd2 hg2 HD1
  go_wp2_with fail
  refine (l10Path_any HD2.out g n c rs HN HT2.out (by omega) (tree_few HTR.out)).mono ?_
  rintro e w3 ⟨⟨ss, np, gp, cp, hf, hnp, rfl, hop⟩, hd3, hg3⟩
  have HF := hide hf
  have HNP := hide hnp
  have HOP := hide (owns_low (C := w.heap.size + 1) hop (by have := HG2.out.size; omega))
  have HD3 := hide hd3
  have HG3 := hide (grown_trans HG2.out hg3)
  have HT3 := hide (HT2.out.grown hg3)
  clear hf hnp hop hd3 hg3 HD2 HG2 HT2
  go_wp2_with fail
  refine (l10Path_any HD3.out g n c rs HN HT3.out (by omega) (tree_few HTR.out)).mono ?_
  rintro e w4 ⟨⟨tt, nq, gq, cq, hf, hnq, rfl, hoq⟩, hd4, hg4⟩
  have HF2 := hide hf
  have HNQ := hide hnq
  have HOP4 := hide (own_strs (owns_grown HOP.out hg4 (Nat.lt_succ_self _)) HNP.out)
  have HOQ4 := hide (own_strs hoq hnq)
  have HG4 := hide (grown_trans HG3.out hg4)
  have HT4 := hide (HT3.out.grown hg4).rss
  clear hf hnq hoq hd4 hg4 HD3 HG3 HT3 HOP
  have HB := hide (b1.trans (grown_below HG4.out (Nat.le_refl _) (by omega)))
  have HE : Hid (∀ (x : n = rs.length) (y : np = ss.length) (z : nq = tt.length), ShelvesD w w4 (.returned (.tuple #[.slice (some ⟨g, 0, none⟩) n c, .slice (some ⟨gp, 0, none⟩) np cp, .slice (some ⟨gq, 0, none⟩) nq cq]))) := by
    intro x y z
    obtain ⟨p1, p2, p3, _⟩ := HOP4.out
    obtain ⟨q1, q2, q3, _⟩ := HOQ4.out
    exact ⟨rs, g, c, ss, gp, cp, tt, gq, cq, HTR.out, HF.out, HF2.out, by rw [x, y, z], HT4.out, p1, ⟨by omega, p3⟩, q1, ⟨by omega, q3⟩⟩
  have HE2 := hide (HE.out HN.out HNP.out HNQ.out)
  clear HE HOP4 HOQ4 HT4
  go_wp2
  refine bodyPost_ret (v := .tuple #[.slice (some ⟨g, 0, none⟩) n c, .slice (some ⟨gp, 0, none⟩) np cp, .slice (some ⟨gq, 0, none⟩) nq cq]) ?_ rfl ⟨HE2.out, HB.out⟩
  simp [results, Tryz.results8, go_sem]
end Go.Proofs.YtclnpfpaabmkcaaGreat
namespace Go.Proofs.YtclnpfpaabmkcaaGreat
open Go.RowKit
set_option linter.unusedVariables false

set_option maxHeartbeats 400000 in
theorem sameTexts_any (a b : Option Addr) (ss tt : List ByteArray) (cap cap' B C : Nat) (w : World) (h : Strs w B a ss) (h' : Strs w C b tt) (hl : ss.length ≤ maxLen) (hl' : tt.length ≤ maxLen) :
    Calls Tryz.prog 49 #[.slice a ss.length cap, .slice b tt.length cap'] w fun e w' => e = .returned (.bool (sameL ss tt)) ∧ ∀ D, Below D w w' := by
  unfold maxLen at hl hl'
  by_cases hlen : ss.length = tt.length
  · have HL : Hid (ss.length = tt.length) := hlen
    go_enter Tryz.func49, Tryz.ntmps49
    rw [← hlen]
    clear hlen
    go_wp2
    go_loopw [5] (fun i wr => ∃ k n : Nat, k ≤ ss.length ∧ i = .int .i64 k ∧ ss.take k = tt.take k ∧ wr = w.drewN n) (fun i _ => ss.length - (intOf i).toNat)
    case atStart => exact ⟨0, 0, Nat.zero_le _, rfl, rfl, rfl⟩
    case round =>
      obtain ⟨k, n, hk, rfl, ht, rfl⟩ := hrel
      have HT : Hid (ss.take k = tt.take k) := ht
      clear ht
      by_cases hlt : k < ss.length
      · have hlt' : k < tt.length := by have := HL.out; omega
        obtain ⟨b1, o1, rfl, hb1, hc1⟩ := h (by omega)
        obtain ⟨b2, o2, rfl, hb2, hc2⟩ := h' (by have := HL.out; omega)
        have hcx := hc1 k hlt
        have hcy := hc2 k hlt'
        go_wp2
        go_quiet (fail)
        go_wp2
        · rename_i hne
          have hne' : ¬ ss[k] = tt[k] := fun e => by rw [e] at hne; simp at hne
          go_ret
          exact ⟨ret_bool (sameL_not k hlt hlt' hne').symm, fun D => below_drewN (below_drewN (Below.refl _ _) _) _⟩
        · rename_i he
          have he' : ss[k] = tt[k] := str_inj (by simpa using he)
          go_roundw
          case rel => exact ⟨k + 1, n + nq, by omega, by go_num, take_same k hlt hlt' HT.out he', by simp⟩
          case measure => simp [intOf]; omega
      · go_wp2
        go_ret
        exact ⟨ret_bool (sameL_all HL.out k hlt HT.out).symm, fun D => below_drewN (Below.refl _ _) _⟩
  · have HS := sameL_len hlen
    go_enter Tryz.func49, Tryz.ntmps49
    go_wp2
    go_ret
    exact ⟨ret_bool HS.symm, fun D => Below.refl _ _⟩
end Go.Proofs.YtclnpfpaabmkcaaGreat
