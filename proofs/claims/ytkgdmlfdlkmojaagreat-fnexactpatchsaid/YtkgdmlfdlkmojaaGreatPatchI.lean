/-
  What impl.patchRefused and impl.Patch do.
-/
import Derived.Test.YtkgdmlfdlkmojaaGreatMapHeld
import Derived.Test.YtkgdmlfdlkmojaaGreatTreeOk
import Derived.Test.YtkgdmlfdlkmojaaGreatIsThere
import Derived.Test.YtkgdmlfdlkmojaaGreatCopyTree
import Derived.Test.YtkgdmlfdlkmojaaGreatSetPropsI
namespace Go.Proofs.YtkgdmlfdlkmojaaGreat
open Go.RowKit M
set_option linter.unusedVariables false

theorem OwnR.setProps {w : World} {lo hi hi' g : Nat} {rs : List Rs} {pb qb : Nat → Nat} (h : OwnR w lo hi g rs pb qb) (k : Nat) (hk : k < rs.length) (g2 : Nat) (L : List Pp) (hr : RowP w g2 L) (h1 : hi ≤ g2) (h2 : g2 < hi') :
    OwnR (w.setCell ⟨g, k * 5 + 4, none⟩ (.slice (some ⟨g2, 0, none⟩) L.length L.length)) lo hi' g (rs.set k (setP rs[k] L)) pb (fun j => if j = k then g2 else qb j) := by
  have hgh := h.gh
  have hls : (rs.set k (setP rs[k] L)).length = rs.length := List.length_set
  have hoth : ∀ (b o : Nat) (hne : b ≠ g ∨ o ≠ k * 5 + 4), (w.setCell ⟨g, k * 5 + 4, none⟩ (.slice (some ⟨g2, 0, none⟩) L.length L.length)).cell? ⟨b, o, none⟩ = w.cell? ⟨b, o, none⟩ := fun b o hne => World.cell?_setCell_other _ _ _ _ (fun e => by
    have e1 := congrArg Addr.block e
    have e2 := congrArg Addr.off e
    simp at e1 e2
    omega)
  refine ⟨h.gl, by omega, by simpa using h.gs, fun i => by rw [World.frozen?_setCell]; exact h.fz i, fun j hj => ?_, fun j hj => ?_, fun j hj => ?_, fun j hj => ?_, fun i j hij hj => ?_⟩
  · have hj' : j < rs.length := by rw [hls] at hj; exact hj
    obtain ⟨c0, c1, c2, c3, c4⟩ := h.cl j hj'
    rw [List.getElem_set]
    by_cases e : k = j
    · subst e
      simp only [if_true]
      refine ⟨?_, ?_, ?_, ?_, ?_⟩
      · rw [hoth _ _ (.inr (by omega))]; exact c0
      · rw [hoth _ _ (.inr (by omega))]; exact c1
      · rw [hoth _ _ (.inr (by omega))]; exact c2
      · rw [hoth _ _ (.inr (by omega))]; exact c3
      · exact World.cell?_setCell_same _ _ _ c4
    · rw [if_neg e]
      simp only [show ¬ j = k from fun x => e x.symm, if_false]
      refine ⟨?_, ?_, ?_, ?_, ?_⟩
      · rw [hoth _ _ (.inr (by omega))]; exact c0
      · rw [hoth _ _ (.inr (by omega))]; exact c1
      · rw [hoth _ _ (.inr (by omega))]; exact c2
      · rw [hoth _ _ (.inr (by omega))]; exact c3
      · rw [hoth _ _ (.inr (by omega))]; exact c4
  · have hj' : j < rs.length := by rw [hls] at hj; exact hj
    have hp := (h.rp j hj').setCell ⟨g, k * 5 + 4, none⟩ (.slice (some ⟨g2, 0, none⟩) L.length L.length) (by have := (h.bnd j hj').2.2.2.1; exact this.symm)
    rw [List.getElem_set]
    by_cases e : k = j
    · subst e; simp only [if_true]; exact hp
    · rw [if_neg e]; exact hp
  · have hj' : j < rs.length := by rw [hls] at hj; exact hj
    rw [List.getElem_set]
    by_cases e : k = j
    · subst e
      simp only [if_true]
      exact hr.setCell _ _ (by show g ≠ g2; omega)
    · rw [if_neg e]
      simp only [show ¬ j = k from fun x => e x.symm, if_false]
      exact (h.rq j hj').setCell _ _ (by have := (h.bnd j hj').2.2.2.2; exact this.symm)
  · have hj' : j < rs.length := by rw [hls] at hj; exact hj
    obtain ⟨b1, b2, b3, b4, b5⟩ := h.bnd j hj'
    by_cases e : j = k
    · simp only [e, if_true] at *; exact ⟨b1, by omega, by omega, b4, by omega⟩
    · simp only [e, if_false]; exact ⟨b1, b2, by omega, b4, b5⟩
  · have hj' : j < rs.length := by rw [hls] at hj; exact hj
    obtain ⟨o1, o2, o3, o4⟩ := h.ord i j hij hj'
    obtain ⟨b1, b2, b3, b4, b5⟩ := h.bnd j hj'
    obtain ⟨d1, d2, d3, d4, d5⟩ := h.bnd i (by omega)
    by_cases e1 : i = k
    · have e2 : ¬ j = k := by omega
      simp only [if_pos e1, if_neg e2]
      exact ⟨o1, o2, by omega, by omega⟩
    · by_cases e2 : j = k
      · simp only [if_neg e1, if_pos e2]
        exact ⟨o1, by omega, o3, by omega⟩
      · simp only [if_neg e1, if_neg e2]
        exact ⟨o1, o2, o3, o4⟩

set_option maxRecDepth 100000 in
set_option maxHeartbeats 2000000 in
theorem patchRefused_any (a : Option Addr) (rs : List Rs) (cap B : Nat) (a' : Option Addr) (p : List ByteArray) (cap' C : Nat) (w : World) (h : Rss w B a rs) (h' : Strs w C a' p) (hs : ShortT rs) (hl : rs.length ≤ maxLen) (hl' : p.length ≤ maxLen) (hB : B ≤ w.heap.size) (hC : C ≤ w.heap.size) :
    Calls Tryz.prog 28 #[.slice a rs.length cap, .slice a' p.length cap'] w fun e w' => e = .returned (.int .i64 (patI rs p)) ∧ Below w.heap.size w w' := by
  have HT := hide (treeOk_any a rs cap B w h hB hs hl)
  have HI := hide (fun W (hW : Below w.heap.size w W) => isThere_any a rs cap B a' p cap' C W (h.below hW hB) (h'.below hW hC) hl hl' (Nat.le_trans hB hW.size) (Nat.le_trans hC hW.size))
  have H1 := hide (fun e => patI_tree (rs := rs) (p := p) e)
  have H2 := hide (fun e f => patI_root (rs := rs) (p := p) e f)
  have H3 := hide (fun e f g => patI_none (rs := rs) (p := p) e f g)
  have H4 := hide (fun e f g => patI_ok (rs := rs) (p := p) e f g)
  have H5 := hide (there_iff (rs := rs) (p := p))
  unfold maxLen at hl'
  obtain ⟨t, ht⟩ : ∃ t, treeB rs = t := ⟨_, rfl⟩
  rw [ht] at HT H1 H2 H3 H4
  clear ht
  obtain ⟨q, hq⟩ : ∃ t, thereB rs p = t := ⟨_, rfl⟩
  rw [hq] at H5
  simp only [hq] at HI
  clear hq
  generalize patI rs p = P at *
  go_enter Tryz.func28, Tryz.ntmps28
  go_wp2_with fail
  refine HT.out.mono ?_
  rintro e w1 ⟨rfl, b1⟩
  cases t
  · have HE := hide (H1.out (by trivial))
    go_wp2
    go_ret
    rw [HE.out]
    exact ⟨rfl, b1⟩
  · by_cases h0 : p.length = 0
    · have HE := hide (H2.out (by trivial) h0)
      have e0 : ((p.length : Int) == 0) = true := by rw [h0]; rfl
      clear h0
      go_wp2
      go_ret
      rw [HE.out]
      exact ⟨rfl, b1⟩
    · have e0 : ((p.length : Int) == 0) = false := by rw [beq_eq_false_iff_ne]; omega
      have HQ := hide (HI.out w1 b1)
      have HE := hide (H4.out (by trivial) h0)
      have HF := hide (H3.out (by trivial) h0)
      have H0 := hide h0
      clear h0
      go_wp2_with fail
      refine HQ.out.mono ?_
      rintro e w2 ⟨rfl, b2⟩
      have c2 := b1.trans (b2.mono b1.size)
      cases q
      · have HG := hide (HF.out (by
          by_cases hf : findI rs p < 0
          · exact hf
          · have : false = true := H5.out.2 (.inr (by omega))
            cases this))
        go_wp2
        go_ret
        rw [HG.out]
        exact ⟨rfl, c2⟩
      · have HG := hide (HE.out (by
          rcases H5.out.1 rfl with h | h
          · exact absurd h H0.out
          · omega))
        go_wp2
        go_ret
        rw [HG.out]
        exact ⟨rfl, c2⟩

set_option maxRecDepth 100000 in
set_option maxHeartbeats 4000000 in
theorem patch_any (g og cap : Nat) (rs : List Rs) (a' : Option Addr) (p : List ByteArray) (cap' : Nat) (c : Option Addr) (ss : List St) (cap2 : Nat) (w : World) (hR : Rss w w.heap.size (some ⟨g, og, none⟩) rs) (hq : patI rs p = 0 → ∀ k (hk : k < rs.length), findI rs p = k → ∃ q qo qc, w.cell? ⟨g, og + k * 5 + 4, none⟩ = some (.slice (some ⟨q, qo, none⟩) rs[k].ps.length qc)) (h' : Strs w w.heap.size a' p) (hS : Sts w w.heap.size c ss) (hs : ShortT rs) (hl : rs.length ≤ 1048576) (hz : SzT rs) (hl' : p.length ≤ maxLen) (hlp : ∀ r ∈ rs, r.ps.length ≤ 1048576) (hl2 : ss.length ≤ 1048576) (hsh2 : SmallSs ss) (hsp : ∀ r ∈ rs, SmallPs r.ps) :
    Calls Tryz.prog 11 #[.slice (some ⟨g, og, none⟩) rs.length cap, .slice a' p.length cap', .slice c ss.length cap2] w fun e w' => (∃ g' c' pb' qb', e = .returned (.tuple #[.slice (some ⟨g', 0, none⟩) (pat rs p ss).1.length c', .int .i64 (pat rs p ss).2]) ∧ OwnR w' w.heap.size w'.heap.size g' (pat rs p ss).1 pb' qb') ∧ Below w.heap.size w w' := by
  have hlm : rs.length ≤ maxLen := by unfold maxLen; omega
  have HC := hide (copyTree_any (some ⟨g, og, none⟩) rs cap w.heap.size w hR (Nat.le_refl _) hl hz)
  have HP := hide (fun W (hW : Below w.heap.size w W) => patchRefused_any (some ⟨g, og, none⟩) rs cap w.heap.size a' p cap' w.heap.size W (hR.below hW (Nat.le_refl _)) (h'.below hW (Nat.le_refl _)) hs hlm hl' hW.size hW.size)
  have HF := hide (fun W (hW : Below w.heap.size w W) => findRes_any (some ⟨g, og, none⟩) rs cap w.heap.size a' p cap' w.heap.size W (hR.below hW (Nat.le_refl _)) (h'.below hW (Nat.le_refl _)) hlm hl' hW.size hW.size)
  have HNO := hide (fun (e : patI rs p ≠ 0) => pat_no (rs := rs) (p := p) rfl e ss)
  obtain ⟨P, hP⟩ : ∃ P, patI rs p = P := ⟨_, rfl⟩
  simp only [hP] at HP HNO
  have HPI := hide hP
  clear hP
  have hll : (rs.length : Int) ≤ 1048576 := by omega
  go_enter Tryz.func11, Tryz.ntmps11
  go_wp2_with fail
  refine HC.out.mono ?_
  rintro e w1 ⟨rfl, ⟨pb1, qb1, o1⟩, b1⟩
  have HP1 := hide (HP.out w1 b1)
  go_wp2_with fail
  refine HP1.out.mono ?_
  rintro e w2 ⟨rfl, b2⟩
  have c2 := b1.trans (b2.mono b1.size)
  have o2 := o1.below b2
  have y2 := b2.size
  have y1 := b1.size
  clear o1 HP1 HC HP
  by_cases hp0 : P = 0
  · subst hp0
    clear HNO
    have HF1 := hide (HF.out w2 c2)
    obtain ⟨k, hk, hkf⟩ := patI_found HPI.out
    have HKF := hide hkf
    rw [hkf] at HF1
    clear hkf
    obtain ⟨gb, go, eg, hgs, hcc⟩ := hR (by omega)
    have hge : gb = g ∧ go = og := by cases eg; exact ⟨rfl, rfl⟩
    obtain ⟨rfl, rfl⟩ := hge
    obtain ⟨pa, pc, qa, qc, ⟨x0, x1, x2, x3, x4⟩, hin⟩ := hcc k hk
    obtain ⟨qk, qo, qc', x4'⟩ := hq HPI.out k hk HKF.out
    have hqe : qa = some ⟨qk, qo, none⟩ := by rw [x4] at x4'; cases x4'; rfl
    subst hqe
    clear x4' hcc eg
    have hki : (k : Int) < (rs.length : Int) := by omega
    have hkn : (0 : Int) ≤ (k : Int) := by omega
    have HSP := hide (fun W (hW : Below w.heap.size w W) => setProps_any qk qo rs[k].ps qc w.heap.size c ss cap2 w.heap.size W (hin.qh.below hW (Nat.le_refl _)) hW.size hin.ql hin.qm (hS.below hW (Nat.le_refl _)) hW.size (hlp _ (List.getElem_mem hk)) hl2 (hsp _ (List.getElem_mem hk)) hsh2)
    have H409 := hide (fun e => pat_409 (ss := ss) HPI.out k hk HKF.out e)
    have H207 := hide (fun e => pat_207 (ss := ss) HPI.out k hk HKF.out e)
    go_wp2_with fail
    refine HF1.out.mono ?_
    rintro e w3 ⟨rfl, b3⟩
    have c3 := c2.trans (b3.mono c2.size)
    have o3 := o2.below b3
    have y3 := b3.size
    have x43 : w3.cell? ⟨gb, go + k * 5 + 4, none⟩ = some (.slice (some ⟨qk, qo, none⟩) rs[k].ps.length qc) := (c3.cell (p := ⟨gb, go + k * 5 + 4, none⟩) hgs).trans x4
    have HSP1 := hide (HSP.out w3 c3)
    obtain ⟨z, hz2⟩ : ∃ z, setsB rs[k].ps ss = z := ⟨_, rfl⟩
    rw [hz2] at HSP1
    simp only [hz2] at H409 H207
    clear hz2 o2 HF1 HF x0 x1 x2 x3 x4 HSP
    go_wp2_with fail
    refine HSP1.out.mono ?_
    rintro e w4 ⟨⟨g2, hg2, rfl, r4⟩, b4⟩
    have c4 := c3.trans (b4.mono c3.size)
    have o4 := o3.below b4
    have y4 := b4.size
    have hr4 := r4.1
    clear o3
    cases z
    · have HE := hide (H409.out (by trivial))
      go_wp2
      go_ret2
      rw [HE.out]
      exact ⟨⟨_, _, pb1, qb1, rfl, ⟨o4.gl, by have := o4.gh; omega, o4.gs, o4.fz, o4.cl, o4.rp, o4.rq, fun j hj => by obtain ⟨q1, q2, q3, q4⟩ := o4.bnd j hj; exact ⟨q1, q2, by omega, q4⟩, o4.ord⟩⟩, c4⟩
    · have HE := hide (H207.out (by trivial))
      obtain ⟨v0, v1, v2, v3, v4⟩ := o4.cl k hk
      have hfz := o4.fz (k * 5 + 4)
      have HO := hide (o4.setProps (hi' := w4.heap.size) k hk g2 _ r4 (by omega) hr4)
      clear o4 v0 v1 v2 v3
      go_wp2
      go_ret2
      rw [HE.out]
      exact ⟨⟨_, _, pb1, _, by rw [List.length_set]; rfl, by simpa using HO.out⟩, c4.setCell (Nat.le_refl _) _⟩
  · have HE := hide (HNO.out hp0)
    have e0 : (P == 0) = false := by rw [beq_eq_false_iff_ne]; exact hp0
    clear hp0 HNO
    go_wp2
    go_ret2
    rw [HE.out]
    exact ⟨⟨_, _, pb1, qb1, rfl, ⟨o2.gl, by have := o2.gh; omega, o2.gs, o2.fz, o2.cl, o2.rp, o2.rq, fun j hj => by obtain ⟨q1, q2, q3, q4⟩ := o2.bnd j hj; exact ⟨q1, q2, by omega, q4⟩, o2.ord⟩⟩, c2⟩
end Go.Proofs.YtkgdmlfdlkmojaaGreat
