/-
  What spec.SetProps does.
  What spec.Patch does.
  What the laws' own helps on what is known do: sizes, copies.
  What the laws' own helps on slices of texts do: sizes, copies, the same.
  What laws.toStringS does: a row of one's own.
  What the laws' own helps on things do: sizes, copies.
  What the laws' own helps on things do: copies.
  Whether two slices of texts hold the same: what laws.eqStringS does.
  Whether two lists of what is known are the same, by the laws' own helps.
  Whether two lists of things are the same, by the laws' own helps.
  Whether two lists of things are the same, by the laws' own helps: the lists.
  What the laws' own markText does.
-/
import Derived.Test.YtkgdmlfdlkmojaaGreatSpecOne
import Derived.Test.YtkgdmlfdlkmojaaGreatSpecPropsOk
import Derived.Test.YtkgdmlfdlkmojaaGreatMapHeld
import Derived.Test.YtkgdmlfdlkmojaaGreatSpecTreeOk
import Derived.Test.YtkgdmlfdlkmojaaGreatSpecLess
import Derived.Test.YtkgdmlfdlkmojaaGreatSpecCopyAll
import Derived.Test.YtkgdmlfdlkmojaaGreatMathFind
import Derived.Test.YtkgdmlfdlkmojaaGreatRowsM
import Derived.Test.YtkgdmlfdlkmojaaGreatQuote
import Derived.Deep.RegionHeld3
import Derived.Test.YtkgdmlfdlkmojaaGreatRows
import Derived.Test.YtkgdmlfdlkmojaaGreatMathTree
import Derived.WalkKit
import Derived.WalkSpells
import Derived.WalkLawsBesides
import Derived.Deep.Light
import Derived.Laws.IdiomStrings
import Derived.Laws.BytesArg
namespace Go.Proofs.YtkgdmlfdlkmojaaGreat
open Go.RowKit M
set_option linter.unusedVariables false

/-- All short, as far as sets go. -/
theorem turn_short {l : List Pp} {ss : List St} (h1 : ShortPs l) (h2 : ShortSs ss) (k : Nat) : ShortPs (turnL l (ss.take k)) := fun q hq => by
  rcases turn_mem l ss k q hq with h | ⟨s, hs, rfl⟩
  · exact h1 q h
  · exact h2 s hs

set_option maxRecDepth 100000 in
set_option maxHeartbeats 4000000 in
theorem specSetProps_any (a : Option Addr) (ps : List Pp) (cap B : Nat) (c : Option Addr) (ss : List St) (cap2 C : Nat) (w : World) (h : Pps w B a ps) (hB : B ≤ w.heap.size) (hpn : a = none → cap = 0) (hS : Sts w C c ss) (hC : C ≤ w.heap.size) (hl : ps.length ≤ 1048576) (hl2 : ss.length ≤ 1048576) (hsh : ShortPs ps) (hsh2 : ShortSs ss) :
    Calls Tryz.prog 24 #[.slice a ps.length cap, .slice c ss.length cap2] w fun e w' => (∃ g n cap', e = .returned (.tuple #[.slice (some ⟨g, 0, none⟩) n cap', .bool (setsB ps ss)]) ∧ n = (setsL ps ss).length ∧ OwnQ w' w.heap.size (.slice (some ⟨g, 0, none⟩) n cap') (setsL ps ss)) ∧ Below w.heap.size w w' := by
  have HM := hide (OwnQ.made w w.heap.size (Nat.le_refl _))
  have HB0 := hide ((Below.refl w.heap.size w).alloc (Nat.le_refl _) (Obj.cells #[] 59))
  have HP := hide (h.below HB0.out hB)
  have hl3 : ps.length ≤ 1048576000 := by omega
  have HBAD := hide (fun k hk e => sets_bad (l := ps) (ss := ss) k hk e)
  have HALL := hide (fun e => sets_all (l := ps) (ss := ss) e)
  have HNO := hide (fun e => sets_no (l := ps) (ss := ss) e)
  have HYES := hide (fun e => sets_yes (l := ps) (ss := ss) e)
  have HAPP : Hid (∀ (W : World) (hW : Below w.heap.size w W) {ops : Array Oper} {rest : List Oper} {o : Oper} {aa : Act} {Q : Exit → Act → World → Prop} (hgd : o.guard = none) (s x : Operand) (ho : o.op = .call { callee := .builtin .append, args := #[s, x], argTypes := #[53, 53] }) (hs : aa.eval s = .slice (some ⟨W.heap.size, 0, none⟩) 0 0) (hx : aa.eval x = .slice a ps.length cap) (hK : ∀ g cap' w', OwnQ w' w.heap.size (.slice (some ⟨g, 0, none⟩) ps.length cap') ps → Below w.heap.size w w' → wpList Tryz.prog ops Q rest (aa.put o.dst (.slice (some ⟨g, 0, none⟩) ps.length cap')) w'), wpList Tryz.prog ops Q (o :: rest) aa (W.alloc (Obj.cells #[] 59))) := by
    intro W hW ops rest o aa Q hgd s x ho hs hx hK
    have c1 : Below w.heap.size w (W.alloc (Obj.cells #[] 59)) := hW.alloc hW.size _
    exact wp_append_propsO hgd s x ho w.heap.size W.heap.size ps ps.length rfl hs (OwnQ.made W w.heap.size hW.size) B a cap hx (h.below c1 hB) hpn hl3 c1.size (fun g cap' w' hO hb => hK g cap' w' hO (c1.trans (hb.mono (Nat.le_refl _))))
  go_enter Tryz.func24, Tryz.ntmps24
  go_wp2_with (at_builtin; refine HAPP.out w (Below.refl _ _) rfl _ _ rfl rfl rfl ?_)
  intro g0 cap0 w0 hO0 hb0
  go_wp2
  go_loopw [6, 7] (fun out i wr => ∃ (k g n cc : Nat), k ≤ ss.length ∧ i = .int .i64 k ∧ out = .slice (some ⟨g, 0, none⟩) n cc ∧ Hid (n = (turnL ps (ss.take k)).length) ∧ OwnQ wr w.heap.size (.slice (some ⟨g, 0, none⟩) n cc) (turnL ps (ss.take k)) ∧ Hid (∀ j (hj : j < ss.length), j < k → propB ss[j].2 = true) ∧ Below w.heap.size w wr) (fun _ i _ => ss.length - (intOf i).toNat)
  case atStart => exact ⟨0, g0, ps.length, cap0, Nat.zero_le _, rfl, rfl, rfl, hO0, fun j _ hj => absurd hj (by omega), hb0⟩
  case round =>
    obtain ⟨k, g, n, cc, hk, rfl, rfl, hn, hO, hpr, hbe⟩ := hrel
    have HTL := hide (turn_len ps ss k)
    have HTS := hide (turn_short hsh hsh2 k)
    by_cases hlt : k < ss.length
    · obtain ⟨b, o, rfl, hb, hc⟩ := (hS.below hbe hC) (by omega)
      obtain ⟨hcd, hcx, hcy, hcz⟩ := hc k hlt
      obtain ⟨z1, z2, z3⟩ := hsh2.at k hlt
      have HN := hide (turn_next ps ss k hlt)
      have HSP := hide (specProp_any ss[k].2 wr z1 z2 z3)
      obtain ⟨u, hu⟩ : ∃ u, propB ss[k].2 = u := ⟨_, rfl⟩
      rw [hu] at HSP
      have HU := hide hu
      have hbb : b < w.heap.size := by omega
      clear hu hc z1 z2 z3
      go_wp2_with fail
      refine HSP.out.mono ?_
      rintro e w1 ⟨rfl, b1⟩
      have c1 := hbe.trans (b1.mono hbe.size)
      have hO1 := hO.next b1
      have hbw : b < wr.heap.size := by have := hbe.size; omega
      have kc : ∀ o', w1.cell? ⟨b, o', none⟩ = wr.cell? ⟨b, o', none⟩ := fun o' => (bcellP b1).1 b o' hbw
      have hcd1 := (kc _).trans hcd
      have hcx1 := (kc _).trans hcx
      have hcy1 := (kc _).trans hcy
      have hcz1 := (kc _).trans hcz
      clear hO b1 kc
      cases u
      · have HR := hide (HBAD.out k hlt HU.out)
        go_wp2_with (at_builtin; refine HAPP.out w1 c1 rfl _ _ rfl rfl rfl ?_)
        intro g2 cap2 w2 hO2 hb2
        go_wp2
        go_ret2
        rw [HR.out.1, HR.out.2]
        exact ⟨⟨_, _, _, rfl, rfl, hO2⟩, hb2⟩
      · obtain ⟨l, hL⟩ : ∃ l, turnL ps (ss.take k) = l := ⟨_, rfl⟩
        rw [hL] at hO1 hn HN HTL HTS
        have hnl := hn.out
        obtain ⟨aq, cq, eq, hcn, hpq, _⟩ := hO1.slice
        have eq2 : Value.slice (some ⟨g, 0, none⟩) n cc = .slice (some ⟨g, 0, none⟩) l.length cc := by rw [hnl]
        obtain rfl : aq = some ⟨g, 0, none⟩ := by rw [eq2] at eq; cases eq; rfl
        have HONE := hide (specOne_any (some ⟨g, 0, none⟩) l cc w1.heap.size ss[k].1 ss[k].2 w1 hpq (Nat.le_refl _) (by have := HTL.out; omega))
        rw [← hnl] at HONE
        clear hL hnl eq eq2 hpq hcn
        go_wp2_with fail
        refine HONE.out.mono ?_
        rintro e w2 ⟨⟨g2, n2, cap2, rfl, hn2, hO2⟩, b2⟩
        have c2 := c1.trans (b2.mono c1.size)
        have HN2 := hide hn2
        have hO3 := hO2.base c1.size
        clear hn2 hO2
        go_wp2
        go_roundw
        case rel => exact ⟨k + 1, g2, n2, cap2, by omega, by go_num, rfl, hide (by rw [HN.out]; exact HN2.out), (by rw [HN.out]; exact hO3), hide (fun j hj hjk => if e : j = k then by subst e; exact HU.out else hpr.out j hj (by omega)), c2⟩
        case measure => simp [intOf]; omega
    · have HTE := hide (show ss.take k = ss from List.take_of_length_le (by omega))
      rw [HTE.out] at hn hO HTL HTS
      obtain ⟨l, hL⟩ : ∃ l, turnL ps ss = l := ⟨_, rfl⟩
      have HA := hide (HALL.out (fun j hj => hpr.out j hj (by omega)))
      rw [hL] at hO hn HTL HTS HA HYES
      have hnl := hn.out
      obtain ⟨aq, cq, eq, hcn, hpq, _⟩ := hO.slice
      have eq2 : Value.slice (some ⟨g, 0, none⟩) n cc = .slice (some ⟨g, 0, none⟩) l.length cc := by rw [hnl]
      obtain rfl : aq = some ⟨g, 0, none⟩ := by rw [eq2] at eq; cases eq; rfl
      have HPO := hide (specPropsOk_any (some ⟨g, 0, none⟩) l cc wr.heap.size wr hpq (Nat.le_refl _) HTS.out (by have := HTL.out; unfold maxLen; omega))
      rw [← hnl] at HPO
      clear hL hnl eq eq2 hpq hcn
      obtain ⟨u, hu⟩ : ∃ u, propsB l = u := ⟨_, rfl⟩
      rw [hu] at HPO HA
      clear hu
      go_wp2_with fail
      refine HPO.out.mono ?_
      rintro e w1 ⟨rfl, b1⟩
      have c1 := hbe.trans (b1.mono hbe.size)
      have hO1 := hO.next b1
      clear hO b1
      cases u
      · go_wp2_with (at_builtin; refine HAPP.out w1 c1 rfl _ _ rfl rfl rfl ?_)
        intro g2 cap2 w2 hO2 hb2
        go_wp2
        go_ret2
        rw [HNO.out HA.out, HA.out]
        exact ⟨⟨_, _, _, rfl, rfl, hO2⟩, hb2⟩
      · go_wp2
        go_ret2
        rw [HYES.out HA.out, HA.out]
        exact ⟨⟨_, _, _, rfl, hn.out, hO1⟩, c1⟩
end Go.Proofs.YtkgdmlfdlkmojaaGreat
namespace Go.Proofs.YtkgdmlfdlkmojaaGreat
open Go.RowKit M
set_option linter.unusedVariables false

theorem GrowR.rssSet {w : World} {B lo b cap : Nat} {ts : List RsT} (g : GrowR w B (.slice (some ⟨b, 0, none⟩) ts.length cap) ts lo) {rs : List Rs} (hm : ts.map (·.r) = rs) (k : Nat) (hk : k < rs.length) (g2 c2 : Nat) (L : List Pp) (hr : RowP w g2 L) (hne : g2 ≠ b) (h1 : L.length ≤ c2) (h2 : c2 ≤ maxLen) :
    Rss (w.setCell ⟨b, k * 5 + 4, none⟩ (.slice (some ⟨g2, 0, none⟩) L.length c2)) w.heap.size (some ⟨b, 0, none⟩) (rs.set k (setP rs[k] L)) := by
  subst hm
  have hls : ((ts.map (·.r)).set k (setP (ts.map (·.r))[k] L)).length = ts.length := by simp
  have ht := g.top
  obtain ⟨b', cap'', hv, hb⟩ := g.blk
  have hb' : b' = b := by cases hv; rfl
  subst hb'
  have hoth : ∀ (x o : Nat) (hne : x ≠ b' ∨ o ≠ k * 5 + 4), (w.setCell ⟨b', k * 5 + 4, none⟩ (.slice (some ⟨g2, 0, none⟩) L.length c2)).cell? ⟨x, o, none⟩ = w.cell? ⟨x, o, none⟩ := fun x o hne => World.cell?_setCell_other _ _ _ _ (fun e => by
    have e1 := congrArg Addr.block e
    have e2 := congrArg Addr.off e
    simp at e1 e2
    omega)
  refine fun _ => ⟨b', 0, rfl, by omega, fun j hj => ?_⟩
  have hj' : j < ts.length := by rw [hls] at hj; exact hj
  obtain ⟨q1, q2, q3, q4, q5, q6, q7⟩ := g.el j hj'
  obtain ⟨k1, k2, k3, k4⟩ := g.caps j hj'
  obtain ⟨c0, c1, c2', c3, c4⟩ := g.at rfl j hj'
  have hp := q4.setCell ⟨b', k * 5 + 4, none⟩ (.slice (some ⟨g2, 0, none⟩) L.length c2) (fun e => q6 (by show some ts[j].p = some b'; rw [← e]))
  have hq := q5.setCell ⟨b', k * 5 + 4, none⟩ (.slice (some ⟨g2, 0, none⟩) L.length c2) (fun e => q7 (by show some ts[j].q = some b'; rw [← e]))
  have hr' := hr.setCell ⟨b', k * 5 + 4, none⟩ (.slice (some ⟨g2, 0, none⟩) L.length c2) (fun e => hne e.symm)
  have hz : (w.setCell ⟨b', k * 5 + 4, none⟩ (.slice (some ⟨g2, 0, none⟩) L.length c2)).heap.size = w.heap.size := by simp
  rw [List.getElem_set]
  by_cases e : k = j
  · subst e
    simp only [if_true, Nat.zero_add, List.getElem_map]
    refine ⟨_, ts[k].pc, _, c2, ⟨?_, ?_, ?_, ?_, World.cell?_setCell_same _ _ _ c4⟩, ⟨hp.strs' (by omega), hr'.pps (by have := hr.1; omega), k1, h1, k2, h2, (fun e => by cases e), (fun e => by cases e)⟩⟩
    · rw [hoth _ _ (.inr (by omega))]; exact c0
    · rw [hoth _ _ (.inr (by omega))]; exact c1
    · rw [hoth _ _ (.inr (by omega))]; exact c2'
    · rw [hoth _ _ (.inr (by omega))]; exact c3
  · rw [if_neg e]
    simp only [Nat.zero_add, List.getElem_map]
    refine ⟨_, ts[j].pc, _, ts[j].qc, ⟨?_, ?_, ?_, ?_, ?_⟩, ⟨hp.strs' (by omega), hq.pps (by omega), k1, k3, k2, k4, (fun e => by cases e), (fun e => by cases e)⟩⟩
    · rw [hoth _ _ (.inr (by omega))]; exact c0
    · rw [hoth _ _ (.inr (by omega))]; exact c1
    · rw [hoth _ _ (.inr (by omega))]; exact c2'
    · rw [hoth _ _ (.inr (by omega))]; exact c3
    · rw [hoth _ _ (.inr (by omega))]; exact c4

set_option maxRecDepth 100000 in
set_option maxHeartbeats 4000000 in
theorem specPatch_any (a : Option Addr) (rs : List Rs) (cap B : Nat) (a' : Option Addr) (p : List ByteArray) (cap' C : Nat) (c : Option Addr) (ss : List St) (cap2 D : Nat) (w : World) (h : Rss w B a rs) (hB : B ≤ w.heap.size) (h' : Strs w C a' p) (hC : C ≤ w.heap.size) (hS : Sts w D c ss) (hD : D ≤ w.heap.size) (hs : ShortT rs) (hl : rs.length ≤ 1048576) (hlp : ∀ r ∈ rs, r.pa.length ≤ 1048576 ∧ r.ps.length ≤ 1048576) (hl' : p.length ≤ maxLen) (hl2 : ss.length ≤ 1048576) (hsh2 : ShortSs ss) :
    Calls Tryz.prog 7 #[.slice a rs.length cap, .slice a' p.length cap', .slice c ss.length cap2] w fun e w' => (∃ g' c', e = .returned (.tuple #[.slice (some ⟨g', 0, none⟩) (pat rs p ss).1.length c', .int .i64 (pat rs p ss).2]) ∧ Rss w' w'.heap.size (some ⟨g', 0, none⟩) (pat rs p ss).1) ∧ Below w.heap.size w w' := by
  have hlm : rs.length ≤ maxLen := by unfold maxLen; omega
  have HC := hide (specCopyAll_any a rs cap B w h hB hl hlp)
  have HT := hide (fun W (hW : Below w.heap.size w W) => specTreeOk_any a rs cap B W (h.below hW hB) (Nat.le_trans hB hW.size) hs hlm (fun r hr => (hlp r hr).1))
  have HF := hide (fun W (hW : Below w.heap.size w W) => specFind_any a rs cap B a' p cap' C W (h.below hW hB) (h'.below hW hC) hlm hl')
  have H1 := hide (fun e => pat_no (patI_tree (rs := rs) (p := p) e) (by decide) ss)
  have H2 := hide (fun e f => pat_no (patI_root (rs := rs) (p := p) e f) (by decide) ss)
  have H3 := hide (fun e f g => pat_no (patI_none (rs := rs) (p := p) e f g) (by decide) ss)
  have H4 := hide (fun e f g => patI_ok (rs := rs) (p := p) e f g)
  have H5 := hide (fun k hk e f g => pat_409 (ss := ss) (rs := rs) (p := p) e k hk f g)
  have H6 := hide (fun k hk e f g => pat_207 (ss := ss) (rs := rs) (p := p) e k hk f g)
  have HFD := hide (fun e => patI_found (rs := rs) (p := p) e)
  obtain ⟨t, ht⟩ : ∃ t, treeB rs = t := ⟨_, rfl⟩
  simp only [ht] at HT H1 H2 H3 H4
  clear ht
  have hl3 : (p.length : Int) ≤ 9223372036854775807 := by unfold maxLen at hl'; omega
  go_enter Tryz.func7, Tryz.ntmps7
  go_wp2_with fail
  refine HC.out.mono ?_
  rintro e w1 ⟨⟨v1, ts, rfl, hG1, hm⟩, b1⟩
  have HM := hide hm
  clear hm
  have HF1 := hide (HF.out w1 b1)
  obtain ⟨F, hF⟩ : ∃ F, findI rs p = F := ⟨_, rfl⟩
  rw [hF] at HF1 H3 H4
  simp only [hF] at H5 H6
  have HFE := hide hF
  clear hF
  go_wp2_with fail
  refine HF1.out.mono ?_
  rintro e w2 ⟨rfl, b2'⟩
  have b2 := b2' w1.heap.size
  have c2 := b1.trans (b2.mono b1.size)
  have hG2 := hG1.next b2
  clear b2' hG1 HF1 HF HC
  have HT1 := hide (HT.out w2 c2)
  go_wp2_with fail
  refine HT1.out.mono ?_
  rintro e w3 ⟨rfl, b3⟩
  have c3 := c2.trans (b3.mono c2.size)
  have hG3 := hG2.next b3
  clear hG2 HT1 HT
  have HRS : Hid (∀ w', Below w3.heap.size w3 w' → ∃ b c', v1 = .slice (some ⟨b, 0, none⟩) rs.length c' ∧ Rss w' w'.heap.size (some ⟨b, 0, none⟩) rs) := fun w' hw' => by
    obtain ⟨b, c', hv, hr⟩ := (hG3.next hw').rss (Nat.le_refl _)
    have hml := congrArg List.length HM.out
    rw [List.length_map] at hml
    rw [HM.out] at hr
    exact ⟨b, c', by rw [hv, hml], hr⟩
  obtain ⟨b0, cc, hv, hr0⟩ := HRS.out w3 (Below.refl _ _)
  subst hv
  have HR0 := hide hr0
  clear hr0
  cases t
  · have HE := hide (H1.out (by trivial))
    go_wp2
    go_ret2
    rw [HE.out]
    exact ⟨⟨_, _, rfl, HR0.out⟩, c3⟩
  · by_cases h0 : p.length = 0
    · have HE := hide (H2.out (by trivial) h0)
      have e0 : ((p.length : Int) == 0) = true := by rw [h0]; rfl
      clear h0
      go_wp2
      go_ret2
      rw [HE.out]
      exact ⟨⟨_, _, rfl, HR0.out⟩, c3⟩
    · have e0 : ((p.length : Int) == 0) = false := by rw [beq_eq_false_iff_ne]; omega
      by_cases hf : F < 0
      · have HE := hide (H3.out (by trivial) h0 hf)
        clear h0
        go_wp2
        go_ret2
        rw [HE.out]
        exact ⟨⟨_, _, rfl, HR0.out⟩, c3⟩
      · have HOK := hide (H4.out (by trivial) h0 (by omega))
        obtain ⟨k, hk, hkf⟩ := HFD.out HOK.out
        obtain rfl : F = (k : Int) := by rw [← HFE.out, hkf]
        have h0' := hide h0
        clear h0 hkf hf
        obtain ⟨b9, o9, rfl, hb9, hc9⟩ := h (by omega)
        obtain ⟨pa, pc, qa, qc, ⟨x0, x1, x2, x3, x4⟩, hin⟩ := hc9 k hk
        have x43 : w3.cell? ⟨b9, o9 + k * 5 + 4, none⟩ = some (.slice qa rs[k].ps.length qc) := (c3.cell (p := ⟨b9, o9 + k * 5 + 4, none⟩) (Nat.lt_of_lt_of_le hb9 hB)).trans x4
        have hki : (k : Int) < (rs.length : Int) := by omega
        have HSP := hide (specSetProps_any qa rs[k].ps qc B c ss cap2 D w3 (hin.qh.below c3 hB) (Nat.le_trans hB c3.size) hin.qn (hS.below c3 hD) (Nat.le_trans hD c3.size) (hlp _ (List.getElem_mem hk)).2 hl2 (hs.at k hk).qs hsh2)
        obtain ⟨z, hz2⟩ : ∃ z, setsB rs[k].ps ss = z := ⟨_, rfl⟩
        rw [hz2] at HSP
        have H409 := hide (fun e => H5.out k hk HOK.out (by trivial) (hz2.trans e))
        have H207 := hide (fun e => H6.out k hk HOK.out (by trivial) (hz2.trans e))
        clear hz2 x0 x1 x2 x3 x4 hc9
        go_wp2_with fail
        refine HSP.out.mono ?_
        rintro e w4 ⟨⟨g2, n2, c4', rfl, hn2, hO4⟩, b4⟩
        have c4 := c3.trans (b4.mono c3.size)
        cases z
        · have HE := hide (H409.out (by trivial))
          obtain ⟨b8, c8, hv8, hr8⟩ := HRS.out w4 b4
          have hb8 : b8 = b0 ∧ c8 = cc := by cases hv8; exact ⟨rfl, rfl⟩
          obtain ⟨rfl, rfl⟩ := hb8
          have HR8 := hide hr8
          clear hr8 hv8 hn2 hO4
          go_wp2
          go_ret2
          rw [HE.out]
          exact ⟨⟨_, _, rfl, HR8.out⟩, c4⟩
        · have HE := hide (H207.out (by trivial))
          obtain ⟨r4, hg2, hc1, hc2⟩ := hO4.row hn2
          subst hn2
          have hG4 := hG3.next b4
          have hml := congrArg List.length HM.out
          rw [List.length_map] at hml
          rw [← hml] at hG4
          obtain ⟨bq, cq, hvq, hbq⟩ := hG3.blk
          have hb0 : b0 < w3.heap.size := by have h1 : b0 = bq := by injection hvq with q1; injection q1 with q1; injection q1
                                             have := hG3.top; omega
          have HR9 := hide (hG4.rssSet HM.out k hk g2 c4' _ r4 (by omega) hc1 hc2)
          have v4 := (hG4.at rfl k (by rw [hml]; exact hk)).2.2.2.2
          have hfz : w4.frozen? ⟨b0, k * 5 + 4, none⟩ = false := by
            rcases hG4.own.2 with ⟨h, _⟩ | ⟨g', cap', cur, e, _, hh, _⟩
            · cases h
            · cases e
              exact rowsR_frozen hh _
          have hbl : w.heap.size ≤ b0 := (World.ownsRow.lt hG4.own b0 rfl).1
          clear hG4 hO4 hvq
          go_wp2
          go_ret2
          rw [HE.out]
          exact ⟨⟨_, _, by rw [List.length_set]; rfl, by simpa using HR9.out⟩, c4.setCell hbl _⟩
end Go.Proofs.YtkgdmlfdlkmojaaGreat
namespace Go.Proofs.YtkgdmlfdlkmojaaGreat
open Go.RowKit M
set_option linter.unusedVariables false

set_option maxHeartbeats 1000000 in
theorem szProp_any (x y z : ByteArray) (left : Nat) (w : World) (h1 : x.size ≤ maxLen) (h2 : y.size ≤ maxLen) (h3 : z.size ≤ maxLen) (hleft : left ≤ 1048576) :
    Calls Tryz.prog 38 #[.agg #[.string x, .string y, .string z], .int .i64 left] w fun e w' => (∃ v : Int, e = .returned (.int .i64 v) ∧ (v < 0 ∨ ∃ m : Nat, v = m ∧ x.size + y.size + z.size + m = left)) ∧ Below w.heap.size w w' := by
  unfold maxLen at h1 h2 h3
  have hb0 : Below w.heap.size w (w.alloc (Obj.cells #[.string x, .string y, .string z] 47)) := (Below.refl _ _).alloc (Nat.le_refl _) _
  by_cases hx : left < x.size
  · go_enter Tryz.func38, Tryz.ntmps38
    go_wp2
    go_ret
    exact ⟨⟨_, rfl, .inl (by omega)⟩, hb0⟩
  · by_cases hy : left < x.size + y.size
    · go_enter Tryz.func38, Tryz.ntmps38
      go_wp2
      go_ret
      exact ⟨⟨_, rfl, .inl (by omega)⟩, hb0⟩
    · by_cases hv : left < x.size + y.size + z.size
      · go_enter Tryz.func38, Tryz.ntmps38
        go_wp2
        go_ret
        exact ⟨⟨_, rfl, .inl (by omega)⟩, hb0⟩
      · go_enter Tryz.func38, Tryz.ntmps38
        go_wp2
        go_ret
        exact ⟨⟨_, rfl, .inr ⟨left - x.size - y.size - z.size, by omega, by omega⟩⟩, hb0⟩

set_option maxHeartbeats 1000000 in
theorem szPropS_any (a : Option Addr) (ps : List Pp) (cap B left : Nat) (w : World) (h : Pps w B a ps) (hB : B ≤ w.heap.size) (hsh : ShortPs ps) (hl : ps.length ≤ maxLen) (hleft : left ≤ 1048576) :
    Calls Tryz.prog 37 #[.slice a ps.length cap, .int .i64 left] w fun e w' => (∃ z : Int, e = .returned (.int .i64 z) ∧ (z < 0 ∨ ∃ m : Nat, z = m ∧ ps.length + sumP ps + m = left)) ∧ Below w.heap.size w w' := by
  unfold maxLen at hl
  by_cases hlt0 : left < ps.length
  · go_enter Tryz.func37, Tryz.ntmps37
    go_wp2
    go_ret
    exact ⟨⟨_, rfl, .inl (by omega)⟩, Below.refl _ _⟩
  · go_enter Tryz.func37, Tryz.ntmps37
    go_wp2
    go_loopw [1, 5] (fun l i wr => ∃ k m : Nat, k ≤ ps.length ∧ i = .int .i64 k ∧ l = .int .i64 m ∧ ps.length + sumP (ps.take k) + m = left ∧ Below w.heap.size w wr) (fun _ i _ => ps.length - (intOf i).toNat)
    case atStart => exact ⟨0, left - ps.length, Nat.zero_le _, rfl, by congr 1; omega, by simp [sumP]; omega, Below.refl _ _⟩
    case round =>
      obtain ⟨k, m, hk, rfl, rfl, hm, hbe⟩ := hrel
      by_cases hlt : k < ps.length
      · obtain ⟨b, o, rfl, hb, hc⟩ := (h.below hbe hB) (by omega)
        obtain ⟨hcx, hcy, hcz⟩ := hc k hlt
        have hsz := hsh.at k hlt
        have HS2 := hide (sumP_snoc ps k hlt)
        have HM : Hid (ps.length + sumP (ps.take k) + m = left) := hm
        clear hm
        have hm1 : m ≤ 1048576 := by have := HM.out; omega
        go_wp2_with fail
        refine (szProp_any ps[k].1 ps[k].2.1 ps[k].2.2 m wr hsz.1 hsz.2.1 hsz.2.2 hm1).mono ?_
        rintro e w1 ⟨⟨z, rfl, hz⟩, hb1⟩
        have c1 := hbe.trans (hb1.mono hbe.size)
        rcases hz with hz | ⟨m', rfl, hm'⟩
        · go_wp2
          go_ret
          exact ⟨⟨_, rfl, .inl (by omega)⟩, c1⟩
        · have HM' : Hid ((ps[k]).1.size + (ps[k]).2.1.size + (ps[k]).2.2.size + m' = m) := hm'
          clear hm'
          go_wp2
          go_roundw
          case rel => exact ⟨k + 1, m', by omega, by go_num, rfl, by rw [HS2.out]; have := HM.out; have := HM'.out; unfold szP; omega, c1⟩
          case measure => simp [intOf]; omega
      · go_wp2
        go_ret
        exact ⟨⟨m, rfl, .inr ⟨m, rfl, by rw [List.take_of_length_le (by omega)] at hm; exact hm⟩⟩, hbe⟩

set_option maxHeartbeats 400000 in
theorem toProp_any (x y z : ByteArray) (w : World) :
    Calls Tryz.prog 50 #[.agg #[.string x, .string y, .string z]] w fun e w' => e = .returned (.agg #[.string x, .string y, .string z]) ∧ Below w.heap.size w w' := by
  go_enter Tryz.func50, Tryz.ntmps50
  go_wp2
  exact bodyPost_ret (v := .agg #[.string x, .string y, .string z]) (by simp [results, Tryz.results50, go_sem]) rfl ⟨rfl, (((Below.refl _ _).alloc (Nat.le_refl _) _).alloc (by simp) _).alloc (by simp; omega) _⟩

set_option maxHeartbeats 1000000 in
theorem toPropS_any (a : Option Addr) (ps : List Pp) (cap B : Nat) (w : World) (h : Pps w B a ps) (hB : B ≤ w.heap.size) (hl : ps.length ≤ 1048576) :
    Calls Tryz.prog 49 #[.slice a ps.length cap] w fun e w' => e = .returned (.slice (some ⟨w.heap.size, 0, none⟩) ps.length ps.length) ∧ RowP w' w.heap.size ps ∧ Below w.heap.size w w' := by
  have hmk := run_make_props ps.length hl w
  go_enter Tryz.func49, Tryz.ntmps49
  go_wp2
  clear hmk
  go_loopw [4] (fun i wr => ∃ k : Nat, k ≤ ps.length ∧ i = .int .i64 k ∧ MadeP wr w.heap.size ps k ∧ Below w.heap.size w wr) (fun i _ => ps.length - (intOf i).toNat)
  case atStart => exact ⟨0, Nat.zero_le _, rfl, MadeP.start w ps, (Below.refl _ _).alloc (Nat.le_refl _) _⟩
  case round =>
    obtain ⟨k, hk, rfl, hrow, hbe⟩ := hrel
    by_cases hlt : k < ps.length
    · obtain ⟨b, o, rfl, hb, hc⟩ := (h.below hbe hB) (by omega)
      obtain ⟨hcx, hcy, hcz⟩ := hc k hlt
      clear hc
      go_wp2_with fail
      refine (toProp_any ps[k].1 ps[k].2.1 ps[k].2.2 wr).mono ?_
      rintro e w1 ⟨rfl, hb1⟩
      have c1 := hbe.trans (hb1.mono hbe.size)
      have hrow1 := hrow.below hb1
      obtain ⟨v0, v1, v2, hd0, hd1, hd2, hf0, hf1, hf2⟩ := hrow1.cells hlt
      have HR := hide (hrow1.next hlt)
      clear hrow1 hrow
      go_wp2
      go_roundw
      case rel => exact ⟨k + 1, by omega, by go_num, HR.out, ((c1.setCell (Nat.le_refl _) _).setCell (Nat.le_refl _) _).setCell (Nat.le_refl _) _⟩
      case measure => simp [intOf]; omega
    · go_wp2
      go_ret
      exact ⟨rfl, hrow.done hlt, hbe⟩
end Go.Proofs.YtkgdmlfdlkmojaaGreat
namespace Go.Proofs.YtkgdmlfdlkmojaaGreat
open Go.RowKit
set_option linter.unusedVariables false

set_option maxHeartbeats 400000 in
theorem szStringS_any (a : Option Addr) (ss : List ByteArray) (cap B left : Nat) (w : World) (h : Strs w B a ss) (hs : Short ss) (hl : ss.length ≤ maxLen) (hleft : left ≤ 1048576) :
    Calls Tryz.prog 5 #[.slice a ss.length cap, .int .i64 left] w fun e w' => (∃ z : Int, e = .returned (.int .i64 z) ∧ (z < 0 ∨ ∃ m : Nat, z = m ∧ ss.length + sumS ss + m = left)) ∧ w' = w := by
  unfold maxLen at hl
  by_cases hlt0 : left < ss.length
  · go_enter Tryz.func5, Tryz.ntmps5
    go_wp2
    go_ret
    exact ⟨⟨_, rfl, .inl (by omega)⟩, rfl⟩
  · go_enter Tryz.func5, Tryz.ntmps5
    go_wp2
    go_loop [1, 5] (fun l i => ∃ k m : Nat, k ≤ ss.length ∧ i = .int .i64 k ∧ l = .int .i64 m ∧ ss.length + sumS (ss.take k) + m = left) (fun _ i => ss.length - (intOf i).toNat)
    case atStart => exact ⟨0, left - ss.length, Nat.zero_le _, rfl, by congr 1; omega, by simp [sumS]; omega⟩
    case round =>
      obtain ⟨k, m, hk, rfl, rfl, hm⟩ := hrel
      by_cases hlt : k < ss.length
      · obtain ⟨b, o, rfl, hb, hc⟩ := h (by omega)
        have hcx := hc k hlt
        have hsz := hs.at k hlt
        unfold maxLen at hsz
        have HS := sumS_snoc ss k hlt
        by_cases hm2 : m < (ss[k]).size
        · go_wp2
          go_ret
          exact ⟨⟨_, rfl, .inl (by omega)⟩, rfl⟩
        · go_wp2
          go_round
          case rel => exact ⟨k + 1, m - (ss[k]).size, by omega, by go_num, by congr 1; omega, by omega⟩
          case measure => simp [intOf]; omega
      · go_wp2
        go_ret
        exact ⟨⟨m, rfl, .inr ⟨m, rfl, by rw [← sumS_all ss k hlt]; simpa [sumS_all ss k hlt] using hm⟩⟩, rfl⟩

set_option maxHeartbeats 400000 in
theorem toStringS_any (a : Option Addr) (ss : List ByteArray) (cap B : Nat) (w : World) (h : Strs w B a ss) (hB : B ≤ w.heap.size) (hl : ss.length ≤ 1048576) :
    Calls Tryz.prog 9 #[.slice a ss.length cap] w fun e w' => e = .returned (.slice (some ⟨w.heap.size, 0, none⟩) ss.length ss.length) ∧ Strs w' (w.heap.size + 1) (some ⟨w.heap.size, 0, none⟩) ss ∧ Below w.heap.size w w' ∧ w.heap.size < w'.heap.size := by
  have hmk := run_make_row' (P := Tryz.prog) 23 9 (.string ByteArray.empty) 16 Tryz.underlying23 info_str rfl .i64 .i64 ss.length (by omega) (by omega) w
  go_enter Tryz.func9, Tryz.ntmps9
  go_wp2
  clear hmk
  go_loopw [4] (fun i wr => ∃ k : Nat, k ≤ ss.length ∧ i = .int .i64 k ∧ wr.rowIs w.heap.size 9 ss.length (fun j => if j < k then .string (ss.getD j ByteArray.empty) else .string ByteArray.empty) ∧ Below w.heap.size w wr) (fun i _ => ss.length - (intOf i).toNat)
  case atStart => exact ⟨0, Nat.zero_le _, rfl, (World.rowIs_made w _ _ _).congr (fun i _ => by simp), (Below.refl _ _).alloc (Nat.le_refl _) _⟩
  case round =>
    obtain ⟨k, hk, rfl, hrow, hbe⟩ := hrel
    by_cases hlt : k < ss.length
    · obtain ⟨b, o, rfl, hb, hc⟩ := h (by omega)
      have hcx := (hbe.cell (p := ⟨b, o + k, none⟩) (Nat.lt_of_lt_of_le hb hB)).trans (hc k hlt)
      have hcn := hrow.cell hlt
      have hfn := hrow.frozen k
      have hrow2 := (hrow.set k (.string ss[k])).congr (g := fun j => if j < k + 1 then .string (ss.getD j ByteArray.empty) else .string ByteArray.empty) (fun j hj => by
        by_cases e : j = k
        · subst e; simp [List.getD, List.getElem?_eq_getElem hlt]
        · simp only [e, if_false]
          by_cases e2 : j < k
          · rw [if_pos e2, if_pos (by omega)]
          · rw [if_neg e2, if_neg (by omega)])
      have HR : Hid _ := hrow2
      clear hrow2
      go_wp2
      go_roundw
      case rel => exact ⟨k + 1, by omega, by go_num, HR.out, hbe.setCell (Nat.le_refl _) _⟩
      case measure => simp [intOf]; omega
    · go_wp2
      go_ret
      exact ⟨rfl, Strs.row hrow (Nat.le_refl _) (fun j hj => by rw [if_pos (by omega)]; simp [List.getD, List.getElem?_eq_getElem hj]) (Nat.lt_succ_self _), hbe, hrow.lt⟩

end Go.Proofs.YtkgdmlfdlkmojaaGreat
namespace Go.Proofs.YtkgdmlfdlkmojaaGreat
open Go.RowKit
set_option linter.unusedVariables false

set_option maxHeartbeats 400000 in
theorem toStringS_row (a : Option Addr) (ss : List ByteArray) (cap B : Nat) (w : World) (h : Strs w B a ss) (hB : B ≤ w.heap.size) (hl : ss.length ≤ 1048576) :
    Calls Tryz.prog 9 #[.slice a ss.length cap] w fun e w' => e = .returned (.slice (some ⟨w.heap.size, 0, none⟩) ss.length ss.length) ∧ RowS w' w.heap.size ss ∧ Below w.heap.size w w' := by
  have hmk := run_make_row' (P := Tryz.prog) 23 9 (.string ByteArray.empty) 16 Tryz.underlying23 info_str rfl .i64 .i64 ss.length (by omega) (by omega) w
  go_enter Tryz.func9, Tryz.ntmps9
  go_wp2
  clear hmk
  go_loopw [4] (fun i wr => ∃ k : Nat, k ≤ ss.length ∧ i = .int .i64 k ∧ wr.rowIs w.heap.size 9 ss.length (fun j => if j < k then .string (ss.getD j ByteArray.empty) else .string ByteArray.empty) ∧ Below w.heap.size w wr) (fun i _ => ss.length - (intOf i).toNat)
  case atStart => exact ⟨0, Nat.zero_le _, rfl, (World.rowIs_made w _ _ _).congr (fun i _ => by simp), (Below.refl _ _).alloc (Nat.le_refl _) _⟩
  case round =>
    obtain ⟨k, hk, rfl, hrow, hbe⟩ := hrel
    by_cases hlt : k < ss.length
    · obtain ⟨b, o, rfl, hb, hc⟩ := h (by omega)
      have hcx := (hbe.cell (p := ⟨b, o + k, none⟩) (Nat.lt_of_lt_of_le hb hB)).trans (hc k hlt)
      have hcn := hrow.cell hlt
      have hfn := hrow.frozen k
      have hrow2 := (hrow.set k (.string ss[k])).congr (g := fun j => if j < k + 1 then .string (ss.getD j ByteArray.empty) else .string ByteArray.empty) (fun j hj => by
        by_cases e : j = k
        · subst e; simp [List.getD, List.getElem?_eq_getElem hlt]
        · simp only [e, if_false]
          by_cases e2 : j < k
          · rw [if_pos e2, if_pos (by omega)]
          · rw [if_neg e2, if_neg (by omega)])
      have HR : Hid _ := hrow2
      clear hrow2
      go_wp2
      go_roundw
      case rel => exact ⟨k + 1, by omega, by go_num, HR.out, hbe.setCell (Nat.le_refl _) _⟩
      case measure => simp [intOf]; omega
    · go_wp2
      go_ret
      exact ⟨rfl, RowS.row hrow (Nat.le_refl _) (fun j hj => by rw [if_pos (by omega)]; simp [List.getD, List.getElem?_eq_getElem hj]), hbe⟩

end Go.Proofs.YtkgdmlfdlkmojaaGreat
namespace Go.Proofs.YtkgdmlfdlkmojaaGreat
open Go.RowKit M
set_option linter.unusedVariables false

theorem sumL_is (ss : List ByteArray) : sumL ss = sumS ss := rfl

set_option maxHeartbeats 1000000 in
theorem szRes_any (r : Rs) (pa : Option Addr) (pc : Nat) (qa : Option Addr) (qc B left : Nat) (w : World) (h : RsIn w B r pa pc qa qc) (hB : B ≤ w.heap.size) (hs : ShortRs r) (hleft : left ≤ 1048576) :
    Calls Tryz.prog 19 #[.agg #[.slice pa r.pa.length pc, .bool r.co, .string r.bo, .int .i64 r.ve, .slice qa r.ps.length qc], .int .i64 left] w fun e w' => (∃ z : Int, e = .returned (.int .i64 z) ∧ (z < 0 ∨ ∃ m : Nat, z = m ∧ szR r + m = left)) ∧ Below w.heap.size w w' := by
  have hbo := hs.bo
  unfold maxLen at hbo
  have h1 := h.ph
  have h2 := h.qh
  have s1 := hs.ps
  have s2 := hs.qs
  have l1 := hs.pl
  have l2 := hs.ql
  have HZ : Hid (szR r = r.pa.length + sumS r.pa + r.bo.size + (r.ps.length + sumP r.ps)) := rfl
  clear h hs
  obtain ⟨ss, co, bo, ve, ps⟩ := r
  simp only at *
  generalize szR ⟨ss, co, bo, ve, ps⟩ = Z at *
  have hb0 : Below w.heap.size w (w.alloc (.cells #[.slice pa ss.length pc, .bool co, .string bo, .int .i64 ve, .slice qa ps.length qc] 44)) := (Below.refl _ _).alloc (Nat.le_refl _) _
  have k1 := h1.below hb0 hB
  have k2 := h2.below hb0 hB
  have hB0 : B ≤ (w.alloc (.cells #[.slice pa ss.length pc, .bool co, .string bo, .int .i64 ve, .slice qa ps.length qc] 44)).heap.size := Nat.le_trans hB hb0.size
  have HS := hide (fun left hl => szStringS_any pa ss pc B left _ k1 s1 l1 hl)
  have HP := hide (fun left hl => szPropS_any qa ps qc B left _ k2 hB0 s2 l2 hl)
  have HB := hide hb0
  clear hb0 k1 k2 h1 h2
  go_enter Tryz.func19, Tryz.ntmps19
  go_wp2_with fail
  refine (HS.out left hleft).mono ?_
  rintro e w1 ⟨⟨z, rfl, hz⟩, hw⟩
  obtain rfl := hw
  rcases hz with hz | ⟨m, rfl, hm⟩
  · go_wp2
    go_ret
    exact ⟨⟨_, rfl, .inl (by omega)⟩, HB.out⟩
  by_cases hb : m < bo.size
  · have hm1 : m ≤ 1048576 := by omega
    go_wp2
    go_ret
    exact ⟨⟨_, rfl, .inl (by omega)⟩, HB.out⟩
  have hm1 : m ≤ 1048576 := by omega
  have HM := hide hm
  clear hm
  have hq : (((m - bo.size : Nat)) : Int) = (m : Int) - bo.size := by omega
  have hP := HP.out (m - bo.size) (by omega)
  rw [hq] at hP
  have HP2 := hide hP
  clear hP hq
  go_wp2_with fail
  refine HP2.out.mono ?_
  rintro e w1 ⟨⟨z, rfl, hz⟩, hb1⟩
  have c1 := HB.out.trans (hb1.mono (by simp))
  rcases hz with hz | ⟨m', rfl, hm'⟩
  · go_wp2
    go_ret
    exact ⟨⟨_, rfl, .inl (by omega)⟩, c1⟩
  · have hm1' : m' ≤ 1048576 := by omega
    have HM' := hide hm'
    clear hm'
    go_wp2
    go_ret
    exact ⟨⟨_, rfl, .inr ⟨m', rfl, by rw [HZ.out]; have := HM'.out; have := HM.out; omega⟩⟩, c1⟩

set_option maxHeartbeats 1000000 in
theorem szResS_any (a : Option Addr) (rs : List Rs) (cap B left : Nat) (w : World) (h : Rss w B a rs) (hB : B ≤ w.heap.size) (hsh : ShortT rs) (hl : rs.length ≤ maxLen) (hleft : left ≤ 1048576) :
    Calls Tryz.prog 4 #[.slice a rs.length cap, .int .i64 left] w fun e w' => (∃ z : Int, e = .returned (.int .i64 z) ∧ (z < 0 ∨ ∃ m : Nat, z = m ∧ rs.length + sumR rs + m = left)) ∧ Below w.heap.size w w' := by
  unfold maxLen at hl
  by_cases hlt0 : left < rs.length
  · go_enter Tryz.func4, Tryz.ntmps4
    go_wp2
    go_ret
    exact ⟨⟨_, rfl, .inl (by omega)⟩, Below.refl _ _⟩
  · go_enter Tryz.func4, Tryz.ntmps4
    go_wp2
    go_loopw [1, 5] (fun l i wr => ∃ k m : Nat, k ≤ rs.length ∧ i = .int .i64 k ∧ l = .int .i64 m ∧ rs.length + sumR (rs.take k) + m = left ∧ Below w.heap.size w wr) (fun _ i _ => rs.length - (intOf i).toNat)
    case atStart => exact ⟨0, left - rs.length, Nat.zero_le _, rfl, by congr 1; omega, by simp [sumR]; omega, Below.refl _ _⟩
    case round =>
      obtain ⟨k, m, hk, rfl, rfl, hm, hbe⟩ := hrel
      by_cases hlt : k < rs.length
      · obtain ⟨b, o, rfl, hb, hc⟩ := (h.below hbe hB) (by omega)
        obtain ⟨pa, pc, qa, qc, ⟨hc0, hc1, hc2, hc3, hc4⟩, hin⟩ := hc k hlt
        have hsz := hsh.at k hlt
        have HS2 := hide (sumR_snoc rs k hlt)
        have HM : Hid (rs.length + sumR (rs.take k) + m = left) := hm
        clear hm hc
        have hm1 : m ≤ 1048576 := by have := HM.out; omega
        have HC := hide (szRes_any rs[k] pa pc qa qc B m wr hin (Nat.le_trans hB hbe.size) hsz hm1)
        clear hin hsz
        go_wp2_with fail
        refine HC.out.mono ?_
        rintro e w1 ⟨⟨z, rfl, hz⟩, hb1⟩
        have c1 := hbe.trans (hb1.mono hbe.size)
        rcases hz with hz | ⟨m', rfl, hm'⟩
        · go_wp2
          go_ret
          exact ⟨⟨_, rfl, .inl (by omega)⟩, c1⟩
        · have HM' := hide hm'
          clear hm'
          go_wp2
          go_roundw
          case rel => exact ⟨k + 1, m', by omega, by go_num, rfl, by rw [HS2.out]; have := HM.out; have := HM'.out; omega, c1⟩
          case measure => simp [intOf]; omega
      · go_wp2
        go_ret
        exact ⟨⟨m, rfl, .inr ⟨m, rfl, by rw [List.take_of_length_le (by omega)] at hm; exact hm⟩⟩, hbe⟩
end Go.Proofs.YtkgdmlfdlkmojaaGreat
namespace Go.Proofs.YtkgdmlfdlkmojaaGreat
open Go.RowKit M
set_option linter.unusedVariables false

set_option maxHeartbeats 1000000 in
theorem toRes_any (r : Rs) (pa : Option Addr) (pc : Nat) (qa : Option Addr) (qc B : Nat) (w : World) (h : RsIn w B r pa pc qa qc) (hB : B ≤ w.heap.size) (hp : r.pa.length ≤ 1048576) (hq : r.ps.length ≤ 1048576) :
    Calls Tryz.prog 25 #[.agg #[.slice pa r.pa.length pc, .bool r.co, .string r.bo, .int .i64 r.ve, .slice qa r.ps.length qc]] w fun e w' => (∃ p q : Nat, e = .returned (.agg #[.slice (some ⟨p, 0, none⟩) r.pa.length r.pa.length, .bool r.co, .string r.bo, .int .i64 r.ve, .slice (some ⟨q, 0, none⟩) r.ps.length r.ps.length]) ∧ w.heap.size ≤ p ∧ p < q ∧ RowS w' p r.pa ∧ RowP w' q r.ps) ∧ Below w.heap.size w w' := by
  have h1 := h.ph
  have h2 := h.qh
  clear h
  obtain ⟨ss, co, bo, ve, ps⟩ := r
  simp only at *
  have H1 := hide h1
  have H2 := hide h2
  clear h1 h2
  go_enter Tryz.func25, Tryz.ntmps25
  go_wp2_with fail
  have hb0 : Below w.heap.size w (((w.alloc (Obj.cells #[Value.slice pa ss.length pc, Value.bool co, Value.string bo, Value.int .i64 ve, Value.slice qa ps.length qc] 44)).alloc (Obj.cells #[Value.slice none 0 0, Value.bool false, Value.string { data := #[] }, Value.int .i64 0, Value.slice none 0 0] 57)).alloc (Obj.cells #[Value.slice none 0 0, Value.bool false, Value.string { data := #[] }, Value.int .i64 0, Value.slice none 0 0] 57)) := (((Below.refl _ _).alloc (Nat.le_refl _) _).alloc (by simp) _).alloc (by simp; omega) _
  refine (toStringS_row pa ss pc B _ (H1.out.below hb0 hB) (by simp; omega) hp).mono ?_
  rintro e w1 ⟨rfl, r1, b1⟩
  have hc1 := hb0.trans (b1.mono hb0.size)
  obtain ⟨hc, hf⟩ := bcellP b1
  have HR1 := hide (show RowS w1 (w.heap.size + 1 + 1 + 1) ss by simpa using r1)
  have HB1 := hide b1
  have HC1 := hide hc1
  have hz1 : w.heap.size + 1 + 1 + 1 < w1.heap.size := by have := r1.1; simp at this; omega
  clear hc1 b1 r1 hb0
  go_wp2_with fail
  have hb2 : Below w.heap.size w ((((w1.setCell ⟨w.heap.size + 1 + 1, 0, none⟩ (Value.slice (some ⟨w.heap.size + 1 + 1 + 1, 0, none⟩) ss.length ss.length)).setCell ⟨w.heap.size + 1 + 1, 1, none⟩ (Value.bool co)).setCell ⟨w.heap.size + 1 + 1, 2, none⟩ (Value.string bo)).setCell ⟨w.heap.size + 1 + 1, 3, none⟩ (Value.int IntKind.i64 ve)) := (((HC1.out.setCell (by simp; omega) _).setCell (by simp; omega) _).setCell (by simp; omega) _).setCell (by simp; omega) _
  refine (toPropS_any qa ps qc B _ (H2.out.below hb2 hB) (by simp; omega) hq).mono ?_
  rintro e w3 ⟨rfl, r3, b3⟩
  have HB3 := hide (hb2.trans (b3.mono hb2.size))
  have r2 := (((HR1.out.setCell ⟨w.heap.size + 1 + 1, 0, none⟩ (Value.slice (some ⟨w.heap.size + 1 + 1 + 1, 0, none⟩) ss.length ss.length) (by simp)).setCell ⟨w.heap.size + 1 + 1, 1, none⟩ (Value.bool co) (by simp)).setCell ⟨w.heap.size + 1 + 1, 2, none⟩ (Value.string bo) (by simp)).setCell ⟨w.heap.size + 1 + 1, 3, none⟩ (Value.int IntKind.i64 ve) (by simp)
  have HR2 := hide (r2.below b3)
  have HR3 := hide (show RowP w3 w1.heap.size ps by simpa using r3)
  have hz2 : w.heap.size + 1 + 1 < w1.heap.size := by omega
  have hz3 : w.heap.size + 1 < w1.heap.size := by omega
  have hz4 : w.heap.size < w1.heap.size := by omega
  obtain ⟨hc3, hf3⟩ := bcellP b3
  clear r2 r3 b3 hb2 HR1 HB1 HC1
  go_wp2
  refine bodyPost_ret (v := .agg #[.slice (some ⟨w.heap.size + 1 + 1 + 1, 0, none⟩) ss.length ss.length, .bool co, .string bo, .int .i64 ve, .slice (some ⟨w1.heap.size, 0, none⟩) ps.length ps.length]) (by simp [results, Tryz.results25, go_sem, hc3, hc, hz3]) rfl ⟨⟨_, _, rfl, by omega, hz1, ?_, ?_⟩, ?_⟩
  · exact ((((((HR2.out.setCell ⟨w.heap.size + 1 + 1, 4, none⟩ (Value.slice (some ⟨w1.heap.size, 0, none⟩) ps.length ps.length) (by simp)).setCell ⟨w.heap.size + 1, 0, none⟩ (Value.slice (some ⟨w.heap.size + 1 + 1 + 1, 0, none⟩) ss.length ss.length) (by simp)).setCell ⟨w.heap.size + 1, 1, none⟩ (Value.bool co) (by simp)).setCell ⟨w.heap.size + 1, 2, none⟩ (Value.string bo) (by simp)).setCell ⟨w.heap.size + 1, 3, none⟩ (Value.int IntKind.i64 ve) (by simp)).setCell ⟨w.heap.size + 1, 4, none⟩ (Value.slice (some ⟨w1.heap.size, 0, none⟩) ps.length ps.length) (by simp))
  · exact ((((((HR3.out.setCell ⟨w.heap.size + 1 + 1, 4, none⟩ (Value.slice (some ⟨w1.heap.size, 0, none⟩) ps.length ps.length) (by simp; omega)).setCell ⟨w.heap.size + 1, 0, none⟩ (Value.slice (some ⟨w.heap.size + 1 + 1 + 1, 0, none⟩) ss.length ss.length) (by simp; omega)).setCell ⟨w.heap.size + 1, 1, none⟩ (Value.bool co) (by simp; omega)).setCell ⟨w.heap.size + 1, 2, none⟩ (Value.string bo) (by simp; omega)).setCell ⟨w.heap.size + 1, 3, none⟩ (Value.int IntKind.i64 ve) (by simp; omega)).setCell ⟨w.heap.size + 1, 4, none⟩ (Value.slice (some ⟨w1.heap.size, 0, none⟩) ps.length ps.length) (by simp; omega))
  · exact (((((HB3.out.setCell (by simp; omega) _).setCell (by simp) _).setCell (by simp) _).setCell (by simp) _).setCell (by simp) _).setCell (by simp) _

set_option maxHeartbeats 1000000 in
theorem toResS_any (a : Option Addr) (rs : List Rs) (cap B : Nat) (w : World) (h : Rss w B a rs) (hB : B ≤ w.heap.size) (hl : rs.length + sumR rs ≤ 1048576) :
    Calls Tryz.prog 8 #[.slice a rs.length cap] w fun e w' => e = .returned (.slice (some ⟨w.heap.size, 0, none⟩) rs.length rs.length) ∧ (∃ pb qb, OwnR w' w.heap.size w'.heap.size w.heap.size rs pb qb) ∧ Below w.heap.size w w' := by
  have hl1 : rs.length ≤ 1048576 := by omega
  have HL := hide hl
  clear hl
  have hmk := run_make_ress rs.length hl1 w
  go_enter Tryz.func8, Tryz.ntmps8
  go_wp2
  clear hmk
  go_loopw [4] (fun i wr => ∃ k : Nat, k ≤ rs.length ∧ i = .int .i64 k ∧ MadeR wr w.heap.size rs k ∧ Below w.heap.size w wr) (fun i _ => rs.length - (intOf i).toNat)
  case atStart => exact ⟨0, Nat.zero_le _, rfl, MadeR.start w rs, (Below.refl _ _).alloc (Nat.le_refl _) _⟩
  case round =>
    obtain ⟨k, hk, rfl, hrow, hbe⟩ := hrel
    by_cases hlt : k < rs.length
    · obtain ⟨b, o, rfl, hb, hc⟩ := (h.below hbe hB) (by omega)
      obtain ⟨pa, pc, qa, qc, ⟨hc0, hc1, hc2, hc3, hc4⟩, hin⟩ := hc k hlt
      clear hc
      have hm := sumR_mem rs _ (List.getElem_mem hlt)
      have hsz : szR rs[k] = (rs[k]).pa.length + sumL (rs[k]).pa + (rs[k]).bo.size + ((rs[k]).ps.length + sumP (rs[k]).ps) := rfl
      have HC := hide (toRes_any rs[k] pa pc qa qc B wr hin (Nat.le_trans hB hbe.size) (by have := HL.out; omega) (by have := HL.out; omega))
      clear hm hsz hin
      go_wp2_with fail
      refine HC.out.mono ?_
      rintro e w1 ⟨⟨p, q, rfl, hp, hpq, rp, rq⟩, hb1⟩
      have c1 := hbe.trans (hb1.mono hbe.size)
      obtain ⟨v0, v1, v2, v3, v4, hd0, hd1, hd2, hd3, hd4, hf0, hf1, hf2, hf3, hf4⟩ := (hrow.below hb1).cells hlt
      have HR := hide (hrow.next hb1 hlt p q hp hpq rp rq)
      clear hrow rp rq hp hpq
      go_wp2
      go_roundw
      case rel => exact ⟨k + 1, by omega, by go_num, HR.out, ((((c1.setCell (Nat.le_refl _) _).setCell (Nat.le_refl _) _).setCell (Nat.le_refl _) _).setCell (Nat.le_refl _) _).setCell (Nat.le_refl _) _⟩
      case measure => simp [intOf]; omega
    · go_wp2
      go_ret
      exact ⟨rfl, hrow.done hlt, hbe⟩
end Go.Proofs.YtkgdmlfdlkmojaaGreat
namespace Go.Proofs.YtkgdmlfdlkmojaaGreat
open Go.RowKit
set_option linter.unusedVariables false

set_option maxHeartbeats 400000 in
theorem eqStringS_any (a b : Option Addr) (ss tt : List ByteArray) (cap cap' B C : Nat) (w : World) (h : Strs w B a ss) (h' : Strs w C b tt) (hl : ss.length ≤ maxLen) (hl' : tt.length ≤ maxLen) :
    Calls Tryz.prog 13 #[.slice a ss.length cap, .slice b tt.length cap'] w fun e w' => e = .returned (.bool (sameL ss tt)) ∧ ∀ D, Below D w w' := by
  unfold maxLen at hl hl'
  by_cases hlen : ss.length = tt.length
  · have HL : Hid (ss.length = tt.length) := hlen
    go_enter Tryz.func13, Tryz.ntmps13
    rw [← hlen]
    clear hlen
    go_wp2
    go_loopw [5] (fun i wr => ∃ k n : Nat, k ≤ ss.length ∧ i = .int .i64 k ∧ ss.take k = tt.take k ∧ wr = w.drewN n) (fun i _ => ss.length - (intOf i).toNat)
    case atStart => exact ⟨0, 0, Nat.zero_le _, rfl, rfl, rfl⟩
    case round =>
      obtain ⟨k, n, hk, rfl, ht, rfl⟩ := hrel
      have HT : Hid (ss.take k = tt.take k) := ht
      clear ht
      by_cases hlt : k < ss.length
      · have hlt' : k < tt.length := by have := HL.out; omega
        obtain ⟨b1, o1, rfl, hb1, hc1⟩ := h (by omega)
        obtain ⟨b2, o2, rfl, hb2, hc2⟩ := h' (by have := HL.out; omega)
        have hcx := hc1 k hlt
        have hcy := hc2 k hlt'
        go_wp2
        go_quiet (fail)
        go_wp2
        · rename_i hne
          have hne' : ¬ ss[k] = tt[k] := fun e => by rw [e] at hne; simp at hne
          go_ret
          exact ⟨ret_bool (sameL_not k hlt hlt' hne').symm, fun D => below_drewN (below_drewN (Below.refl _ _) _) _⟩
        · rename_i he
          have he' : ss[k] = tt[k] := str_inj (by simpa using he)
          go_roundw
          case rel => exact ⟨k + 1, n + nq, by omega, by go_num, take_same k hlt hlt' HT.out he', by simp⟩
          case measure => simp [intOf]; omega
      · go_wp2
        go_ret
        exact ⟨ret_bool (sameL_all HL.out k hlt HT.out).symm, fun D => below_drewN (Below.refl _ _) _⟩
  · have HS := sameL_len hlen
    go_enter Tryz.func13, Tryz.ntmps13
    go_wp2
    go_ret
    exact ⟨ret_bool HS.symm, fun D => Below.refl _ _⟩
end Go.Proofs.YtkgdmlfdlkmojaaGreat
namespace Go.Proofs.YtkgdmlfdlkmojaaGreat
open Go.RowKit M
set_option linter.unusedVariables false

set_option maxHeartbeats 1000000 in
theorem eqProp_any (x y z u v t : ByteArray) (w : World) :
    Calls Tryz.prog 62 #[.agg #[.string x, .string y, .string z], .agg #[.string u, .string v, .string t]] w fun e w' => e = .returned (.bool (decide (((x, y, z) : Pp) = (u, v, t)))) ∧ Below w.heap.size w w' := by
  go_enter Tryz.func62, Tryz.ntmps62
  go_wp2
  all_goals go_ret
  · rename_i h1
    refine ⟨ret_bool ?_, ((Below.refl _ _).alloc (Nat.le_refl _) _).alloc (by simp) _⟩
    have : ¬ x = u := fun e => by subst e; simp at h1
    simp [this]
  · rename_i h1 h2
    refine ⟨ret_bool ?_, ((Below.refl _ _).alloc (Nat.le_refl _) _).alloc (by simp) _⟩
    have : ¬ y = v := fun e => by subst e; simp at h2
    simp [this]
  · rename_i h1 h2 h3
    refine ⟨ret_bool ?_, ((Below.refl _ _).alloc (Nat.le_refl _) _).alloc (by simp) _⟩
    have : ¬ z = t := fun e => by subst e; simp at h3
    simp [this]
  · rename_i h1 h2 h3
    refine ⟨ret_bool ?_, ((Below.refl _ _).alloc (Nat.le_refl _) _).alloc (by simp) _⟩
    have e1 : x = u := strInjP (by simpa using h1)
    have e2 : y = v := strInjP (by simpa using h2)
    have e3 : z = t := strInjP (by simpa using h3)
    simp [e1, e2, e3]

set_option maxHeartbeats 1000000 in
theorem eqPropS_any (a b : Option Addr) (ss tt : List Pp) (cap cap' B C : Nat) (w : World) (h : Pps w B a ss) (h' : Pps w C b tt) (hB : B ≤ w.heap.size) (hC : C ≤ w.heap.size) (hl : ss.length ≤ maxLen) (hl' : tt.length ≤ maxLen) :
    Calls Tryz.prog 61 #[.slice a ss.length cap, .slice b tt.length cap'] w fun e w' => e = .returned (.bool (sameP ss tt)) ∧ Below w.heap.size w w' := by
  unfold maxLen at hl hl'
  by_cases hlen : ss.length = tt.length
  · have HL : Hid (ss.length = tt.length) := hlen
    go_enter Tryz.func61, Tryz.ntmps61
    rw [← hlen]
    clear hlen
    go_wp2
    go_loopw [5] (fun i wr => ∃ k : Nat, k ≤ ss.length ∧ i = .int .i64 k ∧ ss.take k = tt.take k ∧ Below w.heap.size w wr) (fun i _ => ss.length - (intOf i).toNat)
    case atStart => exact ⟨0, Nat.zero_le _, rfl, rfl, Below.refl _ _⟩
    case round =>
      obtain ⟨k, hk, rfl, ht, hbe⟩ := hrel
      have HT : Hid (ss.take k = tt.take k) := ht
      clear ht
      by_cases hlt : k < ss.length
      · have hlt' : k < tt.length := by have := HL.out; omega
        obtain ⟨b1, o1, rfl, hb1, hc1⟩ := (h.below hbe hB) (by omega)
        obtain ⟨b2, o2, rfl, hb2, hc2⟩ := (h'.below hbe hC) (by have := HL.out; omega)
        obtain ⟨hx0, hx1, hx2⟩ := hc1 k hlt
        obtain ⟨hy0, hy1, hy2⟩ := hc2 k hlt'
        clear hc1 hc2
        have hl1 : b1 < wr.drew.heap.size := by have := hbe.size; show b1 < wr.heap.size; omega
        have hl2 : b2 < wr.drew.heap.size := by have := hbe.size; show b2 < wr.heap.size; omega
        have hq := eqProp_any ss[k].1 ss[k].2.1 ss[k].2.2 tt[k].1 tt[k].2.1 tt[k].2.2 wr.drew
        have hbd : Below w.heap.size w wr.drew := below_drewP hbe
        obtain ⟨z, hz⟩ : ∃ z, decide (((ss[k].1, ss[k].2.1, ss[k].2.2) : Pp) = (tt[k].1, tt[k].2.1, tt[k].2.2)) = z := ⟨_, rfl⟩
        rw [hz] at hq
        have HZ := hide hz
        clear hz
        cases z
        · go_wp2
          go_region_held3 (fun W => W.cell? ⟨b1, o1 + k * 3, none⟩ = some (.string ss[k].1) ∧ W.cell? ⟨b1, o1 + k * 3 + 1, none⟩ = some (.string ss[k].2.1) ∧ W.cell? ⟨b1, o1 + k * 3 + 2, none⟩ = some (.string ss[k].2.2) ∧ W.cell? ⟨b2, o2 + k * 3, none⟩ = some (.string tt[k].1) ∧ W.cell? ⟨b2, o2 + k * 3 + 1, none⟩ = some (.string tt[k].2.1) ∧ W.cell? ⟨b2, o2 + k * 3 + 2, none⟩ = some (.string tt[k].2.2)) (first | exact ⟨hx0, hx1, hx2, hy0, hy1, hy2⟩ | (simp only [(bcellP hb3).1 b1 _ hl1, (bcellP hb3).1 b2 _ hl2]; exact ⟨hx0, hx1, hx2, hy0, hy1, hy2⟩)) ((go_at_call 62; refine hq.mono ?_; rintro e w1 ⟨rfl, hb3⟩))
          all_goals
            have c1 := hbd.trans (hb3.mono hbd.size)
            clear hq hb3
            go_wp2
            go_ret
            exact ⟨ret_bool (sameP_not k hlt hlt' (of_decide_eq_false HZ.out)).symm, c1⟩
        · go_wp2
          go_region_held3 (fun W => W.cell? ⟨b1, o1 + k * 3, none⟩ = some (.string ss[k].1) ∧ W.cell? ⟨b1, o1 + k * 3 + 1, none⟩ = some (.string ss[k].2.1) ∧ W.cell? ⟨b1, o1 + k * 3 + 2, none⟩ = some (.string ss[k].2.2) ∧ W.cell? ⟨b2, o2 + k * 3, none⟩ = some (.string tt[k].1) ∧ W.cell? ⟨b2, o2 + k * 3 + 1, none⟩ = some (.string tt[k].2.1) ∧ W.cell? ⟨b2, o2 + k * 3 + 2, none⟩ = some (.string tt[k].2.2)) (first | exact ⟨hx0, hx1, hx2, hy0, hy1, hy2⟩ | (simp only [(bcellP hb3).1 b1 _ hl1, (bcellP hb3).1 b2 _ hl2]; exact ⟨hx0, hx1, hx2, hy0, hy1, hy2⟩)) ((go_at_call 62; refine hq.mono ?_; rintro e w1 ⟨rfl, hb3⟩))
          all_goals
            have c1 := hbd.trans (hb3.mono hbd.size)
            clear hq hb3
            go_wp2
            go_roundw
            case rel => exact ⟨k + 1, by omega, by go_num, take_sameP k hlt hlt' HT.out (of_decide_eq_true HZ.out), c1⟩
            case measure => simp [intOf]; omega
      · go_wp2
        go_ret
        exact ⟨ret_bool (sameP_all HL.out k hlt HT.out).symm, hbe⟩
  · have HS := sameP_len hlen
    go_enter Tryz.func61, Tryz.ntmps61
    go_wp2
    go_ret
    exact ⟨ret_bool HS.symm, Below.refl _ _⟩
end Go.Proofs.YtkgdmlfdlkmojaaGreat
namespace Go.Proofs.YtkgdmlfdlkmojaaGreat
open Go.RowKit M
set_option linter.unusedVariables false

theorem neStrP {x y : ByteArray} (h : ¬ x = y) : (x.toList == y.toList) = false := by
  rw [beq_eq_false_iff_ne]; exact fun e => h (strInjP e)
theorem eqStrP {x y : ByteArray} (h : x = y) : (x.toList == y.toList) = true := by rw [h]; simp

/-- Its four parts that are told ahead, and the fifth. -/
theorem rs_eq (r s : Rs) : (r = s) ↔ (r.pa = s.pa ∧ r.co = s.co ∧ r.bo = s.bo ∧ r.ve = s.ve ∧ r.ps = s.ps) := by
  cases r; cases s; simp

set_option maxHeartbeats 2000000 in
theorem eqRes_any (r s : Rs) (pa : Option Addr) (pc : Nat) (qa : Option Addr) (qc : Nat) (pa' : Option Addr) (pc' : Nat) (qa' : Option Addr) (qc' : Nat) (B C : Nat) (w : World) (h : RsIn w B r pa pc qa qc) (h' : RsIn w C s pa' pc' qa' qc') (hB : B ≤ w.heap.size) (hC : C ≤ w.heap.size) :
    Calls Tryz.prog 31 #[.agg #[.slice pa r.pa.length pc, .bool r.co, .string r.bo, .int .i64 r.ve, .slice qa r.ps.length qc], .agg #[.slice pa' s.pa.length pc', .bool s.co, .string s.bo, .int .i64 s.ve, .slice qa' s.ps.length qc']] w fun e w' => e = .returned (.bool (decide (r = s))) ∧ Below w.heap.size w w' := by
  have l1 : r.pa.length ≤ maxLen := Nat.le_trans h.pl h.pm
  have l2 : r.ps.length ≤ maxLen := Nat.le_trans h.ql h.qm
  have l1' : s.pa.length ≤ maxLen := Nat.le_trans h'.pl h'.pm
  have l2' : s.ps.length ≤ maxLen := Nat.le_trans h'.ql h'.qm
  have p1 := h.ph
  have q1 := h.qh
  have p2 := h'.ph
  have q2 := h'.qh
  have F1 : Hid (¬ r.pa = s.pa → decide (r = s) = false) := fun e => by rw [decide_eq_false_iff_not, rs_eq]; exact fun x => e x.1
  have F2 : Hid (¬ r.co = s.co → decide (r = s) = false) := fun e => by rw [decide_eq_false_iff_not, rs_eq]; exact fun x => e x.2.1
  have F3 : Hid (¬ r.bo = s.bo → decide (r = s) = false) := fun e => by rw [decide_eq_false_iff_not, rs_eq]; exact fun x => e x.2.2.1
  have F4 : Hid (¬ r.ve = s.ve → decide (r = s) = false) := fun e => by rw [decide_eq_false_iff_not, rs_eq]; exact fun x => e x.2.2.2.1
  have F5 : Hid (r.pa = s.pa → r.co = s.co → r.bo = s.bo → r.ve = s.ve → decide (r = s) = sameP r.ps s.ps) := fun e1 e2 e3 e4 => by
    unfold sameP
    by_cases e5 : r.ps = s.ps
    · rw [decide_eq_true e5, decide_eq_true_eq, rs_eq]; exact ⟨e1, e2, e3, e4, e5⟩
    · rw [decide_eq_false e5, decide_eq_false_iff_not, rs_eq]; exact fun x => e5 x.2.2.2.2
  generalize decide (r = s) = dd at *
  clear h h'
  obtain ⟨ss, co, bo, ve, ps⟩ := r
  obtain ⟨ss', co', bo', ve', ps'⟩ := s
  simp only at *
  have hb0 : Below w.heap.size w ((w.alloc (Obj.cells #[.slice pa ss.length pc, .bool co, .string bo, .int .i64 ve, .slice qa ps.length qc] 57)).alloc (Obj.cells #[.slice pa' ss'.length pc', .bool co', .string bo', .int .i64 ve', .slice qa' ps'.length qc'] 57)) := ((Below.refl _ _).alloc (Nat.le_refl _) _).alloc (by simp) _
  have hE := eqStringS_any pa pa' ss ss' pc pc' B C _ (p1.below hb0 hB) (p2.below hb0 hC) l1 l1'
  have HB0 := hide hb0
  have HQ := hide (fun w1 (hb : ∀ D, Below D ((w.alloc (Obj.cells #[.slice pa ss.length pc, .bool co, .string bo, .int .i64 ve, .slice qa ps.length qc] 57)).alloc (Obj.cells #[.slice pa' ss'.length pc', .bool co', .string bo', .int .i64 ve', .slice qa' ps'.length qc'] 57)) w1) => eqPropS_any qa qa' ps ps' qc qc' B C w1 ((q1.below hb0 hB).below (hb _) (Nat.le_refl _)) ((q2.below hb0 hC).below (hb _) (Nat.le_refl _)) (Nat.le_trans hB (hb0.trans (hb _)).size) (Nat.le_trans hC (hb0.trans (hb _)).size) l2 l2')
  clear q1 q2 p1 p2 hb0
  by_cases h1 : ss = ss'
  · have hs1 : sameL ss ss' = true := by rw [h1]; exact sameL_refl _
    rw [hs1] at hE
    have HE := hide hE
    clear hE hs1
    by_cases h2 : co = co'
    · by_cases h3 : bo = bo'
      · have e3 := eqStrP h3
        by_cases h4 : ve = ve'
        · have hz := F5.out h1 h2 h3 h4
          rw [hz]
          generalize sameP ps ps' = z at *
          have hv : (ve == ve') = true := by rw [h4]; simp
          have hv2 : (co == co') = true := by rw [h2]; simp
          subst h2 h4
          clear h1 h3 hz hv hv2
          cases z
          all_goals
            go_enter Tryz.func31, Tryz.ntmps31
            go_wp2_with fail
            refine HE.out.mono ?_
            rintro e w1 ⟨rfl, hb1⟩
            have hcl : ∀ b o, w1.cell? ⟨b, o, none⟩ = _ := fun b o => (hb1 (b + 1)).cell (p := ⟨b, o, none⟩) (Nat.lt_succ_self _)
            have HP := hide (HQ.out w1 hb1)
            have HC1 := hide (HB0.out.trans (hb1 _))
            clear hb1
            go_wp2_with fail
            refine HP.out.mono ?_
            rintro e w2 ⟨rfl, hb2⟩
            have c2 := HC1.out.trans (hb2.mono HC1.out.size)
            go_wp2
            go_ret
            exact ⟨rfl, c2⟩
        · have hz := F4.out h4
          rw [hz]
          have hv : (ve == ve') = false := by rw [beq_eq_false_iff_ne]; exact h4
          subst h2
          clear h1 h3 hz
          go_enter Tryz.func31, Tryz.ntmps31
          go_wp2_with fail
          refine HE.out.mono ?_
          rintro e w1 ⟨rfl, hb1⟩
          have hcl : ∀ b o, w1.cell? ⟨b, o, none⟩ = _ := fun b o => (hb1 (b + 1)).cell (p := ⟨b, o, none⟩) (Nat.lt_succ_self _)
          have HC1 := hide (HB0.out.trans (hb1 _))
          clear hb1
          go_wp2
          go_ret
          exact ⟨rfl, HC1.out⟩
      · have e3 := neStrP h3
        have hz := F3.out h3
        rw [hz]
        subst h2
        clear h1 h3 hz
        go_enter Tryz.func31, Tryz.ntmps31
        go_wp2_with fail
        refine HE.out.mono ?_
        rintro e w1 ⟨rfl, hb1⟩
        have hcl : ∀ b o, w1.cell? ⟨b, o, none⟩ = _ := fun b o => (hb1 (b + 1)).cell (p := ⟨b, o, none⟩) (Nat.lt_succ_self _)
        have HC1 := hide (HB0.out.trans (hb1 _))
        clear hb1
        go_wp2
        go_ret
        exact ⟨rfl, HC1.out⟩
    · have hz := F2.out h2
      rw [hz]
      have e2 : (co == co') = false := by rw [beq_eq_false_iff_ne]; exact h2
      have e2' : co' = !co := by cases co <;> cases co' <;> simp_all
      subst e2'
      clear h1 hz h2 e2
      cases co
      all_goals
        go_enter Tryz.func31, Tryz.ntmps31
        go_wp2_with fail
        refine HE.out.mono ?_
        rintro e w1 ⟨rfl, hb1⟩
        have hcl : ∀ b o, w1.cell? ⟨b, o, none⟩ = _ := fun b o => (hb1 (b + 1)).cell (p := ⟨b, o, none⟩) (Nat.lt_succ_self _)
        have HC1 := hide (HB0.out.trans (hb1 _))
        clear hb1
        go_wp2
        go_ret
        exact ⟨rfl, HC1.out⟩
  · have hs1 : sameL ss ss' = false := by unfold sameL; rw [decide_eq_false_iff_not]; exact h1
    rw [hs1] at hE
    have hz := F1.out h1
    rw [hz]
    have HE := hide hE
    clear hE hs1 h1 hz
    go_enter Tryz.func31, Tryz.ntmps31
    go_wp2_with fail
    refine HE.out.mono ?_
    rintro e w1 ⟨rfl, hb1⟩
    have HC1 := hide (HB0.out.trans (hb1 _))
    go_wp2
    go_ret
    exact ⟨rfl, HC1.out⟩
end Go.Proofs.YtkgdmlfdlkmojaaGreat
namespace Go.Proofs.YtkgdmlfdlkmojaaGreat
open Go.RowKit M
set_option linter.unusedVariables false

theorem keep10 {W w1 : World} {b1 b2 o1 o2 : Nat} {r s : Rs} {pa : Option Addr} {pc : Nat} {qa : Option Addr} {qc : Nat} {pa' : Option Addr} {pc' : Nat} {qa' : Option Addr} {qc' : Nat} (hb : Below W.heap.size W w1) (h1 : b1 < W.heap.size) (h2 : b2 < W.heap.size)
    (h : RsAt W b1 o1 r pa pc qa qc ∧ RsAt W b2 o2 s pa' pc' qa' qc') : RsAt w1 b1 o1 r pa pc qa qc ∧ RsAt w1 b2 o2 s pa' pc' qa' qc' :=
  ⟨h.1.of (fun o' => (bcellP hb).1 b1 o' h1), h.2.of (fun o' => (bcellP hb).1 b2 o' h2)⟩

set_option maxHeartbeats 2000000 in
theorem eqResS_any (a b : Option Addr) (ss tt : List Rs) (cap cap' B C : Nat) (w : World) (h : Rss w B a ss) (h' : Rss w C b tt) (hB : B ≤ w.heap.size) (hC : C ≤ w.heap.size) (hl : ss.length ≤ maxLen) (hl' : tt.length ≤ maxLen) :
    Calls Tryz.prog 12 #[.slice a ss.length cap, .slice b tt.length cap'] w fun e w' => e = .returned (.bool (sameT ss tt)) ∧ Below w.heap.size w w' := by
  unfold maxLen at hl hl'
  by_cases hlen : ss.length = tt.length
  · have HL : Hid (ss.length = tt.length) := hlen
    go_enter Tryz.func12, Tryz.ntmps12
    rw [← hlen]
    clear hlen
    go_wp2
    go_loopw [5] (fun i wr => ∃ k : Nat, k ≤ ss.length ∧ i = .int .i64 k ∧ ss.take k = tt.take k ∧ Below w.heap.size w wr) (fun i _ => ss.length - (intOf i).toNat)
    case atStart => exact ⟨0, Nat.zero_le _, rfl, rfl, Below.refl _ _⟩
    case round =>
      obtain ⟨k, hk, rfl, ht, hbe⟩ := hrel
      have HT : Hid (ss.take k = tt.take k) := ht
      clear ht
      by_cases hlt : k < ss.length
      · have hlt' : k < tt.length := by have := HL.out; omega
        obtain ⟨b1, o1, rfl, hb1, hc1⟩ := (h.below hbe hB) (by omega)
        obtain ⟨b2, o2, rfl, hb2, hc2⟩ := (h'.below hbe hC) (by have := HL.out; omega)
        obtain ⟨pa, pc, qa, qc, ha1, hi1⟩ := hc1 k hlt
        obtain ⟨pa', pc', qa', qc', ha2, hi2⟩ := hc2 k hlt'
        clear hc1 hc2
        have hl1 : b1 < wr.drew.heap.size := by have := hbe.size; show b1 < wr.heap.size; omega
        have hl2 : b2 < wr.drew.heap.size := by have := hbe.size; show b2 < wr.heap.size; omega
        have hbd : Below w.heap.size w wr.drew := below_drewP hbe
        have hq := eqRes_any ss[k] tt[k] pa pc qa qc pa' pc' qa' qc' B C wr.drew hi1.drew hi2.drew (Nat.le_trans hB hbd.size) (Nat.le_trans hC hbd.size)
        have HX := hide (And.intro (ha1.of (w' := wr.drew) (fun _ => rfl)) (ha2.of (w' := wr.drew) (fun _ => rfl)))
        obtain ⟨hx0, hx1, hx2, hx3, hx4⟩ := ha1
        obtain ⟨hy0, hy1, hy2, hy3, hy4⟩ := ha2
        obtain ⟨z, hz⟩ : ∃ z, decide (ss[k] = tt[k]) = z := ⟨_, rfl⟩
        rw [hz] at hq
        have HZ := hide hz
        clear hz hi1 hi2
        cases z
        · go_wp2
          go_region_held3 (fun W => (W.cell? ⟨b1, o1 + k * 5, none⟩ = some (.slice pa ss[k].pa.length pc) ∧ W.cell? ⟨b1, o1 + k * 5 + 1, none⟩ = some (.bool ss[k].co) ∧ W.cell? ⟨b1, o1 + k * 5 + 2, none⟩ = some (.string ss[k].bo) ∧ W.cell? ⟨b1, o1 + k * 5 + 3, none⟩ = some (.int .i64 ss[k].ve) ∧ W.cell? ⟨b1, o1 + k * 5 + 4, none⟩ = some (.slice qa ss[k].ps.length qc)) ∧ (W.cell? ⟨b2, o2 + k * 5, none⟩ = some (.slice pa' tt[k].pa.length pc') ∧ W.cell? ⟨b2, o2 + k * 5 + 1, none⟩ = some (.bool tt[k].co) ∧ W.cell? ⟨b2, o2 + k * 5 + 2, none⟩ = some (.string tt[k].bo) ∧ W.cell? ⟨b2, o2 + k * 5 + 3, none⟩ = some (.int .i64 tt[k].ve) ∧ W.cell? ⟨b2, o2 + k * 5 + 4, none⟩ = some (.slice qa' tt[k].ps.length qc'))) (first | exact HX.out | exact HX2.out) ((go_at_call 31; refine hq.mono ?_; rintro e w1 ⟨rfl, hb3⟩; have HX2 := hide (keep10 hb3 hl1 hl2 HX.out)))
          all_goals
            have c1 := hbd.trans (hb3.mono hbd.size)
            clear hq hb3
            go_wp2
            go_ret
            exact ⟨ret_bool (sameT_not k hlt hlt' (of_decide_eq_false HZ.out)).symm, c1⟩
        · go_wp2
          go_region_held3 (fun W => (W.cell? ⟨b1, o1 + k * 5, none⟩ = some (.slice pa ss[k].pa.length pc) ∧ W.cell? ⟨b1, o1 + k * 5 + 1, none⟩ = some (.bool ss[k].co) ∧ W.cell? ⟨b1, o1 + k * 5 + 2, none⟩ = some (.string ss[k].bo) ∧ W.cell? ⟨b1, o1 + k * 5 + 3, none⟩ = some (.int .i64 ss[k].ve) ∧ W.cell? ⟨b1, o1 + k * 5 + 4, none⟩ = some (.slice qa ss[k].ps.length qc)) ∧ (W.cell? ⟨b2, o2 + k * 5, none⟩ = some (.slice pa' tt[k].pa.length pc') ∧ W.cell? ⟨b2, o2 + k * 5 + 1, none⟩ = some (.bool tt[k].co) ∧ W.cell? ⟨b2, o2 + k * 5 + 2, none⟩ = some (.string tt[k].bo) ∧ W.cell? ⟨b2, o2 + k * 5 + 3, none⟩ = some (.int .i64 tt[k].ve) ∧ W.cell? ⟨b2, o2 + k * 5 + 4, none⟩ = some (.slice qa' tt[k].ps.length qc'))) (first | exact HX.out | exact HX2.out) ((go_at_call 31; refine hq.mono ?_; rintro e w1 ⟨rfl, hb3⟩; have HX2 := hide (keep10 hb3 hl1 hl2 HX.out)))
          all_goals
            have c1 := hbd.trans (hb3.mono hbd.size)
            clear hq hb3
            go_wp2
            go_roundw
            case rel => exact ⟨k + 1, by omega, by go_num, take_sameT k hlt hlt' HT.out (of_decide_eq_true HZ.out), c1⟩
            case measure => simp [intOf]; omega
      · go_wp2
        go_ret
        exact ⟨ret_bool (sameT_all HL.out k hlt HT.out).symm, hbe⟩
  · have HS := sameT_len hlen
    go_enter Tryz.func12, Tryz.ntmps12
    go_wp2
    go_ret
    exact ⟨ret_bool HS.symm, Below.refl _ _⟩
end Go.Proofs.YtkgdmlfdlkmojaaGreat
namespace Go.Proofs.YtkgdmlfdlkmojaaGreat
open Go.RowKit M
set_option linter.unusedVariables false

def dg (m : Nat) : UInt8 := UInt8.ofNat (48 + m % 10)
/-- The digits of a number, the last behind. -/
def mtL (n : Nat) : List UInt8 := if h : n = 0 then [] else mtL (n / 10) ++ [dg n]
termination_by n
decreasing_by omega
/-- The mark of a number. -/
def mt (n : Nat) : ByteArray := bytesOf (109 :: mtL n)

theorem mtL_zero : mtL 0 = [] := by rw [mtL]; simp
theorem mtL_step (n : Nat) (h : 0 < n) : mtL n = mtL (n / 10) ++ [dg n] := by rw [mtL, dif_neg (by omega)]

theorem digit_nat (m : Nat) : ((dg m).toNat : Int) = 48 + (m : Int) % 10 := by
  unfold dg
  rw [UInt8.toNat_ofNat']
  omega

theorem conv_mark (w : World) (c : UInt8) : (convert 83 9 (.slice (some ⟨w.heap.size, 0, none⟩) 1 1)).run Tryz.prog (w.alloc (.cells #[.int .u8 c.toNat] 5)) = .ok (.string (bytesOf [c])) (w.alloc (.cells #[.int .u8 c.toNat] 5)) := by
  refine run_convert_bytes_back _ 83 9 5 _ 1 [c] Tryz.underlying83 Tryz.underlying5 Tryz.underlying9 ?_
  intro j hj
  have hj0 : j = 0 := by simp at hj; exact hj
  subst hj0
  simp [Addr.add]

set_option maxRecDepth 100000 in
set_option maxHeartbeats 1000000 in
theorem markText_any (k : Nat) (h1 : 1 ≤ k) (h2 : k ≤ 100000000) (w : World) :
    Calls Tryz.prog 33 #[.int .i64 k] w fun e w' => e = .returned (.string (mt k)) ∧ Below w.heap.size w w' := by
  have hk0 : ¬ k = 0 := by omega
  go_enter Tryz.func33, Tryz.ntmps33
  go_wp2
  go_loopw [0, 3] (fun kv ov wr => ∃ (m : Nat) (acc : List UInt8), kv = .int .i64 m ∧ ov = .string (bytesOf acc) ∧ mtL k = mtL m ++ acc ∧ acc.length + m ≤ k ∧ Below w.heap.size w wr) (fun kv _ _ => (intOf kv).toNat)
  case atStart => exact ⟨k, [], rfl, rfl, by simp, by simp, Below.refl _ _⟩
  case round =>
    obtain ⟨m, acc, rfl, rfl, hm, hle, hbe⟩ := hrel
    have HM : Hid (mtL k = mtL m ++ acc) := hm
    clear hm
    have hz : (bytesOf acc).size ≤ 100000000 := by rw [bytesOf_size]; omega
    by_cases h0 : 0 < m
    · have HS : Hid (mtL m = mtL (m / 10) ++ [dg m]) := mtL_step m h0
      have hcv := conv_mark wr (dg m)
      rw [digit_nat] at hcv
      have h0' : (0 : Int) < m := by omega
      have hz1 : (bytesOf [dg m]).size = 1 := by rw [bytesOf_size]; rfl
      have HD : Hid ((m : Int) / 10 = ((m / 10 : Nat) : Int)) := by show (m : Int) / 10 = ((m / 10 : Nat) : Int); omega
      have hd10 : m / 10 < m := by omega
      go_wp2
      go_roundw
      case rel => exact ⟨m / 10, [dg m] ++ acc, by rw [HD.out], by rw [← bytesOf_append], by rw [HM.out, HS.out, List.append_assoc], by simp; omega, hbe.alloc hbe.size _⟩
      case measure => simp [intOf]; omega
    · have hm0 : m = 0 := by omega
      subst hm0
      have HM2 : Hid (mtL k = acc) := by show mtL k = acc; rw [HM.out, mtL_zero]; rfl
      go_wp2
      go_ret
      refine ⟨?_, hbe⟩
      unfold mt
      rw [HM2.out]
      show Ending.returned (.string (bytesOf [109] ++ bytesOf acc)) = _
      rw [bytesOf_append]; rfl
end Go.Proofs.YtkgdmlfdlkmojaaGreat
