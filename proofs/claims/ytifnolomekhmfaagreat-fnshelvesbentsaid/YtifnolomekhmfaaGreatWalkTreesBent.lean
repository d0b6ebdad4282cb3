/-
  The walk of the law FnTreesBent: of drawn shelves, bent or not, what is told is as the specification has it.
-/
import Derived.Test.YtifnolomekhmfaaGreatIsColl
import Derived.Test.YtifnolomekhmfaaGreatSpecLess
import Derived.Test.YtifnolomekhmfaaGreatMapHeld
import Derived.Test.YtifnolomekhmfaaGreatIsRow
import Derived.Test.YtifnolomekhmfaaGreatSpecTreeOk
import Derived.Test.YtifnolomekhmfaaGreatSpecPropsOk
import Derived.Test.YtifnolomekhmfaaGreatSpecSmall
namespace Go.Proofs.YtifnolomekhmfaaGreat
open Go.RowKit M
set_option linter.unusedVariables false

theorem fewt_shortT {rs : List Rs} (h : FewT rs) : ShortT rs := fun r hr => by
  obtain ⟨h1, h2, h3, h4⟩ := h.2 r hr
  have h5 := h1.1
  refine ⟨by unfold maxLen; omega, h1.short, by unfold maxLen; omega, by unfold maxLen; omega, fun p hp => ?_⟩
  have := h4 p hp
  unfold maxLen
  omega
theorem fewt_szT {rs : List Rs} (h : FewT rs) : ∀ r ∈ rs, r.pa.length ≤ 1048576 ∧ r.ps.length ≤ 1048576 ∧ (∀ s ∈ r.pa, s.size ≤ 281474976710656) ∧ r.bo.size ≤ 281474976710656 ∧ ∀ p ∈ r.ps, p.1.size ≤ 281474976710656 ∧ p.2.1.size ≤ 281474976710656 ∧ p.2.2.size ≤ 281474976710656 := fun r hr => by
  obtain ⟨h1, h2, h3, h4⟩ := h.2 r hr
  have h5 := h1.1
  exact ⟨by omega, by omega, fun s hs => by have := h1.2 s hs; omega, by omega, fun p hp => by have := h4 p hp; omega⟩
theorem fewt_lp {rs : List Rs} (h : FewT rs) : ∀ r ∈ rs, r.pa.length ≤ 1048576 ∧ r.ps.length ≤ 1048576 := fun r hr => ⟨(fewt_szT h r hr).1, (fewt_szT h r hr).2.1⟩
theorem fewt_len {rs : List Rs} (h : FewT rs) : rs.length ≤ 1048576 := Nat.le_trans h.1 (by decide)
theorem fewt_sz {n : Nat} {ss : List ByteArray} (h : Few n ss) : ∀ x ∈ ss, x.size ≤ 281474976710656 := fun x hx => by have := h.2 x hx; omega

theorem fewt_mx {rs : List Rs} (h : FewT rs) : rs.length ≤ maxLen := by have := h.1; unfold maxLen; omega
theorem fewp_mx {n : Nat} {ss : List ByteArray} (h : Few n ss) (hn : n ≤ 100) : ss.length ≤ maxLen := by have := h.1; unfold maxLen; omega
/-- What a call says, in whatever came of w. -/
def Says (f : Nat) (args : Array Value) (w : World) (v : Value) : Prop := ∀ W, Below w.heap.size w W → Calls Tryz.prog f args W fun e w' => e = .returned v ∧ Below W.heap.size W w'
theorem says_all {f : Nat} {args : Array Value} {W : World} {v : Value} (h : Calls Tryz.prog f args W fun e w' => e = .returned v ∧ ∀ D, Below D W w') : Calls Tryz.prog f args W fun e w' => e = .returned v ∧ Below W.heap.size W w' := h.mono fun e w' q => ⟨q.1, q.2 _⟩
theorem tree_both {w : World} {tv : Value} {rs : List Rs} (ht : BentT w tv rs) : Says 29 #[tv] w (.bool (treeB rs)) ∧ Says 30 #[tv] w (.bool (treeB rs)) := by
  obtain ⟨g, c, rfl, h1, h2, hf, hR⟩ := ht
  exact ⟨fun W hW => treeOk_any _ rs c w.heap.size W (hR.below hW (Nat.le_refl _)) hW.size (fewt_shortT hf) (fewt_mx hf), fun W hW => specTreeOk_any _ rs c w.heap.size W (hR.below hW (Nat.le_refl _)) hW.size (fewt_shortT hf) (fewt_mx hf) (fun r hr => (fewt_lp hf r hr).1)⟩
theorem find_both {w : World} {tv pv : Value} {rs : List Rs} {ss : List ByteArray} (ht : BentT w tv rs) (hp : BentP w pv ss) : Says 31 #[tv, pv] w (.int .i64 (findI rs ss)) ∧ Says 32 #[tv, pv] w (.int .i64 (findI rs ss)) := by
  obtain ⟨g, c, rfl, h1, h2, hf, hR⟩ := ht
  obtain ⟨gp, cp, rfl, p1, p2, hfp, hP⟩ := hp
  exact ⟨fun W hW => findRes_any _ rs c w.heap.size _ ss cp w.heap.size W (hR.below hW (Nat.le_refl _)) (hP.below hW (Nat.le_refl _)) (fewt_mx hf) (fewp_mx hfp (by decide)) hW.size hW.size, fun W hW => says_all (specFind_any _ rs c w.heap.size _ ss cp w.heap.size W (hR.below hW (Nat.le_refl _)) (hP.below hW (Nat.le_refl _)) (fewt_mx hf) (fewp_mx hfp (by decide)))⟩
theorem coll_both {w : World} {tv pv : Value} {rs : List Rs} {ss : List ByteArray} (ht : BentT w tv rs) (hp : BentP w pv ss) : Says 33 #[tv, pv] w (.bool (collB rs ss)) ∧ Says 34 #[tv, pv] w (.bool (collB rs ss)) := by
  obtain ⟨g, c, rfl, h1, h2, hf, hR⟩ := ht
  obtain ⟨gp, cp, rfl, p1, p2, hfp, hP⟩ := hp
  exact ⟨fun W hW => isColl_any _ rs c w.heap.size _ ss cp w.heap.size W (hR.below hW (Nat.le_refl _)) (hP.below hW (Nat.le_refl _)) (fewt_mx hf) (fewp_mx hfp (by decide)) hW.size hW.size, fun W hW => says_all (specIsColl_any _ rs c w.heap.size _ ss cp w.heap.size W (hR.below hW (Nat.le_refl _)) (hP.below hW (Nat.le_refl _)) (fewt_mx hf) (fewp_mx hfp (by decide)))⟩
theorem props_both {w : World} {tv : Value} {ps : List Pp} (hl : BentL w tv ps) : Says 40 #[tv] w (.bool (propsB ps)) ∧ Says 41 #[tv] w (.bool (propsB ps)) := by
  obtain ⟨g, c, rfl, h1, h2, hf, hR⟩ := hl
  have hs : ShortPs ps := fun p hp => by have := hf.2 p hp; unfold maxLen; omega
  have hm : ps.length ≤ maxLen := by have := hf.1; unfold maxLen; omega
  exact ⟨fun W hW => propsOk_any _ ps c w.heap.size W (hR.below hW (Nat.le_refl _)) hW.size hs hm, fun W hW => specPropsOk_any _ ps c w.heap.size W (hR.below hW (Nat.le_refl _)) hW.size hs hm⟩
theorem less_both {w : World} {x y : Option Addr} {n m c d : Nat} {ss tt : List ByteArray} (hx : Strs w w.heap.size x ss) (hy : Strs w w.heap.size y tt) (hn : n = ss.length) (hm : m = tt.length) (hf : Few 6 ss) (hg : Few 6 tt) : Says 42 #[.slice x n c, .slice y m d] w (.bool (lessL ss tt)) ∧ Says 43 #[.slice x n c, .slice y m d] w (.bool (lessL ss tt)) := by
  subst hn hm
  exact ⟨fun W hW => (lessPath_any _ _ ss tt c d w.heap.size w.heap.size W (hx.below hW (Nat.le_refl _)) (hy.below hW (Nat.le_refl _)) (fewp_mx hf (by decide)) (fewp_mx hg (by decide))).mono fun e w' q => ⟨q.1, by rw [q.2]; exact Below.refl _ _⟩, fun W hW => says_all (specLessPath_any _ _ ss tt c d w.heap.size w.heap.size W (hx.below hW (Nat.le_refl _)) (hy.below hW (Nat.le_refl _)) (fewp_mx hf (by decide)) (fewp_mx hg (by decide)))⟩
theorem Sss.mono {w : World} {B C : Nat} {a : Option Addr} {ls : List (List ByteArray)} (h : Sss w B a ls) (hC : B ≤ C) : Sss w C a ls := fun h0 => by
  obtain ⟨b, o, ea, hb, hc⟩ := h h0
  refine ⟨b, o, ea, Nat.lt_of_lt_of_le hb hC, fun j hj => ?_⟩
  obtain ⟨pa, pc, h1, h2⟩ := hc j hj
  exact ⟨pa, pc, h1, h2.mono hC⟩
def KidsB (w' : World) (e : Ending) (ls : List (List ByteArray)) : Prop := ∃ g cap, e = .returned (.slice (some ⟨g, 0, none⟩) ls.length cap) ∧ Sss w' w'.heap.size (some ⟨g, 0, none⟩) ls
theorem kids_both {w : World} {tv pv : Value} {rs : List Rs} {ss : List ByteArray} (ht : BentT w tv rs) (hp : BentP w pv ss) : (∀ W, Below w.heap.size w W → Calls Tryz.prog 36 #[tv, pv] W fun e w' => KidsB w' e (kidsL rs ss) ∧ Below W.heap.size W w') ∧ ∀ W, Below w.heap.size w W → Calls Tryz.prog 37 #[tv, pv] W fun e w' => KidsB w' e (kidsL rs ss) ∧ Below W.heap.size W w' := by
  obtain ⟨g, c, rfl, h1, h2, hf, hR⟩ := ht
  obtain ⟨gp, cp, rfl, p1, p2, hfp, hP⟩ := hp
  have hpl := hfp.1
  exact ⟨fun W hW => (kidsOf_any _ rs c w.heap.size _ ss cp w.heap.size W (hR.below hW (Nat.le_refl _)) (hP.below hW (Nat.le_refl _)) hW.size hW.size (fewt_len hf) (by omega) (fun r hr => ⟨(fewt_lp hf r hr).1, (fewt_szT hf r hr).2.2.1⟩)).mono (fun e w' ⟨⟨g2, c2, pb, he, ho⟩, q⟩ => ⟨⟨g2, c2, he, ho.sss (Nat.le_refl _)⟩, q⟩),
    fun W hW => (specKidsOf_any _ rs c w.heap.size _ ss cp w.heap.size W (hR.below hW (Nat.le_refl _)) (hP.below hW (Nat.le_refl _)) hW.size hW.size (fewt_len hf) (by omega) (fun r hr => (fewt_lp hf r hr).1)).mono (fun e w' ⟨⟨g2, c2, pb, he, ho⟩, q⟩ => ⟨⟨g2, c2, he, ho.sss (Nat.le_refl _)⟩, q⟩)⟩
def DeepB (w' : World) (e : Ending) (rs : List Rs) : Prop := ∃ g cap, e = .returned (.slice (some ⟨g, 0, none⟩) rs.length cap) ∧ Rss w' w'.heap.size (some ⟨g, 0, none⟩) rs
theorem deep_both {w : World} {tv pv : Value} {rs : List Rs} {ss : List ByteArray} (ht : BentT w tv rs) (hp : BentP w pv ss) : (∀ W, Below w.heap.size w W → Calls Tryz.prog 38 #[tv, pv] W fun e w' => DeepB w' e (deepL rs ss) ∧ Below W.heap.size W w') ∧ ∀ W, Below w.heap.size w W → Calls Tryz.prog 39 #[tv, pv] W fun e w' => DeepB w' e (deepL rs ss) ∧ Below W.heap.size W w' := by
  obtain ⟨g, c, rfl, h1, h2, hf, hR⟩ := ht
  obtain ⟨gp, cp, rfl, p1, p2, hfp, hP⟩ := hp
  have hpl := hfp.1
  exact ⟨fun W hW => (deepOf_any _ rs c w.heap.size _ ss cp w.heap.size W (hR.below hW (Nat.le_refl _)) (hP.below hW (Nat.le_refl _)) hW.size hW.size (fewt_len hf) (by omega) (fewt_szT hf)).mono (fun e w' ⟨⟨g2, c2, pb, qb, he, ho⟩, q⟩ => ⟨⟨g2, c2, he, ho.rss (fun r hr => by have h9 := fewt_lp hf r (List.mem_filter.1 hr).1; unfold maxLen; omega) (Nat.le_refl _)⟩, q⟩),
    fun W hW => (specDeepOf_any _ rs c w.heap.size _ ss cp w.heap.size W (hR.below hW (Nat.le_refl _)) (hP.below hW (Nat.le_refl _)) hW.size hW.size (fewt_len hf) (by omega) (fewt_lp hf)).mono (fun e w' ⟨⟨g2, c2, _, he, ho⟩, q⟩ => ⟨⟨g2, c2, he, ho⟩, q⟩)⟩
def AboveB (w' : World) (e : Ending) (ss : List ByteArray) : Prop := ∃ a cap, e = .returned (.slice a ss.length cap) ∧ Strs w' w'.heap.size a ss
theorem above_both {w : World} {pv : Value} {ss : List ByteArray} (hp : BentP w pv ss) : (∀ W, Below w.heap.size w W → Calls Tryz.prog 45 #[pv] W fun e w' => AboveB w' e (aboveL ss) ∧ Below W.heap.size W w') ∧ ∀ W, Below w.heap.size w W → Calls Tryz.prog 46 #[pv] W fun e w' => AboveB w' e (aboveL ss) ∧ Below W.heap.size W w' := by
  obtain ⟨gp, cp, rfl, p1, p2, hfp, hP⟩ := hp
  have hpl := hfp.1
  exact ⟨fun W hW => (above_any gp 0 ss cp w.heap.size W (hP.below hW (Nat.le_refl _)) hW.size (by omega) (fewt_sz hfp) p1 p2).mono (fun e w' ⟨he, hr, q⟩ => ⟨⟨_, _, he, hr.strs' hr.1⟩, q⟩),
    fun W hW => (specAbove_any gp ss cp w.heap.size W (hP.below hW (Nat.le_refl _)) hW.size (by omega) p1 p2).mono (fun e w' ⟨⟨a2, c2, he, _, _, hs⟩, q⟩ => ⟨⟨a2, c2, he, hs⟩, q⟩)⟩
theorem same_kids {w : World} {g g' c c' : Nat} {ls : List (List ByteArray)} (h : Sss w w.heap.size (some ⟨g, 0, none⟩) ls) (h' : Sss w w.heap.size (some ⟨g', 0, none⟩) ls) (hl : ls.length ≤ maxLen) (hll : ∀ l ∈ ls, l.length ≤ maxLen) : Calls Tryz.prog 35 #[.slice (some ⟨g, 0, none⟩) ls.length c, .slice (some ⟨g', 0, none⟩) ls.length c'] w fun e w' => e = .returned (.bool true) ∧ Below w.heap.size w w' := (samePaths_same _ _ ls c c' w.heap.size w.heap.size w h h' hl hll).mono fun e w' q => ⟨q.1, q.2 _⟩
theorem same_deep {w : World} {g g' c c' : Nat} {rs : List Rs} (h : Rss w w.heap.size (some ⟨g, 0, none⟩) rs) (h' : Rss w w.heap.size (some ⟨g', 0, none⟩) rs) (hl : rs.length ≤ maxLen) : Calls Tryz.prog 21 #[.slice (some ⟨g, 0, none⟩) rs.length c, .slice (some ⟨g', 0, none⟩) rs.length c'] w fun e w' => e = .returned (.bool true) ∧ Below w.heap.size w w' := sameTree_same _ _ rs c c' w.heap.size w.heap.size w h h' (Nat.le_refl _) (Nat.le_refl _) hl
theorem same_above {w : World} {a a' : Option Addr} {c c' : Nat} {ss : List ByteArray} (h : Strs w w.heap.size a ss) (h' : Strs w w.heap.size a' ss) (hl : ss.length ≤ maxLen) : Calls Tryz.prog 44 #[.slice a ss.length c, .slice a' ss.length c'] w fun e w' => e = .returned (.bool true) ∧ Below w.heap.size w w' := by
  have h1 := sameTexts_any _ _ ss ss c c' w.heap.size w.heap.size w h h' hl hl
  rw [sameL_refl] at h1
  exact says_all h1
theorem kids_few {w : World} {tv : Value} {rs : List Rs} (ht : BentT w tv rs) (ss : List ByteArray) : (kidsL rs ss).length ≤ maxLen ∧ ∀ l ∈ kidsL rs ss, l.length ≤ maxLen := by
  obtain ⟨g, c, _, h1, h2, hf, hR⟩ := ht
  unfold kidsL
  refine ⟨?_, fun l hl => ?_⟩
  · rw [List.length_map]
    exact Nat.le_trans (List.length_filter_le _ _) (fewt_mx hf)
  · obtain ⟨r, hr, rfl⟩ := List.mem_map.1 hl
    have := (hf.2 r (List.mem_filter.1 hr).1).1.1
    unfold maxLen
    omega
theorem deep_few {w : World} {tv : Value} {rs : List Rs} (ht : BentT w tv rs) (ss : List ByteArray) : (deepL rs ss).length ≤ maxLen := by
  obtain ⟨g, c, _, h1, h2, hf, hR⟩ := ht
  exact Nat.le_trans (List.length_filter_le _ _) (fewt_mx hf)
theorem above_few {w : World} {pv : Value} {ss : List ByteArray} (hp : BentP w pv ss) : (aboveL ss).length ≤ maxLen := by
  obtain ⟨g, c, _, h1, h2, hf, hR⟩ := hp
  have := hf.1
  rw [aboveL_len]
  unfold maxLen
  omega

set_option maxRecDepth 100000 in
set_option maxHeartbeats 16000000 in
theorem FnTreesBent_walk (a : Option Addr) (len cap : Nat) (zs : List Int) (w : World) (hr : IsRow .u8 w a len cap zs) :
    Calls Tryz.prog 4 #[.slice a len cap] w fun e w' => e = .returned (.bool true) ∧ Below w.heap.size w w' := by
  have hml := row_len hr
  by_cases hb : (1048576 : Int) < (len : Int)
  · clear hr
    go_enter Tryz.func4, Tryz.ntmps4
    go_wp2_with (go_at_call 6; refine (big_any a len cap _ hml).mono ?_; rintro e w1 ⟨rfl, hw⟩; obtain rfl := hw.symm; rw [decide_eq_true hb])
    go_ret
    exact ⟨rfl, Below.refl _ _⟩
  · have HC : Hid (CodeIn w w.heap.size a len zs) := code_of_row hr (by omega)
    have HCW := hide (fun W (hb : Below w.heap.size w W) => (HC.out.below hb))
    clear hr
    go_enter Tryz.func4, Tryz.ntmps4
    go_wp2_with (go_at_call 6; refine (big_any a len cap _ hml).mono ?_; rintro e w1 ⟨rfl, hw⟩; obtain rfl := hw.symm; rw [decide_eq_false hb])
    refine (drawTreeOk_any HC.out cap).mono ?_
    rintro e w1 ⟨⟨tv, rs, rfl, ht⟩, b1⟩
    have K1 := hide b1
    have HT := hide (tree_both ht)
    generalize treeB rs = v1 at *
    have e1 : (v1 == v1) = true := beq_self_eq_true _
    clear ht
    have Z1_1 := hide (Below.refl w1.heap.size w1)
    clear b1
    go_wp2_with fail
    refine (drawFindRes_any (HCW.out _ K1.out) cap).mono ?_
    rintro e w2 ⟨⟨av, pv, rs2, ss, rfl, ht, hp⟩, b2⟩
    have K2 := hide (K1.out.trans (b2.mono K1.out.size))
    have Z1_2 := hide (Z1_1.out.trans (b2.mono Z1_1.out.size))
    clear K1 Z1_1
    have HF := hide (find_both ht hp)
    have HI := hide (coll_both ht hp)
    have HK := hide (kids_both ht hp)
    have HD := hide (deep_both ht hp)
    have LK := hide (kids_few ht ss)
    have LD := hide (deep_few ht ss)
    generalize findI rs2 ss = v2 at *
    generalize collB rs2 ss = v3 at *
    generalize kidsL rs2 ss = lk at *
    generalize deepL rs2 ss = ld at *
    have e2 : (v2 == v2) = true := beq_self_eq_true _
    have e3 : (v3 == v3) = true := beq_self_eq_true _
    clear ht hp
    have Z2_2 := hide (Below.refl w2.heap.size w2)
    clear b2
    go_wp2_with fail
    refine (drawPropsOk_any (HCW.out _ K2.out) cap).mono ?_
    rintro e w3 ⟨⟨lv, ps, rfl, hl⟩, b3⟩
    have K3 := hide (K2.out.trans (b3.mono K2.out.size))
    have Z1_3 := hide (Z1_2.out.trans (b3.mono Z1_2.out.size))
    have Z2_3 := hide (Z2_2.out.trans (b3.mono Z2_2.out.size))
    clear K2 Z1_2 Z2_2
    have HP := hide (props_both hl)
    generalize propsB ps = v4 at *
    have e4 : (v4 == v4) = true := beq_self_eq_true _
    clear hl
    have Z3_3 := hide (Below.refl w3.heap.size w3)
    clear b3
    go_wp2_with fail
    refine (drawLessPath_any (HCW.out _ K3.out) cap).mono ?_
    rintro e w4 ⟨⟨xs, ys, g4, n4, c4, m4, d4, y4, hf, hg, hn, hm, _, _, rfl, hx, hy⟩, b4⟩
    have K4 := hide (K3.out.trans (b4.mono K3.out.size))
    have Z1_4 := hide (Z1_3.out.trans (b4.mono Z1_3.out.size))
    have Z2_4 := hide (Z2_3.out.trans (b4.mono Z2_3.out.size))
    have Z3_4 := hide (Z3_3.out.trans (b4.mono Z3_3.out.size))
    clear K3 Z1_3 Z2_3 Z3_3
    have HL := hide (less_both (c := c4) (d := d4) hx hy hn hm hf hg)
    have HR := hide (less_both (c := d4) (d := c4) hy hx hm hn hg hf).1
    have HAS := hide (lessL_asym xs ys)
    generalize lessL xs ys = lb at *
    generalize lessL ys xs = lc at *
    have e5 : (lb == lb) = true := beq_self_eq_true _
    clear hf hg hn hm hx hy
    have Z4_4 := hide (Below.refl w4.heap.size w4)
    clear b4
    go_wp2_with fail
    refine (drawAbove_any (HCW.out _ K4.out) cap).mono ?_
    rintro e w5 ⟨⟨qv, qs, rfl, hq⟩, b5⟩
    have K5 := hide (K4.out.trans (b5.mono K4.out.size))
    have Z1_5 := hide (Z1_4.out.trans (b5.mono Z1_4.out.size))
    have Z2_5 := hide (Z2_4.out.trans (b5.mono Z2_4.out.size))
    have Z3_5 := hide (Z3_4.out.trans (b5.mono Z3_4.out.size))
    have Z4_5 := hide (Z4_4.out.trans (b5.mono Z4_4.out.size))
    clear K4 Z1_4 Z2_4 Z3_4 Z4_4
    have HA := hide (above_both hq)
    have LA := hide (above_few hq)
    generalize aboveL qs = lq at *
    clear hq
    have Z5_5 := hide (Below.refl w5.heap.size w5)
    clear b5
    go_wp2_with fail
    refine (HT.out.1 _ Z1_5.out).mono ?_
    rintro e w6 ⟨rfl, b6⟩
    have K6 := hide (K5.out.trans (b6.mono K5.out.size))
    have Z1_6 := hide (Z1_5.out.trans (b6.mono Z1_5.out.size))
    have Z2_6 := hide (Z2_5.out.trans (b6.mono Z2_5.out.size))
    have Z3_6 := hide (Z3_5.out.trans (b6.mono Z3_5.out.size))
    have Z4_6 := hide (Z4_5.out.trans (b6.mono Z4_5.out.size))
    have Z5_6 := hide (Z5_5.out.trans (b6.mono Z5_5.out.size))
    clear K5 Z1_5 Z2_5 Z3_5 Z4_5 Z5_5
    clear b6
    go_wp2_with fail
    refine (HT.out.2 _ Z1_6.out).mono ?_
    rintro e w7 ⟨rfl, b7⟩
    have K7 := hide (K6.out.trans (b7.mono K6.out.size))
    have Z1_7 := hide (Z1_6.out.trans (b7.mono Z1_6.out.size))
    have Z2_7 := hide (Z2_6.out.trans (b7.mono Z2_6.out.size))
    have Z3_7 := hide (Z3_6.out.trans (b7.mono Z3_6.out.size))
    have Z4_7 := hide (Z4_6.out.trans (b7.mono Z4_6.out.size))
    have Z5_7 := hide (Z5_6.out.trans (b7.mono Z5_6.out.size))
    clear K6 Z1_6 Z2_6 Z3_6 Z4_6 Z5_6
    clear b7
    go_wp2_with fail
    refine (HF.out.1 _ Z2_7.out).mono ?_
    rintro e w8 ⟨rfl, b8⟩
    have K8 := hide (K7.out.trans (b8.mono K7.out.size))
    have Z1_8 := hide (Z1_7.out.trans (b8.mono Z1_7.out.size))
    have Z2_8 := hide (Z2_7.out.trans (b8.mono Z2_7.out.size))
    have Z3_8 := hide (Z3_7.out.trans (b8.mono Z3_7.out.size))
    have Z4_8 := hide (Z4_7.out.trans (b8.mono Z4_7.out.size))
    have Z5_8 := hide (Z5_7.out.trans (b8.mono Z5_7.out.size))
    clear K7 Z1_7 Z2_7 Z3_7 Z4_7 Z5_7
    clear b8
    go_wp2_with fail
    refine (HF.out.2 _ Z2_8.out).mono ?_
    rintro e w9 ⟨rfl, b9⟩
    have K9 := hide (K8.out.trans (b9.mono K8.out.size))
    have Z1_9 := hide (Z1_8.out.trans (b9.mono Z1_8.out.size))
    have Z2_9 := hide (Z2_8.out.trans (b9.mono Z2_8.out.size))
    have Z3_9 := hide (Z3_8.out.trans (b9.mono Z3_8.out.size))
    have Z4_9 := hide (Z4_8.out.trans (b9.mono Z4_8.out.size))
    have Z5_9 := hide (Z5_8.out.trans (b9.mono Z5_8.out.size))
    clear K8 Z1_8 Z2_8 Z3_8 Z4_8 Z5_8
    clear b9
    go_wp2_with fail
    refine (HI.out.1 _ Z2_9.out).mono ?_
    rintro e w10 ⟨rfl, b10⟩
    have K10 := hide (K9.out.trans (b10.mono K9.out.size))
    have Z1_10 := hide (Z1_9.out.trans (b10.mono Z1_9.out.size))
    have Z2_10 := hide (Z2_9.out.trans (b10.mono Z2_9.out.size))
    have Z3_10 := hide (Z3_9.out.trans (b10.mono Z3_9.out.size))
    have Z4_10 := hide (Z4_9.out.trans (b10.mono Z4_9.out.size))
    have Z5_10 := hide (Z5_9.out.trans (b10.mono Z5_9.out.size))
    clear K9 Z1_9 Z2_9 Z3_9 Z4_9 Z5_9
    clear b10
    go_wp2_with fail
    refine (HI.out.2 _ Z2_10.out).mono ?_
    rintro e w11 ⟨rfl, b11⟩
    have K11 := hide (K10.out.trans (b11.mono K10.out.size))
    have Z1_11 := hide (Z1_10.out.trans (b11.mono Z1_10.out.size))
    have Z2_11 := hide (Z2_10.out.trans (b11.mono Z2_10.out.size))
    have Z3_11 := hide (Z3_10.out.trans (b11.mono Z3_10.out.size))
    have Z4_11 := hide (Z4_10.out.trans (b11.mono Z4_10.out.size))
    have Z5_11 := hide (Z5_10.out.trans (b11.mono Z5_10.out.size))
    clear K10 Z1_10 Z2_10 Z3_10 Z4_10 Z5_10
    clear b11
    go_wp2_with fail
    refine (HK.out.1 _ Z2_11.out).mono ?_
    rintro e w12 ⟨⟨gA, cA, rfl, hh⟩, b12⟩
    have K12 := hide (K11.out.trans (b12.mono K11.out.size))
    have Z1_12 := hide (Z1_11.out.trans (b12.mono Z1_11.out.size))
    have Z2_12 := hide (Z2_11.out.trans (b12.mono Z2_11.out.size))
    have Z3_12 := hide (Z3_11.out.trans (b12.mono Z3_11.out.size))
    have Z4_12 := hide (Z4_11.out.trans (b12.mono Z4_11.out.size))
    have Z5_12 := hide (Z5_11.out.trans (b12.mono Z5_11.out.size))
    clear K11 Z1_11 Z2_11 Z3_11 Z4_11 Z5_11
    have A_12 := hide hh
    clear hh
    clear b12
    go_wp2_with fail
    refine (HK.out.2 _ Z2_12.out).mono ?_
    rintro e w13 ⟨⟨gB, cB, rfl, hh⟩, b13⟩
    have K13 := hide (K12.out.trans (b13.mono K12.out.size))
    have Z1_13 := hide (Z1_12.out.trans (b13.mono Z1_12.out.size))
    have Z2_13 := hide (Z2_12.out.trans (b13.mono Z2_12.out.size))
    have Z3_13 := hide (Z3_12.out.trans (b13.mono Z3_12.out.size))
    have Z4_13 := hide (Z4_12.out.trans (b13.mono Z4_12.out.size))
    have Z5_13 := hide (Z5_12.out.trans (b13.mono Z5_12.out.size))
    have A_13 := hide ((A_12.out.below b13 (Nat.le_refl _)).mono b13.size)
    clear K12 Z1_12 Z2_12 Z3_12 Z4_12 Z5_12 A_12
    have B_13 := hide hh
    clear hh
    clear b13
    go_wp2_with fail
    refine (same_kids A_13.out B_13.out LK.out.1 LK.out.2).mono ?_
    rintro e w14 ⟨rfl, b14⟩
    have K14 := hide (K13.out.trans (b14.mono K13.out.size))
    have Z1_14 := hide (Z1_13.out.trans (b14.mono Z1_13.out.size))
    have Z2_14 := hide (Z2_13.out.trans (b14.mono Z2_13.out.size))
    have Z3_14 := hide (Z3_13.out.trans (b14.mono Z3_13.out.size))
    have Z4_14 := hide (Z4_13.out.trans (b14.mono Z4_13.out.size))
    have Z5_14 := hide (Z5_13.out.trans (b14.mono Z5_13.out.size))
    clear K13 Z1_13 Z2_13 Z3_13 Z4_13 Z5_13
    clear b14
    go_wp2_with fail
    refine (HD.out.1 _ Z2_14.out).mono ?_
    rintro e w15 ⟨⟨gC, cC, rfl, hh⟩, b15⟩
    have K15 := hide (K14.out.trans (b15.mono K14.out.size))
    have Z1_15 := hide (Z1_14.out.trans (b15.mono Z1_14.out.size))
    have Z2_15 := hide (Z2_14.out.trans (b15.mono Z2_14.out.size))
    have Z3_15 := hide (Z3_14.out.trans (b15.mono Z3_14.out.size))
    have Z4_15 := hide (Z4_14.out.trans (b15.mono Z4_14.out.size))
    have Z5_15 := hide (Z5_14.out.trans (b15.mono Z5_14.out.size))
    clear K14 Z1_14 Z2_14 Z3_14 Z4_14 Z5_14
    have C_15 := hide hh
    clear hh
    clear b15
    go_wp2_with fail
    refine (HD.out.2 _ Z2_15.out).mono ?_
    rintro e w16 ⟨⟨gD, cD, rfl, hh⟩, b16⟩
    have K16 := hide (K15.out.trans (b16.mono K15.out.size))
    have Z1_16 := hide (Z1_15.out.trans (b16.mono Z1_15.out.size))
    have Z2_16 := hide (Z2_15.out.trans (b16.mono Z2_15.out.size))
    have Z3_16 := hide (Z3_15.out.trans (b16.mono Z3_15.out.size))
    have Z4_16 := hide (Z4_15.out.trans (b16.mono Z4_15.out.size))
    have Z5_16 := hide (Z5_15.out.trans (b16.mono Z5_15.out.size))
    have C_16 := hide ((C_15.out.below b16 (Nat.le_refl _)).mono b16.size)
    clear K15 Z1_15 Z2_15 Z3_15 Z4_15 Z5_15 C_15
    have D_16 := hide hh
    clear hh
    clear b16
    go_wp2_with fail
    refine (same_deep C_16.out D_16.out LD.out).mono ?_
    rintro e w17 ⟨rfl, b17⟩
    have K17 := hide (K16.out.trans (b17.mono K16.out.size))
    have Z1_17 := hide (Z1_16.out.trans (b17.mono Z1_16.out.size))
    have Z2_17 := hide (Z2_16.out.trans (b17.mono Z2_16.out.size))
    have Z3_17 := hide (Z3_16.out.trans (b17.mono Z3_16.out.size))
    have Z4_17 := hide (Z4_16.out.trans (b17.mono Z4_16.out.size))
    have Z5_17 := hide (Z5_16.out.trans (b17.mono Z5_16.out.size))
    clear K16 Z1_16 Z2_16 Z3_16 Z4_16 Z5_16
    clear b17
    go_wp2_with fail
    refine (HP.out.1 _ Z3_17.out).mono ?_
    rintro e w18 ⟨rfl, b18⟩
    have K18 := hide (K17.out.trans (b18.mono K17.out.size))
    have Z1_18 := hide (Z1_17.out.trans (b18.mono Z1_17.out.size))
    have Z2_18 := hide (Z2_17.out.trans (b18.mono Z2_17.out.size))
    have Z3_18 := hide (Z3_17.out.trans (b18.mono Z3_17.out.size))
    have Z4_18 := hide (Z4_17.out.trans (b18.mono Z4_17.out.size))
    have Z5_18 := hide (Z5_17.out.trans (b18.mono Z5_17.out.size))
    clear K17 Z1_17 Z2_17 Z3_17 Z4_17 Z5_17
    clear b18
    go_wp2_with fail
    refine (HP.out.2 _ Z3_18.out).mono ?_
    rintro e w19 ⟨rfl, b19⟩
    have K19 := hide (K18.out.trans (b19.mono K18.out.size))
    have Z1_19 := hide (Z1_18.out.trans (b19.mono Z1_18.out.size))
    have Z2_19 := hide (Z2_18.out.trans (b19.mono Z2_18.out.size))
    have Z3_19 := hide (Z3_18.out.trans (b19.mono Z3_18.out.size))
    have Z4_19 := hide (Z4_18.out.trans (b19.mono Z4_18.out.size))
    have Z5_19 := hide (Z5_18.out.trans (b19.mono Z5_18.out.size))
    clear K18 Z1_18 Z2_18 Z3_18 Z4_18 Z5_18
    clear b19
    go_wp2_with fail
    refine (HL.out.1 _ Z4_19.out).mono ?_
    rintro e w20 ⟨rfl, b20⟩
    have K20 := hide (K19.out.trans (b20.mono K19.out.size))
    have Z1_20 := hide (Z1_19.out.trans (b20.mono Z1_19.out.size))
    have Z2_20 := hide (Z2_19.out.trans (b20.mono Z2_19.out.size))
    have Z3_20 := hide (Z3_19.out.trans (b20.mono Z3_19.out.size))
    have Z4_20 := hide (Z4_19.out.trans (b20.mono Z4_19.out.size))
    have Z5_20 := hide (Z5_19.out.trans (b20.mono Z5_19.out.size))
    clear K19 Z1_19 Z2_19 Z3_19 Z4_19 Z5_19
    clear b20
    go_wp2_with fail
    refine (HL.out.2 _ Z4_20.out).mono ?_
    rintro e w21 ⟨rfl, b21⟩
    have K21 := hide (K20.out.trans (b21.mono K20.out.size))
    have Z1_21 := hide (Z1_20.out.trans (b21.mono Z1_20.out.size))
    have Z2_21 := hide (Z2_20.out.trans (b21.mono Z2_20.out.size))
    have Z3_21 := hide (Z3_20.out.trans (b21.mono Z3_20.out.size))
    have Z4_21 := hide (Z4_20.out.trans (b21.mono Z4_20.out.size))
    have Z5_21 := hide (Z5_20.out.trans (b21.mono Z5_20.out.size))
    clear K20 Z1_20 Z2_20 Z3_20 Z4_20 Z5_20
    clear b21
    go_wp2_with fail
    refine (HA.out.1 _ Z5_21.out).mono ?_
    rintro e w22 ⟨⟨gE, cE, rfl, hh⟩, b22⟩
    have K22 := hide (K21.out.trans (b22.mono K21.out.size))
    have Z1_22 := hide (Z1_21.out.trans (b22.mono Z1_21.out.size))
    have Z2_22 := hide (Z2_21.out.trans (b22.mono Z2_21.out.size))
    have Z3_22 := hide (Z3_21.out.trans (b22.mono Z3_21.out.size))
    have Z4_22 := hide (Z4_21.out.trans (b22.mono Z4_21.out.size))
    have Z5_22 := hide (Z5_21.out.trans (b22.mono Z5_21.out.size))
    clear K21 Z1_21 Z2_21 Z3_21 Z4_21 Z5_21
    have E_22 := hide hh
    clear hh
    clear b22
    go_wp2_with fail
    refine (HA.out.2 _ Z5_22.out).mono ?_
    rintro e w23 ⟨⟨gG, cG, rfl, hh⟩, b23⟩
    have K23 := hide (K22.out.trans (b23.mono K22.out.size))
    have Z1_23 := hide (Z1_22.out.trans (b23.mono Z1_22.out.size))
    have Z2_23 := hide (Z2_22.out.trans (b23.mono Z2_22.out.size))
    have Z3_23 := hide (Z3_22.out.trans (b23.mono Z3_22.out.size))
    have Z4_23 := hide (Z4_22.out.trans (b23.mono Z4_22.out.size))
    have Z5_23 := hide (Z5_22.out.trans (b23.mono Z5_22.out.size))
    have E_23 := hide ((E_22.out.below b23 (Nat.le_refl _)).mono b23.size)
    clear K22 Z1_22 Z2_22 Z3_22 Z4_22 Z5_22 E_22
    have G_23 := hide hh
    clear hh
    clear b23
    go_wp2_with fail
    refine (same_above E_23.out G_23.out LA.out).mono ?_
    rintro e w24 ⟨rfl, b24⟩
    have K24 := hide (K23.out.trans (b24.mono K23.out.size))
    have Z1_24 := hide (Z1_23.out.trans (b24.mono Z1_23.out.size))
    have Z2_24 := hide (Z2_23.out.trans (b24.mono Z2_23.out.size))
    have Z3_24 := hide (Z3_23.out.trans (b24.mono Z3_23.out.size))
    have Z4_24 := hide (Z4_23.out.trans (b24.mono Z4_23.out.size))
    have Z5_24 := hide (Z5_23.out.trans (b24.mono Z5_23.out.size))
    clear K23 Z1_23 Z2_23 Z3_23 Z4_23 Z5_23
    clear b24
    go_wp2_with fail
    refine (HL.out.1 _ Z4_24.out).mono ?_
    rintro e w25 ⟨rfl, b25⟩
    have K25 := hide (K24.out.trans (b25.mono K24.out.size))
    have Z1_25 := hide (Z1_24.out.trans (b25.mono Z1_24.out.size))
    have Z2_25 := hide (Z2_24.out.trans (b25.mono Z2_24.out.size))
    have Z3_25 := hide (Z3_24.out.trans (b25.mono Z3_24.out.size))
    have Z4_25 := hide (Z4_24.out.trans (b25.mono Z4_24.out.size))
    have Z5_25 := hide (Z5_24.out.trans (b25.mono Z5_24.out.size))
    clear K24 Z1_24 Z2_24 Z3_24 Z4_24 Z5_24
    clear b25
    cases lb
    · go_wp2
      go_ret
      exact ⟨rfl, K25.out⟩
    · have hlc := HAS.out rfl
      subst hlc
      go_wp2_with fail
      refine (HR.out _ Z4_25.out).mono ?_
      rintro e w26 ⟨rfl, b26⟩
      have KE := hide (K25.out.trans (b26.mono K25.out.size))
      clear b26
      go_wp2
      go_ret
      exact ⟨rfl, KE.out⟩
end Go.Proofs.YtifnolomekhmfaaGreat
