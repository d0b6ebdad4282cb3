/-
  'append([]string{}, p...)'.
  What spec.DrawUnder draws: two paths.
  What spec.DrawTreeOk, DrawFindRes, DrawLessPath, DrawAbove and DrawPropsOk draw.
  Whether two slices of texts hold the same: what laws.sameTexts does.
  Whether two slices of what is known hold the same, where they do: what laws.sameProps does.
  Whether two slices of things hold the same, where they do: what laws.sameProps, sameRes and sameTree do.
  Rows of lists of texts: what they hold; rows that grow.
  Whether two slices of lists of texts hold the same, where they do: what laws.samePaths does.
  Whether two slices of texts hold the same: what slices.Equal[[]string,string] does.
  What the program's SamePath does.
  What impl.FindRes does.
  What impl.IsColl does.
-/
import Derived.Test.YtifnolomekhmfaaGreatHide
import Derived.Test.YtifnolomekhmfaaGreatMathOrder
import Derived.Deep.RegionHeld3
import Derived.Test.YtifnolomekhmfaaGreatDrawPath2
import Derived.Test.YtifnolomekhmfaaGreatDrawBent11
import Derived.Test.YtifnolomekhmfaaGreatMathPath
import Derived.Test.YtifnolomekhmfaaGreatSpecNum
import Derived.Test.YtifnolomekhmfaaGreatEqBs
import Derived.Laws.StructEq
import Derived.Test.YtifnolomekhmfaaGreatSpecLess
import Derived.Maps.AppendAt
namespace Go.Proofs.YtifnolomekhmfaaGreat
open Go.RowKit
set_option linter.unusedVariables false

/-- 'append([]string{}, p...)': the same texts, in a new row. -/
theorem wp_append_all {w : World} {ops : Array Oper} {rest : List Oper} {o : Oper} {a : Act} {Q : Exit → Act → World → Prop} (hgd : o.guard = none) (s x : Operand)
    (ho : o.op = .call { callee := .builtin .append, args := #[s, x], argTypes := #[25, 25] })
    (B : Nat) (v : Value) (l : List ByteArray) (n : Nat) (hn : n = l.length) (hs : a.eval s = v) (hown : w.ownsRow B 9 1 v 0 (strCells []))
    (g c : Nat) (hx : a.eval x = .slice (some ⟨g, 0, none⟩) n c) (hcell : ∀ j (hj : j < l.length), w.cell? ⟨g, j, none⟩ = some (.string l[j])) (hlen : n ≤ 1099511627776) (hB : B ≤ w.heap.size)
    (h : ∀ v' w', w'.ownsRow B 9 1 v' n (strCells l) → Below B w w' → wpList Tryz.prog ops Q rest (a.put o.dst v') w') : wpList Tryz.prog ops Q (o :: rest) a w := by
  obtain ⟨i0, hi, hz0, hz1, hz2⟩ := info_parts info_str
  refine wpList_append_own w hgd s x 25 ho B 9 i0 (.string ByteArray.empty) 1 16 Tryz.underlying25 hi hz0 hz1 hz2 rfl (by decide) v 0 _ hs hown ⟨g, 0, none⟩ n c (strCells l) hx (by rw [strCells_length, hn, Nat.mul_one]) ?_ ?_ ?_ ?_ hB ?_
  · intro j u hj
    have hjl : j < l.length := by have := (List.getElem?_eq_some_iff.1 hj).1; rwa [strCells_length] at this
    have e : (⟨g, 0, none⟩ : Addr).add j = ⟨g, j, none⟩ := by unfold Addr.add; split <;> simp_all
    rw [e, hcell j hjl]
    unfold strCells at hj
    rw [List.getElem?_map, List.getElem?_eq_getElem hjl] at hj
    exact hj
  · intro u hu
    unfold strCells at hu
    obtain ⟨y, _, rfl⟩ := List.mem_map.1 hu
    rfl
  · unfold maxLen; omega
  · omega
  · intro v' w' ho' hg _
    refine h v' w' ?_ (below_grown hown hB hg)
    rw [Nat.zero_add] at ho'
    exact ho'

end Go.Proofs.YtifnolomekhmfaaGreat
namespace Go.Proofs.YtifnolomekhmfaaGreat
open Go.RowKit M
set_option linter.unusedVariables false

theorem onceU {w : World} {N : Nat} {a : Option Addr} {len cap : Nat} {zs : List Int} (h : DX w N a len cap zs) :
    Calls Tryz.prog 55 #[.pointer (some ⟨N, 0, none⟩), .int .i64 2] w fun e w' => (∃ b : Bool, e = .returned (.bool b)) ∧ DX w' N a len cap zs ∧ w.grownBy w' (some N) := by
  obtain ⟨c, h⟩ := h
  refine (l1Once_any N a len cap zs c 2 w h.cur h.code h.bN h.hlen (by decide) (by decide)).mono ?_
  rintro e w1 ⟨rfl, hc1, hg1⟩
  exact ⟨⟨_, rfl⟩, ⟨_, h.grown hg1 hc1⟩, hg1⟩

/-- Two lists of few short texts. -/
def TwoP (w' : World) (e : Ending) : Prop := ∃ (ss tt : List ByteArray) (g n c m c2 : Nat) (a2 : Option Addr), Few 6 ss ∧ Few 6 tt ∧ n = ss.length ∧ m = tt.length ∧ n ≤ c ∧ c ≤ maxLen ∧ e = .returned (.tuple #[.slice (some ⟨g, 0, none⟩) n c, .slice a2 m c2]) ∧ Strs w' w'.heap.size (some ⟨g, 0, none⟩) ss ∧ Strs w' w'.heap.size a2 tt

theorem owns_cap {w : World} {B g n c : Nat} {xs : List Value} (h : w.ownsRow B 9 1 (.slice (some ⟨g, 0, none⟩) n c) n xs) : n ≤ c ∧ c ≤ maxLen := by
  rcases h.2 with ⟨e, _⟩ | ⟨g', cap', cur, hv, _, _, h1, h2, _⟩
  · cases e
  · cases hv; exact ⟨h1, h2⟩
theorem owns_strs {w : World} {B g n c : Nat} {ss : List ByteArray} (h : w.ownsRow B 9 1 (.slice (some ⟨g, 0, none⟩) n c) n (strCells ss)) (hn : n = ss.length) : Strs w w.heap.size (some ⟨g, 0, none⟩) ss := (OwnS.of h hn.symm).strs (Nat.le_refl _)

theorem few_take {n k : Nat} {ss : List ByteArray} (h : Few n ss) : Few n (ss.take k) := ⟨by have := h.1; rw [List.length_take]; omega, fun s hs => h.2 s (List.mem_of_mem_take hs)⟩

set_option maxRecDepth 100000 in
set_option maxHeartbeats 2000000 in
theorem drawUnder_any {w : World} {B : Nat} {a : Option Addr} {len : Nat} {zs : List Int} (h : CodeIn w B a len zs) (cap : Nat) :
    Calls Tryz.prog 75 #[.slice a len cap] w fun e w' => TwoP w' e ∧ Below w.heap.size w w' := by
  have H : Hid (CodeIn w B a len zs) := h
  clear h
  go_enter Tryz.func75, Tryz.ntmps75
  go_wp2_with fail
  refine (newDX H.out cap).mono ?_
  rintro e w1 ⟨rfl, hd1, hb1⟩
  have hlt1 := hd1.lt
  have H1 : Hid (DX w1 w.heap.size a len cap zs) := hd1
  clear hd1
  go_wp2_with fail
  refine (l2Any_any H1.out).mono ?_
  rintro e w2 ⟨⟨ss, n, g, c, hf, hn, rfl, hown⟩, hd2, hg2⟩
  have HF : Hid (Few 6 ss) := hf
  have HN : Hid (n = ss.length) := hn
  have hn6 : n ≤ 6 := by rw [hn]; exact hf.1
  have HD2 : Hid (DX w2 w.heap.size a len cap zs) := hd2
  have HG2 : Hid (w1.grownBy w2 (some w.heap.size)) := hg2
  have hcap := owns_cap hown
  have hcm := hcap.2
  unfold maxLen at hcm
  clear hf hn hg2 hd2
  go_wp2_with fail
  refine (onceU HD2.out).mono ?_
  rintro e w3 ⟨⟨b, rfl⟩, hd3, hg3⟩
  have hown3 := owns_grown hown hg3 hlt1
  have HD3 : Hid (DX w3 w.heap.size a len cap zs) := hd3
  have HG3 : Hid (w1.grownBy w3 (some w.heap.size)) := grown_trans HG2.out hg3
  clear hd3 hg3 hown
  cases b
  · go_wp2_with fail
    refine (l2Any_any HD3.out).mono ?_
    rintro e w4 ⟨⟨tt, m, g4, c4, hf4, hn4, rfl, hown4⟩, _, hg4⟩
    have hown5 := owns_grown hown3 hg4 hlt1
    have HG4 : Hid (w1.grownBy w4 (some w.heap.size)) := grown_trans HG3.out hg4
    clear hg4
    have HT : Hid (TwoP w4 (.returned (.tuple #[.slice (some ⟨g, 0, none⟩) n c, .slice (some ⟨g4, 0, none⟩) m c4]))) := ⟨ss, tt, g, n, c, m, c4, _, HF.out, hf4, HN.out, hn4, hcap.1, hcap.2, rfl, owns_strs hown5 HN.out, owns_strs hown4 hn4⟩
    clear hf4 hn4
    go_wp2
    go_ret2
    exact ⟨HT.out, dc_below hb1 HG4.out⟩
  · have hnc : (n : Int) ≤ (c : Int) := by have := hcap.1; omega
    have hi : IntKind.i64.wrap ((n : Int) + 1) = (n : Int) + 1 := by rw [IntKind.wrap_i64]; omega
    go_wp2
    go_region_held3 (fun _ => True) (trivial) ((go_at_call 66; refine (l1BelowX (w := w3.drew) (HD3.out.other (w' := w3.drew) (Nat.le_refl _) (fun _ _ => rfl)) ((n : Int) + 1) (by omega) (by omega)).mono ?_; rintro e w4 ⟨⟨k, rfl, hk⟩, _, hg4⟩; (have q1 : (0 : Int) ≤ (k : Int) := (by omega)); (have q2 : (k : Int) ≤ (c : Int) := (by omega))))
    all_goals
      have hown5 := owns_grown (w := w3.drew) hown3 hg4 hlt1
      have h3 := HG3.out
      have h3d : w1.grownBy w3.drew (some w.heap.size) := ⟨h3.os, h3.tape, h3.output, h3.size, h3.block⟩
      have HG4 : Hid (w1.grownBy w4 (some w.heap.size)) := grown_trans h3d hg4
      clear hg4 h3 h3d
      have hkn : k ≤ n := by omega
      have hst := owns_strs hown5 HN.out
      have HT : Hid (TwoP w4 (.returned (.tuple #[.slice (some ⟨g, 0, none⟩) n c, .slice (some ⟨g, 0, none⟩) k c]))) := ⟨ss, ss.take k, g, n, c, k, c, _, HF.out, few_take HF.out, HN.out, by rw [List.length_take, ← HN.out]; omega, hcap.1, hcap.2, rfl, hst, hst.take k⟩
      clear hst hown5
      go_wp2
      go_ret2
      exact ⟨HT.out, dc_below hb1 HG4.out⟩

end Go.Proofs.YtifnolomekhmfaaGreat
namespace Go.Proofs.YtifnolomekhmfaaGreat
open Go.RowKit M
set_option linter.unusedVariables false

/-- What is known, as a draw left it. -/
def BentL (w : World) (v : Value) (ps : List Pp) : Prop := ∃ g c, v = .slice (some ⟨g, 0, none⟩) ps.length c ∧ ps.length ≤ c ∧ c ≤ maxLen ∧ (ps.length ≤ 5 ∧ ∀ p ∈ ps, p.1.size ≤ 1000 ∧ p.2.1.size ≤ 1000 ∧ p.2.2.size ≤ 1000) ∧ Pps w w.heap.size (some ⟨g, 0, none⟩) ps
theorem bentL_of {w : World} {B g n c : Nat} {ps : List Pp} (h : OwnQ w B (.slice (some ⟨g, 0, none⟩) n c) ps) (hn : n = ps.length) (hf : ps.length ≤ 5 ∧ ∀ p ∈ ps, p.1.size ≤ 1000 ∧ p.2.1.size ≤ 1000 ∧ p.2.2.size ≤ 1000) : BentL w (.slice (some ⟨g, 0, none⟩) n c) ps := by
  subst hn
  obtain ⟨a, cap, e, h1, h2, h3⟩ := h.slice
  have h4 := (h.row rfl).2.2.1
  cases e
  exact ⟨g, c, rfl, h4, h3, hf, h2⟩
theorem props_fewL {ps : List Pp} (h : propsB ps = true) : ps.length ≤ 4 ∧ ∀ p ∈ ps, p.1.size ≤ 1000 ∧ p.2.1.size ≤ 1000 ∧ p.2.2.size ≤ 1000 := by
  obtain ⟨h1, h2⟩ := props_few h
  exact ⟨h1, fun p hp => by have := prop_short (h2 p hp); omega⟩

set_option maxRecDepth 100000 in
set_option maxHeartbeats 4000000 in
theorem drawTreeOk_any {w : World} {B : Nat} {a : Option Addr} {len : Nat} {zs : List Int} (h : CodeIn w B a len zs) (cap : Nat) :
    Calls Tryz.prog 24 #[.slice a len cap] w fun e w' => (∃ tv rs, e = .returned tv ∧ BentT w' tv rs) ∧ Below w.heap.size w w' := by
  have HC := hide h
  clear h
  go_enter Tryz.func24, Tryz.ntmps24
  go_wp2_with fail
  refine (newDX HC.out cap).mono ?_
  rintro e w1 ⟨rfl, hd1, b1⟩
  have hN1 : w.heap.size < w1.heap.size := hd1.lt
  have HD1 := hide hd1
  clear hd1
  go_wp2_with fail
  refine (l10Any_any HD1.out).mono ?_
  rintro e w2 ⟨⟨rs, g, n, c, hft, hn, rfl, hv, hgz, hc1, hc2⟩, hd2, hg2⟩
  have HFT := hide hft
  have HN := hide hn
  have HV_2 := hide (hv.low (N := w.heap.size) (by omega))
  have HD2 := hide hd2
  have HG2 := hide hg2
  have hn24 : n ≤ 24 := by rw [hn]; exact hft.1
  clear hft hn hv hd2 hg2 HD1
  have HB := hide (b1.trans (grown_below HG2.out (Nat.le_refl _) (by omega)))
  have HT9 := hide (show BentT w2 (.slice (some ⟨g, 0, none⟩) n c) rs from ⟨g, c, by rw [HN.out], by have := HN.out; omega, hc2, HFT.out, HV_2.out.rss⟩)
  clear HV_2 HD2 HG2
  go_wp2
  refine bodyPost_ret (v := .slice (some ⟨g, 0, none⟩) n c) ?_ rfl ⟨⟨_, _, rfl, HT9.out⟩, HB.out⟩
  simp [results, Tryz.results24, go_sem]

set_option maxRecDepth 100000 in
set_option maxHeartbeats 4000000 in
theorem drawFindRes_any {w : World} {B : Nat} {a : Option Addr} {len : Nat} {zs : List Int} (h : CodeIn w B a len zs) (cap : Nat) :
    Calls Tryz.prog 25 #[.slice a len cap] w fun e w' => (∃ tv pv rs ss, e = .returned (.tuple #[tv, pv]) ∧ BentT w' tv rs ∧ BentP w' pv ss) ∧ Below w.heap.size w w' := by
  have HC := hide h
  clear h
  go_enter Tryz.func25, Tryz.ntmps25
  go_wp2_with fail
  refine (newDX HC.out cap).mono ?_
  rintro e w1 ⟨rfl, hd1, b1⟩
  have hN1 : w.heap.size < w1.heap.size := hd1.lt
  have HD1 := hide hd1
  clear hd1
  go_wp2_with fail
  refine (l10Any_any HD1.out).mono ?_
  rintro e w2 ⟨⟨rs, g, n, c, hft, hn, rfl, hv, hgz, hc1, hc2⟩, hd2, hg2⟩
  have HFT := hide hft
  have HN := hide hn
  have HV_2 := hide (hv.low (N := w.heap.size) (by omega))
  have HD2 := hide hd2
  have HG2 := hide hg2
  have hn24 : n ≤ 24 := by rw [hn]; exact hft.1
  clear hft hn hv hd2 hg2 HD1
  go_wp2_with fail
  refine (l10PathM_any 6 (by decide) (by decide) HD2.out g n c rs HN HV_2.out (by omega) (fun r hr => (HFT.out.2 r hr).1)).mono ?_
  rintro e w3 ⟨⟨ssP, nP, gP, cP, hf, hnp, rfl, hop⟩, hd3, hg3⟩
  have HGX := hide (show w.heap.size + 1 ≤ w2.heap.size by have := HG2.out.size; omega)
  have FP := hide hf
  have NP := hide hnp
  have HV_3 := hide (HV_2.out.grown hg3)
  have HD3 := hide hd3
  have HG3 := hide (grown_trans HG2.out hg3)
  clear hd3 hg3 HV_2 HD2 HG2
  have P_3 := hide (owns_low (C := w.heap.size + 1) hop (by have := HGX.out; omega))
  clear hf hnp hop HGX
  have HB := hide (b1.trans (grown_below HG3.out (Nat.le_refl _) (by omega)))
  have HT9 := hide (show BentT w3 (.slice (some ⟨g, 0, none⟩) n c) rs from ⟨g, c, by rw [HN.out], by have := HN.out; omega, hc2, HFT.out, HV_3.out.rss⟩)
  have TP := hide (bentP_of P_3.out NP.out FP.out)
  clear HV_3 HD3 HG3 P_3
  go_wp2
  refine bodyPost_ret (v := .tuple #[.slice (some ⟨g, 0, none⟩) n c, .slice (some ⟨gP, 0, none⟩) nP cP]) ?_ rfl ⟨⟨_, _, _, _, rfl, HT9.out, TP.out⟩, HB.out⟩
  simp [results, Tryz.results25, go_sem]

set_option maxRecDepth 100000 in
set_option maxHeartbeats 4000000 in
theorem drawLessPath_any {w : World} {B : Nat} {a : Option Addr} {len : Nat} {zs : List Int} (h : CodeIn w B a len zs) (cap : Nat) :
    Calls Tryz.prog 27 #[.slice a len cap] w fun e w' => (TwoP w' e) ∧ Below w.heap.size w w' := by
  have HQ := hide (drawUnder_any h cap)
  clear h
  go_enter Tryz.func27, Tryz.ntmps27
  go_wp2_with fail
  refine HQ.out.mono ?_
  rintro e w1 ⟨⟨ss, tt, g, n, c, m, c2, a2, h1, h2, h3, h4, h5, h6, rfl, h7, h8⟩, hb⟩
  have HX := hide (show TwoP w1 (.returned (.tuple #[.slice (some ⟨g, 0, none⟩) n c, .slice a2 m c2])) from ⟨ss, tt, g, n, c, m, c2, a2, h1, h2, h3, h4, h5, h6, rfl, h7, h8⟩)
  have HB := hide hb
  clear h1 h2 h3 h4 h5 h6 h7 h8 hb HQ
  go_wp2
  go_ret2
  exact ⟨HX.out, HB.out⟩

set_option maxRecDepth 100000 in
set_option maxHeartbeats 4000000 in
theorem drawAbove_any {w : World} {B : Nat} {a : Option Addr} {len : Nat} {zs : List Int} (h : CodeIn w B a len zs) (cap : Nat) :
    Calls Tryz.prog 28 #[.slice a len cap] w fun e w' => (∃ pv ss, e = .returned pv ∧ BentP w' pv ss) ∧ Below w.heap.size w w' := by
  have HC := hide h
  clear h
  go_enter Tryz.func28, Tryz.ntmps28
  go_wp2_with fail
  refine (newDX HC.out cap).mono ?_
  rintro e w1 ⟨rfl, hd1, b1⟩
  have HD1 := hide hd1
  clear hd1
  go_wp2_with fail
  refine (l2Any_any HD1.out).mono ?_
  rintro e w2 ⟨⟨ss, n, g, c, hf, hn, rfl, ho⟩, hd2, hg2⟩
  have HP := hide (bentP_of ho hn ⟨by have := hf.1; omega, hf.2⟩)
  have HB := hide (b1.trans (grown_below hg2 (Nat.le_refl _) b1.size))
  clear ho hn hf hd2 hg2 HD1 b1
  go_wp2
  go_ret
  exact ⟨⟨_, _, rfl, HP.out⟩, HB.out⟩

set_option maxRecDepth 100000 in
set_option maxHeartbeats 4000000 in
theorem drawPropsOk_any {w : World} {B : Nat} {a : Option Addr} {len : Nat} {zs : List Int} (h : CodeIn w B a len zs) (cap : Nat) :
    Calls Tryz.prog 26 #[.slice a len cap] w fun e w' => (∃ v ps, e = .returned v ∧ BentL w' v ps) ∧ Below w.heap.size w w' := by
  have HC := hide h
  clear h
  go_enter Tryz.func26, Tryz.ntmps26
  go_wp2_with fail
  refine (newDX HC.out cap).mono ?_
  rintro e w1 ⟨rfl, hd1, b1⟩
  have hN1 : w.heap.size < w1.heap.size := hd1.lt
  have HD1 := hide hd1
  clear hd1
  go_wp2_with fail
  refine (l10Props_any HD1.out).mono ?_
  rintro e w2 ⟨⟨ps, g, n, c, hps, hn, rfl, ho⟩, hd2, hg2⟩
  have HF := hide (props_fewL hps)
  have HN := hide hn
  have HO2 := hide ho
  have HD2 := hide hd2
  have HG2 := hide hg2
  clear hps hn ho hd2 hg2 HD1
  go_wp2_with fail
  refine (l1OnceQ HD2.out 2 (by decide) (by decide)).mono ?_
  rintro e w3 ⟨⟨b, rfl⟩, hd3, hg3⟩
  have HO3 := hide (HO2.out.grown hg3 hN1)
  have HD3 := hide hd3
  have HG3 := hide (grown_trans HG2.out hg3)
  clear HO2 HD2 HG2 hd3 hg3
  cases b
  · have HL := hide (bentL_of HO3.out HN.out ⟨by have := HF.out.1; omega, HF.out.2⟩)
    have HB := hide (b1.trans (grown_below HG3.out (Nat.le_refl _) b1.size))
    clear HO3 HD3 HG3
    go_wp2
    go_ret
    exact ⟨⟨_, _, rfl, HL.out⟩, HB.out⟩
  · have Q0 := hide (strNewQ HD3.out 30 [⟨#[122]⟩, ⟨#[1]⟩, ⟨#[116, 119, 101, 110, 116, 121, 45, 111, 110, 101, 45, 98, 121, 116, 101, 115, 45, 116, 101, 120, 116]⟩] #[.string ⟨#[122]⟩, .string ⟨#[1]⟩, .string ⟨#[116, 119, 101, 110, 116, 121, 45, 111, 110, 101, 45, 98, 121, 116, 101, 115, 45, 116, 101, 120, 116]⟩] 9 3 w3.heap.size rfl rfl rfl (by decide) (by decide) (by decide))
    go_wp2_with fail
    refine Q0.out.mono ?_
    rintro e w4 ⟨⟨s1, rfl, hs1⟩, hd4, hg4⟩
    have HO4 := hide (HO3.out.grown hg4 hN1)
    have HD4 := hide hd4
    have HG4 := hide (grown_trans HG3.out hg4)
    clear HO3 HD3 HG3 hd4 hg4 Q0
    have Q1 := hide (strNewQ HD4.out 30 [⟨#[97]⟩, ⟨#[65]⟩] #[.string ⟨#[97]⟩, .string ⟨#[65]⟩] 9 2 w4.heap.size rfl rfl rfl (by decide) (by decide) (by decide))
    go_wp2_with fail
    refine Q1.out.mono ?_
    rintro e w5 ⟨⟨s2, rfl, hs2⟩, hd5, hg5⟩
    have HO5 := hide (HO4.out.grown hg5 hN1)
    have HD5 := hide hd5
    have HG5 := hide (grown_trans HG4.out hg5)
    clear HO4 HD4 HG4 hd5 hg5 Q1
    have Q2 := hide (strNewQ HD5.out 30 [⟨#[]⟩, ⟨#[116, 119, 101, 110, 116, 121, 45, 111, 110, 101, 45, 98, 121, 116, 101, 115, 45, 116, 101, 120, 116]⟩] #[.string ⟨#[]⟩, .string ⟨#[116, 119, 101, 110, 116, 121, 45, 111, 110, 101, 45, 98, 121, 116, 101, 115, 45, 116, 101, 120, 116]⟩] 9 2 w5.heap.size rfl rfl rfl (by decide) (by decide) (by decide))
    go_wp2_with fail
    refine Q2.out.mono ?_
    rintro e w6 ⟨⟨s3, rfl, hs3⟩, hd6, hg6⟩
    have HO6 := hide (HO5.out.grown hg6 hN1)
    have HD6 := hide hd6
    have HG6 := hide (grown_trans HG5.out hg6)
    clear HO5 HD5 HG5 hd6 hg6 Q2
    have hz6 : w1.heap.size ≤ w6.heap.size := HG6.out.size
    have bB := (Below.refl _ _).alloc (Nat.le_refl _) (o := Obj.cells #[.string s1, .string s2, .string s3] 88) (w := w6)
    have HOA := hide (show OwnG 88 3 ppCs (w6.alloc (Obj.cells #[.string s1, .string s2, .string s3] 88)) w1.heap.size (.slice (some ⟨g, 0, none⟩) n c) ps from HO6.out.next bB)
    have HB5 := hide (B3.made w6 (.string s1) (.string s2) (.string s3) 88)
    have HBA := hide (b1.trans ((grown_below HG6.out (Nat.le_refl _) b1.size).trans (bB.mono (by omega))))
    clear bB HO6 HD6 HG6
    go_wp2_with (at_builtin; refine wp_append_gen 42 Tryz.underlying42 (.agg #[.string ByteArray.empty, .string ByteArray.empty, .string ByteArray.empty]) 48 info_prop rfl (by decide) (by decide) rfl _ _ rfl w1.heap.size _ ps rfl HOA.out (fun _ => rfl) _ ((s1, s2, s3) : Pp) rfl (fun i v hv => by
      match i, hv with
      | 0, hv => cases hv; exact HB5.out.c0
      | 1, hv => cases hv; exact HB5.out.c1
      | 2, hv => cases hv; exact HB5.out.c2
      | i + 3, hv => simp [ppCs] at hv) (fun v hv => by simp only [ppCs, List.mem_cons, List.not_mem_nil, or_false] at hv; rcases hv with rfl | rfl | rfl <;> rfl) (by have := HF.out.1; omega) (by simp; omega) ?_)
    intro g9 n9 c9 w9 hn9 hO9 hb9 hg9 hat
    have HL := hide (bentL_of (ps := ps ++ [(s1, s2, s3)]) hO9 (by simp [hn9]) ⟨by rw [List.length_append]; have := HF.out.1; simp; omega, fun p hp => by
      rcases List.mem_append.1 hp with h9 | h9
      · exact HF.out.2 p h9
      · have e9 : p = (s1, s2, s3) := by simpa using h9
        subst e9
        exact ⟨by dsimp only; omega, by dsimp only; omega, by dsimp only; omega⟩⟩)
    have HB := hide (HBA.out.trans (hb9.mono b1.size))
    clear hO9 hn9 hb9 hg9 hat HOA HB5 HBA
    go_wp2
    go_ret
    exact ⟨⟨_, _, rfl, HL.out⟩, HB.out⟩
end Go.Proofs.YtifnolomekhmfaaGreat
namespace Go.Proofs.YtifnolomekhmfaaGreat
open Go.RowKit
set_option linter.unusedVariables false

set_option maxHeartbeats 400000 in
theorem sameTexts_any (a b : Option Addr) (ss tt : List ByteArray) (cap cap' B C : Nat) (w : World) (h : Strs w B a ss) (h' : Strs w C b tt) (hl : ss.length ≤ maxLen) (hl' : tt.length ≤ maxLen) :
    Calls Tryz.prog 44 #[.slice a ss.length cap, .slice b tt.length cap'] w fun e w' => e = .returned (.bool (sameL ss tt)) ∧ ∀ D, Below D w w' := by
  unfold maxLen at hl hl'
  by_cases hlen : ss.length = tt.length
  · have HL : Hid (ss.length = tt.length) := hlen
    go_enter Tryz.func44, Tryz.ntmps44
    rw [← hlen]
    clear hlen
    go_wp2
    go_loopw [5] (fun i wr => ∃ k n : Nat, k ≤ ss.length ∧ i = .int .i64 k ∧ ss.take k = tt.take k ∧ wr = w.drewN n) (fun i _ => ss.length - (intOf i).toNat)
    case atStart => exact ⟨0, 0, Nat.zero_le _, rfl, rfl, rfl⟩
    case round =>
      obtain ⟨k, n, hk, rfl, ht, rfl⟩ := hrel
      have HT : Hid (ss.take k = tt.take k) := ht
      clear ht
      by_cases hlt : k < ss.length
      · have hlt' : k < tt.length := by have := HL.out; omega
        obtain ⟨b1, o1, rfl, hb1, hc1⟩ := h (by omega)
        obtain ⟨b2, o2, rfl, hb2, hc2⟩ := h' (by have := HL.out; omega)
        have hcx := hc1 k hlt
        have hcy := hc2 k hlt'
        go_wp2
        go_quiet (fail)
        go_wp2
        · rename_i hne
          have hne' : ¬ ss[k] = tt[k] := fun e => by rw [e] at hne; simp at hne
          go_ret
          exact ⟨ret_bool (sameL_not k hlt hlt' hne').symm, fun D => below_drewN (below_drewN (Below.refl _ _) _) _⟩
        · rename_i he
          have he' : ss[k] = tt[k] := str_inj (by simpa using he)
          go_roundw
          case rel => exact ⟨k + 1, n + nq, by omega, by go_num, take_same k hlt hlt' HT.out he', by simp⟩
          case measure => simp [intOf]; omega
      · go_wp2
        go_ret
        exact ⟨ret_bool (sameL_all HL.out k hlt HT.out).symm, fun D => below_drewN (Below.refl _ _) _⟩
  · have HS := sameL_len hlen
    go_enter Tryz.func44, Tryz.ntmps44
    go_wp2
    go_ret
    exact ⟨ret_bool HS.symm, fun D => Below.refl _ _⟩
end Go.Proofs.YtifnolomekhmfaaGreat
namespace Go.Proofs.YtifnolomekhmfaaGreat
open Go.RowKit M
set_option linter.unusedVariables false

set_option maxHeartbeats 1000000 in
theorem sameProps_same (a b : Option Addr) (ps : List Pp) (cap cap' B C : Nat) (w : World) (h : Pps w B a ps) (h' : Pps w C b ps) (hl : ps.length ≤ maxLen) :
    Calls Tryz.prog 102 #[.slice a ps.length cap, .slice b ps.length cap'] w fun e w' => e = .returned (.bool true) ∧ ∀ D, Below D w w' := by
  unfold maxLen at hl
  go_enter Tryz.func102, Tryz.ntmps102
  go_wp2
  go_loopw [5] (fun i wr => ∃ k n : Nat, k ≤ ps.length ∧ i = .int .i64 k ∧ wr = w.drewN n) (fun i _ => ps.length - (intOf i).toNat)
  case atStart => exact ⟨0, 0, Nat.zero_le _, rfl, rfl⟩
  case round =>
    obtain ⟨k, n, hk, rfl, rfl⟩ := hrel
    by_cases hlt : k < ps.length
    · obtain ⟨b1, o1, rfl, hb1, hc1⟩ := h (by omega)
      obtain ⟨b2, o2, rfl, hb2, hc2⟩ := h' (by omega)
      obtain ⟨hx0, hx1, hx2⟩ := hc1 k hlt
      obtain ⟨hy0, hy1, hy2⟩ := hc2 k hlt
      clear hc1 hc2
      go_wp2
      go_quiet (fail)
      go_wp2
      go_roundw
      case rel => exact ⟨k + 1, n + nq, by omega, by go_num, by simp⟩
      case measure => simp [intOf]; omega
    · go_wp2
      go_ret
      exact ⟨rfl, fun D => below_drewN (Below.refl _ _) _⟩
end Go.Proofs.YtifnolomekhmfaaGreat
namespace Go.Proofs.YtifnolomekhmfaaGreat
open Go.RowKit M
set_option linter.unusedVariables false

theorem keep10S {W w1 : World} {b1 b2 o1 o2 : Nat} {r s : Rs} {pa : Option Addr} {pc : Nat} {qa : Option Addr} {qc : Nat} {pa' : Option Addr} {pc' : Nat} {qa' : Option Addr} {qc' : Nat} (hb : Below W.heap.size W w1) (h1 : b1 < W.heap.size) (h2 : b2 < W.heap.size)
    (h : RsAt W b1 o1 r pa pc qa qc ∧ RsAt W b2 o2 s pa' pc' qa' qc') : RsAt w1 b1 o1 r pa pc qa qc ∧ RsAt w1 b2 o2 s pa' pc' qa' qc' :=
  ⟨h.1.of (fun o' => (bcellP hb).1 b1 o' h1), h.2.of (fun o' => (bcellP hb).1 b2 o' h2)⟩

set_option maxRecDepth 100000 in
set_option maxHeartbeats 2000000 in
theorem sameRes_same (r : Rs) (pa : Option Addr) (pc : Nat) (qa : Option Addr) (qc : Nat) (pa' : Option Addr) (pc' : Nat) (qa' : Option Addr) (qc' : Nat) (B C : Nat) (w : World) (h : RsIn w B r pa pc qa qc) (h' : RsIn w C r pa' pc' qa' qc') (hB : B ≤ w.heap.size) (hC : C ≤ w.heap.size) :
    Calls Tryz.prog 51 #[.agg #[.slice pa r.pa.length pc, .bool r.co, .string r.bo, .int .i64 r.ve, .slice qa r.ps.length qc], .agg #[.slice pa' r.pa.length pc', .bool r.co, .string r.bo, .int .i64 r.ve, .slice qa' r.ps.length qc']] w fun e w' => e = .returned (.bool true) ∧ Below w.heap.size w w' := by
  have l1 : r.pa.length ≤ maxLen := Nat.le_trans h.pl h.pm
  have l2 : r.ps.length ≤ maxLen := Nat.le_trans h.ql h.qm
  have HB := hide (((Below.refl w.heap.size w).alloc (Nat.le_refl _) (Obj.cells #[.slice pa r.pa.length pc, .bool r.co, .string r.bo, .int .i64 r.ve, .slice qa r.ps.length qc] 62)).alloc (by simp) (Obj.cells #[.slice pa' r.pa.length pc', .bool r.co, .string r.bo, .int .i64 r.ve, .slice qa' r.ps.length qc'] 62))
  have HS1 := hide (fun W (hW : Below w.heap.size w W) => sameTexts_any pa pa' r.pa r.pa pc pc' B C W (h.ph.below hW hB) (h'.ph.below hW hC) l1 l1)
  have HS2 := hide (fun W (hW : Below w.heap.size w W) => sameProps_same qa qa' r.ps qc qc' B C W (h.qh.below hW hB) (h'.qh.below hW hC) l2)
  have HC1 := hide (show let W := ((w.alloc (Obj.cells #[.slice pa r.pa.length pc, .bool r.co, .string r.bo, .int .i64 r.ve, .slice qa r.ps.length qc] 62)).alloc (Obj.cells #[.slice pa' r.pa.length pc', .bool r.co, .string r.bo, .int .i64 r.ve, .slice qa' r.ps.length qc'] 62)); RsAt W w.heap.size 0 r pa pc qa qc ∧ RsAt W (w.heap.size + 1) 0 r pa' pc' qa' qc' by
    refine ⟨⟨?_, ?_, ?_, ?_, ?_⟩, ⟨?_, ?_, ?_, ?_, ?_⟩⟩ <;> simp [go_sem])
  have HQ1 := hide (HS1.out _ HB.out)
  simp only [sameL_refl] at HQ1
  have e1 : (r.co == r.co) = true := beq_self_eq_true _
  have e2 : (r.bo.toList == r.bo.toList) = true := beq_self_eq_true _
  have e3 : (r.ve == r.ve) = true := beq_self_eq_true _
  go_enter Tryz.func51, Tryz.ntmps51
  go_wp2_with fail
  refine HQ1.out.mono ?_
  rintro e w1 ⟨rfl, b1'⟩
  have b1 := b1' ((w.alloc (Obj.cells #[.slice pa r.pa.length pc, .bool r.co, .string r.bo, .int .i64 r.ve, .slice qa r.ps.length qc] 62)).alloc (Obj.cells #[.slice pa' r.pa.length pc', .bool r.co, .string r.bo, .int .i64 r.ve, .slice qa' r.ps.length qc'] 62)).heap.size
  have c1 := HB.out.trans (b1.mono HB.out.size)
  obtain ⟨hx, hy⟩ := HC1.out
  have hx' := hx.of (w' := w1) (fun o' => (bcellP b1).1 _ o' (by simp; omega))
  have hy' := hy.of (w' := w1) (fun o' => (bcellP b1).1 _ o' (by simp))
  obtain ⟨hx0, hx1, hx2, hx3, hx4⟩ := hx'
  obtain ⟨hy0, hy1, hy2, hy3, hy4⟩ := hy'
  simp only [Nat.zero_add] at hx0 hx1 hx2 hx3 hx4 hy0 hy1 hy2 hy3 hy4
  have HQ2 := hide (HS2.out w1 c1)
  clear hx hy b1' b1 HC1
  go_wp2_with fail
  refine HQ2.out.mono ?_
  rintro e w2 ⟨rfl, b2'⟩
  have c2 := c1.trans (b2' w.heap.size)
  go_wp2
  go_ret
  exact ⟨rfl, c2⟩

set_option maxRecDepth 100000 in
set_option maxHeartbeats 2000000 in
theorem sameTree_same (a b : Option Addr) (ss : List Rs) (cap cap' B C : Nat) (w : World) (h : Rss w B a ss) (h' : Rss w C b ss) (hB : B ≤ w.heap.size) (hC : C ≤ w.heap.size) (hl : ss.length ≤ maxLen) :
    Calls Tryz.prog 21 #[.slice a ss.length cap, .slice b ss.length cap'] w fun e w' => e = .returned (.bool true) ∧ Below w.heap.size w w' := by
  unfold maxLen at hl
  go_enter Tryz.func21, Tryz.ntmps21
  go_wp2
  go_loopw [5] (fun i wr => ∃ k : Nat, k ≤ ss.length ∧ i = .int .i64 k ∧ Below w.heap.size w wr) (fun i _ => ss.length - (intOf i).toNat)
  case atStart => exact ⟨0, Nat.zero_le _, rfl, Below.refl _ _⟩
  case round =>
    obtain ⟨k, hk, rfl, hbe⟩ := hrel
    by_cases hlt : k < ss.length
    · obtain ⟨b1, o1, rfl, hb1, hc1⟩ := (h.below hbe hB) (by omega)
      obtain ⟨b2, o2, rfl, hb2, hc2⟩ := (h'.below hbe hC) (by omega)
      obtain ⟨pa, pc, qa, qc, ha1, hi1⟩ := hc1 k hlt
      obtain ⟨pa', pc', qa', qc', ha2, hi2⟩ := hc2 k hlt
      clear hc1 hc2
      have hl1 : b1 < wr.drew.heap.size := by have := hbe.size; show b1 < wr.heap.size; omega
      have hl2 : b2 < wr.drew.heap.size := by have := hbe.size; show b2 < wr.heap.size; omega
      have hbd : Below w.heap.size w wr.drew := below_drewP hbe
      have hq := sameRes_same ss[k] pa pc qa qc pa' pc' qa' qc' B C wr.drew hi1.drew hi2.drew (Nat.le_trans hB hbd.size) (Nat.le_trans hC hbd.size)
      have HX := hide (And.intro (ha1.of (w' := wr.drew) (fun _ => rfl)) (ha2.of (w' := wr.drew) (fun _ => rfl)))
      obtain ⟨hx0, hx1, hx2, hx3, hx4⟩ := ha1
      obtain ⟨hy0, hy1, hy2, hy3, hy4⟩ := ha2
      clear hi1 hi2
      go_wp2
      go_region_held3 (fun W => (W.cell? ⟨b1, o1 + k * 5, none⟩ = some (.slice pa ss[k].pa.length pc) ∧ W.cell? ⟨b1, o1 + k * 5 + 1, none⟩ = some (.bool ss[k].co) ∧ W.cell? ⟨b1, o1 + k * 5 + 2, none⟩ = some (.string ss[k].bo) ∧ W.cell? ⟨b1, o1 + k * 5 + 3, none⟩ = some (.int .i64 ss[k].ve) ∧ W.cell? ⟨b1, o1 + k * 5 + 4, none⟩ = some (.slice qa ss[k].ps.length qc)) ∧ (W.cell? ⟨b2, o2 + k * 5, none⟩ = some (.slice pa' ss[k].pa.length pc') ∧ W.cell? ⟨b2, o2 + k * 5 + 1, none⟩ = some (.bool ss[k].co) ∧ W.cell? ⟨b2, o2 + k * 5 + 2, none⟩ = some (.string ss[k].bo) ∧ W.cell? ⟨b2, o2 + k * 5 + 3, none⟩ = some (.int .i64 ss[k].ve) ∧ W.cell? ⟨b2, o2 + k * 5 + 4, none⟩ = some (.slice qa' ss[k].ps.length qc'))) (first | exact HX.out | exact HX2.out) ((go_at_call 51; refine hq.mono ?_; rintro e w1 ⟨rfl, hb3⟩; have HX2 := hide (keep10S hb3 hl1 hl2 HX.out)))
      all_goals
        have c1 := hbd.trans (hb3.mono hbd.size)
        clear hq hb3
        go_wp2
        go_roundw
        case rel => exact ⟨k + 1, by omega, by go_num, c1⟩
        case measure => simp [intOf]; omega
    · go_wp2
      go_ret
      exact ⟨rfl, hbe⟩
end Go.Proofs.YtifnolomekhmfaaGreat
namespace Go.Proofs.YtifnolomekhmfaaGreat
open Go.RowKit
set_option linter.unusedVariables false

/-- What a slice of lists of texts holds, in blocks below B. -/
def Sss (w : World) (B : Nat) (a : Option Addr) (ls : List (List ByteArray)) : Prop :=
  0 < ls.length → ∃ b o, a = some ⟨b, o, none⟩ ∧ b < B ∧ ∀ j (hj : j < ls.length), ∃ pa pc, w.cell? ⟨b, o + j, none⟩ = some (.slice pa ls[j].length pc) ∧ Strs w B pa ls[j]
theorem Sss.of {w w' : World} {B : Nat} {a : Option Addr} {ls : List (List ByteArray)} (h : Sss w B a ls) (e : ∀ b o, b < B → w'.cell? ⟨b, o, none⟩ = w.cell? ⟨b, o, none⟩) : Sss w' B a ls := fun h0 => by
  obtain ⟨b, o, ea, hb, hc⟩ := h h0
  refine ⟨b, o, ea, hb, fun j hj => ?_⟩
  obtain ⟨pa, pc, h1, h2⟩ := hc j hj
  refine ⟨pa, pc, by rw [e _ _ hb]; exact h1, fun h0' => ?_⟩
  obtain ⟨b', o', ea', hb', hc'⟩ := h2 h0'
  exact ⟨b', o', ea', hb', fun i hi => (e _ _ hb').trans (hc' i hi)⟩
theorem Sss.below {w w' : World} {B C : Nat} {a : Option Addr} {ls : List (List ByteArray)} (h : Sss w B a ls) (hb : Below C w w') (hB : B ≤ C) : Sss w' B a ls :=
  h.of (fun b o hbB => hb.cell (p := ⟨b, o, none⟩) (Nat.lt_of_lt_of_le hbB hB))
theorem Sss.drew {w : World} {B : Nat} {a : Option Addr} {ls : List (List ByteArray)} (h : Sss w B a ls) : Sss w.drew B a ls := h.of (fun _ _ _ => rfl)

/-- A row of lists of texts that one call made: each list in a block of its own; all from lo on and below hi. -/
structure OwnSS (w : World) (lo hi g : Nat) (ls : List (List ByteArray)) (pb : Nat → Nat) : Prop where
  gl : lo ≤ g
  gh : g < hi
  gs : g < w.heap.size
  cl : ∀ j (hj : j < ls.length), ∃ pc, w.cell? ⟨g, j, none⟩ = some (.slice (some ⟨pb j, 0, none⟩) ls[j].length pc)
  rp : ∀ j (hj : j < ls.length), RowS w (pb j) ls[j]
  bnd : ∀ j, j < ls.length → lo ≤ pb j ∧ pb j < hi ∧ pb j ≠ g
  ord : ∀ i j, i < j → j < ls.length → pb i < pb j
theorem OwnSS.of {w w' : World} {lo hi g : Nat} {ls : List (List ByteArray)} {pb : Nat → Nat} (h : OwnSS w lo hi g ls pb) (hz : w.heap.size ≤ w'.heap.size) (e : ∀ b o, lo ≤ b → b < hi → b < w.heap.size → w'.cell? ⟨b, o, none⟩ = w.cell? ⟨b, o, none⟩) (f : ∀ b o, lo ≤ b → b < hi → b < w.heap.size → w'.frozen? ⟨b, o, none⟩ = w.frozen? ⟨b, o, none⟩) : OwnSS w' lo hi g ls pb := by
  refine ⟨h.gl, h.gh, Nat.lt_of_lt_of_le h.gs hz, fun j hj => ?_, fun j hj => ?_, h.bnd, h.ord⟩
  · obtain ⟨pc, hc⟩ := h.cl j hj
    exact ⟨pc, by rw [e g j h.gl h.gh h.gs]; exact hc⟩
  · obtain ⟨b1, b2, _⟩ := h.bnd j hj
    have hp := (h.rp j hj).1
    refine ⟨Nat.lt_of_lt_of_le hp hz, fun i hi => ?_⟩
    rw [e _ _ b1 b2 hp, f _ _ b1 b2 hp]
    exact (h.rp j hj).2 i hi
theorem OwnSS.below {w w' : World} {lo hi g : Nat} {ls : List (List ByteArray)} {pb : Nat → Nat} (h : OwnSS w lo hi g ls pb) (hb : Below w.heap.size w w') : OwnSS w' lo hi g ls pb :=
  h.of hb.size (fun b o _ _ hz => hb.cell (p := ⟨b, o, none⟩) hz) (fun b o _ _ hz => hb.frozen (p := ⟨b, o, none⟩) hz)
theorem OwnSS.sss {w : World} {lo hi g C : Nat} {ls : List (List ByteArray)} {pb : Nat → Nat} (h : OwnSS w lo hi g ls pb) (hC : hi ≤ C) : Sss w C (some ⟨g, 0, none⟩) ls := fun _ => by
  refine ⟨g, 0, rfl, Nat.lt_of_lt_of_le h.gh hC, fun j hj => ?_⟩
  obtain ⟨pc, hc⟩ := h.cl j hj
  exact ⟨_, pc, by rw [Nat.zero_add]; exact hc, (h.rp j hj).strs' (by have := (h.bnd j hj).2.1; omega)⟩

/-- One list of a growing row: its texts, its block, its room. -/
structure SsT where
  l : List ByteArray
  p : Nat
  pc : Nat
def ssCells (ts : List SsT) : List Value := ts.map fun t => Value.slice (some ⟨t.p, 0, none⟩) t.l.length t.pc
theorem ssCells_length (ts : List SsT) : (ssCells ts).length = ts.length := by simp [ssCells]

/-- A growing row: it is the call's own from B on, and so are its lists. -/
structure GrowS (w : World) (B : Nat) (v : Value) (ts : List SsT) (lo : Nat) : Prop where
  own : w.ownsRow B 25 1 v ts.length (ssCells ts)
  blk : ∃ g cap, v = .slice (some ⟨g, 0, none⟩) ts.length cap ∧ g < lo
  top : lo ≤ w.heap.size
  el : ∀ j (hj : j < ts.length), B ≤ ts[j].p ∧ ts[j].p < lo ∧ RowS w ts[j].p ts[j].l ∧ some ts[j].p ≠ v.ownBlock
  ord : ∀ i j (hij : i < j) (hj : j < ts.length), (ts[i]'(by omega)).p < ts[j].p

theorem info_strs : (Tryz.prog.info? 25).map (fun i => (i.zero, i.size, i.bytes)) = some (some (.slice none 0 0), 1, 24) := by kernel_rfl

theorem GrowS.made (w : World) (B : Nat) (hB : B ≤ w.heap.size) : GrowS (w.alloc (Obj.cells #[] 25)) B (.slice (some ⟨w.heap.size, 0, none⟩) 0 0) [] (w.heap.size + 1) :=
  ⟨⟨rfl, .inr ⟨w.heap.size, 0, #[], rfl, hB, heap_alloc_new w _, Nat.le_refl _, Nat.zero_le _, rfl, rfl⟩⟩, ⟨_, _, rfl, Nat.lt_succ_self _⟩, by simp, fun j hj => absurd hj (Nat.not_lt_zero _), fun i j _ hj => absurd hj (Nat.not_lt_zero _)⟩
theorem GrowS.next {w w' : World} {B lo : Nat} {v : Value} {ts : List SsT} (g : GrowS w B v ts lo) (hb : Below w.heap.size w w') : GrowS w' B v ts lo := by
  refine ⟨⟨g.own.1, ?_⟩, g.blk, Nat.le_trans g.top hb.size, fun j hj => ?_, g.ord⟩
  · rcases g.own.2 with h | ⟨g, cap, cur, e, hB, hh, hr⟩
    · exact .inl h
    · exact .inr ⟨g, cap, cur, e, hB, (hb.block g (Array.getElem?_eq_some_iff.1 hh).1).trans hh, hr⟩
  · obtain ⟨h1, h2, h3, h4⟩ := g.el j hj
    exact ⟨h1, h2, h3.below hb, h4⟩
theorem GrowS.done {w : World} {B lo : Nat} {v : Value} {ts : List SsT} (g : GrowS w B v ts lo) : ∃ b cap, v = .slice (some ⟨b, 0, none⟩) ts.length cap ∧ OwnSS w B w.heap.size b (ts.map (·.l)) (fun j => if hj : j < ts.length then ts[j].p else 0) := by
  obtain ⟨b, cap, rfl, hb⟩ := g.blk
  have hlt := g.own.lt b rfl
  have ht := g.top
  refine ⟨b, cap, rfl, hlt.1, hlt.2, hlt.2, fun j hj => ?_, fun j hj => ?_, fun j hj => ?_, fun i j hij hj => ?_⟩
  · have hj' : j < ts.length := by simpa using hj
    refine ⟨ts[j].pc, ?_⟩
    rw [g.own.cellAt j (by omega)]
    simp [ssCells, hj']
  · have hj' : j < ts.length := by simpa using hj
    simp only [List.getElem_map, hj', dif_pos]
    exact (g.el j hj').2.2.1
  · have hj' : j < ts.length := by simpa using hj
    obtain ⟨h1, h2, h3, h4⟩ := g.el j hj'
    simp only [hj', dif_pos]
    exact ⟨h1, by omega, fun e => h4 (by rw [e]; rfl)⟩
  · have hj' : j < ts.length := by simpa using hj
    simp only [hj', show i < ts.length by omega, dif_pos]
    exact g.ord i j hij hj'

/-- 'l = append(l, x)': x a list in a new block. -/
theorem wp_append_ss {w : World} {ops : Array Oper} {rest : List Oper} {o : Oper} {a : Act} {Q : Exit → Act → World → Prop} (hgd : o.guard = none) (s x : Operand)
    (ho : o.op = .call { callee := .builtin .append, args := #[s, x], argTypes := #[51, 51] })
    (B lo : Nat) (v : Value) (ts : List SsT) (hs : a.eval s = v) (hown : GrowS w B v ts lo)
    (N : Nat) (t : SsT) (hx : a.eval x = .slice (some ⟨N, 0, none⟩) 1 1) (hc0 : w.cell? ⟨N, 0, none⟩ = some (.slice (some ⟨t.p, 0, none⟩) t.l.length t.pc))
    (hlen : ts.length + 1 ≤ 1000000000) (hBl : B ≤ lo) (hp : lo ≤ t.p) (hr : RowS w t.p t.l)
    (h : ∀ v' w', GrowS w' B v' (ts ++ [t]) w'.heap.size → Below B w w' → wpList Tryz.prog ops Q rest (a.put o.dst v') w') : wpList Tryz.prog ops Q (o :: rest) a w := by
  obtain ⟨i0, hi, hz0, hz1, hz2⟩ := info_parts info_strs
  have hlt := World.ownsRow.lt hown.own
  obtain ⟨g0, cap0, hv0, hg0⟩ := hown.blk
  have l2 := hown.top
  refine wpList_append_own_at w hgd s x 51 ho B 25 i0 _ 1 24 Tryz.underlying51 hi hz0 hz1 hz2 rfl (by decide) v ts.length _ hs hown.own ⟨N, 0, none⟩ 1 1 [.slice (some ⟨t.p, 0, none⟩) t.l.length t.pc] hx rfl ?_ ?_ ?_ ?_ (by omega) ?_
  · intro j u hj
    have e : ∀ k, (⟨N, 0, none⟩ : Addr).add k = ⟨N, k, none⟩ := fun k => by unfold Addr.add; split <;> simp_all
    rw [e]
    match j, hj with
    | 0, hj => simp at hj; subst hj; exact hc0
  · intro u hu
    simp only [List.mem_cons, List.not_mem_nil, or_false] at hu
    subst hu; rfl
  · unfold maxLen; omega
  · omega
  · intro v' w' ho' hg _ hat
    obtain ⟨g, cap, rfl⟩ : ∃ g cap, v' = .slice (some ⟨g, 0, none⟩) (ts.length + 1) cap := by
      rcases ho'.2 with ⟨_, h0⟩ | ⟨g, cap, cur, hv, _⟩
      · omega
      · exact ⟨g, cap, hv⟩
    subst hv0
    have hat' : g = g0 ∨ g = w.heap.size := by
      rcases hat with e | e
      · exact .inl (Option.some.inj e)
      · exact .inr (Option.some.inj e)
    have hkeep : ∀ b l, RowS w b l → b ≠ g0 → RowS w' b l := fun b l hb hne => by
      have e := hg.block b hb.1 (fun e => hne (Option.some.inj e))
      refine ⟨Nat.lt_of_lt_of_le hb.1 hg.size, fun j hj => ?_⟩
      simp only [World.cell?, World.frozen?, e]
      exact hb.2 j hj
    have hgw : g < w'.heap.size := by
      have ho2 : w'.ownsRow B 25 1 (.slice (some ⟨g, 0, none⟩) (ts.length + 1) cap) (ts.length + 1) (ssCells ts ++ [.slice (some ⟨t.p, 0, none⟩) t.l.length t.pc]) := ho'
      exact (ho2.lt g rfl).2
    have hz := hg.size
    have hl' : (ts ++ [t]).length = ts.length + 1 := by simp
    refine h _ w' ⟨?_, ⟨g, cap, by rw [hl'], hgw⟩, Nat.le_refl _, fun j hj => ?_, fun i j hij hj => ?_⟩ ⟨hg.os, hg.tape, hg.output, hg.size, fun k hk => hg.block k (by omega) (fun e => by have := (hlt k e.symm).1; omega)⟩
    · have e : ssCells (ts ++ [t]) = ssCells ts ++ [.slice (some ⟨t.p, 0, none⟩) t.l.length t.pc] := by simp [ssCells]
      rw [e, hl']
      exact ho'
    · by_cases e : j < ts.length
      · rw [List.getElem_append_left e]
        obtain ⟨h1, h2, h3, h4⟩ := hown.el j e
        have hne : ts[j].p ≠ g0 := fun e' => h4 (by rw [e']; rfl)
        refine ⟨h1, by omega, hkeep _ _ h3 hne, fun e' => ?_⟩
        have : ts[j].p = g := Option.some.inj e'
        have := h3.1
        rcases hat' with e2 | e2 <;> omega
      · have ej : j = ts.length := by omega
        subst ej
        rw [List.getElem_append_right (Nat.le_refl _)]
        simp only [Nat.sub_self, List.getElem_cons_zero]
        have hr1 := hr.1
        refine ⟨by omega, by omega, hkeep _ _ hr (by omega), fun e' => ?_⟩
        have : t.p = g := Option.some.inj e'
        rcases hat' with e2 | e2 <;> omega
    · by_cases e : j < ts.length
      · rw [List.getElem_append_left e, List.getElem_append_left (by omega)]
        exact hown.ord i j hij e
      · have ej : j = ts.length := by omega
        subst ej
        rw [List.getElem_append_right (Nat.le_refl _), List.getElem_append_left hij]
        simp only [Nat.sub_self, List.getElem_cons_zero]
        have := (hown.el i hij).2.1
        omega
end Go.Proofs.YtifnolomekhmfaaGreat


namespace Go.Proofs.YtifnolomekhmfaaGreat
open Go.RowKit M
set_option linter.unusedVariables false

set_option maxRecDepth 100000 in
set_option maxHeartbeats 1000000 in
theorem samePaths_same (a b : Option Addr) (ls : List (List ByteArray)) (cap cap' B C : Nat) (w : World) (h : Sss w B a ls) (h' : Sss w C b ls) (hl : ls.length ≤ maxLen) (hll : ∀ l ∈ ls, l.length ≤ maxLen) :
    Calls Tryz.prog 35 #[.slice a ls.length cap, .slice b ls.length cap'] w fun e w' => e = .returned (.bool true) ∧ ∀ D, Below D w w' := by
  unfold maxLen at hl
  go_enter Tryz.func35, Tryz.ntmps35
  go_wp2
  go_loopw [5] (fun i wr => ∃ k : Nat, k ≤ ls.length ∧ i = .int .i64 k ∧ ∀ D, Below D w wr) (fun i _ => ls.length - (intOf i).toNat)
  case atStart => exact ⟨0, Nat.zero_le _, rfl, fun D => Below.refl _ _⟩
  case round =>
    obtain ⟨k, hk, rfl, hbe⟩ := hrel
    by_cases hlt : k < ls.length
    · obtain ⟨b1, o1, rfl, hb1, hc1⟩ := h (by omega)
      obtain ⟨b2, o2, rfl, hb2, hc2⟩ := h' (by omega)
      obtain ⟨a1, k1, d1, y1⟩ := hc1 k hlt
      obtain ⟨a2, k2, d2, y2⟩ := hc2 k hlt
      have hkl := hll _ (List.getElem_mem hlt)
      have hcx := ((hbe (b1 + 1)).cell (p := ⟨b1, o1 + k, none⟩) (Nat.lt_succ_self _)).trans d1
      have hcy := ((hbe (b2 + 1)).cell (p := ⟨b2, o2 + k, none⟩) (Nat.lt_succ_self _)).trans d2
      have HE := hide (fun (W : World) (hW : ∀ D, Below D wr W) => sameTexts_any a1 a2 ls[k] ls[k] k1 k2 B C W (y1.below ((hbe B).trans (hW B)) (Nat.le_refl _)) (y2.below ((hbe C).trans (hW C)) (Nat.le_refl _)) hkl hkl)
      rw [sameL_refl] at HE
      have HBe := hide hbe
      clear hc1 hc2 d1 d2 y1 y2 hkl hbe
      go_wp2_with fail
      go_region_held3 (fun W => W.cell? ⟨b1, o1 + k, none⟩ = some (.slice a1 (ls[k]).length k1) ∧ W.cell? ⟨b2, o2 + k, none⟩ = some (.slice a2 (ls[k]).length k2)) (first | exact ⟨hcx, hcy⟩ | exact ⟨((bq (b1 + 1)).cell (p := ⟨b1, o1 + k, none⟩) (Nat.lt_succ_self _)).trans hcx, ((bq (b2 + 1)).cell (p := ⟨b2, o2 + k, none⟩) (Nat.lt_succ_self _)).trans hcy⟩) ((go_at_call 44; refine (HE.out wr.drew (fun D => (Below.refl D wr).drew)).mono ?_; rintro e w1 ⟨rfl, bq⟩))
      all_goals
        go_wp2
        go_roundw
        case rel => exact ⟨k + 1, by omega, by go_num, fun D => (HBe.out D).trans ((Below.refl D wr).drew.trans (bq D))⟩
        case measure => simp [intOf]; omega
    · go_wp2
      go_ret
      exact ⟨rfl, hbe⟩
end Go.Proofs.YtifnolomekhmfaaGreat
namespace Go.Proofs.YtifnolomekhmfaaGreat
open Go.RowKit
set_option linter.unusedVariables false

set_option maxHeartbeats 400000 in
theorem slicesEqual_any (a b : Option Addr) (ss tt : List ByteArray) (cap cap' B C : Nat) (w : World) (h : Strs w B a ss) (h' : Strs w C b tt) (hl : ss.length ≤ maxLen) (hl' : tt.length ≤ maxLen) :
    Calls Tryz.prog 101 #[.slice a ss.length cap, .slice b tt.length cap'] w fun e w' => e = .returned (.bool (sameL ss tt)) ∧ ∀ D, Below D w w' := by
  unfold maxLen at hl hl'
  by_cases hlen : ss.length = tt.length
  · have HL : Hid (ss.length = tt.length) := hlen
    go_enter Tryz.func101, Tryz.ntmps101
    rw [← hlen]
    clear hlen
    go_wp2
    go_loopw [13] (fun i wr => ∃ k n : Nat, k ≤ ss.length ∧ i = .int .i64 k ∧ ss.take k = tt.take k ∧ wr = w.drewN n) (fun i _ => ss.length - (intOf i).toNat)
    case atStart => exact ⟨0, 0, Nat.zero_le _, rfl, rfl, rfl⟩
    case round =>
      obtain ⟨k, n, hk, rfl, ht, rfl⟩ := hrel
      have HT : Hid (ss.take k = tt.take k) := ht
      clear ht
      by_cases hlt : k < ss.length
      · have hlt' : k < tt.length := by have := HL.out; omega
        obtain ⟨b1, o1, rfl, hb1, hc1⟩ := h (by omega)
        obtain ⟨b2, o2, rfl, hb2, hc2⟩ := h' (by have := HL.out; omega)
        have hcx := hc1 k hlt
        have hcy := hc2 k hlt'
        go_wp2
        go_quiet (fail)
        go_wp2
        · rename_i hne
          have hne' : ¬ ss[k] = tt[k] := fun e => by rw [e] at hne; simp at hne
          go_ret
          exact ⟨ret_bool (sameL_not k hlt hlt' hne').symm, fun D => below_drewN (below_drewN (Below.refl _ _) _) _⟩
        · rename_i he
          have he' : ss[k] = tt[k] := str_inj (by simpa using he)
          go_roundw
          case rel => exact ⟨k + 1, n + nq, by omega, by go_num, take_same k hlt hlt' HT.out he', by simp⟩
          case measure => simp [intOf]; omega
      · go_wp2
        go_ret
        exact ⟨ret_bool (sameL_all HL.out k hlt HT.out).symm, fun D => below_drewN (Below.refl _ _) _⟩
  · have HS := sameL_len hlen
    go_enter Tryz.func101, Tryz.ntmps101
    go_wp2
    go_ret
    exact ⟨ret_bool HS.symm, fun D => Below.refl _ _⟩
end Go.Proofs.YtifnolomekhmfaaGreat
namespace Go.Proofs.YtifnolomekhmfaaGreat
open Go.RowKit
set_option linter.unusedVariables false

set_option maxHeartbeats 400000 in
theorem samePath_any (a b : Option Addr) (ss tt : List ByteArray) (cap cap' B C : Nat) (w : World) (h : Strs w B a ss) (h' : Strs w C b tt) (hl : ss.length ≤ maxLen) (hl' : tt.length ≤ maxLen) :
    Calls Tryz.prog 50 #[.slice a ss.length cap, .slice b tt.length cap'] w fun e w' => e = .returned (.bool (sameL ss tt)) ∧ ∀ D, Below D w w' := by
  go_enter Tryz.func50, Tryz.ntmps50
  go_wp2_with fail
  refine (slicesEqual_any a b ss tt cap cap' B C w h h' hl hl').mono ?_
  rintro e w1 ⟨rfl, hb⟩
  go_wp2
  go_ret
  exact ⟨rfl, hb⟩
end Go.Proofs.YtifnolomekhmfaaGreat
namespace Go.Proofs.YtifnolomekhmfaaGreat
open Go.RowKit M
set_option linter.unusedVariables false

theorem ret_int10 {a b : Int} (h : a = b) : Ending.returned (.int .i64 a) = .returned (.int .i64 b) := by rw [h]

set_option maxHeartbeats 1000000 in
theorem findRes1_any (r : Rs) (pa : Option Addr) (pc : Nat) (qa : Option Addr) (qc B : Nat) (a' : Option Addr) (p : List ByteArray) (cap' C c : Nat) (w : World) (h : RsIn w B r pa pc qa qc) (h' : Strs w C a' p) (hl' : p.length ≤ maxLen) (hc : w.cell? ⟨c, 0, none⟩ = some (.slice a' p.length cap')) (hB : B ≤ w.heap.size) (hC : C ≤ w.heap.size) (hcl : c < w.heap.size) :
    Calls Tryz.prog 83 #[.agg #[.slice pa r.pa.length pc, .bool r.co, .string r.bo, .int .i64 r.ve, .slice qa r.ps.length qc], .pointer (some ⟨c, 0, none⟩)] w fun e w' => e = .returned (.bool (sameL r.pa p)) ∧ Below w.heap.size w w' := by
  have l1 : r.pa.length ≤ maxLen := Nat.le_trans h.pl h.pm
  have p1 := h.ph
  clear h
  obtain ⟨ss, co, bo, ve, ps⟩ := r
  simp only at *
  have hb0 : Below w.heap.size w (w.alloc (Obj.cells #[.slice pa ss.length pc, .bool co, .string bo, .int .i64 ve, .slice qa ps.length qc] 62)) := (Below.refl _ _).alloc (Nat.le_refl _) _
  have HE := hide (samePath_any pa a' ss p pc cap' B C _ (p1.below hb0 hB) (h'.below hb0 hC) l1 hl')
  have HB0 := hide hb0
  have hc0 := (hb0.cell (p := ⟨c, 0, none⟩) hcl).trans hc
  clear p1 h' hb0 hc
  go_enter Tryz.func83, Tryz.ntmps83
  go_wp2_with fail
  refine HE.out.mono ?_
  rintro e w1 ⟨rfl, hb1⟩
  have HC1 := hide (HB0.out.trans (hb1 _))
  clear hb1
  go_wp2
  go_ret
  exact ⟨rfl, HC1.out⟩

set_option maxHeartbeats 1000000 in
theorem indexFunc_any (a : Option Addr) (rs : List Rs) (cap B : Nat) (a' : Option Addr) (p : List ByteArray) (cap' C c : Nat) (w : World) (h : Rss w B a rs) (h' : Strs w C a' p) (hl : rs.length ≤ maxLen) (hl' : p.length ≤ maxLen) (hc : w.cell? ⟨c, 0, none⟩ = some (.slice a' p.length cap')) (hB : B ≤ w.heap.size) (hC : C ≤ w.heap.size) (hcl : c < w.heap.size) :
    Calls Tryz.prog 82 #[.slice a rs.length cap, .func (.func 83) #[] #[.pointer (some ⟨c, 0, none⟩)]] w fun e w' => e = .returned (.int .i64 (findI rs p)) ∧ Below w.heap.size w w' := by
  unfold maxLen at hl
  go_enter Tryz.func82, Tryz.ntmps82
  go_wp2
  go_loopw [8] (fun i wr => ∃ k : Nat, k ≤ rs.length ∧ i = .int .i64 k ∧ (∀ j (hj : j < rs.length), j < k → sameL rs[j].pa p = false) ∧ Below w.heap.size w wr) (fun i _ => rs.length - (intOf i).toNat)
  case atStart => exact ⟨0, Nat.zero_le _, rfl, fun j _ hj => absurd hj (Nat.not_lt_zero _), Below.refl _ _⟩
  case round =>
    obtain ⟨k, hk, rfl, ht, hbe⟩ := hrel
    have HT := hide ht
    clear ht
    by_cases hlt : k < rs.length
    · obtain ⟨b, o, rfl, hb, hcc⟩ := (h.below hbe hB) (by omega)
      obtain ⟨pa, pc, qa, qc, ⟨hc0, hc1, hc2, hc3, hc4⟩, hin⟩ := hcc k hlt
      clear hcc
      have HC := hide (findRes1_any rs[k] pa pc qa qc B a' p cap' C c wr hin (h'.below hbe hC) hl' ((hbe.cell (p := ⟨c, 0, none⟩) hcl).trans hc) (Nat.le_trans hB hbe.size) (Nat.le_trans hC hbe.size) (Nat.lt_of_lt_of_le hcl hbe.size))
      obtain ⟨z, hz⟩ : ∃ z, sameL rs[k].pa p = z := ⟨_, rfl⟩
      rw [hz] at HC
      have HZ := hide hz
      clear hz hin
      go_wp2_with fail
      refine HC.out.mono ?_
      rintro e w1 ⟨rfl, hb1⟩
      have c1 := hbe.trans (hb1.mono hbe.size)
      clear HC
      cases z
      · go_wp2
        go_roundw
        case rel => exact ⟨k + 1, by omega, by go_num, fun j hj hjk => by
                      by_cases e : j = k
                      · subst e; exact HZ.out
                      · exact HT.out j hj (by omega), c1⟩
        case measure => simp [intOf]; omega
      · go_wp2
        go_ret
        exact ⟨ret_int10 (findI_at k hlt HT.out HZ.out).symm, c1⟩
    · have HE := hide (findI_none (rs := rs) (p := p) (fun j hj => HT.out j hj (by omega)))
      go_wp2
      go_ret
      exact ⟨ret_int10 HE.out.symm, hbe⟩

set_option maxHeartbeats 1000000 in
theorem findRes_any (a : Option Addr) (rs : List Rs) (cap B : Nat) (a' : Option Addr) (p : List ByteArray) (cap' C : Nat) (w : World) (h : Rss w B a rs) (h' : Strs w C a' p) (hl : rs.length ≤ maxLen) (hl' : p.length ≤ maxLen) (hB : B ≤ w.heap.size) (hC : C ≤ w.heap.size) :
    Calls Tryz.prog 31 #[.slice a rs.length cap, .slice a' p.length cap'] w fun e w' => e = .returned (.int .i64 (findI rs p)) ∧ Below w.heap.size w w' := by
  have hb0 : Below w.heap.size w (w.alloc (Obj.cells #[.slice a' p.length cap'] 25)) := (Below.refl _ _).alloc (Nat.le_refl _) _
  have HE := hide (indexFunc_any a rs cap B a' p cap' C w.heap.size _ (h.below hb0 hB) (h'.below hb0 hC) hl hl' (by simp) (Nat.le_trans hB hb0.size) (Nat.le_trans hC hb0.size) (by simp))
  have HB0 := hide hb0
  clear h h' hb0
  go_enter Tryz.func31, Tryz.ntmps31
  go_wp2_with fail
  refine HE.out.mono ?_
  rintro e w1 ⟨rfl, hb1⟩
  have c1 := HB0.out.trans (hb1.mono HB0.out.size)
  go_wp2
  go_ret
  exact ⟨rfl, c1⟩
end Go.Proofs.YtifnolomekhmfaaGreat
namespace Go.Proofs.YtifnolomekhmfaaGreat
open Go.RowKit M
set_option linter.unusedVariables false

set_option maxHeartbeats 1000000 in
theorem isColl_any (a : Option Addr) (rs : List Rs) (cap B : Nat) (a' : Option Addr) (p : List ByteArray) (cap' C : Nat) (w : World) (h : Rss w B a rs) (h' : Strs w C a' p) (hl : rs.length ≤ maxLen) (hl' : p.length ≤ maxLen) (hB : B ≤ w.heap.size) (hC : C ≤ w.heap.size) :
    Calls Tryz.prog 33 #[.slice a rs.length cap, .slice a' p.length cap'] w fun e w' => e = .returned (.bool (collB rs p)) ∧ Below w.heap.size w w' := by
  by_cases hp : p.length = 0
  · rw [collB_root hp, hp]
    go_enter Tryz.func33, Tryz.ntmps33
    go_wp2
    go_ret
    exact ⟨rfl, Below.refl _ _⟩
  · have hF := findRes_any a rs cap B a' p cap' C w h h' hl hl' hB hC
    unfold maxLen at hl hl'
    rcases findI_cases rs p with e | ⟨k, hk, e, _⟩
    · rw [collB_none e hp]
      rw [e] at hF
      have HF := hide hF
      clear hF e
      go_enter Tryz.func33, Tryz.ntmps33
      go_wp2_with fail
      refine HF.out.mono ?_
      rintro e w1 ⟨rfl, b1⟩
      go_wp2
      go_ret
      exact ⟨rfl, b1⟩
    · rw [collB_at k hk e hp]
      rw [e] at hF
      have HF := hide hF
      clear hF e
      obtain ⟨b, o, rfl, hb, hcc⟩ := h (by omega)
      obtain ⟨pa, pc, qa, qc, ⟨hc0, hc1, hc2, hc3, hc4⟩, hin⟩ := hcc k hk
      clear hcc hin
      have hk0 : (0 : Int) ≤ (k : Int) := by omega
      go_enter Tryz.func33, Tryz.ntmps33
      go_wp2_with fail
      refine HF.out.mono ?_
      rintro e w1 ⟨rfl, b1⟩
      have hd := (b1.cell (p := ⟨b, o + k * 5 + 1, none⟩) (by show b < _; omega)).trans hc1
      go_wp2
      go_ret
      exact ⟨rfl, b1⟩
end Go.Proofs.YtifnolomekhmfaaGreat
