/-
  What spec.l11Ver, DrawRemove, DrawMakeColl, DrawPutFile and DrawCopyTree draw: shelves, bent or not, and paths.
-/
import Derived.Test.YtifnolomekhmfaaGreatDrawAny10
import Derived.Test.YtifnolomekhmfaaGreatDrawPathM
import Derived.Test.YtifnolomekhmfaaGreatSpecLess
namespace Go.Proofs.YtifnolomekhmfaaGreat
open Go.RowKit M
set_option linter.unusedVariables false

/-- Things as a draw left them. -/
def BentT (w : World) (v : Value) (rs : List Rs) : Prop := ∃ g c, v = .slice (some ⟨g, 0, none⟩) rs.length c ∧ rs.length ≤ c ∧ c ≤ maxLen ∧ FewT rs ∧ Rss w w.heap.size (some ⟨g, 0, none⟩) rs
/-- A path as a draw left it. -/
def BentP (w : World) (v : Value) (ss : List ByteArray) : Prop := ∃ g c, v = .slice (some ⟨g, 0, none⟩) ss.length c ∧ ss.length ≤ c ∧ c ≤ maxLen ∧ Few 7 ss ∧ Strs w w.heap.size (some ⟨g, 0, none⟩) ss
theorem l11Ver_any {w : World} {N : Nat} {a : Option Addr} {len cap : Nat} {zs : List Int} (h : DX w N a len cap zs) :
    Calls Tryz.prog 57 #[.pointer (some ⟨N, 0, none⟩)] w fun e w' => (∃ x : Int, e = .returned (.int .i64 x)) ∧ DX w' N a len cap zs ∧ w.grownBy w' (some N) := by
  have HQ := hide (intNewQ h [5, 6, 7, 99999, 100000, -1] #[.int .i64 5, .int .i64 6, .int .i64 7, .int .i64 99999, .int .i64 100000, .int .i64 (-1)] 3 6 w.heap.size rfl rfl rfl (by decide) (by decide))
  go_enter Tryz.func57, Tryz.ntmps57
  go_wp2_with fail
  refine HQ.out.mono ?_
  rintro e w1 ⟨⟨x, rfl⟩, hd, hg⟩
  have HD := hide hd
  have HG := hide hg
  clear hd hg
  go_wp2
  go_ret
  exact ⟨⟨_, rfl⟩, HD.out, HG.out⟩
theorem bentP_of {w : World} {B g n c : Nat} {ss : List ByteArray} (h : w.ownsRow B 9 1 (.slice (some ⟨g, 0, none⟩) n c) n (strCells ss)) (hn : n = ss.length) (hf : Few 7 ss) : BentP w (.slice (some ⟨g, 0, none⟩) n c) ss := by
  obtain ⟨p1, p2, p3, _⟩ := own_strs h hn
  exact ⟨g, c, by rw [hn], by omega, p3, hf, p1⟩

set_option maxRecDepth 100000 in
set_option maxHeartbeats 4000000 in
theorem drawRemove_any {w : World} {B : Nat} {a : Option Addr} {len : Nat} {zs : List Int} (h : CodeIn w B a len zs) (cap : Nat) :
    Calls Tryz.prog 18 #[.slice a len cap] w fun e w' => (∃ tv pv rs ss, e = .returned (.tuple #[tv, pv]) ∧ BentT w' tv rs ∧ BentP w' pv ss) ∧ Below w.heap.size w w' := by
  have HC := hide h
  clear h
  go_enter Tryz.func18, Tryz.ntmps18
  go_wp2_with fail
  refine (newDX HC.out cap).mono ?_
  rintro e w1 ⟨rfl, hd1, b1⟩
  have hN1 : w.heap.size < w1.heap.size := hd1.lt
  have HD1 := hide hd1
  clear hd1
  go_wp2_with fail
  refine (l10Any_any HD1.out).mono ?_
  rintro e w2 ⟨⟨rs, g, n, c, hft, hn, rfl, hv, hgz, hc1, hc2⟩, hd2, hg2⟩
  have HFT := hide hft
  have HN := hide hn
  have HV_2 := hide (hv.low (N := w.heap.size) (by omega))
  have HD2 := hide hd2
  have HG2 := hide hg2
  have hn24 : n ≤ 24 := by rw [hn]; exact hft.1
  clear hft hn hv hd2 hg2 HD1
  go_wp2_with fail
  refine (l1OnceQ HD2.out 8 (by decide) (by decide)).mono ?_
  rintro e w3 ⟨⟨b, rfl⟩, hd3, hg3⟩
  have HV_3 := hide (HV_2.out.grown hg3)
  have HD3 := hide hd3
  have HG3 := hide (grown_trans HG2.out hg3)
  clear hd3 hg3 HV_2 HD2 HG2
  cases b
  rotate_left
  · go_wp2_with fail
    refine (l2Any_any HD3.out).mono ?_
    rintro e w4 ⟨⟨ssP, nP, gP, cP, hf, hnp, rfl, hop⟩, hd4, hg4⟩
    have HGX := hide (show w.heap.size + 1 ≤ w3.heap.size by have := HG3.out.size; omega)
    have FP := hide (show Few 7 _ from hf.mono (by decide))
    have NP := hide hnp
    have HV_4 := hide (HV_3.out.grown hg4)
    have HD4 := hide hd4
    have HG4 := hide (grown_trans HG3.out hg4)
    clear hd4 hg4 HV_3 HD3 HG3
    have P_4 := hide (owns_low (C := w.heap.size + 1) hop (by have := HGX.out; omega))
    clear hf hnp hop HGX
    have HB := hide (b1.trans (grown_below HG4.out (Nat.le_refl _) (by omega)))
    have HT9 := hide (show BentT w4 (.slice (some ⟨g, 0, none⟩) n c) rs from ⟨g, c, by rw [HN.out], by have := HN.out; omega, hc2, HFT.out, HV_4.out.rss⟩)
    have TP := hide (bentP_of P_4.out NP.out FP.out)
    clear HV_4 HD4 HG4 P_4
    go_wp2
    refine bodyPost_ret (v := .tuple #[.slice (some ⟨g, 0, none⟩) n c, .slice (some ⟨gP, 0, none⟩) nP cP]) ?_ rfl ⟨⟨_, _, _, _, rfl, HT9.out, TP.out⟩, HB.out⟩
    simp [results, Tryz.results18, go_sem]
  · go_wp2_with fail
    refine (l10PathM_any 6 (by decide) (by decide) HD3.out g n c rs HN HV_3.out (by omega) (fun r hr => (HFT.out.2 r hr).1)).mono ?_
    rintro e w4 ⟨⟨ssP, nP, gP, cP, hf, hnp, rfl, hop⟩, hd4, hg4⟩
    have HGX := hide (show w.heap.size + 1 ≤ w3.heap.size by have := HG3.out.size; omega)
    have FP := hide hf
    have NP := hide hnp
    have HV_4 := hide (HV_3.out.grown hg4)
    have HD4 := hide hd4
    have HG4 := hide (grown_trans HG3.out hg4)
    clear hd4 hg4 HV_3 HD3 HG3
    have P_4 := hide (owns_low (C := w.heap.size + 1) hop (by have := HGX.out; omega))
    clear hf hnp hop HGX
    have HB := hide (b1.trans (grown_below HG4.out (Nat.le_refl _) (by omega)))
    have HT9 := hide (show BentT w4 (.slice (some ⟨g, 0, none⟩) n c) rs from ⟨g, c, by rw [HN.out], by have := HN.out; omega, hc2, HFT.out, HV_4.out.rss⟩)
    have TP := hide (bentP_of P_4.out NP.out FP.out)
    clear HV_4 HD4 HG4 P_4
    go_wp2
    refine bodyPost_ret (v := .tuple #[.slice (some ⟨g, 0, none⟩) n c, .slice (some ⟨gP, 0, none⟩) nP cP]) ?_ rfl ⟨⟨_, _, _, _, rfl, HT9.out, TP.out⟩, HB.out⟩
    simp [results, Tryz.results18, go_sem]

set_option maxRecDepth 100000 in
set_option maxHeartbeats 4000000 in
theorem drawMakeColl_any {w : World} {B : Nat} {a : Option Addr} {len : Nat} {zs : List Int} (h : CodeIn w B a len zs) (cap : Nat) :
    Calls Tryz.prog 15 #[.slice a len cap] w fun e w' => (∃ tv pv v rs ss, e = .returned (.tuple #[tv, pv, .int .i64 v]) ∧ BentT w' tv rs ∧ BentP w' pv ss) ∧ Below w.heap.size w w' := by
  have HC := hide h
  clear h
  go_enter Tryz.func15, Tryz.ntmps15
  go_wp2_with fail
  refine (newDX HC.out cap).mono ?_
  rintro e w1 ⟨rfl, hd1, b1⟩
  have hN1 : w.heap.size < w1.heap.size := hd1.lt
  have HD1 := hide hd1
  clear hd1
  go_wp2_with fail
  refine (l10Any_any HD1.out).mono ?_
  rintro e w2 ⟨⟨rs, g, n, c, hft, hn, rfl, hv, hgz, hc1, hc2⟩, hd2, hg2⟩
  have HFT := hide hft
  have HN := hide hn
  have HV_2 := hide (hv.low (N := w.heap.size) (by omega))
  have HD2 := hide hd2
  have HG2 := hide hg2
  have hn24 : n ≤ 24 := by rw [hn]; exact hft.1
  clear hft hn hv hd2 hg2 HD1
  go_wp2_with fail
  refine (l10PathM_any 6 (by decide) (by decide) HD2.out g n c rs HN HV_2.out (by omega) (fun r hr => (HFT.out.2 r hr).1)).mono ?_
  rintro e w3 ⟨⟨ssP, nP, gP, cP, hf, hnp, rfl, hop⟩, hd3, hg3⟩
  have HGX := hide (show w.heap.size + 1 ≤ w2.heap.size by have := HG2.out.size; omega)
  have FP := hide hf
  have NP := hide hnp
  have HV_3 := hide (HV_2.out.grown hg3)
  have HD3 := hide hd3
  have HG3 := hide (grown_trans HG2.out hg3)
  clear hd3 hg3 HV_2 HD2 HG2
  have P_3 := hide (owns_low (C := w.heap.size + 1) hop (by have := HGX.out; omega))
  clear hf hnp hop HGX
  go_wp2_with fail
  refine (l1OnceQ HD3.out 8 (by decide) (by decide)).mono ?_
  rintro e w4 ⟨⟨b, rfl⟩, hd4, hg4⟩
  have HV_4 := hide (HV_3.out.grown hg4)
  have HD4 := hide hd4
  have HG4 := hide (grown_trans HG3.out hg4)
  have P_4 := hide (owns_grown P_3.out hg4 (by omega))
  clear hd4 hg4 HV_3 HD3 HG3 P_3
  cases b
  rotate_left
  · clear P_4 FP NP
    go_wp2_with fail
    refine (l2Any_any HD4.out).mono ?_
    rintro e w5 ⟨⟨ssP, nP, gP, cP, hf, hnp, rfl, hop⟩, hd5, hg5⟩
    have HGX := hide (show w.heap.size + 1 ≤ w4.heap.size by have := HG4.out.size; omega)
    have FP := hide (show Few 7 _ from hf.mono (by decide))
    have NP := hide hnp
    have HV_5 := hide (HV_4.out.grown hg5)
    have HD5 := hide hd5
    have HG5 := hide (grown_trans HG4.out hg5)
    clear hd5 hg5 HV_4 HD4 HG4
    have P_5 := hide (owns_low (C := w.heap.size + 1) hop (by have := HGX.out; omega))
    clear hf hnp hop HGX
    go_wp2_with fail
    refine (l11Ver_any HD5.out).mono ?_
    rintro e w6 ⟨⟨vv, rfl⟩, hd6, hg6⟩
    have HV_6 := hide (HV_5.out.grown hg6)
    have HD6 := hide hd6
    have HG6 := hide (grown_trans HG5.out hg6)
    have P_6 := hide (owns_grown P_5.out hg6 (by omega))
    clear hd6 hg6 HV_5 HD5 HG5 P_5
    have HB := hide (b1.trans (grown_below HG6.out (Nat.le_refl _) (by omega)))
    have HT9 := hide (show BentT w6 (.slice (some ⟨g, 0, none⟩) n c) rs from ⟨g, c, by rw [HN.out], by have := HN.out; omega, hc2, HFT.out, HV_6.out.rss⟩)
    have TP := hide (bentP_of P_6.out NP.out FP.out)
    clear HV_6 HD6 HG6 P_6
    go_wp2
    refine bodyPost_ret (v := .tuple #[.slice (some ⟨g, 0, none⟩) n c, .slice (some ⟨gP, 0, none⟩) nP cP, .int .i64 vv]) ?_ rfl ⟨⟨_, _, _, _, _, rfl, HT9.out, TP.out⟩, HB.out⟩
    simp [results, Tryz.results15, go_sem]
  · go_wp2_with fail
    refine (l11Ver_any HD4.out).mono ?_
    rintro e w5 ⟨⟨vv, rfl⟩, hd5, hg5⟩
    have HV_5 := hide (HV_4.out.grown hg5)
    have HD5 := hide hd5
    have HG5 := hide (grown_trans HG4.out hg5)
    have P_5 := hide (owns_grown P_4.out hg5 (by omega))
    clear hd5 hg5 HV_4 HD4 HG4 P_4
    have HB := hide (b1.trans (grown_below HG5.out (Nat.le_refl _) (by omega)))
    have HT9 := hide (show BentT w5 (.slice (some ⟨g, 0, none⟩) n c) rs from ⟨g, c, by rw [HN.out], by have := HN.out; omega, hc2, HFT.out, HV_5.out.rss⟩)
    have TP := hide (bentP_of P_5.out NP.out FP.out)
    clear HV_5 HD5 HG5 P_5
    go_wp2
    refine bodyPost_ret (v := .tuple #[.slice (some ⟨g, 0, none⟩) n c, .slice (some ⟨gP, 0, none⟩) nP cP, .int .i64 vv]) ?_ rfl ⟨⟨_, _, _, _, _, rfl, HT9.out, TP.out⟩, HB.out⟩
    simp [results, Tryz.results15, go_sem]

set_option maxRecDepth 100000 in
set_option maxHeartbeats 4000000 in
theorem drawCopyTree_any {w : World} {B : Nat} {a : Option Addr} {len : Nat} {zs : List Int} (h : CodeIn w B a len zs) (cap : Nat) :
    Calls Tryz.prog 7 #[.slice a len cap] w fun e w' => (∃ tv pv qv o v rs ss tt, e = .returned (.tuple #[tv, pv, qv, .bool o, .int .i64 v]) ∧ BentT w' tv rs ∧ BentP w' pv ss ∧ BentP w' qv tt) ∧ Below w.heap.size w w' := by
  have HC := hide h
  clear h
  go_enter Tryz.func7, Tryz.ntmps7
  go_wp2_with fail
  refine (newDX HC.out cap).mono ?_
  rintro e w1 ⟨rfl, hd1, b1⟩
  have hN1 : w.heap.size < w1.heap.size := hd1.lt
  have HD1 := hide hd1
  clear hd1
  go_wp2_with fail
  refine (l10Any_any HD1.out).mono ?_
  rintro e w2 ⟨⟨rs, g, n, c, hft, hn, rfl, hv, hgz, hc1, hc2⟩, hd2, hg2⟩
  have HFT := hide hft
  have HN := hide hn
  have HV_2 := hide (hv.low (N := w.heap.size) (by omega))
  have HD2 := hide hd2
  have HG2 := hide hg2
  have hn24 : n ≤ 24 := by rw [hn]; exact hft.1
  clear hft hn hv hd2 hg2 HD1
  go_wp2_with fail
  refine (l10PathM_any 6 (by decide) (by decide) HD2.out g n c rs HN HV_2.out (by omega) (fun r hr => (HFT.out.2 r hr).1)).mono ?_
  rintro e w3 ⟨⟨ssP, nP, gP, cP, hf, hnp, rfl, hop⟩, hd3, hg3⟩
  have HGX := hide (show w.heap.size + 1 ≤ w2.heap.size by have := HG2.out.size; omega)
  have FP := hide hf
  have NP := hide hnp
  have HV_3 := hide (HV_2.out.grown hg3)
  have HD3 := hide hd3
  have HG3 := hide (grown_trans HG2.out hg3)
  clear hd3 hg3 HV_2 HD2 HG2
  have P_3 := hide (owns_low (C := w.heap.size + 1) hop (by have := HGX.out; omega))
  clear hf hnp hop HGX
  go_wp2_with fail
  refine (l10PathM_any 6 (by decide) (by decide) HD3.out g n c rs HN HV_3.out (by omega) (fun r hr => (HFT.out.2 r hr).1)).mono ?_
  rintro e w4 ⟨⟨ssQ, nQ, gQ, cQ, hf, hnp, rfl, hop⟩, hd4, hg4⟩
  have HGX := hide (show w.heap.size + 1 ≤ w3.heap.size by have := HG3.out.size; omega)
  have FQ := hide hf
  have NQ := hide hnp
  have HV_4 := hide (HV_3.out.grown hg4)
  have HD4 := hide hd4
  have HG4 := hide (grown_trans HG3.out hg4)
  have P_4 := hide (owns_grown P_3.out hg4 (by omega))
  clear hd4 hg4 HV_3 HD3 HG3 P_3
  have Q_4 := hide (owns_low (C := w.heap.size + 1) hop (by have := HGX.out; omega))
  clear hf hnp hop HGX
  go_wp2_with fail
  refine (l1OnceQ HD4.out 10 (by decide) (by decide)).mono ?_
  rintro e w5 ⟨⟨b, rfl⟩, hd5, hg5⟩
  have HV_5 := hide (HV_4.out.grown hg5)
  have HD5 := hide hd5
  have HG5 := hide (grown_trans HG4.out hg5)
  have P_5 := hide (owns_grown P_4.out hg5 (by omega))
  have Q_5 := hide (owns_grown Q_4.out hg5 (by omega))
  clear hd5 hg5 HV_4 HD4 HG4 P_4 Q_4
  cases b
  rotate_left
  · clear Q_5 FQ NQ
    go_wp2_with fail
    refine (l2Any_any HD5.out).mono ?_
    rintro e w6 ⟨⟨ssQ, nQ, gQ, cQ, hf, hnp, rfl, hop⟩, hd6, hg6⟩
    have HGX := hide (show w.heap.size + 1 ≤ w5.heap.size by have := HG5.out.size; omega)
    have FQ := hide (show Few 7 _ from hf.mono (by decide))
    have NQ := hide hnp
    have HV_6 := hide (HV_5.out.grown hg6)
    have HD6 := hide hd6
    have HG6 := hide (grown_trans HG5.out hg6)
    have P_6 := hide (owns_grown P_5.out hg6 (by omega))
    clear hd6 hg6 HV_5 HD5 HG5 P_5
    have Q_6 := hide (owns_low (C := w.heap.size + 1) hop (by have := HGX.out; omega))
    clear hf hnp hop HGX
    go_wp2_with fail
    refine (l1OnceQ HD6.out 2 (by decide) (by decide)).mono ?_
    rintro e w7 ⟨⟨b2, rfl⟩, hd7, hg7⟩
    have HV_7 := hide (HV_6.out.grown hg7)
    have HD7 := hide hd7
    have HG7 := hide (grown_trans HG6.out hg7)
    have P_7 := hide (owns_grown P_6.out hg7 (by omega))
    have Q_7 := hide (owns_grown Q_6.out hg7 (by omega))
    clear hd7 hg7 HV_6 HD6 HG6 P_6 Q_6
    go_wp2_with fail
    refine (l11Ver_any HD7.out).mono ?_
    rintro e w8 ⟨⟨vv, rfl⟩, hd8, hg8⟩
    have HV_8 := hide (HV_7.out.grown hg8)
    have HD8 := hide hd8
    have HG8 := hide (grown_trans HG7.out hg8)
    have P_8 := hide (owns_grown P_7.out hg8 (by omega))
    have Q_8 := hide (owns_grown Q_7.out hg8 (by omega))
    clear hd8 hg8 HV_7 HD7 HG7 P_7 Q_7
    have HB := hide (b1.trans (grown_below HG8.out (Nat.le_refl _) (by omega)))
    have HT9 := hide (show BentT w8 (.slice (some ⟨g, 0, none⟩) n c) rs from ⟨g, c, by rw [HN.out], by have := HN.out; omega, hc2, HFT.out, HV_8.out.rss⟩)
    have TP := hide (bentP_of P_8.out NP.out FP.out)
    have TQ := hide (bentP_of Q_8.out NQ.out FQ.out)
    clear HV_8 HD8 HG8 P_8 Q_8
    go_wp2
    refine bodyPost_ret (v := .tuple #[.slice (some ⟨g, 0, none⟩) n c, .slice (some ⟨gP, 0, none⟩) nP cP, .slice (some ⟨gQ, 0, none⟩) nQ cQ, .bool b2, .int .i64 vv]) ?_ rfl ⟨⟨_, _, _, _, _, _, _, _, rfl, HT9.out, TP.out, TQ.out⟩, HB.out⟩
    simp [results, Tryz.results7, go_sem]
  · go_wp2_with fail
    refine (l1OnceQ HD5.out 2 (by decide) (by decide)).mono ?_
    rintro e w6 ⟨⟨b2, rfl⟩, hd6, hg6⟩
    have HV_6 := hide (HV_5.out.grown hg6)
    have HD6 := hide hd6
    have HG6 := hide (grown_trans HG5.out hg6)
    have P_6 := hide (owns_grown P_5.out hg6 (by omega))
    have Q_6 := hide (owns_grown Q_5.out hg6 (by omega))
    clear hd6 hg6 HV_5 HD5 HG5 P_5 Q_5
    go_wp2_with fail
    refine (l11Ver_any HD6.out).mono ?_
    rintro e w7 ⟨⟨vv, rfl⟩, hd7, hg7⟩
    have HV_7 := hide (HV_6.out.grown hg7)
    have HD7 := hide hd7
    have HG7 := hide (grown_trans HG6.out hg7)
    have P_7 := hide (owns_grown P_6.out hg7 (by omega))
    have Q_7 := hide (owns_grown Q_6.out hg7 (by omega))
    clear hd7 hg7 HV_6 HD6 HG6 P_6 Q_6
    have HB := hide (b1.trans (grown_below HG7.out (Nat.le_refl _) (by omega)))
    have HT9 := hide (show BentT w7 (.slice (some ⟨g, 0, none⟩) n c) rs from ⟨g, c, by rw [HN.out], by have := HN.out; omega, hc2, HFT.out, HV_7.out.rss⟩)
    have TP := hide (bentP_of P_7.out NP.out FP.out)
    have TQ := hide (bentP_of Q_7.out NQ.out FQ.out)
    clear HV_7 HD7 HG7 P_7 Q_7
    go_wp2
    refine bodyPost_ret (v := .tuple #[.slice (some ⟨g, 0, none⟩) n c, .slice (some ⟨gP, 0, none⟩) nP cP, .slice (some ⟨gQ, 0, none⟩) nQ cQ, .bool b2, .int .i64 vv]) ?_ rfl ⟨⟨_, _, _, _, _, _, _, _, rfl, HT9.out, TP.out, TQ.out⟩, HB.out⟩
    simp [results, Tryz.results7, go_sem]

set_option maxRecDepth 100000 in
set_option maxHeartbeats 4000000 in
theorem drawPutFile_any {w : World} {B : Nat} {a : Option Addr} {len : Nat} {zs : List Int} (h : CodeIn w B a len zs) (cap : Nat) :
    Calls Tryz.prog 12 #[.slice a len cap] w fun e w' => (∃ tv pv bo v rs ss, e = .returned (.tuple #[tv, pv, .string bo, .int .i64 v]) ∧ BentT w' tv rs ∧ BentP w' pv ss ∧ bo.size ≤ 1000) ∧ Below w.heap.size w w' := by
  have HC := hide h
  clear h
  go_enter Tryz.func12, Tryz.ntmps12
  go_wp2_with fail
  refine (newDX HC.out cap).mono ?_
  rintro e w1 ⟨rfl, hd1, b1⟩
  have hN1 : w.heap.size < w1.heap.size := hd1.lt
  have HD1 := hide hd1
  clear hd1
  go_wp2_with fail
  refine (l10Any_any HD1.out).mono ?_
  rintro e w2 ⟨⟨rs, g, n, c, hft, hn, rfl, hv, hgz, hc1, hc2⟩, hd2, hg2⟩
  have HFT := hide hft
  have HN := hide hn
  have HV_2 := hide (hv.low (N := w.heap.size) (by omega))
  have HD2 := hide hd2
  have HG2 := hide hg2
  have hn24 : n ≤ 24 := by rw [hn]; exact hft.1
  clear hft hn hv hd2 hg2 HD1
  go_wp2_with fail
  refine (l10PathM_any 6 (by decide) (by decide) HD2.out g n c rs HN HV_2.out (by omega) (fun r hr => (HFT.out.2 r hr).1)).mono ?_
  rintro e w3 ⟨⟨ssP, nP, gP, cP, hf, hnp, rfl, hop⟩, hd3, hg3⟩
  have HGX := hide (show w.heap.size + 1 ≤ w2.heap.size by have := HG2.out.size; omega)
  have FP := hide hf
  have NP := hide hnp
  have HV_3 := hide (HV_2.out.grown hg3)
  have HD3 := hide hd3
  have HG3 := hide (grown_trans HG2.out hg3)
  clear hd3 hg3 HV_2 HD2 HG2
  have P_3 := hide (owns_low (C := w.heap.size + 1) hop (by have := HGX.out; omega))
  clear hf hnp hop HGX
  go_wp2_with fail
  refine (l1OnceQ HD3.out 8 (by decide) (by decide)).mono ?_
  rintro e w4 ⟨⟨b, rfl⟩, hd4, hg4⟩
  have HV_4 := hide (HV_3.out.grown hg4)
  have HD4 := hide hd4
  have HG4 := hide (grown_trans HG3.out hg4)
  have P_4 := hide (owns_grown P_3.out hg4 (by omega))
  clear hd4 hg4 HV_3 HD3 HG3 P_3
  cases b
  rotate_left
  · clear P_4 FP NP
    go_wp2_with fail
    refine (l2Any_any HD4.out).mono ?_
    rintro e w5 ⟨⟨ssP, nP, gP, cP, hf, hnp, rfl, hop⟩, hd5, hg5⟩
    have HGX := hide (show w.heap.size + 1 ≤ w4.heap.size by have := HG4.out.size; omega)
    have FP := hide (show Few 7 _ from hf.mono (by decide))
    have NP := hide hnp
    have HV_5 := hide (HV_4.out.grown hg5)
    have HD5 := hide hd5
    have HG5 := hide (grown_trans HG4.out hg5)
    clear hd5 hg5 HV_4 HD4 HG4
    have P_5 := hide (owns_low (C := w.heap.size + 1) hop (by have := HGX.out; omega))
    clear hf hnp hop HGX
    have HSQ := hide (strNewQ HD5.out 30 [⟨#[]⟩, ⟨#[121]⟩, ⟨#[119, 111, 114, 108, 100]⟩] #[.string ⟨#[]⟩, .string ⟨#[121]⟩, .string ⟨#[119, 111, 114, 108, 100]⟩] 9 3 w5.heap.size rfl rfl rfl (by decide) (by decide) (by decide))
    go_wp2_with fail
    refine HSQ.out.mono ?_
    rintro e w6 ⟨⟨bo, rfl, hbo⟩, hd6, hg6⟩
    clear HSQ
    have HV_6 := hide (HV_5.out.grown hg6)
    have HD6 := hide hd6
    have HG6 := hide (grown_trans HG5.out hg6)
    have P_6 := hide (owns_grown P_5.out hg6 (by omega))
    clear hd6 hg6 HV_5 HD5 HG5 P_5
    go_wp2_with fail
    refine (l1OnceQ HD6.out 12 (by decide) (by decide)).mono ?_
    rintro e w7 ⟨⟨b3, rfl⟩, hd7, hg7⟩
    have HV_7 := hide (HV_6.out.grown hg7)
    have HD7 := hide hd7
    have HG7 := hide (grown_trans HG6.out hg7)
    have P_7 := hide (owns_grown P_6.out hg7 (by omega))
    clear hd7 hg7 HV_6 HD6 HG6 P_6
    cases b3
    rotate_left
    · go_wp2_with fail
      refine (l1BelowX HD7.out 2 (by decide) (by decide)).mono ?_
      rintro e w8 ⟨⟨y, rfl, hy⟩, hd8, hg8⟩
      have HV_8 := hide (HV_7.out.grown hg8)
      have HD8 := hide hd8
      have HG8 := hide (grown_trans HG7.out hg8)
      have P_8 := hide (owns_grown P_7.out hg8 (by omega))
      clear hd8 hg8 HV_7 HD7 HG7 P_7
      obtain ⟨z, hz⟩ : ∃ z : Nat, z = 200 + y := ⟨_, rfl⟩
      have hz' : ((200 : Int) + (y : Int)) = ((z : Nat) : Int) := by omega
      have hzb : z ≤ 201 := by omega
      have hw : IntKind.i64.wrap (200 + (y : Int)) = (z : Int) := by rw [IntKind.wrap_i64]; omega
      clear hz
      have hmk := run_make_row' (P := Tryz.prog) 22 5 (.int .u8 0) 1 Tryz.underlying22 info_u8t rfl .i64 .i64 z (by omega) (by omega) w8
      obtain ⟨x, hxz, hcv⟩ := conv_zerosT w8 z
      have hxz' : x.size ≤ 1000 := by omega
      obtain ⟨w9, hw9⟩ : ∃ w', w8.alloc (.cells (madeCells #[.int .u8 0] z) 5) = w' := ⟨_, rfl⟩
      have hd9 : DX w9 w.heap.size a len cap zs := by rw [← hw9]; exact HD8.out.alloc _
      have hg9 : w8.grownBy w9 (some w.heap.size) := by rw [← hw9]; exact grown_alloc (grown_refl _ _) _
      have HV_9 := hide (HV_8.out.grown hg9)
      have HD9 := hide hd9
      have HG9 := hide (grown_trans HG8.out hg9)
      have P_9 := hide (owns_grown P_8.out hg9 (by omega))
      clear hd9 hg9 HV_8 HD8 HG8 P_8
      rw [hw9] at hcv hmk
      clear hxz hw9
      go_wp2_with fail
      refine (l11Ver_any HD9.out).mono ?_
      rintro e w10 ⟨⟨vv, rfl⟩, hd10, hg10⟩
      have HV_10 := hide (HV_9.out.grown hg10)
      have HD10 := hide hd10
      have HG10 := hide (grown_trans HG9.out hg10)
      have P_10 := hide (owns_grown P_9.out hg10 (by omega))
      clear hd10 hg10 HV_9 HD9 HG9 P_9
      have HB := hide (b1.trans (grown_below HG10.out (Nat.le_refl _) (by omega)))
      have HT9 := hide (show BentT w10 (.slice (some ⟨g, 0, none⟩) n c) rs from ⟨g, c, by rw [HN.out], by have := HN.out; omega, hc2, HFT.out, HV_10.out.rss⟩)
      have TP := hide (bentP_of P_10.out NP.out FP.out)
      clear HV_10 HD10 HG10 P_10
      go_wp2
      refine bodyPost_ret (v := .tuple #[.slice (some ⟨g, 0, none⟩) n c, .slice (some ⟨gP, 0, none⟩) nP cP, .string x, .int .i64 vv]) ?_ rfl ⟨⟨_, _, _, _, _, _, rfl, HT9.out, TP.out, hxz'⟩, HB.out⟩
      simp [results, Tryz.results12, go_sem]
    · go_wp2_with fail
      refine (l11Ver_any HD7.out).mono ?_
      rintro e w8 ⟨⟨vv, rfl⟩, hd8, hg8⟩
      have HV_8 := hide (HV_7.out.grown hg8)
      have HD8 := hide hd8
      have HG8 := hide (grown_trans HG7.out hg8)
      have P_8 := hide (owns_grown P_7.out hg8 (by omega))
      clear hd8 hg8 HV_7 HD7 HG7 P_7
      have HB := hide (b1.trans (grown_below HG8.out (Nat.le_refl _) (by omega)))
      have HT9 := hide (show BentT w8 (.slice (some ⟨g, 0, none⟩) n c) rs from ⟨g, c, by rw [HN.out], by have := HN.out; omega, hc2, HFT.out, HV_8.out.rss⟩)
      have TP := hide (bentP_of P_8.out NP.out FP.out)
      clear HV_8 HD8 HG8 P_8
      go_wp2
      refine bodyPost_ret (v := .tuple #[.slice (some ⟨g, 0, none⟩) n c, .slice (some ⟨gP, 0, none⟩) nP cP, .string bo, .int .i64 vv]) ?_ rfl ⟨⟨_, _, _, _, _, _, rfl, HT9.out, TP.out, by omega⟩, HB.out⟩
      simp [results, Tryz.results12, go_sem]
  · have HSQ := hide (strNewQ HD4.out 30 [⟨#[]⟩, ⟨#[121]⟩, ⟨#[119, 111, 114, 108, 100]⟩] #[.string ⟨#[]⟩, .string ⟨#[121]⟩, .string ⟨#[119, 111, 114, 108, 100]⟩] 9 3 w4.heap.size rfl rfl rfl (by decide) (by decide) (by decide))
    go_wp2_with fail
    refine HSQ.out.mono ?_
    rintro e w5 ⟨⟨bo, rfl, hbo⟩, hd5, hg5⟩
    clear HSQ
    have HV_5 := hide (HV_4.out.grown hg5)
    have HD5 := hide hd5
    have HG5 := hide (grown_trans HG4.out hg5)
    have P_5 := hide (owns_grown P_4.out hg5 (by omega))
    clear hd5 hg5 HV_4 HD4 HG4 P_4
    go_wp2_with fail
    refine (l1OnceQ HD5.out 12 (by decide) (by decide)).mono ?_
    rintro e w6 ⟨⟨b3, rfl⟩, hd6, hg6⟩
    have HV_6 := hide (HV_5.out.grown hg6)
    have HD6 := hide hd6
    have HG6 := hide (grown_trans HG5.out hg6)
    have P_6 := hide (owns_grown P_5.out hg6 (by omega))
    clear hd6 hg6 HV_5 HD5 HG5 P_5
    cases b3
    rotate_left
    · go_wp2_with fail
      refine (l1BelowX HD6.out 2 (by decide) (by decide)).mono ?_
      rintro e w7 ⟨⟨y, rfl, hy⟩, hd7, hg7⟩
      have HV_7 := hide (HV_6.out.grown hg7)
      have HD7 := hide hd7
      have HG7 := hide (grown_trans HG6.out hg7)
      have P_7 := hide (owns_grown P_6.out hg7 (by omega))
      clear hd7 hg7 HV_6 HD6 HG6 P_6
      obtain ⟨z, hz⟩ : ∃ z : Nat, z = 200 + y := ⟨_, rfl⟩
      have hz' : ((200 : Int) + (y : Int)) = ((z : Nat) : Int) := by omega
      have hzb : z ≤ 201 := by omega
      have hw : IntKind.i64.wrap (200 + (y : Int)) = (z : Int) := by rw [IntKind.wrap_i64]; omega
      clear hz
      have hmk := run_make_row' (P := Tryz.prog) 22 5 (.int .u8 0) 1 Tryz.underlying22 info_u8t rfl .i64 .i64 z (by omega) (by omega) w7
      obtain ⟨x, hxz, hcv⟩ := conv_zerosT w7 z
      have hxz' : x.size ≤ 1000 := by omega
      obtain ⟨w8, hw8⟩ : ∃ w', w7.alloc (.cells (madeCells #[.int .u8 0] z) 5) = w' := ⟨_, rfl⟩
      have hd8 : DX w8 w.heap.size a len cap zs := by rw [← hw8]; exact HD7.out.alloc _
      have hg8 : w7.grownBy w8 (some w.heap.size) := by rw [← hw8]; exact grown_alloc (grown_refl _ _) _
      have HV_8 := hide (HV_7.out.grown hg8)
      have HD8 := hide hd8
      have HG8 := hide (grown_trans HG7.out hg8)
      have P_8 := hide (owns_grown P_7.out hg8 (by omega))
      clear hd8 hg8 HV_7 HD7 HG7 P_7
      rw [hw8] at hcv hmk
      clear hxz hw8
      go_wp2_with fail
      refine (l11Ver_any HD8.out).mono ?_
      rintro e w9 ⟨⟨vv, rfl⟩, hd9, hg9⟩
      have HV_9 := hide (HV_8.out.grown hg9)
      have HD9 := hide hd9
      have HG9 := hide (grown_trans HG8.out hg9)
      have P_9 := hide (owns_grown P_8.out hg9 (by omega))
      clear hd9 hg9 HV_8 HD8 HG8 P_8
      have HB := hide (b1.trans (grown_below HG9.out (Nat.le_refl _) (by omega)))
      have HT9 := hide (show BentT w9 (.slice (some ⟨g, 0, none⟩) n c) rs from ⟨g, c, by rw [HN.out], by have := HN.out; omega, hc2, HFT.out, HV_9.out.rss⟩)
      have TP := hide (bentP_of P_9.out NP.out FP.out)
      clear HV_9 HD9 HG9 P_9
      go_wp2
      refine bodyPost_ret (v := .tuple #[.slice (some ⟨g, 0, none⟩) n c, .slice (some ⟨gP, 0, none⟩) nP cP, .string x, .int .i64 vv]) ?_ rfl ⟨⟨_, _, _, _, _, _, rfl, HT9.out, TP.out, hxz'⟩, HB.out⟩
      simp [results, Tryz.results12, go_sem]
    · go_wp2_with fail
      refine (l11Ver_any HD6.out).mono ?_
      rintro e w7 ⟨⟨vv, rfl⟩, hd7, hg7⟩
      have HV_7 := hide (HV_6.out.grown hg7)
      have HD7 := hide hd7
      have HG7 := hide (grown_trans HG6.out hg7)
      have P_7 := hide (owns_grown P_6.out hg7 (by omega))
      clear hd7 hg7 HV_6 HD6 HG6 P_6
      have HB := hide (b1.trans (grown_below HG7.out (Nat.le_refl _) (by omega)))
      have HT9 := hide (show BentT w7 (.slice (some ⟨g, 0, none⟩) n c) rs from ⟨g, c, by rw [HN.out], by have := HN.out; omega, hc2, HFT.out, HV_7.out.rss⟩)
      have TP := hide (bentP_of P_7.out NP.out FP.out)
      clear HV_7 HD7 HG7 P_7
      go_wp2
      refine bodyPost_ret (v := .tuple #[.slice (some ⟨g, 0, none⟩) n c, .slice (some ⟨gP, 0, none⟩) nP cP, .string bo, .int .i64 vv]) ?_ rfl ⟨⟨_, _, _, _, _, _, rfl, HT9.out, TP.out, by omega⟩, HB.out⟩
      simp [results, Tryz.results12, go_sem]
end Go.Proofs.YtifnolomekhmfaaGreat
