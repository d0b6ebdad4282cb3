/-
  What spec.l11May does.
  What spec.l10Copy does.
  Growing rows of things whose lists have no room besides.
  What spec.l10CopyAll does.
-/
import Derived.Test.YtifnolomekhmfaaGreatSpecTreeOk
import Derived.Test.YtifnolomekhmfaaGreatMathOps
import Derived.Test.YtifnolomekhmfaaGreatMathOrder
import Derived.Test.YtifnolomekhmfaaGreatSpecLess
namespace Go.Proofs.YtifnolomekhmfaaGreat
open Go.RowKit M
set_option linter.unusedVariables false

set_option maxHeartbeats 2000000 in
theorem specMay_any (a : Option Addr) (rs : List Rs) (cap B : Nat) (b : Option Addr) (p : List ByteArray) (cap' C : Nat) (v : Int) (w : World) (h : Rss w B a rs) (h' : Strs w C b p) (hB : B ≤ w.heap.size) (hC : C ≤ w.heap.size) (hs : ShortT rs) (hl : rs.length ≤ maxLen) (hlp : ∀ r ∈ rs, r.pa.length ≤ 1048576) (hs' : Short p) (hl' : p.length ≤ maxLen) :
    Calls Tryz.prog 69 #[.slice a rs.length cap, .slice b p.length cap', .int .i64 v] w fun e w' => e = .returned (.int .i64 (mayI rs p v)) ∧ Below w.heap.size w w' := by
  have HT := hide (specTreeOk_any a rs cap B w h hB hs hl hlp)
  have HP := hide (fun W (hb : Below w.heap.size w W) => specPathOk_any b p cap' C W (h'.below hb hC) hs' hl')
  have HV := hide (fun (W : World) => l1In_any v 0 99999 W)
  have H5 := hide (fun h => mayI_500 (rs := rs) (p := p) (v := v) h)
  have H4 := hide (fun h h1 => mayI_400 (rs := rs) (p := p) (v := v) h h1)
  have H7 := hide (fun h h1 h2 => mayI_507 (rs := rs) (p := p) (v := v) h h1 h2)
  have H0 := hide (fun h h1 h2 => mayI_0 (rs := rs) (p := p) (v := v) h h1 h2)
  generalize mayI rs p v = M at *
  generalize treeB rs = bt at *
  generalize pathB p = bp at *
  generalize inB v 0 99999 = bv at *
  clear h h'
  cases bt
  · have hM := H5.out rfl
    subst hM
    go_enter Tryz.func69, Tryz.ntmps69
    go_wp2_with fail
    refine HT.out.mono ?_
    rintro e w1 ⟨rfl, b1⟩
    go_wp2
    go_ret
    exact ⟨rfl, b1⟩
  cases bp
  · have hM := H4.out rfl rfl
    subst hM
    go_enter Tryz.func69, Tryz.ntmps69
    go_wp2_with fail
    refine HT.out.mono ?_
    rintro e w1 ⟨rfl, b1⟩
    have HP1 := hide (HP.out w1 b1)
    go_wp2_with fail
    refine HP1.out.mono ?_
    rintro e w2 ⟨rfl, hw⟩
    obtain rfl := hw.symm
    go_wp2
    go_ret
    exact ⟨rfl, b1⟩
  cases bv
  · have hM := H7.out rfl rfl rfl
    subst hM
    go_enter Tryz.func69, Tryz.ntmps69
    go_wp2_with fail
    refine HT.out.mono ?_
    rintro e w1 ⟨rfl, b1⟩
    have HP1 := hide (HP.out w1 b1)
    go_wp2_with fail
    refine HP1.out.mono ?_
    rintro e w2 ⟨rfl, hw⟩
    obtain rfl := hw.symm
    go_wp2_with fail
    refine (HV.out _).mono ?_
    rintro e w2 ⟨rfl, hw⟩
    obtain rfl := hw.symm
    go_wp2
    go_ret
    exact ⟨rfl, b1⟩
  · have hM := H0.out rfl rfl rfl
    subst hM
    go_enter Tryz.func69, Tryz.ntmps69
    go_wp2_with fail
    refine HT.out.mono ?_
    rintro e w1 ⟨rfl, b1⟩
    have HP1 := hide (HP.out w1 b1)
    go_wp2_with fail
    refine HP1.out.mono ?_
    rintro e w2 ⟨rfl, hw⟩
    obtain rfl := hw.symm
    go_wp2_with fail
    refine (HV.out _).mono ?_
    rintro e w2 ⟨rfl, hw⟩
    obtain rfl := hw.symm
    go_wp2
    go_ret
    exact ⟨rfl, b1⟩
end Go.Proofs.YtifnolomekhmfaaGreat
namespace Go.Proofs.YtifnolomekhmfaaGreat
open Go.RowKit M
set_option linter.unusedVariables false

theorem cellSA {w1 : World} {p : Addr} {n i : Nat} {u : Value} (h : w1.cell? ⟨n, i, none⟩ = some u) (hne : p ≠ ⟨n, i, none⟩) (v : Value) (o : Obj) : ((w1.setCell p v).alloc o).cell? ⟨n, i, none⟩ = some u := by
  have e : (w1.setCell p v).cell? ⟨n, i, none⟩ = some u := by rw [World.cell?_setCell_other _ _ _ _ hne]; exact h
  rw [World.cell?_alloc_lt _ _ _ (World.block_lt_of_cell? _ _ e)]
  exact e
theorem cellSA0 {w1 : World} {p : Addr} {u : Value} (h : w1.cell? p = some u) (v : Value) (o : Obj) : ((w1.setCell p v).alloc o).cell? p = some v := by
  have e : (w1.setCell p v).cell? p = some v := World.cell?_setCell_same _ _ _ h
  rw [World.cell?_alloc_lt _ _ _ (World.block_lt_of_cell? _ _ e)]
  exact e
theorem frozSA {w1 : World} {n i : Nat} (h : w1.frozen? ⟨n, i, none⟩ = false) (hn : n < w1.heap.size) (p : Addr) (v : Value) (o : Obj) : ((w1.setCell p v).alloc o).frozen? ⟨n, i, none⟩ = false := by
  have b := (Below.refl (w1.setCell p v).heap.size (w1.setCell p v)).alloc (Nat.le_refl _) o
  rw [b.frozen (p := ⟨n, i, none⟩) (by simpa using hn), World.frozen?_setCell]
  exact h
theorem bcellQ {B : Nat} {W w1 : World} (hb : Below B W w1) : (∀ b o, b < B → w1.cell? ⟨b, o, none⟩ = W.cell? ⟨b, o, none⟩) ∧ (∀ b o, b < B → w1.frozen? ⟨b, o, none⟩ = W.frozen? ⟨b, o, none⟩) :=
  ⟨fun b o h => hb.cell (p := ⟨b, o, none⟩) h, fun b o h => hb.frozen (p := ⟨b, o, none⟩) h⟩

set_option maxRecDepth 100000 in
set_option maxHeartbeats 4000000 in
theorem specCopy_any (r : Rs) (pa : Option Addr) (pc : Nat) (qa : Option Addr) (qc B : Nat) (w : World) (h : RsIn w B r pa pc qa qc) (hB : B ≤ w.heap.size) (hp : r.pa.length ≤ 1048576) (hq : r.ps.length ≤ 1048576) :
    Calls Tryz.prog 90 #[.agg #[.slice pa r.pa.length pc, .bool r.co, .string r.bo, .int .i64 r.ve, .slice qa r.ps.length qc]] w fun e w' => (∃ p c q d : Nat, e = .returned (.agg #[.slice (some ⟨p, 0, none⟩) r.pa.length c, .bool r.co, .string r.bo, .int .i64 r.ve, .slice (some ⟨q, 0, none⟩) r.ps.length d]) ∧ w.heap.size ≤ p ∧ p < q ∧ RowS w' p r.pa ∧ RowPC w' q d r.ps ∧ r.pa.length ≤ c ∧ c ≤ maxLen ∧ r.ps.length ≤ d ∧ d ≤ maxLen) ∧ Below w.heap.size w w' := by
  have h1 := h.ph
  have h2 := h.qh
  have n1 := h.pn
  have n2 := h.qn
  clear h
  obtain ⟨ss, co, bo, ve, ps⟩ := r
  simp only at *
  have H1 := hide h1
  have H2 := hide h2
  have N1 := hide n1
  have N2 := hide n2
  clear h1 h2 n1 n2
  go_enter Tryz.func90, Tryz.ntmps90
  have hb0 : Below w.heap.size w (((w.alloc (Obj.cells #[Value.slice pa ss.length pc, Value.bool co, Value.string bo, Value.int .i64 ve, Value.slice qa ps.length qc] 62)).alloc (Obj.cells #[Value.slice none 0 0, Value.bool false, Value.string { data := #[] }, Value.int .i64 0, Value.slice none 0 0] 62)).alloc (Obj.cells #[Value.slice pa ss.length pc, Value.bool co, Value.string bo, Value.int .i64 ve, Value.slice qa ps.length qc] 62)) := (((Below.refl _ _).alloc (Nat.le_refl _) _).alloc (by simp) _).alloc (by simp; omega) _
  have hb1 := hb0.alloc hb0.size (Obj.cells #[] 9)
  have hown := World.ownsRow_made (e := 9) (size := 1) (base := w.heap.size + 1 + 1 + 1) (((w.alloc (Obj.cells #[Value.slice pa ss.length pc, Value.bool co, Value.string bo, Value.int .i64 ve, Value.slice qa ps.length qc] 62)).alloc (Obj.cells #[Value.slice none 0 0, Value.bool false, Value.string { data := #[] }, Value.int .i64 0, Value.slice none 0 0] 62)).alloc (Obj.cells #[Value.slice pa ss.length pc, Value.bool co, Value.string bo, Value.int .i64 ve, Value.slice qa ps.length qc] 62)) #[] 0 (by simp) (by decide) rfl
  have hz : (((w.alloc (Obj.cells #[Value.slice pa ss.length pc, Value.bool co, Value.string bo, Value.int .i64 ve, Value.slice qa ps.length qc] 62)).alloc (Obj.cells #[Value.slice none 0 0, Value.bool false, Value.string { data := #[] }, Value.int .i64 0, Value.slice none 0 0] 62)).alloc (Obj.cells #[Value.slice pa ss.length pc, Value.bool co, Value.string bo, Value.int .i64 ve, Value.slice qa ps.length qc] 62)).heap.size = w.heap.size + 1 + 1 + 1 := by simp
  rw [hz] at hown
  have HST := hide (H1.out.below hb1 hB)
  have HB1 := hide hb1
  have HOWN := hide hown
  clear hb0 hb1 hown hz
  go_wp2_with (at_builtin; refine wp_append_strs rfl _ _ rfl (w.heap.size + 1 + 1 + 1) _ ss ss.length rfl rfl HOWN.out B pa pc rfl HST.out N1.out (by omega) (by simp) ?_)
  intro g c w1 r1 hg hc1 hc2 b1
  have fr := bcellQ b1
  have d4 : w1.cell? ⟨w.heap.size, 4, none⟩ = some (.slice qa ps.length qc) := by rw [fr.1 _ _ (by omega)]; simp [go_sem, go_sem]
  have e0 : w1.cell? ⟨w.heap.size + 1 + 1, 0, none⟩ = some (.slice pa ss.length pc) := by rw [fr.1 _ _ (by omega)]; simp [go_sem, go_sem]
  have f0 : w1.frozen? ⟨w.heap.size + 1 + 1, 0, none⟩ = false := by rw [fr.2 _ _ (by omega)]; simp [go_sem, go_sem]
  have z0 : w1.cell? ⟨w.heap.size + 1, 0, none⟩ = some (.slice none 0 0) := by rw [fr.1 _ _ (by omega)]; simp [go_sem, go_sem]
  have y0 : w1.frozen? ⟨w.heap.size + 1, 0, none⟩ = false := by rw [fr.2 _ _ (by omega)]; simp [go_sem, go_sem]
  have e1 : w1.cell? ⟨w.heap.size + 1 + 1, 1, none⟩ = some (.bool co) := by rw [fr.1 _ _ (by omega)]; simp [go_sem, go_sem]
  have f1 : w1.frozen? ⟨w.heap.size + 1 + 1, 1, none⟩ = false := by rw [fr.2 _ _ (by omega)]; simp [go_sem, go_sem]
  have z1 : w1.cell? ⟨w.heap.size + 1, 1, none⟩ = some (.bool false) := by rw [fr.1 _ _ (by omega)]; simp [go_sem, go_sem]
  have y1 : w1.frozen? ⟨w.heap.size + 1, 1, none⟩ = false := by rw [fr.2 _ _ (by omega)]; simp [go_sem, go_sem]
  have e2 : w1.cell? ⟨w.heap.size + 1 + 1, 2, none⟩ = some (.string bo) := by rw [fr.1 _ _ (by omega)]; simp [go_sem, go_sem]
  have f2 : w1.frozen? ⟨w.heap.size + 1 + 1, 2, none⟩ = false := by rw [fr.2 _ _ (by omega)]; simp [go_sem, go_sem]
  have z2 : w1.cell? ⟨w.heap.size + 1, 2, none⟩ = some (.string { data := #[] }) := by rw [fr.1 _ _ (by omega)]; simp [go_sem, go_sem]
  have y2 : w1.frozen? ⟨w.heap.size + 1, 2, none⟩ = false := by rw [fr.2 _ _ (by omega)]; simp [go_sem, go_sem]
  have e3 : w1.cell? ⟨w.heap.size + 1 + 1, 3, none⟩ = some (.int .i64 ve) := by rw [fr.1 _ _ (by omega)]; simp [go_sem, go_sem]
  have f3 : w1.frozen? ⟨w.heap.size + 1 + 1, 3, none⟩ = false := by rw [fr.2 _ _ (by omega)]; simp [go_sem, go_sem]
  have z3 : w1.cell? ⟨w.heap.size + 1, 3, none⟩ = some (.int .i64 0) := by rw [fr.1 _ _ (by omega)]; simp [go_sem, go_sem]
  have y3 : w1.frozen? ⟨w.heap.size + 1, 3, none⟩ = false := by rw [fr.2 _ _ (by omega)]; simp [go_sem, go_sem]
  have e4 : w1.cell? ⟨w.heap.size + 1 + 1, 4, none⟩ = some (.slice qa ps.length qc) := by rw [fr.1 _ _ (by omega)]; simp [go_sem, go_sem]
  have f4 : w1.frozen? ⟨w.heap.size + 1 + 1, 4, none⟩ = false := by rw [fr.2 _ _ (by omega)]; simp [go_sem, go_sem]
  have z4 : w1.cell? ⟨w.heap.size + 1, 4, none⟩ = some (.slice none 0 0) := by rw [fr.1 _ _ (by omega)]; simp [go_sem, go_sem]
  have y4 : w1.frozen? ⟨w.heap.size + 1, 4, none⟩ = false := by rw [fr.2 _ _ (by omega)]; simp [go_sem, go_sem]
  have hgz := r1.1
  have hNz : w.heap.size < w1.heap.size := by omega
  have hNy : w.heap.size + 1 < w1.heap.size := by omega
  have hNx : w.heap.size + 1 + 1 < w1.heap.size := by omega
  have c1 := HB1.out.trans (b1.mono (by omega))
  have c2 := c1.setCell (p := ⟨w.heap.size + 1 + 1, 0, none⟩) (by simp; omega) (.slice (some ⟨g, 0, none⟩) ss.length c)
  have c3 := c2.alloc c2.size (Obj.cells #[] 88)
  have hown2 := World.ownsRow_made (e := 88) (size := 3) (base := w1.heap.size) (w1.setCell ⟨w.heap.size + 1 + 1, 0, none⟩ (.slice (some ⟨g, 0, none⟩) ss.length c)) #[] 0 (by simp) (by decide) rfl
  have hz2 : (w1.setCell ⟨w.heap.size + 1 + 1, 0, none⟩ (.slice (some ⟨g, 0, none⟩) ss.length c)).heap.size = w1.heap.size := by simp
  rw [hz2] at hown2
  have HST2 := hide (H2.out.below c3 hB)
  have HOWN2 := hide hown2
  have HC3 := hide c3
  have hc1z : w.heap.size ≤ w1.heap.size := c1.size
  have r2 := (r1.setCell ⟨w.heap.size + 1 + 1, 0, none⟩ (.slice (some ⟨g, 0, none⟩) ss.length c) (by simp; omega)).below ((Below.refl _ _).alloc (Nat.le_refl _) (Obj.cells #[] 88))
  have R2 := hide r2
  clear fr c1 c2 c3 hown2 hz2 r1 r2 b1 HOWN HST HB1
  go_wp2_with (at_builtin; refine wp_append_props rfl _ _ rfl w1.heap.size _ ps ps.length rfl rfl HOWN2.out B qa qc rfl HST2.out N2.out (by omega) (by simp) ?_)
  intro q d w2 r3 hq3 hd1 hd2 b3
  have fr := bcellQ b3
  have hgw : w.heap.size + 1 + 1 < w1.heap.size := by omega
  have e0' : w2.cell? ⟨w.heap.size + 1 + 1, 0, none⟩ = some (.slice (some ⟨g, 0, none⟩) ss.length c) := by rw [fr.1 _ _ hgw]; exact cellSA0 e0 _ _
  have f0' : w2.frozen? ⟨w.heap.size + 1 + 1, 0, none⟩ = false := by rw [fr.2 _ _ hgw]; exact frozSA f0 (by omega) _ _ _
  have z0' : w2.cell? ⟨w.heap.size + 1, 0, none⟩ = some (.slice none 0 0) := by rw [fr.1 _ _ (by omega)]; exact cellSA z0 (by simp) _ _
  have y0' : w2.frozen? ⟨w.heap.size + 1, 0, none⟩ = false := by rw [fr.2 _ _ (by omega)]; exact frozSA y0 (by omega) _ _ _
  have e1' : w2.cell? ⟨w.heap.size + 1 + 1, 1, none⟩ = some (.bool co) := by rw [fr.1 _ _ hgw]; exact cellSA e1 (by simp) _ _
  have f1' : w2.frozen? ⟨w.heap.size + 1 + 1, 1, none⟩ = false := by rw [fr.2 _ _ hgw]; exact frozSA f1 (by omega) _ _ _
  have z1' : w2.cell? ⟨w.heap.size + 1, 1, none⟩ = some (.bool false) := by rw [fr.1 _ _ (by omega)]; exact cellSA z1 (by simp) _ _
  have y1' : w2.frozen? ⟨w.heap.size + 1, 1, none⟩ = false := by rw [fr.2 _ _ (by omega)]; exact frozSA y1 (by omega) _ _ _
  have e2' : w2.cell? ⟨w.heap.size + 1 + 1, 2, none⟩ = some (.string bo) := by rw [fr.1 _ _ hgw]; exact cellSA e2 (by simp) _ _
  have f2' : w2.frozen? ⟨w.heap.size + 1 + 1, 2, none⟩ = false := by rw [fr.2 _ _ hgw]; exact frozSA f2 (by omega) _ _ _
  have z2' : w2.cell? ⟨w.heap.size + 1, 2, none⟩ = some (.string { data := #[] }) := by rw [fr.1 _ _ (by omega)]; exact cellSA z2 (by simp) _ _
  have y2' : w2.frozen? ⟨w.heap.size + 1, 2, none⟩ = false := by rw [fr.2 _ _ (by omega)]; exact frozSA y2 (by omega) _ _ _
  have e3' : w2.cell? ⟨w.heap.size + 1 + 1, 3, none⟩ = some (.int .i64 ve) := by rw [fr.1 _ _ hgw]; exact cellSA e3 (by simp) _ _
  have f3' : w2.frozen? ⟨w.heap.size + 1 + 1, 3, none⟩ = false := by rw [fr.2 _ _ hgw]; exact frozSA f3 (by omega) _ _ _
  have z3' : w2.cell? ⟨w.heap.size + 1, 3, none⟩ = some (.int .i64 0) := by rw [fr.1 _ _ (by omega)]; exact cellSA z3 (by simp) _ _
  have y3' : w2.frozen? ⟨w.heap.size + 1, 3, none⟩ = false := by rw [fr.2 _ _ (by omega)]; exact frozSA y3 (by omega) _ _ _
  have e4' : w2.cell? ⟨w.heap.size + 1 + 1, 4, none⟩ = some (.slice qa ps.length qc) := by rw [fr.1 _ _ hgw]; exact cellSA e4 (by simp) _ _
  have f4' : w2.frozen? ⟨w.heap.size + 1 + 1, 4, none⟩ = false := by rw [fr.2 _ _ hgw]; exact frozSA f4 (by omega) _ _ _
  have z4' : w2.cell? ⟨w.heap.size + 1, 4, none⟩ = some (.slice none 0 0) := by rw [fr.1 _ _ (by omega)]; exact cellSA z4 (by simp) _ _
  have y4' : w2.frozen? ⟨w.heap.size + 1, 4, none⟩ = false := by rw [fr.2 _ _ (by omega)]; exact frozSA y4 (by omega) _ _ _
  have R3 := hide (show RowS w2 g ss from by
    refine ⟨Nat.lt_of_lt_of_le hgz (by have := b3.size; simp at this; omega), fun j hj => ?_⟩
    rw [fr.1 _ _ hgz, fr.2 _ _ hgz]
    exact R2.out.2 j hj)
  have Q3 := hide r3
  have C4 := hide (HC3.out.trans (b3.mono hc1z))
  have hd1' := hd1
  have hqz : w.heap.size + 1 + 1 < q := by omega
  have hgq : g < q := by omega
  clear fr e0 e1 e2 e3 e4 f0 f1 f2 f3 f4 z0 z1 z2 z3 z4 y0 y1 y2 y3 y4 d4 b3 r3 HOWN2 HST2 HC3 R2 H1 H2 N1 N2
  go_wp2
  refine bodyPost_ret (v := .agg #[.slice (some ⟨g, 0, none⟩) ss.length c, .bool co, .string bo, .int .i64 ve, .slice (some ⟨q, 0, none⟩) ps.length d]) (by simp [results, Tryz.results90, go_sem, z0', z1', z2', z3', z4']) rfl ⟨⟨_, _, _, _, rfl, by omega, hgq, ?_, ?_, hc1, hc2, hd1, hd2⟩, ?_⟩
  · exact (((((R3.out.setCell _ _ (by first | (simp; done) | (simp; omega))).setCell _ _ (by first | (simp; done) | (simp; omega))).setCell _ _ (by first | (simp; done) | (simp; omega))).setCell _ _ (by first | (simp; done) | (simp; omega))).setCell _ _ (by first | (simp; done) | (simp; omega))).setCell _ _ (by first | (simp; done) | (simp; omega))
  · exact (((((Q3.out.setCell _ _ (by first | (simp; done) | (simp; omega))).setCell _ _ (by first | (simp; done) | (simp; omega))).setCell _ _ (by first | (simp; done) | (simp; omega))).setCell _ _ (by first | (simp; done) | (simp; omega))).setCell _ _ (by first | (simp; done) | (simp; omega))).setCell _ _ (by first | (simp; done) | (simp; omega))
  · exact (((((C4.out.setCell (by first | (simp; done) | (simp; omega)) _).setCell (by first | (simp; done) | (simp; omega)) _).setCell (by first | (simp; done) | (simp; omega)) _).setCell (by first | (simp; done) | (simp; omega)) _).setCell (by first | (simp; done) | (simp; omega)) _).setCell (by first | (simp; done) | (simp; omega)) _
end Go.Proofs.YtifnolomekhmfaaGreat
namespace Go.Proofs.YtifnolomekhmfaaGreat
open Go.RowKit M
set_option linter.unusedVariables false

theorem GrowR.up {w : World} {B lo lo' : Nat} {v : Value} {ts : List RsT} (g : GrowR w B v ts lo) (h1 : lo ≤ lo') (h2 : lo' ≤ w.heap.size) : GrowR w B v ts lo' := by
  obtain ⟨b, cap, hv, hb⟩ := g.blk
  exact ⟨g.own, ⟨b, cap, hv, Nat.lt_of_lt_of_le hb h1⟩, h2, fun j hj => by obtain ⟨k1, k2, k3, k4⟩ := g.el j hj; exact ⟨k1, k2, Nat.lt_of_lt_of_le k3 h1, k4⟩, g.ord, g.caps, g.room⟩
theorem caps_snoc {ts : List RsT} {r : Rs} {p q : Nat} (h : ∀ j (hj : j < ts.length), ts[j].pc = ts[j].r.pa.length ∧ ts[j].qc = ts[j].r.ps.length) : ∀ j (hj : j < (ts ++ [(⟨r, p, r.pa.length, q, r.ps.length⟩ : RsT)]).length), (ts ++ [(⟨r, p, r.pa.length, q, r.ps.length⟩ : RsT)])[j].pc = (ts ++ [(⟨r, p, r.pa.length, q, r.ps.length⟩ : RsT)])[j].r.pa.length ∧ (ts ++ [(⟨r, p, r.pa.length, q, r.ps.length⟩ : RsT)])[j].qc = (ts ++ [(⟨r, p, r.pa.length, q, r.ps.length⟩ : RsT)])[j].r.ps.length := by
  intro j hj
  by_cases e : j < ts.length
  · rw [List.getElem_append_left e]; exact h j e
  · have ej : j = ts.length := by simp at hj; omega
    subst ej
    simp
end Go.Proofs.YtifnolomekhmfaaGreat
namespace Go.Proofs.YtifnolomekhmfaaGreat
open Go.RowKit M
set_option linter.unusedVariables false

theorem take_snocR {rs : List Rs} {ts : List RsT} {k : Nat} (h : ts.map (·.r) = rs.take k) (hk : k < rs.length) (p c q d : Nat) : (ts ++ [(⟨rs[k], p, c, q, d⟩ : RsT)]).map (·.r) = rs.take (k + 1) := by
  rw [List.map_append, h, List.take_succ_eq_append_getElem hk]; rfl

set_option maxRecDepth 100000 in
set_option maxHeartbeats 4000000 in
theorem specCopyAll_any (a : Option Addr) (rs : List Rs) (cap B : Nat) (w : World) (h : Rss w B a rs) (hB : B ≤ w.heap.size) (hl : rs.length ≤ 1048576) (hs : ∀ r ∈ rs, r.pa.length ≤ 1048576 ∧ r.ps.length ≤ 1048576) :
    Calls Tryz.prog 70 #[.slice a rs.length cap] w fun e w' => (∃ v ts, e = .returned v ∧ GrowR w' w.heap.size v ts w'.heap.size ∧ ts.map (·.r) = rs) ∧ Below w.heap.size w w' := by
  have HS := hide hs
  clear hs
  go_enter Tryz.func70, Tryz.ntmps70
  go_wp2
  go_loopw [3, 4] (fun v i wr => ∃ (k lo : Nat) (ts : List RsT), k ≤ rs.length ∧ i = .int .i64 k ∧ GrowR wr w.heap.size v ts lo ∧ w.heap.size ≤ lo ∧ ts.map (·.r) = rs.take k ∧ Below w.heap.size w wr) (fun _ i _ => rs.length - (intOf i).toNat)
  case atStart => exact ⟨0, w.heap.size + 1, [], Nat.zero_le _, rfl, GrowR.made w w.heap.size (Nat.le_refl _), by omega, rfl, (Below.refl _ _).alloc (Nat.le_refl _) _⟩
  case round =>
    obtain ⟨k, lo, ts, hk, rfl, hG, hlo, hts, hbe⟩ := hrel
    have HG := hide hG
    have HTS := hide hts
    clear hG hts
    by_cases hlt : k < rs.length
    · obtain ⟨b1, o1, rfl, hb1, hcc⟩ := (h.below hbe hB) (by omega)
      obtain ⟨pa, pc, qa, qc, ⟨hc0, hc1, hc2, hc3, hc4⟩, hin⟩ := hcc k hlt
      clear hcc
      have hsk := HS.out _ (List.getElem_mem hlt)
      have hlo2 : lo ≤ wr.heap.size := HG.out.top
      have HCp := hide (specCopy_any rs[k] pa pc qa qc B wr hin (Nat.le_trans hB hbe.size) hsk.1 hsk.2)
      have hlen : ts.length ≤ 1048576 := by
        have := congrArg List.length HTS.out
        simp only [List.length_map, List.length_take] at this
        omega
      clear hin hsk
      go_wp2_with fail
      refine HCp.out.mono ?_
      rintro e w3 ⟨⟨pp, cc, qq, dd, rfl, hpp, hpq, r3, q3, k1, k2, k3, k4⟩, b5⟩
      have c3 := hbe.trans (b5.mono hbe.size)
      have bA := (Below.refl w3.heap.size w3).alloc (Nat.le_refl _) (Obj.cells #[.slice (some ⟨pp, 0, none⟩) (rs[k]).pa.length cc, .bool (rs[k]).co, .string (rs[k]).bo, .int .i64 (rs[k]).ve, .slice (some ⟨qq, 0, none⟩) (rs[k]).ps.length dd] 62)
      have HG4 := hide ((HG.out.next b5).next bA)
      have HR := hide (r3.below bA)
      have HQ := hide (q3.below bA)
      have HC4 := hide (c3.trans (bA.mono c3.size))
      have HKK := hide (And.intro k1 (And.intro k2 (And.intro k3 k4)))
      clear r3 q3 b5 bA c3 HCp k1 k2 k3 k4 hc0 hc1 hc2 hc3 hc4
      go_wp2_with (at_builtin; refine wp_append_res rfl _ _ rfl w.heap.size lo _ ts rfl HG4.out w3.heap.size ⟨rs[k], pp, cc, qq, dd⟩ rfl ?_ ?_ hlo (Nat.le_trans hlo2 hpp) hpq HR.out HQ.out HKK.out ?_)
      · exact ⟨by simp, by simp, by simp, by simp, by simp⟩
      · omega
      · intro v' w' hG' hB'
        have HG' := hide hG'
        have HC' := hide (HC4.out.trans hB')
        clear hG' hB'
        go_wp2
        go_roundw
        case rel => exact ⟨k + 1, _, _, by omega, by go_num, HG'.out, HC'.out.size, take_snocR HTS.out hlt _ _ _ _, HC'.out⟩
        case measure => simp [intOf]; omega
    · have hm : ts.map (·.r) = rs := by rw [HTS.out, List.take_of_length_le (by omega)]
      have HM := hide hm
      clear hm
      go_wp2
      go_ret
      exact ⟨⟨_, ts, rfl, HG.out.up HG.out.top (Nat.le_refl _), HM.out⟩, hbe⟩
end Go.Proofs.YtifnolomekhmfaaGreat
