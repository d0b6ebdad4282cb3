/-
  What spec.l11May does.
  What the specification's Under does.
  'append([]impl.Prop{}, l...)' of whatever slice of what is known.
  What spec.l10Copy does.
  What spec.l11Without does.
  What spec.l10CopyAll does.
  What a turn of the specification hands back.
  What spec.Remove does.
  What the laws' own helps on what is known do: sizes, copies.
  What the laws' own helps on slices of texts do: sizes, copies, the same.
  What laws.toStringS does: a row of one's own.
  What the laws' own helps on things do: sizes, copies.
-/
import Derived.Test.YtepdfppbnepamabSpecTreeOk
import Derived.Test.YtepdfppbnepamabMathOps
import Derived.Test.YtepdfppbnepamabSpecLess
import Derived.Test.YtepdfppbnepamabWithout
import Derived.Test.YtepdfppbnepamabMathFind
import Derived.Laws.OwnMore
import Derived.Test.YtepdfppbnepamabSpecProp
namespace Go.Proofs.Ytepdfppbnepamab
open Go.RowKit M
set_option linter.unusedVariables false

set_option maxHeartbeats 2000000 in
theorem specMay_any (a : Option Addr) (rs : List Rs) (cap B : Nat) (b : Option Addr) (p : List ByteArray) (cap' C : Nat) (v : Int) (w : World) (h : Rss w B a rs) (h' : Strs w C b p) (hB : B ≤ w.heap.size) (hC : C ≤ w.heap.size) (hs : ShortT rs) (hl : rs.length ≤ maxLen) (hlp : ∀ r ∈ rs, r.pa.length ≤ 1048576) (hs' : Short p) (hl' : p.length ≤ maxLen) :
    Calls Try.prog 19 #[.slice a rs.length cap, .slice b p.length cap', .int .i64 v] w fun e w' => e = .returned (.int .i64 (mayI rs p v)) ∧ Below w.heap.size w w' := by
  have HT := hide (specTreeOk_any a rs cap B w h hB hs hl hlp)
  have HP := hide (fun W (hb : Below w.heap.size w W) => specPathOk_any b p cap' C W (h'.below hb hC) hs' hl')
  have HV := hide (fun (W : World) => l1In_any v 0 99999 W)
  have H5 := hide (fun h => mayI_500 (rs := rs) (p := p) (v := v) h)
  have H4 := hide (fun h h1 => mayI_400 (rs := rs) (p := p) (v := v) h h1)
  have H7 := hide (fun h h1 h2 => mayI_507 (rs := rs) (p := p) (v := v) h h1 h2)
  have H0 := hide (fun h h1 h2 => mayI_0 (rs := rs) (p := p) (v := v) h h1 h2)
  generalize mayI rs p v = M at *
  generalize treeB rs = bt at *
  generalize pathB p = bp at *
  generalize inB v 0 99999 = bv at *
  clear h h'
  cases bt
  · have hM := H5.out rfl
    subst hM
    go_enter Try.func19, Try.ntmps19
    go_wp2_with fail
    refine HT.out.mono ?_
    rintro e w1 ⟨rfl, b1⟩
    go_wp2
    go_ret
    exact ⟨rfl, b1⟩
  cases bp
  · have hM := H4.out rfl rfl
    subst hM
    go_enter Try.func19, Try.ntmps19
    go_wp2_with fail
    refine HT.out.mono ?_
    rintro e w1 ⟨rfl, b1⟩
    have HP1 := hide (HP.out w1 b1)
    go_wp2_with fail
    refine HP1.out.mono ?_
    rintro e w2 ⟨rfl, hw⟩
    obtain rfl := hw.symm
    go_wp2
    go_ret
    exact ⟨rfl, b1⟩
  cases bv
  · have hM := H7.out rfl rfl rfl
    subst hM
    go_enter Try.func19, Try.ntmps19
    go_wp2_with fail
    refine HT.out.mono ?_
    rintro e w1 ⟨rfl, b1⟩
    have HP1 := hide (HP.out w1 b1)
    go_wp2_with fail
    refine HP1.out.mono ?_
    rintro e w2 ⟨rfl, hw⟩
    obtain rfl := hw.symm
    go_wp2_with fail
    refine (HV.out _).mono ?_
    rintro e w2 ⟨rfl, hw⟩
    obtain rfl := hw.symm
    go_wp2
    go_ret
    exact ⟨rfl, b1⟩
  · have hM := H0.out rfl rfl rfl
    subst hM
    go_enter Try.func19, Try.ntmps19
    go_wp2_with fail
    refine HT.out.mono ?_
    rintro e w1 ⟨rfl, b1⟩
    have HP1 := hide (HP.out w1 b1)
    go_wp2_with fail
    refine HP1.out.mono ?_
    rintro e w2 ⟨rfl, hw⟩
    obtain rfl := hw.symm
    go_wp2_with fail
    refine (HV.out _).mono ?_
    rintro e w2 ⟨rfl, hw⟩
    obtain rfl := hw.symm
    go_wp2
    go_ret
    exact ⟨rfl, b1⟩
end Go.Proofs.Ytepdfppbnepamab
namespace Go.Proofs.Ytepdfppbnepamab
open Go.RowKit
set_option linter.unusedVariables false

set_option maxHeartbeats 400000 in
theorem specUnder_any (a b : Option Addr) (ss tt : List ByteArray) (cap cap' B C : Nat) (w : World) (h : Strs w B a ss) (h' : Strs w C b tt) (hl : ss.length ≤ maxLen) (hl' : tt.length ≤ maxLen) (hc : ss.length ≤ cap) (hc' : cap ≤ maxLen) :
    Calls Try.prog 38 #[.slice a ss.length cap, .slice b tt.length cap'] w fun e w' => e = .returned (.bool (underB ss tt)) ∧ ∀ D, Below D w w' := by
  have hl1 := hl
  have hl2 := hl'
  have hc2 := hc'
  unfold maxLen at hl hl' hc'
  by_cases hlt : tt.length < ss.length
  · have ht : (ss.take tt.length).length = tt.length := by rw [List.length_take]; omega
    have cE := fun w1 cap1 (hh : Strs w1 B a ss) (hh' : Strs w1 C b tt) => specSamePath_any a b (ss.take tt.length) tt cap1 cap' B C w1 (hh.take _) hh' (by omega) hl2
    rw [ht] at cE
    obtain ⟨b1, o1, rfl, _, _⟩ := h (by omega)
    go_enter Try.func38, Try.ntmps38
    go_wp2_with fail
    refine (cE _ _ h h').mono ?_
    rintro e w1 ⟨rfl, hb⟩
    go_wp2
    go_ret
    exact ⟨ret_bool (by simp [underB, hlt]), hb⟩
  · go_enter Try.func38, Try.ntmps38
    go_wp2
    go_ret
    exact ⟨ret_bool (by simp [underB, hlt]), fun D => Below.refl _ _⟩

end Go.Proofs.Ytepdfppbnepamab
namespace Go.Proofs.Ytepdfppbnepamab
open Go.RowKit M
set_option linter.unusedVariables false

def ppCells (ps : List Pp) : List Value := ps.flatMap fun p => [.string p.1, .string p.2.1, .string p.2.2]
theorem ppCells_length (ps : List Pp) : (ppCells ps).length = ps.length * 3 := by
  induction ps with
  | nil => rfl
  | cons t l ih => simp only [ppCells, List.flatMap_cons, List.length_append, List.length_cons] at *; rw [ih]; simp only [List.length_nil]; omega
theorem ppCells_at (ps : List Pp) : ∀ j (hj : j < ps.length), (ppCells ps)[j * 3]? = some (.string ps[j].1) ∧ (ppCells ps)[j * 3 + 1]? = some (.string ps[j].2.1) ∧ (ppCells ps)[j * 3 + 2]? = some (.string ps[j].2.2) := by
  induction ps with
  | nil => intro j hj; exact absurd hj (Nat.not_lt_zero _)
  | cons t l ih =>
    intro j hj
    have e : ppCells (t :: l) = [.string t.1, .string t.2.1, .string t.2.2] ++ ppCells l := by simp [ppCells]
    rw [e]
    match j, hj with
    | 0, _ => simp
    | j + 1, hj =>
      have h1 := ih j (by simpa using hj)
      have hl : ([.string t.1, .string t.2.1, .string t.2.2] : List Value).length = 3 := rfl
      rw [List.getElem?_append_right (by rw [hl]; omega), List.getElem?_append_right (by rw [hl]; omega), List.getElem?_append_right (by rw [hl]; omega), hl]
      rw [show (j + 1) * 3 - 3 = j * 3 by omega, show (j + 1) * 3 + 1 - 3 = j * 3 + 1 by omega, show (j + 1) * 3 + 2 - 3 = j * 3 + 2 by omega]
      simpa using h1
theorem frozenP {w : World} {g : Nat} {cur : Array Value} {e : TypeId} (hh : w.heap[g]? = some (.cells cur e (0, 0))) (i : Nat) : w.frozen? ⟨g, i, none⟩ = false := by
  simp only [World.frozen?, hh, Bool.and_eq_false_iff, decide_eq_false_iff_not]
  right
  omega
theorem below_grownP {w w' : World} {B n : Nat} {v : Value} {xs : List Value} (hown : w.ownsRow B 63 3 v n xs) (hB : B ≤ w.heap.size) (hg : w.grownBy w' v.ownBlock) : Below B w w' :=
  ⟨hg.os, hg.tape, hg.output, hg.size, fun k hk => hg.block k (by omega) (fun e => by have := (World.ownsRow.lt hown k e.symm).1; omega)⟩
theorem owns_rowP {w : World} {B g n cap : Nat} {ps : List Pp} (h : w.ownsRow B 63 3 (.slice (some ⟨g, 0, none⟩) n cap) n (ppCells ps)) (hn : ps.length = n) : RowP w g ps ∧ B ≤ g ∧ n ≤ cap ∧ cap ≤ maxLen := by
  subst hn
  have hlt := h.lt g rfl
  rcases h.2 with ⟨e, _⟩ | ⟨g', cap', cur, hv, hB, hh, h1, h2, _⟩
  · cases e
  · cases hv
    refine ⟨⟨hlt.2, fun j hj => ?_, fun i => frozenP hh i⟩, hlt.1, h1, h2⟩
    obtain ⟨c0, c1, c2⟩ := ppCells_at ps j hj
    have hl := ppCells_length ps
    refine ⟨?_, ?_, ?_⟩
    · rw [h.cellAt (j * 3) (by omega)]; exact c0
    · rw [h.cellAt (j * 3 + 1) (by omega)]; exact c1
    · rw [h.cellAt (j * 3 + 2) (by omega)]; exact c2

/-- The same, in a new row. -/
theorem wp_append_props {w : World} {ops : Array Oper} {rest : List Oper} {o : Oper} {a : Act} {Q : Exit → Act → World → Prop} (hgd : o.guard = none) (s x : Operand)
    (ho : o.op = .call { callee := .builtin .append, args := #[s, x], argTypes := #[45, 45] })
    (B g0 : Nat) (l : List Pp) (n : Nat) (hn : n = l.length) (hs : a.eval s = .slice (some ⟨g0, 0, none⟩) 0 0) (hown : w.ownsRow B 63 3 (.slice (some ⟨g0, 0, none⟩) 0 0) 0 [])
    (C : Nat) (pa : Option Addr) (pc : Nat) (hx : a.eval x = .slice pa n pc) (hst : Pps w C pa l) (hpn : pa = none → pc = 0) (hlen : n ≤ 1048576) (hB : B ≤ w.heap.size)
    (h : ∀ g cap w', RowP w' g l → B ≤ g → n ≤ cap → cap ≤ maxLen → Below B w w' → wpList Try.prog ops Q rest (a.put o.dst (.slice (some ⟨g, 0, none⟩) n cap)) w') : wpList Try.prog ops Q (o :: rest) a w := by
  obtain ⟨i0, hi, hz0, hz1, hz2⟩ := info_parts info_prop
  cases pa with
  | none =>
    have h0 : n = 0 := by
      rw [hn]
      by_cases e : 0 < l.length
      · obtain ⟨_, _, e', _⟩ := hst e; cases e'
      · omega
    have hl : l = [] := List.length_eq_zero_iff.1 (by omega)
    subst hl h0
    rw [hpn rfl] at hx
    have hr := run_append_owned_none (P := Try.prog) (w := w) B 45 o.type 63 i0 3 Try.underlying45 hi _ _ _ hown
    refine wpList_plain hgd fun K hK => ?_
    unfold Oper.wp execOp
    simp only [ho, resolve, invoke, builtin, Sem.run_bind, Sem.run_pure, Result.andThen_ok, List.map_toArray, List.map_cons, List.map_nil, hs, hx, hr]
    obtain ⟨r1, r2, r3, r4⟩ := owns_rowP (ps := []) (n := 0) hown rfl
    exact hK _ _ (h g0 0 w r1 r2 r3 r4 (Below.refl _ _))
  | some ad =>
    refine wpList_append_own w hgd s x 45 ho B 63 i0 _ 3 48 Try.underlying45 hi hz0 hz1 hz2 rfl (by decide) _ 0 _ hs hown ad n pc (ppCells l) hx (by rw [ppCells_length, hn]) ?_ ?_ ?_ ?_ hB ?_
    · intro j u hj
      have hjl : j < l.length * 3 := by have := (List.getElem?_eq_some_iff.1 hj).1; rwa [ppCells_length] at this
      obtain ⟨b, o', e, _, hc⟩ := hst (by omega)
      have e' : ad = ⟨b, o', none⟩ := by cases e; rfl
      subst e'
      have e2 : (⟨b, o', none⟩ : Addr).add j = ⟨b, o' + j, none⟩ := by unfold Addr.add; split <;> simp_all
      rw [e2]
      obtain ⟨d0, d1, d2⟩ := hc (j / 3) (by omega)
      obtain ⟨c0, c1, c2⟩ := ppCells_at l (j / 3) (by omega)
      have e3 : j = j / 3 * 3 ∨ j = j / 3 * 3 + 1 ∨ j = j / 3 * 3 + 2 := by omega
      rcases e3 with e3 | e3 | e3
      · rw [← e3] at c0 d0; rw [d0, ← c0]; exact hj
      · rw [← e3] at c1; rw [show o' + j = o' + j / 3 * 3 + 1 by omega, d1, ← c1]; exact hj
      · rw [← e3] at c2; rw [show o' + j = o' + j / 3 * 3 + 2 by omega, d2, ← c2]; exact hj
    · intro u hu
      unfold ppCells at hu
      obtain ⟨y, _, hy⟩ := List.mem_flatMap.1 hu
      simp only [List.mem_cons, List.not_mem_nil, or_false] at hy
      rcases hy with rfl | rfl | rfl <;> rfl
    · unfold maxLen; omega
    · omega
    · intro v' w' ho' hg hnn
      rw [Nat.zero_add] at ho'
      obtain ⟨g, cap, rfl⟩ : ∃ g cap, v' = .slice (some ⟨g, 0, none⟩) n cap := by
        rcases ho'.2 with ⟨e, h0⟩ | ⟨g, cap, cur, hv, _⟩
        · have := (hnn.1 e).1; cases this
        · exact ⟨g, cap, hv⟩
      have ho2 : w'.ownsRow B 63 3 (.slice (some ⟨g, 0, none⟩) n cap) n (ppCells l) := ho'
      obtain ⟨r1, r2, r3, r4⟩ := owns_rowP ho2 hn.symm
      exact h g cap w' r1 r2 r3 r4 (below_grownP hown hB hg)
end Go.Proofs.Ytepdfppbnepamab
namespace Go.Proofs.Ytepdfppbnepamab
open Go.RowKit M
set_option linter.unusedVariables false

theorem cellSA {w1 : World} {p : Addr} {n i : Nat} {u : Value} (h : w1.cell? ⟨n, i, none⟩ = some u) (hne : p ≠ ⟨n, i, none⟩) (v : Value) (o : Obj) : ((w1.setCell p v).alloc o).cell? ⟨n, i, none⟩ = some u := by
  have e : (w1.setCell p v).cell? ⟨n, i, none⟩ = some u := by rw [World.cell?_setCell_other _ _ _ _ hne]; exact h
  rw [World.cell?_alloc_lt _ _ _ (World.block_lt_of_cell? _ _ e)]
  exact e
theorem cellSA0 {w1 : World} {p : Addr} {u : Value} (h : w1.cell? p = some u) (v : Value) (o : Obj) : ((w1.setCell p v).alloc o).cell? p = some v := by
  have e : (w1.setCell p v).cell? p = some v := World.cell?_setCell_same _ _ _ h
  rw [World.cell?_alloc_lt _ _ _ (World.block_lt_of_cell? _ _ e)]
  exact e
theorem frozSA {w1 : World} {n i : Nat} (h : w1.frozen? ⟨n, i, none⟩ = false) (hn : n < w1.heap.size) (p : Addr) (v : Value) (o : Obj) : ((w1.setCell p v).alloc o).frozen? ⟨n, i, none⟩ = false := by
  have b := (Below.refl (w1.setCell p v).heap.size (w1.setCell p v)).alloc (Nat.le_refl _) o
  rw [b.frozen (p := ⟨n, i, none⟩) (by simpa using hn), World.frozen?_setCell]
  exact h
theorem bcellQ {B : Nat} {W w1 : World} (hb : Below B W w1) : (∀ b o, b < B → w1.cell? ⟨b, o, none⟩ = W.cell? ⟨b, o, none⟩) ∧ (∀ b o, b < B → w1.frozen? ⟨b, o, none⟩ = W.frozen? ⟨b, o, none⟩) :=
  ⟨fun b o h => hb.cell (p := ⟨b, o, none⟩) h, fun b o h => hb.frozen (p := ⟨b, o, none⟩) h⟩

set_option maxRecDepth 100000 in
set_option maxHeartbeats 4000000 in
theorem specCopy_any (r : Rs) (pa : Option Addr) (pc : Nat) (qa : Option Addr) (qc B : Nat) (w : World) (h : RsIn w B r pa pc qa qc) (hB : B ≤ w.heap.size) (hp : r.pa.length ≤ 1048576) (hq : r.ps.length ≤ 1048576) :
    Calls Try.prog 37 #[.agg #[.slice pa r.pa.length pc, .bool r.co, .string r.bo, .int .i64 r.ve, .slice qa r.ps.length qc]] w fun e w' => (∃ p c q d : Nat, e = .returned (.agg #[.slice (some ⟨p, 0, none⟩) r.pa.length c, .bool r.co, .string r.bo, .int .i64 r.ve, .slice (some ⟨q, 0, none⟩) r.ps.length d]) ∧ w.heap.size ≤ p ∧ p < q ∧ RowS w' p r.pa ∧ RowP w' q r.ps ∧ r.pa.length ≤ c ∧ c ≤ maxLen ∧ r.ps.length ≤ d ∧ d ≤ maxLen) ∧ Below w.heap.size w w' := by
  have h1 := h.ph
  have h2 := h.qh
  have n1 := h.pn
  have n2 := h.qn
  clear h
  obtain ⟨ss, co, bo, ve, ps⟩ := r
  simp only at *
  have H1 := hide h1
  have H2 := hide h2
  have N1 := hide n1
  have N2 := hide n2
  clear h1 h2 n1 n2
  go_enter Try.func37, Try.ntmps37
  have hb0 : Below w.heap.size w (((w.alloc (Obj.cells #[Value.slice pa ss.length pc, Value.bool co, Value.string bo, Value.int .i64 ve, Value.slice qa ps.length qc] 47)).alloc (Obj.cells #[Value.slice none 0 0, Value.bool false, Value.string { data := #[] }, Value.int .i64 0, Value.slice none 0 0] 47)).alloc (Obj.cells #[Value.slice pa ss.length pc, Value.bool co, Value.string bo, Value.int .i64 ve, Value.slice qa ps.length qc] 47)) := (((Below.refl _ _).alloc (Nat.le_refl _) _).alloc (by simp) _).alloc (by simp; omega) _
  have hb1 := hb0.alloc hb0.size (Obj.cells #[] 9)
  have hown := World.ownsRow_made (e := 9) (size := 1) (base := w.heap.size + 1 + 1 + 1) (((w.alloc (Obj.cells #[Value.slice pa ss.length pc, Value.bool co, Value.string bo, Value.int .i64 ve, Value.slice qa ps.length qc] 47)).alloc (Obj.cells #[Value.slice none 0 0, Value.bool false, Value.string { data := #[] }, Value.int .i64 0, Value.slice none 0 0] 47)).alloc (Obj.cells #[Value.slice pa ss.length pc, Value.bool co, Value.string bo, Value.int .i64 ve, Value.slice qa ps.length qc] 47)) #[] 0 (by simp) (by decide) rfl
  have hz : (((w.alloc (Obj.cells #[Value.slice pa ss.length pc, Value.bool co, Value.string bo, Value.int .i64 ve, Value.slice qa ps.length qc] 47)).alloc (Obj.cells #[Value.slice none 0 0, Value.bool false, Value.string { data := #[] }, Value.int .i64 0, Value.slice none 0 0] 47)).alloc (Obj.cells #[Value.slice pa ss.length pc, Value.bool co, Value.string bo, Value.int .i64 ve, Value.slice qa ps.length qc] 47)).heap.size = w.heap.size + 1 + 1 + 1 := by simp
  rw [hz] at hown
  have HST := hide (H1.out.below hb1 hB)
  have HB1 := hide hb1
  have HOWN := hide hown
  clear hb0 hb1 hown hz
  go_wp2_with (at_builtin; refine wp_append_strs rfl _ _ rfl (w.heap.size + 1 + 1 + 1) _ ss ss.length rfl rfl HOWN.out B pa pc rfl HST.out N1.out (by omega) (by simp) ?_)
  intro g c w1 r1 hg hc1 hc2 b1
  have fr := bcellQ b1
  have d4 : w1.cell? ⟨w.heap.size, 4, none⟩ = some (.slice qa ps.length qc) := by rw [fr.1 _ _ (by omega)]; simp [go_sem, go_sem]
  have e0 : w1.cell? ⟨w.heap.size + 1 + 1, 0, none⟩ = some (.slice pa ss.length pc) := by rw [fr.1 _ _ (by omega)]; simp [go_sem, go_sem]
  have f0 : w1.frozen? ⟨w.heap.size + 1 + 1, 0, none⟩ = false := by rw [fr.2 _ _ (by omega)]; simp [go_sem, go_sem]
  have z0 : w1.cell? ⟨w.heap.size + 1, 0, none⟩ = some (.slice none 0 0) := by rw [fr.1 _ _ (by omega)]; simp [go_sem, go_sem]
  have y0 : w1.frozen? ⟨w.heap.size + 1, 0, none⟩ = false := by rw [fr.2 _ _ (by omega)]; simp [go_sem, go_sem]
  have e1 : w1.cell? ⟨w.heap.size + 1 + 1, 1, none⟩ = some (.bool co) := by rw [fr.1 _ _ (by omega)]; simp [go_sem, go_sem]
  have f1 : w1.frozen? ⟨w.heap.size + 1 + 1, 1, none⟩ = false := by rw [fr.2 _ _ (by omega)]; simp [go_sem, go_sem]
  have z1 : w1.cell? ⟨w.heap.size + 1, 1, none⟩ = some (.bool false) := by rw [fr.1 _ _ (by omega)]; simp [go_sem, go_sem]
  have y1 : w1.frozen? ⟨w.heap.size + 1, 1, none⟩ = false := by rw [fr.2 _ _ (by omega)]; simp [go_sem, go_sem]
  have e2 : w1.cell? ⟨w.heap.size + 1 + 1, 2, none⟩ = some (.string bo) := by rw [fr.1 _ _ (by omega)]; simp [go_sem, go_sem]
  have f2 : w1.frozen? ⟨w.heap.size + 1 + 1, 2, none⟩ = false := by rw [fr.2 _ _ (by omega)]; simp [go_sem, go_sem]
  have z2 : w1.cell? ⟨w.heap.size + 1, 2, none⟩ = some (.string { data := #[] }) := by rw [fr.1 _ _ (by omega)]; simp [go_sem, go_sem]
  have y2 : w1.frozen? ⟨w.heap.size + 1, 2, none⟩ = false := by rw [fr.2 _ _ (by omega)]; simp [go_sem, go_sem]
  have e3 : w1.cell? ⟨w.heap.size + 1 + 1, 3, none⟩ = some (.int .i64 ve) := by rw [fr.1 _ _ (by omega)]; simp [go_sem, go_sem]
  have f3 : w1.frozen? ⟨w.heap.size + 1 + 1, 3, none⟩ = false := by rw [fr.2 _ _ (by omega)]; simp [go_sem, go_sem]
  have z3 : w1.cell? ⟨w.heap.size + 1, 3, none⟩ = some (.int .i64 0) := by rw [fr.1 _ _ (by omega)]; simp [go_sem, go_sem]
  have y3 : w1.frozen? ⟨w.heap.size + 1, 3, none⟩ = false := by rw [fr.2 _ _ (by omega)]; simp [go_sem, go_sem]
  have e4 : w1.cell? ⟨w.heap.size + 1 + 1, 4, none⟩ = some (.slice qa ps.length qc) := by rw [fr.1 _ _ (by omega)]; simp [go_sem, go_sem]
  have f4 : w1.frozen? ⟨w.heap.size + 1 + 1, 4, none⟩ = false := by rw [fr.2 _ _ (by omega)]; simp [go_sem, go_sem]
  have z4 : w1.cell? ⟨w.heap.size + 1, 4, none⟩ = some (.slice none 0 0) := by rw [fr.1 _ _ (by omega)]; simp [go_sem, go_sem]
  have y4 : w1.frozen? ⟨w.heap.size + 1, 4, none⟩ = false := by rw [fr.2 _ _ (by omega)]; simp [go_sem, go_sem]
  have hgz := r1.1
  have hNz : w.heap.size < w1.heap.size := by omega
  have hNy : w.heap.size + 1 < w1.heap.size := by omega
  have hNx : w.heap.size + 1 + 1 < w1.heap.size := by omega
  have c1 := HB1.out.trans (b1.mono (by omega))
  have c2 := c1.setCell (p := ⟨w.heap.size + 1 + 1, 0, none⟩) (by simp; omega) (.slice (some ⟨g, 0, none⟩) ss.length c)
  have c3 := c2.alloc c2.size (Obj.cells #[] 63)
  have hown2 := World.ownsRow_made (e := 63) (size := 3) (base := w1.heap.size) (w1.setCell ⟨w.heap.size + 1 + 1, 0, none⟩ (.slice (some ⟨g, 0, none⟩) ss.length c)) #[] 0 (by simp) (by decide) rfl
  have hz2 : (w1.setCell ⟨w.heap.size + 1 + 1, 0, none⟩ (.slice (some ⟨g, 0, none⟩) ss.length c)).heap.size = w1.heap.size := by simp
  rw [hz2] at hown2
  have HST2 := hide (H2.out.below c3 hB)
  have HOWN2 := hide hown2
  have HC3 := hide c3
  have hc1z : w.heap.size ≤ w1.heap.size := c1.size
  have r2 := (r1.setCell ⟨w.heap.size + 1 + 1, 0, none⟩ (.slice (some ⟨g, 0, none⟩) ss.length c) (by simp; omega)).below ((Below.refl _ _).alloc (Nat.le_refl _) (Obj.cells #[] 63))
  have R2 := hide r2
  clear fr c1 c2 c3 hown2 hz2 r1 r2 b1 HOWN HST HB1
  go_wp2_with (at_builtin; refine wp_append_props rfl _ _ rfl w1.heap.size _ ps ps.length rfl rfl HOWN2.out B qa qc rfl HST2.out N2.out (by omega) (by simp) ?_)
  intro q d w2 r3 hq3 hd1 hd2 b3
  have fr := bcellQ b3
  have hgw : w.heap.size + 1 + 1 < w1.heap.size := by omega
  have e0' : w2.cell? ⟨w.heap.size + 1 + 1, 0, none⟩ = some (.slice (some ⟨g, 0, none⟩) ss.length c) := by rw [fr.1 _ _ hgw]; exact cellSA0 e0 _ _
  have f0' : w2.frozen? ⟨w.heap.size + 1 + 1, 0, none⟩ = false := by rw [fr.2 _ _ hgw]; exact frozSA f0 (by omega) _ _ _
  have z0' : w2.cell? ⟨w.heap.size + 1, 0, none⟩ = some (.slice none 0 0) := by rw [fr.1 _ _ (by omega)]; exact cellSA z0 (by simp) _ _
  have y0' : w2.frozen? ⟨w.heap.size + 1, 0, none⟩ = false := by rw [fr.2 _ _ (by omega)]; exact frozSA y0 (by omega) _ _ _
  have e1' : w2.cell? ⟨w.heap.size + 1 + 1, 1, none⟩ = some (.bool co) := by rw [fr.1 _ _ hgw]; exact cellSA e1 (by simp) _ _
  have f1' : w2.frozen? ⟨w.heap.size + 1 + 1, 1, none⟩ = false := by rw [fr.2 _ _ hgw]; exact frozSA f1 (by omega) _ _ _
  have z1' : w2.cell? ⟨w.heap.size + 1, 1, none⟩ = some (.bool false) := by rw [fr.1 _ _ (by omega)]; exact cellSA z1 (by simp) _ _
  have y1' : w2.frozen? ⟨w.heap.size + 1, 1, none⟩ = false := by rw [fr.2 _ _ (by omega)]; exact frozSA y1 (by omega) _ _ _
  have e2' : w2.cell? ⟨w.heap.size + 1 + 1, 2, none⟩ = some (.string bo) := by rw [fr.1 _ _ hgw]; exact cellSA e2 (by simp) _ _
  have f2' : w2.frozen? ⟨w.heap.size + 1 + 1, 2, none⟩ = false := by rw [fr.2 _ _ hgw]; exact frozSA f2 (by omega) _ _ _
  have z2' : w2.cell? ⟨w.heap.size + 1, 2, none⟩ = some (.string { data := #[] }) := by rw [fr.1 _ _ (by omega)]; exact cellSA z2 (by simp) _ _
  have y2' : w2.frozen? ⟨w.heap.size + 1, 2, none⟩ = false := by rw [fr.2 _ _ (by omega)]; exact frozSA y2 (by omega) _ _ _
  have e3' : w2.cell? ⟨w.heap.size + 1 + 1, 3, none⟩ = some (.int .i64 ve) := by rw [fr.1 _ _ hgw]; exact cellSA e3 (by simp) _ _
  have f3' : w2.frozen? ⟨w.heap.size + 1 + 1, 3, none⟩ = false := by rw [fr.2 _ _ hgw]; exact frozSA f3 (by omega) _ _ _
  have z3' : w2.cell? ⟨w.heap.size + 1, 3, none⟩ = some (.int .i64 0) := by rw [fr.1 _ _ (by omega)]; exact cellSA z3 (by simp) _ _
  have y3' : w2.frozen? ⟨w.heap.size + 1, 3, none⟩ = false := by rw [fr.2 _ _ (by omega)]; exact frozSA y3 (by omega) _ _ _
  have e4' : w2.cell? ⟨w.heap.size + 1 + 1, 4, none⟩ = some (.slice qa ps.length qc) := by rw [fr.1 _ _ hgw]; exact cellSA e4 (by simp) _ _
  have f4' : w2.frozen? ⟨w.heap.size + 1 + 1, 4, none⟩ = false := by rw [fr.2 _ _ hgw]; exact frozSA f4 (by omega) _ _ _
  have z4' : w2.cell? ⟨w.heap.size + 1, 4, none⟩ = some (.slice none 0 0) := by rw [fr.1 _ _ (by omega)]; exact cellSA z4 (by simp) _ _
  have y4' : w2.frozen? ⟨w.heap.size + 1, 4, none⟩ = false := by rw [fr.2 _ _ (by omega)]; exact frozSA y4 (by omega) _ _ _
  have R3 := hide (show RowS w2 g ss from by
    refine ⟨Nat.lt_of_lt_of_le hgz (by have := b3.size; simp at this; omega), fun j hj => ?_⟩
    rw [fr.1 _ _ hgz, fr.2 _ _ hgz]
    exact R2.out.2 j hj)
  have Q3 := hide r3
  have C4 := hide (HC3.out.trans (b3.mono hc1z))
  have hd1' := hd1
  have hqz : w.heap.size + 1 + 1 < q := by omega
  have hgq : g < q := by omega
  clear fr e0 e1 e2 e3 e4 f0 f1 f2 f3 f4 z0 z1 z2 z3 z4 y0 y1 y2 y3 y4 d4 b3 r3 HOWN2 HST2 HC3 R2 H1 H2 N1 N2
  go_wp2
  refine bodyPost_ret (v := .agg #[.slice (some ⟨g, 0, none⟩) ss.length c, .bool co, .string bo, .int .i64 ve, .slice (some ⟨q, 0, none⟩) ps.length d]) (by simp [results, Try.results37, go_sem, z0', z1', z2', z3', z4']) rfl ⟨⟨_, _, _, _, rfl, by omega, hgq, ?_, ?_, hc1, hc2, hd1, hd2⟩, ?_⟩
  · exact (((((R3.out.setCell _ _ (by first | (simp; done) | (simp; omega))).setCell _ _ (by first | (simp; done) | (simp; omega))).setCell _ _ (by first | (simp; done) | (simp; omega))).setCell _ _ (by first | (simp; done) | (simp; omega))).setCell _ _ (by first | (simp; done) | (simp; omega))).setCell _ _ (by first | (simp; done) | (simp; omega))
  · exact (((((Q3.out.setCell _ _ (by first | (simp; done) | (simp; omega))).setCell _ _ (by first | (simp; done) | (simp; omega))).setCell _ _ (by first | (simp; done) | (simp; omega))).setCell _ _ (by first | (simp; done) | (simp; omega))).setCell _ _ (by first | (simp; done) | (simp; omega))).setCell _ _ (by first | (simp; done) | (simp; omega))
  · exact (((((C4.out.setCell (by first | (simp; done) | (simp; omega)) _).setCell (by first | (simp; done) | (simp; omega)) _).setCell (by first | (simp; done) | (simp; omega)) _).setCell (by first | (simp; done) | (simp; omega)) _).setCell (by first | (simp; done) | (simp; omega)) _).setCell (by first | (simp; done) | (simp; omega)) _
end Go.Proofs.Ytepdfppbnepamab
namespace Go.Proofs.Ytepdfppbnepamab
open Go.RowKit M
set_option linter.unusedVariables false
set_option linter.unusedSimpArgs false

set_option maxRecDepth 100000 in
set_option maxHeartbeats 4000000 in
theorem specWithout_any (a : Option Addr) (rs : List Rs) (cap B : Nat) (b : Option Addr) (p : List ByteArray) (cap' C : Nat) (w : World) (h : Rss w B a rs) (h' : Strs w C b p) (hB : B ≤ w.heap.size) (hC : C ≤ w.heap.size) (hl : rs.length ≤ 1048576) (hl' : p.length ≤ 1048576) (hs : ∀ r ∈ rs, r.pa.length ≤ 1048576 ∧ r.ps.length ≤ 1048576) :
    Calls Try.prog 22 #[.slice a rs.length cap, .slice b p.length cap'] w fun e w' => (∃ v ts, e = .returned v ∧ GrowR w' w.heap.size v ts w'.heap.size ∧ ts.map (·.r) = withoutL rs p) ∧ Below w.heap.size w w' := by
  have HS := hide hs
  have hpm : p.length ≤ maxLen := by unfold maxLen; omega
  clear hs
  go_enter Try.func22, Try.ntmps22
  go_wp2
  go_loopw [5, 6] (fun v i wr => ∃ (k lo : Nat) (ts : List RsT), k ≤ rs.length ∧ i = .int .i64 k ∧ GrowR wr w.heap.size v ts lo ∧ w.heap.size ≤ lo ∧ ts.map (·.r) = (rs.take k).filter (fun r => !deepB p r) ∧ Below w.heap.size w wr) (fun _ i _ => rs.length - (intOf i).toNat)
  case atStart => exact ⟨0, w.heap.size + 1, [], Nat.zero_le _, rfl, GrowR.made w w.heap.size (Nat.le_refl _), by omega, rfl, (Below.refl _ _).alloc (Nat.le_refl _) _⟩
  case round =>
    obtain ⟨k, lo, ts, hk, rfl, hG, hlo, hts, hbe⟩ := hrel
    have HG := hide hG
    have HTS := hide hts
    clear hG hts
    by_cases hlt : k < rs.length
    · obtain ⟨b1, o1, rfl, hb1, hcc⟩ := (h.below hbe hB) (by omega)
      obtain ⟨pa, pc, qa, qc, ⟨hc0, hc1, hc2, hc3, hc4⟩, hin⟩ := hcc k hlt
      clear hcc
      have hsk := HS.out _ (List.getElem_mem hlt)
      have hp2 := h'.below hbe hC
      have hkm : (rs[k]).pa.length ≤ maxLen := Nat.le_trans hin.pl hin.pm
      have HQ1 := hide (specSamePath_any pa b rs[k].pa p pc cap' B C _ hin.ph hp2 hkm hpm)
      have HQ2 := hide (fun W (x : Strs W B pa rs[k].pa) (y : Strs W C b p) => specUnder_any pa b rs[k].pa p pc cap' B C W x y hkm hpm hin.pl hin.pm)
      have HI := hide hin
      have HP := hide hp2
      have HSK := hide hsk
      have HD := hide (show deepB p rs[k] = (sameL rs[k].pa p || underB rs[k].pa p) from rfl)
      generalize sameL rs[k].pa p = z1 at *
      generalize underB rs[k].pa p = z2 at *
      clear hin hsk hp2 hkm
      have no : (z1 || z2) = true → Hid ((rs.take (k + 1)).filter (fun r => !deepB p r) = (rs.take k).filter (fun r => !deepB p r)) := fun e1 => filter_no (q := fun r => !deepB p r) hlt (by simp only [HD.out, e1, Bool.not_true])
      have yes : z1 = false → z2 = false → Hid ((rs.take (k + 1)).filter (fun r => !deepB p r) = (rs.take k).filter (fun r => !deepB p r) ++ [rs[k]]) := fun e1 e2 => filter_yes (q := fun r => !deepB p r) hlt (by simp only [HD.out, e1, e2, Bool.or_self, Bool.not_false])
      have NO := hide no
      have YES := hide yes
      have HL := hide (show ts.length ≤ rs.length by
        have e1 : ts.length = ((rs.take k).filter (fun r => !deepB p r)).length := by have := congrArg List.length HTS.out; simpa using this
        rw [e1]; exact filter_len rs k)
      have hbw : b1 < wr.heap.size := by have := hbe.size; omega
      clear no yes HD
      cases z1
      · cases z2
        · have HF := YES.out rfl rfl
          clear NO YES
          go_wp2_with fail
          refine HQ1.out.mono ?_
          rintro e w1 ⟨rfl, hb3⟩
          have hcl := ((hb3 (b1 + 1)).cell (p := ⟨b1, o1 + k * 5, none⟩) (Nat.lt_succ_self _)).trans hc0
          have X1 := hide (HQ2.out w1 (HI.out.ph.below (hb3 B) (Nat.le_refl _)) (HP.out.below (hb3 C) (Nat.le_refl _)))
          have HI1 := hide (HI.out.below (hb3 B) (Nat.le_refl _))
          have HC1 := hide (show ∀ D, Below D wr w1 from hb3)
          clear hb3 HQ1 HQ2
          go_wp2_with fail
          refine X1.out.mono ?_
          rintro e w2 ⟨rfl, hb4⟩
          have HI2 := hide (HI1.out.below (hb4 B) (Nat.le_refl _))
          have hall : ∀ D, Below D wr w2 := fun D => (HC1.out D).trans (hb4 D)
          have b4 := hall wr.heap.size
          clear hb4 hcl X1 HI1 HC1
          have hc5 : ∀ o v, wr.cell? ⟨b1, o, none⟩ = some v → w2.cell? ⟨b1, o, none⟩ = some v := fun o v hv => ((hall (b1 + 1)).cell (p := ⟨b1, o, none⟩) (Nat.lt_succ_self _)).trans hv
          have d0 := hc5 _ _ hc0
          have d1 := hc5 _ _ hc1
          have d2 := hc5 _ _ hc2
          have d3 := hc5 _ _ hc3
          have d4 := hc5 _ _ hc4
          have c1 := hbe.trans (b4.mono hbe.size)
          have HG2 := hide (HG.out.next b4)
          have hlo2 : lo ≤ w2.heap.size := Nat.le_trans HG.out.top b4.size
          have HCp := hide (specCopy_any rs[k] pa pc qa qc B w2 HI2.out (Nat.le_trans hB c1.size) HSK.out.1 HSK.out.2)
          have hlen := HL.out
          clear hc5 hall b4 HI2
          go_wp2_with fail
          refine HCp.out.mono ?_
          rintro e w3 ⟨⟨pp, cc, qq, dd, rfl, hpp, hpq, r3, q3, k1, k2, k3, k4⟩, b5⟩
          have c3 := c1.trans (b5.mono c1.size)
          have bA := (Below.refl w3.heap.size w3).alloc (Nat.le_refl _) (Obj.cells #[.slice (some ⟨pp, 0, none⟩) (rs[k]).pa.length cc, .bool (rs[k]).co, .string (rs[k]).bo, .int .i64 (rs[k]).ve, .slice (some ⟨qq, 0, none⟩) (rs[k]).ps.length dd] 47)
          have HG4 := hide ((HG2.out.next b5).next bA)
          have HR := hide (r3.below bA)
          have HQ := hide (q3.below bA)
          have HC4 := hide (c3.trans (bA.mono c3.size))
          have HKK := hide (And.intro k1 (And.intro k2 (And.intro k3 k4)))
          clear r3 q3 b5 bA c1 c3 d0 d1 d2 d3 d4 HCp k1 k2 k3 k4
          go_wp2_with (at_builtin; refine wp_append_res rfl _ _ rfl w.heap.size lo _ ts rfl HG4.out w3.heap.size ⟨rs[k], pp, cc, qq, dd⟩ rfl ?_ ?_ hlo (Nat.le_trans hlo2 hpp) hpq HR.out HQ.out HKK.out ?_)
          · exact ⟨by simp, by simp, by simp, by simp, by simp⟩
          · omega
          · intro v' w' hG' hB'
            have HG' := hide hG'
            have HC' := hide (HC4.out.trans hB')
            clear hG' hB'
            go_wp2
            go_roundw
            case rel => exact ⟨k + 1, _, _, by omega, by go_num, HG'.out, HC'.out.size, by rw [HF.out, List.map_append, HTS.out]; rfl, HC'.out⟩
            case measure => simp [intOf]; omega
        · have HF := NO.out rfl
          clear NO YES HSK
          go_wp2_with fail
          refine HQ1.out.mono ?_
          rintro e w1 ⟨rfl, hb3⟩
          have hcl := ((hb3 (b1 + 1)).cell (p := ⟨b1, o1 + k * 5, none⟩) (Nat.lt_succ_self _)).trans hc0
          have X1 := hide (HQ2.out w1 (HI.out.ph.below (hb3 B) (Nat.le_refl _)) (HP.out.below (hb3 C) (Nat.le_refl _)))
          have b3 := hb3 wr.heap.size
          clear hb3 HQ1 HQ2
          go_wp2_with fail
          refine X1.out.mono ?_
          rintro e w2 ⟨rfl, hb4⟩
          have b4 := b3.trans (hb4 _)
          have c1 := hbe.trans (b4.mono hbe.size)
          have HG2 := hide (HG.out.next b4)
          clear b3 hb4 b4 hcl X1
          go_wp2
          go_roundw
          case rel => exact ⟨k + 1, lo, ts, by omega, by go_num, HG2.out, hlo, by rw [HF.out]; exact HTS.out, c1⟩
          case measure => simp [intOf]; omega
      · have HF := NO.out rfl
        clear NO YES HSK
        go_wp2_with fail
        refine HQ1.out.mono ?_
        rintro e w1 ⟨rfl, hb3⟩
        have b4 := hb3 wr.heap.size
        have c1 := hbe.trans (b4.mono hbe.size)
        have HG2 := hide (HG.out.next b4)
        clear hb3 b4 HQ1 HQ2
        go_wp2
        go_roundw
        case rel => exact ⟨k + 1, lo, ts, by omega, by go_num, HG2.out, hlo, by rw [HF.out]; exact HTS.out, c1⟩
        case measure => simp [intOf]; omega
    · have HF := hide (filter_end (q := fun r => !deepB p r) hlt)
      have HM := hide (show ts.map (·.r) = withoutL rs p by rw [HTS.out, HF.out]; rfl)
      have HG3 := hide (HG.out.up HG.out.top (Nat.le_refl _))
      clear HTS HF
      go_wp2
      go_ret
      exact ⟨⟨_, ts, rfl, HG3.out, HM.out⟩, hbe⟩
end Go.Proofs.Ytepdfppbnepamab
namespace Go.Proofs.Ytepdfppbnepamab
open Go.RowKit M
set_option linter.unusedVariables false

theorem take_snocR {rs : List Rs} {ts : List RsT} {k : Nat} (h : ts.map (·.r) = rs.take k) (hk : k < rs.length) (p c q d : Nat) : (ts ++ [(⟨rs[k], p, c, q, d⟩ : RsT)]).map (·.r) = rs.take (k + 1) := by
  rw [List.map_append, h, List.take_succ_eq_append_getElem hk]; rfl

set_option maxRecDepth 100000 in
set_option maxHeartbeats 4000000 in
theorem specCopyAll_any (a : Option Addr) (rs : List Rs) (cap B : Nat) (w : World) (h : Rss w B a rs) (hB : B ≤ w.heap.size) (hl : rs.length ≤ 1048576) (hs : ∀ r ∈ rs, r.pa.length ≤ 1048576 ∧ r.ps.length ≤ 1048576) :
    Calls Try.prog 21 #[.slice a rs.length cap] w fun e w' => (∃ v ts, e = .returned v ∧ GrowR w' w.heap.size v ts w'.heap.size ∧ ts.map (·.r) = rs) ∧ Below w.heap.size w w' := by
  have HS := hide hs
  clear hs
  go_enter Try.func21, Try.ntmps21
  go_wp2
  go_loopw [3, 4] (fun v i wr => ∃ (k lo : Nat) (ts : List RsT), k ≤ rs.length ∧ i = .int .i64 k ∧ GrowR wr w.heap.size v ts lo ∧ w.heap.size ≤ lo ∧ ts.map (·.r) = rs.take k ∧ Below w.heap.size w wr) (fun _ i _ => rs.length - (intOf i).toNat)
  case atStart => exact ⟨0, w.heap.size + 1, [], Nat.zero_le _, rfl, GrowR.made w w.heap.size (Nat.le_refl _), by omega, rfl, (Below.refl _ _).alloc (Nat.le_refl _) _⟩
  case round =>
    obtain ⟨k, lo, ts, hk, rfl, hG, hlo, hts, hbe⟩ := hrel
    have HG := hide hG
    have HTS := hide hts
    clear hG hts
    by_cases hlt : k < rs.length
    · obtain ⟨b1, o1, rfl, hb1, hcc⟩ := (h.below hbe hB) (by omega)
      obtain ⟨pa, pc, qa, qc, ⟨hc0, hc1, hc2, hc3, hc4⟩, hin⟩ := hcc k hlt
      clear hcc
      have hsk := HS.out _ (List.getElem_mem hlt)
      have hlo2 : lo ≤ wr.heap.size := HG.out.top
      have HCp := hide (specCopy_any rs[k] pa pc qa qc B wr hin (Nat.le_trans hB hbe.size) hsk.1 hsk.2)
      have hlen : ts.length ≤ 1048576 := by
        have := congrArg List.length HTS.out
        simp only [List.length_map, List.length_take] at this
        omega
      clear hin hsk
      go_wp2_with fail
      refine HCp.out.mono ?_
      rintro e w3 ⟨⟨pp, cc, qq, dd, rfl, hpp, hpq, r3, q3, k1, k2, k3, k4⟩, b5⟩
      have c3 := hbe.trans (b5.mono hbe.size)
      have bA := (Below.refl w3.heap.size w3).alloc (Nat.le_refl _) (Obj.cells #[.slice (some ⟨pp, 0, none⟩) (rs[k]).pa.length cc, .bool (rs[k]).co, .string (rs[k]).bo, .int .i64 (rs[k]).ve, .slice (some ⟨qq, 0, none⟩) (rs[k]).ps.length dd] 47)
      have HG4 := hide ((HG.out.next b5).next bA)
      have HR := hide (r3.below bA)
      have HQ := hide (q3.below bA)
      have HC4 := hide (c3.trans (bA.mono c3.size))
      have HKK := hide (And.intro k1 (And.intro k2 (And.intro k3 k4)))
      clear r3 q3 b5 bA c3 HCp k1 k2 k3 k4 hc0 hc1 hc2 hc3 hc4
      go_wp2_with (at_builtin; refine wp_append_res rfl _ _ rfl w.heap.size lo _ ts rfl HG4.out w3.heap.size ⟨rs[k], pp, cc, qq, dd⟩ rfl ?_ ?_ hlo (Nat.le_trans hlo2 hpp) hpq HR.out HQ.out HKK.out ?_)
      · exact ⟨by simp, by simp, by simp, by simp, by simp⟩
      · omega
      · intro v' w' hG' hB'
        have HG' := hide hG'
        have HC' := hide (HC4.out.trans hB')
        clear hG' hB'
        go_wp2
        go_roundw
        case rel => exact ⟨k + 1, _, _, by omega, by go_num, HG'.out, HC'.out.size, take_snocR HTS.out hlt _ _ _ _, HC'.out⟩
        case measure => simp [intOf]; omega
    · have hm : ts.map (·.r) = rs := by rw [HTS.out, List.take_of_length_le (by omega)]
      have HM := hide hm
      clear hm
      go_wp2
      go_ret
      exact ⟨⟨_, ts, rfl, HG.out.up HG.out.top (Nat.le_refl _), HM.out⟩, hbe⟩
end Go.Proofs.Ytepdfppbnepamab
namespace Go.Proofs.Ytepdfppbnepamab
open Go.RowKit M
/-- What such a call answers: a row of its own, and a code. -/
def TurnIs (w w' : World) (e : Ending) (rs : List Rs) (c : Int) : Prop := ∃ (v : Value) (ts : List RsT) (base : Nat), w.heap.size ≤ base ∧ e = .returned (.tuple #[v, .int .i64 c]) ∧ GrowR w' base v ts w'.heap.size ∧ ts.map (·.r) = rs
def codeM (c ok : Int) : Int := if c = 0 then ok else c

end Go.Proofs.Ytepdfppbnepamab
namespace Go.Proofs.Ytepdfppbnepamab
open Go.RowKit M
set_option linter.unusedVariables false

set_option maxHeartbeats 2000000 in
theorem specRemove_any (a : Option Addr) (rs : List Rs) (cap B : Nat) (b : Option Addr) (p : List ByteArray) (cap' C : Nat) (w : World) (h : Rss w B a rs) (h' : Strs w C b p) (hB : B ≤ w.heap.size) (hC : C ≤ w.heap.size) (hs : ShortT rs) (hl : rs.length ≤ 1048576) (hlp : ∀ r ∈ rs, r.pa.length ≤ 1048576 ∧ r.ps.length ≤ 1048576) (hs' : Short p) (hl' : p.length ≤ 1048576) :
    Calls Try.prog 7 #[.slice a rs.length cap, .slice b p.length cap'] w fun e w' => TurnIs w w' e (remR rs p) (remC (remI rs p)) ∧ Below w.heap.size w w' := by
  have hlm : rs.length ≤ maxLen := by unfold maxLen; omega
  have hlm' : p.length ≤ maxLen := by unfold maxLen; omega
  have HM := hide (specMay_any a rs cap B b p cap' C 0 w h h' hB hC hs hlm (fun r hr => (hlp r hr).1) hs' hlm')
  have HF := hide (fun W (hb : Below w.heap.size w W) => specFind_any a rs cap B b p cap' C W (h.below hb hB) (h'.below hb hC) hlm hlm')
  have HC := hide (fun W (hb : Below w.heap.size w W) => specCopyAll_any a rs cap B W (h.below hb hB) (Nat.le_trans hB hb.size) hl hlp)
  have HW := hide (fun W (hb : Below w.heap.size w W) => specWithout_any a rs cap B b p cap' C W (h.below hb hB) (h'.below hb hC) (Nat.le_trans hB hb.size) (Nat.le_trans hC hb.size) hl hl' hlp)
  have REF := hide (fun (W W' : World) (c : Int) (vv : Value) (ts : List RsT) (hcc : remI rs p = c) (hne : ¬ c = 0) (hb : Below w.heap.size w W) (g : GrowR W' W.heap.size vv ts W'.heap.size) (m : ts.map (·.r) = rs) => show TurnIs w W' (.returned (.tuple #[vv, .int .i64 c])) (remR rs p) (remC (remI rs p)) from ⟨vv, ts, W.heap.size, hb.size, by unfold remC; rw [hcc, if_neg hne], g, by unfold remR; rw [if_neg (by rw [hcc]; exact hne)]; exact m⟩)
  have YES := hide (fun (W W' : World) (vv : Value) (ts : List RsT) (hcc : remI rs p = 0) (hb : Below w.heap.size w W) (g : GrowR W' W.heap.size vv ts W'.heap.size) (m : ts.map (·.r) = withoutL rs p) => show TurnIs w W' (.returned (.tuple #[vv, .int .i64 204])) (remR rs p) (remC (remI rs p)) from ⟨vv, ts, W.heap.size, hb.size, by unfold remC; rw [hcc, if_pos rfl], g, by unfold remR; rw [if_pos hcc]; exact m⟩)
  by_cases h1 : mayI rs p 0 = 0
  rotate_left
  · have hcc : remI rs p = mayI rs p 0 := by unfold remI; rw [if_pos h1]
    have HR := hide (fun W W' vv ts => REF.out W W' _ vv ts hcc h1)
    clear hcc REF HF YES HW
    generalize mayI rs p 0 = M at *
    go_enter Try.func7, Try.ntmps7
    go_wp2_with fail
    refine HM.out.mono ?_
    rintro e w1 ⟨rfl, b1⟩
    have HC1 := hide (HC.out w1 b1)
    go_wp2_with fail
    refine HC1.out.mono ?_
    rintro e w2 ⟨⟨vv, ts, rfl, hg, hm⟩, b2⟩
    have T := hide (HR.out w1 w2 vv ts b1 hg hm)
    have c2 := b1.trans (b2.mono b1.size)
    clear hg hm b2 HC1
    go_wp2
    go_ret2
    exact ⟨T.out, c2⟩
  rw [h1] at HM
  by_cases h2 : p.length = 0
  · have hcc : remI rs p = 403 := by unfold remI; rw [if_neg (by simp [h1]), if_pos h2]
    have HR := hide (fun W W' vv ts => REF.out W W' _ vv ts hcc (by decide))
    have hp0 : ((p.length : Int) == 0) = true := by rw [beq_iff_eq]; omega
    clear hcc REF HF YES HW h2
    go_enter Try.func7, Try.ntmps7
    go_wp2_with fail
    refine HM.out.mono ?_
    rintro e w1 ⟨rfl, b1⟩
    have HC1 := hide (HC.out w1 b1)
    go_wp2_with fail
    refine HC1.out.mono ?_
    rintro e w2 ⟨⟨vv, ts, rfl, hg, hm⟩, b2⟩
    have T := hide (HR.out w1 w2 vv ts b1 hg hm)
    have c2 := b1.trans (b2.mono b1.size)
    clear hg hm b2 HC1
    go_wp2
    go_ret2
    exact ⟨T.out, c2⟩
  have hp0 : ((p.length : Int) == 0) = false := by rw [beq_eq_false_iff_ne]; omega
  by_cases h3 : findI rs p < 0
  · have hcc : remI rs p = 404 := by unfold remI; rw [if_neg (by simp [h1]), if_neg h2, if_pos h3]
    have HR := hide (fun W W' vv ts => REF.out W W' _ vv ts hcc (by decide))
    clear hcc REF YES HW h2
    generalize findI rs p = F at *
    go_enter Try.func7, Try.ntmps7
    go_wp2_with fail
    refine HM.out.mono ?_
    rintro e w1 ⟨rfl, b1⟩
    have X1 := hide (HF.out w1 b1)
    go_wp2_with fail
    refine X1.out.mono ?_
    rintro e w2 ⟨rfl, b2⟩
    have c2 := b1.trans (b2 _)
    have HC1 := hide (HC.out w2 c2)
    clear b2 X1
    go_wp2_with fail
    refine HC1.out.mono ?_
    rintro e w3 ⟨⟨vv, ts, rfl, hg, hm⟩, b3⟩
    have T := hide (HR.out w2 w3 vv ts c2 hg hm)
    have c3 := c2.trans (b3.mono c2.size)
    clear hg hm b3 HC1
    go_wp2
    go_ret2
    exact ⟨T.out, c3⟩
  · have hcc : remI rs p = 0 := by unfold remI; rw [if_neg (by simp [h1]), if_neg h2, if_neg h3]
    have HR := hide (fun W W' vv ts => YES.out W W' vv ts hcc)
    clear hcc REF YES HC h2
    generalize findI rs p = F at *
    go_enter Try.func7, Try.ntmps7
    go_wp2_with fail
    refine HM.out.mono ?_
    rintro e w1 ⟨rfl, b1⟩
    have X1 := hide (HF.out w1 b1)
    go_wp2_with fail
    refine X1.out.mono ?_
    rintro e w2 ⟨rfl, b2⟩
    have c2 := b1.trans (b2 _)
    have HC1 := hide (HW.out w2 c2)
    clear b2 X1
    go_wp2_with fail
    refine HC1.out.mono ?_
    rintro e w3 ⟨⟨vv, ts, rfl, hg, hm⟩, b3⟩
    have T := hide (HR.out w2 w3 vv ts c2 hg hm)
    have c3 := c2.trans (b3.mono c2.size)
    clear hg hm b3 HC1
    go_wp2
    go_ret2
    exact ⟨T.out, c3⟩
end Go.Proofs.Ytepdfppbnepamab
namespace Go.Proofs.Ytepdfppbnepamab
open Go.RowKit M
set_option linter.unusedVariables false

set_option maxHeartbeats 1000000 in
theorem szProp_any (x y z : ByteArray) (left : Nat) (w : World) (h1 : x.size ≤ maxLen) (h2 : y.size ≤ maxLen) (h3 : z.size ≤ maxLen) (hleft : left ≤ 1048576) :
    Calls Try.prog 45 #[.agg #[.string x, .string y, .string z], .int .i64 left] w fun e w' => (∃ v : Int, e = .returned (.int .i64 v) ∧ (v < 0 ∨ ∃ m : Nat, v = m ∧ x.size + y.size + z.size + m = left)) ∧ Below w.heap.size w w' := by
  unfold maxLen at h1 h2 h3
  have hb0 : Below w.heap.size w (w.alloc (Obj.cells #[.string x, .string y, .string z] 65)) := (Below.refl _ _).alloc (Nat.le_refl _) _
  by_cases hx : left < x.size
  · go_enter Try.func45, Try.ntmps45
    go_wp2
    go_ret
    exact ⟨⟨_, rfl, .inl (by omega)⟩, hb0⟩
  · by_cases hy : left < x.size + y.size
    · go_enter Try.func45, Try.ntmps45
      go_wp2
      go_ret
      exact ⟨⟨_, rfl, .inl (by omega)⟩, hb0⟩
    · by_cases hv : left < x.size + y.size + z.size
      · go_enter Try.func45, Try.ntmps45
        go_wp2
        go_ret
        exact ⟨⟨_, rfl, .inl (by omega)⟩, hb0⟩
      · go_enter Try.func45, Try.ntmps45
        go_wp2
        go_ret
        exact ⟨⟨_, rfl, .inr ⟨left - x.size - y.size - z.size, by omega, by omega⟩⟩, hb0⟩

set_option maxHeartbeats 1000000 in
theorem szPropS_any (a : Option Addr) (ps : List Pp) (cap B left : Nat) (w : World) (h : Pps w B a ps) (hB : B ≤ w.heap.size) (hsh : ShortPs ps) (hl : ps.length ≤ maxLen) (hleft : left ≤ 1048576) :
    Calls Try.prog 32 #[.slice a ps.length cap, .int .i64 left] w fun e w' => (∃ z : Int, e = .returned (.int .i64 z) ∧ (z < 0 ∨ ∃ m : Nat, z = m ∧ ps.length + sumP ps + m = left)) ∧ Below w.heap.size w w' := by
  unfold maxLen at hl
  by_cases hlt0 : left < ps.length
  · go_enter Try.func32, Try.ntmps32
    go_wp2
    go_ret
    exact ⟨⟨_, rfl, .inl (by omega)⟩, Below.refl _ _⟩
  · go_enter Try.func32, Try.ntmps32
    go_wp2
    go_loopw [1, 5] (fun l i wr => ∃ k m : Nat, k ≤ ps.length ∧ i = .int .i64 k ∧ l = .int .i64 m ∧ ps.length + sumP (ps.take k) + m = left ∧ Below w.heap.size w wr) (fun _ i _ => ps.length - (intOf i).toNat)
    case atStart => exact ⟨0, left - ps.length, Nat.zero_le _, rfl, by congr 1; omega, by simp [sumP]; omega, Below.refl _ _⟩
    case round =>
      obtain ⟨k, m, hk, rfl, rfl, hm, hbe⟩ := hrel
      by_cases hlt : k < ps.length
      · obtain ⟨b, o, rfl, hb, hc⟩ := (h.below hbe hB) (by omega)
        obtain ⟨hcx, hcy, hcz⟩ := hc k hlt
        have hsz := hsh.at k hlt
        have HS2 := hide (sumP_snoc ps k hlt)
        have HM : Hid (ps.length + sumP (ps.take k) + m = left) := hm
        clear hm
        have hm1 : m ≤ 1048576 := by have := HM.out; omega
        go_wp2_with fail
        refine (szProp_any ps[k].1 ps[k].2.1 ps[k].2.2 m wr hsz.1 hsz.2.1 hsz.2.2 hm1).mono ?_
        rintro e w1 ⟨⟨z, rfl, hz⟩, hb1⟩
        have c1 := hbe.trans (hb1.mono hbe.size)
        rcases hz with hz | ⟨m', rfl, hm'⟩
        · go_wp2
          go_ret
          exact ⟨⟨_, rfl, .inl (by omega)⟩, c1⟩
        · have HM' : Hid ((ps[k]).1.size + (ps[k]).2.1.size + (ps[k]).2.2.size + m' = m) := hm'
          clear hm'
          go_wp2
          go_roundw
          case rel => exact ⟨k + 1, m', by omega, by go_num, rfl, by rw [HS2.out]; have := HM.out; have := HM'.out; unfold szP; omega, c1⟩
          case measure => simp [intOf]; omega
      · go_wp2
        go_ret
        exact ⟨⟨m, rfl, .inr ⟨m, rfl, by rw [List.take_of_length_le (by omega)] at hm; exact hm⟩⟩, hbe⟩

set_option maxHeartbeats 400000 in
theorem toProp_any (x y z : ByteArray) (w : World) :
    Calls Try.prog 51 #[.agg #[.string x, .string y, .string z]] w fun e w' => e = .returned (.agg #[.string x, .string y, .string z]) ∧ Below w.heap.size w w' := by
  go_enter Try.func51, Try.ntmps51
  go_wp2
  exact bodyPost_ret (v := .agg #[.string x, .string y, .string z]) (by simp [results, Try.results51, go_sem]) rfl ⟨rfl, (((Below.refl _ _).alloc (Nat.le_refl _) _).alloc (by simp) _).alloc (by simp; omega) _⟩

set_option maxHeartbeats 1000000 in
theorem toPropS_any (a : Option Addr) (ps : List Pp) (cap B : Nat) (w : World) (h : Pps w B a ps) (hB : B ≤ w.heap.size) (hl : ps.length ≤ 1048576) :
    Calls Try.prog 39 #[.slice a ps.length cap] w fun e w' => e = .returned (.slice (some ⟨w.heap.size, 0, none⟩) ps.length ps.length) ∧ RowP w' w.heap.size ps ∧ Below w.heap.size w w' := by
  have hmk := run_make_props ps.length hl w
  go_enter Try.func39, Try.ntmps39
  go_wp2
  clear hmk
  go_loopw [4] (fun i wr => ∃ k : Nat, k ≤ ps.length ∧ i = .int .i64 k ∧ MadeP wr w.heap.size ps k ∧ Below w.heap.size w wr) (fun i _ => ps.length - (intOf i).toNat)
  case atStart => exact ⟨0, Nat.zero_le _, rfl, MadeP.start w ps, (Below.refl _ _).alloc (Nat.le_refl _) _⟩
  case round =>
    obtain ⟨k, hk, rfl, hrow, hbe⟩ := hrel
    by_cases hlt : k < ps.length
    · obtain ⟨b, o, rfl, hb, hc⟩ := (h.below hbe hB) (by omega)
      obtain ⟨hcx, hcy, hcz⟩ := hc k hlt
      clear hc
      go_wp2_with fail
      refine (toProp_any ps[k].1 ps[k].2.1 ps[k].2.2 wr).mono ?_
      rintro e w1 ⟨rfl, hb1⟩
      have c1 := hbe.trans (hb1.mono hbe.size)
      have hrow1 := hrow.below hb1
      obtain ⟨v0, v1, v2, hd0, hd1, hd2, hf0, hf1, hf2⟩ := hrow1.cells hlt
      have HR := hide (hrow1.next hlt)
      clear hrow1 hrow
      go_wp2
      go_roundw
      case rel => exact ⟨k + 1, by omega, by go_num, HR.out, ((c1.setCell (Nat.le_refl _) _).setCell (Nat.le_refl _) _).setCell (Nat.le_refl _) _⟩
      case measure => simp [intOf]; omega
    · go_wp2
      go_ret
      exact ⟨rfl, hrow.done hlt, hbe⟩
end Go.Proofs.Ytepdfppbnepamab
namespace Go.Proofs.Ytepdfppbnepamab
open Go.RowKit
set_option linter.unusedVariables false

set_option maxHeartbeats 400000 in
theorem szStringS_any (a : Option Addr) (ss : List ByteArray) (cap B left : Nat) (w : World) (h : Strs w B a ss) (hs : Short ss) (hl : ss.length ≤ maxLen) (hleft : left ≤ 1048576) :
    Calls Try.prog 6 #[.slice a ss.length cap, .int .i64 left] w fun e w' => (∃ z : Int, e = .returned (.int .i64 z) ∧ (z < 0 ∨ ∃ m : Nat, z = m ∧ ss.length + sumS ss + m = left)) ∧ w' = w := by
  unfold maxLen at hl
  by_cases hlt0 : left < ss.length
  · go_enter Try.func6, Try.ntmps6
    go_wp2
    go_ret
    exact ⟨⟨_, rfl, .inl (by omega)⟩, rfl⟩
  · go_enter Try.func6, Try.ntmps6
    go_wp2
    go_loop [1, 5] (fun l i => ∃ k m : Nat, k ≤ ss.length ∧ i = .int .i64 k ∧ l = .int .i64 m ∧ ss.length + sumS (ss.take k) + m = left) (fun _ i => ss.length - (intOf i).toNat)
    case atStart => exact ⟨0, left - ss.length, Nat.zero_le _, rfl, by congr 1; omega, by simp [sumS]; omega⟩
    case round =>
      obtain ⟨k, m, hk, rfl, rfl, hm⟩ := hrel
      by_cases hlt : k < ss.length
      · obtain ⟨b, o, rfl, hb, hc⟩ := h (by omega)
        have hcx := hc k hlt
        have hsz := hs.at k hlt
        unfold maxLen at hsz
        have HS := sumS_snoc ss k hlt
        by_cases hm2 : m < (ss[k]).size
        · go_wp2
          go_ret
          exact ⟨⟨_, rfl, .inl (by omega)⟩, rfl⟩
        · go_wp2
          go_round
          case rel => exact ⟨k + 1, m - (ss[k]).size, by omega, by go_num, by congr 1; omega, by omega⟩
          case measure => simp [intOf]; omega
      · go_wp2
        go_ret
        exact ⟨⟨m, rfl, .inr ⟨m, rfl, by rw [← sumS_all ss k hlt]; simpa [sumS_all ss k hlt] using hm⟩⟩, rfl⟩

set_option maxHeartbeats 400000 in
theorem toStringS_any (a : Option Addr) (ss : List ByteArray) (cap B : Nat) (w : World) (h : Strs w B a ss) (hB : B ≤ w.heap.size) (hl : ss.length ≤ 1048576) :
    Calls Try.prog 9 #[.slice a ss.length cap] w fun e w' => e = .returned (.slice (some ⟨w.heap.size, 0, none⟩) ss.length ss.length) ∧ Strs w' (w.heap.size + 1) (some ⟨w.heap.size, 0, none⟩) ss ∧ Below w.heap.size w w' ∧ w.heap.size < w'.heap.size := by
  have hmk := run_make_row' (P := Try.prog) 23 9 (.string ByteArray.empty) 16 Try.underlying23 info_str rfl .i64 .i64 ss.length (by omega) (by omega) w
  go_enter Try.func9, Try.ntmps9
  go_wp2
  clear hmk
  go_loopw [4] (fun i wr => ∃ k : Nat, k ≤ ss.length ∧ i = .int .i64 k ∧ wr.rowIs w.heap.size 9 ss.length (fun j => if j < k then .string (ss.getD j ByteArray.empty) else .string ByteArray.empty) ∧ Below w.heap.size w wr) (fun i _ => ss.length - (intOf i).toNat)
  case atStart => exact ⟨0, Nat.zero_le _, rfl, (World.rowIs_made w _ _ _).congr (fun i _ => by simp), (Below.refl _ _).alloc (Nat.le_refl _) _⟩
  case round =>
    obtain ⟨k, hk, rfl, hrow, hbe⟩ := hrel
    by_cases hlt : k < ss.length
    · obtain ⟨b, o, rfl, hb, hc⟩ := h (by omega)
      have hcx := (hbe.cell (p := ⟨b, o + k, none⟩) (Nat.lt_of_lt_of_le hb hB)).trans (hc k hlt)
      have hcn := hrow.cell hlt
      have hfn := hrow.frozen k
      have hrow2 := (hrow.set k (.string ss[k])).congr (g := fun j => if j < k + 1 then .string (ss.getD j ByteArray.empty) else .string ByteArray.empty) (fun j hj => by
        by_cases e : j = k
        · subst e; simp [List.getD, List.getElem?_eq_getElem hlt]
        · simp only [e, if_false]
          by_cases e2 : j < k
          · rw [if_pos e2, if_pos (by omega)]
          · rw [if_neg e2, if_neg (by omega)])
      have HR : Hid _ := hrow2
      clear hrow2
      go_wp2
      go_roundw
      case rel => exact ⟨k + 1, by omega, by go_num, HR.out, hbe.setCell (Nat.le_refl _) _⟩
      case measure => simp [intOf]; omega
    · go_wp2
      go_ret
      exact ⟨rfl, Strs.row hrow (Nat.le_refl _) (fun j hj => by rw [if_pos (by omega)]; simp [List.getD, List.getElem?_eq_getElem hj]) (Nat.lt_succ_self _), hbe, hrow.lt⟩

end Go.Proofs.Ytepdfppbnepamab
namespace Go.Proofs.Ytepdfppbnepamab
open Go.RowKit
set_option linter.unusedVariables false

set_option maxHeartbeats 400000 in
theorem toStringS_row (a : Option Addr) (ss : List ByteArray) (cap B : Nat) (w : World) (h : Strs w B a ss) (hB : B ≤ w.heap.size) (hl : ss.length ≤ 1048576) :
    Calls Try.prog 9 #[.slice a ss.length cap] w fun e w' => e = .returned (.slice (some ⟨w.heap.size, 0, none⟩) ss.length ss.length) ∧ RowS w' w.heap.size ss ∧ Below w.heap.size w w' := by
  have hmk := run_make_row' (P := Try.prog) 23 9 (.string ByteArray.empty) 16 Try.underlying23 info_str rfl .i64 .i64 ss.length (by omega) (by omega) w
  go_enter Try.func9, Try.ntmps9
  go_wp2
  clear hmk
  go_loopw [4] (fun i wr => ∃ k : Nat, k ≤ ss.length ∧ i = .int .i64 k ∧ wr.rowIs w.heap.size 9 ss.length (fun j => if j < k then .string (ss.getD j ByteArray.empty) else .string ByteArray.empty) ∧ Below w.heap.size w wr) (fun i _ => ss.length - (intOf i).toNat)
  case atStart => exact ⟨0, Nat.zero_le _, rfl, (World.rowIs_made w _ _ _).congr (fun i _ => by simp), (Below.refl _ _).alloc (Nat.le_refl _) _⟩
  case round =>
    obtain ⟨k, hk, rfl, hrow, hbe⟩ := hrel
    by_cases hlt : k < ss.length
    · obtain ⟨b, o, rfl, hb, hc⟩ := h (by omega)
      have hcx := (hbe.cell (p := ⟨b, o + k, none⟩) (Nat.lt_of_lt_of_le hb hB)).trans (hc k hlt)
      have hcn := hrow.cell hlt
      have hfn := hrow.frozen k
      have hrow2 := (hrow.set k (.string ss[k])).congr (g := fun j => if j < k + 1 then .string (ss.getD j ByteArray.empty) else .string ByteArray.empty) (fun j hj => by
        by_cases e : j = k
        · subst e; simp [List.getD, List.getElem?_eq_getElem hlt]
        · simp only [e, if_false]
          by_cases e2 : j < k
          · rw [if_pos e2, if_pos (by omega)]
          · rw [if_neg e2, if_neg (by omega)])
      have HR : Hid _ := hrow2
      clear hrow2
      go_wp2
      go_roundw
      case rel => exact ⟨k + 1, by omega, by go_num, HR.out, hbe.setCell (Nat.le_refl _) _⟩
      case measure => simp [intOf]; omega
    · go_wp2
      go_ret
      exact ⟨rfl, RowS.row hrow (Nat.le_refl _) (fun j hj => by rw [if_pos (by omega)]; simp [List.getD, List.getElem?_eq_getElem hj]), hbe⟩

end Go.Proofs.Ytepdfppbnepamab
namespace Go.Proofs.Ytepdfppbnepamab
open Go.RowKit M
set_option linter.unusedVariables false

theorem sumL_is (ss : List ByteArray) : sumL ss = sumS ss := rfl

set_option maxHeartbeats 1000000 in
theorem szRes_any (r : Rs) (pa : Option Addr) (pc : Nat) (qa : Option Addr) (qc B left : Nat) (w : World) (h : RsIn w B r pa pc qa qc) (hB : B ≤ w.heap.size) (hs : ShortRs r) (hleft : left ≤ 1048576) :
    Calls Try.prog 18 #[.agg #[.slice pa r.pa.length pc, .bool r.co, .string r.bo, .int .i64 r.ve, .slice qa r.ps.length qc], .int .i64 left] w fun e w' => (∃ z : Int, e = .returned (.int .i64 z) ∧ (z < 0 ∨ ∃ m : Nat, z = m ∧ szR r + m = left)) ∧ Below w.heap.size w w' := by
  have hbo := hs.bo
  unfold maxLen at hbo
  have h1 := h.ph
  have h2 := h.qh
  have s1 := hs.ps
  have s2 := hs.qs
  have l1 := hs.pl
  have l2 := hs.ql
  have HZ : Hid (szR r = r.pa.length + sumS r.pa + r.bo.size + (r.ps.length + sumP r.ps)) := rfl
  clear h hs
  obtain ⟨ss, co, bo, ve, ps⟩ := r
  simp only at *
  generalize szR ⟨ss, co, bo, ve, ps⟩ = Z at *
  have hb0 : Below w.heap.size w (w.alloc (.cells #[.slice pa ss.length pc, .bool co, .string bo, .int .i64 ve, .slice qa ps.length qc] 40)) := (Below.refl _ _).alloc (Nat.le_refl _) _
  have k1 := h1.below hb0 hB
  have k2 := h2.below hb0 hB
  have hB0 : B ≤ (w.alloc (.cells #[.slice pa ss.length pc, .bool co, .string bo, .int .i64 ve, .slice qa ps.length qc] 40)).heap.size := Nat.le_trans hB hb0.size
  have HS := hide (fun left hl => szStringS_any pa ss pc B left _ k1 s1 l1 hl)
  have HP := hide (fun left hl => szPropS_any qa ps qc B left _ k2 hB0 s2 l2 hl)
  have HB := hide hb0
  clear hb0 k1 k2 h1 h2
  go_enter Try.func18, Try.ntmps18
  go_wp2_with fail
  refine (HS.out left hleft).mono ?_
  rintro e w1 ⟨⟨z, rfl, hz⟩, hw⟩
  obtain rfl := hw
  rcases hz with hz | ⟨m, rfl, hm⟩
  · go_wp2
    go_ret
    exact ⟨⟨_, rfl, .inl (by omega)⟩, HB.out⟩
  by_cases hb : m < bo.size
  · have hm1 : m ≤ 1048576 := by omega
    go_wp2
    go_ret
    exact ⟨⟨_, rfl, .inl (by omega)⟩, HB.out⟩
  have hm1 : m ≤ 1048576 := by omega
  have HM := hide hm
  clear hm
  have hq : (((m - bo.size : Nat)) : Int) = (m : Int) - bo.size := by omega
  have hP := HP.out (m - bo.size) (by omega)
  rw [hq] at hP
  have HP2 := hide hP
  clear hP hq
  go_wp2_with fail
  refine HP2.out.mono ?_
  rintro e w1 ⟨⟨z, rfl, hz⟩, hb1⟩
  have c1 := HB.out.trans (hb1.mono (by simp))
  rcases hz with hz | ⟨m', rfl, hm'⟩
  · go_wp2
    go_ret
    exact ⟨⟨_, rfl, .inl (by omega)⟩, c1⟩
  · have hm1' : m' ≤ 1048576 := by omega
    have HM' := hide hm'
    clear hm'
    go_wp2
    go_ret
    exact ⟨⟨_, rfl, .inr ⟨m', rfl, by rw [HZ.out]; have := HM'.out; have := HM.out; omega⟩⟩, c1⟩

set_option maxHeartbeats 1000000 in
theorem szResS_any (a : Option Addr) (rs : List Rs) (cap B left : Nat) (w : World) (h : Rss w B a rs) (hB : B ≤ w.heap.size) (hsh : ShortT rs) (hl : rs.length ≤ maxLen) (hleft : left ≤ 1048576) :
    Calls Try.prog 5 #[.slice a rs.length cap, .int .i64 left] w fun e w' => (∃ z : Int, e = .returned (.int .i64 z) ∧ (z < 0 ∨ ∃ m : Nat, z = m ∧ rs.length + sumR rs + m = left)) ∧ Below w.heap.size w w' := by
  unfold maxLen at hl
  by_cases hlt0 : left < rs.length
  · go_enter Try.func5, Try.ntmps5
    go_wp2
    go_ret
    exact ⟨⟨_, rfl, .inl (by omega)⟩, Below.refl _ _⟩
  · go_enter Try.func5, Try.ntmps5
    go_wp2
    go_loopw [1, 5] (fun l i wr => ∃ k m : Nat, k ≤ rs.length ∧ i = .int .i64 k ∧ l = .int .i64 m ∧ rs.length + sumR (rs.take k) + m = left ∧ Below w.heap.size w wr) (fun _ i _ => rs.length - (intOf i).toNat)
    case atStart => exact ⟨0, left - rs.length, Nat.zero_le _, rfl, by congr 1; omega, by simp [sumR]; omega, Below.refl _ _⟩
    case round =>
      obtain ⟨k, m, hk, rfl, rfl, hm, hbe⟩ := hrel
      by_cases hlt : k < rs.length
      · obtain ⟨b, o, rfl, hb, hc⟩ := (h.below hbe hB) (by omega)
        obtain ⟨pa, pc, qa, qc, ⟨hc0, hc1, hc2, hc3, hc4⟩, hin⟩ := hc k hlt
        have hsz := hsh.at k hlt
        have HS2 := hide (sumR_snoc rs k hlt)
        have HM : Hid (rs.length + sumR (rs.take k) + m = left) := hm
        clear hm hc
        have hm1 : m ≤ 1048576 := by have := HM.out; omega
        have HC := hide (szRes_any rs[k] pa pc qa qc B m wr hin (Nat.le_trans hB hbe.size) hsz hm1)
        clear hin hsz
        go_wp2_with fail
        refine HC.out.mono ?_
        rintro e w1 ⟨⟨z, rfl, hz⟩, hb1⟩
        have c1 := hbe.trans (hb1.mono hbe.size)
        rcases hz with hz | ⟨m', rfl, hm'⟩
        · go_wp2
          go_ret
          exact ⟨⟨_, rfl, .inl (by omega)⟩, c1⟩
        · have HM' := hide hm'
          clear hm'
          go_wp2
          go_roundw
          case rel => exact ⟨k + 1, m', by omega, by go_num, rfl, by rw [HS2.out]; have := HM.out; have := HM'.out; omega, c1⟩
          case measure => simp [intOf]; omega
      · go_wp2
        go_ret
        exact ⟨⟨m, rfl, .inr ⟨m, rfl, by rw [List.take_of_length_le (by omega)] at hm; exact hm⟩⟩, hbe⟩
end Go.Proofs.Ytepdfppbnepamab
