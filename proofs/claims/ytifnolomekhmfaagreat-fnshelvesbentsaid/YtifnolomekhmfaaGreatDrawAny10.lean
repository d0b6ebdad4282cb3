/-
  What spec.l10Any draws: things, one of them turned. 
-/
import Derived.Test.YtifnolomekhmfaaGreatDrawTree
import Derived.Test.YtifnolomekhmfaaGreatHasV
import Derived.Test.YtifnolomekhmfaaGreatDrawPath2
import Derived.Test.YtifnolomekhmfaaGreatSpecNum
import Derived.Test.YtifnolomekhmfaaGreatSpecLess
import Derived.Test.YtifnolomekhmfaaGreatMathSetP
import Derived.Laws.IdiomStrings
import Derived.Laws.BytesArg
import Derived.Deep.OwnRows
import Derived.Deep.RegionLaw
namespace Go.Proofs.YtifnolomekhmfaaGreat
open Go.RowKit M
set_option linter.unusedVariables false

/-- Small enough for all that is done with it. -/
def FewT (rs : List Rs) : Prop := rs.length ≤ 24 ∧ ∀ r ∈ rs, Few 6 r.pa ∧ r.bo.size ≤ 1000 ∧ r.ps.length ≤ 1001 ∧ ∀ p ∈ r.ps, p.1.size ≤ 1000 ∧ p.2.1.size ≤ 1000 ∧ p.2.2.size ≤ 1000
theorem FewT.set {rs : List Rs} (h : FewT rs) (k : Nat) (r : Rs) (hr : Few 6 r.pa ∧ r.bo.size ≤ 1000 ∧ r.ps.length ≤ 1001 ∧ ∀ p ∈ r.ps, p.1.size ≤ 1000 ∧ p.2.1.size ≤ 1000 ∧ p.2.2.size ≤ 1000) : FewT (rs.set k r) := ⟨by rw [List.length_set]; exact h.1, fun x hx => by
  rcases List.mem_or_eq_of_mem_set hx with e | e
  · exact h.2 x e
  · rw [e]; exact hr⟩
theorem intNewQ {w : World} {N : Nat} {a : Option Addr} {len cap : Nat} {zs : List Int} (h : DX w N a len cap zs) (ss : List Int) (C : Array Value) (T : TypeId) (n M : Nat) (hM : M = w.heap.size) (hC : C = (ss.map (Value.int .i64)).toArray) (hn : ss.length = n) (h0 : 0 < n) (h1 : n ≤ 256) :
    Calls Tryz.prog 104 #[.pointer (some ⟨N, 0, none⟩), .slice (some ⟨M, 0, none⟩) n n] (w.alloc (.cells C T)) fun e w' => (∃ x : Int, e = .returned (.int .i64 x)) ∧ DX w' N a len cap zs ∧ w.grownBy w' (some N) := by
  obtain ⟨c, h⟩ := h
  refine (intNew h ss C T n M hM hC hn h0 h1).mono ?_
  rintro e w' ⟨rfl, hd, hg⟩
  exact ⟨⟨_, rfl⟩, ⟨_, hd⟩, hg⟩

theorem info_u8t : (Tryz.prog.info? 5).map (fun i => (i.zero, i.size, i.bytes)) = some (some (.int .u8 0), 1, 1) := by kernel_rfl
/-- 'string(make([]byte, n))': some text of that length. -/
theorem conv_zerosT (w : World) (n : Nat) : ∃ x : ByteArray, x.size = n ∧ (convert 22 9 (.slice (some ⟨w.heap.size, 0, none⟩) n n)).run Tryz.prog (w.alloc (.cells (madeCells #[.int .u8 0] n) 5)) = .ok (.string x) (w.alloc (.cells (madeCells #[.int .u8 0] n) 5)) := by
  refine ⟨⟨(List.replicate n 0).toArray⟩, by show (List.replicate n (0 : UInt8)).toArray.size = n; simp, ?_⟩
  have h := run_convert_bytes_back (P := Tryz.prog) (w.alloc (.cells (madeCells #[.int .u8 0] n) 5)) 22 9 5 ⟨w.heap.size, 0, none⟩ n (List.replicate n 0) Tryz.underlying22 Tryz.underlying5 Tryz.underlying9 (by
    intro j hj
    have hj' : j < n := by simpa using hj
    have e : (⟨w.heap.size, 0, none⟩ : Addr).add j = ⟨w.heap.size, j, none⟩ := by unfold Addr.add; split <;> simp_all
    rw [e, (World.rowIs_made w (.int .u8 0) n 5).cell hj']
    simp)
  rw [List.length_replicate] at h
  exact h

theorem sumP_in {ps : List Pp} {p : Pp} (h : p ∈ ps) : szP p ≤ sumP ps := by
  induction ps with
  | nil => cases h
  | cons x l ih =>
    have e : sumP (x :: l) = szP x + sumP l := by simp [sumP]
    rw [e]
    rcases List.mem_cons.1 h with rfl | h
    · omega
    · have := ih h; omega
theorem fewT_of_tree {rs : List Rs} (h : treeB rs = true) : FewT rs := ⟨by have := tree_len h; omega, fun r hr => by
  have h1 := res_small (tree_res h r hr)
  have e1 : szR r = r.pa.length + sumL r.pa + r.bo.size + (r.ps.length + sumP r.ps) := rfl
  refine ⟨(tree_few h r hr).mono (by decide), by omega, by omega, fun p hp => ?_⟩
  have h2 := sumP_in hp
  have e2 : szP p = p.1.size + p.2.1.size + p.2.2.size := rfl
  omega⟩
/-- The cells of one that is known. -/
def ppCs (p : Pp) : List Value := [.string p.1, .string p.2.1, .string p.2.2]
theorem ownG_of_row {w : World} {q qc : Nat} {ps : List Pp} (h : RowP w q ps) (hr : Room w q qc) (h1 : ps.length ≤ qc) (h2 : qc ≤ maxLen) (B : Nat) (hB : B ≤ q) : OwnG 88 3 ppCs w B (.slice (some ⟨q, 0, none⟩) ps.length qc) ps := by
  obtain ⟨cur, hh, hs⟩ := hr
  have hl := flat_length (K := 3) (cs := ppCs) (fun _ => rfl) ps
  have hc : ∀ i, w.cell? ⟨q, i, none⟩ = cur[i]? := fun i => by simp [World.cell?, hh]
  refine ⟨hl, .inr ⟨q, qc, cur, rfl, hB, hh, h1, h2, hs, ?_⟩⟩
  apply List.ext_getElem?
  intro i
  by_cases hi : i < ps.length * 3
  · obtain ⟨j, r, rfl, hr3⟩ : ∃ j r, i = j * 3 + r ∧ r < 3 := ⟨i / 3, i % 3, by omega, Nat.mod_lt _ (by decide)⟩
    have hj : j < ps.length := by omega
    obtain ⟨c0, c1, c2⟩ := h.2.1 j hj
    rw [List.getElem?_take_of_lt hi, flat_at (K := 3) (cs := ppCs) (fun _ => rfl) ps j hj r hr3, Array.getElem?_toList, ← hc]
    rcases (by omega : r = 0 ∨ r = 1 ∨ r = 2) with rfl | rfl | rfl
    · exact c0
    · exact c1
    · exact c2
  · rw [List.getElem?_take_eq_none (by omega), List.getElem?_eq_none (by omega)]
/-- One more thing is known of one of them: its list is turned, or made anew. -/
theorem HasT.appended {w w' : World} {N g : Nat} {rs : List Rs} (h : HasT w N g rs) (k : Nat) (hk : k < rs.length) (p pc q qc : Nat) (x : HasE w N g k rs[k] p pc q qc) (hg : w.grownBy w' (some q)) (g2 n2 c2 : Nat) (L : List Pp) (hr : RowP w' g2 L) (hn : n2 = L.length) (hN : N < g2) (hne : g2 ≠ g) (h1 : n2 ≤ c2) (h2 : c2 ≤ maxLen) :
    HasV (w'.setCell ⟨g, k * 5 + 4, none⟩ (.slice (some ⟨g2, 0, none⟩) n2 c2)) N g (rs.set k (setP rs[k] L)) := by
  subst hn
  have eb : ∀ b, b < w.heap.size → b ≠ q → w'.heap[b]? = w.heap[b]? := fun b hb hne => hg.block b hb (fun e => hne (Option.some.inj e))
  have eg := eb g h.gs (fun e => x.qg e.symm)
  refine ⟨h.gN, by simpa using Nat.lt_of_lt_of_le h.gs hg.size, fun j hj => ?_⟩
  have hj' : j < rs.length := by simpa using hj
  rw [List.getElem_set]
  by_cases e : k = j
  · subst e
    simp only [if_true]
    have hpq := (h.ap k k hk hk _ _ _ _ _ _ _ _ x.at' x.at').1
    obtain ⟨c0, c1, c2', c3, c4⟩ := x.at'.heapT eg
    refine ⟨p, pc, _, c2, ⟨(cell_other (.inr (by omega))).trans c0, (cell_other (.inr (by omega))).trans c1, (cell_other (.inr (by omega))).trans c2', (cell_other (.inr (by omega))).trans c3, World.cell?_setCell_same _ _ _ c4⟩, (x.rp.heapT hg.size (eb p x.rp.1 hpq)).setCell ⟨g, k * 5 + 4, none⟩ _ (fun e => x.pg e.symm), x.pN, x.pg, x.cp, .inl ⟨g2, rfl, hr.setCell ⟨g, k * 5 + 4, none⟩ _ (fun e => hne e.symm), ⟨hN, hne⟩, h1, h2⟩⟩
  · rw [if_neg e]
    obtain ⟨p0, pc0, q0, qc0, y⟩ := h.el j hj'
    have a1 := h.ap j k hj' hk _ _ _ _ _ _ _ _ y.at' x.at'
    have y2 : HasF w' N g j rs[j] p0 pc0 (some ⟨q0, 0, none⟩) qc0 := ⟨y.at'.heapT eg, y.rp.heapT hg.size (eb p0 y.rp.1 a1.1), y.pN, y.pg, y.cp, .inl ⟨q0, rfl, y.rq.heapT hg.size (eb q0 y.rq.1 (a1.2 (fun e' => e e'.symm))), ⟨y.qN, y.qg⟩, y.cq⟩⟩
    exact ⟨p0, pc0, _, qc0, y2.other k 4 (by decide) e _⟩
theorem few_one {s : ByteArray} (h : s.size ≤ 20) : Few 6 [s] := ⟨by simp, fun x hx => by
  have e : x = s := by simpa using hx
  rw [e]; exact h⟩
theorem HasV.appended {w w' : World} {M g n B : Nat} {rs : List Rs} (h : HasV w M g rs) (hn : n = rs.length) (cur : Array Value) (hcur : w.heap[g]? = some (.cells cur 62 (0, 0))) (hsz : n * 5 ≤ cur.size) (r : Rs) (p pc : Nat) (hp : M < p) (hpg : p ≠ g) (rp : RowS w p r.pa) (hps : r.ps = []) (cp : r.pa.length ≤ pc ∧ pc ≤ maxLen) (g2 c2 : Nat) (hown : w'.ownsRow B 62 5 (.slice (some ⟨g2, 0, none⟩) (n + 1) c2) (n + 1) (cur.toList.take (n * 5) ++ [.slice (some ⟨p, 0, none⟩) r.pa.length pc, .bool r.co, .string r.bo, .int .i64 r.ve, .slice none 0 0])) (hg : w.grownBy w' (some g)) (hat : g2 = g ∨ g2 = w.heap.size) : HasV w' M g2 (rs ++ [r]) ∧ OwnT w' g2 (n + 1) c2 := by
  have hlt := World.ownsRow.lt hown g2 rfl
  have hlen : (cur.toList.take (n * 5)).length = n * 5 := by rw [List.length_take, Array.length_toList]; omega
  have hcell : ∀ i v, (cur.toList.take (n * 5) ++ [.slice (some ⟨p, 0, none⟩) r.pa.length pc, .bool r.co, .string r.bo, .int .i64 r.ve, .slice none 0 0])[i]? = some v → w'.cell? ⟨g2, i, none⟩ = some v := fun i v hv => by
    have := hown.cells (g := g2) rfl i v hv
    rwa [Addr.add_lit, Nat.zero_add] at this
  have hold : ∀ i v, i < n * 5 → w.cell? ⟨g, i, none⟩ = some v → w'.cell? ⟨g2, i, none⟩ = some v := fun i v hi hv => by
    refine hcell i v ?_
    rw [List.getElem?_append_left (by rw [hlen]; exact hi), List.getElem?_take_of_lt hi, Array.getElem?_toList]
    simpa [World.cell?, hcur] using hv
  have hnew : ∀ i v, ([.slice (some ⟨p, 0, none⟩) r.pa.length pc, .bool r.co, .string r.bo, .int .i64 r.ve, .slice none 0 0] : List Value)[i]? = some v → w'.cell? ⟨g2, n * 5 + i, none⟩ = some v := fun i v hv => by
    refine hcell _ v ?_
    rw [List.getElem?_append_right (by rw [hlen]; omega), hlen, Nat.add_sub_cancel_left]
    exact hv
  have eb : ∀ b, b < w.heap.size → b ≠ g → w'.heap[b]? = w.heap[b]? := fun b hb hne => hg.block b hb (fun e => hne (Option.some.inj e))
  have ne2 : ∀ b, b < w.heap.size → b ≠ g → b ≠ g2 := fun b hb hne => by rcases hat with e | e <;> omega
  have hgs := h.gs
  have hM2 : M < g2 := by
    have := h.gN
    rcases hat with e | e <;> omega
  refine ⟨⟨hM2, hlt.2, fun j hj => ?_⟩, OwnT.of_owns hown⟩
  by_cases hjn : j < rs.length
  · rw [List.getElem_append_left hjn]
    obtain ⟨p0, pc0, qa0, qc0, x⟩ := h.el j hjn
    obtain ⟨c0, c1, c2', c3, c4⟩ := x.at'
    refine ⟨p0, pc0, qa0, qc0, ⟨hold _ _ (by omega) c0, hold _ _ (by omega) c1, hold _ _ (by omega) c2', hold _ _ (by omega) c3, hold _ _ (by omega) c4⟩, x.rp.heapT hg.size (eb p0 x.rp.1 x.pg), x.pN, ne2 p0 x.rp.1 x.pg, x.cp, ?_⟩
    rcases x.qq with ⟨q, h1, h2, h3, h4⟩ | h
    · exact .inl ⟨q, h1, h2.heapT hg.size (eb q h2.1 h3.2), ⟨h3.1, ne2 q h2.1 h3.2⟩, h4⟩
    · exact .inr h
  · have hje : j = n := by simp at hj; omega
    have hrj : (rs ++ [r])[j] = r := by
      rw [List.getElem_append_right (by omega)]
      have : j - rs.length = 0 := by omega
      simp [this]
    rw [hrj, hje]
    refine ⟨p, pc, none, 0, ⟨hnew 0 _ rfl, hnew 1 _ rfl, hnew 2 _ rfl, hnew 3 _ rfl, ?_⟩, rp.heapT hg.size (eb p rp.1 hpg), hp, ne2 p rp.1 hpg, cp, .inr ⟨rfl, rfl, hps⟩⟩
    rw [hps]
    exact hnew 4 _ rfl
theorem FewT.snoc {rs : List Rs} (h : FewT rs) (hl : rs.length + 1 ≤ 24) (r : Rs) (hr : Few 6 r.pa ∧ r.bo.size ≤ 1000 ∧ r.ps.length ≤ 1001 ∧ ∀ p ∈ r.ps, p.1.size ≤ 1000 ∧ p.2.1.size ≤ 1000 ∧ p.2.2.size ≤ 1000) : FewT (rs ++ [r]) := ⟨by rw [List.length_append]; simpa using hl, fun x hx => by
  rcases List.mem_append.1 hx with e | e
  · exact h.2 x e
  · have e' : x = r := by simpa using e
    rw [e']; exact hr⟩
theorem tree_ps {rs : List Rs} (h : treeB rs = true) : ∀ r ∈ rs, r.ps.length ≤ 1000 := fun r hr => by
  have h1 := res_small (tree_res h r hr)
  have e1 : szR r = r.pa.length + sumL r.pa + r.bo.size + (r.ps.length + sumP r.ps) := rfl
  omega
/-- A box of five cells. -/
structure Bx5 (w : World) (b : Nat) (v0 v1 v2 v3 v4 : Value) : Prop where
  c0 : w.cell? ⟨b, 0, none⟩ = some v0
  c1 : w.cell? ⟨b, 1, none⟩ = some v1
  c2 : w.cell? ⟨b, 2, none⟩ = some v2
  c3 : w.cell? ⟨b, 3, none⟩ = some v3
  c4 : w.cell? ⟨b, 4, none⟩ = some v4
theorem Bx5.made (w : World) (v0 v1 v2 v3 v4 : Value) (T : TypeId) : Bx5 (w.alloc (Obj.cells #[v0, v1, v2, v3, v4] T)) w.heap.size v0 v1 v2 v3 v4 := ⟨by simp, by simp, by simp, by simp, by simp⟩
theorem decDigits_small (n : Nat) (h : n ≤ 21) : (Lib.decDigits n).length ≤ 19 := by
  rcases (by omega : n = 0 ∨ n = 1 ∨ n = 2 ∨ n = 3 ∨ n = 4 ∨ n = 5 ∨ n = 6 ∨ n = 7 ∨ n = 8 ∨ n = 9 ∨ n = 10 ∨ n = 11 ∨ n = 12 ∨ n = 13 ∨ n = 14 ∨ n = 15 ∨ n = 16 ∨ n = 17 ∨ n = 18 ∨ n = 19 ∨ n = 20 ∨ n = 21) with rfl | rfl | rfl | rfl | rfl | rfl | rfl | rfl | rfl | rfl | rfl | rfl | rfl | rfl | rfl | rfl | rfl | rfl | rfl | rfl | rfl | rfl <;> decide +kernel
def AnyO (w' : World) (N z : Nat) (e : Ending) : Prop := ∃ (rs : List Rs) (g n c : Nat), FewT rs ∧ n = rs.length ∧ e = .returned (.slice (some ⟨g, 0, none⟩) n c) ∧ HasV w' N g rs ∧ z ≤ g ∧ n ≤ c ∧ c ≤ maxLen

set_option maxRecDepth 100000 in
set_option maxHeartbeats 8000000 in
theorem l10Any_any {w : World} {N : Nat} {a : Option Addr} {len cap : Nat} {zs : List Int} (h : DX w N a len cap zs) :
    Calls Tryz.prog 53 #[.pointer (some ⟨N, 0, none⟩)] w fun e w' => AnyO w' (w.heap.size - 1) w.heap.size e ∧ DX w' N a len cap zs ∧ w.grownBy w' (some N) := by
  have hlt := h.lt
  have H := hide h
  obtain ⟨M, hM⟩ : ∃ M, w.heap.size - 1 = M := ⟨_, rfl⟩
  rw [hM]
  have hNM : N ≤ M := by omega
  have HMM := hide hM
  have hMs : M < w.heap.size := by omega
  clear h hM
  go_enter Tryz.func53, Tryz.ntmps53
  go_wp2_with fail
  refine (l10Draw_any H.out).mono ?_
  rintro e w1 ⟨⟨rs, g, n, c, htr, hn, rfl, hT, hgw, hW⟩, hd1, hg1⟩
  rw [HMM.out] at hT
  have HF := hide (fewT_of_tree htr)
  have HFq := hide (tree_ps htr)
  have hn12 : n ≤ 12 := by rw [hn]; exact tree_len htr
  have HN := hide hn
  have HT1 := hide hT
  have HW1 := hide hW
  have HD1 := hide hd1
  have HG1 := hide hg1
  have hgN := hT.gN
  have hgs := hT.gs
  have hcc := And.intro hW.1 hW.2.1
  clear hT hW hd1 hg1 hn H htr
  by_cases h0 : n = 0
  · subst h0
    go_wp2
    go_ret
    exact ⟨⟨rs, g, 0, c, HF.out, HN.out, rfl, HT1.out.weak, hgw, hcc.1, hcc.2⟩, HD1.out, HG1.out⟩
  have h0' : (0 : Int) < (n : Int) := by omega
  go_wp2_with fail
  refine (l1BelowX HD1.out n h0' (by omega)).mono ?_
  rintro e w2 ⟨⟨k, rfl, hk⟩, hd2, hg2⟩
  have HT2 := hide (HT1.out.grownM hg2 hNM)
  have HW2 := hide (HW1.out.grown hg2 (by omega))
  have HD2 := hide hd2
  have HG2 := hide (grown_trans HG1.out hg2)
  clear hd2 hg2 HT1 HW1 HD1 HG1
  go_wp2_with fail
  refine (l1BelowX HD2.out 14 (by decide) (by decide)).mono ?_
  rintro e w3 ⟨⟨m, rfl, hm⟩, hd3, hg3⟩
  have HT3 := hide (HT2.out.grownM hg3 hNM)
  have HW3 := hide (HW2.out.grown hg3 (by omega))
  have HD3 := hide hd3
  have HG3 := hide (grown_trans HG2.out hg3)
  have hgs3 := HT3.out.gs
  clear hd3 hg3 HT2 HW2 HD2 HG2
  have hkr : k < rs.length := by have := HN.out; omega
  have hki : (k : Int) < (n : Int) := by omega
  have hk0 : (0 : Int) ≤ (k : Int) := by omega
  have HFk := hide (HF.out.2 _ (List.getElem_mem hkr))
  have HFp := hide (HFq.out _ (List.getElem_mem hkr))
  obtain ⟨p, pc, qa, qc, x3⟩ := HT3.out.weak.el k hkr
  have hfz3 := fun i => HT3.out.fz i
  have HX3 := hide x3
  obtain ⟨c0, c1, c2, c3, c4⟩ := x3.at'
  clear x3
  rcases (by omega : m = 0 ∨ m = 1 ∨ m = 2 ∨ m = 3 ∨ m = 4 ∨ m = 5 ∨ 6 ≤ m) with rfl | rfl | rfl | rfl | rfl | rfl | h6
  · go_wp2_with fail
    refine (l2Any_any HD3.out).mono ?_
    rintro e w4 ⟨⟨ss, n2, g2, c2', hf, hn2, rfl, hown⟩, hd4, hg4⟩
    subst hn2
    have HT4 := hide (HT3.out.grownM hg4 hNM)
    obtain ⟨r4, q1, q2, q3⟩ := owns_rowS hown rfl
    obtain ⟨p', pc', qa', qc', x4⟩ := HT4.out.weak.el k hkr
    have d0 := x4.at'.1
    have hfz4 := HT4.out.fz (k * 5)
    have HX4 := hide x4
    have HD4 := hide hd4
    have HG4 := hide (grown_trans HG3.out hg4)
    have HFs := hide hf
    have z3 := HG3.out.size
    have hne : g2 ≠ g := by omega
    have hN2 : M < g2 := by omega
    clear hf hown hd4 hg4 x4 HX3 HT3 HW3 HD3 HG3 c0 c1 c2 c3 c4
    go_wp2
    go_ret
    refine ⟨⟨_, g, n, c, HF.out.set k _ ?_, by rw [List.length_set]; exact HN.out, rfl, HT4.out.weak.set k 0 (by decide) _ _ ⟨_, _, _, _, HX4.out.set0 g2 _ c2' ss rfl r4 hN2 hne q2 q3⟩, hgw, hcc.1, hcc.2⟩, HD4.out.set _ (by omega), grown_setQ HG4.out _ hgw⟩
    exact ⟨HFs.out, HFk.out.2⟩
  · go_wp2
    go_ret
    refine ⟨⟨_, g, n, c, HF.out.set k _ ?_, by rw [List.length_set]; exact HN.out, rfl, HT3.out.weak.set k 1 (by decide) _ _ ⟨_, _, _, _, HX3.out.set1 _⟩, hgw, hcc.1, hcc.2⟩, HD3.out.set _ (by omega), grown_setQ HG3.out _ hgw⟩
    exact HFk.out
  · go_wp2_with fail
    refine (l1BelowX HD3.out 2 (by decide) (by decide)).mono ?_
    rintro e w4 ⟨⟨y, rfl, hy⟩, hd4, hg4⟩
    obtain ⟨z, hz⟩ : ∃ z : Nat, z = 200 + y := ⟨_, rfl⟩
    have hz' : ((200 : Int) + (y : Int)) = ((z : Nat) : Int) := by omega
    have hzb : z ≤ 201 := by omega
    have hw : IntKind.i64.wrap (200 + (y : Int)) = (z : Int) := by rw [IntKind.wrap_i64]; omega
    clear hz
    have hmk := run_make_row' (P := Tryz.prog) 22 5 (.int .u8 0) 1 Tryz.underlying22 info_u8t rfl .i64 .i64 z (by omega) (by omega) w4
    obtain ⟨x, hxz, hcv⟩ := conv_zerosT w4 z
    have hxz' : x.size ≤ 1000 := by omega
    have HT5 := hide ((HT3.out.grownM hg4 hNM).below ((Below.refl w4.heap.size w4).alloc (Nat.le_refl _) (.cells (madeCells #[.int .u8 0] z) 5)))
    have HD5 := hide (DX.alloc hd4 (.cells (madeCells #[.int .u8 0] z) 5))
    have HG5 := hide (grown_alloc (grown_trans HG3.out hg4) (.cells (madeCells #[.int .u8 0] z) 5))
    obtain ⟨w5, hw5⟩ : ∃ w5, w4.alloc (.cells (madeCells #[.int .u8 0] z) 5) = w5 := ⟨_, rfl⟩
    rw [hw5] at HT5 HD5 HG5 hcv hmk
    clear hxz hw5
    obtain ⟨p', pc', qa', qc', x4⟩ := HT5.out.weak.el k hkr
    have d2 := x4.at'.2.2.1
    have hfz4 := HT5.out.fz (k * 5 + 2)
    have HX4 := hide x4
    clear hd4 hg4 x4 HX3 HT3 HW3 HD3 HG3 c0 c1 c2 c3 c4
    go_wp2
    go_ret
    refine ⟨⟨_, g, n, c, HF.out.set k _ ?_, by rw [List.length_set]; exact HN.out, rfl, HT5.out.weak.set k 2 (by decide) _ _ ⟨_, _, _, _, HX4.out.set2 x⟩, hgw, hcc.1, hcc.2⟩, HD5.out.set _ (by omega), grown_setQ HG5.out _ hgw⟩
    exact ⟨HFk.out.1, hxz', HFk.out.2.2⟩
  · go_wp2_with fail
    refine (intNewQ HD3.out [-1, 99999, 100000] _ _ 3 _ rfl rfl rfl (by decide) (by decide)).mono ?_
    rintro e w4 ⟨⟨v, rfl⟩, hd4, hg4⟩
    have HT4 := hide (HT3.out.grownM hg4 hNM)
    obtain ⟨p', pc', qa', qc', x4⟩ := HT4.out.weak.el k hkr
    have d3 := x4.at'.2.2.2.1
    have hfz4 := HT4.out.fz (k * 5 + 3)
    have HX4 := hide x4
    have HD4 := hide hd4
    have HG4 := hide (grown_trans HG3.out hg4)
    clear hd4 hg4 x4 HX3 HT3 HW3 HD3 HG3 c0 c1 c2 c3 c4
    go_wp2
    go_ret
    refine ⟨⟨_, g, n, c, HF.out.set k _ ?_, by rw [List.length_set]; exact HN.out, rfl, HT4.out.weak.set k 3 (by decide) _ _ ⟨_, _, _, _, HX4.out.set3 v⟩, hgw, hcc.1, hcc.2⟩, HD4.out.set _ (by omega), grown_setQ HG4.out _ hgw⟩
    exact HFk.out
  · clear HX3 c0 c1 c2 c3 c4 hfz3
    obtain ⟨w10, hw10⟩ : ∃ w10, w3.drew = w10 := ⟨_, rfl⟩
    have b9 : Below w3.heap.size w3 w10 := by rw [← hw10]; exact below_drewP (Below.refl _ _)
    have HT10 := hide (HT3.out.below b9)
    have HD10 := hide (HD3.out.below b9)
    have HG10 := hide (grown_belowQ HG3.out b9 HG3.out.size)
    clear HT3 HD3 HG3 b9 HW3
    obtain ⟨p, pc, q, qc, x10⟩ := HT10.out.el k hkr
    have hS10 := x10.at'.2.2.2.2
    clear x10
    go_wp2
    refine wp_region_held_drew (S := (fun _ => True)) (by kernel_rfl) True.intro (fun hHeld => ?_)
    rw [hw10]
    clear hw10 hHeld
    have hHeld : True := True.intro
    simp only [List.size_toArray, List.length_cons, List.length_nil, Nat.reduceAdd, Array.replicate_succ, Array.replicate_zero, List.push_toArray, List.nil_append, List.cons_append]
    refine wpAnyH_take (i := 0) (v := ?_) rfl (by kernel_rfl) (by kernel_rfl) (by kernel_rfl) (fun _ _ _ h => h) (Or.inl ⟨by rfl, ?_⟩) (by assumption) ?_
    rotate_left
    · intro w hSw; (try dsimp only at hSw); go_simp; try with_reducible rfl
    simp only [Act.put, List.getElem_toArray, List.getElem_cons_zero, List.setIfInBounds_toArray, List.set_cons_zero]
    refine wpAnyH_take (i := 1) (v := ?_) rfl (by kernel_rfl) (by kernel_rfl) (by kernel_rfl) (fun _ _ _ h => h) (Or.inl ⟨by rfl, ?_⟩) (by assumption) ?_
    rotate_left
    · intro w hSw; (try dsimp only at hSw); go_simp; try with_reducible rfl
    simp only [Act.put, List.getElem_toArray, List.getElem_cons_succ, List.getElem_cons_zero, List.setIfInBounds_toArray, List.set_cons_succ, List.set_cons_zero]
    refine wpAnyH_take (i := 2) (v := ?_) rfl (by kernel_rfl) (by kernel_rfl) (by kernel_rfl) (fun _ _ _ h => h) (Or.inl ⟨by rfl, ?_⟩) (by assumption) ?_
    rotate_left
    · intro w hSw; (try dsimp only at hSw); go_simp; try with_reducible rfl
    simp only [Act.put, List.getElem_toArray, List.getElem_cons_succ, List.getElem_cons_zero, List.setIfInBounds_toArray, List.set_cons_succ, List.set_cons_zero]
    refine wpAnyH_take (i := 3) (v := ?_) rfl (by kernel_rfl) (by kernel_rfl) (by kernel_rfl) (fun _ _ _ h => h) (Or.inl ⟨by rfl, ?_⟩) (by assumption) ?_
    rotate_left
    · intro w hSw; (try dsimp only at hSw); go_simp; try with_reducible rfl
    simp only [Act.put, List.getElem_toArray, List.getElem_cons_succ, List.getElem_cons_zero, List.setIfInBounds_toArray, List.set_cons_succ, List.set_cons_zero]
    refine wpAnyH_take (i := 4) (v := ?_) rfl (by kernel_rfl) (by kernel_rfl) (by kernel_rfl) (fun _ _ _ h => h) (Or.inl ⟨by rfl, ?_⟩) (by assumption) ?_
    rotate_left
    · intro w hSw; (try dsimp only at hSw); go_simp; try with_reducible rfl
    simp only [Act.put, List.getElem_toArray, List.getElem_cons_succ, List.getElem_cons_zero, List.setIfInBounds_toArray, List.set_cons_succ, List.set_cons_zero]
    refine wpAnyH_take (i := 5) (v := ?_) rfl (by kernel_rfl) (by kernel_rfl) (by kernel_rfl) (fun _ _ _ h => h) (Or.inl ⟨by rfl, ?_⟩) (by assumption) ?_
    rotate_left
    · intro w hSw; (try dsimp only at hSw); go_simp; try with_reducible rfl
    simp only [Act.put, List.getElem_toArray, List.getElem_cons_succ, List.getElem_cons_zero, List.setIfInBounds_toArray, List.set_cons_succ, List.set_cons_zero]
    refine wpAnyH_take (i := 7) (v := ?_) rfl (by kernel_rfl) (by kernel_rfl) (by kernel_rfl) (fun _ _ _ h => h) (Or.inl ⟨by rfl, ?_⟩) (by assumption) ?_
    rotate_left
    · intro w hSw; (try dsimp only at hSw); go_simp; try with_reducible rfl
    simp only [Act.put, List.getElem_toArray, List.getElem_cons_succ, List.getElem_cons_zero, List.setIfInBounds_toArray, List.set_cons_succ, List.set_cons_zero]
    refine wpAnyH_ready (rs := [6, 8]) (by kernel_rfl) (by simp) ?_
    refine AllReadyH.cons rfl (fun K hK => ?_) (AllReadyH.cons rfl (fun K hK => ?_) AllReadyH.nil)
    · go_simp
      refine hK.out _ _ True.intro (fun hHeld2 => ?_)
      clear hK K hHeld
      have hHeld := hHeld2
      clear hHeld2
      simp only [List.setIfInBounds_toArray, List.set_cons_succ, List.set_cons_zero]
      refine wpAnyH_ready (rs := [8]) (by kernel_rfl) (by simp) ?_
      refine AllReadyH.cons rfl (fun K hK => ?_) AllReadyH.nil
      go_simp
      refine (l10OneProp_any HD10.out).mono ?_
      rintro e w11 ⟨⟨pp, rfl, hp⟩, hd4, hg4⟩
      have HP := hide hp
      have hS11 : w11.cell? ⟨g, k * 5 + 4, none⟩ = some (.slice (some ⟨q, 0, none⟩) rs[k].ps.length qc) := (World.cell?_of_block (a := ⟨g, k * 5 + 4, none⟩) (hg4.block g HT10.out.gs (by have := HT10.out.gN; simp; omega))).trans hS10
      have HT11 := hide (HT10.out.grownM hg4 hNM)
      have HD11 := hide hd4
      have HG11 := hide (grown_trans HG10.out hg4)
      clear hp hd4 hg4 hS10 HT10 HD10 HG10
      refine hK.out _ _ True.intro (fun hHeld2 => ?_)
      clear hK K hHeld
      have hHeld := hHeld2
      clear hHeld2
      simp only [List.setIfInBounds_toArray, List.set_cons_succ, List.set_cons_zero]
      refine wpAnyH_ready (rs := [9]) (by kernel_rfl) (by simp) ?_
      refine AllReadyH.cons rfl (fun K hK => ?_) AllReadyH.nil
      go_simp
      obtain ⟨w12, hw5⟩ : ∃ w', w11.alloc (Obj.cells #[.string pp.1, .string pp.2.1, .string pp.2.2] 88) = w' := ⟨_, rfl⟩
      have b5 : Below w11.heap.size w11 w12 := by rw [← hw5]; exact (Below.refl _ _).alloc (Nat.le_refl _) _
      have hB5 : B3 w12 w11.heap.size (.string pp.1) (.string pp.2.1) (.string pp.2.2) := by rw [← hw5]; exact B3.made _ _ _ _ _
      have hS12 : w12.cell? ⟨g, k * 5 + 4, none⟩ = some (.slice (some ⟨q, 0, none⟩) rs[k].ps.length qc) := (b5.cell (p := ⟨g, k * 5 + 4, none⟩) HT11.out.gs).trans hS11
      have HT12 := hide (HT11.out.below b5)
      have HD12 := hide (show DX w12 N a len cap zs by rw [← hw5]; exact HD11.out.alloc _)
      have HG12 := hide (show w.grownBy w12 (some N) by rw [← hw5]; exact grown_alloc HG11.out _)
      have HB5 := hide hB5
      rw [hw5]
      clear hw5 hB5 b5 hS11 HT11 HD11 HG11
      refine hK.out _ _ True.intro (fun hHeld2 => ?_)
      clear hK K hHeld
      have hHeld := hHeld2
      clear hHeld2
      simp only [List.setIfInBounds_toArray, List.set_cons_succ, List.set_cons_zero]
      refine wpAnyH_ready (rs := [10]) (by kernel_rfl) (by simp) ?_
      refine AllReadyH.cons rfl (fun K hK => ?_) AllReadyH.nil
      obtain ⟨p5, pc5, q5, qc5, x5⟩ := HT12.out.el k hkr
      have e5 := x5.at'.2.2.2.2.symm.trans hS12
      simp only [Option.some.injEq, Value.slice.injEq, Addr.mk.injEq] at e5
      obtain ⟨⟨rfl, _⟩, _, rfl⟩ := e5
      have HO := hide (ownG_of_row x5.rq x5.rm x5.cq.1 x5.cq.2 w.heap.size (by have := x5.qN; have := HMM.out; omega))
      have X5 := hide x5
      clear x5
      refine step_append_gen 42 Tryz.underlying42 (.agg #[.string ByteArray.empty, .string ByteArray.empty, .string ByteArray.empty]) 48 info_prop rfl (by decide) (by decide) rfl _ _ rfl w.heap.size _ rs[k].ps (by first | rfl | (simp [Act.eval])) HO.out (fun _ => rfl) _ pp (by first | rfl | (simp [Act.eval]; done)) (fun i v hv => by
        match i, hv with
        | 0, hv => cases hv; exact HB5.out.c0
        | 1, hv => cases hv; exact HB5.out.c1
        | 2, hv => cases hv; exact HB5.out.c2
        | i + 3, hv => simp [ppCs] at hv) (fun v hv => by simp only [ppCs, List.mem_cons, List.not_mem_nil, or_false] at hv; rcases hv with rfl | rfl | rfl <;> rfl) (by have := HFk.out.2.2.1; omega) HG12.out.size ?_
      intro g2 n2 c2 w13 hn2 hO2 hB2 hG2 hat
      have hO3 := hO2
      unfold OwnG at hO3
      rw [← hn2] at hO3
      have hr2 := owns_rowP hO3 hn2.symm
      have HA := hide (HT12.out.appended k hkr p5 pc5 q5 qc5 X5.out hG2 g2 n2 c2 (rs[k].ps ++ [pp]) hr2.1 hn2 (by have := hr2.2.1; omega) (by
        rcases hat with e | e
        · have e' : q5 = g2 := Option.some.inj e
          subst e'; exact X5.out.qg
        · have := HT12.out.gs; omega) hr2.2.2.1 hr2.2.2.2)
      have HD13 := hide (HD12.out.other hB2.size (fun i hi => hG2.block i (by have := HD12.out.lt; omega) (fun e => by have e' : q5 = i := Option.some.inj e.symm; have := X5.out.qN; omega)))
      have HG13 := hide (grown_belowQ HG12.out hB2 (Nat.le_refl _))
      have hbg : w13.heap[g]? = w12.heap[g]? := hG2.block g HT12.out.gs (fun e => by have e' : q5 = g := Option.some.inj e.symm; exact X5.out.qg e')
      have hS13 : w13.cell? ⟨g, k * 5 + 4, none⟩ = some (.slice (some ⟨q5, 0, none⟩) rs[k].ps.length qc5) := (World.cell?_of_block (a := ⟨g, k * 5 + 4, none⟩) hbg).trans hS12
      have hF13 : w13.frozen? ⟨g, k * 5 + 4, none⟩ = false := by have h9 := HT12.out.fz (k * 5 + 4); simp only [World.frozen?, hbg] at h9 ⊢; exact h9
      have HN2 := hide hn2
      clear hr2 hO3 hO2 hB2 hG2 hat hbg HT12 HD12 HG12 HB5 X5 HO hn2 hS12
      refine hK.out _ _ True.intro (fun hHeld2 => ?_)
      clear hK K hHeld
      have hHeld := hHeld2
      clear hHeld2
      simp only [List.setIfInBounds_toArray, List.set_cons_succ, List.set_cons_zero]
      refine wpAnyH_take (i := 11) (v := ?_) rfl (by kernel_rfl) (by kernel_rfl) (by kernel_rfl) (fun _ _ _ h => h) (Or.inl ⟨by rfl, ?_⟩) (by assumption) ?_
      rotate_left
      · intro w hSw; (try dsimp only at hSw); go_simp; try with_reducible rfl
      simp only [Act.put, List.getElem_toArray, List.getElem_cons_succ, List.getElem_cons_zero, List.setIfInBounds_toArray, List.set_cons_succ, List.set_cons_zero]
      refine wpAnyH_take (i := 12) (v := ?_) rfl (by kernel_rfl) (by kernel_rfl) (by kernel_rfl) (fun _ _ _ h => h) (Or.inl ⟨by rfl, ?_⟩) (by assumption) ?_
      rotate_left
      · intro w hSw; (try dsimp only at hSw); go_simp; try with_reducible rfl
      simp only [Act.put, List.getElem_toArray, List.getElem_cons_succ, List.getElem_cons_zero, List.setIfInBounds_toArray, List.set_cons_succ, List.set_cons_zero]
      refine wpAnyH_ready (rs := [13]) (by kernel_rfl) (by simp) ?_
      refine AllReadyH.cons rfl (fun K hK => ?_) AllReadyH.nil
      go_simp
      obtain ⟨w14, hw7⟩ : ∃ w', w13.setCell ⟨g, k * 5 + 4, none⟩ (.slice (some ⟨g2, 0, none⟩) n2 c2) = w' := ⟨_, rfl⟩
      rw [hw7] at HA
      have HD14 := hide (show DX w14 N a len cap zs by rw [← hw7]; exact HD13.out.set _ (by omega))
      have HG14 := hide (show w.grownBy w14 (some N) by rw [← hw7]; exact grown_setQ HG13.out _ hgw)
      rw [hw7]
      clear hw7 HD13 HG13 hS13 hF13
      refine hK.out _ _ True.intro (fun hHeld2 => ?_)
      clear hK K hHeld
      have hHeld := hHeld2
      clear hHeld2
      simp only [List.setIfInBounds_toArray, List.set_cons_succ, List.set_cons_zero]
      refine wpAnyH_done (by kernel_rfl) ?_ _
      clear hHeld
      go_wp2
      go_ret
      refine ⟨⟨_, g, n, c, HF.out.set k _ ?_, by rw [List.length_set]; exact HN.out, rfl, HA.out, hgw, hcc.1, hcc.2⟩, HD14.out, HG14.out⟩
      refine ⟨HFk.out.1, HFk.out.2.1, by show (rs[k].ps ++ [pp]).length ≤ _; rw [List.length_append]; have := HFp.out; simp; omega, fun p0 hp0 => ?_⟩
      rcases List.mem_append.1 hp0 with h9 | h9
      · exact HFk.out.2.2.2 p0 h9
      · have e9 : p0 = pp := by simpa using h9
        subst e9
        have h8 := HP.out
        unfold FewP at h8
        omega
    · go_simp
      refine (l10OneProp_any HD10.out).mono ?_
      rintro e w11 ⟨⟨pp, rfl, hp⟩, hd4, hg4⟩
      have HP := hide hp
      have hS11 : w11.cell? ⟨g, k * 5 + 4, none⟩ = some (.slice (some ⟨q, 0, none⟩) rs[k].ps.length qc) := (World.cell?_of_block (a := ⟨g, k * 5 + 4, none⟩) (hg4.block g HT10.out.gs (by have := HT10.out.gN; simp; omega))).trans hS10
      have HT11 := hide (HT10.out.grownM hg4 hNM)
      have HD11 := hide hd4
      have HG11 := hide (grown_trans HG10.out hg4)
      clear hp hd4 hg4 hS10 HT10 HD10 HG10
      refine hK.out _ _ True.intro (fun hHeld2 => ?_)
      clear hK K hHeld
      have hHeld := hHeld2
      clear hHeld2
      simp only [List.setIfInBounds_toArray, List.set_cons_succ, List.set_cons_zero]
      refine wpAnyH_ready (rs := [6, 9]) (by kernel_rfl) (by simp) ?_
      refine AllReadyH.cons rfl (fun K hK => ?_) (AllReadyH.cons rfl (fun K hK => ?_) AllReadyH.nil)
      · go_simp
        refine hK.out _ _ True.intro (fun hHeld2 => ?_)
        clear hK K hHeld
        have hHeld := hHeld2
        clear hHeld2
        simp only [List.setIfInBounds_toArray, List.set_cons_succ, List.set_cons_zero]
        refine wpAnyH_ready (rs := [9]) (by kernel_rfl) (by simp) ?_
        refine AllReadyH.cons rfl (fun K hK => ?_) AllReadyH.nil
        go_simp
        obtain ⟨w12, hw5⟩ : ∃ w', w11.alloc (Obj.cells #[.string pp.1, .string pp.2.1, .string pp.2.2] 88) = w' := ⟨_, rfl⟩
        have b5 : Below w11.heap.size w11 w12 := by rw [← hw5]; exact (Below.refl _ _).alloc (Nat.le_refl _) _
        have hB5 : B3 w12 w11.heap.size (.string pp.1) (.string pp.2.1) (.string pp.2.2) := by rw [← hw5]; exact B3.made _ _ _ _ _
        have hS12 : w12.cell? ⟨g, k * 5 + 4, none⟩ = some (.slice (some ⟨q, 0, none⟩) rs[k].ps.length qc) := (b5.cell (p := ⟨g, k * 5 + 4, none⟩) HT11.out.gs).trans hS11
        have HT12 := hide (HT11.out.below b5)
        have HD12 := hide (show DX w12 N a len cap zs by rw [← hw5]; exact HD11.out.alloc _)
        have HG12 := hide (show w.grownBy w12 (some N) by rw [← hw5]; exact grown_alloc HG11.out _)
        have HB5 := hide hB5
        rw [hw5]
        clear hw5 hB5 b5 hS11 HT11 HD11 HG11
        refine hK.out _ _ True.intro (fun hHeld2 => ?_)
        clear hK K hHeld
        have hHeld := hHeld2
        clear hHeld2
        simp only [List.setIfInBounds_toArray, List.set_cons_succ, List.set_cons_zero]
        refine wpAnyH_ready (rs := [10]) (by kernel_rfl) (by simp) ?_
        refine AllReadyH.cons rfl (fun K hK => ?_) AllReadyH.nil
        obtain ⟨p5, pc5, q5, qc5, x5⟩ := HT12.out.el k hkr
        have e5 := x5.at'.2.2.2.2.symm.trans hS12
        simp only [Option.some.injEq, Value.slice.injEq, Addr.mk.injEq] at e5
        obtain ⟨⟨rfl, _⟩, _, rfl⟩ := e5
        have HO := hide (ownG_of_row x5.rq x5.rm x5.cq.1 x5.cq.2 w.heap.size (by have := x5.qN; have := HMM.out; omega))
        have X5 := hide x5
        clear x5
        refine step_append_gen 42 Tryz.underlying42 (.agg #[.string ByteArray.empty, .string ByteArray.empty, .string ByteArray.empty]) 48 info_prop rfl (by decide) (by decide) rfl _ _ rfl w.heap.size _ rs[k].ps (by first | rfl | (simp [Act.eval])) HO.out (fun _ => rfl) _ pp (by first | rfl | (simp [Act.eval]; done)) (fun i v hv => by
          match i, hv with
          | 0, hv => cases hv; exact HB5.out.c0
          | 1, hv => cases hv; exact HB5.out.c1
          | 2, hv => cases hv; exact HB5.out.c2
          | i + 3, hv => simp [ppCs] at hv) (fun v hv => by simp only [ppCs, List.mem_cons, List.not_mem_nil, or_false] at hv; rcases hv with rfl | rfl | rfl <;> rfl) (by have := HFk.out.2.2.1; omega) HG12.out.size ?_
        intro g2 n2 c2 w13 hn2 hO2 hB2 hG2 hat
        have hO3 := hO2
        unfold OwnG at hO3
        rw [← hn2] at hO3
        have hr2 := owns_rowP hO3 hn2.symm
        have HA := hide (HT12.out.appended k hkr p5 pc5 q5 qc5 X5.out hG2 g2 n2 c2 (rs[k].ps ++ [pp]) hr2.1 hn2 (by have := hr2.2.1; omega) (by
          rcases hat with e | e
          · have e' : q5 = g2 := Option.some.inj e
            subst e'; exact X5.out.qg
          · have := HT12.out.gs; omega) hr2.2.2.1 hr2.2.2.2)
        have HD13 := hide (HD12.out.other hB2.size (fun i hi => hG2.block i (by have := HD12.out.lt; omega) (fun e => by have e' : q5 = i := Option.some.inj e.symm; have := X5.out.qN; omega)))
        have HG13 := hide (grown_belowQ HG12.out hB2 (Nat.le_refl _))
        have hbg : w13.heap[g]? = w12.heap[g]? := hG2.block g HT12.out.gs (fun e => by have e' : q5 = g := Option.some.inj e.symm; exact X5.out.qg e')
        have hS13 : w13.cell? ⟨g, k * 5 + 4, none⟩ = some (.slice (some ⟨q5, 0, none⟩) rs[k].ps.length qc5) := (World.cell?_of_block (a := ⟨g, k * 5 + 4, none⟩) hbg).trans hS12
        have hF13 : w13.frozen? ⟨g, k * 5 + 4, none⟩ = false := by have h9 := HT12.out.fz (k * 5 + 4); simp only [World.frozen?, hbg] at h9 ⊢; exact h9
        have HN2 := hide hn2
        clear hr2 hO3 hO2 hB2 hG2 hat hbg HT12 HD12 HG12 HB5 X5 HO hn2 hS12
        refine hK.out _ _ True.intro (fun hHeld2 => ?_)
        clear hK K hHeld
        have hHeld := hHeld2
        clear hHeld2
        simp only [List.setIfInBounds_toArray, List.set_cons_succ, List.set_cons_zero]
        refine wpAnyH_take (i := 11) (v := ?_) rfl (by kernel_rfl) (by kernel_rfl) (by kernel_rfl) (fun _ _ _ h => h) (Or.inl ⟨by rfl, ?_⟩) (by assumption) ?_
        rotate_left
        · intro w hSw; (try dsimp only at hSw); go_simp; try with_reducible rfl
        simp only [Act.put, List.getElem_toArray, List.getElem_cons_succ, List.getElem_cons_zero, List.setIfInBounds_toArray, List.set_cons_succ, List.set_cons_zero]
        refine wpAnyH_take (i := 12) (v := ?_) rfl (by kernel_rfl) (by kernel_rfl) (by kernel_rfl) (fun _ _ _ h => h) (Or.inl ⟨by rfl, ?_⟩) (by assumption) ?_
        rotate_left
        · intro w hSw; (try dsimp only at hSw); go_simp; try with_reducible rfl
        simp only [Act.put, List.getElem_toArray, List.getElem_cons_succ, List.getElem_cons_zero, List.setIfInBounds_toArray, List.set_cons_succ, List.set_cons_zero]
        refine wpAnyH_ready (rs := [13]) (by kernel_rfl) (by simp) ?_
        refine AllReadyH.cons rfl (fun K hK => ?_) AllReadyH.nil
        go_simp
        obtain ⟨w14, hw7⟩ : ∃ w', w13.setCell ⟨g, k * 5 + 4, none⟩ (.slice (some ⟨g2, 0, none⟩) n2 c2) = w' := ⟨_, rfl⟩
        rw [hw7] at HA
        have HD14 := hide (show DX w14 N a len cap zs by rw [← hw7]; exact HD13.out.set _ (by omega))
        have HG14 := hide (show w.grownBy w14 (some N) by rw [← hw7]; exact grown_setQ HG13.out _ hgw)
        rw [hw7]
        clear hw7 HD13 HG13 hS13 hF13
        refine hK.out _ _ True.intro (fun hHeld2 => ?_)
        clear hK K hHeld
        have hHeld := hHeld2
        clear hHeld2
        simp only [List.setIfInBounds_toArray, List.set_cons_succ, List.set_cons_zero]
        refine wpAnyH_done (by kernel_rfl) ?_ _
        clear hHeld
        go_wp2
        go_ret
        refine ⟨⟨_, g, n, c, HF.out.set k _ ?_, by rw [List.length_set]; exact HN.out, rfl, HA.out, hgw, hcc.1, hcc.2⟩, HD14.out, HG14.out⟩
        refine ⟨HFk.out.1, HFk.out.2.1, by show (rs[k].ps ++ [pp]).length ≤ _; rw [List.length_append]; have := HFp.out; simp; omega, fun p0 hp0 => ?_⟩
        rcases List.mem_append.1 hp0 with h9 | h9
        · exact HFk.out.2.2.2 p0 h9
        · have e9 : p0 = pp := by simpa using h9
          subst e9
          have h8 := HP.out
          unfold FewP at h8
          omega
      · go_simp
        obtain ⟨w12, hw5⟩ : ∃ w', w11.alloc (Obj.cells #[.string pp.1, .string pp.2.1, .string pp.2.2] 88) = w' := ⟨_, rfl⟩
        have b5 : Below w11.heap.size w11 w12 := by rw [← hw5]; exact (Below.refl _ _).alloc (Nat.le_refl _) _
        have hB5 : B3 w12 w11.heap.size (.string pp.1) (.string pp.2.1) (.string pp.2.2) := by rw [← hw5]; exact B3.made _ _ _ _ _
        have hS12 : w12.cell? ⟨g, k * 5 + 4, none⟩ = some (.slice (some ⟨q, 0, none⟩) rs[k].ps.length qc) := (b5.cell (p := ⟨g, k * 5 + 4, none⟩) HT11.out.gs).trans hS11
        have HT12 := hide (HT11.out.below b5)
        have HD12 := hide (show DX w12 N a len cap zs by rw [← hw5]; exact HD11.out.alloc _)
        have HG12 := hide (show w.grownBy w12 (some N) by rw [← hw5]; exact grown_alloc HG11.out _)
        have HB5 := hide hB5
        rw [hw5]
        clear hw5 hB5 b5 hS11 HT11 HD11 HG11
        refine hK.out _ _ True.intro (fun hHeld2 => ?_)
        clear hK K hHeld
        have hHeld := hHeld2
        clear hHeld2
        simp only [List.setIfInBounds_toArray, List.set_cons_succ, List.set_cons_zero]
        refine wpAnyH_ready (rs := [6]) (by kernel_rfl) (by simp) ?_
        refine AllReadyH.cons rfl (fun K hK => ?_) AllReadyH.nil
        go_simp
        refine hK.out _ _ True.intro (fun hHeld2 => ?_)
        clear hK K hHeld
        have hHeld := hHeld2
        clear hHeld2
        simp only [List.setIfInBounds_toArray, List.set_cons_succ, List.set_cons_zero]
        refine wpAnyH_ready (rs := [10]) (by kernel_rfl) (by simp) ?_
        refine AllReadyH.cons rfl (fun K hK => ?_) AllReadyH.nil
        obtain ⟨p5, pc5, q5, qc5, x5⟩ := HT12.out.el k hkr
        have e5 := x5.at'.2.2.2.2.symm.trans hS12
        simp only [Option.some.injEq, Value.slice.injEq, Addr.mk.injEq] at e5
        obtain ⟨⟨rfl, _⟩, _, rfl⟩ := e5
        have HO := hide (ownG_of_row x5.rq x5.rm x5.cq.1 x5.cq.2 w.heap.size (by have := x5.qN; have := HMM.out; omega))
        have X5 := hide x5
        clear x5
        refine step_append_gen 42 Tryz.underlying42 (.agg #[.string ByteArray.empty, .string ByteArray.empty, .string ByteArray.empty]) 48 info_prop rfl (by decide) (by decide) rfl _ _ rfl w.heap.size _ rs[k].ps (by first | rfl | (simp [Act.eval])) HO.out (fun _ => rfl) _ pp (by first | rfl | (simp [Act.eval]; done)) (fun i v hv => by
          match i, hv with
          | 0, hv => cases hv; exact HB5.out.c0
          | 1, hv => cases hv; exact HB5.out.c1
          | 2, hv => cases hv; exact HB5.out.c2
          | i + 3, hv => simp [ppCs] at hv) (fun v hv => by simp only [ppCs, List.mem_cons, List.not_mem_nil, or_false] at hv; rcases hv with rfl | rfl | rfl <;> rfl) (by have := HFk.out.2.2.1; omega) HG12.out.size ?_
        intro g2 n2 c2 w13 hn2 hO2 hB2 hG2 hat
        have hO3 := hO2
        unfold OwnG at hO3
        rw [← hn2] at hO3
        have hr2 := owns_rowP hO3 hn2.symm
        have HA := hide (HT12.out.appended k hkr p5 pc5 q5 qc5 X5.out hG2 g2 n2 c2 (rs[k].ps ++ [pp]) hr2.1 hn2 (by have := hr2.2.1; omega) (by
          rcases hat with e | e
          · have e' : q5 = g2 := Option.some.inj e
            subst e'; exact X5.out.qg
          · have := HT12.out.gs; omega) hr2.2.2.1 hr2.2.2.2)
        have HD13 := hide (HD12.out.other hB2.size (fun i hi => hG2.block i (by have := HD12.out.lt; omega) (fun e => by have e' : q5 = i := Option.some.inj e.symm; have := X5.out.qN; omega)))
        have HG13 := hide (grown_belowQ HG12.out hB2 (Nat.le_refl _))
        have hbg : w13.heap[g]? = w12.heap[g]? := hG2.block g HT12.out.gs (fun e => by have e' : q5 = g := Option.some.inj e.symm; exact X5.out.qg e')
        have hS13 : w13.cell? ⟨g, k * 5 + 4, none⟩ = some (.slice (some ⟨q5, 0, none⟩) rs[k].ps.length qc5) := (World.cell?_of_block (a := ⟨g, k * 5 + 4, none⟩) hbg).trans hS12
        have hF13 : w13.frozen? ⟨g, k * 5 + 4, none⟩ = false := by have h9 := HT12.out.fz (k * 5 + 4); simp only [World.frozen?, hbg] at h9 ⊢; exact h9
        have HN2 := hide hn2
        clear hr2 hO3 hO2 hB2 hG2 hat hbg HT12 HD12 HG12 HB5 X5 HO hn2 hS12
        refine hK.out _ _ True.intro (fun hHeld2 => ?_)
        clear hK K hHeld
        have hHeld := hHeld2
        clear hHeld2
        simp only [List.setIfInBounds_toArray, List.set_cons_succ, List.set_cons_zero]
        refine wpAnyH_take (i := 11) (v := ?_) rfl (by kernel_rfl) (by kernel_rfl) (by kernel_rfl) (fun _ _ _ h => h) (Or.inl ⟨by rfl, ?_⟩) (by assumption) ?_
        rotate_left
        · intro w hSw; (try dsimp only at hSw); go_simp; try with_reducible rfl
        simp only [Act.put, List.getElem_toArray, List.getElem_cons_succ, List.getElem_cons_zero, List.setIfInBounds_toArray, List.set_cons_succ, List.set_cons_zero]
        refine wpAnyH_take (i := 12) (v := ?_) rfl (by kernel_rfl) (by kernel_rfl) (by kernel_rfl) (fun _ _ _ h => h) (Or.inl ⟨by rfl, ?_⟩) (by assumption) ?_
        rotate_left
        · intro w hSw; (try dsimp only at hSw); go_simp; try with_reducible rfl
        simp only [Act.put, List.getElem_toArray, List.getElem_cons_succ, List.getElem_cons_zero, List.setIfInBounds_toArray, List.set_cons_succ, List.set_cons_zero]
        refine wpAnyH_ready (rs := [13]) (by kernel_rfl) (by simp) ?_
        refine AllReadyH.cons rfl (fun K hK => ?_) AllReadyH.nil
        go_simp
        obtain ⟨w14, hw7⟩ : ∃ w', w13.setCell ⟨g, k * 5 + 4, none⟩ (.slice (some ⟨g2, 0, none⟩) n2 c2) = w' := ⟨_, rfl⟩
        rw [hw7] at HA
        have HD14 := hide (show DX w14 N a len cap zs by rw [← hw7]; exact HD13.out.set _ (by omega))
        have HG14 := hide (show w.grownBy w14 (some N) by rw [← hw7]; exact grown_setQ HG13.out _ hgw)
        rw [hw7]
        clear hw7 HD13 HG13 hS13 hF13
        refine hK.out _ _ True.intro (fun hHeld2 => ?_)
        clear hK K hHeld
        have hHeld := hHeld2
        clear hHeld2
        simp only [List.setIfInBounds_toArray, List.set_cons_succ, List.set_cons_zero]
        refine wpAnyH_done (by kernel_rfl) ?_ _
        clear hHeld
        go_wp2
        go_ret
        refine ⟨⟨_, g, n, c, HF.out.set k _ ?_, by rw [List.length_set]; exact HN.out, rfl, HA.out, hgw, hcc.1, hcc.2⟩, HD14.out, HG14.out⟩
        refine ⟨HFk.out.1, HFk.out.2.1, by show (rs[k].ps ++ [pp]).length ≤ _; rw [List.length_append]; have := HFp.out; simp; omega, fun p0 hp0 => ?_⟩
        rcases List.mem_append.1 hp0 with h9 | h9
        · exact HFk.out.2.2.2 p0 h9
        · have e9 : p0 = pp := by simpa using h9
          subst e9
          have h8 := HP.out
          unfold FewP at h8
          omega
  · clear HX3 c0 c1 c2 c3 c4 hfz3 HFk HFp HFq hkr hki hk0 hk
    have HV := hide HT3.out.weak
    clear HT3
    have hr12 : rs.length ≤ 12 := by have := HN.out; omega
    go_wp2
    go_loopw [3, 5] (fun v i wr => ∃ (j : Nat) (l : List Rs) (n g c : Nat), i = .int .i64 j ∧ j ≤ 12 ∧ v = .slice (some ⟨g, 0, none⟩) n c ∧ Hid (n = l.length) ∧ Hid (l.length = rs.length + j) ∧ Hid (FewT l) ∧ Hid (HasV wr M g l) ∧ (w.heap.size ≤ g ∧ Hid (OwnT wr g n c)) ∧ Hid (DX wr N a len cap zs) ∧ Hid (w.grownBy wr (some N))) (fun _ i _ => 12 - (intOf i).toNat)
    case atStart => exact ⟨0, rs, n, g, c, rfl, by omega, rfl, HN, hide (by omega), HF, HV, ⟨hgw, HW3⟩, HD3, HG3⟩
    case round =>
      clear HN HF HV HW3 HD3 HG3 hcc hgw hgN hgs hgs3 hn12 h0 h0'
      obtain ⟨j, l, n, g, c, rfl, hj, rfl, HN, HL, HF, HV, ⟨hgw, HW⟩, HD, HG⟩ := hrel
      by_cases hlt : j < 12
      · obtain ⟨z, hz⟩ : ∃ z : Nat, z = 10 + j := ⟨_, rfl⟩
        have hw : IntKind.i64.wrap (10 + (j : Int)) = (z : Int) := by rw [IntKind.wrap_i64]; omega
        have HNT := hide (fun W => specNumText_any (z : Int) W (by omega))
        have hds := decDigits_small (z : Nat) (by omega)
        rw [Int.toNat_natCast] at HNT
        generalize Lib.decDigits z = ds at *
        clear hz
        have hji : (j : Int) < 12 := by omega
        go_wp2_with fail
        refine (HNT.out _).mono ?_
        rintro e w4 ⟨rfl, b4⟩
        have HV4 := hide (HV.out.below b4)
        have HW4 := hide (HW.out.keep (b4.block g HW.out.lt))
        have HD4 := hide (HD.out.below b4)
        have HG4 := hide (grown_belowQ HG.out b4 HG.out.size)
        clear b4 HV HW HD HG HNT
        obtain ⟨s9, hs9⟩ : ∃ s9 : ByteArray, (⟨#[122]⟩ : ByteArray) ++ ⟨ds.toArray⟩ = s9 := ⟨_, rfl⟩
        have hsz9 : s9.size ≤ 20 := by rw [← hs9, ByteArray.size_append]; show 1 + ds.toArray.size ≤ 20; simp; omega
        obtain ⟨w5, hw5⟩ : ∃ w', w4.alloc (Obj.cells #[.string s9] 9) = w' := ⟨_, rfl⟩
        have b5 : Below w4.heap.size w4 w5 := by rw [← hw5]; exact (Below.refl _ _).alloc (Nat.le_refl _) _
        have RP5 : RowS w5 w4.heap.size [s9] := by
          rw [← hw5]
          exact ⟨by simp, fun j hj => by
            have e0 : j = 0 := by simp at hj; exact hj
            subst e0
            exact ⟨by simp, World.frozen?_alloc_new w4 _ _ 0⟩⟩
        have HV5 := hide (HV4.out.below b5)
        have HW5 := hide (HW4.out.keep (b5.block g HW4.out.lt))
        have HD5 := hide (HD4.out.below b5)
        have HG5 := hide (grown_belowQ HG4.out b5 HG4.out.size)
        have y5 : w5.heap.size = w4.heap.size + 1 := by rw [← hw5]; simp
        have hz4 : w.heap.size ≤ w4.heap.size := HG4.out.size
        have hg4 : g < w4.heap.size := HW4.out.lt
        clear b5 HV4 HW4 HD4 HG4
        obtain ⟨w6, hw6⟩ : ∃ w', w5.alloc (Obj.cells #[.slice (some ⟨w4.heap.size, 0, none⟩) 1 1, .bool false, .string ⟨#[]⟩, .int .i64 0, .slice none 0 0] 62) = w' := ⟨_, rfl⟩
        have b6 : Below w5.heap.size w5 w6 := by rw [← hw6]; exact (Below.refl _ _).alloc (Nat.le_refl _) _
        have RP6 := hide (RP5.below b6)
        have BX6 := hide (show Bx5 w6 (w4.heap.size + 1) (.slice (some ⟨w4.heap.size, 0, none⟩) 1 1) (.bool false) (.string ⟨#[]⟩) (.int .i64 0) (.slice none 0 0) by rw [← hw6]; have h9 := Bx5.made w5 (.slice (some ⟨w4.heap.size, 0, none⟩) 1 1) (.bool false) (.string ⟨#[]⟩) (.int .i64 0) (.slice none 0 0) 62; rwa [y5] at h9)
        have HV6 := hide (HV5.out.below b6)
        have HW6 := hide (HW5.out.keep (b6.block g HW5.out.lt))
        have HD6 := hide (HD5.out.below b6)
        have HG6 := hide (grown_belowQ HG5.out b6 HG5.out.size)
        clear b6 RP5 HV5 HW5 HD5 HG5
        obtain ⟨cur, hcur, hcs⟩ := HW6.out.2.2
        have hnc := HW6.out.1
        have hncm := HW6.out.2.1
        have HCU := hide (And.intro hcur hcs)
        have hnl : n ≤ 24 := by have := HN.out; have := HL.out; omega
        have HOR := hide (show w6.ownsRow w.heap.size 62 5 (.slice (some ⟨g, 0, none⟩) n c) n (cur.toList.take (n * 5)) from ⟨by rw [List.length_take, Array.length_toList]; omega, .inr ⟨g, c, cur, rfl, hgw, hcur, hnc, hncm, hcs, rfl⟩⟩)
        clear hcur hcs
        obtain ⟨i0, hi, hz0, hz1, hz2⟩ := info_parts info_res
        go_wp2_with (at_builtin; refine wpList_append_own_at _ rfl _ _ 24 rfl w.heap.size 62 i0 _ 5 _ Tryz.underlying24 hi hz0 hz1 hz2 rfl (by decide) _ n (cur.toList.take (n * 5)) rfl HOR.out ⟨w4.heap.size + 1, 0, none⟩ 1 1 [.slice (some ⟨w4.heap.size, 0, none⟩) 1 1, .bool false, .string ⟨#[]⟩, .int .i64 0, .slice none 0 0] rfl rfl ?q1 ?q2 (by unfold maxLen; omega) (by omega) HG6.out.size ?_)
        case q1 =>
          intro i u hu
          rw [Addr.add_lit, Nat.zero_add]
          match i, hu with
          | 0, hu => cases hu; exact BX6.out.c0
          | 1, hu => cases hu; exact BX6.out.c1
          | 2, hu => cases hu; exact BX6.out.c2
          | 3, hu => cases hu; exact BX6.out.c3
          | 4, hu => cases hu; exact BX6.out.c4
          | i + 5, hu => simp at hu
        case q2 =>
          intro u hu
          simp only [List.mem_cons, List.not_mem_nil, or_false] at hu
          rcases hu with rfl | rfl | rfl | rfl | rfl <;> rfl
        intro v7 w7 ho7 hg7 hnn7 hat7
        obtain ⟨g2, c2, rfl⟩ : ∃ g2 c2, v7 = .slice (some ⟨g2, 0, none⟩) (n + 1) c2 := by
          rcases ho7.2 with ⟨_, h9⟩ | ⟨g2, c2, _, hv, _⟩
          · omega
          · exact ⟨g2, c2, hv⟩
        have hge : g2 = g ∨ g2 = w6.heap.size := by
          rcases hat7 with e | e
          · exact .inl (Option.some.inj e)
          · exact .inr (Option.some.inj e)
        have HA := hide (HV6.out.appended HN.out cur HCU.out.1 (by have := HCU.out.2; omega) ⟨[s9], false, ⟨#[]⟩, 0, []⟩ w4.heap.size 1 (by have := HMM.out; omega) (by omega) RP6.out rfl ⟨Nat.le_refl _, by unfold maxLen; omega⟩ g2 c2 ho7 hg7 hge)
        have HD7 := hide (HD6.out.other hg7.size (fun i hi => hg7.block i (by have := HD6.out.lt; omega) (fun e => by have e' : g = i := Option.some.inj e.symm; have := HV6.out.gN; omega)))
        have HG7 := hide (grown_belowQ (B := w.heap.size) HG6.out ⟨hg7.os, hg7.tape, hg7.output, hg7.size, fun i hi => hg7.block i (by have := HG6.out.size; omega) (fun e => by have e' : g = i := Option.some.inj e.symm; omega)⟩ (Nat.le_refl _))
        have hgw2 : w.heap.size ≤ g2 := by have := HG6.out.size; rcases hge with e | e <;> omega
        clear ho7 hg7 hnn7 hat7 hge HV6 HW6 HD6 HG6 HOR HCU BX6 RP6
        go_wp2
        go_roundw
        case rel => exact ⟨j + 1, l ++ [⟨[s9], false, ⟨#[]⟩, 0, []⟩], n + 1, g2, c2, by first | go_num | (congr 1; omega), by omega, rfl, hide (by rw [List.length_append]; have := HN.out; simp; omega), hide (by rw [List.length_append]; have := HL.out; simp; omega), hide (HF.out.snoc (by have := HL.out; omega) _ ⟨few_one hsz9, Nat.zero_le _, Nat.zero_le _, fun p hp => by cases hp⟩), hide HA.out.1, ⟨hgw2, hide HA.out.2⟩, HD7, HG7⟩
        case measure => simp [intOf]; omega
      · have hje : j = 12 := by omega
        subst hje
        have hcc := And.intro HW.out.1 HW.out.2.1
        go_wp2
        go_ret
        exact ⟨⟨l, g, n, c, HF.out, HN.out, rfl, HV.out, hgw, hcc.1, hcc.2⟩, HD.out, HG.out⟩
  · have e0 : ((m : Int) == 0) = false := by rw [beq_eq_false_iff_ne]; omega
    have e1 : ((m : Int) == 1) = false := by rw [beq_eq_false_iff_ne]; omega
    have e2 : ((m : Int) == 2) = false := by rw [beq_eq_false_iff_ne]; omega
    have e3 : ((m : Int) == 3) = false := by rw [beq_eq_false_iff_ne]; omega
    have e4 : ((m : Int) == 4) = false := by rw [beq_eq_false_iff_ne]; omega
    have e5 : ((m : Int) == 5) = false := by rw [beq_eq_false_iff_ne]; omega
    go_wp2
    go_ret
    exact ⟨⟨rs, g, n, c, HF.out, HN.out, rfl, HT3.out.weak, hgw, hcc.1, hcc.2⟩, HD3.out, HG3.out⟩
end Go.Proofs.YtifnolomekhmfaaGreat
