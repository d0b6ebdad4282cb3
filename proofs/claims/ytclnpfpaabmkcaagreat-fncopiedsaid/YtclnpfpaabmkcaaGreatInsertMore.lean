/-
  What slices.Insert does at rows of things: ahead of some.
-/
import Derived.Test.YtclnpfpaabmkcaaGreatInsert
namespace Go.Proofs.YtclnpfpaabmkcaaGreat
open Go.RowKit M
set_option linter.unusedVariables false

theorem ins_list {ROW A N D : List Value} (hpre : ROW.take A.length = A) (hlen : A.length + N.length + D.length ≤ ROW.length) :
    (splice (splice ROW A.length N) (A.length + N.length) D).take (A.length + N.length + D.length) = A ++ (N ++ D) := by
  unfold splice
  rw [hpre]
  have e1 : (A ++ (N ++ ROW.drop (A.length + N.length))).take (A.length + N.length) = A ++ N := by
    rw [← List.append_assoc, List.take_append_of_le_length (by simp), List.take_of_length_le (by simp)]
  rw [e1, ← List.append_assoc, List.take_append_of_le_length (by simp; omega), List.take_of_length_le (by simp; omega), List.append_assoc]
theorem ins_list2 {ROW A N D : List Value} (hpre : ROW.take A.length = A) (hlen : A.length + N.length + D.length ≤ ROW.length) :
    (splice (splice ROW (A.length + N.length) D) A.length N).take (A.length + N.length + D.length) = A ++ (N ++ D) := by
  unfold splice
  have l0 : (ROW.take (A.length + N.length)).length = A.length + N.length := by rw [List.length_take]; omega
  have e1 : (ROW.take (A.length + N.length) ++ (D ++ ROW.drop (A.length + N.length + D.length))).take A.length = A := by
    rw [List.take_append_of_le_length (by omega), List.take_take, Nat.min_eq_left (by omega)]
    exact hpre
  have e2 : (ROW.take (A.length + N.length) ++ (D ++ ROW.drop (A.length + N.length + D.length))).drop (A.length + N.length) = D ++ ROW.drop (A.length + N.length + D.length) := by
    rw [List.drop_append_of_le_length (by omega), List.drop_of_length_le (by omega), List.nil_append]
  rw [e1, e2, ← List.append_assoc N, ← List.append_assoc A, List.take_append_of_le_length (by simp; omega), List.take_of_length_le (by simp; omega)]

set_option maxHeartbeats 4000000 in
set_option maxRecDepth 100000 in
theorem insert_grow (base g n c i m : Nat) (xs news : List Value) (vb vc : Nat) (w : World) (hown : w.ownsRow base 35 5 (.slice (some ⟨g, 0, none⟩) n c) n xs) (hi : i < n) (hm : 0 < m) (hn : n ≤ 2097152) (hmm : m ≤ 2097152) (hroom : c < n + m) (hl : news.length = m * 5) (hnews : ∀ j u, news[j]? = some u → w.cell? ⟨vb, j, none⟩ = some u) (h1 : ∀ u ∈ news, u.oneCell' = true) (hx1 : ∀ u ∈ xs, u.oneCell' = true) (hbase : base ≤ w.heap.size) (hvb : vb < w.heap.size) :
    Calls Tryz.prog 139 #[.slice (some ⟨g, 0, none⟩) n c, .int .i64 i, .slice (some ⟨vb, 0, none⟩) m vc] w fun e w' => ∃ v', e = .returned v' ∧ InsIs w w' base g v' (n + m) (xs.take (i * 5) ++ (news ++ xs.drop (i * 5))) := by
  obtain ⟨ii, hii, hz, hs, hb⟩ := info_parts info_res
  have hsz5 : (Tryz.prog.info? 35).map (·.size) = some 5 := by rw [hii]; simp [hs]
  have hxl : xs.length = n * 5 := hown.1
  have hcell : ∀ j v, xs[j]? = some v → w.cell? ⟨g, j, none⟩ = some v := fun j v hj => by
    have hjl : j < n * 5 := by
      have := (List.getElem?_eq_some_iff.1 hj).1
      omega
    rw [hown.cellAt j hjl]; exact hj
  have hgl : g < w.heap.size := (hown.lt g rfl).2
  have hnc : n ≤ c := by
    rcases hown.2 with ⟨h, _⟩ | ⟨g', cap, cur, ev, _, _, h4, _⟩
    · cases h
    · cases ev; exact h4
  have hold : (Builtin.firstCells ii.size i (.slice (some ⟨g, 0, none⟩) i c)).run Tryz.prog w.drew = .ok (xs.take (i * 5)).toArray w.drew := by
    rw [hs]
    exact run_firstCells_some w.drew 5 i ⟨g, 0, none⟩ i c (xs.take (i * 5)) (by rw [List.length_take]; omega) (fun j v hj => by
      rw [Addr.add_lit, Nat.zero_add]
      rw [List.getElem?_take] at hj
      split at hj
      · exact hcell j v hj
      · cases hj)
  have hz1 : ¬ ((m : Int) = 0) := by omega
  have hz2 : ¬ ((i : Int) = (n : Int)) := by omega
  have hz3 : (c : Int) < (n : Int) + (m : Int) := by omega
  have hci : ¬ (c = i) := by omega
  have hin : (i : Int) ≤ (n : Int) := by omega
  have hi0 : (0 : Int) ≤ (i : Int) := by omega
  have hic : (i : Int) ≤ (c : Int) := by omega
  have hw1 : IntKind.i64.wrap ((i : Int) + (m : Int)) = (i : Int) + (m : Int) := by rw [IntKind.wrap_i64]; omega
  have hw2 : IntKind.i64.wrap ((n : Int) + (m : Int)) = (n : Int) + (m : Int) := by rw [IntKind.wrap_i64]; omega
  have hw3 : IntKind.i64.wrap ((n : Int) + (m : Int) - (i : Int)) = (n : Int) + (m : Int) - (i : Int) := by rw [IntKind.wrap_i64]; omega
  have hb1 : (0 : Int) ≤ (i : Int) + (m : Int) := by omega
  have htn : ((i : Int) + (m : Int)).toNat = i + m := by omega
  have hkk : (n : Int) + (m : Int) - (i : Int) = ((n + m - i : Nat) : Int) := by omega
  have hik : i + (n + m - i) = n + m := by omega
  obtain ⟨A, hA⟩ : ∃ A, A = xs.take (i * 5) := ⟨_, rfl⟩
  obtain ⟨D, hD⟩ : ∃ D, D = xs.drop (i * 5) := ⟨_, rfl⟩
  have HAL := hide (show A.length = i * 5 by rw [hA, List.length_take]; omega)
  have HDL := hide (show D.length = (n - i) * 5 by rw [hD, List.length_drop]; omega)
  have hcellD : ∀ j v, D[j]? = some v → w.cell? ⟨g, i * 5 + j, none⟩ = some v := fun j v hj => hcell _ v (by rw [hD, List.getElem?_drop] at hj; exact hj)
  have hD1 : ∀ u ∈ D, u.oneCell' = true := fun u hu => hx1 u (by rw [hD] at hu; exact List.mem_of_mem_drop hu)
  rw [← hA] at hold
  rw [← hA, ← hD]
  clear hA hD hcell hx1
  have HOLD := hide hold
  have HKK := hide hkk
  have HIK := hide hik
  clear hold hkk hik
  go_enter Tryz.func139, Tryz.ntmps139
  go_wp2_with (at_builtin; refine wpList_appendZ rfl _ _ 24 3 35 rfl ii _ .i64 .i64 Tryz.underlying24 Tryz.underlying3 hii hz (some ⟨g, 0, none⟩) i c A HOLD.out (n + m - i) (by omega) (by omega) (by omega) (by omega) (by rw [hb]; omega) (by rw [hb, HIK.out]; exact growslice_fits hroom (by omega)) rfl _ rfl HKK.out ?_)
  intro w1 ROW H1 hRs hRt hg1 hs1
  rw [HIK.out] at hRs ⊢
  have hGn : n + m ≤ grownCap w (n + m) c 35 := grownCap_ge w _ _ _
  have hGm := grownCap_le_maxLen w (n + m) c 35 (by unfold maxLen; omega)
  generalize grownCap w (n + m) c 35 = G at *
  have hG63 : G ≤ 9223372036854775807 := by unfold maxLen at hGm; omega
  have HR := hide (show ROW.size = G * 5 ∧ ROW.toList.take A.length = A from ⟨by
    have h1 := hRs.out
    rw [HAL.out] at h1
    have : (Value.agg #[.slice none 0 0, .bool false, .string ByteArray.empty, .int .i64 0, .slice none 0 0]).cells.size = 5 := rfl
    try rw [this] at h1
    omega, hRt.out⟩)
  have hGi : ¬ (G = i) := by omega
  have hGim : ¬ (G = i + m) := by omega
  have hiG : (i : Int) ≤ (G : Int) := by omega
  have K1 := hide hg1
  clear hg1 hRs hRt
  have hnews1 : ∀ j u, news[j]? = some u → w1.cell? ⟨vb, j, none⟩ = some u := fun j u hj => by rw [World.cell?, K1.out.block vb hvb (by simp)]; exact hnews j u hj
  go_wp2_with (refine wpList_copyK rfl _ _ 24 24 rfl 5 35 Tryz.underlying24 hsz5 _ _ _ _ _ _ _ rfl rfl ROW 35 H1.out news ?_ ?_ ?_ h1 ?_)
  · rw [hl]; simp only [Nat.min_def]; split <;> omega
  · intro j u hj; rw [Addr.add_lit, Nat.zero_add]; exact hnews1 j u hj
  · have := HR.out.1; omega
  intro w2 hr2 hg2
  have K2 := hide hg2
  clear hg2 hnews1
  obtain ⟨ROW2, hROW2⟩ : ∃ ROW2 : Array Value, ROW2 = (splice ROW.toList (i * 5) news).toArray := ⟨_, rfl⟩
  have H2 := hide (show w2.heap[w.heap.size]? = some (.cells ROW2 35 (0, 0)) by rw [hROW2]; exact hr2.out)
  have hl2 : ROW2.size = G * 5 := by
    have := HR.out.1
    rw [hROW2, List.size_toArray, length_splice _ _ _ (by rw [hl, Array.length_toList]; omega), Array.length_toList]
    exact this
  have f2 : ∀ j v, D[j]? = some v → w2.drew.cell? ((⟨g, i * 5, none⟩ : Addr).add j) = some v := fun j v hj => by
    rw [Addr.add_lit]
    show w2.cell? _ = _
    rw [World.cell?, K2.out.block g (by omega) (by simp; omega), K1.out.block g hgl (by simp)]
    exact hcellD j v hj
  have F1 := hide (show D.length = Nat.min (n - i) (n + m - (i + m)) * 5 by rw [HDL.out]; simp only [Nat.min_def]; split <;> omega)
  have F3 := hide (show (i + m) * 5 + D.length ≤ ROW2.size by rw [HDL.out, hl2]; omega)
  have HE2 := hide (And.intro hROW2 hl2)
  clear hROW2 hl2 hr2
  go_wp2
  go_region_law (refine step_copyK rfl _ _ 24 24 rfl 5 35 Tryz.underlying24 hsz5 w.heap.size ((i + m) * 5) (n + m - (i + m)) (G - (i + m)) ⟨g, i * 5, none⟩ (n - i) (c - i) (by simp [Act.eval, Act.put]) (by simp [Act.eval, Act.put]) ROW2 35 H2.out D F1.out f2 F3.out hD1 ?_; intro w3 hr3 hg3)
  have K3 := hide hg3
  clear hg3
  go_wp2
  go_ret
  have hA := HAL.out
  have hDl := HDL.out
  have e1 : (i * 5) = A.length := hA.symm
  have e2 : (i + m) * 5 = A.length + news.length := by rw [hA, hl]; omega
  have hlen : A.length + news.length + D.length ≤ ROW.toList.length := by rw [hA, hl, hDl, Array.length_toList, HR.out.1]; omega
  have hrow : w3.heap[w.heap.size]? = some (.cells (splice (splice ROW.toList A.length news) (A.length + news.length) D).toArray 35 (0, 0)) := by
    have := hr3.out
    rw [HE2.out.1, e2, e1] at this
    exact this
  refine ⟨_, rfl, ⟨by rw [List.length_append, List.length_append, hA, hl, hDl]; omega, .inr ⟨w.heap.size, G, _, rfl, hbase, hrow, hGn, hGm, ?_, ?_⟩⟩, ?_, .inr ⟨_, rfl, Nat.le_refl _⟩⟩
  · rw [List.size_toArray, length_splice _ _ _ (by rw [length_splice _ _ _ (by omega)]; omega), length_splice _ _ _ (by omega), Array.length_toList]
    exact HR.out.1
  · rw [show (n + m) * 5 = A.length + news.length + D.length by rw [hA, hl, hDl]; omega]
    exact ins_list HR.out.2 hlen
  · have k1 := K1.out
    have k2 := K2.out
    have k3 := K3.out
    exact ⟨k3.os.trans (k2.os.trans k1.os), k3.tape.trans (k2.tape.trans k1.tape), k3.output.trans (k2.output.trans k1.output), Nat.le_trans k1.size (Nat.le_trans k2.size k3.size), fun b hb hne => by
      rw [k3.block b (by have := k1.size; have := k2.size; show b < w2.heap.size; omega) (by simp; omega)]
      show w2.heap[b]? = _
      rw [k2.block b (by have := k1.size; omega) (by simp; omega), k1.block b hb (by simp)]⟩
end Go.Proofs.YtclnpfpaabmkcaaGreat
