/-
  What slices.Insert does at rows of things: ahead of some, where there is room; and in all cases.
-/
import Derived.Test.YtclnpfpaabmkcaaGreatInsertMore
namespace Go.Proofs.YtclnpfpaabmkcaaGreat
open Go.RowKit M
set_option linter.unusedVariables false

set_option maxHeartbeats 4000000 in
set_option maxRecDepth 100000 in
theorem insert_shift (base g n c i m : Nat) (xs news : List Value) (vb vc : Nat) (w : World) (hown : w.ownsRow base 35 5 (.slice (some ⟨g, 0, none⟩) n c) n xs) (hi : i < n) (hm : 0 < m) (hn : n ≤ 2097152) (hmm : m ≤ 2097152) (hroom : n + m ≤ c) (hl : news.length = m * 5) (hnews : ∀ j u, news[j]? = some u → w.cell? ⟨vb, j, none⟩ = some u) (h1 : ∀ u ∈ news, u.oneCell' = true) (hx1 : ∀ u ∈ xs, u.oneCell' = true) (hvb : vb < w.heap.size) (hne : vb ≠ g) (hfz : ∀ k, w.frozen? ⟨vb, k, none⟩ = false) (tA : TypeId) (kA : Nat) (hsa : w.shape? vb = some (tA, kA)) :
    Calls Tryz.prog 139 #[.slice (some ⟨g, 0, none⟩) n c, .int .i64 i, .slice (some ⟨vb, 0, none⟩) m vc] w fun e w' => ∃ v', e = .returned v' ∧ InsIs w w' base g v' (n + m) (xs.take (i * 5) ++ (news ++ xs.drop (i * 5))) := by
  obtain ⟨ii, hii, hz, hs, hb⟩ := info_parts info_res
  have hsz5 : (Tryz.prog.info? 35).map (·.size) = some 5 := by rw [hii]; simp [hs]
  have hxl : xs.length = n * 5 := hown.1
  have hcell : ∀ j v, xs[j]? = some v → w.cell? ⟨g, j, none⟩ = some v := fun j v hj => by
    have hjl : j < n * 5 := by
      have := (List.getElem?_eq_some_iff.1 hj).1
      omega
    rw [hown.cellAt j hjl]; exact hj
  have hgl : g < w.heap.size := (hown.lt g rfl).2
  obtain ⟨cur, hbg, hgg, hnc, hcm, hcs, htk⟩ : ∃ cur : Array Value, base ≤ g ∧ w.heap[g]? = some (.cells cur 35 (0, 0)) ∧ n ≤ c ∧ c ≤ maxLen ∧ cur.size = c * 5 ∧ cur.toList.take (n * 5) = xs := by
    rcases hown.2 with ⟨h, _⟩ | ⟨g', cap, cur, ev, q1, q2, q3, q4, q5, q6⟩
    · cases h
    · cases ev; exact ⟨cur, q1, q2, q3, q4, q5, q6⟩
  have hc63 : c ≤ 9223372036854775807 := by unfold maxLen at hcm; omega
  have hov : ∀ lb cb, (callFunc 155 #[.slice (some ⟨vb, 0, none⟩) m vc, .slice (some ⟨g, (i + m) * 5, none⟩) lb cb]).run Tryz.prog w = .ok (.value (.bool false)) w := fun lb cb => by
    rw [run_callFunc_extern Tryz.func155 (by kernel_rfl) (by kernel_rfl) (by kernel_rfl) (e := Extern.SlicesOverlaps.overlaps #[24, 24] #[4]) (by kernel_rfl),
      Lib.run_overlaps_apart w 24 4 35 Tryz.underlying24 5 Tryz.sizeOf35 ⟨vb, 0, none⟩ ⟨g, (i + m) * 5, none⟩ m vc lb cb hne tA 35 kA cur.size hsa (by simp only [World.shape?, hgg]) (by omega) (hfz _) (hfz _)]
    rfl
  have hz1 : ¬ ((m : Int) = 0) := by omega
  have hz2 : ¬ ((i : Int) = (n : Int)) := by omega
  have hz3 : ¬ ((c : Int) < (n : Int) + (m : Int)) := by omega
  have hz4 : (n : Int) + (m : Int) ≤ (c : Int) := by omega
  have hci : ¬ (c = i) := by omega
  have hcim : ¬ (c = i + m) := by omega
  have hin : (i : Int) ≤ (n : Int) := by omega
  have hi0 : (0 : Int) ≤ (i : Int) := by omega
  have hic : (i : Int) ≤ (c : Int) := by omega
  have hinm : (i : Int) ≤ (n : Int) + (m : Int) := by omega
  have hw1 : IntKind.i64.wrap ((i : Int) + (m : Int)) = (i : Int) + (m : Int) := by rw [IntKind.wrap_i64]; omega
  have hw2 : IntKind.i64.wrap ((n : Int) + (m : Int)) = (n : Int) + (m : Int) := by rw [IntKind.wrap_i64]; omega
  have hb0 : (0 : Int) ≤ (n : Int) + (m : Int) := by omega
  have hb1 : (0 : Int) ≤ (i : Int) + (m : Int) := by omega
  have htn : ((i : Int) + (m : Int)).toNat = i + m := by omega
  have htn2 : ((n : Int) + (m : Int)).toNat = n + m := by omega
  obtain ⟨A, hA⟩ : ∃ A, A = xs.take (i * 5) := ⟨_, rfl⟩
  obtain ⟨D, hD⟩ : ∃ D, D = xs.drop (i * 5) := ⟨_, rfl⟩
  have HAL := hide (show A.length = i * 5 by rw [hA, List.length_take]; omega)
  have HDL := hide (show D.length = (n - i) * 5 by rw [hD, List.length_drop]; omega)
  have HPR := hide (show cur.toList.take A.length = A by rw [HAL.out, hA, ← htk, List.take_take, Nat.min_eq_left (by omega)])
  have f2 : ∀ j v, D[j]? = some v → w.drew.cell? ((⟨g, i * 5, none⟩ : Addr).add j) = some v := fun j v hj => by
    rw [Addr.add_lit]
    exact hcell _ v (by rw [hD, List.getElem?_drop] at hj; exact hj)
  have hD1 : ∀ u ∈ D, u.oneCell' = true := fun u hu => hx1 u (by rw [hD] at hu; exact List.mem_of_mem_drop hu)
  rw [← hA, ← hD]
  have F1 := hide (show D.length = Nat.min (n + m - i) (n + m - (i + m)) * 5 by rw [HDL.out]; simp only [Nat.min_def]; split <;> omega)
  have F3 := hide (show (i + m) * 5 + D.length ≤ cur.size by rw [HDL.out, hcs]; omega)
  have HG := hide hgg
  have HCS := hide hcs
  clear hA hD hcell hx1 hgg hcs htk hown
  go_enter Tryz.func139, Tryz.ntmps139
  go_wp2_with (simp only [hov])
  go_region_law (refine step_copyK rfl _ _ 24 24 rfl 5 35 Tryz.underlying24 hsz5 g ((i + m) * 5) (n + m - (i + m)) (c - (i + m)) ⟨g, i * 5, none⟩ (n + m - i) (c - i) (by simp [Act.eval, Act.put]) (by simp [Act.eval, Act.put]) cur 35 HG.out D F1.out f2 F3.out hD1 ?_; intro w1 hr1 hg1)
  have K1 := hide hg1
  clear hg1
  obtain ⟨ROW2, hROW2⟩ : ∃ ROW2 : Array Value, ROW2 = (splice cur.toList ((i + m) * 5) D).toArray := ⟨_, rfl⟩
  have H2 := hide (show w1.heap[g]? = some (.cells ROW2 35 (0, 0)) by rw [hROW2]; exact hr1.out)
  have hl2 : ROW2.size = c * 5 := by
    rw [hROW2, List.size_toArray, length_splice _ _ _ (by rw [Array.length_toList]; exact F3.out), Array.length_toList]
    exact HCS.out
  have HE2 := hide (And.intro hROW2 hl2)
  have hnews1 : ∀ j u, news[j]? = some u → w1.cell? ⟨vb, j, none⟩ = some u := fun j u hj => by
    rw [World.cell?, K1.out.block vb hvb (by simp; omega)]
    exact hnews j u hj
  clear hROW2 hl2 hr1
  go_wp2_with (refine wpList_copyK rfl _ _ 24 24 rfl 5 35 Tryz.underlying24 hsz5 _ _ _ _ _ _ _ rfl rfl ROW2 35 H2.out news ?_ ?_ ?_ h1 ?_)
  · rw [hl]; simp only [Nat.min_def]; split <;> omega
  · intro j u hj; rw [Addr.add_lit, Nat.zero_add]; exact hnews1 j u hj
  · have := HE2.out.2; omega
  intro w2 hr2 hg2
  have K2 := hide hg2
  clear hg2
  go_wp2
  go_ret
  have hA := HAL.out
  have hDl := HDL.out
  have e1 : (i * 5) = A.length := hA.symm
  have e2 : (i + m) * 5 = A.length + news.length := by rw [hA, hl]; omega
  have hlen : A.length + news.length + D.length ≤ cur.toList.length := by rw [hA, hl, hDl, Array.length_toList, HCS.out]; omega
  have hrow : w2.heap[g]? = some (.cells (splice (splice cur.toList (A.length + news.length) D) A.length news).toArray 35 (0, 0)) := by
    have := hr2.out
    rw [HE2.out.1, e2, e1] at this
    exact this
  refine ⟨_, rfl, ⟨by rw [List.length_append, List.length_append, hA, hl, hDl]; omega, .inr ⟨g, c, _, rfl, hbg, hrow, hroom, hcm, ?_, ?_⟩⟩, ?_, .inl rfl⟩
  · rw [List.size_toArray, length_splice _ _ _ (by rw [length_splice _ _ _ (by omega)]; omega), length_splice _ _ _ (by omega), Array.length_toList]
    exact HCS.out
  · rw [show (n + m) * 5 = A.length + news.length + D.length by rw [hA, hl, hDl]; omega]
    exact ins_list2 HPR.out hlen
  · have k1 := K1.out
    have k2 := K2.out
    exact ⟨k2.os.trans k1.os, k2.tape.trans k1.tape, k2.output.trans k1.output, Nat.le_trans k1.size k2.size, fun b hb hne => by
      have z1 : w.heap.size ≤ w1.heap.size := k1.size
      rw [k2.block b (by omega) hne, k1.block b hb hne]
      rfl⟩

/-- slices.Insert at a row of things that is the call's own, of things in another row. -/
theorem insert_any (base g n c i m : Nat) (xs news : List Value) (vb vc : Nat) (w : World) (hown : w.ownsRow base 35 5 (.slice (some ⟨g, 0, none⟩) n c) n xs) (hi : i ≤ n) (hn : n ≤ 2097152) (hmm : m ≤ 2097152) (hl : news.length = m * 5) (hnews : ∀ j u, news[j]? = some u → w.cell? ⟨vb, j, none⟩ = some u) (h1 : ∀ u ∈ news, u.oneCell' = true) (hx1 : ∀ u ∈ xs, u.oneCell' = true) (hbase : base ≤ w.heap.size) (hvb : vb < w.heap.size) (hne : vb ≠ g) (hfz : ∀ k, w.frozen? ⟨vb, k, none⟩ = false) :
    Calls Tryz.prog 139 #[.slice (some ⟨g, 0, none⟩) n c, .int .i64 i, .slice (some ⟨vb, 0, none⟩) m vc] w fun e w' => ∃ v', e = .returned v' ∧ InsIs w w' base g v' (n + m) (xs.take (i * 5) ++ (news ++ xs.drop (i * 5))) := by
  have hxl : xs.length = n * 5 := hown.1
  obtain ⟨hnc, hcm⟩ : n ≤ c ∧ c ≤ maxLen := by
    rcases hown.2 with ⟨h, _⟩ | ⟨g', cap, cur, ev, q1, q2, q3, q4, q5, q6⟩
    · cases h
    · cases ev; exact ⟨q3, q4⟩
  by_cases hm : m = 0
  · subst hm
    obtain rfl : news = [] := List.length_eq_zero_iff.1 (by omega)
    rw [List.nil_append, List.take_append_drop]
    exact insert_none base g n c i xs vb vc w hown hi (by omega) hcm hnc
  by_cases hin : i = n
  · subst hin
    rw [List.take_of_length_le (by omega), List.drop_of_length_le (by omega), List.append_nil]
    exact insert_end base g i c m xs news vb vc w hown (by omega) hn hmm hcm hnc hl hnews h1 hbase
  by_cases hr : c < n + m
  · exact insert_grow base g n c i m xs news vb vc w hown (by omega) (by omega) hn hmm hr hl hnews h1 hx1 hbase hvb
  · obtain ⟨cv, tA, fz, hh⟩ : ∃ cv tA fz, w.heap[vb]? = some (.cells cv tA fz) := by
      have hc := hnews 0 (news[0]'(by omega)) (List.getElem?_eq_getElem (by omega))
      unfold World.cell? at hc
      split at hc
      · exact ⟨_, _, _, by assumption⟩
      · cases hc
    exact insert_shift base g n c i m xs news vb vc w hown (by omega) (by omega) hn hmm (by omega) hl hnews h1 hx1 hvb hne hfz tA cv.size (by simp only [World.shape?, hh])
end Go.Proofs.YtclnpfpaabmkcaaGreat
