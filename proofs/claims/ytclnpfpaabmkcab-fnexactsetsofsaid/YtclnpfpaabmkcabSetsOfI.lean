/-
  What impl.SetsOf does.
-/
import Derived.Test.YtclnpfpaabmkcabSetsInT
namespace Go.Proofs.Ytclnpfpaabmkcab
open Go.RowKit M
set_option linter.unusedVariables false

/-- 'all = append(all, sets...)' on a row of sets that the call owns. -/
theorem wp_append_sets {w : World} {ops : Array Oper} {rest : List Oper} {o : Oper} {a : Act} {Q : Exit → Act → World → Prop} (hgd : o.guard = none) (s x : Operand)
    (ho : o.op = .call { callee := .builtin .append, args := #[s, x], argTypes := #[54, 54] })
    (B g0 n0 c0 : Nat) (l ms : List Sx) (hs : a.eval s = .slice (some ⟨g0, 0, none⟩) n0 c0) (hown : OwnV w B (.slice (some ⟨g0, 0, none⟩) n0 c0) l)
    (gx n c C : Nat) (hx : a.eval x = .slice (some ⟨gx, 0, none⟩) n c) (hn : n = ms.length) (hst : Sts w C (some ⟨gx, 0, none⟩) ms) (hlen : l.length + n ≤ 1000000) (hB : B ≤ w.heap.size)
    (h : ∀ g n' cap w', OwnV w' B (.slice (some ⟨g, 0, none⟩) n' cap) (l ++ ms) → Below B w w' → wpList Try.prog ops Q rest (a.put o.dst (.slice (some ⟨g, 0, none⟩) n' cap)) w') : wpList Try.prog ops Q (o :: rest) a w := by
  obtain ⟨i0, hi, hz0, hz1, hz2⟩ := info_parts info_set
  refine wpList_append_own w hgd s x 54 ho B 93 i0 _ 4 56 Try.underlying54 hi hz0 hz1 hz2 rfl (by decide) _ l.length _ hs hown ⟨gx, 0, none⟩ n c (sxCells ms) hx (by rw [sxCells_length, hn]) ?_ ?_ ?_ ?_ hB ?_
  · intro j u hj
    have hjl : j < ms.length * 4 := by have := (List.getElem?_eq_some_iff.1 hj).1; rwa [sxCells_length] at this
    obtain ⟨b, o', e, _, hc⟩ := hst (by omega)
    have e' : b = gx ∧ o' = 0 := by cases e; exact ⟨rfl, rfl⟩
    obtain ⟨rfl, rfl⟩ := e'
    have e2 : (⟨b, 0, none⟩ : Addr).add j = ⟨b, j, none⟩ := by unfold Addr.add; split <;> simp_all
    rw [e2]
    obtain ⟨d0, d1, d2, d3⟩ := hc (j / 4) (by omega)
    obtain ⟨k0, k1, k2, k3⟩ := sxCells_at ms (j / 4) (by omega)
    simp only [Nat.zero_add] at d0 d1 d2 d3
    have e3 : j = j / 4 * 4 ∨ j = j / 4 * 4 + 1 ∨ j = j / 4 * 4 + 2 ∨ j = j / 4 * 4 + 3 := by omega
    rcases e3 with e3 | e3 | e3 | e3
    · rw [← e3] at k0 d0; rw [d0, ← k0]; exact hj
    · rw [← e3] at k1 d1; rw [d1, ← k1]; exact hj
    · rw [← e3] at k2 d2; rw [d2, ← k2]; exact hj
    · rw [← e3] at k3 d3; rw [d3, ← k3]; exact hj
  · intro u hu
    unfold sxCells at hu
    obtain ⟨y, _, hy⟩ := List.mem_flatMap.1 hu
    simp only [List.mem_cons, List.not_mem_nil, or_false] at hy
    rcases hy with rfl | rfl | rfl | rfl <;> rfl
  · unfold maxLen; omega
  · omega
  · intro v' w' ho' hg hnn
    obtain ⟨g, n', cap, rfl⟩ : ∃ g n' cap, v' = .slice (some ⟨g, 0, none⟩) n' cap := by
      rcases ho'.2 with ⟨e, h0⟩ | ⟨g, cap, cur, hv, _⟩
      · have := (hnn.1 e).1; cases this
      · exact ⟨g, _, cap, hv⟩
    refine h g n' cap w' ?_ (below_grownV hown hB hg)
    unfold OwnV
    rw [sxCells_append, List.length_append, ← hn]
    exact ho'

theorem setsIn_len {x : Nd} {ss : List Sx} {n : Nat} (h : kidS x = some ss) (hz : x.szN ≤ 1048576) (hn : ss.length = n) : n ≤ 1048576 := by
  unfold kidS at h
  split at h
  · cases h
  · split at h
    · rename_i h0 hk
      split at h
      · cases h
      · split at h
        · have e := (Option.some.inj h).symm
          rw [e, List.length_map] at hn
          have h1 := szN_ks x
          have h2 := szL_mem x.ks h0 (by rw [hk]; exact List.mem_cons_self ..)
          have h3 := szN_ks h0
          omega
        · cases h
    · cases h

set_option maxRecDepth 100000 in
set_option maxHeartbeats 8000000 in
theorem setsOf_any (n : Nd) (a : Option Addr) (c B : Nat) (w : World) (h : Nds w B a n.ks) (hB : B ≤ w.heap.size) (hz : n.szN ≤ 1048576) :
    Calls Try.prog 32 #[.agg #[.string n.ns, .string n.nm, .string n.tx, .slice a n.ks.length c]] w fun e w' => (∃ g m c', e = .returned (.tuple #[.slice (some ⟨g, 0, none⟩) m c', .bool (ofS n).isSome]) ∧ OwnV w' w.heap.size (.slice (some ⟨g, 0, none⟩) m c') (ansL (ofS n))) ∧ Below w.heap.size w w' := by
  have HN := hide h
  have HZ := hide hz
  have hkl : n.ks.length ≤ 1048576 := by have := szN_ks n; omega
  clear h hz
  have HB0 := hide ((Below.refl w.heap.size w).alloc (Nat.le_refl _) (Obj.cells #[.string n.ns, .string n.nm, .string n.tx, .slice a n.ks.length c] 59))
  have BK := hide (show KB (w.alloc (Obj.cells #[.string n.ns, .string n.nm, .string n.tx, .slice a n.ks.length c] 59)) w.heap.size n.ns n.nm n.tx a n.ks.length c by unfold KB; simp)
  have HNO : Hid (∀ W (hW : Below w.heap.size w W), ofS n = none → (∃ g m c', Ending.returned (.tuple #[.slice (some ⟨W.heap.size, 0, none⟩) 0 0, .bool false]) = .returned (.tuple #[.slice (some ⟨g, 0, none⟩) m c', .bool (ofS n).isSome]) ∧ OwnV (W.alloc (Obj.cells #[] 93)) w.heap.size (.slice (some ⟨g, 0, none⟩) m c') (ansL (ofS n))) ∧ Below w.heap.size w (W.alloc (Obj.cells #[] 93))) := by
    intro W hW e
    rw [e]
    exact ⟨⟨_, _, _, rfl, OwnV.made W w.heap.size hW.size⟩, hW.alloc hW.size _⟩
  go_enter Try.func32, Try.ntmps32
  go_wp2_with fail
  refine (nameOfNode_any n.ns n.nm n.tx a n.ks.length c _).mono ?_
  rintro e w1 ⟨rfl, b1⟩
  have a1 := HB0.out.trans (b1.mono HB0.out.size)
  go_wp2_with fail
  refine (davName_any updT _).mono ?_
  rintro e w2 ⟨rfl, b2⟩
  have a2 := a1.trans (b2.mono a1.size)
  have BK2 := hide (BK.out.below (b1.trans (b2.mono b1.size)))
  clear b1 b2 a1
  by_cases t1 : n.ns.toList = davT.toList
  rotate_left
  · have HE := hide (HNO.out w2 a2 (show ofS n = none by unfold ofS; rw [isD_no1 updT t1]; rfl))
    go_wp2
    go_ret2
    exact HE.out
  by_cases t2 : n.nm.toList = updT.toList
  rotate_left
  · have HE := hide (HNO.out w2 a2 (show ofS n = none by unfold ofS; rw [isD_no2 (n := n) t2]; rfl))
    go_wp2
    go_ret2
    exact HE.out
  have HOF := hide (show ofS n = allS n.ks [] by unfold ofS; rw [isD_yes t1 t2]; rfl)
  have HM := hide (OwnV.made w2 w.heap.size a2.size)
  have HB2 := hide (a2.alloc a2.size (Obj.cells #[] 93))
  obtain ⟨q0, q1, q2, q3⟩ := BK2.out.below ((Below.refl w2.heap.size w2).alloc (Nat.le_refl _) (Obj.cells #[] 93))
  go_wp2
  clear q0 q1 q2 q3
  go_loopw [4, 18] (fun v i wr => ∃ (j g m c3 : Nat) (acc : List Sx), j ≤ n.ks.length ∧ i = .int .i64 j ∧ v = .slice (some ⟨g, 0, none⟩) m c3 ∧ acc.length ≤ 8 ∧ Hid (allS (n.ks.drop j) acc = ofS n) ∧ OwnV wr w.heap.size (.slice (some ⟨g, 0, none⟩) m c3) acc ∧ Below w.heap.size w wr) (fun _ i _ => n.ks.length - (intOf i).toNat)
  case atStart => exact ⟨0, w2.heap.size, 0, 0, [], Nat.zero_le _, rfl, rfl, Nat.zero_le _, HOF.out.symm, HM.out, HB2.out⟩
  case round =>
    obtain ⟨j, g, m, c3, acc, hj, rfl, rfl, hal, hac, hO, hbe⟩ := hrel
    by_cases hlt : j < n.ks.length
    · obtain ⟨b2, o2, ea2, hb2, hat2⟩ := (HN.out.stays hbe hB).at (by omega)
      obtain ⟨aj, cj, v0, v1, v2, v3, hnj⟩ := hat2 j hlt
      subst ea2
      have HDR := hide (show n.ks.drop j = n.ks[j] :: n.ks.drop (j + 1) from List.drop_eq_getElem_cons hlt)
      have hzx : n.ks[j].szN ≤ 1048576 := by
        have h1 := szL_mem n.ks _ (List.getElem_mem hlt)
        have h2 := szN_ks n
        have := HZ.out
        omega
      obtain ⟨x, hx⟩ : ∃ x, n.ks[j] = x := ⟨_, rfl⟩
      rw [hx] at v0 v1 v2 v3 HDR hzx hnj
      clear hx hat2
      have hji : (j : Int) < (n.ks.length : Int) := by omega
      have bA := (Below.refl wr.heap.size wr).alloc (Nat.le_refl _) (Obj.cells #[.string x.ns, .string x.nm, .string x.tx, .slice aj x.ks.length cj] 59)
      have HSI := hide (setsIn_any x aj cj B (wr.alloc (Obj.cells #[.string x.ns, .string x.nm, .string x.tx, .slice aj x.ks.length cj] 59)) (hnj.stays (bA.mono hbe.size) hB) (Nat.le_trans hB (Nat.le_trans hbe.size bA.size)) hzx)
      have HOA := hide (hO.next bA)
      have HBA := hide (hbe.trans (bA.mono hbe.size))
      obtain ⟨hm, _, _, _, _⟩ := hO.sts
      have hm8 : m ≤ 8 := by omega
      have HMM := hide hm
      clear bA hO hnj hm
      go_wp2_with fail
      refine HSI.out.mono ?_
      rintro e w4 ⟨hin, b4⟩
      have c4 := HBA.out.trans (b4.mono HBA.out.size)
      have hO4 := HOA.out.next b4
      rcases hin with ⟨hno, rfl⟩ | ⟨ss, g4, n4, c4', hso, rfl, hV4⟩
      · have HE := hide (HNO.out w4 c4 (show ofS n = none by rw [← hac.out, HDR.out, all_none hno]))
        go_wp2
        go_ret2
        exact HE.out
      · obtain ⟨h1, h2, h3, h4, h5⟩ := hV4.sts
        have HSO := hide hso
        have HN4 := hide h1
        have HST := hide h2
        clear hV4 h2 h3 h4 h5 hso
        have hssl : ss.length = n4 := h1.symm
        by_cases hbig : 8 < acc.length + ss.length
        · have HE := hide (HNO.out w4 c4 (show ofS n = none by rw [← hac.out, HDR.out, all_many HSO.out hbig]))
          have hb8 : (8 : Int) < (m : Int) + (n4 : Int) := by have := HMM.out; omega
          have hn4b : n4 ≤ 1048576 := setsIn_len HSO.out hzx hssl
          clear h1 hssl hbig
          go_wp2
          go_ret2
          exact HE.out
        · have hb8 : ¬ (8 : Int) < (m : Int) + (n4 : Int) := by have := HMM.out; omega
          have hln : acc.length + n4 ≤ 1000000 := by omega
          have hn8 : n4 ≤ 8 := by omega
          have HA5 := hide (show allS (n.ks.drop (j + 1)) (acc ++ ss) = ofS n by rw [← all_next HSO.out hbig, ← HDR.out]; exact hac.out)
          have HL5 := hide (show (acc ++ ss).length ≤ 8 by rw [List.length_append]; omega)
          have hszw := c4.size
          clear h1 hssl hbig
          go_wp2_with (at_builtin; refine wp_append_sets rfl _ _ rfl w.heap.size g m c3 acc ss rfl hO4 g4 n4 c4' _ rfl HN4.out HST.out hln hszw ?_)
          intro g5 n5 c5 w5 hO5 hb5
          have HB5 := hide (c4.trans (hb5.mono (Nat.le_refl _)))
          clear hb5 hO4
          go_wp2
          go_roundw
          case rel => exact ⟨j + 1, g5, n5, c5, acc ++ ss, by omega, by go_num, rfl, HL5.out, HA5, hO5, HB5.out⟩
          case measure => simp [intOf]; omega
    · have HE := hide (show ofS n = some acc by rw [← hac.out, List.drop_eq_nil_of_le (by omega)]; rfl)
      go_wp2
      go_ret2
      rw [HE.out]
      exact ⟨⟨_, _, _, rfl, hO⟩, hbe⟩
end Go.Proofs.Ytclnpfpaabmkcab
