/-
  What impl.EvalIf does, the calls of the closures.
-/
import Derived.Test.YtmgikfeknmbpbabEvalI
namespace Go.Proofs.Ytmgikfeknmbpbab
open Go.RowKit M
set_option linter.unusedVariables false

/-- Two boxes: the tokens, the mark. -/
def TwoB (W : World) (N M : Nat) (ta : Option Addr) (tl tc : Nat) (tag : ByteArray) : Prop := W.cell? ⟨N, 0, none⟩ = some (.slice ta tl tc) ∧ W.cell? ⟨M, 0, none⟩ = some (.string tag)
theorem TwoB.next {W W' : World} {N M tl tc : Nat} {ta : Option Addr} {tag : ByteArray} (h : TwoB W N M ta tl tc tag) (hb : Below W.heap.size W W') : TwoB W' N M ta tl tc tag :=
  ⟨(hb.cell (p := ⟨N, 0, none⟩) (World.block_lt_of_cell? W _ h.1)).trans h.1, (hb.cell (p := ⟨M, 0, none⟩) (World.block_lt_of_cell? W _ h.2)).trans h.2⟩
theorem TwoB.drew {W : World} {N M tl tc : Nat} {ta : Option Addr} {tag : ByteArray} (h : TwoB W N M ta tl tc tag) : TwoB W.drew N M ta tl tc tag := h

set_option maxRecDepth 100000 in
set_option maxHeartbeats 4000000 in
theorem fails_any (c : Cn) (N M : Nat) (tag : ByteArray) (ta : Option Addr) (toks : List Int) (tc D : Nat) (w : World) (h : TwoB w N M ta toks.length tc tag) (ht : Ints w D ta toks) (hD : D ≤ w.heap.size) (hl : toks.length ≤ 1048576) :
    Calls Try.prog 28 #[.agg #[.bool c.no, .int .i64 c.tk, .string c.tg], .pointer (some ⟨N, 0, none⟩), .pointer (some ⟨M, 0, none⟩)] w fun e w' => e = .returned (.bool (!condB toks tag c)) ∧ Below w.heap.size w w' := by
  have hb0 := (Below.refl w.heap.size w).alloc (Nat.le_refl _) (Obj.cells #[.bool c.no, .int .i64 c.tk, .string c.tg] 40)
  have hbd := below_drewG hb0
  have HX := hide (BoxV.made w [.bool c.no, .int .i64 c.tk, .string c.tg] 40).drew
  have HT := hide (h.next hb0).drew
  have HM := hide (mustOf_any c tag ta toks tc D (w.alloc (Obj.cells #[.bool c.no, .int .i64 c.tk, .string c.tg] 40)).drew (ht.below hbd hD) (Nat.le_trans hD hbd.size) hl)
  have HB := hide hbd
  obtain ⟨b, hb⟩ : ∃ b, condB toks tag c = b := ⟨_, rfl⟩
  rw [hb] at HM ⊢
  clear h ht hb0 hbd hb
  go_enter Try.func28, Try.ntmps28
  go_wp2
  refine wp_region_held_drew (S := (fun W => TwoB W N M ta toks.length tc tag ∧ BoxV W w.heap.size [.bool c.no, .int .i64 c.tk, .string c.tg])) (by kernel_rfl) ⟨HT.out, HX.out⟩ (fun hHeld => ?_)
  simp only [List.size_toArray, List.length_cons, List.length_nil, Nat.reduceAdd, Array.replicate_succ, Array.replicate_zero, List.push_toArray, List.nil_append, List.cons_append]
  refine wpAnyH_take (i := 0) (v := ?_) rfl (by kernel_rfl) (by kernel_rfl) (by kernel_rfl) (fun _ _ _ h => h) (Or.inl ⟨by rfl, ?_⟩) (by assumption) ?_
  rotate_left
  · intro w hSw; (try dsimp only at hSw); obtain ⟨⟨t0, t1⟩, ⟨_, q0⟩⟩ := hSw; have c0 := (q0 0 _ rfl).1; have c1 := (q0 1 _ rfl).1; have c2 := (q0 2 _ rfl).1; go_simp; try with_reducible rfl
  simp only [Act.put, List.getElem_toArray, List.getElem_cons_zero, List.setIfInBounds_toArray, List.set_cons_zero]
  refine wpAnyH_take (i := 2) (v := ?_) rfl (by kernel_rfl) (by kernel_rfl) (by kernel_rfl) (fun _ _ _ h => h) (Or.inl ⟨by rfl, ?_⟩) (by assumption) ?_
  rotate_left
  · intro w hSw; (try dsimp only at hSw); obtain ⟨⟨t0, t1⟩, ⟨_, q0⟩⟩ := hSw; have c0 := (q0 0 _ rfl).1; have c1 := (q0 1 _ rfl).1; have c2 := (q0 2 _ rfl).1; go_simp; try with_reducible rfl
  simp only [Act.put, List.getElem_toArray, List.getElem_cons_succ, List.getElem_cons_zero, List.setIfInBounds_toArray, List.set_cons_succ, List.set_cons_zero]
  refine wpAnyH_take (i := 3) (v := ?_) rfl (by kernel_rfl) (by kernel_rfl) (by kernel_rfl) (fun _ _ _ h => h) (Or.inl ⟨by rfl, ?_⟩) (by assumption) ?_
  rotate_left
  · intro w hSw; (try dsimp only at hSw); obtain ⟨⟨t0, t1⟩, ⟨_, q0⟩⟩ := hSw; have c0 := (q0 0 _ rfl).1; have c1 := (q0 1 _ rfl).1; have c2 := (q0 2 _ rfl).1; go_simp; try with_reducible rfl
  simp only [Act.put, List.getElem_toArray, List.getElem_cons_succ, List.getElem_cons_zero, List.setIfInBounds_toArray, List.set_cons_succ, List.set_cons_zero]
  refine wpAnyH_ready (rs := [1]) (by kernel_rfl) (by simp) ?_
  refine AllReadyH.cons rfl (fun K hK => ?_) AllReadyH.nil
  go_simp
  refine HM.out.mono ?_
  rintro e w1 ⟨⟨f, rfl, hm⟩, b1⟩
  obtain ⟨fn, cp, rfl, hE, hC⟩ := hm
  have HE := hide hE
  have HC := hide (hC w1 (Below.refl _ _))
  have HB1 := hide (HB.out.trans (b1.mono HB.out.size))
  have HT1 := hide (HT.out.next b1)
  have HX1 := hide (HX.out.next b1)
  clear hE hC b1
  refine hK.out _ _ ⟨HT1.out, HX1.out⟩ (fun hHeld2 => ?_)
  clear hK K hHeld
  have hHeld := hHeld2
  clear hHeld2
  simp only [List.setIfInBounds_toArray, List.set_cons_succ, List.set_cons_zero]
  refine wpAnyH_ready (rs := [4]) (by kernel_rfl) (by simp) ?_
  refine AllReadyH.cons rfl (fun K hK => ?_) AllReadyH.nil
  go_simp
  rw [HE.out, Oper.upon_enter]
  refine HC.out.mono ?_
  rintro e w2 ⟨rfl, b2⟩
  have HB2 := hide (HB1.out.trans (b2.mono HB1.out.size))
  refine hK.out _ _ ⟨HT1.out.next b2, HX1.out.next b2⟩ (fun hHeld2 => ?_)
  clear hK K hHeld
  have hHeld := hHeld2
  clear hHeld2
  simp only [List.setIfInBounds_toArray, List.set_cons_succ, List.set_cons_zero]
  refine wpAnyH_take (i := 5) (v := ?_) rfl (by kernel_rfl) (by kernel_rfl) (by kernel_rfl) (fun _ _ _ h => h) (Or.inl ⟨by rfl, ?_⟩) (by assumption) ?_
  rotate_left
  · intro w hSw; (try dsimp only at hSw); go_simp; try with_reducible rfl
  simp only [Act.put, List.getElem_toArray, List.getElem_cons_succ, List.getElem_cons_zero, List.setIfInBounds_toArray, List.set_cons_succ, List.set_cons_zero]
  refine wpAnyH_take (i := 6) (v := ?_) rfl (by kernel_rfl) (by kernel_rfl) (by kernel_rfl) (fun _ _ _ h => h) (Or.inl ⟨by rfl, ?_⟩) (by assumption) ?_
  rotate_left
  · intro w hSw; (try dsimp only at hSw); go_simp; try with_reducible rfl
  simp only [Act.put, List.getElem_toArray, List.getElem_cons_succ, List.getElem_cons_zero, List.setIfInBounds_toArray, List.set_cons_succ, List.set_cons_zero]
  refine wpAnyH_done (by kernel_rfl) ?_ _
  clear hHeld b2
  go_wp2
  go_ret
  exact ⟨rfl, HB2.out⟩

set_option maxHeartbeats 2000000 in
theorem mustAll1_any (cs : List Cn) (pa : Option Addr) (pc N : Nat) (tag : ByteArray) (ta : Option Addr) (toks : List Int) (tc D B : Nat) (w : World) (h : w.cell? ⟨N, 0, none⟩ = some (.slice pa cs.length pc)) (hc : Cns w B pa cs) (hB : B ≤ w.heap.size) (hn : cs.length ≤ 1048576) (ht : Ints w D ta toks) (hD : D ≤ w.heap.size) (hl : toks.length ≤ 1048576) :
    Calls Try.prog 27 #[.slice ta toks.length tc, .string tag, .pointer (some ⟨N, 0, none⟩)] w fun e w' => e = .returned (.bool (allC toks tag cs)) ∧ Below w.heap.size w w' := by
  have hmf := makeE
  have hb0 := ((Below.refl w.heap.size w).alloc (Nat.le_refl _) (Obj.cells #[.slice ta toks.length tc] 23)).alloc (by simp) (Obj.cells #[.string tag] 9)
  have HT : Hid (TwoB ((w.alloc (Obj.cells #[.slice ta toks.length tc] 23)).alloc (Obj.cells #[.string tag] 9)) w.heap.size (w.heap.size + 1) ta toks.length tc tag) := hide (by unfold TwoB; simp [go_sem])
  have hcell := (hb0.cell (p := ⟨N, 0, none⟩) (World.block_lt_of_cell? w _ h)).trans h
  have HQ := hide (containsC_any 28 (fun args w => enterE Try.func28 (by kernel_rfl) rfl args w) #[.pointer (some ⟨w.heap.size, 0, none⟩), .pointer (some ⟨w.heap.size + 1, 0, none⟩)] (fun c => !condB toks tag c) pa cs pc B _ (hc.below hb0 hB) (Nat.le_trans hB hb0.size) (by omega) (fun k hk W hW => fails_any cs[k] w.heap.size (w.heap.size + 1) tag ta toks tc D W (HT.out.next hW) ((ht.below hb0 hD).below hW (Nat.le_trans hD hb0.size)) (Nat.le_trans (Nat.le_trans hD hb0.size) hW.size) hl))
  have HA := hide (show (!cs.any fun c => !condB toks tag c) = allC toks tag cs by unfold allC; rw [List.not_any_eq_all_not]; simp)
  have HB := hide hb0
  clear ht hc h hb0 HT
  go_enter Try.func27, Try.ntmps27
  go_wp2_with fail
  refine HQ.out.mono ?_
  rintro e w1 ⟨rfl, b1⟩
  have HC := hide (HB.out.trans (b1.mono HB.out.size))
  go_wp2
  go_ret
  exact ⟨by rw [← HA.out]; rfl, HC.out⟩
set_option maxHeartbeats 1000000 in
theorem mustAll_any (cs : List Cn) (pa : Option Addr) (pc : Nat) (tag : ByteArray) (ta : Option Addr) (toks : List Int) (tc D B : Nat) (w : World) (hc : Cns w B pa cs) (hB : B ≤ w.heap.size) (hn : cs.length ≤ 1048576) (ht : Ints w D ta toks) (hD : D ≤ w.heap.size) (hl : toks.length ≤ 1048576) :
    Calls Try.prog 21 #[.slice pa cs.length pc] w fun e w' => (∃ f, e = .returned f ∧ Must w' f ta toks tc tag (allC toks tag cs)) ∧ Below w.heap.size w w' := by
  have hmf := makeE
  have hb0 := (Below.refl w.heap.size w).alloc (Nat.le_refl _) (Obj.cells #[.slice pa cs.length pc] 38)
  have HM := hide (show Must (w.alloc (Obj.cells #[.slice pa cs.length pc] 38)) (.func (.func 27) #[] #[.pointer (some ⟨w.heap.size, 0, none⟩)]) ta toks tc tag (allC toks tag cs) from
    ⟨_, _, rfl, fun args w => enterE Try.func27 (by kernel_rfl) rfl args w, fun W' hb => mustAll1_any cs pa pc w.heap.size tag ta toks tc D B W' ((hb.cell (p := ⟨w.heap.size, 0, none⟩) (by simp)).trans (by simp)) ((hc.below hb0 hB).below hb (Nat.le_trans hB hb0.size)) (Nat.le_trans (Nat.le_trans hB hb0.size) hb.size) hn ((ht.below hb0 hD).below hb (Nat.le_trans hD hb0.size)) (Nat.le_trans (Nat.le_trans hD hb0.size) hb.size) hl⟩)
  clear hc ht hb0
  go_enter Try.func21, Try.ntmps21
  go_wp2
  go_ret
  exact ⟨⟨_, rfl, HM.out⟩, (Below.refl _ _).alloc (Nat.le_refl _) _⟩

set_option maxRecDepth 100000 in
set_option maxHeartbeats 4000000 in
theorem holds_any (cs : List Cn) (pa : Option Addr) (pc N M : Nat) (tag : ByteArray) (ta : Option Addr) (toks : List Int) (tc D B : Nat) (w : World) (h : TwoB w N M ta toks.length tc tag) (hc : Cns w B pa cs) (hB : B ≤ w.heap.size) (hn : cs.length ≤ 1048576) (ht : Ints w D ta toks) (hD : D ≤ w.heap.size) (hl : toks.length ≤ 1048576) :
    Calls Try.prog 20 #[.slice pa cs.length pc, .pointer (some ⟨N, 0, none⟩), .pointer (some ⟨M, 0, none⟩)] w fun e w' => e = .returned (.bool (allC toks tag cs)) ∧ Below w.heap.size w w' := by
  have hbd : Below w.heap.size w w.drew := below_drewG (Below.refl _ _)
  have HT := hide h.drew
  have HM := hide (mustAll_any cs pa pc tag ta toks tc D B w.drew (hc.below hbd hB) (Nat.le_trans hB hbd.size) hn (ht.below hbd hD) (Nat.le_trans hD hbd.size) hl)
  have HB := hide hbd
  obtain ⟨b, hb⟩ : ∃ b, allC toks tag cs = b := ⟨_, rfl⟩
  rw [hb] at HM ⊢
  clear h hc ht hbd hb
  go_enter Try.func20, Try.ntmps20
  go_wp2
  refine wp_region_held_drew (S := (fun W => TwoB W N M ta toks.length tc tag)) (by kernel_rfl) HT.out (fun hHeld => ?_)
  simp only [List.size_toArray, List.length_cons, List.length_nil, Nat.reduceAdd, Array.replicate_succ, Array.replicate_zero, List.push_toArray, List.nil_append, List.cons_append]
  refine wpAnyH_take (i := 0) (v := ?_) rfl (by kernel_rfl) (by kernel_rfl) (by kernel_rfl) (fun _ _ _ h => h) (Or.inl ⟨by rfl, ?_⟩) (by assumption) ?_
  rotate_left
  · intro w hSw; (try dsimp only at hSw); go_simp; try with_reducible rfl
  simp only [Act.put, List.getElem_toArray, List.getElem_cons_zero, List.setIfInBounds_toArray, List.set_cons_zero]
  refine wpAnyH_take (i := 2) (v := ?_) rfl (by kernel_rfl) (by kernel_rfl) (by kernel_rfl) (fun _ _ _ h => h) (Or.inl ⟨by rfl, ?_⟩) (by assumption) ?_
  rotate_left
  · intro w hSw; (try dsimp only at hSw); obtain ⟨t0, t1⟩ := hSw; go_simp; try with_reducible rfl
  simp only [Act.put, List.getElem_toArray, List.getElem_cons_succ, List.getElem_cons_zero, List.setIfInBounds_toArray, List.set_cons_succ, List.set_cons_zero]
  refine wpAnyH_take (i := 3) (v := ?_) rfl (by kernel_rfl) (by kernel_rfl) (by kernel_rfl) (fun _ _ _ h => h) (Or.inl ⟨by rfl, ?_⟩) (by assumption) ?_
  rotate_left
  · intro w hSw; (try dsimp only at hSw); obtain ⟨t0, t1⟩ := hSw; go_simp; try with_reducible rfl
  simp only [Act.put, List.getElem_toArray, List.getElem_cons_succ, List.getElem_cons_zero, List.setIfInBounds_toArray, List.set_cons_succ, List.set_cons_zero]
  refine wpAnyH_ready (rs := [1]) (by kernel_rfl) (by simp) ?_
  refine AllReadyH.cons rfl (fun K hK => ?_) AllReadyH.nil
  go_simp
  refine HM.out.mono ?_
  rintro e w1 ⟨⟨f, rfl, hm⟩, b1⟩
  obtain ⟨fn, cp, rfl, hE, hC⟩ := hm
  have HE := hide hE
  have HC := hide (hC w1 (Below.refl _ _))
  have HB1 := hide (HB.out.trans (b1.mono HB.out.size))
  have HT1 := hide (HT.out.next b1)
  clear hE hC b1
  refine hK.out _ _ HT1.out (fun hHeld2 => ?_)
  clear hK K hHeld
  have hHeld := hHeld2
  clear hHeld2
  simp only [List.setIfInBounds_toArray, List.set_cons_succ, List.set_cons_zero]
  refine wpAnyH_ready (rs := [4]) (by kernel_rfl) (by simp) ?_
  refine AllReadyH.cons rfl (fun K hK => ?_) AllReadyH.nil
  go_simp
  rw [HE.out, Oper.upon_enter]
  refine HC.out.mono ?_
  rintro e w2 ⟨rfl, b2⟩
  have HB2 := hide (HB1.out.trans (b2.mono HB1.out.size))
  refine hK.out _ _ (HT1.out.next b2) (fun hHeld2 => ?_)
  clear hK K hHeld
  have hHeld := hHeld2
  clear hHeld2
  simp only [List.setIfInBounds_toArray, List.set_cons_succ, List.set_cons_zero]
  refine wpAnyH_take (i := 5) (v := ?_) rfl (by kernel_rfl) (by kernel_rfl) (by kernel_rfl) (fun _ _ _ h => h) (Or.inl ⟨by rfl, ?_⟩) (by assumption) ?_
  rotate_left
  · intro w hSw; (try dsimp only at hSw); go_simp; try with_reducible rfl
  simp only [Act.put, List.getElem_toArray, List.getElem_cons_succ, List.getElem_cons_zero, List.setIfInBounds_toArray, List.set_cons_succ, List.set_cons_zero]
  refine wpAnyH_done (by kernel_rfl) ?_ _
  clear hHeld b2
  go_wp2
  go_ret
  exact ⟨rfl, HB2.out⟩

set_option maxHeartbeats 2000000 in
theorem evalIf_any (ls : List (List Cn)) (a : Option Addr) (cap : Nat) (tag : ByteArray) (ta : Option Addr) (toks : List Int) (tc D B : Nat) (w : World) (h : Cnss w B a ls) (hB : B ≤ w.heap.size) (hn : ls.length ≤ 1048576) (hn2 : ∀ cs ∈ ls, cs.length ≤ 1048576) (ht : Ints w D ta toks) (hD : D ≤ w.heap.size) (hl : toks.length ≤ 1048576) :
    Calls Try.prog 9 #[.slice a ls.length cap, .slice ta toks.length tc, .string tag] w fun e w' => e = .returned (.bool (evalI ls toks tag)) ∧ Below w.heap.size w w' := by
  have hmf := makeE
  have hb0 := ((Below.refl w.heap.size w).alloc (Nat.le_refl _) (Obj.cells #[.slice ta toks.length tc] 23)).alloc (by simp) (Obj.cells #[.string tag] 9)
  have HT : Hid (TwoB ((w.alloc (Obj.cells #[.slice ta toks.length tc] 23)).alloc (Obj.cells #[.string tag] 9)) w.heap.size (w.heap.size + 1) ta toks.length tc tag) := hide (by unfold TwoB; simp [go_sem])
  have HQ := hide (containsCC_any 20 (fun args w => enterE Try.func20 (by kernel_rfl) rfl args w) #[.pointer (some ⟨w.heap.size, 0, none⟩), .pointer (some ⟨w.heap.size + 1, 0, none⟩)] (allC toks tag) a ls cap B _ (h.below hb0 hB) (Nat.le_trans hB hb0.size) (by omega) (fun k hk pa pc W hW hin => holds_any ls[k] pa pc w.heap.size (w.heap.size + 1) tag ta toks tc D B W (HT.out.next hW) hin.ps (Nat.le_trans (Nat.le_trans hB hb0.size) hW.size) (hn2 _ (List.getElem_mem hk)) ((ht.below hb0 hD).below hW (Nat.le_trans hD hb0.size)) (Nat.le_trans (Nat.le_trans hD hb0.size) hW.size) hl))
  have HB := hide hb0
  clear ht h hb0 HT
  go_enter Try.func9, Try.ntmps9
  go_wp2_with fail
  refine HQ.out.mono ?_
  rintro e w1 ⟨rfl, b1⟩
  have HC := hide (HB.out.trans (b1.mono HB.out.size))
  go_wp2
  go_ret
  exact ⟨rfl, HC.out⟩
end Go.Proofs.Ytmgikfeknmbpbab
