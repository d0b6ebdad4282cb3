/-
  What impl.EvalIf does, the calls of the closures.
  A view of numbers.
  EvalIf on both sides, over views.
  What spec.Submitted does.
  What impl.Submitted does.
  Submitted on both sides, over views.
  What impl.cutCond does.
  What impl.cutList does.
  What impl.ParseIf does.
  ParseIf on both sides, over views.
  A slice of integers as the row hands it in.
  Codes that are too long; what stays below what was there.
-/
import Derived.Test.YtmgikfeknmbpbaaGreatDoorEvalI
import Derived.Test.YtmgikfeknmbpbaaGreatDoorInts
import Derived.Test.YtmgikfeknmbpbaaGreatDoorGenLeaf
import Derived.Test.YtmgikfeknmbpbaaGreatDoorConds
import Derived.WalkKit
import Derived.Test.YtmgikfeknmbpbaaGreatDoorCutIf1
import Derived.Test.YtmgikfeknmbpbaaGreatDoorMathNum
import Derived.Test.YtmgikfeknmbpbaaGreatDoorSpecParseIf
import Derived.Test.YtmgikfeknmbpbaaGreatDoorRows
import Derived.OpenShut
import Derived.WalkSpells
import Derived.WalkLawsBesides
namespace Go.Proofs.YtmgikfeknmbpbaaGreatDoor
open Go.RowKit M
set_option linter.unusedVariables false

/-- Two boxes: the tokens, the mark. -/
def TwoB (W : World) (N M : Nat) (ta : Option Addr) (tl tc : Nat) (tag : ByteArray) : Prop := W.cell? ⟨N, 0, none⟩ = some (.slice ta tl tc) ∧ W.cell? ⟨M, 0, none⟩ = some (.string tag)
theorem TwoB.next {W W' : World} {N M tl tc : Nat} {ta : Option Addr} {tag : ByteArray} (h : TwoB W N M ta tl tc tag) (hb : Below W.heap.size W W') : TwoB W' N M ta tl tc tag :=
  ⟨(hb.cell (p := ⟨N, 0, none⟩) (World.block_lt_of_cell? W _ h.1)).trans h.1, (hb.cell (p := ⟨M, 0, none⟩) (World.block_lt_of_cell? W _ h.2)).trans h.2⟩
theorem TwoB.drew {W : World} {N M tl tc : Nat} {ta : Option Addr} {tag : ByteArray} (h : TwoB W N M ta tl tc tag) : TwoB W.drew N M ta tl tc tag := h

set_option maxRecDepth 100000 in
set_option maxHeartbeats 4000000 in
theorem fails_any (c : Cn) (N M : Nat) (tag : ByteArray) (ta : Option Addr) (toks : List Int) (tc D : Nat) (w : World) (h : TwoB w N M ta toks.length tc tag) (ht : Ints w D ta toks) (hD : D ≤ w.heap.size) (hl : toks.length ≤ 1048576) :
    Calls Tryz.prog 57 #[.agg #[.bool c.no, .int .i64 c.tk, .string c.tg], .pointer (some ⟨N, 0, none⟩), .pointer (some ⟨M, 0, none⟩)] w fun e w' => e = .returned (.bool (!condB toks tag c)) ∧ Below w.heap.size w w' := by
  have hb0 := (Below.refl w.heap.size w).alloc (Nat.le_refl _) (Obj.cells #[.bool c.no, .int .i64 c.tk, .string c.tg] 57)
  have hbd := below_drewG hb0
  have HX := hide (BoxV.made w [.bool c.no, .int .i64 c.tk, .string c.tg] 57).drew
  have HT := hide (h.next hb0).drew
  have HM := hide (mustOf_any c tag ta toks tc D (w.alloc (Obj.cells #[.bool c.no, .int .i64 c.tk, .string c.tg] 57)).drew (ht.below hbd hD) (Nat.le_trans hD hbd.size) hl)
  have HB := hide hbd
  obtain ⟨b, hb⟩ : ∃ b, condB toks tag c = b := ⟨_, rfl⟩
  rw [hb] at HM ⊢
  clear h ht hb0 hbd hb
  go_enter Tryz.func57, Tryz.ntmps57
  go_wp2
  refine wp_region_held_drew (S := (fun W => TwoB W N M ta toks.length tc tag ∧ BoxV W w.heap.size [.bool c.no, .int .i64 c.tk, .string c.tg])) (by kernel_rfl) ⟨HT.out, HX.out⟩ (fun hHeld => ?_)
  simp only [List.size_toArray, List.length_cons, List.length_nil, Nat.reduceAdd, Array.replicate_succ, Array.replicate_zero, List.push_toArray, List.nil_append, List.cons_append]
  refine wpAnyH_take (i := 0) (v := ?_) rfl (by kernel_rfl) (by kernel_rfl) (by kernel_rfl) (fun _ _ _ h => h) (Or.inl ⟨by rfl, ?_⟩) (by assumption) ?_
  rotate_left
  · intro w hSw; (try dsimp only at hSw); obtain ⟨⟨t0, t1⟩, ⟨_, q0⟩⟩ := hSw; have c0 := (q0 0 _ rfl).1; have c1 := (q0 1 _ rfl).1; have c2 := (q0 2 _ rfl).1; go_simp; try with_reducible rfl
  simp only [Act.put, List.getElem_toArray, List.getElem_cons_zero, List.setIfInBounds_toArray, List.set_cons_zero]
  refine wpAnyH_take (i := 2) (v := ?_) rfl (by kernel_rfl) (by kernel_rfl) (by kernel_rfl) (fun _ _ _ h => h) (Or.inl ⟨by rfl, ?_⟩) (by assumption) ?_
  rotate_left
  · intro w hSw; (try dsimp only at hSw); obtain ⟨⟨t0, t1⟩, ⟨_, q0⟩⟩ := hSw; have c0 := (q0 0 _ rfl).1; have c1 := (q0 1 _ rfl).1; have c2 := (q0 2 _ rfl).1; go_simp; try with_reducible rfl
  simp only [Act.put, List.getElem_toArray, List.getElem_cons_succ, List.getElem_cons_zero, List.setIfInBounds_toArray, List.set_cons_succ, List.set_cons_zero]
  refine wpAnyH_take (i := 3) (v := ?_) rfl (by kernel_rfl) (by kernel_rfl) (by kernel_rfl) (fun _ _ _ h => h) (Or.inl ⟨by rfl, ?_⟩) (by assumption) ?_
  rotate_left
  · intro w hSw; (try dsimp only at hSw); obtain ⟨⟨t0, t1⟩, ⟨_, q0⟩⟩ := hSw; have c0 := (q0 0 _ rfl).1; have c1 := (q0 1 _ rfl).1; have c2 := (q0 2 _ rfl).1; go_simp; try with_reducible rfl
  simp only [Act.put, List.getElem_toArray, List.getElem_cons_succ, List.getElem_cons_zero, List.setIfInBounds_toArray, List.set_cons_succ, List.set_cons_zero]
  refine wpAnyH_ready (rs := [1]) (by kernel_rfl) (by simp) ?_
  refine AllReadyH.cons rfl (fun K hK => ?_) AllReadyH.nil
  go_simp
  refine HM.out.mono ?_
  rintro e w1 ⟨⟨f, rfl, hm⟩, b1⟩
  obtain ⟨fn, cp, rfl, hE, hC⟩ := hm
  have HE := hide hE
  have HC := hide (hC w1 (Below.refl _ _))
  have HB1 := hide (HB.out.trans (b1.mono HB.out.size))
  have HT1 := hide (HT.out.next b1)
  have HX1 := hide (HX.out.next b1)
  clear hE hC b1
  refine hK.out _ _ ⟨HT1.out, HX1.out⟩ (fun hHeld2 => ?_)
  clear hK K hHeld
  have hHeld := hHeld2
  clear hHeld2
  simp only [List.setIfInBounds_toArray, List.set_cons_succ, List.set_cons_zero]
  refine wpAnyH_ready (rs := [4]) (by kernel_rfl) (by simp) ?_
  refine AllReadyH.cons rfl (fun K hK => ?_) AllReadyH.nil
  go_simp
  rw [HE.out, Oper.upon_enter]
  refine HC.out.mono ?_
  rintro e w2 ⟨rfl, b2⟩
  have HB2 := hide (HB1.out.trans (b2.mono HB1.out.size))
  refine hK.out _ _ ⟨HT1.out.next b2, HX1.out.next b2⟩ (fun hHeld2 => ?_)
  clear hK K hHeld
  have hHeld := hHeld2
  clear hHeld2
  simp only [List.setIfInBounds_toArray, List.set_cons_succ, List.set_cons_zero]
  refine wpAnyH_take (i := 5) (v := ?_) rfl (by kernel_rfl) (by kernel_rfl) (by kernel_rfl) (fun _ _ _ h => h) (Or.inl ⟨by rfl, ?_⟩) (by assumption) ?_
  rotate_left
  · intro w hSw; (try dsimp only at hSw); go_simp; try with_reducible rfl
  simp only [Act.put, List.getElem_toArray, List.getElem_cons_succ, List.getElem_cons_zero, List.setIfInBounds_toArray, List.set_cons_succ, List.set_cons_zero]
  refine wpAnyH_take (i := 6) (v := ?_) rfl (by kernel_rfl) (by kernel_rfl) (by kernel_rfl) (fun _ _ _ h => h) (Or.inl ⟨by rfl, ?_⟩) (by assumption) ?_
  rotate_left
  · intro w hSw; (try dsimp only at hSw); go_simp; try with_reducible rfl
  simp only [Act.put, List.getElem_toArray, List.getElem_cons_succ, List.getElem_cons_zero, List.setIfInBounds_toArray, List.set_cons_succ, List.set_cons_zero]
  refine wpAnyH_done (by kernel_rfl) ?_ _
  clear hHeld b2
  go_wp2
  go_ret
  exact ⟨rfl, HB2.out⟩

set_option maxHeartbeats 2000000 in
theorem mustAll1_any (cs : List Cn) (pa : Option Addr) (pc N : Nat) (tag : ByteArray) (ta : Option Addr) (toks : List Int) (tc D B : Nat) (w : World) (h : w.cell? ⟨N, 0, none⟩ = some (.slice pa cs.length pc)) (hc : Cns w B pa cs) (hB : B ≤ w.heap.size) (hn : cs.length ≤ 1048576) (ht : Ints w D ta toks) (hD : D ≤ w.heap.size) (hl : toks.length ≤ 1048576) :
    Calls Tryz.prog 56 #[.slice ta toks.length tc, .string tag, .pointer (some ⟨N, 0, none⟩)] w fun e w' => e = .returned (.bool (allC toks tag cs)) ∧ Below w.heap.size w w' := by
  have hmf := makeE
  have hb0 := ((Below.refl w.heap.size w).alloc (Nat.le_refl _) (Obj.cells #[.slice ta toks.length tc] 30)).alloc (by simp) (Obj.cells #[.string tag] 9)
  have HT : Hid (TwoB ((w.alloc (Obj.cells #[.slice ta toks.length tc] 30)).alloc (Obj.cells #[.string tag] 9)) w.heap.size (w.heap.size + 1) ta toks.length tc tag) := hide (by unfold TwoB; simp [go_sem])
  have hcell := (hb0.cell (p := ⟨N, 0, none⟩) (World.block_lt_of_cell? w _ h)).trans h
  have HQ := hide (containsC_any 57 (fun args w => enterE Tryz.func57 (by kernel_rfl) rfl args w) #[.pointer (some ⟨w.heap.size, 0, none⟩), .pointer (some ⟨w.heap.size + 1, 0, none⟩)] (fun c => !condB toks tag c) pa cs pc B _ (hc.below hb0 hB) (Nat.le_trans hB hb0.size) (by omega) (fun k hk W hW => fails_any cs[k] w.heap.size (w.heap.size + 1) tag ta toks tc D W (HT.out.next hW) ((ht.below hb0 hD).below hW (Nat.le_trans hD hb0.size)) (Nat.le_trans (Nat.le_trans hD hb0.size) hW.size) hl))
  have HA := hide (show (!cs.any fun c => !condB toks tag c) = allC toks tag cs by unfold allC; rw [List.not_any_eq_all_not]; simp)
  have HB := hide hb0
  clear ht hc h hb0 HT
  go_enter Tryz.func56, Tryz.ntmps56
  go_wp2_with fail
  refine HQ.out.mono ?_
  rintro e w1 ⟨rfl, b1⟩
  have HC := hide (HB.out.trans (b1.mono HB.out.size))
  go_wp2
  go_ret
  exact ⟨by rw [← HA.out]; rfl, HC.out⟩
set_option maxHeartbeats 1000000 in
theorem mustAll_any (cs : List Cn) (pa : Option Addr) (pc : Nat) (tag : ByteArray) (ta : Option Addr) (toks : List Int) (tc D B : Nat) (w : World) (hc : Cns w B pa cs) (hB : B ≤ w.heap.size) (hn : cs.length ≤ 1048576) (ht : Ints w D ta toks) (hD : D ≤ w.heap.size) (hl : toks.length ≤ 1048576) :
    Calls Tryz.prog 34 #[.slice pa cs.length pc] w fun e w' => (∃ f, e = .returned f ∧ Must w' f ta toks tc tag (allC toks tag cs)) ∧ Below w.heap.size w w' := by
  have hmf := makeE
  have hb0 := (Below.refl w.heap.size w).alloc (Nat.le_refl _) (Obj.cells #[.slice pa cs.length pc] 41)
  have HM := hide (show Must (w.alloc (Obj.cells #[.slice pa cs.length pc] 41)) (.func (.func 56) #[] #[.pointer (some ⟨w.heap.size, 0, none⟩)]) ta toks tc tag (allC toks tag cs) from
    ⟨_, _, rfl, fun args w => enterE Tryz.func56 (by kernel_rfl) rfl args w, fun W' hb => mustAll1_any cs pa pc w.heap.size tag ta toks tc D B W' ((hb.cell (p := ⟨w.heap.size, 0, none⟩) (by simp)).trans (by simp)) ((hc.below hb0 hB).below hb (Nat.le_trans hB hb0.size)) (Nat.le_trans (Nat.le_trans hB hb0.size) hb.size) hn ((ht.below hb0 hD).below hb (Nat.le_trans hD hb0.size)) (Nat.le_trans (Nat.le_trans hD hb0.size) hb.size) hl⟩)
  clear hc ht hb0
  go_enter Tryz.func34, Tryz.ntmps34
  go_wp2
  go_ret
  exact ⟨⟨_, rfl, HM.out⟩, (Below.refl _ _).alloc (Nat.le_refl _) _⟩

set_option maxRecDepth 100000 in
set_option maxHeartbeats 4000000 in
theorem holds_any (cs : List Cn) (pa : Option Addr) (pc N M : Nat) (tag : ByteArray) (ta : Option Addr) (toks : List Int) (tc D B : Nat) (w : World) (h : TwoB w N M ta toks.length tc tag) (hc : Cns w B pa cs) (hB : B ≤ w.heap.size) (hn : cs.length ≤ 1048576) (ht : Ints w D ta toks) (hD : D ≤ w.heap.size) (hl : toks.length ≤ 1048576) :
    Calls Tryz.prog 33 #[.slice pa cs.length pc, .pointer (some ⟨N, 0, none⟩), .pointer (some ⟨M, 0, none⟩)] w fun e w' => e = .returned (.bool (allC toks tag cs)) ∧ Below w.heap.size w w' := by
  have hbd : Below w.heap.size w w.drew := below_drewG (Below.refl _ _)
  have HT := hide h.drew
  have HM := hide (mustAll_any cs pa pc tag ta toks tc D B w.drew (hc.below hbd hB) (Nat.le_trans hB hbd.size) hn (ht.below hbd hD) (Nat.le_trans hD hbd.size) hl)
  have HB := hide hbd
  obtain ⟨b, hb⟩ : ∃ b, allC toks tag cs = b := ⟨_, rfl⟩
  rw [hb] at HM ⊢
  clear h hc ht hbd hb
  go_enter Tryz.func33, Tryz.ntmps33
  go_wp2
  refine wp_region_held_drew (S := (fun W => TwoB W N M ta toks.length tc tag)) (by kernel_rfl) HT.out (fun hHeld => ?_)
  simp only [List.size_toArray, List.length_cons, List.length_nil, Nat.reduceAdd, Array.replicate_succ, Array.replicate_zero, List.push_toArray, List.nil_append, List.cons_append]
  refine wpAnyH_take (i := 0) (v := ?_) rfl (by kernel_rfl) (by kernel_rfl) (by kernel_rfl) (fun _ _ _ h => h) (Or.inl ⟨by rfl, ?_⟩) (by assumption) ?_
  rotate_left
  · intro w hSw; (try dsimp only at hSw); go_simp; try with_reducible rfl
  simp only [Act.put, List.getElem_toArray, List.getElem_cons_zero, List.setIfInBounds_toArray, List.set_cons_zero]
  refine wpAnyH_take (i := 2) (v := ?_) rfl (by kernel_rfl) (by kernel_rfl) (by kernel_rfl) (fun _ _ _ h => h) (Or.inl ⟨by rfl, ?_⟩) (by assumption) ?_
  rotate_left
  · intro w hSw; (try dsimp only at hSw); obtain ⟨t0, t1⟩ := hSw; go_simp; try with_reducible rfl
  simp only [Act.put, List.getElem_toArray, List.getElem_cons_succ, List.getElem_cons_zero, List.setIfInBounds_toArray, List.set_cons_succ, List.set_cons_zero]
  refine wpAnyH_take (i := 3) (v := ?_) rfl (by kernel_rfl) (by kernel_rfl) (by kernel_rfl) (fun _ _ _ h => h) (Or.inl ⟨by rfl, ?_⟩) (by assumption) ?_
  rotate_left
  · intro w hSw; (try dsimp only at hSw); obtain ⟨t0, t1⟩ := hSw; go_simp; try with_reducible rfl
  simp only [Act.put, List.getElem_toArray, List.getElem_cons_succ, List.getElem_cons_zero, List.setIfInBounds_toArray, List.set_cons_succ, List.set_cons_zero]
  refine wpAnyH_ready (rs := [1]) (by kernel_rfl) (by simp) ?_
  refine AllReadyH.cons rfl (fun K hK => ?_) AllReadyH.nil
  go_simp
  refine HM.out.mono ?_
  rintro e w1 ⟨⟨f, rfl, hm⟩, b1⟩
  obtain ⟨fn, cp, rfl, hE, hC⟩ := hm
  have HE := hide hE
  have HC := hide (hC w1 (Below.refl _ _))
  have HB1 := hide (HB.out.trans (b1.mono HB.out.size))
  have HT1 := hide (HT.out.next b1)
  clear hE hC b1
  refine hK.out _ _ HT1.out (fun hHeld2 => ?_)
  clear hK K hHeld
  have hHeld := hHeld2
  clear hHeld2
  simp only [List.setIfInBounds_toArray, List.set_cons_succ, List.set_cons_zero]
  refine wpAnyH_ready (rs := [4]) (by kernel_rfl) (by simp) ?_
  refine AllReadyH.cons rfl (fun K hK => ?_) AllReadyH.nil
  go_simp
  rw [HE.out, Oper.upon_enter]
  refine HC.out.mono ?_
  rintro e w2 ⟨rfl, b2⟩
  have HB2 := hide (HB1.out.trans (b2.mono HB1.out.size))
  refine hK.out _ _ (HT1.out.next b2) (fun hHeld2 => ?_)
  clear hK K hHeld
  have hHeld := hHeld2
  clear hHeld2
  simp only [List.setIfInBounds_toArray, List.set_cons_succ, List.set_cons_zero]
  refine wpAnyH_take (i := 5) (v := ?_) rfl (by kernel_rfl) (by kernel_rfl) (by kernel_rfl) (fun _ _ _ h => h) (Or.inl ⟨by rfl, ?_⟩) (by assumption) ?_
  rotate_left
  · intro w hSw; (try dsimp only at hSw); go_simp; try with_reducible rfl
  simp only [Act.put, List.getElem_toArray, List.getElem_cons_succ, List.getElem_cons_zero, List.setIfInBounds_toArray, List.set_cons_succ, List.set_cons_zero]
  refine wpAnyH_done (by kernel_rfl) ?_ _
  clear hHeld b2
  go_wp2
  go_ret
  exact ⟨rfl, HB2.out⟩

set_option maxHeartbeats 2000000 in
theorem evalIf_any (ls : List (List Cn)) (a : Option Addr) (cap : Nat) (tag : ByteArray) (ta : Option Addr) (toks : List Int) (tc D B : Nat) (w : World) (h : Cnss w B a ls) (hB : B ≤ w.heap.size) (hn : ls.length ≤ 1048576) (hn2 : ∀ cs ∈ ls, cs.length ≤ 1048576) (ht : Ints w D ta toks) (hD : D ≤ w.heap.size) (hl : toks.length ≤ 1048576) :
    Calls Tryz.prog 14 #[.slice a ls.length cap, .slice ta toks.length tc, .string tag] w fun e w' => e = .returned (.bool (evalI ls toks tag)) ∧ Below w.heap.size w w' := by
  have hmf := makeE
  have hb0 := ((Below.refl w.heap.size w).alloc (Nat.le_refl _) (Obj.cells #[.slice ta toks.length tc] 30)).alloc (by simp) (Obj.cells #[.string tag] 9)
  have HT : Hid (TwoB ((w.alloc (Obj.cells #[.slice ta toks.length tc] 30)).alloc (Obj.cells #[.string tag] 9)) w.heap.size (w.heap.size + 1) ta toks.length tc tag) := hide (by unfold TwoB; simp [go_sem])
  have HQ := hide (containsCC_any 33 (fun args w => enterE Tryz.func33 (by kernel_rfl) rfl args w) #[.pointer (some ⟨w.heap.size, 0, none⟩), .pointer (some ⟨w.heap.size + 1, 0, none⟩)] (allC toks tag) a ls cap B _ (h.below hb0 hB) (Nat.le_trans hB hb0.size) (by omega) (fun k hk pa pc W hW hin => holds_any ls[k] pa pc w.heap.size (w.heap.size + 1) tag ta toks tc D B W (HT.out.next hW) hin.ps (Nat.le_trans (Nat.le_trans hB hb0.size) hW.size) (hn2 _ (List.getElem_mem hk)) ((ht.below hb0 hD).below hW (Nat.le_trans hD hb0.size)) (Nat.le_trans (Nat.le_trans hD hb0.size) hW.size) hl))
  have HB := hide hb0
  clear ht h hb0 HT
  go_enter Tryz.func14, Tryz.ntmps14
  go_wp2_with fail
  refine HQ.out.mono ?_
  rintro e w1 ⟨rfl, b1⟩
  have HC := hide (HB.out.trans (b1.mono HB.out.size))
  go_wp2
  go_ret
  exact ⟨rfl, HC.out⟩
end Go.Proofs.YtmgikfeknmbpbaaGreatDoor
namespace Go.Proofs.YtmgikfeknmbpbaaGreatDoor
open Go.RowKit M
set_option linter.unusedVariables false

theorem ints_of_view {w : World} {B : Nat} {v : Value} {l : List Int} (h : View w B v (.l (l.map dI))) : ∃ a cap, v = .slice a l.length cap ∧ l.length ≤ cap ∧ cap ≤ maxLen ∧ (a = none → cap = 0) ∧ Ints w B a l := by
  obtain ⟨a, cap, h1, h2, h3, h4, h5⟩ := h.rows 1 (fun _ => rfl)
  refine ⟨a, cap, h1, h2, h3, h4, fun h0 => ?_⟩
  obtain ⟨b, o, C, e, hb, hc⟩ := h5 h0
  refine ⟨b, o, e, hb, fun j hj => ?_⟩
  obtain ⟨c, v⟩ := hc j hj 0 (.c (.int .i64 l[j])) rfl
  rw [v.inv] at c
  simpa using c
end Go.Proofs.YtmgikfeknmbpbaaGreatDoor
namespace Go.Proofs.YtmgikfeknmbpbaaGreatDoor
open Go.RowKit M
set_option linter.unusedVariables false

theorem sz_dIE (l : List Int) : szRs (l.map dI) = l.length := by
  induction l with
  | nil => rfl
  | cons x r ih => rw [List.map_cons, szRs_cons, ih, List.length_cons]; simp [dI, szR, szF, szV]; omega
theorem specEval_gen (l : List (List Cn)) (t : List Int) (tag : ByteArray) (u v : Value) (W : World) (h : View W W.heap.size u (.l (l.map dCs))) (h' : View W W.heap.size v (.l (t.map dI))) (hsz : szRs (l.map dCs) ≤ 1048576) (ht : t.length ≤ 1048576) :
    Calls Tryz.prog 15 #[u, v, .string tag] W fun e w' => e = .returned (.bool (evalI l t tag)) ∧ Below W.heap.size W w' := by
  obtain ⟨a, cap, rfl, h1, h2, h3, h4⟩ := cnss_of_view h
  obtain ⟨b, c, rfl, k1, k2, k3, k4⟩ := ints_of_view h'
  exact specEval_any l a cap tag b t c W.heap.size W.heap.size W h4 (Nat.le_refl _) (cns_small hsz).1 (fun cs hcs => ((cns_small hsz).2 cs hcs).1) k4 (Nat.le_refl _) ht
theorem eval_gen (l : List (List Cn)) (t : List Int) (tag : ByteArray) (u v : Value) (W : World) (h : View W W.heap.size u (.l (l.map dCs))) (h' : View W W.heap.size v (.l (t.map dI))) (hsz : szRs (l.map dCs) ≤ 1048576) (ht : t.length ≤ 1048576) :
    Calls Tryz.prog 14 #[u, v, .string tag] W fun e w' => e = .returned (.bool (evalI l t tag)) ∧ Below W.heap.size W w' := by
  obtain ⟨a, cap, rfl, h1, h2, h3, h4⟩ := cnss_of_view h
  obtain ⟨b, c, rfl, k1, k2, k3, k4⟩ := ints_of_view h'
  exact evalIf_any l a cap tag b t c W.heap.size W.heap.size W h4 (Nat.le_refl _) (cns_small hsz).1 (fun cs hcs => ((cns_small hsz).2 cs hcs).1) k4 (Nat.le_refl _) ht
end Go.Proofs.YtmgikfeknmbpbaaGreatDoor
namespace Go.Proofs.YtmgikfeknmbpbaaGreatDoor
open Go.RowKit M
set_option linter.unusedVariables false

set_option maxRecDepth 100000 in
set_option maxHeartbeats 4000000 in
theorem specSub_any (a : Option Addr) (ls : List (List Cn)) (cap B : Nat) (w : World) (h : Cnss w B a ls) (hB : B ≤ w.heap.size) (hl : ls.length ≤ 1048576) (hf : ls.flatten.length ≤ 1048576) :
    Calls Tryz.prog 18 #[.slice a ls.length cap] w fun e w' => (∃ g n c : Nat, e = .returned (.slice (some ⟨g, 0, none⟩) n c) ∧ OwnG 3 1 ci w' w.heap.size (.slice (some ⟨g, 0, none⟩) n c) (subI ls)) ∧ Below w.heap.size w w' := by
  have HH := hide h
  have HF := hide hf
  have HO := hide (OwnG.made (tE := 3) (K := 1) (cs := ci) w w.heap.size (Nat.le_refl _))
  clear h hf
  go_enter Tryz.func18, Tryz.ntmps18
  go_wp2
  go_loopw [3, 4] (fun v i wr => ∃ (k g n c : Nat) (ts : List Int), k ≤ ls.length ∧ i = .int .i64 k ∧ v = .slice (some ⟨g, 0, none⟩) n c ∧ Hid (OwnG 3 1 ci wr w.heap.size (.slice (some ⟨g, 0, none⟩) n c) ts) ∧ Hid (ts = subI (ls.take k)) ∧ Below w.heap.size w wr) (fun _ i _ => ls.length - (intOf i).toNat)
  case atStart => exact ⟨0, _, _, _, [], Nat.zero_le _, rfl, rfl, HO, (by show _ = _; simp [subI, subC]), (Below.refl _ _).alloc (Nat.le_refl _) _⟩
  case round =>
    obtain ⟨k, g, n, c, ts, hk, rfl, rfl, HOW, HTS, hbe⟩ := hrel
    by_cases hlt : k < ls.length
    · obtain ⟨b, o, rfl, hb, hc⟩ := HH.out (by omega)
      obtain ⟨pa, pc, hc0, hin⟩ := hc k hlt
      have HS := hide (subI_snoc ls k hlt)
      have hfk : ls[k].length ≤ 1048576 := Nat.le_trans (flat_here ls k hlt) HF.out
      have hts : ts.length ≤ 1048576 := by
        rw [HTS.out]
        have := subC_len (ls.take k).flatten
        have := subI_le ls k
        have := HF.out
        unfold subI
        omega
      obtain ⟨cs, hcs⟩ : ∃ cs, ls[k] = cs := ⟨_, rfl⟩
      rw [hcs] at HS hfk hin hc0
      have HIN := hide hin.ps
      clear hcs hc hin
      have hbw : b < w.heap.size := by omega
      go_wp2
      go_loopw [3, 5] (fun v q wr => ∃ (j g2 n2 c2 : Nat) (us : List Int), j ≤ cs.length ∧ q = .int .i64 j ∧ v = .slice (some ⟨g2, 0, none⟩) n2 c2 ∧ us.length ≤ 1048576 + j ∧ Hid (OwnG 3 1 ci wr w.heap.size (.slice (some ⟨g2, 0, none⟩) n2 c2) us) ∧ Hid (us = ts ++ subC (cs.take j)) ∧ Below w.heap.size w wr) (fun _ q _ => cs.length - (intOf q).toNat)
      case atStart => exact ⟨0, g, n, c, ts, Nat.zero_le _, rfl, rfl, by omega, HOW, (by show _ = _; simp [subC]), hbe⟩
      case round =>
        obtain ⟨j, g2, n2, c2, us, hj, rfl, rfl, hul, HOU, HUS, hbs⟩ := hrel
        by_cases hjl : j < cs.length
        · obtain ⟨b2, o2, rfl, hb2, hd⟩ := HIN.out (by omega)
          obtain ⟨d0, d1, d2⟩ := hd j hjl
          have hb2w : b2 < w.heap.size := by omega
          have HSJ := hide (subC_snoc cs j hjl)
          have e0 := (hbs.cell (p := ⟨b, o + k, none⟩) hbw).trans hc0
          have q0 := (hbs.cell (p := ⟨b2, o2 + j * 3, none⟩) hb2w).trans d0
          have q1 := (hbs.cell (p := ⟨b2, o2 + j * 3 + 1, none⟩) hb2w).trans d1
          have q2 := (hbs.cell (p := ⟨b2, o2 + j * 3 + 2, none⟩) hb2w).trans d2
          obtain ⟨x, hx⟩ : ∃ x, cs[j] = x := ⟨_, rfl⟩
          rw [hx] at HSJ q0 q1 q2
          have hs3 := hbs.size
          clear hx hd d0 d1 d2
          obtain ⟨no, tk, tg⟩ := x
          simp only at q0 q1 q2

          by_cases hz : tk = 0
          · subst hz
            have HSS := hide (show us = ts ++ subC (cs.take (j + 1)) by rw [HSJ.out, HUS.out]; simp [subB])
            go_wp2
            go_roundw
            case rel => exact ⟨j + 1, g2, n2, c2, us, by omega, by go_num, rfl, by omega, HOU, HSS, hbs⟩
            case measure => simp [intOf]; omega
          · have hz1 : (tk == 0) = false := by simpa using hz
            have hz2 : (tk != 0) = true := by simpa using hz
            cases no
            · have HSS := hide (show us ++ [tk] = ts ++ subC (cs.take (j + 1)) by rw [HSJ.out, HUS.out]; simp [subB, hz])
              clear hz
              have bA := (Below.refl wr.heap.size wr).alloc (Nat.le_refl _) (Obj.cells #[.int .i64 tk] 3)
              have HO3 := hide (HOU.out.next bA)
              have HC3 := hide (hbs.trans (bA.mono hbs.size))
              have hln : us.length + 1 ≤ 100000000000 := by omega
              have hs4 := HC3.out.size
              clear bA
              go_wp2_with (at_builtin; refine wp_append_gen 30 Tryz.underlying30 (.int .i64 0) 8 infoI rfl (by decide) (by decide) rfl _ _ rfl w.heap.size _ us rfl HO3.out ci_len _ tk rfl (fun i v hv => by match i with | 0 => (cases hv; simp) | i + 1 => cases hv) (fun v hv => by simp [ci] at hv; subst hv; rfl) hln hs4 ?_)
              intro g9 n9 c9 w9 hn9 hO9 hb9 hg9 _
              have HO9 := hide hO9
              have HB9 := hide (HC3.out.trans hb9)
              clear hO9 hb9 hg9 hn9 HO3 HC3
              go_wp2
              go_roundw
              case rel => exact ⟨j + 1, g9, n9, c9, _, by omega, by go_num, rfl, by simp; omega, HO9, HSS, HB9.out⟩
              case measure => simp [intOf]; omega
            · have HSS := hide (show us = ts ++ subC (cs.take (j + 1)) by rw [HSJ.out, HUS.out]; simp [subB])
              clear hz
              go_wp2
              go_roundw
              case rel => exact ⟨j + 1, g2, n2, c2, us, by omega, by go_num, rfl, by omega, HOU, HSS, hbs⟩
              case measure => simp [intOf]; omega
        · have HT := hide (show us = subI (ls.take (k + 1)) by rw [HS.out, HUS.out, HTS.out, show cs.take j = cs from List.take_of_length_le (by omega)])
          have e0 := (hbs.cell (p := ⟨b, o + k, none⟩) hbw).trans hc0
          go_wp2
          go_roundw
          case rel => exact ⟨k + 1, g2, n2, c2, us, by omega, by go_num, rfl, HOU, HT, hbs⟩
          case measure => simp [intOf]; omega
    · have HT := hide (show ls.take k = ls from List.take_of_length_le (by omega))
      go_wp2
      go_ret
      exact ⟨⟨_, _, _, rfl, by rw [← HT.out, ← HTS.out]; exact HOW.out⟩, hbe⟩
end Go.Proofs.YtmgikfeknmbpbaaGreatDoor
namespace Go.Proofs.YtmgikfeknmbpbaaGreatDoor
open Go.RowKit M
set_option linter.unusedVariables false

set_option maxRecDepth 100000 in
set_option maxHeartbeats 4000000 in
theorem sub_any (a : Option Addr) (ls : List (List Cn)) (cap B : Nat) (w : World) (h : Cnss w B a ls) (hB : B ≤ w.heap.size) (hl : ls.length ≤ 1048576) (hf : ls.flatten.length ≤ 1048576) :
    Calls Tryz.prog 17 #[.slice a ls.length cap] w fun e w' => (∃ g n c : Nat, e = .returned (.slice (some ⟨g, 0, none⟩) n c) ∧ OwnG 3 1 ci w' w.heap.size (.slice (some ⟨g, 0, none⟩) n c) (subI ls)) ∧ Below w.heap.size w w' := by
  have HH := hide h
  have HF := hide hf
  have HO := hide (OwnG.made (tE := 3) (K := 1) (cs := ci) w w.heap.size (Nat.le_refl _))
  clear h hf
  go_enter Tryz.func17, Tryz.ntmps17
  go_wp2
  go_loopw [3, 11] (fun v i wr => ∃ (k g n c : Nat) (ts : List Int), k ≤ ls.length ∧ i = .int .i64 k ∧ v = .slice (some ⟨g, 0, none⟩) n c ∧ Hid (OwnG 3 1 ci wr w.heap.size (.slice (some ⟨g, 0, none⟩) n c) ts) ∧ Hid (ts = subI (ls.take k)) ∧ Below w.heap.size w wr) (fun _ i _ => ls.length - (intOf i).toNat)
  case atStart => exact ⟨0, _, _, _, [], Nat.zero_le _, rfl, rfl, HO, (by show _ = _; simp [subI, subC]), (Below.refl _ _).alloc (Nat.le_refl _) _⟩
  case round =>
    obtain ⟨k, g, n, c, ts, hk, rfl, rfl, HOW, HTS, hbe⟩ := hrel
    by_cases hlt : k < ls.length
    · obtain ⟨b, o, rfl, hb, hc⟩ := HH.out (by omega)
      obtain ⟨pa, pc, hc0, hin⟩ := hc k hlt
      have HS := hide (subI_snoc ls k hlt)
      have hfk : ls[k].length ≤ 1048576 := Nat.le_trans (flat_here ls k hlt) HF.out
      have hts : ts.length ≤ 1048576 := by
        rw [HTS.out]
        have := subC_len (ls.take k).flatten
        have := subI_le ls k
        have := HF.out
        unfold subI
        omega
      obtain ⟨cs, hcs⟩ : ∃ cs, ls[k] = cs := ⟨_, rfl⟩
      rw [hcs] at HS hfk hin hc0
      have HIN := hide hin.ps
      clear hcs hc hin
      have hbw : b < w.heap.size := by omega
      have e0 := (hbe.cell (p := ⟨b, o + k, none⟩) hbw).trans hc0
      go_wp2
      go_loopw [3, 17] (fun v q wr => ∃ (j g2 n2 c2 : Nat) (us : List Int), j ≤ cs.length ∧ q = .int .i64 j ∧ v = .slice (some ⟨g2, 0, none⟩) n2 c2 ∧ us.length ≤ 1048576 + j ∧ Hid (OwnG 3 1 ci wr w.heap.size (.slice (some ⟨g2, 0, none⟩) n2 c2) us) ∧ Hid (us = ts ++ subC (cs.take j)) ∧ Below w.heap.size w wr) (fun _ q _ => cs.length - (intOf q).toNat)
      case atStart => exact ⟨0, g, n, c, ts, Nat.zero_le _, rfl, rfl, by omega, HOW, (by show _ = _; simp [subC]), hbe⟩
      case round =>
        obtain ⟨j, g2, n2, c2, us, hj, rfl, rfl, hul, HOU, HUS, hbs⟩ := hrel
        by_cases hjl : j < cs.length
        · obtain ⟨b2, o2, rfl, hb2, hd⟩ := HIN.out (by omega)
          obtain ⟨d0, d1, d2⟩ := hd j hjl
          have hb2w : b2 < w.heap.size := by omega
          have HSJ := hide (subC_snoc cs j hjl)
          have e0 := (hbs.cell (p := ⟨b, o + k, none⟩) hbw).trans hc0
          have q0 := (hbs.cell (p := ⟨b2, o2 + j * 3, none⟩) hb2w).trans d0
          have q1 := (hbs.cell (p := ⟨b2, o2 + j * 3 + 1, none⟩) hb2w).trans d1
          have q2 := (hbs.cell (p := ⟨b2, o2 + j * 3 + 2, none⟩) hb2w).trans d2
          obtain ⟨x, hx⟩ : ∃ x, cs[j] = x := ⟨_, rfl⟩
          rw [hx] at HSJ q0 q1 q2
          have hs3 := hbs.size
          clear hx hd d0 d1 d2
          obtain ⟨no, tk, tg⟩ := x
          simp only at q0 q1 q2
          have bX := (Below.refl wr.heap.size wr).alloc (Nat.le_refl _) (Obj.cells #[.bool no, .int .i64 tk, .string tg] 57)
          have HOX := hide (HOU.out.next bX)
          have HCX := hide (hbs.trans (bX.mono hbs.size))
          by_cases hz : tk = 0
          · subst hz
            have HSS := hide (show us = ts ++ subC (cs.take (j + 1)) by rw [HSJ.out, HUS.out]; simp [subB])
            go_wp2
            go_roundw
            case rel => exact ⟨j + 1, g2, n2, c2, us, by omega, by go_num, rfl, by omega, HOX, HSS, HCX.out⟩
            case measure => simp [intOf]; omega
          · have hz1 : (tk == 0) = false := by simpa using hz
            have hz2 : (tk != 0) = true := by simpa using hz
            cases no
            · have HSS := hide (show us ++ [tk] = ts ++ subC (cs.take (j + 1)) by rw [HSJ.out, HUS.out]; simp [subB, hz])
              clear hz
              have bA := (Below.refl _ (wr.alloc (Obj.cells #[.bool false, .int .i64 tk, .string tg] 57))).alloc (Nat.le_refl _) (Obj.cells #[.int .i64 tk] 3)
              have HO3 := hide (HOX.out.next bA)
              have HC3 := hide (HCX.out.trans (bA.mono HCX.out.size))
              have hln : us.length + 1 ≤ 100000000000 := by omega
              have hs4 := HC3.out.size
              clear bA bX
              go_wp2_with (at_builtin; refine wp_append_gen 30 Tryz.underlying30 (.int .i64 0) 8 infoI rfl (by decide) (by decide) rfl _ _ rfl w.heap.size _ us rfl HO3.out ci_len _ tk rfl (fun i v hv => by match i with | 0 => (cases hv; simp) | i + 1 => cases hv) (fun v hv => by simp [ci] at hv; subst hv; rfl) hln hs4 ?_)
              intro g9 n9 c9 w9 hn9 hO9 hb9 hg9 _
              have HO9 := hide hO9
              have HB9 := hide (HC3.out.trans hb9)
              clear hO9 hb9 hg9 hn9 HO3 HC3
              go_wp2
              go_roundw
              case rel => exact ⟨j + 1, g9, n9, c9, _, by omega, by go_num, rfl, by simp; omega, HO9, HSS, HB9.out⟩
              case measure => simp [intOf]; omega
            · have HSS := hide (show us = ts ++ subC (cs.take (j + 1)) by rw [HSJ.out, HUS.out]; simp [subB])
              clear hz
              go_wp2
              go_roundw
              case rel => exact ⟨j + 1, g2, n2, c2, us, by omega, by go_num, rfl, by omega, HOX, HSS, HCX.out⟩
              case measure => simp [intOf]; omega
        · have HT := hide (show us = subI (ls.take (k + 1)) by rw [HS.out, HUS.out, HTS.out, show cs.take j = cs from List.take_of_length_le (by omega)])
          go_wp2
          go_roundw
          case rel => exact ⟨k + 1, g2, n2, c2, us, by omega, by go_num, rfl, HOU, HT, hbs⟩
          case measure => simp [intOf]; omega
    · have HT := hide (show ls.take k = ls from List.take_of_length_le (by omega))
      go_wp2
      go_ret
      exact ⟨⟨_, _, _, rfl, by rw [← HT.out, ← HTS.out]; exact HOW.out⟩, hbe⟩
end Go.Proofs.YtmgikfeknmbpbaaGreatDoor
namespace Go.Proofs.YtmgikfeknmbpbaaGreatDoor
open Go.RowKit M
set_option linter.unusedVariables false

theorem specSub_gen (l : List (List Cn)) (u : Value) (W : World) (h : View W W.heap.size u (.l (l.map dCs))) (hsz : szRs (l.map dCs) ≤ 1048576) :
    Calls Tryz.prog 18 #[u] W fun e w' => (∃ r : Value, e = .returned r ∧ View w' w'.heap.size r (.l ((subI l).map dI))) ∧ Below W.heap.size W w' := by
  obtain ⟨a, cap, rfl, h1, h2, h3, h4⟩ := cnss_of_view h
  refine (specSub_any a l cap W.heap.size W h4 (Nat.le_refl _) (cns_small hsz).1 (flat_small hsz)).mono ?_
  rintro e w' ⟨⟨g, n, c, rfl, ho⟩, hb⟩
  exact ⟨⟨_, rfl, view_of_ints ho⟩, hb⟩
theorem sub_gen (l : List (List Cn)) (u : Value) (W : World) (h : View W W.heap.size u (.l (l.map dCs))) (hsz : szRs (l.map dCs) ≤ 1048576) :
    Calls Tryz.prog 17 #[u] W fun e w' => (∃ r : Value, e = .returned r ∧ Own w' r (.l ((subI l).map dI)) (IvG W.heap.size w'.heap.size)) ∧ Below W.heap.size W w' := by
  obtain ⟨a, cap, rfl, h1, h2, h3, h4⟩ := cnss_of_view h
  refine (sub_any a l cap W.heap.size W h4 (Nat.le_refl _) (cns_small hsz).1 (flat_small hsz)).mono ?_
  rintro e w' ⟨⟨g, n, c, rfl, ho⟩, hb⟩
  have hr := ho.row ci_len
  exact ⟨⟨_, rfl, (own_of_ints ho).wide (fun y hy => by subst hy; exact ⟨hr.2.2.2.1, hr.2.2.2.2.1⟩)⟩, hb⟩
theorem sub_sz (l : List (List Cn)) (hsz : szRs (l.map dCs) ≤ 1048576) : cntRs ((subI l).map dI) ≤ 12582912 := by
  rw [cnt_dI]
  have := subC_len l.flatten
  have := flat_small hsz
  unfold subI
  omega
end Go.Proofs.YtmgikfeknmbpbaaGreatDoor
namespace Go.Proofs.YtmgikfeknmbpbaaGreatDoor
open Go.RowKit M
set_option linter.unusedVariables false

theorem cutPreL (l : List UInt8) (c : UInt8) (w : World) :
    Calls Tryz.prog 46 #[.string (bytesOf l), .string ⟨#[c]⟩] w fun e w' => e = .returned (.tuple #[.string (bytesOf (if l.head? = some c then l.tail else l)), .bool (decide (l.head? = some c))]) ∧ w' = w := by
  have h := cutPre_any (bytesOf l) c w
  rw [bytesI, List.drop_one] at h
  exact h
theorem cutPre_ex (r : ByteArray) (c : UInt8) : ∃ (t : ByteArray) (b : Bool), ∀ W, Calls Tryz.prog 46 #[.string r, .string ⟨#[c]⟩] W fun e w' => e = .returned (.tuple #[.string t, .bool b]) ∧ w' = W := ⟨_, _, fun W => cutPre_any r c W⟩
theorem cutPre_yes {l : List UInt8} {c : UInt8} (h : l.head? = some c) (w : World) :
    Calls Tryz.prog 46 #[.string (bytesOf l), .string ⟨#[c]⟩] w fun e w' => e = .returned (.tuple #[.string (bytesOf l.tail), .bool true]) ∧ w' = w := by
  have h1 := cutPreL l c w
  rw [if_pos h, decide_eq_true h] at h1
  exact h1
theorem cutPre_no {l : List UInt8} {c : UInt8} (h : ¬ l.head? = some c) (w : World) :
    Calls Tryz.prog 46 #[.string (bytesOf l), .string ⟨#[c]⟩] w fun e w' => e = .returned (.tuple #[.string (bytesOf l), .bool false]) ∧ w' = w := by
  have h1 := cutPreL l c w
  rw [if_neg h, decide_eq_false h] at h1
  exact h1
theorem cutNotI (l : List UInt8) (w : World) :
    Calls Tryz.prog 46 #[.string (bytesOf l), .string ⟨#[78, 111, 116, 32]⟩] w fun e w' => e = .returned (.tuple #[.string (bytesOf (cutNot l).2), .bool (cutNot l).1]) ∧ w' = w := by
  have h := Tryz.strings_CutPrefix (bytesOf l) ⟨#[78, 111, 116, 32]⟩ w
  have e1 : (⟨#[78, 111, 116, 32]⟩ : ByteArray).data.toList = notL := rfl
  rw [e1, bytesI] at h
  have e2 : Lib.hasPrefix l notL = (cutNot l).1 := by
    unfold Lib.hasPrefix cutNot
    cases notL.isPrefixOf l <;> simp
  have e3 : Lib.trimPrefix l notL = (cutNot l).2 := by
    unfold Lib.trimPrefix Lib.hasPrefix cutNot
    cases notL.isPrefixOf l <;> simp [notL]
  rw [e2, e3] at h
  exact h
theorem cutFull_any (l : List UInt8) (hl : l.length ≤ 1048576) : ∃ (t r : ByteArray) (ok : Bool), ∀ W, Calls Tryz.prog 62 #[.string (bytesOf l)] W fun e w' => e = .returned (.tuple #[.string t, .string r, .bool ok]) ∧ Below W.heap.size W w' := by
  cases hc : cutT l with
  | none => exact ⟨_, _, _, fun W => cutFull_none l W hl hc⟩
  | some p => exact ⟨_, _, _, fun W => cutFull_some l p.1 p.2 W hl hc⟩

/-- What the reading of one comes to. -/
def CondI (l : List UInt8) (e : Ending) : Prop := match condL l with
  | none => ∃ (c : Cn) (r : ByteArray), e = .returned (.tuple #[.agg #[.bool c.no, .int .i64 c.tk, .string c.tg], .string r, .bool false])
  | some (c, q) => e = .returned (.tuple #[.agg #[.bool c.no, .int .i64 c.tk, .string c.tg], .string (bytesOf q), .bool true])
theorem condI_no {l : List UInt8} (h : condL l = none) (no : Bool) (tk : Int) (tg r : ByteArray) : CondI l (.returned (.tuple #[.agg #[.bool no, .int .i64 tk, .string tg], .string r, .bool false])) := by
  unfold CondI
  rw [h]
  exact ⟨⟨no, tk, tg⟩, r, rfl⟩
theorem condI_tok {l : List UInt8} (h : (cutNot l).2.head? = some 60) : CondI l (.returned (.tuple #[.agg #[.bool (cutNot l).1, .int .i64 (parseNum (upTo 62 (cutNot l).2.tail) 9999).1, .string ⟨#[]⟩], .string (bytesOf (fromB 62 (cutNot l).2.tail).tail), .bool (okT (cutNot l).2.tail)])) := by
  have hc : condL l = tokC (cutNot l).1 (cutNot l).2.tail := by unfold condL bodyC; rw [if_pos h]
  rw [tokC_is] at hc
  cases hk : okT (cutNot l).2.tail
  · rw [hk, if_neg (by simp)] at hc
    exact condI_no hc _ _ _ _
  · rw [hk, if_pos rfl] at hc
    unfold CondI
    rw [hc]
theorem cond_else {l : List UInt8} (h : ¬ (cutNot l).2.head? = some 60) (h2 : ¬ (cutNot l).2.head? = some 91) : condL l = none := by
  unfold condL bodyC
  rw [if_neg h, if_neg h2]
theorem cond_tag {l : List UInt8} (h : ¬ (cutNot l).2.head? = some 60) (h2 : (cutNot l).2.head? = some 91) : condL l = tagC (cutNot l).1 (cutNot l).2.tail := by
  unfold condL bodyC
  rw [if_neg h, if_pos h2]

set_option maxRecDepth 100000 in
set_option maxHeartbeats 8000000 in
theorem cutCond_any (l : List UInt8) (w : World) (hl : l.length ≤ 1048576) :
    Calls Tryz.prog 47 #[.string (bytesOf l)] w fun e w' => CondI l e ∧ Below w.heap.size w w' := by
  have b0 := (Below.refl w.heap.size w).alloc (Nat.le_refl _) (Obj.cells #[.bool false, .int .i64 0, .string { data := #[] }] 57)
  have HB0 := hide b0
  have HX0 := hide (BoxV.made w [.bool false, .int .i64 0, .string { data := #[] }] 57)
  have HN := hide (fun W => cutNotI l W)
  have hl1 := cutNot_len l
  have HTK := hide (@condI_tok l)
  have HEL := hide (@cond_else l)
  have HTG := hide (@cond_tag l)
  have HNO := hide (@condI_no l)
  obtain ⟨z1, hz1⟩ : ∃ z, (cutNot l).1 = z := ⟨_, rfl⟩
  obtain ⟨l1, hl1e⟩ : ∃ z, (cutNot l).2 = z := ⟨_, rfl⟩
  rw [hz1, hl1e] at HN HTK HTG
  rw [hl1e] at HEL hl1
  clear hz1 hl1e b0
  go_enter Tryz.func47, Tryz.ntmps47
  go_wp2_with fail
  refine (HN.out _).mono ?_
  rintro e w1 ⟨rfl, hw⟩
  subst hw
  clear HN
  by_cases h60 : l1.head? = some 60
  · have HP := hide (fun W => cutPre_yes h60 W)
    have HRET := hide (HTK.out h60)
    have HT := hide (fun W => cutToken_any l1.tail W (by rw [List.length_tail]; omega))
    generalize (parseNum (upTo 62 l1.tail) 9999).1 = n at *
    generalize okT l1.tail = ok at *
    generalize (fromB 62 l1.tail).tail = r at *
    clear HTK HEL HTG HNO h60
    go_wp2_with fail
    refine (HP.out _).mono ?_
    rintro e w1 ⟨rfl, hw⟩
    subst hw
    go_wp2_with fail
    refine (HT.out _).mono ?_
    rintro e w1 ⟨rfl, b1⟩
    have HX := hide (HX0.out.next b1)
    have HB := hide (HB0.out.trans (b1.mono HB0.out.size))
    obtain ⟨q0, k0⟩ := HX.out.2 0 _ rfl
    obtain ⟨q1, k1⟩ := HX.out.2 1 _ rfl
    obtain ⟨q2, k2⟩ := HX.out.2 2 _ rfl
    clear b1 HX HX0 HB0 HP HT
    go_wp2
    refine bodyPost_ret (v := .tuple #[.agg #[.bool z1, .int .i64 n, .string { data := #[] }], .string (bytesOf r), .bool ok]) (by simp [results, Tryz.results47, go_sem, q0, q1, q2]) rfl ⟨HRET.out, ((HB.out.setCell (Nat.le_refl _) _).setCell (Nat.le_refl _) _).setCell (Nat.le_refl _) _⟩
  · have HP := hide (fun W => cutPre_no h60 W)
    have HEL2 := hide (HEL.out h60)
    have HTG2 := hide (HTG.out h60)
    clear HTK HEL HTG h60
    go_wp2_with fail
    refine (HP.out _).mono ?_
    rintro e w1 ⟨rfl, hw⟩
    subst hw
    clear HP
    by_cases h91 : l1.head? = some 91
    · have HP := hide (fun W => cutPre_yes h91 W)
      have HC := hide (HTG2.out h91)
      obtain ⟨l2, hl2⟩ : ∃ z, l1.tail = z := ⟨_, rfl⟩
      have hl2l : l2.length ≤ 1048576 := by rw [← hl2, List.length_tail]; omega
      rw [hl2] at HP HC
      clear HEL2 HTG2 h91 hl2
      go_wp2_with fail
      refine (HP.out _).mono ?_
      rintro e w1 ⟨rfl, hw⟩
      subst hw
      clear HP
      cases hc : cutT l2 with
      | none =>
        have HF := hide (fun W => cutFull_none l2 W hl2l hc)
        have HCN := hide (show condL l = none by rw [HC.out]; unfold tagC; rw [hc])
        have HRET := hide (HNO.out HCN.out z1 0 (bytesOf (tagL [])))
        obtain ⟨r2, ok2, HQ0⟩ := cutPre_ex ⟨#[]⟩ 93
        have HQ := hide HQ0
        clear HQ0
        clear hc HC HCN HNO
        go_wp2_with fail
        refine (HF.out _).mono ?_
        rintro e w1 ⟨rfl, b1⟩
        have HX := hide (HX0.out.next b1)
        have HB := hide (HB0.out.trans (b1.mono HB0.out.size))
        obtain ⟨q0, k0⟩ := HX.out.2 0 _ rfl
        obtain ⟨q1, k1⟩ := HX.out.2 1 _ rfl
        obtain ⟨q2, k2⟩ := HX.out.2 2 _ rfl
        clear b1 HX HX0 HB0 HF
        go_wp2_with fail
        refine (HQ.out _).mono ?_
        rintro e w2 ⟨rfl, hw⟩
        subst hw
        go_wp2
        refine bodyPost_ret (v := .tuple #[.agg #[.bool z1, .int .i64 0, .string (bytesOf (tagL []))], .string r2, .bool false]) (by simp [results, Tryz.results47, go_sem, q0, q1, q2]) rfl ⟨HRET.out _, ((HB.out.setCell (Nat.le_refl _) _).setCell (Nat.le_refl _) _).setCell (Nat.le_refl _) _⟩
      | some p =>
        obtain ⟨m, r⟩ := p
        have HF := hide (fun W => cutFull_some l2 m r W hl2l hc)
        have HCN := hide (show condL l = if m = [] then none else if r.head? = some 93 then some (⟨z1, 0, bytesOf (tagL m)⟩, r.tail) else none by rw [HC.out]; unfold tagC; rw [hc])
        clear hc HC
        by_cases hm : m = []
        · rw [if_pos hm] at HCN
          rw [show decide (0 < m.length) = false by rw [hm]; rfl] at HF
          have HRET := hide (HNO.out HCN.out z1 0 (bytesOf (tagL m)))
          obtain ⟨r2, ok2, HQ0⟩ := cutPre_ex (bytesOf r) 93
          have HQ := hide HQ0
          clear HQ0
          clear HCN HNO hm
          go_wp2_with fail
          refine (HF.out _).mono ?_
          rintro e w1 ⟨rfl, b1⟩
          have HX := hide (HX0.out.next b1)
          have HB := hide (HB0.out.trans (b1.mono HB0.out.size))
          obtain ⟨q0, k0⟩ := HX.out.2 0 _ rfl
          obtain ⟨q1, k1⟩ := HX.out.2 1 _ rfl
          obtain ⟨q2, k2⟩ := HX.out.2 2 _ rfl
          clear b1 HX HX0 HB0 HF
          go_wp2_with fail
          refine (HQ.out _).mono ?_
          rintro e w2 ⟨rfl, hw⟩
          subst hw
          go_wp2
          refine bodyPost_ret (v := .tuple #[.agg #[.bool z1, .int .i64 0, .string (bytesOf (tagL m))], .string r2, .bool false]) (by simp [results, Tryz.results47, go_sem, q0, q1, q2]) rfl ⟨HRET.out _, ((HB.out.setCell (Nat.le_refl _) _).setCell (Nat.le_refl _) _).setCell (Nat.le_refl _) _⟩
        · rw [if_neg hm] at HCN
          rw [show decide (0 < m.length) = true by rw [decide_eq_true_eq]; exact List.length_pos_iff.2 hm] at HF
          by_cases h93 : r.head? = some 93
          · rw [if_pos h93] at HCN
            have HRET := hide (show CondI l (.returned (.tuple #[.agg #[.bool z1, .int .i64 0, .string (bytesOf (tagL m))], .string (bytesOf r.tail), .bool true])) by unfold CondI; rw [HCN.out])
            have HQ := hide (fun W => cutPre_yes h93 W)
            clear HCN HNO hm h93
            go_wp2_with fail
            refine (HF.out _).mono ?_
            rintro e w1 ⟨rfl, b1⟩
            have HX := hide (HX0.out.next b1)
            have HB := hide (HB0.out.trans (b1.mono HB0.out.size))
            obtain ⟨q0, k0⟩ := HX.out.2 0 _ rfl
            obtain ⟨q1, k1⟩ := HX.out.2 1 _ rfl
            obtain ⟨q2, k2⟩ := HX.out.2 2 _ rfl
            clear b1 HX HX0 HB0 HF
            go_wp2_with fail
            refine (HQ.out _).mono ?_
            rintro e w2 ⟨rfl, hw⟩
            subst hw
            go_wp2
            refine bodyPost_ret (v := .tuple #[.agg #[.bool z1, .int .i64 0, .string (bytesOf (tagL m))], .string (bytesOf r.tail), .bool true]) (by simp [results, Tryz.results47, go_sem, q0, q1, q2]) rfl ⟨HRET.out, ((HB.out.setCell (Nat.le_refl _) _).setCell (Nat.le_refl _) _).setCell (Nat.le_refl _) _⟩
          · rw [if_neg h93] at HCN
            have HRET := hide (HNO.out HCN.out z1 0 (bytesOf (tagL m)) (bytesOf r))
            have HQ := hide (fun W => cutPre_no h93 W)
            clear HCN HNO hm h93
            go_wp2_with fail
            refine (HF.out _).mono ?_
            rintro e w1 ⟨rfl, b1⟩
            have HX := hide (HX0.out.next b1)
            have HB := hide (HB0.out.trans (b1.mono HB0.out.size))
            obtain ⟨q0, k0⟩ := HX.out.2 0 _ rfl
            obtain ⟨q1, k1⟩ := HX.out.2 1 _ rfl
            obtain ⟨q2, k2⟩ := HX.out.2 2 _ rfl
            clear b1 HX HX0 HB0 HF
            go_wp2_with fail
            refine (HQ.out _).mono ?_
            rintro e w2 ⟨rfl, hw⟩
            subst hw
            go_wp2
            refine bodyPost_ret (v := .tuple #[.agg #[.bool z1, .int .i64 0, .string (bytesOf (tagL m))], .string (bytesOf r), .bool false]) (by simp [results, Tryz.results47, go_sem, q0, q1, q2]) rfl ⟨HRET.out, ((HB.out.setCell (Nat.le_refl _) _).setCell (Nat.le_refl _) _).setCell (Nat.le_refl _) _⟩
    · have HP := hide (fun W => cutPre_no h91 W)
      have HRET := hide (HNO.out (HEL2.out h91) z1 0)
      obtain ⟨t, r, ok, HF0⟩ := cutFull_any l1 (by omega)
      have HF := hide HF0
      obtain ⟨r2, ok2, HQ0⟩ := cutPre_ex r 93
      have HQ := hide HQ0
      clear HQ0
      clear HEL2 HTG2 HNO h91 HF0
      go_wp2_with fail
      refine (HP.out _).mono ?_
      rintro e w1 ⟨rfl, hw⟩
      subst hw
      clear HP
      go_wp2_with fail
      refine (HF.out _).mono ?_
      rintro e w1 ⟨rfl, b1⟩
      have HX := hide (HX0.out.next b1)
      have HB := hide (HB0.out.trans (b1.mono HB0.out.size))
      obtain ⟨q0, k0⟩ := HX.out.2 0 _ rfl
      obtain ⟨q1, k1⟩ := HX.out.2 1 _ rfl
      obtain ⟨q2, k2⟩ := HX.out.2 2 _ rfl
      clear b1 HX HX0 HB0 HF
      go_wp2_with fail
      refine (HQ.out _).mono ?_
      rintro e w2 ⟨rfl, hw⟩
      subst hw
      go_wp2
      refine bodyPost_ret (v := .tuple #[.agg #[.bool z1, .int .i64 0, .string (t)], .string r2, .bool false]) (by simp [results, Tryz.results47, go_sem, q0, q1, q2]) rfl ⟨HRET.out t r2, ((HB.out.setCell (Nat.le_refl _) _).setCell (Nat.le_refl _) _).setCell (Nat.le_refl _) _⟩
end Go.Proofs.YtmgikfeknmbpbaaGreatDoor
namespace Go.Proofs.YtmgikfeknmbpbaaGreatDoor
open Go.RowKit M
set_option linter.unusedVariables false

theorem infoCnI : (Tryz.prog.info? 57).map (fun i => (i.zero, i.size, i.bytes)) = some (some (.agg #[.bool false, .int .i64 0, .string { data := #[] }]), 3, 32) := by kernel_rfl
/-- How much is left to be read. -/
def moreI (m v : Value) : Nat := match m, v with
  | .bool true, .string s => s.size + 1
  | _, _ => 0
theorem moreI_next (q : Bool) (a b : List UInt8) (h : q = true → a.length < b.length) : moreI (.bool q) (.string (bytesOf a)) < moreI (.bool true) (.string (bytesOf b)) := by
  cases q
  · show 0 < (bytesOf b).size + 1; omega
  · have := h rfl
    show (bytesOf a).size + 1 < (bytesOf b).size + 1
    rw [bytesOf_size, bytesOf_size]
    omega
/-- On the way through one list, as the program goes. -/
def LIv (D : List UInt8) (acc : List Cn) (t : List UInt8) (mo : Bool) : Prop :=
  (mo = true → condsL D = (condsL t).map fun x => (acc ++ x.1, x.2)) ∧ (mo = false → condsL D = some (acc, t))
theorem LIv.start (D : List UInt8) : LIv D [] D true := by
  refine ⟨fun _ => ?_, fun e => (by cases e)⟩
  cases condsL D <;> rfl
theorem LIv.no {D t : List UInt8} {acc : List Cn} (h : LIv D acc t true) (hc : condL t = none) : condsL D = none := by
  rw [h.1 rfl, condsL_none hc]; rfl
theorem LIv.next {D t q : List UInt8} {acc : List Cn} {c : Cn} (h : LIv D acc t true) (hc : condL t = some (c, q)) (hq : q.head? = some 32) : LIv D (acc ++ [c]) q.tail true := by
  refine ⟨fun _ => ?_, fun e => (by cases e)⟩
  rw [h.1 rfl, condsL_next hc hq]
  cases condsL q.tail <;> simp
theorem LIv.last {D t q : List UInt8} {acc : List Cn} {c : Cn} (h : LIv D acc t true) (hc : condL t = some (c, q)) (hq : ¬ q.head? = some 32) : LIv D (acc ++ [c]) q false := by
  refine ⟨fun e => (by cases e), fun _ => ?_⟩
  rw [h.1 rfl, condsL_end hc hq]
  rfl
theorem LIv.full {l t : List UInt8} {acc : List Cn} (h : LIv l.tail acc t true) (ha : acc.length = 4) (h40 : l.head? = some 40) : listL l = none := by
  unfold listL
  rw [if_pos h40, h.1 rfl]
  cases hc : condsL t with
  | none => rfl
  | some x =>
    have := (condsL_len _ t (Nat.lt_succ_self _) _ _ hc).2
    show (if (acc ++ x.1).length ≤ 4 ∧ _ then _ else none) = none
    rw [if_neg]
    rw [List.length_append]
    omega
/-- What the reading of one list comes to. -/
def ListI (l : List UInt8) (B : Nat) (e : Ending) (w' : World) : Prop := match listL l with
  | none => ∃ (v : Value) (r : ByteArray), e = .returned (.tuple #[v, .string r, .bool false])
  | some (cs, q) => ∃ g n c : Nat, e = .returned (.tuple #[.slice (some ⟨g, 0, none⟩) n c, .string (bytesOf q), .bool true]) ∧ OwnG 57 3 ciC w' B (.slice (some ⟨g, 0, none⟩) n c) cs
theorem listI_no {l : List UInt8} (h : listL l = none) (B : Nat) (w' : World) (v : Value) (r : ByteArray) : ListI l B (.returned (.tuple #[v, .string r, .bool false])) w' := by
  unfold ListI
  rw [h]
  exact ⟨v, r, rfl⟩
theorem listI_yes {l t : List UInt8} {acc : List Cn} (h40 : l.head? = some 40) (h : LIv l.tail acc t false) (ha : acc.length ≤ 4) (h41 : t.head? = some 41) (B : Nat) (w' : World) (g n c : Nat) (ho : OwnG 57 3 ciC w' B (.slice (some ⟨g, 0, none⟩) n c) acc) :
    ListI l B (.returned (.tuple #[.slice (some ⟨g, 0, none⟩) n c, .string (bytesOf t.tail), .bool true])) w' := by
  have e : listL l = some (acc, t.tail) := by
    unfold listL
    rw [if_pos h40, h.2 rfl]
    show (if acc.length ≤ 4 ∧ t.head? = some 41 then some (acc, t.tail) else none) = _
    rw [if_pos ⟨ha, h41⟩]
  unfold ListI
  rw [e]
  exact ⟨g, n, c, rfl, ho⟩
theorem listL_not41 {l t : List UInt8} {acc : List Cn} (h40 : l.head? = some 40) (h : LIv l.tail acc t false) (h41 : ¬ t.head? = some 41) : listL l = none := by
  unfold listL
  rw [if_pos h40, h.2 rfl]
  show (if acc.length ≤ 4 ∧ t.head? = some 41 then some (acc, t.tail) else none) = _
  rw [if_neg (fun e => h41 e.2)]
theorem listL_no {l : List UInt8} (h40 : l.head? = some 40) (h : condsL l.tail = none) : listL l = none := by
  unfold listL
  rw [if_pos h40, h]

set_option maxRecDepth 100000 in
set_option maxHeartbeats 8000000 in
theorem cutList_any (l : List UInt8) (w : World) (hl : l.length ≤ 1048576) :
    Calls Tryz.prog 26 #[.string (bytesOf l)] w fun e w' => ListI l w.heap.size e w' ∧ Below w.heap.size w w' := by
  have HO := hide (OwnG.made (tE := 57) (K := 3) (cs := ciC) w w.heap.size (Nat.le_refl _))
  have HB0 := hide ((Below.refl w.heap.size w).alloc (Nat.le_refl _) (Obj.cells #[] 57))
  by_cases h40 : l.head? = some 40
  · have HP := hide (fun W => cutPre_yes h40 W)
    have HC := hide (fun t W (h : t.length ≤ 1048576) => cutCond_any t W h)
    have H40 := hide h40
    obtain ⟨D, hD⟩ : ∃ z, l.tail = z := ⟨_, rfl⟩
    have hDl : D.length ≤ 1048576 := by rw [← hD, List.length_tail]; omega
    have HD := hide hD
    rw [hD] at HP
    clear h40 hD
    go_enter Tryz.func26, Tryz.ntmps26
    go_wp2_with fail
    refine (HP.out _).mono ?_
    rintro e w1 ⟨rfl, hw⟩
    subst hw
    clear HP
    go_wp2
    go_loopw [0, 6, 7] (fun v v6 m wr => ∃ (t : List UInt8) (g n c : Nat) (acc : List Cn) (mo : Bool), v = .string (bytesOf t) ∧ v6 = .slice (some ⟨g, 0, none⟩) n c ∧ m = .bool mo ∧ n ≤ 4 ∧ t.length ≤ 1048576 ∧ Hid (n = acc.length) ∧ Hid (LIv D acc t mo) ∧ Hid (OwnG 57 3 ciC wr w1.heap.size (.slice (some ⟨g, 0, none⟩) n c) acc) ∧ Below w1.heap.size w1 wr) (fun v _ m _ => moreI m v)
    case atStart => exact ⟨D, _, _, _, [], true, rfl, rfl, rfl, by omega, hDl, rfl, LIv.start D, HO, HB0.out⟩
    case round =>
      obtain ⟨t, g, n, c, acc, mo, rfl, rfl, rfl, hn4, htl, HN, HI, HOW, hbe⟩ := hrel
      have HB := hide hbe
      clear hbe HO HB0
      cases mo
      · by_cases h41 : t.head? = some 41
        · have HQ := hide (fun W => cutPre_yes h41 W)
          have HRET := hide (listI_yes H40.out (by rw [HD.out]; exact HI.out) (by rw [← HN.out]; exact hn4) h41 w1.heap.size wr g n c HOW.out)
          clear h41
          go_wp2_with fail
          refine (HQ.out _).mono ?_
          rintro e w2 ⟨rfl, hw⟩
          subst hw
          go_wp2
          go_ret3
          exact ⟨HRET.out, HB.out⟩
        · have HQ := hide (fun W => cutPre_no h41 W)
          have HRET := hide (listI_no (listL_not41 H40.out (by rw [HD.out]; exact HI.out) h41) w1.heap.size wr)
          clear h41
          go_wp2_with fail
          refine (HQ.out _).mono ?_
          rintro e w2 ⟨rfl, hw⟩
          subst hw
          go_wp2
          go_ret3
          exact ⟨HRET.out _ _, HB.out⟩
      · have HQ := hide (HC.out t wr htl)
        go_wp2_with fail
        refine HQ.out.mono ?_
        rintro e w2 ⟨hret, b2⟩
        unfold CondI at hret
        have B2 := hide (HB.out.trans (b2.mono HB.out.size))
        have O2 := hide (HOW.out.next b2)
        clear b2 HQ HB HOW
        cases hc : condL t with
        | none =>
          rw [hc] at hret
          obtain ⟨x, r, rfl⟩ := hret
          have HRET := hide (fun W => listI_no (listL_no H40.out (by rw [HD.out]; exact HI.out.no hc)) w1.heap.size W)
          clear hc
          go_wp2
          go_ret3
          exact ⟨HRET.out _ _ _, B2.out.alloc B2.out.size _⟩
        | some p =>
          obtain ⟨x, q⟩ := p
          rw [hc] at hret
          subst hret
          have hql := condL_len hc
          by_cases h4 : n = 4
          · have HRET := hide (fun W => listI_no (LIv.full (l := l) (by rw [HD.out]; exact HI.out) (by rw [← HN.out]; exact h4) H40.out) w1.heap.size W)
            have h5 : ((n : Int) == 4) = true := by rw [h4]; rfl
            clear hc h4
            go_wp2
            go_ret3
            exact ⟨HRET.out _ _ _, B2.out.alloc B2.out.size _⟩
          · have h5 : ((n : Int) == 4) = false := by apply beq_eq_false_iff_ne.2; omega
            have hn3 : n ≤ 3 := by omega
            have bX := (Below.refl w2.heap.size w2).alloc (Nat.le_refl _) (Obj.cells #[.bool x.no, .int .i64 x.tk, .string x.tg] 57)
            have bY := bX.alloc (by simp) (Obj.cells #[.bool x.no, .int .i64 x.tk, .string x.tg] 57)
            have HO3 := hide (O2.out.next bY)
            have B3 := hide (B2.out.trans (bY.mono B2.out.size))
            have hz3 := B3.out.size
            have hln : acc.length + 1 ≤ 100000000000 := by have := HN.out; omega
            have HNN := hide (show acc.length + 1 = n + 1 by rw [← HN.out])
            by_cases h32 : q.head? = some 32
            · have HQ := hide (fun W => cutPre_yes h32 W)
              have HIN := hide (HI.out.next hc h32)
              have hqt : q.tail.length < t.length := by rw [List.length_tail]; omega
              clear hc h4 bX bY O2 h32
              go_wp2_with (at_builtin; refine wp_append_gen 41 Tryz.underlying41 (.agg #[.bool false, .int .i64 0, .string { data := #[] }]) 32 infoCnI rfl (by decide) (by decide) rfl _ _ rfl w1.heap.size _ acc rfl HO3.out ciC_len _ x rfl (fun i v hv => by match i with | 0 => (cases hv; simp) | 1 => (cases hv; simp) | 2 => (cases hv; simp) | i + 3 => cases hv) (ciC_one x) hln hz3 ?_)
              intro g9 n9 c9 w9 hn9 hO9 hb9 hg9 _
              have O9 := hide hO9
              have B9 := hide (B3.out.trans hb9)
              have HN9 := hide hn9
              have hn95 : n9 ≤ 4 := by have := HN.out; omega
              clear hO9 hb9 hg9 HO3 B3 hn9
              go_wp2_with fail
              refine (HQ.out _).mono ?_
              rintro e w10 ⟨rfl, hw⟩
              subst hw
              go_wp2
              go_roundw
              case rel => exact ⟨q.tail, g9, n9, c9, _, true, rfl, rfl, rfl, hn95, by omega, (by show n9 = _; rw [HN9.out, List.length_append]; rfl), HIN, O9, B9.out⟩
              case measure => exact moreI_next _ _ _ (fun _ => hqt)
            · have HQ := hide (fun W => cutPre_no h32 W)
              have HIN := hide (HI.out.last hc h32)
              clear hc h4 bX bY O2 h32
              go_wp2_with (at_builtin; refine wp_append_gen 41 Tryz.underlying41 (.agg #[.bool false, .int .i64 0, .string { data := #[] }]) 32 infoCnI rfl (by decide) (by decide) rfl _ _ rfl w1.heap.size _ acc rfl HO3.out ciC_len _ x rfl (fun i v hv => by match i with | 0 => (cases hv; simp) | 1 => (cases hv; simp) | 2 => (cases hv; simp) | i + 3 => cases hv) (ciC_one x) hln hz3 ?_)
              intro g9 n9 c9 w9 hn9 hO9 hb9 hg9 _
              have O9 := hide hO9
              have B9 := hide (B3.out.trans hb9)
              have HN9 := hide hn9
              have hn95 : n9 ≤ 4 := by have := HN.out; omega
              clear hO9 hb9 hg9 HO3 B3 hn9
              go_wp2_with fail
              refine (HQ.out _).mono ?_
              rintro e w10 ⟨rfl, hw⟩
              subst hw
              go_wp2
              go_roundw
              case rel => exact ⟨q, g9, n9, c9, _, false, rfl, rfl, rfl, hn95, by omega, (by show n9 = _; rw [HN9.out, List.length_append]; rfl), HIN, O9, B9.out⟩
              case measure => exact moreI_next _ _ _ (fun e => (by cases e))
  · have HP := hide (fun W => cutPre_no h40 W)
    have HRET := hide (fun W => listI_no (l := l) (by unfold listL; rw [if_neg h40]) w.heap.size W)
    obtain ⟨r2, ok2, HQ0⟩ := cutPre_ex (bytesOf l) 41
    have HQ := hide HQ0
    clear HQ0 h40
    go_enter Tryz.func26, Tryz.ntmps26
    go_wp2_with fail
    refine (HP.out _).mono ?_
    rintro e w1 ⟨rfl, hw⟩
    subst hw
    clear HP
    go_wp2
    go_loopw [0, 7] (fun v m wr => v = .string (bytesOf l) ∧ m = .bool false ∧ wr = w1.alloc (Obj.cells #[] 57)) (fun _ _ _ => 0)
    case atStart => exact ⟨rfl, rfl, rfl⟩
    case round =>
      obtain ⟨rfl, rfl, hw⟩ := hrel
      subst hw
      go_wp2_with fail
      refine (HQ.out _).mono ?_
      rintro e w2 ⟨rfl, hw⟩
      subst hw
      go_wp2
      go_ret3
      exact ⟨HRET.out _ _ _, HB0.out⟩
end Go.Proofs.YtmgikfeknmbpbaaGreatDoor
namespace Go.Proofs.YtmgikfeknmbpbaaGreatDoor
open Go.RowKit M
set_option linter.unusedVariables false

theorem infoSlI : (Tryz.prog.info? 41).map (fun i => (i.zero, i.size, i.bytes)) = some (some (.slice none 0 0), 1, 24) := by kernel_rfl
theorem trimL32 (l : List UInt8) (w : World) :
    Calls Tryz.prog 27 #[.string (bytesOf l), .string ⟨#[32]⟩] w fun e w' => e = .returned (.string (bytesOf (blk l))) ∧ w' = w :=
  Tryz.strings_TrimLeft_one (bytesOf l) 32 (by decide) w
/-- On the way through several lists, as the program goes. -/
def PIv (l : List UInt8) (ls : List (List Cn)) (t : List UInt8) (mo : Bool) : Prop :=
  (mo = true → listsL l = (listsL t).map (ls ++ ·)) ∧ (mo = false → listsL l = some ls)
theorem PIv.start (l : List UInt8) : PIv l [] l true := by
  refine ⟨fun _ => ?_, fun e => (by cases e)⟩
  cases listsL l <;> rfl
theorem PIv.no {l t : List UInt8} {ls : List (List Cn)} (h : PIv l ls t true) (hc : listL t = none) : ifL l = none := by
  unfold ifL
  rw [h.1 rfl, listsL_none hc]
  rfl
theorem PIv.next {l t q : List UInt8} {ls : List (List Cn)} {cs : List Cn} (h : PIv l ls t true) (hc : listL t = some (cs, q)) (hq : ¬ q = []) : PIv l (ls ++ [cs]) (blk q) true := by
  refine ⟨fun _ => ?_, fun e => (by cases e)⟩
  rw [h.1 rfl, listsL_next hc hq]
  cases listsL (blk q) <;> simp
theorem PIv.last {l t t' : List UInt8} {ls : List (List Cn)} {cs : List Cn} (h : PIv l ls t true) (hc : listL t = some (cs, [])) : PIv l (ls ++ [cs]) t' false := by
  refine ⟨fun e => (by cases e), fun _ => ?_⟩
  rw [h.1 rfl, listsL_end hc]
  rfl
theorem PIv.full {l t : List UInt8} {ls : List (List Cn)} (h : PIv l ls t true) (ha : ls.length = 4) : ifL l = none := by
  unfold ifL
  rw [h.1 rfl]
  cases hc : listsL t with
  | none => rfl
  | some x =>
    have := (listsL_ok _ t (Nat.lt_succ_self _) _ hc).1
    show (if (ls ++ x).length ≤ 4 then some (ls ++ x) else none) = none
    rw [if_neg]
    rw [List.length_append]
    omega
theorem PIv.done {l t : List UInt8} {ls : List (List Cn)} (h : PIv l ls t false) (ha : ls.length ≤ 4) : ifL l = some ls := by
  unfold ifL
  rw [h.2 rfl]
  show (if ls.length ≤ 4 then some ls else none) = some ls
  rw [if_pos ha]
/-- What is answered. -/
def IfI (l : List UInt8) (B : Nat) (e : Ending) (w' : World) : Prop :=
  ∃ r : Value, e = .returned (.tuple #[r, .bool (ifL l).isSome]) ∧ Own w' r (.l (((ifL l).getD []).map dCs)) (IvG B w'.heap.size)
theorem ifI_no {l : List UInt8} (h : ifL l = none) (B : Nat) (W : World) (hB : B ≤ W.heap.size) : IfI l B (.returned (.tuple #[.slice (some ⟨W.heap.size, 0, none⟩) 0 0, .bool false])) (W.alloc (Obj.cells #[] 41)) :=
  ⟨_, by rw [h]; rfl, by rw [h]; exact (RowsO.made 41 W B hB).done⟩
theorem emptyB (l : List UInt8) : (bytesOf l).toList.isEmpty = decide (l = []) := by
  rw [ByteArray.toList_eq]
  show l.toArray.toList.isEmpty = decide (l = [])
  cases l <;> simp

set_option maxRecDepth 100000 in
set_option maxHeartbeats 16000000 in
theorem parseIf_any (l : List UInt8) (w : World) (hl : l.length ≤ 1048576) :
    Calls Tryz.prog 8 #[.string (bytesOf l)] w fun e w' => IfI l w.heap.size e w' ∧ Below w.heap.size w w' := by
  have HO := hide (RowsO.made 41 w w.heap.size (Nat.le_refl _))
  have HB0 := hide ((Below.refl w.heap.size w).alloc (Nat.le_refl _) (Obj.cells #[] 41))
  have HC := hide (fun t W (h : t.length ≤ 1048576) => cutList_any t W h)
  have HTR := hide (fun t W => trimL32 t W)
  go_enter Tryz.func8, Tryz.ntmps8
  go_wp2
  go_loopw [0, 4, 5] (fun v v4 m wr => ∃ (t : List UInt8) (g n c H : Nat) (ss : List Sl) (ls : List (List Cn)) (mo : Bool), v = .string (bytesOf t) ∧ v4 = .slice (some ⟨g, 0, none⟩) n c ∧ m = .bool mo ∧ n ≤ 4 ∧ t.length ≤ 1048576 ∧ Hid (n = ls.length) ∧ Hid (PIv l ls t mo) ∧ Hid (RowsO 41 wr w.heap.size g n c H ss ls) ∧ Below w.heap.size w wr) (fun v _ m _ => moreI m v)
  case atStart => exact ⟨l, _, _, _, _, [], [], true, rfl, rfl, rfl, by omega, hl, rfl, PIv.start l, HO, HB0.out⟩
  case round =>
    obtain ⟨t, g, n, c, H, ss, ls, mo, rfl, rfl, rfl, hn4, htl, HN, HI, HOW, hbe⟩ := hrel
    have HB := hide hbe
    clear hbe HO HB0
    cases mo
    · have HRET := hide (show IfI l w.heap.size (.returned (.tuple #[.slice (some ⟨g, 0, none⟩) n c, .bool true])) wr from ⟨_, by rw [HI.out.done (by rw [← HN.out]; exact hn4)]; rfl, by rw [HI.out.done (by rw [← HN.out]; exact hn4)]; exact HOW.out.done⟩)
      go_wp2
      go_ret2
      exact ⟨HRET.out, HB.out⟩
    · have HQ := hide (HC.out t wr htl)
      go_wp2_with fail
      refine HQ.out.mono ?_
      rintro e w2 ⟨hret, b2⟩
      unfold ListI at hret
      have B2 := hide (HB.out.trans (b2.mono HB.out.size))
      have O2 := hide (HOW.out.next b2)
      have hz2 := B2.out.size
      have HTOP := hide HOW.out.top
      have hb2 := b2.size
      clear b2 HQ HB HOW
      cases hc : listL t with
      | none =>
        rw [hc] at hret
        obtain ⟨v, r, rfl⟩ := hret
        have HRET := hide (ifI_no (HI.out.no hc) w.heap.size w2 hz2)
        clear hc
        go_wp2
        go_ret2
        exact ⟨HRET.out, B2.out.alloc B2.out.size _⟩
      | some p =>
        obtain ⟨cs, q⟩ := p
        rw [hc] at hret
        obtain ⟨g2, n2, c3, rfl, ho⟩ := hret
        have hql := listL_len hc
        by_cases h4 : n = 4
        · have HRET := hide (ifI_no (HI.out.full (by rw [← HN.out]; exact h4)) w.heap.size w2 hz2)
          have h5 : ((n : Int) == 4) = true := by rw [h4]; rfl
          clear hc h4
          go_wp2
          go_ret2
          exact ⟨HRET.out, B2.out.alloc B2.out.size _⟩
        · have h5 : ((n : Int) == 4) = false := by apply beq_eq_false_iff_ne.2; omega
          have hn3 : n ≤ 3 := by omega
          have bY := (Below.refl w2.heap.size w2).alloc (Nat.le_refl _) (Obj.cells #[.slice (some ⟨g2, 0, none⟩) n2 c3] 41)
          have hr2 := ho.row ciC_len
          have HNL := hide ((own_of_conds (ho.next bY)).wide (T := IvG wr.heap.size w2.heap.size) (fun y hy => by subst hy; exact ⟨hr2.2.2.2.1, hr2.2.2.2.2.1⟩))
          have P3 := hide (O2.out.next bY)
          have HO3 := hide (P3.out.own)
          have B3 := hide (B2.out.trans (bY.mono B2.out.size))
          have hz3 := bY.size
          have hz4 := B3.out.size
          have hln : ss.length + 1 ≤ 100000000000 := by have h1 := P3.out.len; have h2 := HN.out; omega
          have HTT := hide (fun W => trimL32 q W)
          have hE0 := emptyB q
          have hbq := blk_len q
          have HIN := hide (fun (hq : ¬ q = []) => HI.out.next hc hq)
          have HIL := hide (fun (hq : q = []) => HI.out.last (t' := blk q) (by rw [← hq]; exact hc))
          clear hc h4 bY O2 ho hr2
          go_wp2_with (at_builtin; refine wp_append_gen 24 Tryz.underlying24 (.slice none 0 0) 24 infoSlI rfl (by decide) (by decide) rfl _ _ rfl w.heap.size _ ss rfl HO3.out ciS_len _ (⟨g2, n2, c3⟩ : Sl) rfl (fun i v hv => by match i with | 0 => (cases hv; simp [Sl.v]) | i + 1 => cases hv) (ciS_one _) hln hz4 ?_)
          intro g9 n9 c9 w9 hn9 hO9 hb9 hg9 hat
          have B9 := hide (B3.out.trans hb9)
          have HNX := hide (P3.out.snoc hO9 hg9 (by rcases hat with e2 | e2; exact .inl (Option.some.inj e2).symm; exact .inr (by rw [e2]; simp)) wr.heap.size w2.heap.size HNL.out HTOP.out hz3)
          have HN9 := hide (show n9 = (ls ++ [cs]).length from HNX.out.num.1)
          have hn95 : n9 ≤ 4 := by rw [HN9.out, List.length_append, ← HN.out]; show n + 1 ≤ 4; omega
          clear hO9 hb9 hg9 HO3 B3 hn9 hat P3 HNL HTOP hln
          by_cases hq : q = []
          · have HI9 := hide (HIL.out hq)
            rw [decide_eq_true hq] at hE0
            clear hq
            go_wp2_with fail
            refine (HTT.out _).mono ?_
            rintro e w10 ⟨rfl, hw⟩
            subst hw
            go_wp2
            go_roundw
            case rel => exact ⟨blk q, g9, n9, c9, w10.heap.size, _, _, false, rfl, rfl, rfl, hn95, by omega, HN9, HI9, HNX, B9.out⟩
            case measure => exact moreI_next _ _ _ (fun e => (by cases e))
          · have HI9 := hide (HIN.out hq)
            rw [decide_eq_false hq] at hE0
            clear hq
            go_wp2_with fail
            refine (HTT.out _).mono ?_
            rintro e w10 ⟨rfl, hw⟩
            subst hw
            go_wp2
            go_roundw
            case rel => exact ⟨blk q, g9, n9, c9, w10.heap.size, _, _, true, rfl, rfl, rfl, hn95, by omega, HN9, HI9, HNX, B9.out⟩
            case measure => exact moreI_next _ _ _ (fun _ => by omega)
end Go.Proofs.YtmgikfeknmbpbaaGreatDoor
namespace Go.Proofs.YtmgikfeknmbpbaaGreatDoor
open Go.RowKit M
set_option linter.unusedVariables false

theorem bytes_back (s : ByteArray) : bytesOf s.data.toList = s := ByteArray.ext (by simp [bytesOf])
/-- What is read, and whether. -/
def ifLs (s : ByteArray) : List (List Cn) := (ifL s.data.toList).getD []
theorem specParseIf_gen (s : ByteArray) (W : World) (hs : s.size ≤ 67108864) :
    Calls Tryz.prog 9 #[.string s] W fun e w' => (∃ r : Value, e = .returned (.tuple #[r, .bool (ifL s.data.toList).isSome]) ∧ View w' w'.heap.size r (.l ((ifLs s).map dCs))) ∧ Below W.heap.size W w' := by
  refine (specParseIf_any s W hs).mono ?_
  rintro e w' ⟨⟨r, rfl, ho⟩, hb⟩
  exact ⟨⟨r, rfl, ho.vw (Nat.le_refl _)⟩, hb⟩
theorem parseIf_gen (s : ByteArray) (W : World) (hs : s.size ≤ 1048576) :
    Calls Tryz.prog 8 #[.string s] W fun e w' => (∃ r : Value, e = .returned (.tuple #[r, .bool (ifL s.data.toList).isSome]) ∧ Own w' r (.l ((ifLs s).map dCs)) (IvG W.heap.size w'.heap.size)) ∧ Below W.heap.size W w' := by
  have h := parseIf_any s.data.toList W (by rw [Array.length_toList]; exact hs)
  rw [bytes_back] at h
  exact h
theorem ifLs_ok (s : ByteArray) : (ifLs s).length ≤ 4 ∧ ∀ cs ∈ ifLs s, cs.length ≤ 4 := by
  unfold ifLs
  cases h : ifL s.data.toList with
  | none => exact ⟨by simp, fun cs hcs => by cases hcs⟩
  | some ls => exact ⟨(ifL_ok h).2.1, fun cs hcs => ((ifL_ok h).2.2 cs hcs).2.1⟩
theorem cnt_dCn (l : List Cn) : cntRs (l.map dCn) = 3 * l.length := cntRs_map dCn 3 (fun _ => by simp [dCn, cntR, cntF]) l
theorem cnt_dCs (l : List (List Cn)) (n : Nat) (h : ∀ cs ∈ l, cs.length ≤ n) : cntRs (l.map dCs) ≤ 3 * n * l.length := by
  induction l with
  | nil => simp [cntRs]
  | cons x r ih =>
    rw [List.map_cons, cntRs_cons, List.length_cons, Nat.mul_add]
    have h1 := ih (fun cs hcs => h cs (List.mem_cons_of_mem _ hcs))
    have h2 : cntR (dCs x) = 3 * x.length := by simp [dCs, cntR, cntF, cnt_dCn]
    have h3 := h x (List.mem_cons_self ..)
    have h4 : 3 * x.length ≤ 3 * n := Nat.mul_le_mul_left 3 h3
    omega
theorem ifLs_cnt (s : ByteArray) : cntRs ((ifLs s).map dCs) ≤ 12582912 := by
  have h := cnt_dCs (ifLs s) 4 (ifLs_ok s).2
  have := (ifLs_ok s).1
  omega
end Go.Proofs.YtmgikfeknmbpbaaGreatDoor
namespace Go.Proofs.YtmgikfeknmbpbaaGreatDoor
open Go.RowKit

/-- What the walk is told of a slice of integers that came in: it is nil; or it leads to a row of 'cap' cells, the numbers 'zs' (the first 'len' are its elements), each fitting its kind. -/
def IsRow (k : IntKind) (w : World) (a : Option Addr) (len cap : Nat) (zs : List Int) : Prop :=
  (a = none ∧ len = 0 ∧ cap = 0 ∧ zs = []) ∨
  ∃ x, a = some x ∧ len ≤ cap ∧ cap ≤ maxLen ∧ zs.length = cap ∧ (∀ i, i < zs.length → w.cell? (x.add i) = some (.int k (zs.getD i 0))) ∧ ∀ n ∈ zs, (Lit.int k n).wf = true
end Go.Proofs.YtmgikfeknmbpbaaGreatDoor
namespace Go.Proofs.YtmgikfeknmbpbaaGreatDoor
open Go.RowKit
set_option linter.unusedVariables false

set_option maxHeartbeats 400000 in
theorem big_any (a : Option Addr) (len cap : Nat) (w : World) (_hl : len ≤ maxLen) :
    Calls Tryz.prog 4 #[.slice a len cap] w fun e w' => e = .returned (.bool (decide ((1048576 : Int) < len))) ∧ w' = w := by
  unfold maxLen at _hl
  go_enter Tryz.func4, Tryz.ntmps4
  go_wp2
  go_ret
  exact ⟨rfl, rfl⟩

theorem row_len {w : World} {a : Option Addr} {len cap : Nat} {zs : List Int} (h : IsRow .u8 w a len cap zs) : len ≤ maxLen := by
  rcases h with ⟨_, rfl, _, _⟩ | ⟨x, _, hl, hm, _⟩
  · exact Nat.zero_le _
  · omega
end Go.Proofs.YtmgikfeknmbpbaaGreatDoor
