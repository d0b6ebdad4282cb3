/-
  What impl.byName and impl.PropOf do.
-/
import Derived.Test.YtkgdmlfdlkmojaaNameOf
import Derived.Test.YtkgdmlfdlkmojaaSpecSm
import Derived.Test.YtkgdmlfdlkmojaaHide
import Derived.Test.YtkgdmlfdlkmojaaClone
import Derived.Deep.RegionHeld3
namespace Go.Proofs.Ytkgdmlfdlkmojaa
open Go.RowKit Go.Maps M
set_option linter.unusedVariables false

theorem own_belowM {w w1 : World} {b n : Nat} {D : DataW Unit} (h : w.ownsMap Try.prog 79 pElem b n D) (hb : Below w.heap.size w w1) : w1.ownsMap Try.prog 79 pElem b n D := by
  have hlt := h.lt
  obtain ⟨es, clock, hh, r⟩ := h
  exact ⟨es, clock, by rw [hb.block _ hlt]; exact hh, r⟩
theorem below_from_drewM {w w' : World} (h : Below w.drew.heap.size w.drew w') : Below w.heap.size w w' := ⟨h.os, h.tape, h.output, h.size, h.block⟩
theorem keep3M {W w1 : World} {N : Nat} {x y z : Value} (hb : Below W.heap.size W w1) (h : W.cell? ⟨N, 0, none⟩ = some x ∧ W.cell? ⟨N, 1, none⟩ = some y ∧ W.cell? ⟨N, 2, none⟩ = some z) : w1.cell? ⟨N, 0, none⟩ = some x ∧ w1.cell? ⟨N, 1, none⟩ = some y ∧ w1.cell? ⟨N, 2, none⟩ = some z := by
  have hN : N < W.heap.size := World.block_lt_of_cell? W _ h.1
  simp only [(bcellP hb).1 N _ hN]
  exact h
theorem keep3T {W w1 : World} {b N : Nat} {x y z : Value} (ht : W.mapTurned w1 b) (h : W.cell? ⟨N, 0, none⟩ = some x ∧ W.cell? ⟨N, 1, none⟩ = some y ∧ W.cell? ⟨N, 2, none⟩ = some z) (hne : N ≠ b) : w1.cell? ⟨N, 0, none⟩ = some x ∧ w1.cell? ⟨N, 1, none⟩ = some y ∧ w1.cell? ⟨N, 2, none⟩ = some z := by
  have hN : N < W.heap.size := World.block_lt_of_cell? W _ h.1
  have hg := ht.grown
  have e : w1.heap[N]? = W.heap[N]? := hg.block N hN (fun e => hne (by cases e; rfl))
  simp only [World.cell?, e] at *
  exact h

set_option maxRecDepth 100000 in
set_option maxHeartbeats 4000000 in
theorem byName_any (a : Option Addr) (ps : List Pp) (cap B : Nat) (w : World) (h : Pps w B a ps) (hB : B ≤ w.heap.size) (hsh : ShortPs ps) (hl : ps.length ≤ 1048576) :
    Calls Try.prog 46 #[.slice a ps.length cap] w fun e w' => e = .returned (.map (some w.heap.size)) ∧ (∃ n D, w'.ownsMap Try.prog 79 pElem w.heap.size n D ∧ Knows D ps) ∧ Below w.heap.size w w' := by
  have hmm := @run_makeMap Try.prog
  go_enter Try.func46, Try.ntmps46
  go_wp2
  go_loopw [11] (fun i wr => ∃ (k : Nat) (D : DataW Unit), k ≤ ps.length ∧ i = .int .i64 k ∧ wr.ownsMap Try.prog 79 pElem w.heap.size k D ∧ Hid (Knows D (ps.take k)) ∧ Below w.heap.size w wr) (fun i _ => ps.length - (intOf i).toNat)
  case atStart => exact ⟨0, .map [], Nat.zero_le _, rfl, World.ownsMap_made _ _ _ _, Knows.nil, (Below.refl _ _).alloc (Nat.le_refl _) _⟩
  case round =>
    obtain ⟨k, D, hk, rfl, hown, hkn, hbe⟩ := hrel
    clear hmm
    by_cases hlt : k < ps.length
    · obtain ⟨b, o, rfl, hb, hc⟩ := (h.below hbe hB) (by omega)
      obtain ⟨hcx, hcy, hcz⟩ := hc k hlt
      clear hc
      obtain ⟨hs1, hs2, hs3⟩ := hsh.at k hlt
      have hkm : k < maxLen := by unfold maxLen; omega
      have HNM := hide (fun W => nameOfProp_any ps[k].1 ps[k].2.1 ps[k].2.2 W)
      have HBA := hide ((Below.refl wr.heap.size wr).alloc (Nat.le_refl _) (Obj.cells #[.string ps[k].1, .string ps[k].2.1, .string ps[k].2.2] 36))
      have HOLD := hide (fun e => Knows.old hlt hkn.out e)
      have HNEW := hide (fun e => Knows.new hlt hs1 hs2 hkn.out e)
      have hbl := hown.lt
      have hbne : wr.heap.size ≠ w.heap.size := by omega
      have CN : ((wr.alloc (Obj.cells #[.string ps[k].1, .string ps[k].2.1, .string ps[k].2.2] 36))).cell? ⟨wr.heap.size, 0, none⟩ = some (.string ps[k].1) ∧ ((wr.alloc (Obj.cells #[.string ps[k].1, .string ps[k].2.1, .string ps[k].2.2] 36))).cell? ⟨wr.heap.size, 1, none⟩ = some (.string ps[k].2.1) ∧ ((wr.alloc (Obj.cells #[.string ps[k].1, .string ps[k].2.1, .string ps[k].2.2] 36))).cell? ⟨wr.heap.size, 2, none⟩ = some (.string ps[k].2.2) := by simp
      have HCN := hide CN
      clear CN
      go_wp2_with fail
      refine (HNM.out _).mono ?_
      rintro e w1 ⟨rfl, b1⟩
      have b2 := HBA.out.trans (b1.mono HBA.out.size)
      have hown1 := own_belowM hown b2
      have c1 := hbe.trans (b2.mono hbe.size)
      have HC1 := hide (keep3M b1 HCN.out)
      clear hown b1
      obtain ⟨z, hz⟩ : ∃ z, (knowL (ps.take k) ps[k].1 ps[k].2.1).isSome = z := ⟨_, rfl⟩
      have HZ := hide hz
      have c2 : Below w.heap.size w (w1.alloc (Obj.cells #[.string (firstP (ps.take k) ps[k].1 ps[k].2.1).1, .string (firstP (ps.take k) ps[k].1 ps[k].2.1).2.1, .string (firstP (ps.take k) ps[k].1 ps[k].2.1).2.2] 36)) := c1.alloc (c1.size) _
      have hown2 : (w1.alloc (Obj.cells #[.string (firstP (ps.take k) ps[k].1 ps[k].2.1).1, .string (firstP (ps.take k) ps[k].1 ps[k].2.1).2.1, .string (firstP (ps.take k) ps[k].1 ps[k].2.1).2.2] 36)).ownsMap Try.prog 79 pElem w.heap.size k D := hown1.alloc _
      have HC2 := hide (keep3M ((Below.refl w1.heap.size w1).alloc (Nat.le_refl _) (Obj.cells #[.string (firstP (ps.take k) ps[k].1 ps[k].2.1).1, .string (firstP (ps.take k) ps[k].1 ps[k].2.1).2.1, .string (firstP (ps.take k) ps[k].1 ps[k].2.1).2.2] 36)) HC1.out)
      generalize hq : firstP (ps.take k) ps[k].1 ps[k].2.1 = q at *
      have HQ := hide hq
      have hopen : ∀ {ops : Array Oper} {rest : List Oper} {o : Oper} {a : Act} {Q : Exit → Act → World → Prop} (hg : o.guard = none) (m i : Operand) (hop : o.op = Op.lookup 76 m i true) (hm : a.eval m = .map (some w.heap.size)) (hi : a.eval i = .agg #[.string ps[k].1, .string ps[k].2.1]) (hK : wpList Try.prog ops Q rest (a.put o.dst (.tuple #[.agg #[.string q.1, .string q.2.1, .string q.2.2], .bool z])) w1), wpList Try.prog ops Q (o :: rest) a w1 := by
        intro ops rest o a Q hg m i hop hm hi hK
        refine wpList_lookup_prop w1 hg m i hop w.heap.size k D (ps.take k) hm hown1 hkn.out _ _ hs1 hs2 hi ?_
        rw [HQ.out, HZ.out]
        exact hK
      have HOPEN := @hide _ @hopen
      clear hq hz hopen
      cases z
      · go_wp2_with (at_lookup; refine HOPEN.out rfl _ _ rfl rfl rfl ?_)
        have hHeld0 := HC2.out
        go_wp2
        refine wp_region_held_drew (S := (fun W => W.cell? ⟨wr.heap.size, 0, none⟩ = some (.string ps[k].1) ∧ W.cell? ⟨wr.heap.size, 1, none⟩ = some (.string ps[k].2.1) ∧ W.cell? ⟨wr.heap.size, 2, none⟩ = some (.string ps[k].2.2))) (by kernel_rfl) (by exact hHeld0) (fun hHeld => ?_)
        simp only [List.size_toArray, List.length_cons, List.length_nil, Nat.reduceAdd, Array.replicate_succ, Array.replicate_zero, List.push_toArray, List.nil_append, List.cons_append]
        refine wpAnyH_take (i := 0) (v := ?_) rfl (by kernel_rfl) (by kernel_rfl) (by kernel_rfl) (fun _ _ _ h => h) (Or.inl ⟨by rfl, ?_⟩) (by assumption) ?_
        rotate_left
        · intro w hSw; (try dsimp only at hSw); go_simp; try with_reducible rfl
        simp only [Act.put, List.getElem_toArray, List.getElem_cons_zero, List.setIfInBounds_toArray, List.set_cons_zero]
        refine wpAnyH_take (i := 1) (v := ?_) rfl (by kernel_rfl) (by kernel_rfl) (by kernel_rfl) (fun _ _ _ h => h) (Or.inl ⟨by rfl, ?_⟩) (by assumption) ?_
        rotate_left
        · intro w hSw; (try dsimp only at hSw); go_simp; try with_reducible rfl
        simp only [Act.put, List.getElem_toArray, List.getElem_cons_succ, List.getElem_cons_zero, List.setIfInBounds_toArray, List.set_cons_succ, List.set_cons_zero]
        refine wpAnyH_take (i := 3) (v := ?_) rfl (by kernel_rfl) (by kernel_rfl) (by kernel_rfl) (fun _ _ _ h => h) (Or.inl ⟨by rfl, ?_⟩) (by assumption) ?_
        rotate_left
        · intro w hSw; (try dsimp only at hSw); go_simp; try with_reducible rfl
        simp only [Act.put, List.getElem_toArray, List.getElem_cons_succ, List.getElem_cons_zero, List.setIfInBounds_toArray, List.set_cons_succ, List.set_cons_zero]
        refine wpAnyH_ready (rs := [2]) (by kernel_rfl) (by simp) ?_
        refine AllReadyH.cons rfl (fun K hK => ?_) AllReadyH.nil
        go_simp
        refine (HNM.out _).mono ?_
        rintro e w3 ⟨rfl, b3⟩
        refine hK.out _ _ (keep3M b3 hHeld) (fun hHeld2 => ?_)
        clear hK K hHeld
        have hHeld := hHeld2
        clear hHeld2
        simp only [List.setIfInBounds_toArray, List.set_cons_succ, List.set_cons_zero]
        refine wpAnyH_ready (rs := [4]) (by kernel_rfl) (by simp) ?_
        refine AllReadyH.cons rfl (fun K hK => ?_) AllReadyH.nil
        go_simp
        have hown3 := own_belowM hown2 (below_from_drewM b3)
        obtain ⟨w4, hrun4, hown4, hturn4⟩ := hown3.store lawName Try.underlying76 hkm (key_name _ _ hs1 hs2) (pElem_mk ps[k].1 ps[k].2.1 ps[k].2.2)
        have c4 := (c2.trans ((below_from_drewM b3).mono c2.size)).grown hturn4.grown (c2.trans ((below_from_drewM b3).mono c2.size)).size (fun j hj => by cases hj; exact Nat.le_refl _)
        simp only [hrun4, Result.andThen]
        refine hK.out _ _ (keep3T hturn4 hHeld hbne) (fun hHeld2 => ?_)
        clear hK K hHeld
        have hHeld := hHeld2
        clear hHeld2
        simp only [List.setIfInBounds_toArray, List.set_cons_succ, List.set_cons_zero]
        refine wpAnyH_done (by kernel_rfl) ?_ _
        clear hHeld
        go_wp2
        go_roundw
        case rel => exact ⟨k + 1, _, by omega, by go_num, hown4, HNEW.out HZ.out, c4⟩
        case measure => simp [intOf]; omega
      · go_wp2_with (at_lookup; refine HOPEN.out rfl _ _ rfl rfl rfl ?_)
        go_roundw
        case rel => exact ⟨k + 1, _, by omega, by go_num, hown2.mono (by omega), HOLD.out HZ.out, c2⟩
        case measure => simp [intOf]; omega
    · have HK := hide hkn.out
      rw [List.take_of_length_le (by omega)] at HK
      go_wp2
      go_ret
      exact ⟨rfl, ⟨k, D, hown, HK.out⟩, hbe⟩
end Go.Proofs.Ytkgdmlfdlkmojaa
