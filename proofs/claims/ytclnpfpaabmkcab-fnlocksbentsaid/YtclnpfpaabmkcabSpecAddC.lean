/-
  What spec.AddLock does.
-/
import Derived.Test.YtclnpfpaabmkcabSpecPl
import Derived.Test.YtclnpfpaabmkcabSpecLocksOk
import Derived.Test.YtclnpfpaabmkcabRowC
import Derived.Deep.RegionHeld3
namespace Go.Proofs.Ytclnpfpaabmkcab
open Go.RowKit M
set_option linter.unusedVariables false

theorem LkAt.hp {w w' : World} {b o : Nat} {r : Lk} {pa : Option Addr} {pc : Nat} (h : LkAt w b o r pa pc) (e : w'.heap[b]? = w.heap[b]?) : LkAt w' b o r pa pc :=
  h.of (fun o' => by simp only [World.cell?, e])

set_option maxRecDepth 100000 in
set_option maxHeartbeats 8000000 in
theorem specAddC_any (a : Option Addr) (l : List Lk) (cap B : Nat) (x : Lk) (xa : Option Addr) (xc : Nat) (w : World) (h : Lks w B a l) (hx : LkIn w B x xa xc) (hB : B ≤ w.heap.size) (hl : l.length ≤ 1048576) (hnn : a = none → cap = 0) (hs : ∀ r ∈ l ++ [x], r.pa.length ≤ 1048576) (hsh : ShortK (l ++ [x])) :
    Calls Try.prog 98 #[.slice a l.length cap, .agg #[.int .i64 x.tk, .slice xa x.pa.length xc, .bool x.de, .bool x.sh, .int .i64 x.un]] w fun e w' => (∃ (g n c : Nat), e = .returned (.tuple #[.slice (some ⟨g, 0, none⟩) n c, .bool (locksB (l ++ [x]))]) ∧ n = (addL l x).length ∧ n ≤ c ∧ c ≤ maxLen ∧ RowC w' w.heap.size g c (addL l x)) ∧ Below w.heap.size w w' := by
  have hb0 := (Below.refl w.heap.size w).alloc (Nat.le_refl _) (Obj.cells #[.int .i64 x.tk, .slice xa x.pa.length xc, .bool x.de, .bool x.sh, .int .i64 x.un] 26)
  have HX0 := hide (BoxV.made w [.int .i64 x.tk, .slice xa x.pa.length xc, .bool x.de, .bool x.sh, .int .i64 x.un] 26)
  have HQ := hide (l13Copy_own a l cap B _ (h.below hb0 hB) (Nat.le_trans hB hb0.size) (by omega) (fun r hr => hs r (List.mem_append_left _ hr)))
  obtain ⟨ts, hts, hin, hat⟩ := h.ts
  have hl2 : ts.length = l.length := by rw [← hts, List.length_map]
  have HB0 := hide hb0
  have HIN := hide hin
  have HTS := hide hts
  have HL := hide hl2
  have HXI := hide hx
  have HSX := hide hs
  have HSH := hide hsh
  have HNN := hide hnn
  have HAT0 := hide hat
  have hz0 : (w.alloc (Obj.cells #[.int .i64 x.tk, .slice xa x.pa.length xc, .bool x.de, .bool x.sh, .int .i64 x.un] 26)).heap.size = w.heap.size + 1 := by simp
  have HZ0 := hide hz0
  clear hb0 h hs hx hsh hin hts hl2 hnn hat hz0
  go_enter Try.func98, Try.ntmps98
  go_wp2_with fail
  refine HQ.out.mono ?_
  rintro e w1 ⟨⟨g0, c0, ts0, rfl, hts0, hrow0, hp0, hg0, hc01, hc02, how0⟩, b1⟩
  have hx1 := HX0.out.next b1
  have hw1 := HB0.out.trans (b1.mono HB0.out.size)
  have hl0 : RowC w1 w.heap.size g0 c0 l := RowC.mono ⟨ts0, hts0, hrow0, hp0, hg0, how0⟩ (by rw [HZ0.out]; omega)
  have HC0 := hide (And.intro hc01 hc02)
  have HX1 := hide hx1.drew
  obtain ⟨wd, hwd⟩ : ∃ W, w1.drew = W := ⟨_, rfl⟩
  have HXD := hide (show BoxV wd w.heap.size [.int .i64 x.tk, .slice xa x.pa.length xc, .bool x.de, .bool x.sh, .int .i64 x.un] by rw [← hwd]; exact hx1.drew)
  have HWD := hide (show Below w.heap.size w wd by rw [← hwd]; exact below_drewL hw1)
  have HLK0 := hide (show RowC wd w.heap.size g0 c0 l by rw [← hwd]; exact hl0.drew)
  have HB0' := HB0
  have HB1' := hide (Below.refl wd.heap.size wd)
  clear hts0 hrow0 hp0 hg0 hc01 hc02 how0 b1 hx1 hw1 hl0 HB0 HQ HX0
  have HB0 := HB1'
  clear HB1'
  by_cases h0 : 0 < l.length
  · obtain ⟨b, o, rfl, hbB, hat⟩ := HAT0.out h0
    have HAT := hide (fun j (hj : j < ts.length) => (hat j hj).of (w' := wd) (fun o' => HWD.out.cell (p := ⟨b, o', none⟩) (by show b < w.heap.size; omega)))
    have hbd : b < wd.heap.size := by have := HWD.out.size; omega
    obtain ⟨TSV, hTSV⟩ : ∃ T : List LkT, T = [] ++ ts := ⟨_, rfl⟩
    have HTSM := hide (show TSV.map (·.r) = l by rw [hTSV]; exact HTS.out)
    have HTL := hide (show TSV.length = l.length by rw [hTSV]; exact HL.out)
    have HIN := hide (show InV w B TSV by rw [hTSV]; exact HIN.out)
    clear hat HAT0
    go_wp2
    refine wp_region_held_drew (S := (fun W => BoxV W w.heap.size [.int .i64 x.tk, .slice xa x.pa.length xc, .bool x.de, .bool x.sh, .int .i64 x.un])) (by kernel_rfl) HX1.out (fun hHeld => ?_)
    rw [hwd] at hHeld
    rw [hwd]
    clear hwd
    simp only [List.size_toArray, List.length_cons, List.length_nil, Nat.reduceAdd, Array.replicate_succ, Array.replicate_zero, List.push_toArray, List.nil_append, List.cons_append]
    refine wpAnyH_take (i := 1) (v := ?_) rfl (by kernel_rfl) (by kernel_rfl) (by kernel_rfl) (fun _ _ _ h => h) (Or.inl ⟨by rfl, ?_⟩) (by assumption) ?_
    rotate_left
    · intro w hSw; (try dsimp only at hSw); obtain ⟨_, hq⟩ := hSw; have a0 := (hq 0 _ rfl).1; have a1 := (hq 1 _ rfl).1; have a2 := (hq 2 _ rfl).1; have a3 := (hq 3 _ rfl).1; have a4 := (hq 4 _ rfl).1; go_simp; try with_reducible rfl
    simp only [Act.put, List.getElem_toArray, List.getElem_cons_succ, List.getElem_cons_zero, List.setIfInBounds_toArray, List.set_cons_succ, List.set_cons_zero]
    refine wpAnyH_take (i := 3) (v := ?_) rfl (by kernel_rfl) (by kernel_rfl) (by kernel_rfl) (fun _ _ _ h => h) (Or.inl ⟨by rfl, ?_⟩) (by assumption) ?_
    rotate_left
    · intro w hSw; (try dsimp only at hSw); obtain ⟨_, hq⟩ := hSw; have a0 := (hq 0 _ rfl).1; have a1 := (hq 1 _ rfl).1; have a2 := (hq 2 _ rfl).1; have a3 := (hq 3 _ rfl).1; have a4 := (hq 4 _ rfl).1; go_simp; try with_reducible rfl
    simp only [Act.put, List.getElem_toArray, List.getElem_cons_succ, List.getElem_cons_zero, List.setIfInBounds_toArray, List.set_cons_succ, List.set_cons_zero]
    refine wpAnyH_ready (rs := [0, 4]) (by kernel_rfl) (by simp) ?_
    refine AllReadyH.cons rfl (fun K hK => ?_) (AllReadyH.cons rfl (fun K hK => ?_) AllReadyH.nil)
    · go_simp
      have HB1 := hide (show Below wd.heap.size wd (wd.alloc (Obj.cells #[] 26)) from HB0.out.alloc HB0.out.size _)
      have HO1 := hide (show OwnT (wd.alloc (Obj.cells #[] 26)) wd.heap.size (.slice (some ⟨wd.heap.size, 0, none⟩) 0 0) [] by have h := OwnT.made wd wd.heap.size HB0.out.size; simpa using h)
      refine hK.out _ _ (hHeld.alloc _) (fun hHeld2 => ?_)
      clear hK K hHeld
      have hHeld := hHeld2
      clear hHeld2
      simp only [List.setIfInBounds_toArray, List.set_cons_zero]
      refine wpAnyH_ready (rs := [2, 4]) (by kernel_rfl) (by simp) ?_
      refine AllReadyH.cons rfl (fun K hK => ?_) (AllReadyH.cons rfl (fun K hK => ?_) AllReadyH.nil)
      · refine step_append_lkT 32 Try.underlying32 rfl _ _ rfl wd.heap.size _ [] (by first | rfl | (simp [Act.eval])) HO1.out b o l.length cap ts (by first | rfl | (simp [Act.eval])) HL.out.symm (fun j hj => (HAT.out j hj).of (fun o' => HB1.out.cell (p := ⟨b, o', none⟩) (by omega))) (by have := HL.out; simp; omega) HB1.out.size (by have := HL.out; omega) ?_
        intro g2 n2 c2 w2 hn2 hO2 hb2 hg2 hat2
        clear hn2
        rw [← hTSV] at hO2
        have HO2 := hide hO2
        have HB2 := hide (HB1.out.trans hb2)
        have hR2 := hO2.row
        have hh2 : BoxV w2 w.heap.size [.int .i64 x.tk, .slice xa x.pa.length xc, .bool x.de, .bool x.sh, .int .i64 x.un] := ⟨Nat.lt_of_lt_of_le HXD.out.1 HB2.out.size, fun i v hv => by rw [HB2.out.cell (p := ⟨w.heap.size, i, none⟩) HXD.out.1, HB2.out.frozen (p := ⟨w.heap.size, i, none⟩) HXD.out.1]; exact HXD.out.2 i v hv⟩
        clear hO2 hb2 hg2 hat2 hR2
        refine hK.out _ _ hh2 (fun hHeld2 => ?_)
        clear hh2
        clear hK K hHeld
        have hHeld := hHeld2
        clear hHeld2
        simp only [List.setIfInBounds_toArray, List.set_cons_succ, List.set_cons_zero]
        refine wpAnyH_ready (rs := [4]) (by kernel_rfl) (by simp) ?_
        refine AllReadyH.cons rfl (fun K hK => ?_) AllReadyH.nil
        go_simp
        have HB3 := hide (show Below wd.heap.size wd (w2.alloc (Obj.cells #[.int .i64 x.tk, .slice xa x.pa.length xc, .bool x.de, .bool x.sh, .int .i64 x.un] 26)) from HB2.out.alloc HB2.out.size _)
        have HN3 := hide (show LkAt (w2.alloc (Obj.cells #[.int .i64 x.tk, .slice xa x.pa.length xc, .bool x.de, .bool x.sh, .int .i64 x.un] 26)) (w2.heap.size) 0 x xa xc by have h : LkAt (w2.alloc (Obj.cells #[.int .i64 x.tk, .slice xa x.pa.length xc, .bool x.de, .bool x.sh, .int .i64 x.un] 26)) w2.heap.size 0 x xa xc := (by refine ⟨?_, ?_, ?_, ?_, ?_⟩ <;> simp [go_sem]); simpa using h)
        have HO3 := hide (HO2.out.next ((Below.refl w2.heap.size w2).alloc (Nat.le_refl _) (Obj.cells #[.int .i64 x.tk, .slice xa x.pa.length xc, .bool x.de, .bool x.sh, .int .i64 x.un] 26)))
        refine hK.out _ _ (hHeld.alloc _) (fun hHeld2 => ?_)
        clear hK K hHeld
        have hHeld := hHeld2
        clear hHeld2
        simp only [List.setIfInBounds_toArray, List.set_cons_succ, List.set_cons_zero]
        refine wpAnyH_ready (rs := [5]) (by kernel_rfl) (by simp) ?_
        refine AllReadyH.cons rfl (fun K hK => ?_) AllReadyH.nil
        refine step_append_lkT 32 Try.underlying32 rfl _ _ rfl wd.heap.size _ TSV (by first | rfl | (simp [Act.eval])) HO3.out (w2.heap.size) 0 1 1 [⟨x, xa, xc⟩] (by first | rfl | (simp [Act.eval])) rfl (fun j hj => by have e : j = 0 := (by simp at hj; exact hj); subst e; exact HN3.out) (by have := HTL.out; simp; omega) (by have := HB3.out.size; simp at this ⊢; omega) (by simp) ?_
        intro g5 n5 c5 w5 hn5 hO5 hb5 hg5 _
        obtain ⟨r1, r2, r3, r4, r5⟩ := hO5.row
        have HB4 := hide (HB3.out.trans hb5)
        have HBW := hide (HWD.out.trans (HB4.out.mono (by have := HWD.out.size; omega)))
        have hlk := lks_of_rowV (show (TSV ++ [(⟨x, xa, xc⟩ : LkT)]).map (·.r) = l ++ [x] by rw [List.map_append, HTSM.out]; rfl) r2 (fun t ht => by
          rcases List.mem_append.1 ht with h | h
          · exact (HIN.out t h).below HBW.out hB
          · obtain rfl := List.mem_singleton.1 h; exact HXI.out.below HBW.out hB) (Nat.le_trans hB HBW.out.size)
        have hn6 : n5 = (l ++ [x]).length := by rw [hn5, List.length_append, HTL.out, List.length_append]; rfl
        have HQ2 := l13Copy_own (some ⟨g5, 0, none⟩) (l ++ [x]) c5 w5.heap.size w5 hlk (Nat.le_refl _) (by simp; omega) HSX.out
        rw [← hn6] at HQ2
        have HN6 := hide hn6
        have HQ2 := hide HQ2
        have hh2 : BoxV w5 w.heap.size [.int .i64 x.tk, .slice xa x.pa.length xc, .bool x.de, .bool x.sh, .int .i64 x.un] := ⟨Nat.lt_of_lt_of_le HXD.out.1 HB4.out.size, fun i v hv => by rw [HB4.out.cell (p := ⟨w.heap.size, i, none⟩) HXD.out.1, HB4.out.frozen (p := ⟨w.heap.size, i, none⟩) HXD.out.1]; exact HXD.out.2 i v hv⟩
        clear hO5 hb5 hg5 r1 r2 r3 r4 r5 hlk hn5 hn6
        refine hK.out _ _ hh2 (fun hHeld2 => ?_)
        clear hh2
        clear hK K hHeld
        have hHeld := hHeld2
        clear hHeld2
        simp only [List.setIfInBounds_toArray, List.set_cons_succ, List.set_cons_zero]
        refine wpAnyH_ready (rs := [6]) (by kernel_rfl) (by simp) ?_
        refine AllReadyH.cons rfl (fun K hK => ?_) AllReadyH.nil
        go_simp
        refine HQ2.out.mono ?_
        rintro e w6 ⟨⟨g6, c6, ts6, rfl, hts6, hrow6, hp6, hg6, hc61, hc62, how6⟩, b6⟩
        have HB6 := hide (HB4.out.trans (b6.mono HB4.out.size))
        have HBW6 := hide (HBW.out.trans (b6.mono HBW.out.size))
        have HL6 := hide (RowC.mono (show RowC w6 w5.heap.size g6 c6 (l ++ [x]) from ⟨ts6, hts6, hrow6, hp6, hg6, by rw [← HN6.out]; exact how6⟩) (Nat.le_trans HWD.out.size HB4.out.size))
        have HC6 := hide (And.intro hc61 hc62)
        have hh2 : BoxV w6 w.heap.size [.int .i64 x.tk, .slice xa x.pa.length xc, .bool x.de, .bool x.sh, .int .i64 x.un] := ⟨Nat.lt_of_lt_of_le HXD.out.1 HB6.out.size, fun i v hv => by rw [HB6.out.cell (p := ⟨w.heap.size, i, none⟩) HXD.out.1, HB6.out.frozen (p := ⟨w.heap.size, i, none⟩) HXD.out.1]; exact HXD.out.2 i v hv⟩
        clear hts6 hrow6 hp6 hg6 hc61 hc62 how6 b6 HQ2
        refine hK.out _ _ hh2 (fun hHeld2 => ?_)
        clear hh2
        clear hK K hHeld
        have hHeld := hHeld2
        clear hHeld2
        simp only [List.setIfInBounds_toArray, List.set_cons_succ, List.set_cons_zero]
        refine wpAnyH_take (i := 7) (v := ?_) rfl (by kernel_rfl) (by kernel_rfl) (by kernel_rfl) (fun _ _ _ h => h) (Or.inl ⟨by rfl, ?_⟩) (by assumption) ?_
        rotate_left
        · intro w hSw; (try dsimp only at hSw); obtain ⟨_, hq⟩ := hSw; have a0 := (hq 0 _ rfl).1; have a1 := (hq 1 _ rfl).1; have a2 := (hq 2 _ rfl).1; have a3 := (hq 3 _ rfl).1; have a4 := (hq 4 _ rfl).1; go_simp; try with_reducible rfl
        simp only [Act.put, List.getElem_toArray, List.getElem_cons_succ, List.getElem_cons_zero, List.setIfInBounds_toArray, List.set_cons_succ, List.set_cons_zero]
        refine wpAnyH_done (by kernel_rfl) ?_ _
        clear hHeld
        have HK := specLocksOk_any (some ⟨g6, 0, none⟩) (l ++ [x]) c6 w6.heap.size w6 HL6.out.lks (Nat.le_refl _) HSH.out (by simp; unfold maxLen; omega)
        rw [← HN6.out] at HK
        have HK := hide HK
        have HL0 := hide (HLK0.out.next HB6.out)
        obtain ⟨z, hz⟩ : ∃ z, locksB (l ++ [x]) = z := ⟨_, rfl⟩
        rw [hz] at HK
        have HZ := hide hz
        clear hz
        go_wp2_with fail
        refine HK.out.mono ?_
        rintro e w7 ⟨rfl, b7⟩
        have HC7 := hide (HBW6.out.trans (b7.mono HBW6.out.size))
        have HA7 := hide (HL6.out.next b7)
        have HA0 := hide (HL0.out.next b7)
        clear b7 HK HL6 HL0
        cases z
        · have HE := hide (show addL l x = l by unfold addL; rw [HZ.out]; rfl)
          go_wp2
          go_ret2
          rw [HZ.out, HE.out]
          exact ⟨⟨g0, l.length, c0, rfl, rfl, HC0.out.1, HC0.out.2, HA0.out⟩, HC7.out⟩
        · have HE := hide (show addL l x = l ++ [x] by unfold addL; rw [HZ.out]; rfl)
          go_wp2
          go_ret2
          rw [HZ.out, HE.out]
          exact ⟨⟨g6, n5, c6, rfl, HN6.out, HC6.out.1, HC6.out.2, HA7.out⟩, HC7.out⟩
      · go_simp
        have HB2 := hide (show Below wd.heap.size wd ((wd.alloc (Obj.cells #[] 26)).alloc (Obj.cells #[.int .i64 x.tk, .slice xa x.pa.length xc, .bool x.de, .bool x.sh, .int .i64 x.un] 26)) from HB1.out.alloc HB1.out.size _)
        have HN2 := hide (show LkAt ((wd.alloc (Obj.cells #[] 26)).alloc (Obj.cells #[.int .i64 x.tk, .slice xa x.pa.length xc, .bool x.de, .bool x.sh, .int .i64 x.un] 26)) (wd.heap.size + 1) 0 x xa xc by have h : LkAt ((wd.alloc (Obj.cells #[] 26)).alloc (Obj.cells #[.int .i64 x.tk, .slice xa x.pa.length xc, .bool x.de, .bool x.sh, .int .i64 x.un] 26)) (wd.alloc (Obj.cells #[] 26)).heap.size 0 x xa xc := (by refine ⟨?_, ?_, ?_, ?_, ?_⟩ <;> simp [go_sem]); simpa using h)
        have HO2 := hide (HO1.out.next ((Below.refl (wd.alloc (Obj.cells #[] 26)).heap.size (wd.alloc (Obj.cells #[] 26))).alloc (Nat.le_refl _) (Obj.cells #[.int .i64 x.tk, .slice xa x.pa.length xc, .bool x.de, .bool x.sh, .int .i64 x.un] 26)))
        refine hK.out _ _ (hHeld.alloc _) (fun hHeld2 => ?_)
        clear hK K hHeld
        have hHeld := hHeld2
        clear hHeld2
        simp only [List.setIfInBounds_toArray, List.set_cons_succ, List.set_cons_zero]
        refine wpAnyH_ready (rs := [2]) (by kernel_rfl) (by simp) ?_
        refine AllReadyH.cons rfl (fun K hK => ?_) AllReadyH.nil
        refine step_append_lkT 32 Try.underlying32 rfl _ _ rfl wd.heap.size _ [] (by first | rfl | (simp [Act.eval])) HO2.out b o l.length cap ts (by first | rfl | (simp [Act.eval])) HL.out.symm (fun j hj => (HAT.out j hj).of (fun o' => HB2.out.cell (p := ⟨b, o', none⟩) (by omega))) (by have := HL.out; simp; omega) HB2.out.size (by have := HL.out; omega) ?_
        intro g2 n2 c2 w2 hn2 hO2 hb2 hg2 hat2
        clear hn2
        rw [← hTSV] at hO2
        have HO3 := hide hO2
        have HB3 := hide (HB2.out.trans hb2)
        have HN3 := hide (HN2.out.hp (hg2.block _ (by first | (simp; done) | (simp; omega)) (fun e => by have e2 := Option.some.inj e; simp at e2)))
        have hR2 := hO2.row
        have hh2 : BoxV w2 w.heap.size [.int .i64 x.tk, .slice xa x.pa.length xc, .bool x.de, .bool x.sh, .int .i64 x.un] := ⟨Nat.lt_of_lt_of_le HXD.out.1 HB3.out.size, fun i v hv => by rw [HB3.out.cell (p := ⟨w.heap.size, i, none⟩) HXD.out.1, HB3.out.frozen (p := ⟨w.heap.size, i, none⟩) HXD.out.1]; exact HXD.out.2 i v hv⟩
        clear hO2 hb2 hg2 hat2 hR2
        refine hK.out _ _ hh2 (fun hHeld2 => ?_)
        clear hh2
        clear hK K hHeld
        have hHeld := hHeld2
        clear hHeld2
        simp only [List.setIfInBounds_toArray, List.set_cons_succ, List.set_cons_zero]
        refine wpAnyH_ready (rs := [5]) (by kernel_rfl) (by simp) ?_
        refine AllReadyH.cons rfl (fun K hK => ?_) AllReadyH.nil
        refine step_append_lkT 32 Try.underlying32 rfl _ _ rfl wd.heap.size _ TSV (by first | rfl | (simp [Act.eval])) HO3.out (wd.heap.size + 1) 0 1 1 [⟨x, xa, xc⟩] (by first | rfl | (simp [Act.eval])) rfl (fun j hj => by have e : j = 0 := (by simp at hj; exact hj); subst e; exact HN3.out) (by have := HTL.out; simp; omega) (by have := HB3.out.size; simp at this ⊢; omega) (by simp) ?_
        intro g5 n5 c5 w5 hn5 hO5 hb5 hg5 _
        obtain ⟨r1, r2, r3, r4, r5⟩ := hO5.row
        have HB4 := hide (HB3.out.trans hb5)
        have HBW := hide (HWD.out.trans (HB4.out.mono (by have := HWD.out.size; omega)))
        have hlk := lks_of_rowV (show (TSV ++ [(⟨x, xa, xc⟩ : LkT)]).map (·.r) = l ++ [x] by rw [List.map_append, HTSM.out]; rfl) r2 (fun t ht => by
          rcases List.mem_append.1 ht with h | h
          · exact (HIN.out t h).below HBW.out hB
          · obtain rfl := List.mem_singleton.1 h; exact HXI.out.below HBW.out hB) (Nat.le_trans hB HBW.out.size)
        have hn6 : n5 = (l ++ [x]).length := by rw [hn5, List.length_append, HTL.out, List.length_append]; rfl
        have HQ2 := l13Copy_own (some ⟨g5, 0, none⟩) (l ++ [x]) c5 w5.heap.size w5 hlk (Nat.le_refl _) (by simp; omega) HSX.out
        rw [← hn6] at HQ2
        have HN6 := hide hn6
        have HQ2 := hide HQ2
        have hh2 : BoxV w5 w.heap.size [.int .i64 x.tk, .slice xa x.pa.length xc, .bool x.de, .bool x.sh, .int .i64 x.un] := ⟨Nat.lt_of_lt_of_le HXD.out.1 HB4.out.size, fun i v hv => by rw [HB4.out.cell (p := ⟨w.heap.size, i, none⟩) HXD.out.1, HB4.out.frozen (p := ⟨w.heap.size, i, none⟩) HXD.out.1]; exact HXD.out.2 i v hv⟩
        clear hO5 hb5 hg5 r1 r2 r3 r4 r5 hlk hn5 hn6
        refine hK.out _ _ hh2 (fun hHeld2 => ?_)
        clear hh2
        clear hK K hHeld
        have hHeld := hHeld2
        clear hHeld2
        simp only [List.setIfInBounds_toArray, List.set_cons_succ, List.set_cons_zero]
        refine wpAnyH_ready (rs := [6]) (by kernel_rfl) (by simp) ?_
        refine AllReadyH.cons rfl (fun K hK => ?_) AllReadyH.nil
        go_simp
        refine HQ2.out.mono ?_
        rintro e w6 ⟨⟨g6, c6, ts6, rfl, hts6, hrow6, hp6, hg6, hc61, hc62, how6⟩, b6⟩
        have HB6 := hide (HB4.out.trans (b6.mono HB4.out.size))
        have HBW6 := hide (HBW.out.trans (b6.mono HBW.out.size))
        have HL6 := hide (RowC.mono (show RowC w6 w5.heap.size g6 c6 (l ++ [x]) from ⟨ts6, hts6, hrow6, hp6, hg6, by rw [← HN6.out]; exact how6⟩) (Nat.le_trans HWD.out.size HB4.out.size))
        have HC6 := hide (And.intro hc61 hc62)
        have hh2 : BoxV w6 w.heap.size [.int .i64 x.tk, .slice xa x.pa.length xc, .bool x.de, .bool x.sh, .int .i64 x.un] := ⟨Nat.lt_of_lt_of_le HXD.out.1 HB6.out.size, fun i v hv => by rw [HB6.out.cell (p := ⟨w.heap.size, i, none⟩) HXD.out.1, HB6.out.frozen (p := ⟨w.heap.size, i, none⟩) HXD.out.1]; exact HXD.out.2 i v hv⟩
        clear hts6 hrow6 hp6 hg6 hc61 hc62 how6 b6 HQ2
        refine hK.out _ _ hh2 (fun hHeld2 => ?_)
        clear hh2
        clear hK K hHeld
        have hHeld := hHeld2
        clear hHeld2
        simp only [List.setIfInBounds_toArray, List.set_cons_succ, List.set_cons_zero]
        refine wpAnyH_take (i := 7) (v := ?_) rfl (by kernel_rfl) (by kernel_rfl) (by kernel_rfl) (fun _ _ _ h => h) (Or.inl ⟨by rfl, ?_⟩) (by assumption) ?_
        rotate_left
        · intro w hSw; (try dsimp only at hSw); obtain ⟨_, hq⟩ := hSw; have a0 := (hq 0 _ rfl).1; have a1 := (hq 1 _ rfl).1; have a2 := (hq 2 _ rfl).1; have a3 := (hq 3 _ rfl).1; have a4 := (hq 4 _ rfl).1; go_simp; try with_reducible rfl
        simp only [Act.put, List.getElem_toArray, List.getElem_cons_succ, List.getElem_cons_zero, List.setIfInBounds_toArray, List.set_cons_succ, List.set_cons_zero]
        refine wpAnyH_done (by kernel_rfl) ?_ _
        clear hHeld
        have HK := specLocksOk_any (some ⟨g6, 0, none⟩) (l ++ [x]) c6 w6.heap.size w6 HL6.out.lks (Nat.le_refl _) HSH.out (by simp; unfold maxLen; omega)
        rw [← HN6.out] at HK
        have HK := hide HK
        have HL0 := hide (HLK0.out.next HB6.out)
        obtain ⟨z, hz⟩ : ∃ z, locksB (l ++ [x]) = z := ⟨_, rfl⟩
        rw [hz] at HK
        have HZ := hide hz
        clear hz
        go_wp2_with fail
        refine HK.out.mono ?_
        rintro e w7 ⟨rfl, b7⟩
        have HC7 := hide (HBW6.out.trans (b7.mono HBW6.out.size))
        have HA7 := hide (HL6.out.next b7)
        have HA0 := hide (HL0.out.next b7)
        clear b7 HK HL6 HL0
        cases z
        · have HE := hide (show addL l x = l by unfold addL; rw [HZ.out]; rfl)
          go_wp2
          go_ret2
          rw [HZ.out, HE.out]
          exact ⟨⟨g0, l.length, c0, rfl, rfl, HC0.out.1, HC0.out.2, HA0.out⟩, HC7.out⟩
        · have HE := hide (show addL l x = l ++ [x] by unfold addL; rw [HZ.out]; rfl)
          go_wp2
          go_ret2
          rw [HZ.out, HE.out]
          exact ⟨⟨g6, n5, c6, rfl, HN6.out, HC6.out.1, HC6.out.2, HA7.out⟩, HC7.out⟩
    · go_simp
      have HB1 := hide (show Below wd.heap.size wd (wd.alloc (Obj.cells #[.int .i64 x.tk, .slice xa x.pa.length xc, .bool x.de, .bool x.sh, .int .i64 x.un] 26)) from HB0.out.alloc HB0.out.size _)
      have HN1 := hide (show LkAt (wd.alloc (Obj.cells #[.int .i64 x.tk, .slice xa x.pa.length xc, .bool x.de, .bool x.sh, .int .i64 x.un] 26)) (wd.heap.size) 0 x xa xc by have h : LkAt (wd.alloc (Obj.cells #[.int .i64 x.tk, .slice xa x.pa.length xc, .bool x.de, .bool x.sh, .int .i64 x.un] 26)) wd.heap.size 0 x xa xc := (by refine ⟨?_, ?_, ?_, ?_, ?_⟩ <;> simp [go_sem]); simpa using h)
      refine hK.out _ _ (hHeld.alloc _) (fun hHeld2 => ?_)
      clear hK K hHeld
      have hHeld := hHeld2
      clear hHeld2
      simp only [List.setIfInBounds_toArray, List.set_cons_succ, List.set_cons_zero]
      refine wpAnyH_ready (rs := [0]) (by kernel_rfl) (by simp) ?_
      refine AllReadyH.cons rfl (fun K hK => ?_) AllReadyH.nil
      go_simp
      have HB2 := hide (show Below wd.heap.size wd ((wd.alloc (Obj.cells #[.int .i64 x.tk, .slice xa x.pa.length xc, .bool x.de, .bool x.sh, .int .i64 x.un] 26)).alloc (Obj.cells #[] 26)) from HB1.out.alloc HB1.out.size _)
      have HO2 := hide (show OwnT ((wd.alloc (Obj.cells #[.int .i64 x.tk, .slice xa x.pa.length xc, .bool x.de, .bool x.sh, .int .i64 x.un] 26)).alloc (Obj.cells #[] 26)) wd.heap.size (.slice (some ⟨wd.heap.size + 1, 0, none⟩) 0 0) [] by have h := OwnT.made (wd.alloc (Obj.cells #[.int .i64 x.tk, .slice xa x.pa.length xc, .bool x.de, .bool x.sh, .int .i64 x.un] 26)) wd.heap.size HB1.out.size; simpa using h)
      have HN2 := hide (HN1.out.of (fun o' => ((Below.refl (wd.alloc (Obj.cells #[.int .i64 x.tk, .slice xa x.pa.length xc, .bool x.de, .bool x.sh, .int .i64 x.un] 26)).heap.size (wd.alloc (Obj.cells #[.int .i64 x.tk, .slice xa x.pa.length xc, .bool x.de, .bool x.sh, .int .i64 x.un] 26))).alloc (Nat.le_refl _) (Obj.cells #[] 26)).cell (p := ⟨wd.heap.size, o', none⟩) (by simp)))
      refine hK.out _ _ (hHeld.alloc _) (fun hHeld2 => ?_)
      clear hK K hHeld
      have hHeld := hHeld2
      clear hHeld2
      simp only [List.setIfInBounds_toArray, List.set_cons_zero]
      refine wpAnyH_ready (rs := [2]) (by kernel_rfl) (by simp) ?_
      refine AllReadyH.cons rfl (fun K hK => ?_) AllReadyH.nil
      refine step_append_lkT 32 Try.underlying32 rfl _ _ rfl wd.heap.size _ [] (by first | rfl | (simp [Act.eval])) HO2.out b o l.length cap ts (by first | rfl | (simp [Act.eval])) HL.out.symm (fun j hj => (HAT.out j hj).of (fun o' => HB2.out.cell (p := ⟨b, o', none⟩) (by omega))) (by have := HL.out; simp; omega) HB2.out.size (by have := HL.out; omega) ?_
      intro g2 n2 c2 w2 hn2 hO2 hb2 hg2 hat2
      clear hn2
      rw [← hTSV] at hO2
      have HO3 := hide hO2
      have HB3 := hide (HB2.out.trans hb2)
      have HN3 := hide (HN2.out.hp (hg2.block _ (by first | (simp; done) | (simp; omega)) (fun e => by have e2 := Option.some.inj e; simp at e2)))
      have hR2 := hO2.row
      have hh2 : BoxV w2 w.heap.size [.int .i64 x.tk, .slice xa x.pa.length xc, .bool x.de, .bool x.sh, .int .i64 x.un] := ⟨Nat.lt_of_lt_of_le HXD.out.1 HB3.out.size, fun i v hv => by rw [HB3.out.cell (p := ⟨w.heap.size, i, none⟩) HXD.out.1, HB3.out.frozen (p := ⟨w.heap.size, i, none⟩) HXD.out.1]; exact HXD.out.2 i v hv⟩
      clear hO2 hb2 hg2 hat2 hR2
      refine hK.out _ _ hh2 (fun hHeld2 => ?_)
      clear hh2
      clear hK K hHeld
      have hHeld := hHeld2
      clear hHeld2
      simp only [List.setIfInBounds_toArray, List.set_cons_succ, List.set_cons_zero]
      refine wpAnyH_ready (rs := [5]) (by kernel_rfl) (by simp) ?_
      refine AllReadyH.cons rfl (fun K hK => ?_) AllReadyH.nil
      refine step_append_lkT 32 Try.underlying32 rfl _ _ rfl wd.heap.size _ TSV (by first | rfl | (simp [Act.eval])) HO3.out (wd.heap.size) 0 1 1 [⟨x, xa, xc⟩] (by first | rfl | (simp [Act.eval])) rfl (fun j hj => by have e : j = 0 := (by simp at hj; exact hj); subst e; exact HN3.out) (by have := HTL.out; simp; omega) (by have := HB3.out.size; simp at this ⊢; omega) (by simp) ?_
      intro g5 n5 c5 w5 hn5 hO5 hb5 hg5 _
      obtain ⟨r1, r2, r3, r4, r5⟩ := hO5.row
      have HB4 := hide (HB3.out.trans hb5)
      have HBW := hide (HWD.out.trans (HB4.out.mono (by have := HWD.out.size; omega)))
      have hlk := lks_of_rowV (show (TSV ++ [(⟨x, xa, xc⟩ : LkT)]).map (·.r) = l ++ [x] by rw [List.map_append, HTSM.out]; rfl) r2 (fun t ht => by
        rcases List.mem_append.1 ht with h | h
        · exact (HIN.out t h).below HBW.out hB
        · obtain rfl := List.mem_singleton.1 h; exact HXI.out.below HBW.out hB) (Nat.le_trans hB HBW.out.size)
      have hn6 : n5 = (l ++ [x]).length := by rw [hn5, List.length_append, HTL.out, List.length_append]; rfl
      have HQ2 := l13Copy_own (some ⟨g5, 0, none⟩) (l ++ [x]) c5 w5.heap.size w5 hlk (Nat.le_refl _) (by simp; omega) HSX.out
      rw [← hn6] at HQ2
      have HN6 := hide hn6
      have HQ2 := hide HQ2
      have hh2 : BoxV w5 w.heap.size [.int .i64 x.tk, .slice xa x.pa.length xc, .bool x.de, .bool x.sh, .int .i64 x.un] := ⟨Nat.lt_of_lt_of_le HXD.out.1 HB4.out.size, fun i v hv => by rw [HB4.out.cell (p := ⟨w.heap.size, i, none⟩) HXD.out.1, HB4.out.frozen (p := ⟨w.heap.size, i, none⟩) HXD.out.1]; exact HXD.out.2 i v hv⟩
      clear hO5 hb5 hg5 r1 r2 r3 r4 r5 hlk hn5 hn6
      refine hK.out _ _ hh2 (fun hHeld2 => ?_)
      clear hh2
      clear hK K hHeld
      have hHeld := hHeld2
      clear hHeld2
      simp only [List.setIfInBounds_toArray, List.set_cons_succ, List.set_cons_zero]
      refine wpAnyH_ready (rs := [6]) (by kernel_rfl) (by simp) ?_
      refine AllReadyH.cons rfl (fun K hK => ?_) AllReadyH.nil
      go_simp
      refine HQ2.out.mono ?_
      rintro e w6 ⟨⟨g6, c6, ts6, rfl, hts6, hrow6, hp6, hg6, hc61, hc62, how6⟩, b6⟩
      have HB6 := hide (HB4.out.trans (b6.mono HB4.out.size))
      have HBW6 := hide (HBW.out.trans (b6.mono HBW.out.size))
      have HL6 := hide (RowC.mono (show RowC w6 w5.heap.size g6 c6 (l ++ [x]) from ⟨ts6, hts6, hrow6, hp6, hg6, by rw [← HN6.out]; exact how6⟩) (Nat.le_trans HWD.out.size HB4.out.size))
      have HC6 := hide (And.intro hc61 hc62)
      have hh2 : BoxV w6 w.heap.size [.int .i64 x.tk, .slice xa x.pa.length xc, .bool x.de, .bool x.sh, .int .i64 x.un] := ⟨Nat.lt_of_lt_of_le HXD.out.1 HB6.out.size, fun i v hv => by rw [HB6.out.cell (p := ⟨w.heap.size, i, none⟩) HXD.out.1, HB6.out.frozen (p := ⟨w.heap.size, i, none⟩) HXD.out.1]; exact HXD.out.2 i v hv⟩
      clear hts6 hrow6 hp6 hg6 hc61 hc62 how6 b6 HQ2
      refine hK.out _ _ hh2 (fun hHeld2 => ?_)
      clear hh2
      clear hK K hHeld
      have hHeld := hHeld2
      clear hHeld2
      simp only [List.setIfInBounds_toArray, List.set_cons_succ, List.set_cons_zero]
      refine wpAnyH_take (i := 7) (v := ?_) rfl (by kernel_rfl) (by kernel_rfl) (by kernel_rfl) (fun _ _ _ h => h) (Or.inl ⟨by rfl, ?_⟩) (by assumption) ?_
      rotate_left
      · intro w hSw; (try dsimp only at hSw); obtain ⟨_, hq⟩ := hSw; have a0 := (hq 0 _ rfl).1; have a1 := (hq 1 _ rfl).1; have a2 := (hq 2 _ rfl).1; have a3 := (hq 3 _ rfl).1; have a4 := (hq 4 _ rfl).1; go_simp; try with_reducible rfl
      simp only [Act.put, List.getElem_toArray, List.getElem_cons_succ, List.getElem_cons_zero, List.setIfInBounds_toArray, List.set_cons_succ, List.set_cons_zero]
      refine wpAnyH_done (by kernel_rfl) ?_ _
      clear hHeld
      have HK := specLocksOk_any (some ⟨g6, 0, none⟩) (l ++ [x]) c6 w6.heap.size w6 HL6.out.lks (Nat.le_refl _) HSH.out (by simp; unfold maxLen; omega)
      rw [← HN6.out] at HK
      have HK := hide HK
      have HL0 := hide (HLK0.out.next HB6.out)
      obtain ⟨z, hz⟩ : ∃ z, locksB (l ++ [x]) = z := ⟨_, rfl⟩
      rw [hz] at HK
      have HZ := hide hz
      clear hz
      go_wp2_with fail
      refine HK.out.mono ?_
      rintro e w7 ⟨rfl, b7⟩
      have HC7 := hide (HBW6.out.trans (b7.mono HBW6.out.size))
      have HA7 := hide (HL6.out.next b7)
      have HA0 := hide (HL0.out.next b7)
      clear b7 HK HL6 HL0
      cases z
      · have HE := hide (show addL l x = l by unfold addL; rw [HZ.out]; rfl)
        go_wp2
        go_ret2
        rw [HZ.out, HE.out]
        exact ⟨⟨g0, l.length, c0, rfl, rfl, HC0.out.1, HC0.out.2, HA0.out⟩, HC7.out⟩
      · have HE := hide (show addL l x = l ++ [x] by unfold addL; rw [HZ.out]; rfl)
        go_wp2
        go_ret2
        rw [HZ.out, HE.out]
        exact ⟨⟨g6, n5, c6, rfl, HN6.out, HC6.out.1, HC6.out.2, HA7.out⟩, HC7.out⟩
  · have ht0 : ts = [] := List.eq_nil_of_length_eq_zero (by have := HL.out; omega)
    obtain ⟨TSV, hTSV⟩ : ∃ T : List LkT, T = [] := ⟨_, rfl⟩
    have HTSM := hide (show TSV.map (·.r) = l by rw [hTSV, ← ht0]; exact HTS.out)
    have HTL := hide (show TSV.length = l.length by rw [hTSV, ← ht0]; exact HL.out)
    have HIN := hide (show InV w B TSV by rw [hTSV]; exact fun t ht => by cases ht)
    clear HAT0 ht0
    go_wp2
    refine wp_region_held_drew (S := (fun W => BoxV W w.heap.size [.int .i64 x.tk, .slice xa x.pa.length xc, .bool x.de, .bool x.sh, .int .i64 x.un])) (by kernel_rfl) HX1.out (fun hHeld => ?_)
    rw [hwd] at hHeld
    rw [hwd]
    clear hwd
    simp only [List.size_toArray, List.length_cons, List.length_nil, Nat.reduceAdd, Array.replicate_succ, Array.replicate_zero, List.push_toArray, List.nil_append, List.cons_append]
    refine wpAnyH_take (i := 1) (v := ?_) rfl (by kernel_rfl) (by kernel_rfl) (by kernel_rfl) (fun _ _ _ h => h) (Or.inl ⟨by rfl, ?_⟩) (by assumption) ?_
    rotate_left
    · intro w hSw; (try dsimp only at hSw); obtain ⟨_, hq⟩ := hSw; have a0 := (hq 0 _ rfl).1; have a1 := (hq 1 _ rfl).1; have a2 := (hq 2 _ rfl).1; have a3 := (hq 3 _ rfl).1; have a4 := (hq 4 _ rfl).1; go_simp; try with_reducible rfl
    simp only [Act.put, List.getElem_toArray, List.getElem_cons_succ, List.getElem_cons_zero, List.setIfInBounds_toArray, List.set_cons_succ, List.set_cons_zero]
    refine wpAnyH_take (i := 3) (v := ?_) rfl (by kernel_rfl) (by kernel_rfl) (by kernel_rfl) (fun _ _ _ h => h) (Or.inl ⟨by rfl, ?_⟩) (by assumption) ?_
    rotate_left
    · intro w hSw; (try dsimp only at hSw); obtain ⟨_, hq⟩ := hSw; have a0 := (hq 0 _ rfl).1; have a1 := (hq 1 _ rfl).1; have a2 := (hq 2 _ rfl).1; have a3 := (hq 3 _ rfl).1; have a4 := (hq 4 _ rfl).1; go_simp; try with_reducible rfl
    simp only [Act.put, List.getElem_toArray, List.getElem_cons_succ, List.getElem_cons_zero, List.setIfInBounds_toArray, List.set_cons_succ, List.set_cons_zero]
    refine wpAnyH_ready (rs := [0, 4]) (by kernel_rfl) (by simp) ?_
    refine AllReadyH.cons rfl (fun K hK => ?_) (AllReadyH.cons rfl (fun K hK => ?_) AllReadyH.nil)
    · go_simp
      have HB1 := hide (show Below wd.heap.size wd (wd.alloc (Obj.cells #[] 26)) from HB0.out.alloc HB0.out.size _)
      have HO1 := hide (show OwnT (wd.alloc (Obj.cells #[] 26)) wd.heap.size (.slice (some ⟨wd.heap.size, 0, none⟩) 0 0) [] by have h := OwnT.made wd wd.heap.size HB0.out.size; simpa using h)
      refine hK.out _ _ (hHeld.alloc _) (fun hHeld2 => ?_)
      clear hK K hHeld
      have hHeld := hHeld2
      clear hHeld2
      simp only [List.setIfInBounds_toArray, List.set_cons_zero]
      refine wpAnyH_ready (rs := [2, 4]) (by kernel_rfl) (by simp) ?_
      refine AllReadyH.cons rfl (fun K hK => ?_) (AllReadyH.cons rfl (fun K hK => ?_) AllReadyH.nil)
      · refine step_append_lkNil 32 Try.underlying32 rfl _ _ rfl wd.heap.size _ [] (by first | rfl | (simp [Act.eval])) HO1.out a cap (by first | rfl | (simp [Act.eval]; exact List.eq_nil_of_length_eq_zero (by omega))) HNN.out HB1.out.size (by simp) (by simp) ?_
        intro g2 n2 c2 w2 hn2 hO2 hb2 hg2 hat2
        clear hn2
        rw [← hTSV] at hO2
        have HO2 := hide hO2
        have HB2 := hide (HB1.out.trans hb2)
        have hR2 := hO2.row
        have hh2 : BoxV w2 w.heap.size [.int .i64 x.tk, .slice xa x.pa.length xc, .bool x.de, .bool x.sh, .int .i64 x.un] := ⟨Nat.lt_of_lt_of_le HXD.out.1 HB2.out.size, fun i v hv => by rw [HB2.out.cell (p := ⟨w.heap.size, i, none⟩) HXD.out.1, HB2.out.frozen (p := ⟨w.heap.size, i, none⟩) HXD.out.1]; exact HXD.out.2 i v hv⟩
        clear hO2 hb2 hg2 hat2 hR2
        refine hK.out _ _ hh2 (fun hHeld2 => ?_)
        clear hh2
        clear hK K hHeld
        have hHeld := hHeld2
        clear hHeld2
        simp only [List.setIfInBounds_toArray, List.set_cons_succ, List.set_cons_zero]
        refine wpAnyH_ready (rs := [4]) (by kernel_rfl) (by simp) ?_
        refine AllReadyH.cons rfl (fun K hK => ?_) AllReadyH.nil
        go_simp
        have HB3 := hide (show Below wd.heap.size wd (w2.alloc (Obj.cells #[.int .i64 x.tk, .slice xa x.pa.length xc, .bool x.de, .bool x.sh, .int .i64 x.un] 26)) from HB2.out.alloc HB2.out.size _)
        have HN3 := hide (show LkAt (w2.alloc (Obj.cells #[.int .i64 x.tk, .slice xa x.pa.length xc, .bool x.de, .bool x.sh, .int .i64 x.un] 26)) (w2.heap.size) 0 x xa xc by have h : LkAt (w2.alloc (Obj.cells #[.int .i64 x.tk, .slice xa x.pa.length xc, .bool x.de, .bool x.sh, .int .i64 x.un] 26)) w2.heap.size 0 x xa xc := (by refine ⟨?_, ?_, ?_, ?_, ?_⟩ <;> simp [go_sem]); simpa using h)
        have HO3 := hide (HO2.out.next ((Below.refl w2.heap.size w2).alloc (Nat.le_refl _) (Obj.cells #[.int .i64 x.tk, .slice xa x.pa.length xc, .bool x.de, .bool x.sh, .int .i64 x.un] 26)))
        refine hK.out _ _ (hHeld.alloc _) (fun hHeld2 => ?_)
        clear hK K hHeld
        have hHeld := hHeld2
        clear hHeld2
        simp only [List.setIfInBounds_toArray, List.set_cons_succ, List.set_cons_zero]
        refine wpAnyH_ready (rs := [5]) (by kernel_rfl) (by simp) ?_
        refine AllReadyH.cons rfl (fun K hK => ?_) AllReadyH.nil
        refine step_append_lkT 32 Try.underlying32 rfl _ _ rfl wd.heap.size _ TSV (by first | rfl | (simp [Act.eval])) HO3.out (w2.heap.size) 0 1 1 [⟨x, xa, xc⟩] (by first | rfl | (simp [Act.eval])) rfl (fun j hj => by have e : j = 0 := (by simp at hj; exact hj); subst e; exact HN3.out) (by have := HTL.out; simp; omega) (by have := HB3.out.size; simp at this ⊢; omega) (by simp) ?_
        intro g5 n5 c5 w5 hn5 hO5 hb5 hg5 _
        obtain ⟨r1, r2, r3, r4, r5⟩ := hO5.row
        have HB4 := hide (HB3.out.trans hb5)
        have HBW := hide (HWD.out.trans (HB4.out.mono (by have := HWD.out.size; omega)))
        have hlk := lks_of_rowV (show (TSV ++ [(⟨x, xa, xc⟩ : LkT)]).map (·.r) = l ++ [x] by rw [List.map_append, HTSM.out]; rfl) r2 (fun t ht => by
          rcases List.mem_append.1 ht with h | h
          · exact (HIN.out t h).below HBW.out hB
          · obtain rfl := List.mem_singleton.1 h; exact HXI.out.below HBW.out hB) (Nat.le_trans hB HBW.out.size)
        have hn6 : n5 = (l ++ [x]).length := by rw [hn5, List.length_append, HTL.out, List.length_append]; rfl
        have HQ2 := l13Copy_own (some ⟨g5, 0, none⟩) (l ++ [x]) c5 w5.heap.size w5 hlk (Nat.le_refl _) (by simp; omega) HSX.out
        rw [← hn6] at HQ2
        have HN6 := hide hn6
        have HQ2 := hide HQ2
        have hh2 : BoxV w5 w.heap.size [.int .i64 x.tk, .slice xa x.pa.length xc, .bool x.de, .bool x.sh, .int .i64 x.un] := ⟨Nat.lt_of_lt_of_le HXD.out.1 HB4.out.size, fun i v hv => by rw [HB4.out.cell (p := ⟨w.heap.size, i, none⟩) HXD.out.1, HB4.out.frozen (p := ⟨w.heap.size, i, none⟩) HXD.out.1]; exact HXD.out.2 i v hv⟩
        clear hO5 hb5 hg5 r1 r2 r3 r4 r5 hlk hn5 hn6
        refine hK.out _ _ hh2 (fun hHeld2 => ?_)
        clear hh2
        clear hK K hHeld
        have hHeld := hHeld2
        clear hHeld2
        simp only [List.setIfInBounds_toArray, List.set_cons_succ, List.set_cons_zero]
        refine wpAnyH_ready (rs := [6]) (by kernel_rfl) (by simp) ?_
        refine AllReadyH.cons rfl (fun K hK => ?_) AllReadyH.nil
        go_simp
        refine HQ2.out.mono ?_
        rintro e w6 ⟨⟨g6, c6, ts6, rfl, hts6, hrow6, hp6, hg6, hc61, hc62, how6⟩, b6⟩
        have HB6 := hide (HB4.out.trans (b6.mono HB4.out.size))
        have HBW6 := hide (HBW.out.trans (b6.mono HBW.out.size))
        have HL6 := hide (RowC.mono (show RowC w6 w5.heap.size g6 c6 (l ++ [x]) from ⟨ts6, hts6, hrow6, hp6, hg6, by rw [← HN6.out]; exact how6⟩) (Nat.le_trans HWD.out.size HB4.out.size))
        have HC6 := hide (And.intro hc61 hc62)
        have hh2 : BoxV w6 w.heap.size [.int .i64 x.tk, .slice xa x.pa.length xc, .bool x.de, .bool x.sh, .int .i64 x.un] := ⟨Nat.lt_of_lt_of_le HXD.out.1 HB6.out.size, fun i v hv => by rw [HB6.out.cell (p := ⟨w.heap.size, i, none⟩) HXD.out.1, HB6.out.frozen (p := ⟨w.heap.size, i, none⟩) HXD.out.1]; exact HXD.out.2 i v hv⟩
        clear hts6 hrow6 hp6 hg6 hc61 hc62 how6 b6 HQ2
        refine hK.out _ _ hh2 (fun hHeld2 => ?_)
        clear hh2
        clear hK K hHeld
        have hHeld := hHeld2
        clear hHeld2
        simp only [List.setIfInBounds_toArray, List.set_cons_succ, List.set_cons_zero]
        refine wpAnyH_take (i := 7) (v := ?_) rfl (by kernel_rfl) (by kernel_rfl) (by kernel_rfl) (fun _ _ _ h => h) (Or.inl ⟨by rfl, ?_⟩) (by assumption) ?_
        rotate_left
        · intro w hSw; (try dsimp only at hSw); obtain ⟨_, hq⟩ := hSw; have a0 := (hq 0 _ rfl).1; have a1 := (hq 1 _ rfl).1; have a2 := (hq 2 _ rfl).1; have a3 := (hq 3 _ rfl).1; have a4 := (hq 4 _ rfl).1; go_simp; try with_reducible rfl
        simp only [Act.put, List.getElem_toArray, List.getElem_cons_succ, List.getElem_cons_zero, List.setIfInBounds_toArray, List.set_cons_succ, List.set_cons_zero]
        refine wpAnyH_done (by kernel_rfl) ?_ _
        clear hHeld
        have HK := specLocksOk_any (some ⟨g6, 0, none⟩) (l ++ [x]) c6 w6.heap.size w6 HL6.out.lks (Nat.le_refl _) HSH.out (by simp; unfold maxLen; omega)
        rw [← HN6.out] at HK
        have HK := hide HK
        have HL0 := hide (HLK0.out.next HB6.out)
        obtain ⟨z, hz⟩ : ∃ z, locksB (l ++ [x]) = z := ⟨_, rfl⟩
        rw [hz] at HK
        have HZ := hide hz
        clear hz
        go_wp2_with fail
        refine HK.out.mono ?_
        rintro e w7 ⟨rfl, b7⟩
        have HC7 := hide (HBW6.out.trans (b7.mono HBW6.out.size))
        have HA7 := hide (HL6.out.next b7)
        have HA0 := hide (HL0.out.next b7)
        clear b7 HK HL6 HL0
        cases z
        · have HE := hide (show addL l x = l by unfold addL; rw [HZ.out]; rfl)
          go_wp2
          go_ret2
          rw [HZ.out, HE.out]
          exact ⟨⟨g0, l.length, c0, rfl, rfl, HC0.out.1, HC0.out.2, HA0.out⟩, HC7.out⟩
        · have HE := hide (show addL l x = l ++ [x] by unfold addL; rw [HZ.out]; rfl)
          go_wp2
          go_ret2
          rw [HZ.out, HE.out]
          exact ⟨⟨g6, n5, c6, rfl, HN6.out, HC6.out.1, HC6.out.2, HA7.out⟩, HC7.out⟩
      · go_simp
        have HB2 := hide (show Below wd.heap.size wd ((wd.alloc (Obj.cells #[] 26)).alloc (Obj.cells #[.int .i64 x.tk, .slice xa x.pa.length xc, .bool x.de, .bool x.sh, .int .i64 x.un] 26)) from HB1.out.alloc HB1.out.size _)
        have HN2 := hide (show LkAt ((wd.alloc (Obj.cells #[] 26)).alloc (Obj.cells #[.int .i64 x.tk, .slice xa x.pa.length xc, .bool x.de, .bool x.sh, .int .i64 x.un] 26)) (wd.heap.size + 1) 0 x xa xc by have h : LkAt ((wd.alloc (Obj.cells #[] 26)).alloc (Obj.cells #[.int .i64 x.tk, .slice xa x.pa.length xc, .bool x.de, .bool x.sh, .int .i64 x.un] 26)) (wd.alloc (Obj.cells #[] 26)).heap.size 0 x xa xc := (by refine ⟨?_, ?_, ?_, ?_, ?_⟩ <;> simp [go_sem]); simpa using h)
        have HO2 := hide (HO1.out.next ((Below.refl (wd.alloc (Obj.cells #[] 26)).heap.size (wd.alloc (Obj.cells #[] 26))).alloc (Nat.le_refl _) (Obj.cells #[.int .i64 x.tk, .slice xa x.pa.length xc, .bool x.de, .bool x.sh, .int .i64 x.un] 26)))
        refine hK.out _ _ (hHeld.alloc _) (fun hHeld2 => ?_)
        clear hK K hHeld
        have hHeld := hHeld2
        clear hHeld2
        simp only [List.setIfInBounds_toArray, List.set_cons_succ, List.set_cons_zero]
        refine wpAnyH_ready (rs := [2]) (by kernel_rfl) (by simp) ?_
        refine AllReadyH.cons rfl (fun K hK => ?_) AllReadyH.nil
        refine step_append_lkNil 32 Try.underlying32 rfl _ _ rfl wd.heap.size _ [] (by first | rfl | (simp [Act.eval])) HO2.out a cap (by first | rfl | (simp [Act.eval]; exact List.eq_nil_of_length_eq_zero (by omega))) HNN.out HB2.out.size (by simp) (by simp) ?_
        intro g2 n2 c2 w2 hn2 hO2 hb2 hg2 hat2
        clear hn2
        rw [← hTSV] at hO2
        have HO3 := hide hO2
        have HB3 := hide (HB2.out.trans hb2)
        have HN3 := hide (HN2.out.hp (hg2.block _ (by first | (simp; done) | (simp; omega)) (fun e => by have e2 := Option.some.inj e; simp at e2)))
        have hR2 := hO2.row
        have hh2 : BoxV w2 w.heap.size [.int .i64 x.tk, .slice xa x.pa.length xc, .bool x.de, .bool x.sh, .int .i64 x.un] := ⟨Nat.lt_of_lt_of_le HXD.out.1 HB3.out.size, fun i v hv => by rw [HB3.out.cell (p := ⟨w.heap.size, i, none⟩) HXD.out.1, HB3.out.frozen (p := ⟨w.heap.size, i, none⟩) HXD.out.1]; exact HXD.out.2 i v hv⟩
        clear hO2 hb2 hg2 hat2 hR2
        refine hK.out _ _ hh2 (fun hHeld2 => ?_)
        clear hh2
        clear hK K hHeld
        have hHeld := hHeld2
        clear hHeld2
        simp only [List.setIfInBounds_toArray, List.set_cons_succ, List.set_cons_zero]
        refine wpAnyH_ready (rs := [5]) (by kernel_rfl) (by simp) ?_
        refine AllReadyH.cons rfl (fun K hK => ?_) AllReadyH.nil
        refine step_append_lkT 32 Try.underlying32 rfl _ _ rfl wd.heap.size _ TSV (by first | rfl | (simp [Act.eval])) HO3.out (wd.heap.size + 1) 0 1 1 [⟨x, xa, xc⟩] (by first | rfl | (simp [Act.eval])) rfl (fun j hj => by have e : j = 0 := (by simp at hj; exact hj); subst e; exact HN3.out) (by have := HTL.out; simp; omega) (by have := HB3.out.size; simp at this ⊢; omega) (by simp) ?_
        intro g5 n5 c5 w5 hn5 hO5 hb5 hg5 _
        obtain ⟨r1, r2, r3, r4, r5⟩ := hO5.row
        have HB4 := hide (HB3.out.trans hb5)
        have HBW := hide (HWD.out.trans (HB4.out.mono (by have := HWD.out.size; omega)))
        have hlk := lks_of_rowV (show (TSV ++ [(⟨x, xa, xc⟩ : LkT)]).map (·.r) = l ++ [x] by rw [List.map_append, HTSM.out]; rfl) r2 (fun t ht => by
          rcases List.mem_append.1 ht with h | h
          · exact (HIN.out t h).below HBW.out hB
          · obtain rfl := List.mem_singleton.1 h; exact HXI.out.below HBW.out hB) (Nat.le_trans hB HBW.out.size)
        have hn6 : n5 = (l ++ [x]).length := by rw [hn5, List.length_append, HTL.out, List.length_append]; rfl
        have HQ2 := l13Copy_own (some ⟨g5, 0, none⟩) (l ++ [x]) c5 w5.heap.size w5 hlk (Nat.le_refl _) (by simp; omega) HSX.out
        rw [← hn6] at HQ2
        have HN6 := hide hn6
        have HQ2 := hide HQ2
        have hh2 : BoxV w5 w.heap.size [.int .i64 x.tk, .slice xa x.pa.length xc, .bool x.de, .bool x.sh, .int .i64 x.un] := ⟨Nat.lt_of_lt_of_le HXD.out.1 HB4.out.size, fun i v hv => by rw [HB4.out.cell (p := ⟨w.heap.size, i, none⟩) HXD.out.1, HB4.out.frozen (p := ⟨w.heap.size, i, none⟩) HXD.out.1]; exact HXD.out.2 i v hv⟩
        clear hO5 hb5 hg5 r1 r2 r3 r4 r5 hlk hn5 hn6
        refine hK.out _ _ hh2 (fun hHeld2 => ?_)
        clear hh2
        clear hK K hHeld
        have hHeld := hHeld2
        clear hHeld2
        simp only [List.setIfInBounds_toArray, List.set_cons_succ, List.set_cons_zero]
        refine wpAnyH_ready (rs := [6]) (by kernel_rfl) (by simp) ?_
        refine AllReadyH.cons rfl (fun K hK => ?_) AllReadyH.nil
        go_simp
        refine HQ2.out.mono ?_
        rintro e w6 ⟨⟨g6, c6, ts6, rfl, hts6, hrow6, hp6, hg6, hc61, hc62, how6⟩, b6⟩
        have HB6 := hide (HB4.out.trans (b6.mono HB4.out.size))
        have HBW6 := hide (HBW.out.trans (b6.mono HBW.out.size))
        have HL6 := hide (RowC.mono (show RowC w6 w5.heap.size g6 c6 (l ++ [x]) from ⟨ts6, hts6, hrow6, hp6, hg6, by rw [← HN6.out]; exact how6⟩) (Nat.le_trans HWD.out.size HB4.out.size))
        have HC6 := hide (And.intro hc61 hc62)
        have hh2 : BoxV w6 w.heap.size [.int .i64 x.tk, .slice xa x.pa.length xc, .bool x.de, .bool x.sh, .int .i64 x.un] := ⟨Nat.lt_of_lt_of_le HXD.out.1 HB6.out.size, fun i v hv => by rw [HB6.out.cell (p := ⟨w.heap.size, i, none⟩) HXD.out.1, HB6.out.frozen (p := ⟨w.heap.size, i, none⟩) HXD.out.1]; exact HXD.out.2 i v hv⟩
        clear hts6 hrow6 hp6 hg6 hc61 hc62 how6 b6 HQ2
        refine hK.out _ _ hh2 (fun hHeld2 => ?_)
        clear hh2
        clear hK K hHeld
        have hHeld := hHeld2
        clear hHeld2
        simp only [List.setIfInBounds_toArray, List.set_cons_succ, List.set_cons_zero]
        refine wpAnyH_take (i := 7) (v := ?_) rfl (by kernel_rfl) (by kernel_rfl) (by kernel_rfl) (fun _ _ _ h => h) (Or.inl ⟨by rfl, ?_⟩) (by assumption) ?_
        rotate_left
        · intro w hSw; (try dsimp only at hSw); obtain ⟨_, hq⟩ := hSw; have a0 := (hq 0 _ rfl).1; have a1 := (hq 1 _ rfl).1; have a2 := (hq 2 _ rfl).1; have a3 := (hq 3 _ rfl).1; have a4 := (hq 4 _ rfl).1; go_simp; try with_reducible rfl
        simp only [Act.put, List.getElem_toArray, List.getElem_cons_succ, List.getElem_cons_zero, List.setIfInBounds_toArray, List.set_cons_succ, List.set_cons_zero]
        refine wpAnyH_done (by kernel_rfl) ?_ _
        clear hHeld
        have HK := specLocksOk_any (some ⟨g6, 0, none⟩) (l ++ [x]) c6 w6.heap.size w6 HL6.out.lks (Nat.le_refl _) HSH.out (by simp; unfold maxLen; omega)
        rw [← HN6.out] at HK
        have HK := hide HK
        have HL0 := hide (HLK0.out.next HB6.out)
        obtain ⟨z, hz⟩ : ∃ z, locksB (l ++ [x]) = z := ⟨_, rfl⟩
        rw [hz] at HK
        have HZ := hide hz
        clear hz
        go_wp2_with fail
        refine HK.out.mono ?_
        rintro e w7 ⟨rfl, b7⟩
        have HC7 := hide (HBW6.out.trans (b7.mono HBW6.out.size))
        have HA7 := hide (HL6.out.next b7)
        have HA0 := hide (HL0.out.next b7)
        clear b7 HK HL6 HL0
        cases z
        · have HE := hide (show addL l x = l by unfold addL; rw [HZ.out]; rfl)
          go_wp2
          go_ret2
          rw [HZ.out, HE.out]
          exact ⟨⟨g0, l.length, c0, rfl, rfl, HC0.out.1, HC0.out.2, HA0.out⟩, HC7.out⟩
        · have HE := hide (show addL l x = l ++ [x] by unfold addL; rw [HZ.out]; rfl)
          go_wp2
          go_ret2
          rw [HZ.out, HE.out]
          exact ⟨⟨g6, n5, c6, rfl, HN6.out, HC6.out.1, HC6.out.2, HA7.out⟩, HC7.out⟩
    · go_simp
      have HB1 := hide (show Below wd.heap.size wd (wd.alloc (Obj.cells #[.int .i64 x.tk, .slice xa x.pa.length xc, .bool x.de, .bool x.sh, .int .i64 x.un] 26)) from HB0.out.alloc HB0.out.size _)
      have HN1 := hide (show LkAt (wd.alloc (Obj.cells #[.int .i64 x.tk, .slice xa x.pa.length xc, .bool x.de, .bool x.sh, .int .i64 x.un] 26)) (wd.heap.size) 0 x xa xc by have h : LkAt (wd.alloc (Obj.cells #[.int .i64 x.tk, .slice xa x.pa.length xc, .bool x.de, .bool x.sh, .int .i64 x.un] 26)) wd.heap.size 0 x xa xc := (by refine ⟨?_, ?_, ?_, ?_, ?_⟩ <;> simp [go_sem]); simpa using h)
      refine hK.out _ _ (hHeld.alloc _) (fun hHeld2 => ?_)
      clear hK K hHeld
      have hHeld := hHeld2
      clear hHeld2
      simp only [List.setIfInBounds_toArray, List.set_cons_succ, List.set_cons_zero]
      refine wpAnyH_ready (rs := [0]) (by kernel_rfl) (by simp) ?_
      refine AllReadyH.cons rfl (fun K hK => ?_) AllReadyH.nil
      go_simp
      have HB2 := hide (show Below wd.heap.size wd ((wd.alloc (Obj.cells #[.int .i64 x.tk, .slice xa x.pa.length xc, .bool x.de, .bool x.sh, .int .i64 x.un] 26)).alloc (Obj.cells #[] 26)) from HB1.out.alloc HB1.out.size _)
      have HO2 := hide (show OwnT ((wd.alloc (Obj.cells #[.int .i64 x.tk, .slice xa x.pa.length xc, .bool x.de, .bool x.sh, .int .i64 x.un] 26)).alloc (Obj.cells #[] 26)) wd.heap.size (.slice (some ⟨wd.heap.size + 1, 0, none⟩) 0 0) [] by have h := OwnT.made (wd.alloc (Obj.cells #[.int .i64 x.tk, .slice xa x.pa.length xc, .bool x.de, .bool x.sh, .int .i64 x.un] 26)) wd.heap.size HB1.out.size; simpa using h)
      have HN2 := hide (HN1.out.of (fun o' => ((Below.refl (wd.alloc (Obj.cells #[.int .i64 x.tk, .slice xa x.pa.length xc, .bool x.de, .bool x.sh, .int .i64 x.un] 26)).heap.size (wd.alloc (Obj.cells #[.int .i64 x.tk, .slice xa x.pa.length xc, .bool x.de, .bool x.sh, .int .i64 x.un] 26))).alloc (Nat.le_refl _) (Obj.cells #[] 26)).cell (p := ⟨wd.heap.size, o', none⟩) (by simp)))
      refine hK.out _ _ (hHeld.alloc _) (fun hHeld2 => ?_)
      clear hK K hHeld
      have hHeld := hHeld2
      clear hHeld2
      simp only [List.setIfInBounds_toArray, List.set_cons_zero]
      refine wpAnyH_ready (rs := [2]) (by kernel_rfl) (by simp) ?_
      refine AllReadyH.cons rfl (fun K hK => ?_) AllReadyH.nil
      refine step_append_lkNil 32 Try.underlying32 rfl _ _ rfl wd.heap.size _ [] (by first | rfl | (simp [Act.eval])) HO2.out a cap (by first | rfl | (simp [Act.eval]; exact List.eq_nil_of_length_eq_zero (by omega))) HNN.out HB2.out.size (by simp) (by simp) ?_
      intro g2 n2 c2 w2 hn2 hO2 hb2 hg2 hat2
      clear hn2
      rw [← hTSV] at hO2
      have HO3 := hide hO2
      have HB3 := hide (HB2.out.trans hb2)
      have HN3 := hide (HN2.out.hp (hg2.block _ (by first | (simp; done) | (simp; omega)) (fun e => by have e2 := Option.some.inj e; simp at e2)))
      have hR2 := hO2.row
      have hh2 : BoxV w2 w.heap.size [.int .i64 x.tk, .slice xa x.pa.length xc, .bool x.de, .bool x.sh, .int .i64 x.un] := ⟨Nat.lt_of_lt_of_le HXD.out.1 HB3.out.size, fun i v hv => by rw [HB3.out.cell (p := ⟨w.heap.size, i, none⟩) HXD.out.1, HB3.out.frozen (p := ⟨w.heap.size, i, none⟩) HXD.out.1]; exact HXD.out.2 i v hv⟩
      clear hO2 hb2 hg2 hat2 hR2
      refine hK.out _ _ hh2 (fun hHeld2 => ?_)
      clear hh2
      clear hK K hHeld
      have hHeld := hHeld2
      clear hHeld2
      simp only [List.setIfInBounds_toArray, List.set_cons_succ, List.set_cons_zero]
      refine wpAnyH_ready (rs := [5]) (by kernel_rfl) (by simp) ?_
      refine AllReadyH.cons rfl (fun K hK => ?_) AllReadyH.nil
      refine step_append_lkT 32 Try.underlying32 rfl _ _ rfl wd.heap.size _ TSV (by first | rfl | (simp [Act.eval])) HO3.out (wd.heap.size) 0 1 1 [⟨x, xa, xc⟩] (by first | rfl | (simp [Act.eval])) rfl (fun j hj => by have e : j = 0 := (by simp at hj; exact hj); subst e; exact HN3.out) (by have := HTL.out; simp; omega) (by have := HB3.out.size; simp at this ⊢; omega) (by simp) ?_
      intro g5 n5 c5 w5 hn5 hO5 hb5 hg5 _
      obtain ⟨r1, r2, r3, r4, r5⟩ := hO5.row
      have HB4 := hide (HB3.out.trans hb5)
      have HBW := hide (HWD.out.trans (HB4.out.mono (by have := HWD.out.size; omega)))
      have hlk := lks_of_rowV (show (TSV ++ [(⟨x, xa, xc⟩ : LkT)]).map (·.r) = l ++ [x] by rw [List.map_append, HTSM.out]; rfl) r2 (fun t ht => by
        rcases List.mem_append.1 ht with h | h
        · exact (HIN.out t h).below HBW.out hB
        · obtain rfl := List.mem_singleton.1 h; exact HXI.out.below HBW.out hB) (Nat.le_trans hB HBW.out.size)
      have hn6 : n5 = (l ++ [x]).length := by rw [hn5, List.length_append, HTL.out, List.length_append]; rfl
      have HQ2 := l13Copy_own (some ⟨g5, 0, none⟩) (l ++ [x]) c5 w5.heap.size w5 hlk (Nat.le_refl _) (by simp; omega) HSX.out
      rw [← hn6] at HQ2
      have HN6 := hide hn6
      have HQ2 := hide HQ2
      have hh2 : BoxV w5 w.heap.size [.int .i64 x.tk, .slice xa x.pa.length xc, .bool x.de, .bool x.sh, .int .i64 x.un] := ⟨Nat.lt_of_lt_of_le HXD.out.1 HB4.out.size, fun i v hv => by rw [HB4.out.cell (p := ⟨w.heap.size, i, none⟩) HXD.out.1, HB4.out.frozen (p := ⟨w.heap.size, i, none⟩) HXD.out.1]; exact HXD.out.2 i v hv⟩
      clear hO5 hb5 hg5 r1 r2 r3 r4 r5 hlk hn5 hn6
      refine hK.out _ _ hh2 (fun hHeld2 => ?_)
      clear hh2
      clear hK K hHeld
      have hHeld := hHeld2
      clear hHeld2
      simp only [List.setIfInBounds_toArray, List.set_cons_succ, List.set_cons_zero]
      refine wpAnyH_ready (rs := [6]) (by kernel_rfl) (by simp) ?_
      refine AllReadyH.cons rfl (fun K hK => ?_) AllReadyH.nil
      go_simp
      refine HQ2.out.mono ?_
      rintro e w6 ⟨⟨g6, c6, ts6, rfl, hts6, hrow6, hp6, hg6, hc61, hc62, how6⟩, b6⟩
      have HB6 := hide (HB4.out.trans (b6.mono HB4.out.size))
      have HBW6 := hide (HBW.out.trans (b6.mono HBW.out.size))
      have HL6 := hide (RowC.mono (show RowC w6 w5.heap.size g6 c6 (l ++ [x]) from ⟨ts6, hts6, hrow6, hp6, hg6, by rw [← HN6.out]; exact how6⟩) (Nat.le_trans HWD.out.size HB4.out.size))
      have HC6 := hide (And.intro hc61 hc62)
      have hh2 : BoxV w6 w.heap.size [.int .i64 x.tk, .slice xa x.pa.length xc, .bool x.de, .bool x.sh, .int .i64 x.un] := ⟨Nat.lt_of_lt_of_le HXD.out.1 HB6.out.size, fun i v hv => by rw [HB6.out.cell (p := ⟨w.heap.size, i, none⟩) HXD.out.1, HB6.out.frozen (p := ⟨w.heap.size, i, none⟩) HXD.out.1]; exact HXD.out.2 i v hv⟩
      clear hts6 hrow6 hp6 hg6 hc61 hc62 how6 b6 HQ2
      refine hK.out _ _ hh2 (fun hHeld2 => ?_)
      clear hh2
      clear hK K hHeld
      have hHeld := hHeld2
      clear hHeld2
      simp only [List.setIfInBounds_toArray, List.set_cons_succ, List.set_cons_zero]
      refine wpAnyH_take (i := 7) (v := ?_) rfl (by kernel_rfl) (by kernel_rfl) (by kernel_rfl) (fun _ _ _ h => h) (Or.inl ⟨by rfl, ?_⟩) (by assumption) ?_
      rotate_left
      · intro w hSw; (try dsimp only at hSw); obtain ⟨_, hq⟩ := hSw; have a0 := (hq 0 _ rfl).1; have a1 := (hq 1 _ rfl).1; have a2 := (hq 2 _ rfl).1; have a3 := (hq 3 _ rfl).1; have a4 := (hq 4 _ rfl).1; go_simp; try with_reducible rfl
      simp only [Act.put, List.getElem_toArray, List.getElem_cons_succ, List.getElem_cons_zero, List.setIfInBounds_toArray, List.set_cons_succ, List.set_cons_zero]
      refine wpAnyH_done (by kernel_rfl) ?_ _
      clear hHeld
      have HK := specLocksOk_any (some ⟨g6, 0, none⟩) (l ++ [x]) c6 w6.heap.size w6 HL6.out.lks (Nat.le_refl _) HSH.out (by simp; unfold maxLen; omega)
      rw [← HN6.out] at HK
      have HK := hide HK
      have HL0 := hide (HLK0.out.next HB6.out)
      obtain ⟨z, hz⟩ : ∃ z, locksB (l ++ [x]) = z := ⟨_, rfl⟩
      rw [hz] at HK
      have HZ := hide hz
      clear hz
      go_wp2_with fail
      refine HK.out.mono ?_
      rintro e w7 ⟨rfl, b7⟩
      have HC7 := hide (HBW6.out.trans (b7.mono HBW6.out.size))
      have HA7 := hide (HL6.out.next b7)
      have HA0 := hide (HL0.out.next b7)
      clear b7 HK HL6 HL0
      cases z
      · have HE := hide (show addL l x = l by unfold addL; rw [HZ.out]; rfl)
        go_wp2
        go_ret2
        rw [HZ.out, HE.out]
        exact ⟨⟨g0, l.length, c0, rfl, rfl, HC0.out.1, HC0.out.2, HA0.out⟩, HC7.out⟩
      · have HE := hide (show addL l x = l ++ [x] by unfold addL; rw [HZ.out]; rfl)
        go_wp2
        go_ret2
        rw [HZ.out, HE.out]
        exact ⟨⟨g6, n5, c6, rfl, HN6.out, HC6.out.1, HC6.out.2, HA7.out⟩, HC7.out⟩

end Go.Proofs.Ytclnpfpaabmkcab
