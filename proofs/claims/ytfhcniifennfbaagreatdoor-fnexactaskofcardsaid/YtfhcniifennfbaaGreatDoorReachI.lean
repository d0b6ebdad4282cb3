/-
  What is turned by what is asked, and whether it may be: what impl.wholeAt, impl.reachesOf and impl.MayChange do.
-/
import Derived.Test.YtfhcniifennfbaaGreatDoorReachV
import Derived.Test.YtfhcniifennfbaaGreatDoorSpecMayT
import Derived.Test.YtfhcniifennfbaaGreatDoorGenAsk
import Derived.Test.YtfhcniifennfbaaGreatDoorMathHex
import Derived.Test.YtfhcniifennfbaaGreatDoorSvIn
import Derived.Deep.RegionHeld3
namespace Go.Proofs.YtfhcniifennfbaaGreatDoor
open Go.RowKit M
set_option linter.unusedVariables false

theorem View.atI {w w' : World} {v : Value} {x : Lf} (h : View w w.heap.size v x) (hb : Below w.heap.size w w') : View w' w'.heap.size v x := (h.stays hb (Nat.le_refl _)).mono hb.size
theorem join4 {F G : Nat → Nat → Nat → World → Prop} {P : Prop} (main : (∀ a b c w, F a b c w → G a b c w) → P) (cont : ∀ a b c w, F a b c w → G a b c w) : P := main cont
theorem RcsAt.of_box {w : World} {g : Nat} {l : List RcV} (h : BoxV w g (l.flatMap rcCs)) (hst : RcSt w l) : RcsAt w g l :=
  ⟨h.1, fun j hj => ⟨(h.2 _ _ (rc_flat_get l j hj).1).1, (h.2 _ _ (rc_flat_get l j hj).2).1⟩, hst⟩
/-- What reachesOf hands back. -/
def RcRet (w : World) (v : Value) (l : List RcV) : Prop := (l = [] ∧ v = .slice none 0 0) ∨ ∃ g c, v = .slice (some ⟨g, 0, none⟩) l.length c ∧ RcsAt w g l
def rcP (l : List RcV) : List Rc := l.map fun x => (x.p, x.d)
structure RF (W w : World) (SC AC : List Value) (u : Value) (ab : List ByteArray) (n7 n8 g : Nat) : Prop where
  k : Below W.heap.size W w
  x : BoxV w W.heap.size SC
  y : BoxV w (W.heap.size + 1) AC
  s7 : BoxV w n7 [u, .bool false]
  s8 : BoxV w n8 [.slice (some ⟨g, 0, none⟩) ab.length ab.length, .bool false]
  r : RowS w g ab

set_option maxRecDepth 100000 in
set_option maxHeartbeats 2000000 in
theorem wholeAt_gen (p : List ByteArray) (u : Value) (W : World) (h : View W W.heap.size u (.l (p.map dS))) (hl : p.length ≤ 1048576) (hs : ∀ s ∈ p, s.size ≤ 281474976710656) :
    Calls Tryz.prog 198 #[u] W fun e w' => (∃ (g : Nat) (l : List RcV), e = .returned (.slice (some ⟨g, 0, none⟩) 2 2) ∧ l.length = 2 ∧ RcsAt w' g l ∧ rcP l = wholeP p) ∧ Below W.heap.size W w' := by
  have HA := hide (above_gen p u W h hl hs)
  obtain ⟨a, cap, rfl, h1, h2, h3, h4⟩ := strs_of_view h
  have H4 := hide h4
  have HC := hide (And.intro h1 (And.intro h2 h3))
  have h9 : (aboveL p).length ≤ maxLen := by rw [aboveL_len]; unfold maxLen; omega
  clear h h1 h2 h3 h4
  go_enter Tryz.func198, Tryz.ntmps198
  go_wp2_with fail
  refine HA.out.mono ?_
  rintro e w1 ⟨rfl, hr, b1⟩
  have R1 := hide hr
  have B1 := hide b1
  clear hr b1
  have BM := hide (BoxV.made w1 [.slice a p.length cap, .bool true, .slice (some ⟨W.heap.size, 0, none⟩) (aboveL p).length (aboveL p).length, .bool false] 203)
  have BB := hide ((Below.refl w1.heap.size w1).alloc (Nat.le_refl _) (Obj.cells #[.slice a p.length cap, .bool true, .slice (some ⟨W.heap.size, 0, none⟩) (aboveL p).length (aboveL p).length, .bool false] 203))
  go_wp2
  go_ret
  refine ⟨⟨_, [⟨p, true, a, cap⟩, ⟨aboveL p, false, some ⟨W.heap.size, 0, none⟩, (aboveL p).length⟩], rfl, rfl, RcsAt.of_box BM.out ?_, rfl⟩, B1.out.trans (BB.out.mono B1.out.size)⟩
  intro x hx
  have e1 := B1.out.trans (BB.out.mono B1.out.size)
  simp only [List.mem_cons, List.not_mem_nil, or_false] at hx
  rcases hx with rfl | rfl
  · exact ⟨((H4.out.below e1 (Nat.le_refl _)).mono e1.size), HC.out.1, HC.out.2.1, HC.out.2.2⟩
  · have r2 := R1.out.below BB.out
    exact ⟨r2.strs' r2.1, Nat.le_refl _, h9, fun e => by cases e⟩

set_option maxRecDepth 100000 in
set_option maxHeartbeats 8000000 in
theorem reachesOf_gen (x : Sv) (m : ByteArray) (a : Ak) (u0 u1 u4 u5 p0 p1 p4 : Value) (W : World) (h0 : View W W.heap.size u0 (.l (x.t.map dRs))) (h1 : View W W.heap.size u1 (.l (x.l.map dLk))) (h4 : View W W.heap.size u4 (.l (x.dr.map dI))) (h5 : View W W.heap.size u5 (.l (x.us.map dI))) (k0 : View W W.heap.size p0 (.l (a.pa.map dS))) (k1 : View W W.heap.size p1 (.l (a.to.map dS))) (k4 : View W W.heap.size p4 (.l (a.tk.map dI))) (hsz : szR (dSv x) ≤ 1048576) (hpl : a.pa.length ≤ 1048576) (hps : ∀ s ∈ a.pa, s.size ≤ 281474976710656) (hto : a.to.length ≤ 1048576) (hts : ∀ s ∈ a.to, s.size ≤ 281474976710656) :
    Calls Tryz.prog 170 #[.agg #[u0, u1, .int .i64 x.now, .int .i64 x.ver, u4, u5], .string m, .agg #[p0, p1, .bool a.de, .bool a.ov, p4, .int .i64 a.co]] W fun e w' => (∃ v l, e = .returned v ∧ rcP l = reachP x m a.pa a.to ∧ l.length ≤ 4 ∧ RcRet w' v l) ∧ Below W.heap.size W w' := by
  obtain ⟨ta, tc, rfl, t1, t2, t3, t4⟩ := rss_of_view h0
  have HA := hide (fun W' (hb : Below W.heap.size W W') => above_gen a.pa p0 W' (k0.atI hb) hpl hps)
  have HW := hide (fun W' (hb : Below W.heap.size W W') => wholeAt_gen a.pa p0 W' (k0.atI hb) hpl hps)
  have HO := hide (fun W' (hb : Below W.heap.size W W') => wholeAt_gen a.to p1 W' (k1.atI hb) hto hts)
  obtain ⟨pa, pc, rfl, q1, q2, q3, q4⟩ := strs_of_view k0
  have HT := hide (fun W' (hb : Below W.heap.size W W') => isThere_any ta x.t tc W.heap.size pa a.pa pc W.heap.size W' (t4.below hb (Nat.le_refl _)) (q4.below hb (Nat.le_refl _)) (Nat.le_trans t1 t2) (Nat.le_trans q1 q2) hb.size hb.size)
  have HP := hide (fun W' (hb : Below W.heap.size W W') => (q4.below hb (Nat.le_refl _)).mono hb.size)
  have HC := hide (And.intro q1 (And.intro q2 q3))
  have H9 := hide (show (aboveL a.pa).length ≤ maxLen by rw [aboveL_len]; unfold maxLen; omega)
  have KA := hide (show Below W.heap.size W (W.alloc (Obj.cells #[.slice ta x.t.length tc, u1, .int .i64 x.now, .int .i64 x.ver, u4, u5] 39)) from (Below.refl _ _).alloc (Nat.le_refl _) _)
  have KW := hide (show Below W.heap.size W ((W.alloc (Obj.cells #[.slice ta x.t.length tc, u1, .int .i64 x.now, .int .i64 x.ver, u4, u5] 39)).alloc (Obj.cells #[.slice pa a.pa.length pc, p1, .bool a.de, .bool a.ov, p4, .int .i64 a.co] 34)) from KA.out.alloc (by simp) _)
  have XW := hide (show BoxV ((W.alloc (Obj.cells #[.slice ta x.t.length tc, u1, .int .i64 x.now, .int .i64 x.ver, u4, u5] 39)).alloc (Obj.cells #[.slice pa a.pa.length pc, p1, .bool a.de, .bool a.ov, p4, .int .i64 a.co] 34)) W.heap.size [.slice ta x.t.length tc, u1, .int .i64 x.now, .int .i64 x.ver, u4, u5] from (BoxV.made W [.slice ta x.t.length tc, u1, .int .i64 x.now, .int .i64 x.ver, u4, u5] 39).alloc _)
  have YW := hide (show BoxV ((W.alloc (Obj.cells #[.slice ta x.t.length tc, u1, .int .i64 x.now, .int .i64 x.ver, u4, u5] 39)).alloc (Obj.cells #[.slice pa a.pa.length pc, p1, .bool a.de, .bool a.ov, p4, .int .i64 a.co] 34)) (W.heap.size + 1) [.slice pa a.pa.length pc, p1, .bool a.de, .bool a.ov, p4, .int .i64 a.co] by have h := BoxV.made (W.alloc (Obj.cells #[.slice ta x.t.length tc, u1, .int .i64 x.now, .int .i64 x.ver, u4, u5] 39)) [.slice pa a.pa.length pc, p1, .bool a.de, .bool a.ov, p4, .int .i64 a.co] 34; simpa using h)
  obtain ⟨wd, hwd⟩ : ∃ wd, ((W.alloc (Obj.cells #[.slice ta x.t.length tc, u1, .int .i64 x.now, .int .i64 x.ver, u4, u5] 39)).alloc (Obj.cells #[.slice pa a.pa.length pc, p1, .bool a.de, .bool a.ov, p4, .int .i64 a.co] 34)).drew = wd := ⟨_, rfl⟩
  have K0 := hide (show Below W.heap.size W wd by rw [← hwd]; exact below_drewG KW.out)
  have X_0 := hide (show BoxV wd W.heap.size [.slice ta x.t.length tc, u1, .int .i64 x.now, .int .i64 x.ver, u4, u5] by rw [← hwd]; exact XW.out.drew)
  have Y_0 := hide (show BoxV wd (W.heap.size + 1) [.slice pa a.pa.length pc, p1, .bool a.de, .bool a.ov, p4, .int .i64 a.co] by rw [← hwd]; exact YW.out.drew)
  clear KA KW XW YW h0 h1 h4 h5 k0 k1 k4 t1 t2 t3 t4 q1 q2 q3 q4
  obtain ⟨rp, hrp0⟩ : ∃ rp, reachP x m a.pa a.to = rp := ⟨_, rfl⟩
  rw [hrp0]
  have HRP0 := hide hrp0.symm
  clear hrp0
  go_enter Tryz.func170, Tryz.ntmps170
  go_wp2
  apply join4 (F := fun n7 n8 g w9 => RF W w9 [.slice ta x.t.length tc, u1, .int .i64 x.now, .int .i64 x.ver, u4, u5] [.slice pa a.pa.length pc, p1, .bool a.de, .bool a.ov, p4, .int .i64 a.co] (.slice pa a.pa.length pc) (aboveL a.pa) n7 n8 g)
  · intro key
    refine wp_region_held_drew (S := (fun W' => BoxV W' (W.heap.size + 1) [.slice pa a.pa.length pc, p1, .bool a.de, .bool a.ov, p4, .int .i64 a.co])) (by kernel_rfl) (by rw [hwd]; exact Y_0.out) (fun hHeld => ?_)
    rw [hwd] at hHeld
    rw [hwd]
    simp only [List.size_toArray, List.length_cons, List.length_nil, Nat.reduceAdd, Array.replicate_succ, Array.replicate_zero, List.push_toArray, List.nil_append, List.cons_append]
    refine wpAnyH_take (i := 0) (v := ?_) rfl (by kernel_rfl) (by kernel_rfl) (by kernel_rfl) (fun _ _ _ h => h) (Or.inl ⟨by rfl, ?_⟩) (by assumption) ?_
    rotate_left
    · intro w hSw; (try dsimp only at hSw); have c0 := (hSw.2 0 _ rfl).1; go_simp; try with_reducible rfl
    simp only [Act.put, List.getElem_toArray, List.getElem_cons_zero, List.setIfInBounds_toArray, List.set_cons_zero]
    refine wpAnyH_take (i := 1) (v := ?_) rfl (by kernel_rfl) (by kernel_rfl) (by kernel_rfl) (fun _ _ _ h => h) (Or.inl ⟨by rfl, ?_⟩) (by assumption) ?_
    rotate_left
    · intro w hSw; (try dsimp only at hSw); have c0 := (hSw.2 0 _ rfl).1; go_simp; try with_reducible rfl
    simp only [Act.put, List.getElem_toArray, List.getElem_cons_succ, List.getElem_cons_zero, List.setIfInBounds_toArray, List.set_cons_succ, List.set_cons_zero]
    refine wpAnyH_take (i := 2) (v := ?_) rfl (by kernel_rfl) (by kernel_rfl) (by kernel_rfl) (fun _ _ _ h => h) (Or.inl ⟨by rfl, ?_⟩) (by assumption) ?_
    rotate_left
    · intro w hSw; (try dsimp only at hSw); have c0 := (hSw.2 0 _ rfl).1; go_simp; try with_reducible rfl
    simp only [Act.put, List.getElem_toArray, List.getElem_cons_succ, List.getElem_cons_zero, List.setIfInBounds_toArray, List.set_cons_succ, List.set_cons_zero]
    refine wpAnyH_take (i := 3) (v := ?_) rfl (by kernel_rfl) (by kernel_rfl) (by kernel_rfl) (fun _ _ _ h => h) (Or.inl ⟨by rfl, ?_⟩) (by assumption) ?_
    rotate_left
    · intro w hSw; (try dsimp only at hSw); have c0 := (hSw.2 0 _ rfl).1; go_simp; try with_reducible rfl
    simp only [Act.put, List.getElem_toArray, List.getElem_cons_succ, List.getElem_cons_zero, List.setIfInBounds_toArray, List.set_cons_succ, List.set_cons_zero]
    refine wpAnyH_take (i := 4) (v := ?_) rfl (by kernel_rfl) (by kernel_rfl) (by kernel_rfl) (fun _ _ _ h => h) (Or.inl ⟨by rfl, ?_⟩) (by assumption) ?_
    rotate_left
    · intro w hSw; (try dsimp only at hSw); have c0 := (hSw.2 0 _ rfl).1; go_simp; try with_reducible rfl
    simp only [Act.put, List.getElem_toArray, List.getElem_cons_succ, List.getElem_cons_zero, List.setIfInBounds_toArray, List.set_cons_succ, List.set_cons_zero]
    refine wpAnyH_ready (rs := [5, 7, 8]) (by kernel_rfl) (by simp) ?_
    refine AllReadyH.cons rfl (fun K hK => ?_) (AllReadyH.cons rfl (fun K hK => ?_) (AllReadyH.cons rfl (fun K hK => ?_) AllReadyH.nil))
    · go_simp
      refine (HA.out _ K0.out).mono ?_
      rintro e w1 ⟨rfl, hr, b1⟩
      have K1 := hide (K0.out.trans (b1.mono K0.out.size))
      have X_1 := hide (X_0.out.next b1)
      have Y_1 := hide (Y_0.out.next b1)
      obtain ⟨g, hg⟩ : ∃ g, wd.heap.size = g := ⟨_, rfl⟩
      rw [hg] at hr ⊢
      have R_1 := hide hr
      have lt_X_g : W.heap.size < g := by have := X_0.out.1; omega
      have lt_Y_g : (W.heap.size + 1) < g := by have := Y_0.out.1; omega
      clear hr b1 hg
      refine hK.out _ _ Y_1.out (fun hHeld2 => ?_)
      clear hK K hHeld
      have hHeld := hHeld2
      clear hHeld2
      simp only [List.setIfInBounds_toArray, List.set_cons_succ, List.set_cons_zero]
      refine wpAnyH_take (i := 6) (v := ?_) rfl (by kernel_rfl) (by kernel_rfl) (by kernel_rfl) (fun _ _ _ h => h) (Or.inl ⟨by rfl, ?_⟩) (by assumption) ?_
      rotate_left
      · intro w hSw; (try dsimp only at hSw); have c0 := (hSw.2 0 _ rfl).1; go_simp; try with_reducible rfl
      simp only [Act.put, List.getElem_toArray, List.getElem_cons_succ, List.getElem_cons_zero, List.setIfInBounds_toArray, List.set_cons_succ, List.set_cons_zero]
      refine wpAnyH_ready (rs := [7, 8]) (by kernel_rfl) (by simp) ?_
      refine AllReadyH.cons rfl (fun K hK => ?_) (AllReadyH.cons rfl (fun K hK => ?_) AllReadyH.nil)
      · go_simp
        obtain ⟨w2, hw2⟩ : ∃ w', w1.alloc (Obj.cells #[.slice none 0 0, .bool false] 203) = w' := ⟨_, rfl⟩
        have b2 : Below w1.heap.size w1 w2 := by rw [← hw2]; exact (Below.refl _ _).alloc (Nat.le_refl _) _
        have hS : BoxV w2 w1.heap.size [.slice none 0 0, .bool false] := by rw [← hw2]; exact BoxV.made _ _ _
        rw [hw2]
        have K2 := hide (K1.out.trans (b2.mono K1.out.size))
        have X_2 := hide (X_1.out.next b2)
        have Y_2 := hide (Y_1.out.next b2)
        have R_2 := hide (R_1.out.below b2)
        obtain ⟨n7, hn7⟩ : ∃ n, w1.heap.size = n := ⟨_, rfl⟩
        rw [hn7] at hS ⊢
        have S7_2 := hide hS
        have lt_X_S7 : W.heap.size < n7 := by have := X_1.out.1; omega
        have lt_Y_S7 : (W.heap.size + 1) < n7 := by have := Y_1.out.1; omega
        have lt_R_S7 : g < n7 := by have := R_1.out.1; omega
        clear hS b2 hn7 hw2
        refine hK.out _ _ Y_2.out (fun hHeld2 => ?_)
        clear hK K hHeld
        have hHeld := hHeld2
        clear hHeld2
        simp only [List.setIfInBounds_toArray, List.set_cons_succ, List.set_cons_zero]
        refine wpAnyH_ready (rs := [8]) (by kernel_rfl) (by simp) ?_
        refine AllReadyH.cons rfl (fun K hK => ?_) AllReadyH.nil
        go_simp
        obtain ⟨w3, hw3⟩ : ∃ w', w2.alloc (Obj.cells #[.slice none 0 0, .bool false] 203) = w' := ⟨_, rfl⟩
        have b3 : Below w2.heap.size w2 w3 := by rw [← hw3]; exact (Below.refl _ _).alloc (Nat.le_refl _) _
        have hS : BoxV w3 w2.heap.size [.slice none 0 0, .bool false] := by rw [← hw3]; exact BoxV.made _ _ _
        rw [hw3]
        have K3 := hide (K2.out.trans (b3.mono K2.out.size))
        have X_3 := hide (X_2.out.next b3)
        have Y_3 := hide (Y_2.out.next b3)
        have R_3 := hide (R_2.out.below b3)
        have S7_3 := hide (S7_2.out.next b3)
        obtain ⟨n8, hn8⟩ : ∃ n, w2.heap.size = n := ⟨_, rfl⟩
        rw [hn8] at hS ⊢
        have S8_3 := hide hS
        have lt_X_S8 : W.heap.size < n8 := by have := X_2.out.1; omega
        have lt_Y_S8 : (W.heap.size + 1) < n8 := by have := Y_2.out.1; omega
        have lt_R_S8 : g < n8 := by have := R_2.out.1; omega
        have lt_S7_S8 : n7 < n8 := by have := S7_2.out.1; omega
        clear hS b3 hn8 hw3
        refine hK.out _ _ Y_3.out (fun hHeld2 => ?_)
        clear hK K hHeld
        have hHeld := hHeld2
        clear hHeld2
        simp only [List.setIfInBounds_toArray, List.set_cons_succ, List.set_cons_zero]
        refine wpAnyH_ready (rs := [9]) (by kernel_rfl) (by simp) ?_
        refine AllReadyH.cons rfl (fun K hK => ?_) AllReadyH.nil
        obtain ⟨c0, f0⟩ := S7_3.out.2 0 _ rfl
        obtain ⟨c1, f1⟩ := S7_3.out.2 1 _ rfl
        go_simp
        obtain ⟨w4, hw4⟩ : ∃ w', ((w3.setCell ⟨n7, 0, none⟩ (.slice pa a.pa.length pc)).setCell ⟨n7, 1, none⟩ (.bool false)) = w' := ⟨_, rfl⟩
        rw [hw4]
        have K4 := hide (show Below W.heap.size W w4 by rw [← hw4]; exact (K3.out.setCell (by simp; omega) _).setCell (by simp; omega) _)
        have S7_4 := hide (show BoxV w4 n7 [.slice pa a.pa.length pc, .bool false] by rw [← hw4]; exact ((S7_3.out.set 0 (by decide) (.slice pa a.pa.length pc)).set 1 (by simp) (.bool false)))
        have X_4 := hide (show BoxV w4 W.heap.size _ by rw [← hw4]; exact (X_3.out.other _ _ (by simp; omega)).other _ _ (by simp; omega))
        have Y_4 := hide (show BoxV w4 (W.heap.size + 1) _ by rw [← hw4]; exact (Y_3.out.other _ _ (by simp; omega)).other _ _ (by simp; omega))
        have R_4 := hide (show RowS w4 g (aboveL a.pa) by rw [← hw4]; exact (R_3.out.setCell _ _ (by simp; omega)).setCell _ _ (by simp; omega))
        have S8_4 := hide (show BoxV w4 n8 _ by rw [← hw4]; exact (S8_3.out.other _ _ (by simp; omega)).other _ _ (by simp; omega))
        clear c0 c1 f0 f1 hw4
        refine hK.out _ _ Y_4.out (fun hHeld2 => ?_)
        clear hK K hHeld
        have hHeld := hHeld2
        clear hHeld2
        simp only [List.setIfInBounds_toArray, List.set_cons_succ, List.set_cons_zero]
        refine wpAnyH_ready (rs := [10]) (by kernel_rfl) (by simp) ?_
        refine AllReadyH.cons rfl (fun K hK => ?_) AllReadyH.nil
        obtain ⟨c0, f0⟩ := S8_4.out.2 0 _ rfl
        obtain ⟨c1, f1⟩ := S8_4.out.2 1 _ rfl
        go_simp
        obtain ⟨w5, hw5⟩ : ∃ w', ((w4.setCell ⟨n8, 0, none⟩ (.slice (some ⟨g, 0, none⟩) (aboveL a.pa).length (aboveL a.pa).length)).setCell ⟨n8, 1, none⟩ (.bool false)) = w' := ⟨_, rfl⟩
        rw [hw5]
        have K5 := hide (show Below W.heap.size W w5 by rw [← hw5]; exact (K4.out.setCell (by simp; omega) _).setCell (by simp; omega) _)
        have S8_5 := hide (show BoxV w5 n8 [.slice (some ⟨g, 0, none⟩) (aboveL a.pa).length (aboveL a.pa).length, .bool false] by rw [← hw5]; exact ((S8_4.out.set 0 (by decide) (.slice (some ⟨g, 0, none⟩) (aboveL a.pa).length (aboveL a.pa).length)).set 1 (by simp) (.bool false)))
        have X_5 := hide (show BoxV w5 W.heap.size _ by rw [← hw5]; exact (X_4.out.other _ _ (by simp; omega)).other _ _ (by simp; omega))
        have Y_5 := hide (show BoxV w5 (W.heap.size + 1) _ by rw [← hw5]; exact (Y_4.out.other _ _ (by simp; omega)).other _ _ (by simp; omega))
        have R_5 := hide (show RowS w5 g (aboveL a.pa) by rw [← hw5]; exact (R_4.out.setCell _ _ (by simp; omega)).setCell _ _ (by simp; omega))
        have S7_5 := hide (show BoxV w5 n7 _ by rw [← hw5]; exact (S7_4.out.other _ _ (by simp; omega)).other _ _ (by simp; omega))
        clear c0 c1 f0 f1 hw5
        refine hK.out _ _ Y_5.out (fun hHeld2 => ?_)
        clear hK K hHeld
        have hHeld := hHeld2
        clear hHeld2
        simp only [List.setIfInBounds_toArray, List.set_cons_succ, List.set_cons_zero]
        refine wpAnyH_done (by kernel_rfl) ?_ _
        clear hHeld
        exact key n7 n8 g w5 ⟨K5.out, X_5.out, Y_5.out, S7_5.out, S8_5.out, R_5.out⟩
      · go_simp
        obtain ⟨w2, hw2⟩ : ∃ w', w1.alloc (Obj.cells #[.slice none 0 0, .bool false] 203) = w' := ⟨_, rfl⟩
        have b2 : Below w1.heap.size w1 w2 := by rw [← hw2]; exact (Below.refl _ _).alloc (Nat.le_refl _) _
        have hS : BoxV w2 w1.heap.size [.slice none 0 0, .bool false] := by rw [← hw2]; exact BoxV.made _ _ _
        rw [hw2]
        have K2 := hide (K1.out.trans (b2.mono K1.out.size))
        have X_2 := hide (X_1.out.next b2)
        have Y_2 := hide (Y_1.out.next b2)
        have R_2 := hide (R_1.out.below b2)
        obtain ⟨n8, hn8⟩ : ∃ n, w1.heap.size = n := ⟨_, rfl⟩
        rw [hn8] at hS ⊢
        have S8_2 := hide hS
        have lt_X_S8 : W.heap.size < n8 := by have := X_1.out.1; omega
        have lt_Y_S8 : (W.heap.size + 1) < n8 := by have := Y_1.out.1; omega
        have lt_R_S8 : g < n8 := by have := R_1.out.1; omega
        clear hS b2 hn8 hw2
        refine hK.out _ _ Y_2.out (fun hHeld2 => ?_)
        clear hK K hHeld
        have hHeld := hHeld2
        clear hHeld2
        simp only [List.setIfInBounds_toArray, List.set_cons_succ, List.set_cons_zero]
        refine wpAnyH_ready (rs := [7]) (by kernel_rfl) (by simp) ?_
        refine AllReadyH.cons rfl (fun K hK => ?_) AllReadyH.nil
        go_simp
        obtain ⟨w3, hw3⟩ : ∃ w', w2.alloc (Obj.cells #[.slice none 0 0, .bool false] 203) = w' := ⟨_, rfl⟩
        have b3 : Below w2.heap.size w2 w3 := by rw [← hw3]; exact (Below.refl _ _).alloc (Nat.le_refl _) _
        have hS : BoxV w3 w2.heap.size [.slice none 0 0, .bool false] := by rw [← hw3]; exact BoxV.made _ _ _
        rw [hw3]
        have K3 := hide (K2.out.trans (b3.mono K2.out.size))
        have X_3 := hide (X_2.out.next b3)
        have Y_3 := hide (Y_2.out.next b3)
        have R_3 := hide (R_2.out.below b3)
        have S8_3 := hide (S8_2.out.next b3)
        obtain ⟨n7, hn7⟩ : ∃ n, w2.heap.size = n := ⟨_, rfl⟩
        rw [hn7] at hS ⊢
        have S7_3 := hide hS
        have lt_X_S7 : W.heap.size < n7 := by have := X_2.out.1; omega
        have lt_Y_S7 : (W.heap.size + 1) < n7 := by have := Y_2.out.1; omega
        have lt_R_S7 : g < n7 := by have := R_2.out.1; omega
        have lt_S8_S7 : n8 < n7 := by have := S8_2.out.1; omega
        clear hS b3 hn7 hw3
        refine hK.out _ _ Y_3.out (fun hHeld2 => ?_)
        clear hK K hHeld
        have hHeld := hHeld2
        clear hHeld2
        simp only [List.setIfInBounds_toArray, List.set_cons_succ, List.set_cons_zero]
        refine wpAnyH_ready (rs := [9]) (by kernel_rfl) (by simp) ?_
        refine AllReadyH.cons rfl (fun K hK => ?_) AllReadyH.nil
        obtain ⟨c0, f0⟩ := S7_3.out.2 0 _ rfl
        obtain ⟨c1, f1⟩ := S7_3.out.2 1 _ rfl
        go_simp
        obtain ⟨w4, hw4⟩ : ∃ w', ((w3.setCell ⟨n7, 0, none⟩ (.slice pa a.pa.length pc)).setCell ⟨n7, 1, none⟩ (.bool false)) = w' := ⟨_, rfl⟩
        rw [hw4]
        have K4 := hide (show Below W.heap.size W w4 by rw [← hw4]; exact (K3.out.setCell (by simp; omega) _).setCell (by simp; omega) _)
        have S7_4 := hide (show BoxV w4 n7 [.slice pa a.pa.length pc, .bool false] by rw [← hw4]; exact ((S7_3.out.set 0 (by decide) (.slice pa a.pa.length pc)).set 1 (by simp) (.bool false)))
        have X_4 := hide (show BoxV w4 W.heap.size _ by rw [← hw4]; exact (X_3.out.other _ _ (by simp; omega)).other _ _ (by simp; omega))
        have Y_4 := hide (show BoxV w4 (W.heap.size + 1) _ by rw [← hw4]; exact (Y_3.out.other _ _ (by simp; omega)).other _ _ (by simp; omega))
        have R_4 := hide (show RowS w4 g (aboveL a.pa) by rw [← hw4]; exact (R_3.out.setCell _ _ (by simp; omega)).setCell _ _ (by simp; omega))
        have S8_4 := hide (show BoxV w4 n8 _ by rw [← hw4]; exact (S8_3.out.other _ _ (by simp; omega)).other _ _ (by simp; omega))
        clear c0 c1 f0 f1 hw4
        refine hK.out _ _ Y_4.out (fun hHeld2 => ?_)
        clear hK K hHeld
        have hHeld := hHeld2
        clear hHeld2
        simp only [List.setIfInBounds_toArray, List.set_cons_succ, List.set_cons_zero]
        refine wpAnyH_ready (rs := [10]) (by kernel_rfl) (by simp) ?_
        refine AllReadyH.cons rfl (fun K hK => ?_) AllReadyH.nil
        obtain ⟨c0, f0⟩ := S8_4.out.2 0 _ rfl
        obtain ⟨c1, f1⟩ := S8_4.out.2 1 _ rfl
        go_simp
        obtain ⟨w5, hw5⟩ : ∃ w', ((w4.setCell ⟨n8, 0, none⟩ (.slice (some ⟨g, 0, none⟩) (aboveL a.pa).length (aboveL a.pa).length)).setCell ⟨n8, 1, none⟩ (.bool false)) = w' := ⟨_, rfl⟩
        rw [hw5]
        have K5 := hide (show Below W.heap.size W w5 by rw [← hw5]; exact (K4.out.setCell (by simp; omega) _).setCell (by simp; omega) _)
        have S8_5 := hide (show BoxV w5 n8 [.slice (some ⟨g, 0, none⟩) (aboveL a.pa).length (aboveL a.pa).length, .bool false] by rw [← hw5]; exact ((S8_4.out.set 0 (by decide) (.slice (some ⟨g, 0, none⟩) (aboveL a.pa).length (aboveL a.pa).length)).set 1 (by simp) (.bool false)))
        have X_5 := hide (show BoxV w5 W.heap.size _ by rw [← hw5]; exact (X_4.out.other _ _ (by simp; omega)).other _ _ (by simp; omega))
        have Y_5 := hide (show BoxV w5 (W.heap.size + 1) _ by rw [← hw5]; exact (Y_4.out.other _ _ (by simp; omega)).other _ _ (by simp; omega))
        have R_5 := hide (show RowS w5 g (aboveL a.pa) by rw [← hw5]; exact (R_4.out.setCell _ _ (by simp; omega)).setCell _ _ (by simp; omega))
        have S7_5 := hide (show BoxV w5 n7 _ by rw [← hw5]; exact (S7_4.out.other _ _ (by simp; omega)).other _ _ (by simp; omega))
        clear c0 c1 f0 f1 hw5
        refine hK.out _ _ Y_5.out (fun hHeld2 => ?_)
        clear hK K hHeld
        have hHeld := hHeld2
        clear hHeld2
        simp only [List.setIfInBounds_toArray, List.set_cons_succ, List.set_cons_zero]
        refine wpAnyH_done (by kernel_rfl) ?_ _
        clear hHeld
        exact key n7 n8 g w5 ⟨K5.out, X_5.out, Y_5.out, S7_5.out, S8_5.out, R_5.out⟩
    · go_simp
      obtain ⟨w1, hw1⟩ : ∃ w', wd.alloc (Obj.cells #[.slice none 0 0, .bool false] 203) = w' := ⟨_, rfl⟩
      have b1 : Below wd.heap.size wd w1 := by rw [← hw1]; exact (Below.refl _ _).alloc (Nat.le_refl _) _
      have hS : BoxV w1 wd.heap.size [.slice none 0 0, .bool false] := by rw [← hw1]; exact BoxV.made _ _ _
      rw [hw1]
      have K1 := hide (K0.out.trans (b1.mono K0.out.size))
      have X_1 := hide (X_0.out.next b1)
      have Y_1 := hide (Y_0.out.next b1)
      obtain ⟨n7, hn7⟩ : ∃ n, wd.heap.size = n := ⟨_, rfl⟩
      rw [hn7] at hS ⊢
      have S7_1 := hide hS
      have lt_X_S7 : W.heap.size < n7 := by have := X_0.out.1; omega
      have lt_Y_S7 : (W.heap.size + 1) < n7 := by have := Y_0.out.1; omega
      clear hS b1 hn7 hw1
      refine hK.out _ _ Y_1.out (fun hHeld2 => ?_)
      clear hK K hHeld
      have hHeld := hHeld2
      clear hHeld2
      simp only [List.setIfInBounds_toArray, List.set_cons_succ, List.set_cons_zero]
      refine wpAnyH_ready (rs := [5, 8]) (by kernel_rfl) (by simp) ?_
      refine AllReadyH.cons rfl (fun K hK => ?_) (AllReadyH.cons rfl (fun K hK => ?_) AllReadyH.nil)
      · go_simp
        refine (HA.out _ K1.out).mono ?_
        rintro e w2 ⟨rfl, hr, b2⟩
        have K2 := hide (K1.out.trans (b2.mono K1.out.size))
        have X_2 := hide (X_1.out.next b2)
        have Y_2 := hide (Y_1.out.next b2)
        have S7_2 := hide (S7_1.out.next b2)
        obtain ⟨g, hg⟩ : ∃ g, w1.heap.size = g := ⟨_, rfl⟩
        rw [hg] at hr ⊢
        have R_2 := hide hr
        have lt_X_g : W.heap.size < g := by have := X_1.out.1; omega
        have lt_Y_g : (W.heap.size + 1) < g := by have := Y_1.out.1; omega
        have lt_S7_g : n7 < g := by have := S7_1.out.1; omega
        clear hr b2 hg
        refine hK.out _ _ Y_2.out (fun hHeld2 => ?_)
        clear hK K hHeld
        have hHeld := hHeld2
        clear hHeld2
        simp only [List.setIfInBounds_toArray, List.set_cons_succ, List.set_cons_zero]
        refine wpAnyH_take (i := 6) (v := ?_) rfl (by kernel_rfl) (by kernel_rfl) (by kernel_rfl) (fun _ _ _ h => h) (Or.inl ⟨by rfl, ?_⟩) (by assumption) ?_
        rotate_left
        · intro w hSw; (try dsimp only at hSw); have c0 := (hSw.2 0 _ rfl).1; go_simp; try with_reducible rfl
        simp only [Act.put, List.getElem_toArray, List.getElem_cons_succ, List.getElem_cons_zero, List.setIfInBounds_toArray, List.set_cons_succ, List.set_cons_zero]
        refine wpAnyH_ready (rs := [8]) (by kernel_rfl) (by simp) ?_
        refine AllReadyH.cons rfl (fun K hK => ?_) AllReadyH.nil
        go_simp
        obtain ⟨w3, hw3⟩ : ∃ w', w2.alloc (Obj.cells #[.slice none 0 0, .bool false] 203) = w' := ⟨_, rfl⟩
        have b3 : Below w2.heap.size w2 w3 := by rw [← hw3]; exact (Below.refl _ _).alloc (Nat.le_refl _) _
        have hS : BoxV w3 w2.heap.size [.slice none 0 0, .bool false] := by rw [← hw3]; exact BoxV.made _ _ _
        rw [hw3]
        have K3 := hide (K2.out.trans (b3.mono K2.out.size))
        have X_3 := hide (X_2.out.next b3)
        have Y_3 := hide (Y_2.out.next b3)
        have S7_3 := hide (S7_2.out.next b3)
        have R_3 := hide (R_2.out.below b3)
        obtain ⟨n8, hn8⟩ : ∃ n, w2.heap.size = n := ⟨_, rfl⟩
        rw [hn8] at hS ⊢
        have S8_3 := hide hS
        have lt_X_S8 : W.heap.size < n8 := by have := X_2.out.1; omega
        have lt_Y_S8 : (W.heap.size + 1) < n8 := by have := Y_2.out.1; omega
        have lt_S7_S8 : n7 < n8 := by have := S7_2.out.1; omega
        have lt_R_S8 : g < n8 := by have := R_2.out.1; omega
        clear hS b3 hn8 hw3
        refine hK.out _ _ Y_3.out (fun hHeld2 => ?_)
        clear hK K hHeld
        have hHeld := hHeld2
        clear hHeld2
        simp only [List.setIfInBounds_toArray, List.set_cons_succ, List.set_cons_zero]
        refine wpAnyH_ready (rs := [9]) (by kernel_rfl) (by simp) ?_
        refine AllReadyH.cons rfl (fun K hK => ?_) AllReadyH.nil
        obtain ⟨c0, f0⟩ := S7_3.out.2 0 _ rfl
        obtain ⟨c1, f1⟩ := S7_3.out.2 1 _ rfl
        go_simp
        obtain ⟨w4, hw4⟩ : ∃ w', ((w3.setCell ⟨n7, 0, none⟩ (.slice pa a.pa.length pc)).setCell ⟨n7, 1, none⟩ (.bool false)) = w' := ⟨_, rfl⟩
        rw [hw4]
        have K4 := hide (show Below W.heap.size W w4 by rw [← hw4]; exact (K3.out.setCell (by simp; omega) _).setCell (by simp; omega) _)
        have S7_4 := hide (show BoxV w4 n7 [.slice pa a.pa.length pc, .bool false] by rw [← hw4]; exact ((S7_3.out.set 0 (by decide) (.slice pa a.pa.length pc)).set 1 (by simp) (.bool false)))
        have X_4 := hide (show BoxV w4 W.heap.size _ by rw [← hw4]; exact (X_3.out.other _ _ (by simp; omega)).other _ _ (by simp; omega))
        have Y_4 := hide (show BoxV w4 (W.heap.size + 1) _ by rw [← hw4]; exact (Y_3.out.other _ _ (by simp; omega)).other _ _ (by simp; omega))
        have R_4 := hide (show RowS w4 g (aboveL a.pa) by rw [← hw4]; exact (R_3.out.setCell _ _ (by simp; omega)).setCell _ _ (by simp; omega))
        have S8_4 := hide (show BoxV w4 n8 _ by rw [← hw4]; exact (S8_3.out.other _ _ (by simp; omega)).other _ _ (by simp; omega))
        clear c0 c1 f0 f1 hw4
        refine hK.out _ _ Y_4.out (fun hHeld2 => ?_)
        clear hK K hHeld
        have hHeld := hHeld2
        clear hHeld2
        simp only [List.setIfInBounds_toArray, List.set_cons_succ, List.set_cons_zero]
        refine wpAnyH_ready (rs := [10]) (by kernel_rfl) (by simp) ?_
        refine AllReadyH.cons rfl (fun K hK => ?_) AllReadyH.nil
        obtain ⟨c0, f0⟩ := S8_4.out.2 0 _ rfl
        obtain ⟨c1, f1⟩ := S8_4.out.2 1 _ rfl
        go_simp
        obtain ⟨w5, hw5⟩ : ∃ w', ((w4.setCell ⟨n8, 0, none⟩ (.slice (some ⟨g, 0, none⟩) (aboveL a.pa).length (aboveL a.pa).length)).setCell ⟨n8, 1, none⟩ (.bool false)) = w' := ⟨_, rfl⟩
        rw [hw5]
        have K5 := hide (show Below W.heap.size W w5 by rw [← hw5]; exact (K4.out.setCell (by simp; omega) _).setCell (by simp; omega) _)
        have S8_5 := hide (show BoxV w5 n8 [.slice (some ⟨g, 0, none⟩) (aboveL a.pa).length (aboveL a.pa).length, .bool false] by rw [← hw5]; exact ((S8_4.out.set 0 (by decide) (.slice (some ⟨g, 0, none⟩) (aboveL a.pa).length (aboveL a.pa).length)).set 1 (by simp) (.bool false)))
        have X_5 := hide (show BoxV w5 W.heap.size _ by rw [← hw5]; exact (X_4.out.other _ _ (by simp; omega)).other _ _ (by simp; omega))
        have Y_5 := hide (show BoxV w5 (W.heap.size + 1) _ by rw [← hw5]; exact (Y_4.out.other _ _ (by simp; omega)).other _ _ (by simp; omega))
        have R_5 := hide (show RowS w5 g (aboveL a.pa) by rw [← hw5]; exact (R_4.out.setCell _ _ (by simp; omega)).setCell _ _ (by simp; omega))
        have S7_5 := hide (show BoxV w5 n7 _ by rw [← hw5]; exact (S7_4.out.other _ _ (by simp; omega)).other _ _ (by simp; omega))
        clear c0 c1 f0 f1 hw5
        refine hK.out _ _ Y_5.out (fun hHeld2 => ?_)
        clear hK K hHeld
        have hHeld := hHeld2
        clear hHeld2
        simp only [List.setIfInBounds_toArray, List.set_cons_succ, List.set_cons_zero]
        refine wpAnyH_done (by kernel_rfl) ?_ _
        clear hHeld
        exact key n7 n8 g w5 ⟨K5.out, X_5.out, Y_5.out, S7_5.out, S8_5.out, R_5.out⟩
      · go_simp
        obtain ⟨w2, hw2⟩ : ∃ w', w1.alloc (Obj.cells #[.slice none 0 0, .bool false] 203) = w' := ⟨_, rfl⟩
        have b2 : Below w1.heap.size w1 w2 := by rw [← hw2]; exact (Below.refl _ _).alloc (Nat.le_refl _) _
        have hS : BoxV w2 w1.heap.size [.slice none 0 0, .bool false] := by rw [← hw2]; exact BoxV.made _ _ _
        rw [hw2]
        have K2 := hide (K1.out.trans (b2.mono K1.out.size))
        have X_2 := hide (X_1.out.next b2)
        have Y_2 := hide (Y_1.out.next b2)
        have S7_2 := hide (S7_1.out.next b2)
        obtain ⟨n8, hn8⟩ : ∃ n, w1.heap.size = n := ⟨_, rfl⟩
        rw [hn8] at hS ⊢
        have S8_2 := hide hS
        have lt_X_S8 : W.heap.size < n8 := by have := X_1.out.1; omega
        have lt_Y_S8 : (W.heap.size + 1) < n8 := by have := Y_1.out.1; omega
        have lt_S7_S8 : n7 < n8 := by have := S7_1.out.1; omega
        clear hS b2 hn8 hw2
        refine hK.out _ _ Y_2.out (fun hHeld2 => ?_)
        clear hK K hHeld
        have hHeld := hHeld2
        clear hHeld2
        simp only [List.setIfInBounds_toArray, List.set_cons_succ, List.set_cons_zero]
        refine wpAnyH_ready (rs := [5]) (by kernel_rfl) (by simp) ?_
        refine AllReadyH.cons rfl (fun K hK => ?_) AllReadyH.nil
        go_simp
        refine (HA.out _ K2.out).mono ?_
        rintro e w3 ⟨rfl, hr, b3⟩
        have K3 := hide (K2.out.trans (b3.mono K2.out.size))
        have X_3 := hide (X_2.out.next b3)
        have Y_3 := hide (Y_2.out.next b3)
        have S7_3 := hide (S7_2.out.next b3)
        have S8_3 := hide (S8_2.out.next b3)
        obtain ⟨g, hg⟩ : ∃ g, w2.heap.size = g := ⟨_, rfl⟩
        rw [hg] at hr ⊢
        have R_3 := hide hr
        have lt_X_g : W.heap.size < g := by have := X_2.out.1; omega
        have lt_Y_g : (W.heap.size + 1) < g := by have := Y_2.out.1; omega
        have lt_S7_g : n7 < g := by have := S7_2.out.1; omega
        have lt_S8_g : n8 < g := by have := S8_2.out.1; omega
        clear hr b3 hg
        refine hK.out _ _ Y_3.out (fun hHeld2 => ?_)
        clear hK K hHeld
        have hHeld := hHeld2
        clear hHeld2
        simp only [List.setIfInBounds_toArray, List.set_cons_succ, List.set_cons_zero]
        refine wpAnyH_take (i := 6) (v := ?_) rfl (by kernel_rfl) (by kernel_rfl) (by kernel_rfl) (fun _ _ _ h => h) (Or.inl ⟨by rfl, ?_⟩) (by assumption) ?_
        rotate_left
        · intro w hSw; (try dsimp only at hSw); have c0 := (hSw.2 0 _ rfl).1; go_simp; try with_reducible rfl
        simp only [Act.put, List.getElem_toArray, List.getElem_cons_succ, List.getElem_cons_zero, List.setIfInBounds_toArray, List.set_cons_succ, List.set_cons_zero]
        refine wpAnyH_ready (rs := [9]) (by kernel_rfl) (by simp) ?_
        refine AllReadyH.cons rfl (fun K hK => ?_) AllReadyH.nil
        obtain ⟨c0, f0⟩ := S7_3.out.2 0 _ rfl
        obtain ⟨c1, f1⟩ := S7_3.out.2 1 _ rfl
        go_simp
        obtain ⟨w4, hw4⟩ : ∃ w', ((w3.setCell ⟨n7, 0, none⟩ (.slice pa a.pa.length pc)).setCell ⟨n7, 1, none⟩ (.bool false)) = w' := ⟨_, rfl⟩
        rw [hw4]
        have K4 := hide (show Below W.heap.size W w4 by rw [← hw4]; exact (K3.out.setCell (by simp; omega) _).setCell (by simp; omega) _)
        have S7_4 := hide (show BoxV w4 n7 [.slice pa a.pa.length pc, .bool false] by rw [← hw4]; exact ((S7_3.out.set 0 (by decide) (.slice pa a.pa.length pc)).set 1 (by simp) (.bool false)))
        have X_4 := hide (show BoxV w4 W.heap.size _ by rw [← hw4]; exact (X_3.out.other _ _ (by simp; omega)).other _ _ (by simp; omega))
        have Y_4 := hide (show BoxV w4 (W.heap.size + 1) _ by rw [← hw4]; exact (Y_3.out.other _ _ (by simp; omega)).other _ _ (by simp; omega))
        have R_4 := hide (show RowS w4 g (aboveL a.pa) by rw [← hw4]; exact (R_3.out.setCell _ _ (by simp; omega)).setCell _ _ (by simp; omega))
        have S8_4 := hide (show BoxV w4 n8 _ by rw [← hw4]; exact (S8_3.out.other _ _ (by simp; omega)).other _ _ (by simp; omega))
        clear c0 c1 f0 f1 hw4
        refine hK.out _ _ Y_4.out (fun hHeld2 => ?_)
        clear hK K hHeld
        have hHeld := hHeld2
        clear hHeld2
        simp only [List.setIfInBounds_toArray, List.set_cons_succ, List.set_cons_zero]
        refine wpAnyH_ready (rs := [10]) (by kernel_rfl) (by simp) ?_
        refine AllReadyH.cons rfl (fun K hK => ?_) AllReadyH.nil
        obtain ⟨c0, f0⟩ := S8_4.out.2 0 _ rfl
        obtain ⟨c1, f1⟩ := S8_4.out.2 1 _ rfl
        go_simp
        obtain ⟨w5, hw5⟩ : ∃ w', ((w4.setCell ⟨n8, 0, none⟩ (.slice (some ⟨g, 0, none⟩) (aboveL a.pa).length (aboveL a.pa).length)).setCell ⟨n8, 1, none⟩ (.bool false)) = w' := ⟨_, rfl⟩
        rw [hw5]
        have K5 := hide (show Below W.heap.size W w5 by rw [← hw5]; exact (K4.out.setCell (by simp; omega) _).setCell (by simp; omega) _)
        have S8_5 := hide (show BoxV w5 n8 [.slice (some ⟨g, 0, none⟩) (aboveL a.pa).length (aboveL a.pa).length, .bool false] by rw [← hw5]; exact ((S8_4.out.set 0 (by decide) (.slice (some ⟨g, 0, none⟩) (aboveL a.pa).length (aboveL a.pa).length)).set 1 (by simp) (.bool false)))
        have X_5 := hide (show BoxV w5 W.heap.size _ by rw [← hw5]; exact (X_4.out.other _ _ (by simp; omega)).other _ _ (by simp; omega))
        have Y_5 := hide (show BoxV w5 (W.heap.size + 1) _ by rw [← hw5]; exact (Y_4.out.other _ _ (by simp; omega)).other _ _ (by simp; omega))
        have R_5 := hide (show RowS w5 g (aboveL a.pa) by rw [← hw5]; exact (R_4.out.setCell _ _ (by simp; omega)).setCell _ _ (by simp; omega))
        have S7_5 := hide (show BoxV w5 n7 _ by rw [← hw5]; exact (S7_4.out.other _ _ (by simp; omega)).other _ _ (by simp; omega))
        clear c0 c1 f0 f1 hw5
        refine hK.out _ _ Y_5.out (fun hHeld2 => ?_)
        clear hK K hHeld
        have hHeld := hHeld2
        clear hHeld2
        simp only [List.setIfInBounds_toArray, List.set_cons_succ, List.set_cons_zero]
        refine wpAnyH_done (by kernel_rfl) ?_ _
        clear hHeld
        exact key n7 n8 g w5 ⟨K5.out, X_5.out, Y_5.out, S7_5.out, S8_5.out, R_5.out⟩
    · go_simp
      obtain ⟨w1, hw1⟩ : ∃ w', wd.alloc (Obj.cells #[.slice none 0 0, .bool false] 203) = w' := ⟨_, rfl⟩
      have b1 : Below wd.heap.size wd w1 := by rw [← hw1]; exact (Below.refl _ _).alloc (Nat.le_refl _) _
      have hS : BoxV w1 wd.heap.size [.slice none 0 0, .bool false] := by rw [← hw1]; exact BoxV.made _ _ _
      rw [hw1]
      have K1 := hide (K0.out.trans (b1.mono K0.out.size))
      have X_1 := hide (X_0.out.next b1)
      have Y_1 := hide (Y_0.out.next b1)
      obtain ⟨n8, hn8⟩ : ∃ n, wd.heap.size = n := ⟨_, rfl⟩
      rw [hn8] at hS ⊢
      have S8_1 := hide hS
      have lt_X_S8 : W.heap.size < n8 := by have := X_0.out.1; omega
      have lt_Y_S8 : (W.heap.size + 1) < n8 := by have := Y_0.out.1; omega
      clear hS b1 hn8 hw1
      refine hK.out _ _ Y_1.out (fun hHeld2 => ?_)
      clear hK K hHeld
      have hHeld := hHeld2
      clear hHeld2
      simp only [List.setIfInBounds_toArray, List.set_cons_succ, List.set_cons_zero]
      refine wpAnyH_ready (rs := [5, 7]) (by kernel_rfl) (by simp) ?_
      refine AllReadyH.cons rfl (fun K hK => ?_) (AllReadyH.cons rfl (fun K hK => ?_) AllReadyH.nil)
      · go_simp
        refine (HA.out _ K1.out).mono ?_
        rintro e w2 ⟨rfl, hr, b2⟩
        have K2 := hide (K1.out.trans (b2.mono K1.out.size))
        have X_2 := hide (X_1.out.next b2)
        have Y_2 := hide (Y_1.out.next b2)
        have S8_2 := hide (S8_1.out.next b2)
        obtain ⟨g, hg⟩ : ∃ g, w1.heap.size = g := ⟨_, rfl⟩
        rw [hg] at hr ⊢
        have R_2 := hide hr
        have lt_X_g : W.heap.size < g := by have := X_1.out.1; omega
        have lt_Y_g : (W.heap.size + 1) < g := by have := Y_1.out.1; omega
        have lt_S8_g : n8 < g := by have := S8_1.out.1; omega
        clear hr b2 hg
        refine hK.out _ _ Y_2.out (fun hHeld2 => ?_)
        clear hK K hHeld
        have hHeld := hHeld2
        clear hHeld2
        simp only [List.setIfInBounds_toArray, List.set_cons_succ, List.set_cons_zero]
        refine wpAnyH_take (i := 6) (v := ?_) rfl (by kernel_rfl) (by kernel_rfl) (by kernel_rfl) (fun _ _ _ h => h) (Or.inl ⟨by rfl, ?_⟩) (by assumption) ?_
        rotate_left
        · intro w hSw; (try dsimp only at hSw); have c0 := (hSw.2 0 _ rfl).1; go_simp; try with_reducible rfl
        simp only [Act.put, List.getElem_toArray, List.getElem_cons_succ, List.getElem_cons_zero, List.setIfInBounds_toArray, List.set_cons_succ, List.set_cons_zero]
        refine wpAnyH_ready (rs := [7]) (by kernel_rfl) (by simp) ?_
        refine AllReadyH.cons rfl (fun K hK => ?_) AllReadyH.nil
        go_simp
        obtain ⟨w3, hw3⟩ : ∃ w', w2.alloc (Obj.cells #[.slice none 0 0, .bool false] 203) = w' := ⟨_, rfl⟩
        have b3 : Below w2.heap.size w2 w3 := by rw [← hw3]; exact (Below.refl _ _).alloc (Nat.le_refl _) _
        have hS : BoxV w3 w2.heap.size [.slice none 0 0, .bool false] := by rw [← hw3]; exact BoxV.made _ _ _
        rw [hw3]
        have K3 := hide (K2.out.trans (b3.mono K2.out.size))
        have X_3 := hide (X_2.out.next b3)
        have Y_3 := hide (Y_2.out.next b3)
        have S8_3 := hide (S8_2.out.next b3)
        have R_3 := hide (R_2.out.below b3)
        obtain ⟨n7, hn7⟩ : ∃ n, w2.heap.size = n := ⟨_, rfl⟩
        rw [hn7] at hS ⊢
        have S7_3 := hide hS
        have lt_X_S7 : W.heap.size < n7 := by have := X_2.out.1; omega
        have lt_Y_S7 : (W.heap.size + 1) < n7 := by have := Y_2.out.1; omega
        have lt_S8_S7 : n8 < n7 := by have := S8_2.out.1; omega
        have lt_R_S7 : g < n7 := by have := R_2.out.1; omega
        clear hS b3 hn7 hw3
        refine hK.out _ _ Y_3.out (fun hHeld2 => ?_)
        clear hK K hHeld
        have hHeld := hHeld2
        clear hHeld2
        simp only [List.setIfInBounds_toArray, List.set_cons_succ, List.set_cons_zero]
        refine wpAnyH_ready (rs := [9]) (by kernel_rfl) (by simp) ?_
        refine AllReadyH.cons rfl (fun K hK => ?_) AllReadyH.nil
        obtain ⟨c0, f0⟩ := S7_3.out.2 0 _ rfl
        obtain ⟨c1, f1⟩ := S7_3.out.2 1 _ rfl
        go_simp
        obtain ⟨w4, hw4⟩ : ∃ w', ((w3.setCell ⟨n7, 0, none⟩ (.slice pa a.pa.length pc)).setCell ⟨n7, 1, none⟩ (.bool false)) = w' := ⟨_, rfl⟩
        rw [hw4]
        have K4 := hide (show Below W.heap.size W w4 by rw [← hw4]; exact (K3.out.setCell (by simp; omega) _).setCell (by simp; omega) _)
        have S7_4 := hide (show BoxV w4 n7 [.slice pa a.pa.length pc, .bool false] by rw [← hw4]; exact ((S7_3.out.set 0 (by decide) (.slice pa a.pa.length pc)).set 1 (by simp) (.bool false)))
        have X_4 := hide (show BoxV w4 W.heap.size _ by rw [← hw4]; exact (X_3.out.other _ _ (by simp; omega)).other _ _ (by simp; omega))
        have Y_4 := hide (show BoxV w4 (W.heap.size + 1) _ by rw [← hw4]; exact (Y_3.out.other _ _ (by simp; omega)).other _ _ (by simp; omega))
        have R_4 := hide (show RowS w4 g (aboveL a.pa) by rw [← hw4]; exact (R_3.out.setCell _ _ (by simp; omega)).setCell _ _ (by simp; omega))
        have S8_4 := hide (show BoxV w4 n8 _ by rw [← hw4]; exact (S8_3.out.other _ _ (by simp; omega)).other _ _ (by simp; omega))
        clear c0 c1 f0 f1 hw4
        refine hK.out _ _ Y_4.out (fun hHeld2 => ?_)
        clear hK K hHeld
        have hHeld := hHeld2
        clear hHeld2
        simp only [List.setIfInBounds_toArray, List.set_cons_succ, List.set_cons_zero]
        refine wpAnyH_ready (rs := [10]) (by kernel_rfl) (by simp) ?_
        refine AllReadyH.cons rfl (fun K hK => ?_) AllReadyH.nil
        obtain ⟨c0, f0⟩ := S8_4.out.2 0 _ rfl
        obtain ⟨c1, f1⟩ := S8_4.out.2 1 _ rfl
        go_simp
        obtain ⟨w5, hw5⟩ : ∃ w', ((w4.setCell ⟨n8, 0, none⟩ (.slice (some ⟨g, 0, none⟩) (aboveL a.pa).length (aboveL a.pa).length)).setCell ⟨n8, 1, none⟩ (.bool false)) = w' := ⟨_, rfl⟩
        rw [hw5]
        have K5 := hide (show Below W.heap.size W w5 by rw [← hw5]; exact (K4.out.setCell (by simp; omega) _).setCell (by simp; omega) _)
        have S8_5 := hide (show BoxV w5 n8 [.slice (some ⟨g, 0, none⟩) (aboveL a.pa).length (aboveL a.pa).length, .bool false] by rw [← hw5]; exact ((S8_4.out.set 0 (by decide) (.slice (some ⟨g, 0, none⟩) (aboveL a.pa).length (aboveL a.pa).length)).set 1 (by simp) (.bool false)))
        have X_5 := hide (show BoxV w5 W.heap.size _ by rw [← hw5]; exact (X_4.out.other _ _ (by simp; omega)).other _ _ (by simp; omega))
        have Y_5 := hide (show BoxV w5 (W.heap.size + 1) _ by rw [← hw5]; exact (Y_4.out.other _ _ (by simp; omega)).other _ _ (by simp; omega))
        have R_5 := hide (show RowS w5 g (aboveL a.pa) by rw [← hw5]; exact (R_4.out.setCell _ _ (by simp; omega)).setCell _ _ (by simp; omega))
        have S7_5 := hide (show BoxV w5 n7 _ by rw [← hw5]; exact (S7_4.out.other _ _ (by simp; omega)).other _ _ (by simp; omega))
        clear c0 c1 f0 f1 hw5
        refine hK.out _ _ Y_5.out (fun hHeld2 => ?_)
        clear hK K hHeld
        have hHeld := hHeld2
        clear hHeld2
        simp only [List.setIfInBounds_toArray, List.set_cons_succ, List.set_cons_zero]
        refine wpAnyH_done (by kernel_rfl) ?_ _
        clear hHeld
        exact key n7 n8 g w5 ⟨K5.out, X_5.out, Y_5.out, S7_5.out, S8_5.out, R_5.out⟩
      · go_simp
        obtain ⟨w2, hw2⟩ : ∃ w', w1.alloc (Obj.cells #[.slice none 0 0, .bool false] 203) = w' := ⟨_, rfl⟩
        have b2 : Below w1.heap.size w1 w2 := by rw [← hw2]; exact (Below.refl _ _).alloc (Nat.le_refl _) _
        have hS : BoxV w2 w1.heap.size [.slice none 0 0, .bool false] := by rw [← hw2]; exact BoxV.made _ _ _
        rw [hw2]
        have K2 := hide (K1.out.trans (b2.mono K1.out.size))
        have X_2 := hide (X_1.out.next b2)
        have Y_2 := hide (Y_1.out.next b2)
        have S8_2 := hide (S8_1.out.next b2)
        obtain ⟨n7, hn7⟩ : ∃ n, w1.heap.size = n := ⟨_, rfl⟩
        rw [hn7] at hS ⊢
        have S7_2 := hide hS
        have lt_X_S7 : W.heap.size < n7 := by have := X_1.out.1; omega
        have lt_Y_S7 : (W.heap.size + 1) < n7 := by have := Y_1.out.1; omega
        have lt_S8_S7 : n8 < n7 := by have := S8_1.out.1; omega
        clear hS b2 hn7 hw2
        refine hK.out _ _ Y_2.out (fun hHeld2 => ?_)
        clear hK K hHeld
        have hHeld := hHeld2
        clear hHeld2
        simp only [List.setIfInBounds_toArray, List.set_cons_succ, List.set_cons_zero]
        refine wpAnyH_ready (rs := [5]) (by kernel_rfl) (by simp) ?_
        refine AllReadyH.cons rfl (fun K hK => ?_) AllReadyH.nil
        go_simp
        refine (HA.out _ K2.out).mono ?_
        rintro e w3 ⟨rfl, hr, b3⟩
        have K3 := hide (K2.out.trans (b3.mono K2.out.size))
        have X_3 := hide (X_2.out.next b3)
        have Y_3 := hide (Y_2.out.next b3)
        have S8_3 := hide (S8_2.out.next b3)
        have S7_3 := hide (S7_2.out.next b3)
        obtain ⟨g, hg⟩ : ∃ g, w2.heap.size = g := ⟨_, rfl⟩
        rw [hg] at hr ⊢
        have R_3 := hide hr
        have lt_X_g : W.heap.size < g := by have := X_2.out.1; omega
        have lt_Y_g : (W.heap.size + 1) < g := by have := Y_2.out.1; omega
        have lt_S8_g : n8 < g := by have := S8_2.out.1; omega
        have lt_S7_g : n7 < g := by have := S7_2.out.1; omega
        clear hr b3 hg
        refine hK.out _ _ Y_3.out (fun hHeld2 => ?_)
        clear hK K hHeld
        have hHeld := hHeld2
        clear hHeld2
        simp only [List.setIfInBounds_toArray, List.set_cons_succ, List.set_cons_zero]
        refine wpAnyH_take (i := 6) (v := ?_) rfl (by kernel_rfl) (by kernel_rfl) (by kernel_rfl) (fun _ _ _ h => h) (Or.inl ⟨by rfl, ?_⟩) (by assumption) ?_
        rotate_left
        · intro w hSw; (try dsimp only at hSw); have c0 := (hSw.2 0 _ rfl).1; go_simp; try with_reducible rfl
        simp only [Act.put, List.getElem_toArray, List.getElem_cons_succ, List.getElem_cons_zero, List.setIfInBounds_toArray, List.set_cons_succ, List.set_cons_zero]
        refine wpAnyH_ready (rs := [9]) (by kernel_rfl) (by simp) ?_
        refine AllReadyH.cons rfl (fun K hK => ?_) AllReadyH.nil
        obtain ⟨c0, f0⟩ := S7_3.out.2 0 _ rfl
        obtain ⟨c1, f1⟩ := S7_3.out.2 1 _ rfl
        go_simp
        obtain ⟨w4, hw4⟩ : ∃ w', ((w3.setCell ⟨n7, 0, none⟩ (.slice pa a.pa.length pc)).setCell ⟨n7, 1, none⟩ (.bool false)) = w' := ⟨_, rfl⟩
        rw [hw4]
        have K4 := hide (show Below W.heap.size W w4 by rw [← hw4]; exact (K3.out.setCell (by simp; omega) _).setCell (by simp; omega) _)
        have S7_4 := hide (show BoxV w4 n7 [.slice pa a.pa.length pc, .bool false] by rw [← hw4]; exact ((S7_3.out.set 0 (by decide) (.slice pa a.pa.length pc)).set 1 (by simp) (.bool false)))
        have X_4 := hide (show BoxV w4 W.heap.size _ by rw [← hw4]; exact (X_3.out.other _ _ (by simp; omega)).other _ _ (by simp; omega))
        have Y_4 := hide (show BoxV w4 (W.heap.size + 1) _ by rw [← hw4]; exact (Y_3.out.other _ _ (by simp; omega)).other _ _ (by simp; omega))
        have R_4 := hide (show RowS w4 g (aboveL a.pa) by rw [← hw4]; exact (R_3.out.setCell _ _ (by simp; omega)).setCell _ _ (by simp; omega))
        have S8_4 := hide (show BoxV w4 n8 _ by rw [← hw4]; exact (S8_3.out.other _ _ (by simp; omega)).other _ _ (by simp; omega))
        clear c0 c1 f0 f1 hw4
        refine hK.out _ _ Y_4.out (fun hHeld2 => ?_)
        clear hK K hHeld
        have hHeld := hHeld2
        clear hHeld2
        simp only [List.setIfInBounds_toArray, List.set_cons_succ, List.set_cons_zero]
        refine wpAnyH_ready (rs := [10]) (by kernel_rfl) (by simp) ?_
        refine AllReadyH.cons rfl (fun K hK => ?_) AllReadyH.nil
        obtain ⟨c0, f0⟩ := S8_4.out.2 0 _ rfl
        obtain ⟨c1, f1⟩ := S8_4.out.2 1 _ rfl
        go_simp
        obtain ⟨w5, hw5⟩ : ∃ w', ((w4.setCell ⟨n8, 0, none⟩ (.slice (some ⟨g, 0, none⟩) (aboveL a.pa).length (aboveL a.pa).length)).setCell ⟨n8, 1, none⟩ (.bool false)) = w' := ⟨_, rfl⟩
        rw [hw5]
        have K5 := hide (show Below W.heap.size W w5 by rw [← hw5]; exact (K4.out.setCell (by simp; omega) _).setCell (by simp; omega) _)
        have S8_5 := hide (show BoxV w5 n8 [.slice (some ⟨g, 0, none⟩) (aboveL a.pa).length (aboveL a.pa).length, .bool false] by rw [← hw5]; exact ((S8_4.out.set 0 (by decide) (.slice (some ⟨g, 0, none⟩) (aboveL a.pa).length (aboveL a.pa).length)).set 1 (by simp) (.bool false)))
        have X_5 := hide (show BoxV w5 W.heap.size _ by rw [← hw5]; exact (X_4.out.other _ _ (by simp; omega)).other _ _ (by simp; omega))
        have Y_5 := hide (show BoxV w5 (W.heap.size + 1) _ by rw [← hw5]; exact (Y_4.out.other _ _ (by simp; omega)).other _ _ (by simp; omega))
        have R_5 := hide (show RowS w5 g (aboveL a.pa) by rw [← hw5]; exact (R_4.out.setCell _ _ (by simp; omega)).setCell _ _ (by simp; omega))
        have S7_5 := hide (show BoxV w5 n7 _ by rw [← hw5]; exact (S7_4.out.other _ _ (by simp; omega)).other _ _ (by simp; omega))
        clear c0 c1 f0 f1 hw5
        refine hK.out _ _ Y_5.out (fun hHeld2 => ?_)
        clear hK K hHeld
        have hHeld := hHeld2
        clear hHeld2
        simp only [List.setIfInBounds_toArray, List.set_cons_succ, List.set_cons_zero]
        refine wpAnyH_done (by kernel_rfl) ?_ _
        clear hHeld
        exact key n7 n8 g w5 ⟨K5.out, X_5.out, Y_5.out, S7_5.out, S8_5.out, R_5.out⟩
  · intro n7 n8 g w9 HF
    clear K0 X_0 Y_0
    have hrp := HRP0.out
    clear HRP0
    unfold reachP at hrp
    have HH := hide HF
    clear HF
    have K9 := hide HH.out.k
    have fPUT := eq_PUT m
    have fMKCOL := eq_MKCOL m
    have fPROPPATCH := eq_PROPPATCH m
    have fDELETE := eq_DELETE m
    have fMOVE := eq_MOVE m
    have fCOPY := eq_COPY m
    by_cases ePUT : m = mPUT
    · rw [if_pos ePUT] at hrp
      rw [decide_eq_true ePUT] at fPUT
      clear ePUT fMKCOL fPROPPATCH fDELETE fMOVE fCOPY
      have HQ := hide (HT.out _ K9.out)
      generalize thereB x.t a.pa = th at *
      have s0 := (HH.out.x.2 0 _ rfl).1
      have a0 := (HH.out.y.2 0 _ rfl).1
      cases th
      · simp only [Bool.false_eq_true, if_false] at hrp
        have HRP := hide hrp
        clear hrp
        go_wp2_with fail
        refine HQ.out.mono ?_
        rintro e w10 ⟨rfl, b10⟩
        have K10 := hide (K9.out.trans (b10.mono K9.out.size))
        have S7 := hide (HH.out.s7.next b10)
        have S8 := hide (HH.out.s8.next b10)
        have R10 := hide (HH.out.r.below b10)
        clear b10 s0 a0
        have d70 := (S7.out.2 0 _ rfl).1
        have d71 := (S7.out.2 1 _ rfl).1
        have d80 := (S8.out.2 0 _ rfl).1
        have d81 := (S8.out.2 1 _ rfl).1
        have BM := hide (BoxV.made w10 [.slice pa a.pa.length pc, .bool false, .slice (some ⟨g, 0, none⟩) (aboveL a.pa).length (aboveL a.pa).length, .bool false] 203)
        have BB := hide ((Below.refl w10.heap.size w10).alloc (Nat.le_refl _) (Obj.cells #[.slice pa a.pa.length pc, .bool false, .slice (some ⟨g, 0, none⟩) (aboveL a.pa).length (aboveL a.pa).length, .bool false] 203))
        go_wp2
        go_ret
        have e1 := K10.out.trans (BB.out.mono K10.out.size)
        refine ⟨⟨_, [⟨a.pa, false, pa, pc⟩, ⟨aboveL a.pa, false, some ⟨g, 0, none⟩, (aboveL a.pa).length⟩], rfl, HRP.out.symm, by simp, .inr ⟨_, _, rfl, RcsAt.of_box BM.out ?_⟩⟩, e1⟩
        intro y hy
        simp only [List.mem_cons, List.not_mem_nil, or_false] at hy
        rcases hy with rfl | rfl
        · exact ⟨HP.out _ e1, HC.out.1, HC.out.2.1, HC.out.2.2⟩
        · have r2 := (R10.out).below BB.out
          exact ⟨r2.strs' r2.1, Nat.le_refl _, H9.out, fun e => by cases e⟩
      · simp only [if_true] at hrp
        have HRP := hide hrp
        clear hrp
        go_wp2_with fail
        refine HQ.out.mono ?_
        rintro e w10 ⟨rfl, b10⟩
        have K10 := hide (K9.out.trans (b10.mono K9.out.size))
        have S7 := hide (HH.out.s7.next b10)
        have S8 := hide (HH.out.s8.next b10)
        have R10 := hide (HH.out.r.below b10)
        clear b10 s0 a0
        have d70 := (S7.out.2 0 _ rfl).1
        have d71 := (S7.out.2 1 _ rfl).1
        have d80 := (S8.out.2 0 _ rfl).1
        have d81 := (S8.out.2 1 _ rfl).1
        have BM := hide (BoxV.made w10 [.slice pa a.pa.length pc, .bool false] 203)
        have BB := hide ((Below.refl w10.heap.size w10).alloc (Nat.le_refl _) (Obj.cells #[.slice pa a.pa.length pc, .bool false] 203))
        go_wp2
        go_ret
        have e1 := K10.out.trans (BB.out.mono K10.out.size)
        refine ⟨⟨_, [⟨a.pa, false, pa, pc⟩], rfl, HRP.out.symm, by simp, .inr ⟨_, _, rfl, RcsAt.of_box BM.out ?_⟩⟩, e1⟩
        intro y hy
        simp only [List.mem_cons, List.not_mem_nil, or_false] at hy
        subst hy
        exact ⟨HP.out _ e1, HC.out.1, HC.out.2.1, HC.out.2.2⟩
    rw [if_neg ePUT] at hrp
    rw [decide_eq_false ePUT] at fPUT
    clear ePUT
    by_cases eMKCOL : m = mMKCOL
    · rw [if_pos eMKCOL] at hrp
      rw [decide_eq_true eMKCOL] at fMKCOL
      clear eMKCOL fPROPPATCH fDELETE fMOVE fCOPY
      have HRP := hide hrp
      clear hrp
      have d70 := (HH.out.s7.2 0 _ rfl).1
      have d71 := (HH.out.s7.2 1 _ rfl).1
      have d80 := (HH.out.s8.2 0 _ rfl).1
      have d81 := (HH.out.s8.2 1 _ rfl).1
      have BM := hide (BoxV.made w9 [.slice pa a.pa.length pc, .bool false, .slice (some ⟨g, 0, none⟩) (aboveL a.pa).length (aboveL a.pa).length, .bool false] 203)
      have BB := hide ((Below.refl w9.heap.size w9).alloc (Nat.le_refl _) (Obj.cells #[.slice pa a.pa.length pc, .bool false, .slice (some ⟨g, 0, none⟩) (aboveL a.pa).length (aboveL a.pa).length, .bool false] 203))
      go_wp2
      go_ret
      have e1 := K9.out.trans (BB.out.mono K9.out.size)
      refine ⟨⟨_, [⟨a.pa, false, pa, pc⟩, ⟨aboveL a.pa, false, some ⟨g, 0, none⟩, (aboveL a.pa).length⟩], rfl, HRP.out.symm, by simp, .inr ⟨_, _, rfl, RcsAt.of_box BM.out ?_⟩⟩, e1⟩
      intro y hy
      simp only [List.mem_cons, List.not_mem_nil, or_false] at hy
      rcases hy with rfl | rfl
      · exact ⟨HP.out _ e1, HC.out.1, HC.out.2.1, HC.out.2.2⟩
      · have r2 := (HH.out.r).below BB.out
        exact ⟨r2.strs' r2.1, Nat.le_refl _, H9.out, fun e => by cases e⟩
    rw [if_neg eMKCOL] at hrp
    rw [decide_eq_false eMKCOL] at fMKCOL
    clear eMKCOL
    by_cases ePROPPATCH : m = mPROPPATCH
    · rw [if_pos ePROPPATCH] at hrp
      rw [decide_eq_true ePROPPATCH] at fPROPPATCH
      clear ePROPPATCH fDELETE fMOVE fCOPY
      have HRP := hide hrp
      clear hrp
      have d70 := (HH.out.s7.2 0 _ rfl).1
      have d71 := (HH.out.s7.2 1 _ rfl).1
      have d80 := (HH.out.s8.2 0 _ rfl).1
      have d81 := (HH.out.s8.2 1 _ rfl).1
      have BM := hide (BoxV.made w9 [.slice pa a.pa.length pc, .bool false] 203)
      have BB := hide ((Below.refl w9.heap.size w9).alloc (Nat.le_refl _) (Obj.cells #[.slice pa a.pa.length pc, .bool false] 203))
      go_wp2
      go_ret
      have e1 := K9.out.trans (BB.out.mono K9.out.size)
      refine ⟨⟨_, [⟨a.pa, false, pa, pc⟩], rfl, HRP.out.symm, by simp, .inr ⟨_, _, rfl, RcsAt.of_box BM.out ?_⟩⟩, e1⟩
      intro y hy
      simp only [List.mem_cons, List.not_mem_nil, or_false] at hy
      subst hy
      exact ⟨HP.out _ e1, HC.out.1, HC.out.2.1, HC.out.2.2⟩
    rw [if_neg ePROPPATCH] at hrp
    rw [decide_eq_false ePROPPATCH] at fPROPPATCH
    clear ePROPPATCH
    by_cases eDELETE : m = mDELETE
    · rw [if_pos eDELETE] at hrp
      rw [decide_eq_true eDELETE] at fDELETE
      clear eDELETE fMOVE fCOPY
      have HRP := hide hrp
      clear hrp
      have a0 := (HH.out.y.2 0 _ rfl).1
      go_wp2_with fail
      refine (HW.out _ K9.out).mono ?_
      rintro e w10 ⟨⟨g2, l2, rfl, hl2, hr2, hp2⟩, b10⟩
      have K10 := hide (K9.out.trans (b10.mono K9.out.size))
      have HR2 := hide (And.intro hl2 (And.intro hr2 hp2))
      clear hl2 hr2 hp2 b10
      go_wp2
      go_ret
      refine ⟨⟨_, l2, rfl, HR2.out.2.2.trans HRP.out.symm, by have := HR2.out.1; omega, .inr ⟨g2, 2, (show (Value.slice (some ⟨g2, 0, none⟩) 2 2) = .slice (some ⟨g2, 0, none⟩) l2.length 2 by rw [HR2.out.1]), HR2.out.2.1⟩⟩, K10.out⟩
    rw [if_neg eDELETE] at hrp
    rw [decide_eq_false eDELETE] at fDELETE
    clear eDELETE
    by_cases eMOVE : m = mMOVE
    · rw [if_pos eMOVE] at hrp
      rw [decide_eq_true eMOVE] at fMOVE
      clear eMOVE fCOPY
      have HRP := hide hrp
      clear hrp
      have K9d := hide (show Below W.heap.size W w9.drew from below_drewG K9.out)
      have Y9d := hide (show BoxV w9.drew (W.heap.size + 1) [.slice pa a.pa.length pc, p1, .bool a.de, .bool a.ov, p4, .int .i64 a.co] from HH.out.y.drew)
      obtain ⟨wz, hwz⟩ : ∃ wz, w9.drew = wz := ⟨_, rfl⟩
      rw [hwz] at K9d Y9d
      go_wp2
      refine wp_region_held_drew (S := (fun W' => BoxV W' (W.heap.size + 1) [.slice pa a.pa.length pc, p1, .bool a.de, .bool a.ov, p4, .int .i64 a.co])) (by kernel_rfl) (by rw [hwz]; exact Y9d.out) (fun hHeld => ?_)
      rw [hwz] at hHeld
      rw [hwz]
      clear hwz
      simp only [List.size_toArray, List.length_cons, List.length_nil, Nat.reduceAdd, Array.replicate_succ, Array.replicate_zero, List.push_toArray, List.nil_append, List.cons_append]
      refine wpAnyH_take (i := 0) (v := ?_) rfl (by kernel_rfl) (by kernel_rfl) (by kernel_rfl) (fun _ _ _ h => h) (Or.inl ⟨by rfl, ?_⟩) (by assumption) ?_
      rotate_left
      · intro w hSw; (try dsimp only at hSw); have c0 := (hSw.2 0 _ rfl).1; have c1 := (hSw.2 1 _ rfl).1; go_simp; try with_reducible rfl
      simp only [Act.put, List.getElem_toArray, List.getElem_cons_zero, List.setIfInBounds_toArray, List.set_cons_zero]
      refine wpAnyH_take (i := 1) (v := ?_) rfl (by kernel_rfl) (by kernel_rfl) (by kernel_rfl) (fun _ _ _ h => h) (Or.inl ⟨by rfl, ?_⟩) (by assumption) ?_
      rotate_left
      · intro w hSw; (try dsimp only at hSw); have c0 := (hSw.2 0 _ rfl).1; have c1 := (hSw.2 1 _ rfl).1; go_simp; try with_reducible rfl
      simp only [Act.put, List.getElem_toArray, List.getElem_cons_succ, List.getElem_cons_zero, List.setIfInBounds_toArray, List.set_cons_succ, List.set_cons_zero]
      refine wpAnyH_take (i := 3) (v := ?_) rfl (by kernel_rfl) (by kernel_rfl) (by kernel_rfl) (fun _ _ _ h => h) (Or.inl ⟨by rfl, ?_⟩) (by assumption) ?_
      rotate_left
      · intro w hSw; (try dsimp only at hSw); have c0 := (hSw.2 0 _ rfl).1; have c1 := (hSw.2 1 _ rfl).1; go_simp; try with_reducible rfl
      simp only [Act.put, List.getElem_toArray, List.getElem_cons_succ, List.getElem_cons_zero, List.setIfInBounds_toArray, List.set_cons_succ, List.set_cons_zero]
      refine wpAnyH_take (i := 4) (v := ?_) rfl (by kernel_rfl) (by kernel_rfl) (by kernel_rfl) (fun _ _ _ h => h) (Or.inl ⟨by rfl, ?_⟩) (by assumption) ?_
      rotate_left
      · intro w hSw; (try dsimp only at hSw); have c0 := (hSw.2 0 _ rfl).1; have c1 := (hSw.2 1 _ rfl).1; go_simp; try with_reducible rfl
      simp only [Act.put, List.getElem_toArray, List.getElem_cons_succ, List.getElem_cons_zero, List.setIfInBounds_toArray, List.set_cons_succ, List.set_cons_zero]
      refine wpAnyH_ready (rs := [2]) (by kernel_rfl) (by simp) ?_
      refine AllReadyH.cons rfl (fun K hK => ?_) AllReadyH.nil
      go_simp
      refine (HW.out _ K9d.out).mono ?_
      rintro e w10 ⟨⟨g2, l2, rfl, hl2, hr2, hp2⟩, b10⟩
      have K10 := hide (K9d.out.trans (b10.mono K9d.out.size))
      have Y10 := hide (Y9d.out.next b10)
      have HR2 := hide (And.intro hl2 (And.intro hr2 hp2))
      clear hl2 hr2 hp2 b10
      refine hK.out _ _ Y10.out (fun hHeld2 => ?_)
      clear hK K hHeld
      have hHeld := hHeld2
      clear hHeld2
      simp only [List.setIfInBounds_toArray, List.set_cons_succ, List.set_cons_zero]
      refine wpAnyH_ready (rs := [5]) (by kernel_rfl) (by simp) ?_
      refine AllReadyH.cons rfl (fun K hK => ?_) AllReadyH.nil
      go_simp
      refine (HO.out _ K10.out).mono ?_
      rintro e w11 ⟨⟨g3, l3, rfl, hl3, hr3, hp3⟩, b11⟩
      have K11 := hide (K10.out.trans (b11.mono K10.out.size))
      have Y11 := hide (Y10.out.next b11)
      have HR3 := hide (And.intro hl3 (And.intro hr3 hp3))
      have HR4 := hide (HR2.out.2.1.below b11)
      clear hl3 hr3 hp3 b11
      refine hK.out _ _ Y11.out (fun hHeld2 => ?_)
      clear hK K hHeld
      have hHeld := hHeld2
      clear hHeld2
      simp only [List.setIfInBounds_toArray, List.set_cons_succ, List.set_cons_zero]
      refine wpAnyH_ready (rs := [6]) (by kernel_rfl) (by simp) ?_
      refine AllReadyH.cons rfl (fun K hK => ?_) AllReadyH.nil
      go_simp
      obtain ⟨w12, hw12⟩ : ∃ w', w11.alloc (Obj.cells #[.slice (some ⟨g2, 0, none⟩) 2 2, .slice (some ⟨g3, 0, none⟩) 2 2] 200) = w' := ⟨_, rfl⟩
      have b12 : Below w11.heap.size w11 w12 := by rw [← hw12]; exact (Below.refl _ _).alloc (Nat.le_refl _) _
      have hS : BoxV w12 w11.heap.size [.slice (some ⟨g2, 0, none⟩) 2 2, .slice (some ⟨g3, 0, none⟩) 2 2] := by rw [← hw12]; exact BoxV.made _ _ _
      rw [hw12]
      have K12 := hide (K11.out.trans (b12.mono K11.out.size))
      have Y12 := hide (Y11.out.next b12)
      have hLS : RcLs w12 w11.heap.size [⟨l2, g2, 2⟩, ⟨l3, g3, 2⟩] := ⟨hS.1, fun j hj => by
        match j, hj with
        | 0, _ => exact (hS.2 0 _ rfl).1.trans (by simp [HR2.out.1])
        | 1, _ => exact (hS.2 1 _ rfl).1.trans (by simp [HR3.out.1]), fun j hj => by
        match j, hj with
        | 0, _ => exact HR4.out.below b12
        | 1, _ => exact HR3.out.2.1.below b12⟩
      have hcat : catR [⟨l2, g2, 2⟩, ⟨l3, g3, 2⟩] = l2 ++ l3 := by simp [catR]
      have hst := catR_st hLS
      have HCT := hide (concatR_any w11.heap.size 2 [⟨l2, g2, 2⟩, ⟨l3, g3, 2⟩] (by simp) (by rw [hcat, List.length_append, HR2.out.1, HR3.out.1]; decide) w12 hLS)
      rw [hcat] at HCT hst
      have HST := hide hst
      clear hLS hS b12 hst hw12 hcat
      refine hK.out _ _ Y12.out (fun hHeld2 => ?_)
      clear hK K hHeld
      have hHeld := hHeld2
      clear hHeld2
      simp only [List.setIfInBounds_toArray, List.set_cons_succ, List.set_cons_zero]
      refine wpAnyH_ready (rs := [7]) (by kernel_rfl) (by simp) ?_
      refine AllReadyH.cons rfl (fun K hK => ?_) AllReadyH.nil
      go_simp
      refine HCT.out.mono ?_
      rintro e w13 ⟨v, rfl, hown, b13⟩
      have K13 := hide (K12.out.trans (b13.mono K12.out.size))
      have Y13 := hide (Y12.out.next b13)
      have HOW := hide hown
      have HS13 := hide (HST.out.below b13)
      clear hown b13
      refine hK.out _ _ Y13.out (fun hHeld2 => ?_)
      clear hK K hHeld
      have hHeld := hHeld2
      clear hHeld2
      simp only [List.setIfInBounds_toArray, List.set_cons_succ, List.set_cons_zero]
      refine wpAnyH_take (i := 8) (v := ?_) rfl (by kernel_rfl) (by kernel_rfl) (by kernel_rfl) (fun _ _ _ h => h) (Or.inl ⟨by rfl, ?_⟩) (by assumption) ?_
      rotate_left
      · intro w hSw; (try dsimp only at hSw); have c0 := (hSw.2 0 _ rfl).1; have c1 := (hSw.2 1 _ rfl).1; go_simp; try with_reducible rfl
      simp only [Act.put, List.getElem_toArray, List.getElem_cons_succ, List.getElem_cons_zero, List.setIfInBounds_toArray, List.set_cons_succ, List.set_cons_zero]
      refine wpAnyH_done (by kernel_rfl) ?_ _
      clear hHeld
      go_wp2
      go_ret
      have hlen : (l2 ++ l3).length = 4 := by rw [List.length_append, HR2.out.1, HR3.out.1]
      have hown := HOW.out
      refine ⟨⟨_, l2 ++ l3, rfl, by rw [HRP.out]; unfold rcP; rw [List.map_append]; exact congr (congrArg _ HR2.out.2.2) HR3.out.2.2, by omega, .inr ?_⟩, K13.out⟩
      rcases hown.2 with ⟨_, h0⟩ | ⟨g9, c9, cur, hv, _⟩
      · omega
      · subst hv
        exact ⟨g9, c9, rfl, (rcsAt_of_owns hown HS13.out).2⟩
    rw [if_neg eMOVE] at hrp
    rw [decide_eq_false eMOVE] at fMOVE
    clear eMOVE
    by_cases eCOPY : m = mCOPY
    · rw [if_pos eCOPY] at hrp
      rw [decide_eq_true eCOPY] at fCOPY
      clear eCOPY
      have HRP := hide hrp
      clear hrp
      have a1 := (HH.out.y.2 1 _ rfl).1
      go_wp2_with fail
      refine (HO.out _ K9.out).mono ?_
      rintro e w10 ⟨⟨g2, l2, rfl, hl2, hr2, hp2⟩, b10⟩
      have K10 := hide (K9.out.trans (b10.mono K9.out.size))
      have HR2 := hide (And.intro hl2 (And.intro hr2 hp2))
      clear hl2 hr2 hp2 b10
      go_wp2
      go_ret
      refine ⟨⟨_, l2, rfl, HR2.out.2.2.trans HRP.out.symm, by have := HR2.out.1; omega, .inr ⟨g2, 2, (show (Value.slice (some ⟨g2, 0, none⟩) 2 2) = .slice (some ⟨g2, 0, none⟩) l2.length 2 by rw [HR2.out.1]), HR2.out.2.1⟩⟩, K10.out⟩
    rw [if_neg eCOPY] at hrp
    rw [decide_eq_false eCOPY] at fCOPY
    clear eCOPY
    have HRP := hide hrp
    clear hrp
    go_wp2
    go_ret
    exact ⟨⟨_, [], rfl, HRP.out.symm, by decide, .inl ⟨rfl, rfl⟩⟩, K9.out⟩

set_option maxRecDepth 100000 in
set_option maxHeartbeats 4000000 in
theorem mayC_gen (x : Sv) (m : ByteArray) (a : Ak) (u0 u1 u4 u5 p0 p1 p4 : Value) (W : World) (h0 : View W W.heap.size u0 (.l (x.t.map dRs))) (h1 : View W W.heap.size u1 (.l (x.l.map dLk))) (h4 : View W W.heap.size u4 (.l (x.dr.map dI))) (h5 : View W W.heap.size u5 (.l (x.us.map dI))) (k0 : View W W.heap.size p0 (.l (a.pa.map dS))) (k1 : View W W.heap.size p1 (.l (a.to.map dS))) (k4 : View W W.heap.size p4 (.l (a.tk.map dI))) (hsz : szR (dSv x) ≤ 1048576) (hpl : a.pa.length ≤ 1048576) (hps : ∀ s ∈ a.pa, s.size ≤ 281474976710656) (hto : a.to.length ≤ 1048576) (hts : ∀ s ∈ a.to, s.size ≤ 281474976710656) (htl : a.tk.length ≤ 1048576) :
    Calls Tryz.prog 139 #[.agg #[u0, u1, .int .i64 x.now, .int .i64 x.ver, u4, u5], .string m, .agg #[p0, p1, .bool a.de, .bool a.ov, p4, .int .i64 a.co]] W fun e w' => e = .returned (.bool (chgB x m a.pa a.to a.tk)) ∧ Below W.heap.size W w' := by
  have hlz : szRs (x.l.map dLk) ≤ 1048576 := (sv_small hsz).l
  have HR := hide (fun W' (hb : Below W.heap.size W W') => reachesOf_gen x m a u0 u1 u4 u5 p0 p1 p4 W' (h0.atI hb) (h1.atI hb) (h4.atI hb) (h5.atI hb) (k0.atI hb) (k1.atI hb) (k4.atI hb) hsz hpl hps hto hts)
  have HM := hide (fun (y : RcV) W' (hb : Below W.heap.size W W') (hy : Strs W' W'.heap.size y.a y.p ∧ y.p.length ≤ y.c ∧ y.c ≤ maxLen) (hn : y.a = none → y.c = 0) => may_gen x.l y.p y.d a.tk u1 (.slice y.a y.p.length y.c) p4 W' (h1.atI hb) (view_of_strs hy.1 hy.2.1 hy.2.2 hn) (k4.atI hb) hlz htl)
  have KA := hide (show Below W.heap.size W (W.alloc (Obj.cells #[u0, u1, .int .i64 x.now, .int .i64 x.ver, u4, u5] 39)) from (Below.refl _ _).alloc (Nat.le_refl _) _)
  have K0 := hide (show Below W.heap.size W ((W.alloc (Obj.cells #[u0, u1, .int .i64 x.now, .int .i64 x.ver, u4, u5] 39)).alloc (Obj.cells #[p0, p1, .bool a.de, .bool a.ov, p4, .int .i64 a.co] 34)) from KA.out.alloc (by simp) _)
  have X0 := hide (show BoxV ((W.alloc (Obj.cells #[u0, u1, .int .i64 x.now, .int .i64 x.ver, u4, u5] 39)).alloc (Obj.cells #[p0, p1, .bool a.de, .bool a.ov, p4, .int .i64 a.co] 34)) W.heap.size [u0, u1, .int .i64 x.now, .int .i64 x.ver, u4, u5] from (BoxV.made W [u0, u1, .int .i64 x.now, .int .i64 x.ver, u4, u5] 39).alloc _)
  have Y0 := hide (show BoxV ((W.alloc (Obj.cells #[u0, u1, .int .i64 x.now, .int .i64 x.ver, u4, u5] 39)).alloc (Obj.cells #[p0, p1, .bool a.de, .bool a.ov, p4, .int .i64 a.co] 34)) (W.heap.size + 1) [p0, p1, .bool a.de, .bool a.ov, p4, .int .i64 a.co] by have h := BoxV.made (W.alloc (Obj.cells #[u0, u1, .int .i64 x.now, .int .i64 x.ver, u4, u5] 39)) [p0, p1, .bool a.de, .bool a.ov, p4, .int .i64 a.co] 34; simpa using h)
  clear KA h0 h1 h4 h5 k0 k1 k4
  rw [← reach_all]
  have s0 := (X0.out.2 0 _ rfl).1
  have s1 := (X0.out.2 1 _ rfl).1
  have s2 := (X0.out.2 2 _ rfl).1
  have s3 := (X0.out.2 3 _ rfl).1
  have s4 := (X0.out.2 4 _ rfl).1
  have s5 := (X0.out.2 5 _ rfl).1
  have a0 := (Y0.out.2 0 _ rfl).1
  have a1 := (Y0.out.2 1 _ rfl).1
  have a2 := (Y0.out.2 2 _ rfl).1
  have a3 := (Y0.out.2 3 _ rfl).1
  have a4 := (Y0.out.2 4 _ rfl).1
  have a5 := (Y0.out.2 5 _ rfl).1
  go_enter Tryz.func139, Tryz.ntmps139
  go_wp2_with fail
  refine (HR.out _ K0.out).mono ?_
  rintro e w1 ⟨⟨v, l, rfl, hp, hl4, hv⟩, b1⟩
  have K1 := hide (K0.out.trans (b1.mono K0.out.size))
  have X1 := hide (X0.out.next b1)
  have Y1 := hide (Y0.out.next b1)
  clear b1 s0 s1 s2 s3 s4 s5 a0 a1 a2 a3 a4 a5 K0 X0 Y0
  have HP2 := hide hp
  clear hp
  rcases hv with ⟨rfl, rfl⟩ | ⟨g, c, rfl, hrc⟩
  · clear hl4
    go_wp2
    go_loopw [14] (fun i wr => i = .int .i64 0 ∧ Below W.heap.size W wr) (fun _ _ => 0)
    case atStart => exact ⟨rfl, K1.out⟩
    case round =>
      obtain ⟨rfl, hbe⟩ := hrel
      go_wp2
      go_ret
      exact ⟨retG (a := true) (by rw [← HP2.out]; rfl), hbe⟩
  have HRC := hide hrc
  clear hrc
  go_wp2
  go_loopw [14] (fun i wr => ∃ k : Nat, k ≤ l.length ∧ i = .int .i64 k ∧ Hid (∀ j (hj : j < l.length), j < k → mayB x.l l[j].p l[j].d a.tk = true) ∧ Hid (Below W.heap.size W wr) ∧ Hid (RcsAt wr g l) ∧ Hid (BoxV wr W.heap.size [u0, u1, .int .i64 x.now, .int .i64 x.ver, u4, u5]) ∧ Hid (BoxV wr (W.heap.size + 1) [p0, p1, .bool a.de, .bool a.ov, p4, .int .i64 a.co])) (fun i _ => l.length - (intOf i).toNat)
  case atStart => exact ⟨0, Nat.zero_le _, rfl, fun j _ hj => absurd hj (Nat.not_lt_zero _), K1, HRC, X1, Y1⟩
  case round =>
    obtain ⟨k, hk, rfl, HN, HK, HG, HX, HY⟩ := hrel
    clear K1 X1 Y1 HRC
    by_cases hlt : k < l.length
    · obtain ⟨y, hy⟩ : ∃ y, l[k] = y := ⟨_, rfl⟩
      obtain ⟨g0, g1⟩ := HG.out.cl k hlt
      have hst := HG.out.st _ (List.getElem_mem hlt)
      rw [hy] at g0 g1 hst
      obtain ⟨ya, yc⟩ : True ∧ True := ⟨trivial, trivial⟩
      have HYE := hide hy
      clear hy ya yc
      have CA : Below wr.heap.size wr (wr.alloc (Obj.cells #[.slice y.a y.p.length y.c, .bool y.d] 203)) := (Below.refl _ _).alloc (Nat.le_refl _) _
      have BX := hide (BoxV.made wr [.slice y.a y.p.length y.c, .bool y.d] 203)
      have KB := hide (HK.out.trans (CA.mono HK.out.size))
      have GB := hide (HG.out.below CA)
      have XB := hide (HX.out.next CA)
      have YB := hide (HY.out.next CA)
      have hst2 : Strs (wr.alloc (Obj.cells #[.slice y.a y.p.length y.c, .bool y.d] 203)) (wr.alloc (Obj.cells #[.slice y.a y.p.length y.c, .bool y.d] 203)).heap.size y.a y.p ∧ y.p.length ≤ y.c ∧ y.c ≤ maxLen := ⟨(hst.1.below CA (Nat.le_refl _)).mono CA.size, hst.2.1, hst.2.2.1⟩
      have HST := hide (And.intro hst2 hst.2.2.2)
      clear hst hst2 CA
      have t1 := (XB.out.2 1 _ rfl).1
      have t4 := (YB.out.2 4 _ rfl).1
      have z0 := (BX.out.2 0 _ rfl).1
      have z1 := (BX.out.2 1 _ rfl).1
      have hi0 : (0 : Int) ≤ (k : Int) := by omega
      have hi1 : (k : Int) < (l.length : Int) := by omega
      have HQ := hide (HM.out y _ KB.out HST.out.1 HST.out.2)
      obtain ⟨b, hb⟩ : ∃ b, mayB x.l y.p y.d a.tk = b := ⟨_, rfl⟩
      rw [hb] at HQ
      have HBE := hide (show mayB x.l l[k].p l[k].d a.tk = b by rw [HYE.out]; exact hb)
      clear hb
      cases b
      · have HFA := hide (show ((reachP x m a.pa a.to).all fun r => mayB x.l r.1 r.2 a.tk) = false by
          rw [← HP2.out]
          rw [List.all_eq_false]
          exact ⟨(l[k].p, l[k].d), List.mem_map_of_mem (List.getElem_mem hlt), by simp [HBE.out]⟩)
        go_wp2_with fail
        refine HQ.out.mono ?_
        rintro e w2 ⟨rfl, b2⟩
        have K2 := hide (KB.out.trans (b2.mono KB.out.size))
        clear b2 t1 t4 z0 z1
        go_wp2
        go_ret
        exact ⟨retG HFA.out.symm, K2.out⟩
      · go_wp2_with fail
        refine HQ.out.mono ?_
        rintro e w2 ⟨rfl, b2⟩
        have K2 := hide (KB.out.trans (b2.mono KB.out.size))
        have G2 := hide (GB.out.below b2)
        have X2 := hide (XB.out.next b2)
        have Y2 := hide (YB.out.next b2)
        clear b2 t1 t4 z0 z1
        go_wp2
        go_roundw
        case rel => exact ⟨k + 1, by omega, by go_num, fun j hj hjk => if e : j = k then by subst e; exact HBE.out else HN.out j hj (by omega), K2, G2, X2, Y2⟩
        case measure => simp [intOf]; omega
    · have HFA := hide (show ((reachP x m a.pa a.to).all fun r => mayB x.l r.1 r.2 a.tk) = true by
        rw [← HP2.out]
        rw [List.all_eq_true]
        intro r hr
        obtain ⟨y, hy, rfl⟩ := List.mem_map.1 hr
        obtain ⟨j, hj, rfl⟩ := List.mem_iff_getElem.1 hy
        exact HN.out j hj (by omega))
      go_wp2
      go_ret
      exact ⟨retG HFA.out.symm, HK.out⟩
end Go.Proofs.YtfhcniifennfbaaGreatDoor
