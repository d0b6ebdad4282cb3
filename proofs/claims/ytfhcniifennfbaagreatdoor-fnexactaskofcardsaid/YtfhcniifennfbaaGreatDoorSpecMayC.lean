/-
  Whether what is asked may turn what it turns: what spec.l16Both and spec.MayChange do.
-/
import Derived.Test.YtfhcniifennfbaaGreatDoorSpecMayT
import Derived.Test.YtfhcniifennfbaaGreatDoorMathHex
import Derived.Test.YtfhcniifennfbaaGreatDoorGenAsk
import Derived.Deep.RegionHeld3
namespace Go.Proofs.YtfhcniifennfbaaGreatDoor
open Go.RowKit M
set_option linter.unusedVariables false

theorem tagAtB_there (x : Sv) (p : List ByteArray) : tagAtB x p = thereB x.t p := by unfold tagAtB thereB; rfl
theorem View.at {w w' : World} {v : Value} {x : Lf} (h : View w w.heap.size v x) (hb : Below w.heap.size w w') : View w' w'.heap.size v x := (h.stays hb (Nat.le_refl _)).mono hb.size
theorem above_short {p : List ByteArray} (h : p.length ≤ 1048576) : (aboveL p).length ≤ 1048576 := by rw [aboveL_len]; omega

set_option maxRecDepth 100000 in
set_option maxHeartbeats 4000000 in
theorem specBoth_gen (x : Sv) (p : List ByteArray) (deep : Bool) (tk : List Int) (u0 u1 u4 u5 q t : Value) (W : World) (h1 : View W W.heap.size u1 (.l (x.l.map dLk))) (hq : View W W.heap.size q (.l (p.map dS))) (ht : View W W.heap.size t (.l (tk.map dI))) (hsz : szRs (x.l.map dLk) ≤ 1048576) (hpl : p.length ≤ 1048576) (htl : tk.length ≤ 1048576) :
    Calls Tryz.prog 60 #[.agg #[u0, u1, .int .i64 x.now, .int .i64 x.ver, u4, u5], q, .bool deep, t] W fun e w' => e = .returned (.bool (bothB x.l p deep tk)) ∧ Below W.heap.size W w' := by
  have HM := hide (fun W' (hb : Below W.heap.size W W') => specMay_gen x.l p deep tk u1 q t W' (h1.at hb) (hq.at hb) (ht.at hb) hsz htl)
  have HA := hide (fun W' (hb : Below W.heap.size W W') => specAbove_gen p q W' (hq.at hb) hpl)
  have HM2 := hide (fun W' (hb : Below W.heap.size W W') r (hr : View W' W'.heap.size r (.l ((aboveL p).map dS))) => specMay_gen x.l (aboveL p) false tk u1 r t W' (h1.at hb) hr (ht.at hb) hsz htl)
  unfold bothB
  generalize mayB x.l p deep tk = b at *
  generalize mayB x.l (aboveL p) false tk = c at *
  clear h1 hq ht
  have KW := hide (show Below W.heap.size W (W.alloc (Obj.cells #[u0, u1, .int .i64 x.now, .int .i64 x.ver, u4, u5] 39)) from (Below.refl _ _).alloc (Nat.le_refl _) _)
  have XW := hide (BoxV.made W [u0, u1, .int .i64 x.now, .int .i64 x.ver, u4, u5] 39)
  obtain ⟨wd, hwd⟩ : ∃ wd, (W.alloc (Obj.cells #[u0, u1, .int .i64 x.now, .int .i64 x.ver, u4, u5] 39)).drew = wd := ⟨_, rfl⟩
  have K0 := hide (show Below W.heap.size W wd by rw [← hwd]; exact below_drewG KW.out)
  have X0 := hide (show BoxV wd W.heap.size [u0, u1, .int .i64 x.now, .int .i64 x.ver, u4, u5] by rw [← hwd]; exact XW.out.drew)
  clear KW XW
  cases b
  · go_enter Tryz.func60, Tryz.ntmps60
    go_wp2
    refine wp_region_held_drew (S := (fun W' => BoxV W' W.heap.size [u0, u1, .int .i64 x.now, .int .i64 x.ver, u4, u5])) (by kernel_rfl) (by rw [hwd]; exact X0.out) (fun hHeld => ?_)
    rw [hwd] at hHeld
    rw [hwd]
    clear hwd
    simp only [List.size_toArray, List.length_cons, List.length_nil, Nat.reduceAdd, Array.replicate_succ, Array.replicate_zero, List.push_toArray, List.nil_append, List.cons_append]
    refine wpAnyH_take (i := 0) (v := ?_) rfl (by kernel_rfl) (by kernel_rfl) (by kernel_rfl) (fun _ _ _ h => h) (Or.inl ⟨by rfl, ?_⟩) (by assumption) ?_
    rotate_left
    · intro w hSw; (try dsimp only at hSw); have c1 := (hSw.2 1 _ rfl).1; go_simp; try with_reducible rfl
    simp only [Act.put, List.getElem_toArray, List.getElem_cons_zero, List.setIfInBounds_toArray, List.set_cons_zero]
    refine wpAnyH_take (i := 1) (v := ?_) rfl (by kernel_rfl) (by kernel_rfl) (by kernel_rfl) (fun _ _ _ h => h) (Or.inl ⟨by rfl, ?_⟩) (by assumption) ?_
    rotate_left
    · intro w hSw; (try dsimp only at hSw); have c1 := (hSw.2 1 _ rfl).1; go_simp; try with_reducible rfl
    simp only [Act.put, List.getElem_toArray, List.getElem_cons_succ, List.getElem_cons_zero, List.setIfInBounds_toArray, List.set_cons_succ, List.set_cons_zero]
    refine wpAnyH_take (i := 2) (v := ?_) rfl (by kernel_rfl) (by kernel_rfl) (by kernel_rfl) (fun _ _ _ h => h) (Or.inl ⟨by rfl, ?_⟩) (by assumption) ?_
    rotate_left
    · intro w hSw; (try dsimp only at hSw); have c1 := (hSw.2 1 _ rfl).1; go_simp; try with_reducible rfl
    simp only [Act.put, List.getElem_toArray, List.getElem_cons_succ, List.getElem_cons_zero, List.setIfInBounds_toArray, List.set_cons_succ, List.set_cons_zero]
    refine wpAnyH_take (i := 3) (v := ?_) rfl (by kernel_rfl) (by kernel_rfl) (by kernel_rfl) (fun _ _ _ h => h) (Or.inl ⟨by rfl, ?_⟩) (by assumption) ?_
    rotate_left
    · intro w hSw; (try dsimp only at hSw); have c1 := (hSw.2 1 _ rfl).1; go_simp; try with_reducible rfl
    simp only [Act.put, List.getElem_toArray, List.getElem_cons_succ, List.getElem_cons_zero, List.setIfInBounds_toArray, List.set_cons_succ, List.set_cons_zero]
    refine wpAnyH_take (i := 4) (v := ?_) rfl (by kernel_rfl) (by kernel_rfl) (by kernel_rfl) (fun _ _ _ h => h) (Or.inl ⟨by rfl, ?_⟩) (by assumption) ?_
    rotate_left
    · intro w hSw; (try dsimp only at hSw); have c1 := (hSw.2 1 _ rfl).1; go_simp; try with_reducible rfl
    simp only [Act.put, List.getElem_toArray, List.getElem_cons_succ, List.getElem_cons_zero, List.setIfInBounds_toArray, List.set_cons_succ, List.set_cons_zero]
    refine wpAnyH_ready (rs := [5]) (by kernel_rfl) (by simp) ?_
    refine AllReadyH.cons rfl (fun K hK => ?_) AllReadyH.nil
    go_simp
    refine (HM.out _ K0.out).mono ?_
    rintro e w1 ⟨rfl, b1⟩
    have K1 := hide (K0.out.trans (b1.mono K0.out.size))
    have X1 := hide (X0.out.next b1)
    refine hK.out _ _ X1.out (fun hHeld2 => ?_)
    clear hK K hHeld
    have hHeld := hHeld2
    clear hHeld2
    simp only [List.setIfInBounds_toArray, List.set_cons_succ, List.set_cons_zero]
    refine wpAnyH_take (i := 6) (v := .bool false) rfl (by kernel_rfl) (by kernel_rfl) (by kernel_rfl) (fun _ _ _ h => h) (Or.inl ⟨by rfl, ?_⟩) (by assumption) ?_
    · intro w hSw; (try dsimp only at hSw); have c1 := (hSw.2 1 _ rfl).1; go_simp
    simp only [Act.put, List.getElem_toArray, List.getElem_cons_succ, List.getElem_cons_zero, List.setIfInBounds_toArray, List.set_cons_succ, List.set_cons_zero]
    refine wpAnyH_take (i := 7) (v := undef) rfl (by kernel_rfl) (by kernel_rfl) (by kernel_rfl) (fun _ _ _ h => h) (Or.inr ⟨by rfl, rfl⟩) (by assumption) ?_
    simp only [Act.put, List.getElem_toArray, List.getElem_cons_succ, List.getElem_cons_zero, List.setIfInBounds_toArray, List.set_cons_succ, List.set_cons_zero]
    refine wpAnyH_take (i := 8) (v := undef) rfl (by kernel_rfl) (by kernel_rfl) (by kernel_rfl) (fun _ _ _ h => h) (Or.inr ⟨by rfl, rfl⟩) (by assumption) ?_
    simp only [Act.put, List.getElem_toArray, List.getElem_cons_succ, List.getElem_cons_zero, List.setIfInBounds_toArray, List.set_cons_succ, List.set_cons_zero]
    refine wpAnyH_take (i := 9) (v := undef) rfl (by kernel_rfl) (by kernel_rfl) (by kernel_rfl) (fun _ _ _ h => h) (Or.inr ⟨by rfl, rfl⟩) (by assumption) ?_
    simp only [Act.put, List.getElem_toArray, List.getElem_cons_succ, List.getElem_cons_zero, List.setIfInBounds_toArray, List.set_cons_succ, List.set_cons_zero]
    refine wpAnyH_take (i := 10) (v := undef) rfl (by kernel_rfl) (by kernel_rfl) (by kernel_rfl) (fun _ _ _ h => h) (Or.inr ⟨by rfl, rfl⟩) (by assumption) ?_
    simp only [Act.put, List.getElem_toArray, List.getElem_cons_succ, List.getElem_cons_zero, List.setIfInBounds_toArray, List.set_cons_succ, List.set_cons_zero]
    refine wpAnyH_take (i := 11) (v := undef) rfl (by kernel_rfl) (by kernel_rfl) (by kernel_rfl) (fun _ _ _ h => h) (Or.inr ⟨by rfl, rfl⟩) (by assumption) ?_
    simp only [Act.put, List.getElem_toArray, List.getElem_cons_succ, List.getElem_cons_zero, List.setIfInBounds_toArray, List.set_cons_succ, List.set_cons_zero]
    refine wpAnyH_take (i := 12) (v := undef) rfl (by kernel_rfl) (by kernel_rfl) (by kernel_rfl) (fun _ _ _ h => h) (Or.inr ⟨by rfl, rfl⟩) (by assumption) ?_
    simp only [Act.put, List.getElem_toArray, List.getElem_cons_succ, List.getElem_cons_zero, List.setIfInBounds_toArray, List.set_cons_succ, List.set_cons_zero]
    refine wpAnyH_take (i := 13) (v := .bool false) rfl (by kernel_rfl) (by kernel_rfl) (by kernel_rfl) (fun _ _ _ h => h) (Or.inl ⟨by rfl, ?_⟩) (by assumption) ?_
    · intro w hSw; (try dsimp only at hSw); have c1 := (hSw.2 1 _ rfl).1; go_simp
    simp only [Act.put, List.getElem_toArray, List.getElem_cons_succ, List.getElem_cons_zero, List.setIfInBounds_toArray, List.set_cons_succ, List.set_cons_zero]
    refine wpAnyH_take (i := 14) (v := .bool false) rfl (by kernel_rfl) (by kernel_rfl) (by kernel_rfl) (fun _ _ _ h => h) (Or.inl ⟨by rfl, ?_⟩) (by assumption) ?_
    · intro w hSw; (try dsimp only at hSw); have c1 := (hSw.2 1 _ rfl).1; go_simp
    simp only [Act.put, List.getElem_toArray, List.getElem_cons_succ, List.getElem_cons_zero, List.setIfInBounds_toArray, List.set_cons_succ, List.set_cons_zero]
    refine wpAnyH_done (by kernel_rfl) ?_ _
    clear hHeld
    go_wp2
    go_ret
    exact ⟨rfl, K1.out⟩
  · go_enter Tryz.func60, Tryz.ntmps60
    go_wp2
    refine wp_region_held_drew (S := (fun W' => BoxV W' W.heap.size [u0, u1, .int .i64 x.now, .int .i64 x.ver, u4, u5])) (by kernel_rfl) (by rw [hwd]; exact X0.out) (fun hHeld => ?_)
    rw [hwd] at hHeld
    rw [hwd]
    clear hwd
    simp only [List.size_toArray, List.length_cons, List.length_nil, Nat.reduceAdd, Array.replicate_succ, Array.replicate_zero, List.push_toArray, List.nil_append, List.cons_append]
    refine wpAnyH_take (i := 0) (v := ?_) rfl (by kernel_rfl) (by kernel_rfl) (by kernel_rfl) (fun _ _ _ h => h) (Or.inl ⟨by rfl, ?_⟩) (by assumption) ?_
    rotate_left
    · intro w hSw; (try dsimp only at hSw); have c1 := (hSw.2 1 _ rfl).1; go_simp; try with_reducible rfl
    simp only [Act.put, List.getElem_toArray, List.getElem_cons_zero, List.setIfInBounds_toArray, List.set_cons_zero]
    refine wpAnyH_take (i := 1) (v := ?_) rfl (by kernel_rfl) (by kernel_rfl) (by kernel_rfl) (fun _ _ _ h => h) (Or.inl ⟨by rfl, ?_⟩) (by assumption) ?_
    rotate_left
    · intro w hSw; (try dsimp only at hSw); have c1 := (hSw.2 1 _ rfl).1; go_simp; try with_reducible rfl
    simp only [Act.put, List.getElem_toArray, List.getElem_cons_succ, List.getElem_cons_zero, List.setIfInBounds_toArray, List.set_cons_succ, List.set_cons_zero]
    refine wpAnyH_take (i := 2) (v := ?_) rfl (by kernel_rfl) (by kernel_rfl) (by kernel_rfl) (fun _ _ _ h => h) (Or.inl ⟨by rfl, ?_⟩) (by assumption) ?_
    rotate_left
    · intro w hSw; (try dsimp only at hSw); have c1 := (hSw.2 1 _ rfl).1; go_simp; try with_reducible rfl
    simp only [Act.put, List.getElem_toArray, List.getElem_cons_succ, List.getElem_cons_zero, List.setIfInBounds_toArray, List.set_cons_succ, List.set_cons_zero]
    refine wpAnyH_take (i := 3) (v := ?_) rfl (by kernel_rfl) (by kernel_rfl) (by kernel_rfl) (fun _ _ _ h => h) (Or.inl ⟨by rfl, ?_⟩) (by assumption) ?_
    rotate_left
    · intro w hSw; (try dsimp only at hSw); have c1 := (hSw.2 1 _ rfl).1; go_simp; try with_reducible rfl
    simp only [Act.put, List.getElem_toArray, List.getElem_cons_succ, List.getElem_cons_zero, List.setIfInBounds_toArray, List.set_cons_succ, List.set_cons_zero]
    refine wpAnyH_take (i := 4) (v := ?_) rfl (by kernel_rfl) (by kernel_rfl) (by kernel_rfl) (fun _ _ _ h => h) (Or.inl ⟨by rfl, ?_⟩) (by assumption) ?_
    rotate_left
    · intro w hSw; (try dsimp only at hSw); have c1 := (hSw.2 1 _ rfl).1; go_simp; try with_reducible rfl
    simp only [Act.put, List.getElem_toArray, List.getElem_cons_succ, List.getElem_cons_zero, List.setIfInBounds_toArray, List.set_cons_succ, List.set_cons_zero]
    refine wpAnyH_ready (rs := [5]) (by kernel_rfl) (by simp) ?_
    refine AllReadyH.cons rfl (fun K hK => ?_) AllReadyH.nil
    go_simp
    refine (HM.out _ K0.out).mono ?_
    rintro e w1 ⟨rfl, b1⟩
    have K1 := hide (K0.out.trans (b1.mono K0.out.size))
    have X1 := hide (X0.out.next b1)
    refine hK.out _ _ X1.out (fun hHeld2 => ?_)
    clear hK K hHeld
    have hHeld := hHeld2
    clear hHeld2
    simp only [List.setIfInBounds_toArray, List.set_cons_succ, List.set_cons_zero]
    refine wpAnyH_take (i := 6) (v := .bool true) rfl (by kernel_rfl) (by kernel_rfl) (by kernel_rfl) (fun _ _ _ h => h) (Or.inl ⟨by rfl, ?_⟩) (by assumption) ?_
    · intro w hSw; (try dsimp only at hSw); have c1 := (hSw.2 1 _ rfl).1; go_simp
    simp only [Act.put, List.getElem_toArray, List.getElem_cons_succ, List.getElem_cons_zero, List.setIfInBounds_toArray, List.set_cons_succ, List.set_cons_zero]
    refine wpAnyH_take (i := 7) (v := ?_) rfl (by kernel_rfl) (by kernel_rfl) (by kernel_rfl) (fun _ _ _ h => h) (Or.inl ⟨by rfl, ?_⟩) (by assumption) ?_
    rotate_left
    · intro w hSw; (try dsimp only at hSw); have c1 := (hSw.2 1 _ rfl).1; go_simp; try with_reducible rfl
    simp only [Act.put, List.getElem_toArray, List.getElem_cons_succ, List.getElem_cons_zero, List.setIfInBounds_toArray, List.set_cons_succ, List.set_cons_zero]
    refine wpAnyH_take (i := 8) (v := ?_) rfl (by kernel_rfl) (by kernel_rfl) (by kernel_rfl) (fun _ _ _ h => h) (Or.inl ⟨by rfl, ?_⟩) (by assumption) ?_
    rotate_left
    · intro w hSw; (try dsimp only at hSw); have c1 := (hSw.2 1 _ rfl).1; go_simp; try with_reducible rfl
    simp only [Act.put, List.getElem_toArray, List.getElem_cons_succ, List.getElem_cons_zero, List.setIfInBounds_toArray, List.set_cons_succ, List.set_cons_zero]
    refine wpAnyH_take (i := 9) (v := ?_) rfl (by kernel_rfl) (by kernel_rfl) (by kernel_rfl) (fun _ _ _ h => h) (Or.inl ⟨by rfl, ?_⟩) (by assumption) ?_
    rotate_left
    · intro w hSw; (try dsimp only at hSw); have c1 := (hSw.2 1 _ rfl).1; go_simp; try with_reducible rfl
    simp only [Act.put, List.getElem_toArray, List.getElem_cons_succ, List.getElem_cons_zero, List.setIfInBounds_toArray, List.set_cons_succ, List.set_cons_zero]
    refine wpAnyH_take (i := 11) (v := ?_) rfl (by kernel_rfl) (by kernel_rfl) (by kernel_rfl) (fun _ _ _ h => h) (Or.inl ⟨by rfl, ?_⟩) (by assumption) ?_
    rotate_left
    · intro w hSw; (try dsimp only at hSw); have c1 := (hSw.2 1 _ rfl).1; go_simp; try with_reducible rfl
    simp only [Act.put, List.getElem_toArray, List.getElem_cons_succ, List.getElem_cons_zero, List.setIfInBounds_toArray, List.set_cons_succ, List.set_cons_zero]
    refine wpAnyH_ready (rs := [10]) (by kernel_rfl) (by simp) ?_
    refine AllReadyH.cons rfl (fun K hK => ?_) AllReadyH.nil
    go_simp
    refine (HA.out _ K1.out).mono ?_
    rintro e w2 ⟨⟨r, rfl, hr⟩, b2⟩
    have K2 := hide (K1.out.trans (b2.mono K1.out.size))
    have X2 := hide (X1.out.next b2)
    have R2 := hide hr
    refine hK.out _ _ X2.out (fun hHeld2 => ?_)
    clear hK K hHeld
    have hHeld := hHeld2
    clear hHeld2
    simp only [List.setIfInBounds_toArray, List.set_cons_succ, List.set_cons_zero]
    refine wpAnyH_ready (rs := [12]) (by kernel_rfl) (by simp) ?_
    refine AllReadyH.cons rfl (fun K hK => ?_) AllReadyH.nil
    go_simp
    refine (HM2.out _ K2.out _ R2.out).mono ?_
    rintro e w3 ⟨rfl, b3⟩
    have K3 := hide (K2.out.trans (b3.mono K2.out.size))
    have X3 := hide (X2.out.next b3)
    refine hK.out _ _ X3.out (fun hHeld2 => ?_)
    clear hK K hHeld
    have hHeld := hHeld2
    clear hHeld2
    simp only [List.setIfInBounds_toArray, List.set_cons_succ, List.set_cons_zero]
    refine wpAnyH_take (i := 13) (v := .bool c) rfl (by kernel_rfl) (by kernel_rfl) (by kernel_rfl) (fun _ _ _ h => h) (Or.inl ⟨by rfl, ?_⟩) (by assumption) ?_
    · intro w hSw; (try dsimp only at hSw); have c1 := (hSw.2 1 _ rfl).1; go_simp
    simp only [Act.put, List.getElem_toArray, List.getElem_cons_succ, List.getElem_cons_zero, List.setIfInBounds_toArray, List.set_cons_succ, List.set_cons_zero]
    refine wpAnyH_take (i := 14) (v := .bool c) rfl (by kernel_rfl) (by kernel_rfl) (by kernel_rfl) (fun _ _ _ h => h) (Or.inl ⟨by rfl, ?_⟩) (by assumption) ?_
    · intro w hSw; (try dsimp only at hSw); have c1 := (hSw.2 1 _ rfl).1; go_simp
    simp only [Act.put, List.getElem_toArray, List.getElem_cons_succ, List.getElem_cons_zero, List.setIfInBounds_toArray, List.set_cons_succ, List.set_cons_zero]
    refine wpAnyH_done (by kernel_rfl) ?_ _
    clear hHeld
    go_wp2
    go_ret
    exact ⟨rfl, K3.out⟩

set_option maxRecDepth 100000 in
set_option maxHeartbeats 8000000 in
theorem specMayC_gen (x : Sv) (m : ByteArray) (a : Ak) (u0 u1 u4 u5 p0 p1 p4 : Value) (W : World) (h0 : View W W.heap.size u0 (.l (x.t.map dRs))) (h1 : View W W.heap.size u1 (.l (x.l.map dLk))) (h4 : View W W.heap.size u4 (.l (x.dr.map dI))) (h5 : View W W.heap.size u5 (.l (x.us.map dI))) (k0 : View W W.heap.size p0 (.l (a.pa.map dS))) (k1 : View W W.heap.size p1 (.l (a.to.map dS))) (k4 : View W W.heap.size p4 (.l (a.tk.map dI))) (hsz : szR (dSv x) ≤ 1048576) (ok : okR (dSv x)) (hpl : a.pa.length ≤ 1048576) (hto : a.to.length ≤ 1048576) (htl : a.tk.length ≤ 1048576) :
    Calls Tryz.prog 25 #[.agg #[u0, u1, .int .i64 x.now, .int .i64 x.ver, u4, u5], .string m, .agg #[p0, p1, .bool a.de, .bool a.ov, p4, .int .i64 a.co]] W fun e w' => e = .returned (.bool (chgB x m a.pa a.to a.tk)) ∧ Below W.heap.size W w' := by
  have hlz : szRs (x.l.map dLk) ≤ 1048576 := (sv_small hsz).l
  have HT := hide (fun W' (hb : Below W.heap.size W W') => specTagAt_gen x a.pa u0 u1 u4 u5 p0 W' (h0.at hb) (h1.at hb) (h4.at hb) (h5.at hb) (k0.at hb) hsz ok)
  rw [tagAtB_there] at HT
  have HM := hide (fun (d : Bool) W' (hb : Below W.heap.size W W') => specMay_gen x.l a.pa d a.tk u1 p0 p4 W' (h1.at hb) (k0.at hb) (k4.at hb) hlz htl)
  have HB := hide (fun (d : Bool) W' (hb : Below W.heap.size W W') => specBoth_gen x a.pa d a.tk u0 u1 u4 u5 p0 p4 W' (h1.at hb) (k0.at hb) (k4.at hb) hlz hpl htl)
  have HO := hide (fun (d : Bool) W' (hb : Below W.heap.size W W') => specBoth_gen x a.to d a.tk u0 u1 u4 u5 p1 p4 W' (h1.at hb) (k1.at hb) (k4.at hb) hlz hto htl)
  have KA := hide (show Below W.heap.size W (W.alloc (Obj.cells #[u0, u1, .int .i64 x.now, .int .i64 x.ver, u4, u5] 39)) from (Below.refl _ _).alloc (Nat.le_refl _) _)
  have K0 := hide (show Below W.heap.size W ((W.alloc (Obj.cells #[u0, u1, .int .i64 x.now, .int .i64 x.ver, u4, u5] 39)).alloc (Obj.cells #[p0, p1, .bool a.de, .bool a.ov, p4, .int .i64 a.co] 34)) from KA.out.alloc (by simp) _)
  have X0 := hide (show BoxV ((W.alloc (Obj.cells #[u0, u1, .int .i64 x.now, .int .i64 x.ver, u4, u5] 39)).alloc (Obj.cells #[p0, p1, .bool a.de, .bool a.ov, p4, .int .i64 a.co] 34)) W.heap.size [u0, u1, .int .i64 x.now, .int .i64 x.ver, u4, u5] from (BoxV.made W [u0, u1, .int .i64 x.now, .int .i64 x.ver, u4, u5] 39).alloc _)
  have Y0 := hide (show BoxV ((W.alloc (Obj.cells #[u0, u1, .int .i64 x.now, .int .i64 x.ver, u4, u5] 39)).alloc (Obj.cells #[p0, p1, .bool a.de, .bool a.ov, p4, .int .i64 a.co] 34)) (W.heap.size + 1) [p0, p1, .bool a.de, .bool a.ov, p4, .int .i64 a.co] by have h := BoxV.made (W.alloc (Obj.cells #[u0, u1, .int .i64 x.now, .int .i64 x.ver, u4, u5] 39)) [p0, p1, .bool a.de, .bool a.ov, p4, .int .i64 a.co] 34; simpa using h)
  clear KA h0 h1 h4 h5 k0 k1 k4
  unfold chgB
  generalize thereB x.t a.pa = th at *
  generalize tagAtT x a.pa = tt at *
  have fPUT := eq_PUT m
  have fMKCOL := eq_MKCOL m
  have fPROPPATCH := eq_PROPPATCH m
  have fDELETE := eq_DELETE m
  have fMOVE := eq_MOVE m
  have fCOPY := eq_COPY m
  by_cases ePUT : m = mPUT
  · rw [if_pos ePUT]
    rw [decide_eq_true ePUT] at fPUT
    clear ePUT fMKCOL fPROPPATCH fDELETE fMOVE fCOPY
    cases th
    · simp only [Bool.false_eq_true, if_false]
      have HQ := hide (HB.out false)
      clear HB
      generalize bothB x.l a.pa false a.tk = z at *
      go_enter Tryz.func25, Tryz.ntmps25
      have s0 := (X0.out.2 0 _ rfl).1
      have s1 := (X0.out.2 1 _ rfl).1
      have s2 := (X0.out.2 2 _ rfl).1
      have s3 := (X0.out.2 3 _ rfl).1
      have s4 := (X0.out.2 4 _ rfl).1
      have s5 := (X0.out.2 5 _ rfl).1
      have a0 := (Y0.out.2 0 _ rfl).1
      go_wp2_with fail
      refine (HT.out _ K0.out).mono ?_
      rintro e w1 ⟨rfl, b1⟩
      have K1 := hide (K0.out.trans (b1.mono K0.out.size))
      have X1 := hide (X0.out.next b1)
      have Y1 := hide (Y0.out.next b1)
      clear s0 s1 s2 s3 s4 s5 a0
      clear b1 X0 Y0
      have s0 := (X1.out.2 0 _ rfl).1
      have s1 := (X1.out.2 1 _ rfl).1
      have s2 := (X1.out.2 2 _ rfl).1
      have s3 := (X1.out.2 3 _ rfl).1
      have s4 := (X1.out.2 4 _ rfl).1
      have s5 := (X1.out.2 5 _ rfl).1
      have a0 := (Y1.out.2 0 _ rfl).1
      have a1 := (Y1.out.2 1 _ rfl).1
      have a4 := (Y1.out.2 4 _ rfl).1
      go_wp2_with fail
      refine (HQ.out _ K1.out).mono ?_
      rintro e w2 ⟨rfl, b2⟩
      have K2 := hide (K1.out.trans (b2.mono K1.out.size))
      have X2 := hide (X1.out.next b2)
      have Y2 := hide (Y1.out.next b2)
      clear s0 s1 s2 s3 s4 s5 a0 a1 a4
      clear b2 X1 Y1
      go_wp2
      go_ret
      exact ⟨rfl, K2.out⟩
    · simp only [if_true]
      have HQ := hide (HM.out false)
      clear HM
      generalize mayB x.l a.pa false a.tk = z at *
      go_enter Tryz.func25, Tryz.ntmps25
      have s0 := (X0.out.2 0 _ rfl).1
      have s1 := (X0.out.2 1 _ rfl).1
      have s2 := (X0.out.2 2 _ rfl).1
      have s3 := (X0.out.2 3 _ rfl).1
      have s4 := (X0.out.2 4 _ rfl).1
      have s5 := (X0.out.2 5 _ rfl).1
      have a0 := (Y0.out.2 0 _ rfl).1
      go_wp2_with fail
      refine (HT.out _ K0.out).mono ?_
      rintro e w1 ⟨rfl, b1⟩
      have K1 := hide (K0.out.trans (b1.mono K0.out.size))
      have X1 := hide (X0.out.next b1)
      have Y1 := hide (Y0.out.next b1)
      clear s0 s1 s2 s3 s4 s5 a0
      clear b1 X0 Y0
      have s0 := (X1.out.2 0 _ rfl).1
      have s1 := (X1.out.2 1 _ rfl).1
      have s2 := (X1.out.2 2 _ rfl).1
      have s3 := (X1.out.2 3 _ rfl).1
      have s4 := (X1.out.2 4 _ rfl).1
      have s5 := (X1.out.2 5 _ rfl).1
      have a0 := (Y1.out.2 0 _ rfl).1
      have a1 := (Y1.out.2 1 _ rfl).1
      have a4 := (Y1.out.2 4 _ rfl).1
      go_wp2_with fail
      refine (HQ.out _ K1.out).mono ?_
      rintro e w2 ⟨rfl, b2⟩
      have K2 := hide (K1.out.trans (b2.mono K1.out.size))
      have X2 := hide (X1.out.next b2)
      have Y2 := hide (Y1.out.next b2)
      clear s0 s1 s2 s3 s4 s5 a0 a1 a4
      clear b2 X1 Y1
      go_wp2
      go_ret
      exact ⟨rfl, K2.out⟩
  rw [if_neg ePUT]
  rw [decide_eq_false ePUT] at fPUT
  clear ePUT
  by_cases eMKCOL : m = mMKCOL
  · rw [if_pos eMKCOL]
    rw [decide_eq_true eMKCOL] at fMKCOL
    clear eMKCOL fPROPPATCH fDELETE fMOVE fCOPY
    have HQ := hide (HB.out false)
    clear HB
    generalize bothB x.l a.pa false a.tk = z at *
    go_enter Tryz.func25, Tryz.ntmps25
    have s0 := (X0.out.2 0 _ rfl).1
    have s1 := (X0.out.2 1 _ rfl).1
    have s2 := (X0.out.2 2 _ rfl).1
    have s3 := (X0.out.2 3 _ rfl).1
    have s4 := (X0.out.2 4 _ rfl).1
    have s5 := (X0.out.2 5 _ rfl).1
    have a0 := (Y0.out.2 0 _ rfl).1
    go_wp2_with fail
    refine (HT.out _ K0.out).mono ?_
    rintro e w1 ⟨rfl, b1⟩
    have K1 := hide (K0.out.trans (b1.mono K0.out.size))
    have X1 := hide (X0.out.next b1)
    have Y1 := hide (Y0.out.next b1)
    clear s0 s1 s2 s3 s4 s5 a0
    clear b1 X0 Y0
    have s0 := (X1.out.2 0 _ rfl).1
    have s1 := (X1.out.2 1 _ rfl).1
    have s2 := (X1.out.2 2 _ rfl).1
    have s3 := (X1.out.2 3 _ rfl).1
    have s4 := (X1.out.2 4 _ rfl).1
    have s5 := (X1.out.2 5 _ rfl).1
    have a0 := (Y1.out.2 0 _ rfl).1
    have a1 := (Y1.out.2 1 _ rfl).1
    have a4 := (Y1.out.2 4 _ rfl).1
    go_wp2_with fail
    refine (HQ.out _ K1.out).mono ?_
    rintro e w2 ⟨rfl, b2⟩
    have K2 := hide (K1.out.trans (b2.mono K1.out.size))
    have X2 := hide (X1.out.next b2)
    have Y2 := hide (Y1.out.next b2)
    clear s0 s1 s2 s3 s4 s5 a0 a1 a4
    clear b2 X1 Y1
    go_wp2
    go_ret
    exact ⟨rfl, K2.out⟩
  rw [if_neg eMKCOL]
  rw [decide_eq_false eMKCOL] at fMKCOL
  clear eMKCOL
  by_cases ePROPPATCH : m = mPROPPATCH
  · rw [if_pos ePROPPATCH]
    rw [decide_eq_true ePROPPATCH] at fPROPPATCH
    clear ePROPPATCH fDELETE fMOVE fCOPY
    have HQ := hide (HM.out false)
    clear HM
    generalize mayB x.l a.pa false a.tk = z at *
    go_enter Tryz.func25, Tryz.ntmps25
    have s0 := (X0.out.2 0 _ rfl).1
    have s1 := (X0.out.2 1 _ rfl).1
    have s2 := (X0.out.2 2 _ rfl).1
    have s3 := (X0.out.2 3 _ rfl).1
    have s4 := (X0.out.2 4 _ rfl).1
    have s5 := (X0.out.2 5 _ rfl).1
    have a0 := (Y0.out.2 0 _ rfl).1
    go_wp2_with fail
    refine (HT.out _ K0.out).mono ?_
    rintro e w1 ⟨rfl, b1⟩
    have K1 := hide (K0.out.trans (b1.mono K0.out.size))
    have X1 := hide (X0.out.next b1)
    have Y1 := hide (Y0.out.next b1)
    clear s0 s1 s2 s3 s4 s5 a0
    clear b1 X0 Y0
    have s0 := (X1.out.2 0 _ rfl).1
    have s1 := (X1.out.2 1 _ rfl).1
    have s2 := (X1.out.2 2 _ rfl).1
    have s3 := (X1.out.2 3 _ rfl).1
    have s4 := (X1.out.2 4 _ rfl).1
    have s5 := (X1.out.2 5 _ rfl).1
    have a0 := (Y1.out.2 0 _ rfl).1
    have a1 := (Y1.out.2 1 _ rfl).1
    have a4 := (Y1.out.2 4 _ rfl).1
    go_wp2_with fail
    refine (HQ.out _ K1.out).mono ?_
    rintro e w2 ⟨rfl, b2⟩
    have K2 := hide (K1.out.trans (b2.mono K1.out.size))
    have X2 := hide (X1.out.next b2)
    have Y2 := hide (Y1.out.next b2)
    clear s0 s1 s2 s3 s4 s5 a0 a1 a4
    clear b2 X1 Y1
    go_wp2
    go_ret
    exact ⟨rfl, K2.out⟩
  rw [if_neg ePROPPATCH]
  rw [decide_eq_false ePROPPATCH] at fPROPPATCH
  clear ePROPPATCH
  by_cases eDELETE : m = mDELETE
  · rw [if_pos eDELETE]
    rw [decide_eq_true eDELETE] at fDELETE
    clear eDELETE fMOVE fCOPY
    have HQ := hide (HB.out true)
    clear HB
    generalize bothB x.l a.pa true a.tk = z at *
    go_enter Tryz.func25, Tryz.ntmps25
    have s0 := (X0.out.2 0 _ rfl).1
    have s1 := (X0.out.2 1 _ rfl).1
    have s2 := (X0.out.2 2 _ rfl).1
    have s3 := (X0.out.2 3 _ rfl).1
    have s4 := (X0.out.2 4 _ rfl).1
    have s5 := (X0.out.2 5 _ rfl).1
    have a0 := (Y0.out.2 0 _ rfl).1
    go_wp2_with fail
    refine (HT.out _ K0.out).mono ?_
    rintro e w1 ⟨rfl, b1⟩
    have K1 := hide (K0.out.trans (b1.mono K0.out.size))
    have X1 := hide (X0.out.next b1)
    have Y1 := hide (Y0.out.next b1)
    clear s0 s1 s2 s3 s4 s5 a0
    clear b1 X0 Y0
    have s0 := (X1.out.2 0 _ rfl).1
    have s1 := (X1.out.2 1 _ rfl).1
    have s2 := (X1.out.2 2 _ rfl).1
    have s3 := (X1.out.2 3 _ rfl).1
    have s4 := (X1.out.2 4 _ rfl).1
    have s5 := (X1.out.2 5 _ rfl).1
    have a0 := (Y1.out.2 0 _ rfl).1
    have a1 := (Y1.out.2 1 _ rfl).1
    have a4 := (Y1.out.2 4 _ rfl).1
    go_wp2_with fail
    refine (HQ.out _ K1.out).mono ?_
    rintro e w2 ⟨rfl, b2⟩
    have K2 := hide (K1.out.trans (b2.mono K1.out.size))
    have X2 := hide (X1.out.next b2)
    have Y2 := hide (Y1.out.next b2)
    clear s0 s1 s2 s3 s4 s5 a0 a1 a4
    clear b2 X1 Y1
    go_wp2
    go_ret
    exact ⟨rfl, K2.out⟩
  rw [if_neg eDELETE]
  rw [decide_eq_false eDELETE] at fDELETE
  clear eDELETE
  by_cases eMOVE : m = mMOVE
  · rw [if_pos eMOVE]
    rw [decide_eq_true eMOVE] at fMOVE
    clear eMOVE fCOPY
    have HQ := hide (HB.out true)
    have HR := hide (HO.out true)
    clear HB HO
    generalize bothB x.l a.pa true a.tk = z at *
    generalize bothB x.l a.to true a.tk = y at *
    cases z
    · simp only [Bool.false_and]
      go_enter Tryz.func25, Tryz.ntmps25
      have s0 := (X0.out.2 0 _ rfl).1
      have s1 := (X0.out.2 1 _ rfl).1
      have s2 := (X0.out.2 2 _ rfl).1
      have s3 := (X0.out.2 3 _ rfl).1
      have s4 := (X0.out.2 4 _ rfl).1
      have s5 := (X0.out.2 5 _ rfl).1
      have a0 := (Y0.out.2 0 _ rfl).1
      go_wp2_with fail
      refine (HT.out _ K0.out).mono ?_
      rintro e w1 ⟨rfl, b1⟩
      have K1 := hide (K0.out.trans (b1.mono K0.out.size))
      have X1 := hide (X0.out.next b1)
      have Y1 := hide (Y0.out.next b1)
      clear s0 s1 s2 s3 s4 s5 a0
      clear b1 X0 Y0
      have s0 := (X1.out.2 0 _ rfl).1
      have s1 := (X1.out.2 1 _ rfl).1
      have s2 := (X1.out.2 2 _ rfl).1
      have s3 := (X1.out.2 3 _ rfl).1
      have s4 := (X1.out.2 4 _ rfl).1
      have s5 := (X1.out.2 5 _ rfl).1
      have a0 := (Y1.out.2 0 _ rfl).1
      have a1 := (Y1.out.2 1 _ rfl).1
      have a4 := (Y1.out.2 4 _ rfl).1
      go_wp2_with fail
      refine (HQ.out _ K1.out).mono ?_
      rintro e w2 ⟨rfl, b2⟩
      have K2 := hide (K1.out.trans (b2.mono K1.out.size))
      have X2 := hide (X1.out.next b2)
      have Y2 := hide (Y1.out.next b2)
      clear s0 s1 s2 s3 s4 s5 a0 a1 a4
      clear b2 X1 Y1
      go_wp2
      go_ret
      exact ⟨rfl, K2.out⟩
    · simp only [Bool.true_and]
      go_enter Tryz.func25, Tryz.ntmps25
      have s0 := (X0.out.2 0 _ rfl).1
      have s1 := (X0.out.2 1 _ rfl).1
      have s2 := (X0.out.2 2 _ rfl).1
      have s3 := (X0.out.2 3 _ rfl).1
      have s4 := (X0.out.2 4 _ rfl).1
      have s5 := (X0.out.2 5 _ rfl).1
      have a0 := (Y0.out.2 0 _ rfl).1
      go_wp2_with fail
      refine (HT.out _ K0.out).mono ?_
      rintro e w1 ⟨rfl, b1⟩
      have K1 := hide (K0.out.trans (b1.mono K0.out.size))
      have X1 := hide (X0.out.next b1)
      have Y1 := hide (Y0.out.next b1)
      clear s0 s1 s2 s3 s4 s5 a0
      clear b1 X0 Y0
      have s0 := (X1.out.2 0 _ rfl).1
      have s1 := (X1.out.2 1 _ rfl).1
      have s2 := (X1.out.2 2 _ rfl).1
      have s3 := (X1.out.2 3 _ rfl).1
      have s4 := (X1.out.2 4 _ rfl).1
      have s5 := (X1.out.2 5 _ rfl).1
      have a0 := (Y1.out.2 0 _ rfl).1
      have a1 := (Y1.out.2 1 _ rfl).1
      have a4 := (Y1.out.2 4 _ rfl).1
      go_wp2_with fail
      refine (HQ.out _ K1.out).mono ?_
      rintro e w2 ⟨rfl, b2⟩
      have K2 := hide (K1.out.trans (b2.mono K1.out.size))
      have X2 := hide (X1.out.next b2)
      have Y2 := hide (Y1.out.next b2)
      clear s0 s1 s2 s3 s4 s5 a0 a1 a4
      clear b2 X1 Y1
      have s0 := (X2.out.2 0 _ rfl).1
      have s1 := (X2.out.2 1 _ rfl).1
      have s2 := (X2.out.2 2 _ rfl).1
      have s3 := (X2.out.2 3 _ rfl).1
      have s4 := (X2.out.2 4 _ rfl).1
      have s5 := (X2.out.2 5 _ rfl).1
      have a0 := (Y2.out.2 0 _ rfl).1
      have a1 := (Y2.out.2 1 _ rfl).1
      have a4 := (Y2.out.2 4 _ rfl).1
      go_wp2_with fail
      refine (HR.out _ K2.out).mono ?_
      rintro e w3 ⟨rfl, b3⟩
      have K3 := hide (K2.out.trans (b3.mono K2.out.size))
      have X3 := hide (X2.out.next b3)
      have Y3 := hide (Y2.out.next b3)
      clear s0 s1 s2 s3 s4 s5 a0 a1 a4
      clear b3 X2 Y2
      go_wp2
      go_ret
      exact ⟨rfl, K3.out⟩
  rw [if_neg eMOVE]
  rw [decide_eq_false eMOVE] at fMOVE
  clear eMOVE
  by_cases eCOPY : m = mCOPY
  · rw [if_pos eCOPY]
    rw [decide_eq_true eCOPY] at fCOPY
    clear eCOPY
    have HQ := hide (HO.out true)
    clear HO
    generalize bothB x.l a.to true a.tk = z at *
    go_enter Tryz.func25, Tryz.ntmps25
    have s0 := (X0.out.2 0 _ rfl).1
    have s1 := (X0.out.2 1 _ rfl).1
    have s2 := (X0.out.2 2 _ rfl).1
    have s3 := (X0.out.2 3 _ rfl).1
    have s4 := (X0.out.2 4 _ rfl).1
    have s5 := (X0.out.2 5 _ rfl).1
    have a0 := (Y0.out.2 0 _ rfl).1
    go_wp2_with fail
    refine (HT.out _ K0.out).mono ?_
    rintro e w1 ⟨rfl, b1⟩
    have K1 := hide (K0.out.trans (b1.mono K0.out.size))
    have X1 := hide (X0.out.next b1)
    have Y1 := hide (Y0.out.next b1)
    clear s0 s1 s2 s3 s4 s5 a0
    clear b1 X0 Y0
    have s0 := (X1.out.2 0 _ rfl).1
    have s1 := (X1.out.2 1 _ rfl).1
    have s2 := (X1.out.2 2 _ rfl).1
    have s3 := (X1.out.2 3 _ rfl).1
    have s4 := (X1.out.2 4 _ rfl).1
    have s5 := (X1.out.2 5 _ rfl).1
    have a0 := (Y1.out.2 0 _ rfl).1
    have a1 := (Y1.out.2 1 _ rfl).1
    have a4 := (Y1.out.2 4 _ rfl).1
    go_wp2_with fail
    refine (HQ.out _ K1.out).mono ?_
    rintro e w2 ⟨rfl, b2⟩
    have K2 := hide (K1.out.trans (b2.mono K1.out.size))
    have X2 := hide (X1.out.next b2)
    have Y2 := hide (Y1.out.next b2)
    clear s0 s1 s2 s3 s4 s5 a0 a1 a4
    clear b2 X1 Y1
    go_wp2
    go_ret
    exact ⟨rfl, K2.out⟩
  rw [if_neg eCOPY]
  rw [decide_eq_false eCOPY] at fCOPY
  clear eCOPY
  go_enter Tryz.func25, Tryz.ntmps25
  have s0 := (X0.out.2 0 _ rfl).1
  have s1 := (X0.out.2 1 _ rfl).1
  have s2 := (X0.out.2 2 _ rfl).1
  have s3 := (X0.out.2 3 _ rfl).1
  have s4 := (X0.out.2 4 _ rfl).1
  have s5 := (X0.out.2 5 _ rfl).1
  have a0 := (Y0.out.2 0 _ rfl).1
  go_wp2_with fail
  refine (HT.out _ K0.out).mono ?_
  rintro e w1 ⟨rfl, b1⟩
  have K1 := hide (K0.out.trans (b1.mono K0.out.size))
  have X1 := hide (X0.out.next b1)
  have Y1 := hide (Y0.out.next b1)
  clear s0 s1 s2 s3 s4 s5 a0
  clear b1 X0 Y0
  have s0 := (X1.out.2 0 _ rfl).1
  have s1 := (X1.out.2 1 _ rfl).1
  have s2 := (X1.out.2 2 _ rfl).1
  have s3 := (X1.out.2 3 _ rfl).1
  have s4 := (X1.out.2 4 _ rfl).1
  have s5 := (X1.out.2 5 _ rfl).1
  have a0 := (Y1.out.2 0 _ rfl).1
  have a1 := (Y1.out.2 1 _ rfl).1
  have a4 := (Y1.out.2 4 _ rfl).1
  go_wp2
  go_ret
  exact ⟨rfl, K1.out⟩
end Go.Proofs.YtfhcniifennfbaaGreatDoor
