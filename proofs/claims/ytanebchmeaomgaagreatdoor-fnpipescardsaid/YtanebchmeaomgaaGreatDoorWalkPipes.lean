/-
  The walk of the law FnPipes: for every code it returns true, and turns nothing that was there.
-/
import Derived.Test.YtanebchmeaomgaaGreatDoorMathGet
import Derived.Test.YtanebchmeaomgaaGreatDoorSameReqI
import Derived.Test.YtanebchmeaomgaaGreatDoorSameReqs
import Derived.Test.YtanebchmeaomgaaGreatDoorNumText
import Derived.Test.YtanebchmeaomgaaGreatDoorParseHex
import Derived.Test.YtanebchmeaomgaaGreatDoorMathCutB
import Derived.Test.YtanebchmeaomgaaGreatDoorPutChunked
import Derived.Test.YtanebchmeaomgaaGreatDoorIsRow
import Derived.Deep.RegionHeld3
namespace Go.Proofs.YtanebchmeaomgaaGreatDoor
open Go.RowKit M
set_option linter.unusedVariables false

theorem Hds.nextD {w w' : World} {a : Option Addr} {hs : List Hd} (h : Hds w w.heap.size a hs) (hb : Below w.heap.size w w') : Hds w' w'.heap.size a hs := (h.below hb (Nat.le_refl _)).mono hb.size
theorem Byt.nextD {w w' : World} {a : Option Addr} {l : List UInt8} (h : Byt w w.heap.size a l) (hb : Below w.heap.size w w') : Byt w' w'.heap.size a l := (h.below hb (Nat.le_refl _)).mono hb.size
theorem Ints.nextD {w w' : World} {a : Option Addr} {l : List Int} (h : Ints w w.heap.size a l) (hb : Below w.heap.size w w') : Ints w' w'.heap.size a l := (h.below hb (Nat.le_refl _)).mono hb.size
theorem SmallR.fitD {r : Rq} (h : SmallR r) : FitR r := by
  obtain ⟨h1, h2, h3, h4⟩ := h
  have := h1.1
  exact ⟨⟨by unfold maxLen; omega, by unfold maxLen; omega, by unfold maxLen; omega, by unfold maxLen; omega, h1.short⟩, fun x hx => by have := (h1.2 x hx).2; omega⟩
theorem belowD {w w' : World} {v : Value} {C : Nat} (h : w.grownBy w' v.ownBlock) (hC : ∀ g, v.ownBlock = some g → C ≤ g) (hz : C ≤ w.heap.size) : Below C w w' :=
  ⟨h.os, h.tape, h.output, h.size, fun k hk => h.block k (by omega) (fun e => by have := hC k e.symm; omega)⟩
theorem putL_fewD (r : Rq) : (putL r).length ≤ 400 + r.b.size := by
  have h3 := put0_few r (bodyLine r.b) r.b.data.toList
  have h4 : r.b.data.toList.length = r.b.size := Array.length_toList
  unfold putL
  omega
theorem putKL_fewD (r : Rq) (ns : List Int) : (putKL r ns).length ≤ 405 + 21 * r.b.size := by
  have h1 := put0_few r codLine (putCs ns r.b.data.toList)
  have h2 := putCs_len21 ns r.b
  unfold putKL
  omega
theorem putKL_backD {r : Rq} {ns : List Int} (h : putKL r ns ≠ []) : getR (putKL r ns) = (r, (putKL r ns).length, 0) := by
  have h2 := (putC_back (r := r) (ns := ns) h []).2
  rw [List.append_nil] at h2
  exact h2
/-- 'append' of bytes at one step of a drawn region. -/
theorem step_append_byt {ops : Array Oper} {o : Oper} {a : Act} {w : World} {K : Act → World → Prop} {Q : Exit → Act → World → Prop} {E : Prop} (hgd : o.guard = none) (sl x : Operand)
    (ho : o.op = .call { callee := .builtin .append, args := #[sl, x], argTypes := #[22, 22] })
    (B : Nat) (v : Value) (l : List UInt8) (hs : a.eval sl = v) (hown : OwnY w B v l) (am : Option Addr) (m : List UInt8) (c C : Nat) (hx : a.eval x = .slice am m.length c) (hy : Byt w C am m) (hlen : l.length + m.length ≤ 4398046511104) (hB : B ≤ w.heap.size)
    (h : ∀ v' w', OwnY w' B v' (l ++ m) → w.grownBy w' v.ownBlock → K (a.put o.dst v') w') :
    if Region.wanted o (yielded ops a.tmps) = true then Oper.wp Tryz.prog o a w K Q else E := by
  have hwt : Region.wanted o (yielded ops a.tmps) = true := by simp [Region.wanted, hgd]
  rw [if_pos hwt]
  obtain ⟨v', w', hr, h2, h3, _⟩ := run_append_any w B v l o.type hown am m c C hy hlen hB
  unfold Oper.wp execOp
  simp only [ho, resolve, invoke, builtin, Sem.run_bind, Sem.run_pure, Result.andThen_ok, List.map_toArray, List.map_cons, List.map_nil, hs, hx, hr]
  exact h v' w' h2 h3

/-- What stands in the course of the law: two requests in their boxes, a list of sizes. -/
structure FrD (w : World) (N1 : Nat) (a1 : Option Addr) (c1 : Nat) (r : Rq) (N2 : Nat) (a2 : Option Addr) (c2 : Nat) (q : Rq) (ak : Option Addr) (ks : List Int) (W : World) : Prop where
  b1 : BoxR W N1 a1 c1 r
  h1 : Hds W W.heap.size a1 r.hs
  b2 : BoxR W N2 a2 c2 q
  h2 : Hds W W.heap.size a2 q.hs
  i : Ints W W.heap.size ak ks
  cw : Below w.heap.size w W
section
variable {w : World} {N1 : Nat} {a1 : Option Addr} {c1 : Nat} {r : Rq} {N2 : Nat} {a2 : Option Addr} {c2 : Nat} {q : Rq} {ak : Option Addr} {ks : List Int} {W W' : World}
theorem FrD.next (h : FrD w N1 a1 c1 r N2 a2 c2 q ak ks W) (hb : Below W.heap.size W W') : FrD w N1 a1 c1 r N2 a2 c2 q ak ks W' :=
  ⟨h.b1.next hb, h.h1.nextD hb, h.b2.next hb, h.h2.nextD hb, h.i.nextD hb, h.cw.trans (hb.mono h.cw.size)⟩
theorem FrD.keep (h : FrD w N1 a1 c1 r N2 a2 c2 q ak ks W) : W.cell? ⟨N1, 0, none⟩ = some (.string r.m) ∧ W.cell? ⟨N1, 1, none⟩ = some (.string r.p) ∧ W.cell? ⟨N1, 2, none⟩ = some (.slice a1 r.hs.length c1) ∧ W.cell? ⟨N1, 3, none⟩ = some (.string r.b) ∧ W.cell? ⟨N2, 0, none⟩ = some (.string q.m) ∧ W.cell? ⟨N2, 1, none⟩ = some (.string q.p) ∧ W.cell? ⟨N2, 2, none⟩ = some (.slice a2 q.hs.length c2) ∧ W.cell? ⟨N2, 3, none⟩ = some (.string q.b) :=
  ⟨h.b1.2.1, h.b1.2.2.1, h.b1.2.2.2.1, h.b1.2.2.2.2, h.b2.2.1, h.b2.2.2.1, h.b2.2.2.2.1, h.b2.2.2.2.2⟩
end

set_option maxRecDepth 100000 in
set_option maxHeartbeats 8000000 in
theorem FnPipes_walk (a : Option Addr) (len cap : Nat) (zs : List Int) (w : World) (hr : IsRow .u8 w a len cap zs) (hL : laidMet Tryz.prog Rows.fnPipesRow.laid w) (mx : Int) (hmx : w.cell? ⟨0, 0, none⟩ = some (.int .i64 mx)) :
    Calls Tryz.prog 4 #[.slice a len cap] w fun e w' => e = .returned (.bool true) ∧ Below w.heap.size w w' := by
  have hml := row_len hr
  by_cases hb : (1048576 : Int) < (len : Int)
  · clear hr hL hmx
    go_enter Tryz.func4, Tryz.ntmps4
    go_wp2_with (go_at_call 6; refine (big_any a len cap _ hml).mono ?_; rintro e w1 ⟨rfl, hw⟩; obtain rfl := hw.symm; rw [decide_eq_true hb])
    go_ret
    exact ⟨rfl, Below.refl _ _⟩
  · have HC : Hid (CodeIn w w.heap.size a len zs) := code_of_row hr (by omega)
    have h0 : 0 < w.heap.size := World.block_lt_of_cell? w _ hmx
    have hde : DeTab w := deTab_of hL.tail
    have ht : PowTab w := powTab_of hL.tail.tail
    have HPut := hide (fun (a : Option Addr) (r : Rq) (c : Nat) (W : World) (hd : Hds W W.heap.size a r.hs) (hc : Below w.heap.size w W) (hf : FitR r) (q1 : r.hs.length ≤ 1048576) (q2 : sumH r.hs ≤ 1048576) (q3 : r.m.size ≤ 1048576) (q4 : r.p.size ≤ 1048576) (q5 : r.b.size ≤ 1048576) => putReq_any a r c W.heap.size W hd (Nat.le_refl _) hf q1 q2 q3 q4 q5 (fun w' hb => ht.below (hc.trans (hb.mono hc.size))))
    have HPutK := hide (fun (a : Option Addr) (r : Rq) (c : Nat) (a2 : Option Addr) (ns : List Int) (c2 : Nat) (W : World) (hd : Hds W W.heap.size a r.hs) (hI : Ints W W.heap.size a2 ns) (hc : Below w.heap.size w W) (hf : FitR r) (q1 : r.hs.length ≤ 1048576) (q2 : sumH r.hs ≤ 1048576) (q3 : r.m.size ≤ 1048576) (q4 : r.p.size ≤ 1048576) (q5 : r.b.size ≤ 1048576) (q6 : ns.length ≤ 1048576) => putChunked_any a r c W.heap.size a2 ns c2 W hd (Nat.le_refl _) hI hf q1 q2 q3 q4 q5 q6 (hde.below hc))
    have HFeed := hide (fun (a : Option Addr) (ls : List (List UInt8)) (c : Nat) (W : World) (h : Bss W W.heap.size a ls) (hc : Below w.heap.size w W) (hl : ls.length ≤ 1048576) (hs : sumB ls ≤ 4194304) => feedAllI_any a ls c mx W h hl hs (Nat.lt_of_lt_of_le h0 hc.size) ((hc.cell (p := ⟨0, 0, none⟩) h0).trans hmx))
    have HEnd := hide (fun (g c : Nat) (l : List UInt8) (W : World) (h : Byt W W.heap.size (some ⟨g, 0, none⟩) l) (hc : Below w.heap.size w W) (hlc : l.length ≤ c) (hcm : c ≤ maxLen) => headEnd_any g 0 l c W.heap.size mx W h (Nat.le_refl _) hlc hcm (Nat.lt_of_lt_of_le h0 hc.size) ((hc.cell (p := ⟨0, 0, none⟩) h0).trans hmx))
    clear hr hL hmx h0 hde ht
    go_enter Tryz.func4, Tryz.ntmps4
    go_wp2_with (go_at_call 6; refine (big_any a len cap _ hml).mono ?_; rintro e w1 ⟨rfl, hw⟩; obtain rfl := hw.symm; rw [decide_eq_false hb])
    refine (drawPutReq_any HC.out (Nat.le_refl _) cap).mono ?_
    rintro e w1 ⟨⟨v, rfl, r, g1, c1, hs1, rfl, hh1⟩, b1⟩
    have bal : Below w1.heap.size w1 (w1.alloc (Obj.cells #[Value.string r.m, Value.string r.p, Value.slice (some ⟨g1, 0, none⟩) r.hs.length c1, Value.string r.b] 39)) := (Below.refl _ _).alloc (Nat.le_refl _) _
    have BR := hide (BoxR.made w1 (some ⟨g1, 0, none⟩) c1 r 39)
    have HR := hide (Hds.nextD hh1 bal)
    have C1 := hide (b1.trans (bal.mono b1.size))
    have hsum1 := hs1.1.sumR
    have hlen1 := hs1.1.1
    obtain ⟨hm1, hp1, hbz1⟩ := hs1.2
    have F1 := hide hs1.fitD
    obtain ⟨N1, hN1⟩ : ∃ N1, w1.heap.size = N1 := ⟨_, rfl⟩
    obtain ⟨w1b, hw1b⟩ : ∃ w1b, w1.alloc (Obj.cells #[Value.string r.m, Value.string r.p, Value.slice (some ⟨g1, 0, none⟩) r.hs.length c1, Value.string r.b] 39) = w1b := ⟨_, rfl⟩
    rw [hw1b] at bal BR HR C1
    rw [hN1] at BR
    clear hh1 hs1 b1 bal
    go_wp2_with fail
    refine (drawPutChunked_any (HC.out.below C1.out) C1.out.size cap).mono ?_
    rintro e w2 ⟨⟨v, u, rfl, ⟨q, g2, c2, hs2, rfl, hh2⟩, ⟨ks, ak, ck, hks, rfl, hIk, _⟩⟩, b2⟩
    have bal : Below w2.heap.size w2 (w2.alloc (Obj.cells #[Value.string q.m, Value.string q.p, Value.slice (some ⟨g2, 0, none⟩) q.hs.length c2, Value.string q.b] 39)) := (Below.refl _ _).alloc (Nat.le_refl _) _
    have b2' := b2.trans (bal.mono b2.size)
    have FR4 := hide ((FrD.mk (w := w) (BR.out.next b2') (HR.out.nextD b2') (BoxR.made w2 (some ⟨g2, 0, none⟩) c2 q 39) (Hds.nextD hh2 bal) (Ints.nextD hIk bal) (C1.out.trans (b2'.mono C1.out.size))).next (Below.refl _ _).drew)
    have hsum2 := hs2.1.sumR
    have hlen2 := hs2.1.1
    obtain ⟨hm2, hp2, hbz2⟩ := hs2.2
    have F2 := hide hs2.fitD
    obtain ⟨N2, hN2⟩ : ∃ N2, w2.heap.size = N2 := ⟨_, rfl⟩
    obtain ⟨w4, hw4⟩ : ∃ w4, w2.alloc (Obj.cells #[Value.string q.m, Value.string q.p, Value.slice (some ⟨g2, 0, none⟩) q.hs.length c2, Value.string q.b] 39) = w4 := ⟨_, rfl⟩
    rw [hw4, hN2] at FR4
    clear hh2 hs2 b2 b2' bal hIk BR HR C1 hw1b hN1
    have hz1 := putL_fewD r
    have hz2 := putKL_fewD q ks
    have HB1 := hide (fun (x : List UInt8) (h : putL r ≠ []) => (putL_back h x).2)
    have HB2 := hide (fun (h : putKL q ks ≠ []) => putKL_backD h)
    have HPr := hide (fun (W : World) (hd : Hds W W.heap.size (some ⟨g1, 0, none⟩) r.hs) (hc : Below w.heap.size w W) => HPut.out (some ⟨g1, 0, none⟩) r c1 W hd hc F1.out (by omega) (by omega) (by omega) (by omega) (by omega))
    have HPq := hide (fun (W : World) (hd : Hds W W.heap.size (some ⟨g2, 0, none⟩) q.hs) (hI : Ints W W.heap.size ak ks) (hc : Below w.heap.size w W) => HPutK.out (some ⟨g2, 0, none⟩) q c2 ak ks ck W hd hI hc F2.out (by omega) (by omega) (by omega) (by omega) (by omega) (by omega))
    have HSr := hide (fun (W : World) (hd : Hds W W.heap.size (some ⟨g1, 0, none⟩) r.hs) => specPutReq_any (some ⟨g1, 0, none⟩) r c1 W.heap.size W hd (Nat.le_refl _) F1.out.1 (by omega) (by omega) (by omega) (by omega) (by omega))
    have HSq := hide (fun (W : World) (hd : Hds W W.heap.size (some ⟨g2, 0, none⟩) q.hs) (hI : Ints W W.heap.size ak ks) => specPutChunked_any (some ⟨g2, 0, none⟩) q c2 W.heap.size ak ks ck W hd (Nat.le_refl _) hI F2.out.1 (by omega) (by omega) (by omega) (by omega) (by omega) (by omega))
    obtain ⟨lr, hlr⟩ : ∃ lr, putL r = lr := ⟨_, rfl⟩
    obtain ⟨lq, hlq⟩ : ∃ lq, putKL q ks = lq := ⟨_, rfl⟩
    rw [hlr] at hz1 HB1 HPr HSr
    rw [hlq] at hz2 HB2 HPq HSq
    have hrm : r.hs.length ≤ maxLen := by unfold maxLen; omega
    have hqm : q.hs.length ≤ maxLen := by unfold maxLen; omega
    clear hlr hlq HPut HPutK F1 F2
    go_wp2_with fail
    clear hw4 hN2
    refine wp_region_held_drew (S := (fun W => W.cell? ⟨N1, 0, none⟩ = some (.string r.m) ∧ W.cell? ⟨N1, 1, none⟩ = some (.string r.p) ∧ W.cell? ⟨N1, 2, none⟩ = some (.slice (some ⟨g1, 0, none⟩) r.hs.length c1) ∧ W.cell? ⟨N1, 3, none⟩ = some (.string r.b) ∧ W.cell? ⟨N2, 0, none⟩ = some (.string q.m) ∧ W.cell? ⟨N2, 1, none⟩ = some (.string q.p) ∧ W.cell? ⟨N2, 2, none⟩ = some (.slice (some ⟨g2, 0, none⟩) q.hs.length c2) ∧ W.cell? ⟨N2, 3, none⟩ = some (.string q.b))) (by kernel_rfl) FR4.out.keep (fun hHeld => ?_)
    simp only [List.size_toArray, List.length_cons, List.length_nil, Nat.reduceAdd, Array.replicate_succ, Array.replicate_zero, List.push_toArray, List.nil_append, List.cons_append]
    generalize w4.drew = wz at FR4 hHeld ⊢
    refine wpAnyH_take (i := 1) (v := ?_) rfl (by kernel_rfl) (by kernel_rfl) (by kernel_rfl) (fun _ _ _ h => h) (Or.inl ⟨by rfl, ?_⟩) (by assumption) ?_
    rotate_left
    · intro w hSw; (try dsimp only at hSw); go_simp; try with_reducible rfl
    simp only [Act.put, List.getElem_toArray, List.getElem_cons_succ, List.getElem_cons_zero, List.setIfInBounds_toArray, List.set_cons_succ, List.set_cons_zero]
    refine wpAnyH_take (i := 4) (v := ?_) rfl (by kernel_rfl) (by kernel_rfl) (by kernel_rfl) (fun _ _ _ h => h) (Or.inl ⟨by rfl, ?_⟩) (by assumption) ?_
    rotate_left
    · intro w hSw; (try dsimp only at hSw); go_simp; try with_reducible rfl
    simp only [Act.put, List.getElem_toArray, List.getElem_cons_succ, List.getElem_cons_zero, List.setIfInBounds_toArray, List.set_cons_succ, List.set_cons_zero]
    refine wpAnyH_take (i := 5) (v := ?_) rfl (by kernel_rfl) (by kernel_rfl) (by kernel_rfl) (fun _ _ _ h => h) (Or.inl ⟨by rfl, ?_⟩) (by assumption) ?_
    rotate_left
    · intro w hSw; (try dsimp only at hSw); go_simp; try with_reducible rfl
    simp only [Act.put, List.getElem_toArray, List.getElem_cons_succ, List.getElem_cons_zero, List.setIfInBounds_toArray, List.set_cons_succ, List.set_cons_zero]
    refine wpAnyH_ready (rs := [0, 2]) (by kernel_rfl) (by simp) ?_
    refine AllReadyH.cons rfl (fun K hK => ?brA) (AllReadyH.cons rfl (fun K hK => ?brB) AllReadyH.nil)
    case' brA =>
      go_simp
      have ba : Below wz.heap.size wz (wz.alloc (Obj.cells #[] 5)) := (Below.refl _ _).alloc (Nat.le_refl _) _
      have FRa := hide (FR4.out.next ba)
      have Oa := hide (OwnY.bare wz)
      refine hK.out _ _ FRa.out.keep (fun hHeld2 => ?_)
      clear hK K hHeld
      have hHeld := hHeld2
      clear hHeld2
      simp only [List.setIfInBounds_toArray, List.set_cons_zero]
      refine wpAnyH_ready (rs := [2]) (by kernel_rfl) (by simp) ?_
      refine AllReadyH.cons rfl (fun K hK => ?_) AllReadyH.nil
      go_simp
      refine (HPr.out _ FRa.out.h1 FRa.out.cw).mono ?_
      rintro e W5 ⟨⟨v5, rfl, o5⟩, b5⟩
      obtain ⟨gr, cr, rfl, _, _, _, _, y5⟩ := o5.byt
      have CB5 := hide (ba.trans (b5.mono ba.size))
      have FR5 := hide (FR4.out.next CB5.out)
      have O5 := hide (Oa.out.next b5)
      have Y5 := hide y5
      clear o5 y5 b5 ba Oa FRa
      refine hK.out _ _ FR5.out.keep (fun hHeld2 => ?_)
      clear hK K hHeld
      have hHeld := hHeld2
      clear hHeld2
      simp only [List.setIfInBounds_toArray, List.set_cons_succ, List.set_cons_zero]
    case' brB =>
      go_simp
      refine (HPr.out _ FR4.out.h1 FR4.out.cw).mono ?_
      rintro e Wa ⟨⟨v5, rfl, o5⟩, b5⟩
      obtain ⟨gr, cr, rfl, _, _, _, _, y5⟩ := o5.byt
      have FRa := hide (FR4.out.next b5)
      refine hK.out _ _ FRa.out.keep (fun hHeld2 => ?_)
      clear hK K hHeld
      have hHeld := hHeld2
      clear hHeld2
      simp only [List.setIfInBounds_toArray, List.set_cons_succ, List.set_cons_zero]
      refine wpAnyH_ready (rs := [0]) (by kernel_rfl) (by simp) ?_
      refine AllReadyH.cons rfl (fun K hK => ?_) AllReadyH.nil
      go_simp
      have ba : Below Wa.heap.size Wa (Wa.alloc (Obj.cells #[] 5)) := (Below.refl _ _).alloc (Nat.le_refl _) _
      have CB5 := hide (b5.trans (ba.mono b5.size))
      have FR5 := hide (FR4.out.next CB5.out)
      have O5 := hide ((OwnY.bare Wa).base b5.size)
      have Y5 := hide (y5.nextD ba)
      clear o5 y5 b5 ba FRa
      refine hK.out _ _ FR5.out.keep (fun hHeld2 => ?_)
      clear hK K hHeld
      have hHeld := hHeld2
      clear hHeld2
      simp only [List.setIfInBounds_toArray, List.set_cons_zero]
    all_goals
      refine wpAnyH_ready (rs := [3]) (by kernel_rfl) (by simp) ?_
      refine AllReadyH.cons rfl (fun K hK => ?_) AllReadyH.nil
      refine step_append_byt rfl _ _ rfl wz.heap.size _ [] rfl O5.out (some ⟨gr, 0, none⟩) lr cr _ rfl Y5.out (by simp; omega) CB5.out.size ?_
      intro v6 w6 o6 gr6
      obtain ⟨g6, c6, rfl, o6b⟩ := o6.slice
      have CB6 := hide (CB5.out.trans (belowD gr6 (fun g hg => (O5.out.lt g hg).1) CB5.out.size))
      have FR6 := hide (FR4.out.next CB6.out)
      have O6 := hide o6b
      clear o6 o6b gr6
      refine hK.out _ _ FR6.out.keep (fun hHeld2 => ?_)
      clear hK K hHeld
      have hHeld := hHeld2
      clear hHeld2
      simp only [List.setIfInBounds_toArray, List.set_cons_succ, List.set_cons_zero]
      refine wpAnyH_ready (rs := [6]) (by kernel_rfl) (by simp) ?_
      refine AllReadyH.cons rfl (fun K hK => ?_) AllReadyH.nil
      go_simp
      refine (HPq.out w6 FR6.out.h2 FR6.out.i FR6.out.cw).mono ?_
      rintro e w7 ⟨⟨v7, rfl, o7⟩, b7⟩
      obtain ⟨gq, cq, rfl, _, _, _, _, y7⟩ := o7.byt
      have CB7 := hide (CB6.out.trans (b7.mono CB6.out.size))
      have FR7 := hide (FR4.out.next CB7.out)
      have O7 := hide (O6.out.next b7)
      have Y7 := hide y7
      clear o7 y7 b7 O6 CB6 FR6
      refine hK.out _ _ FR7.out.keep (fun hHeld2 => ?_)
      clear hK K hHeld
      have hHeld := hHeld2
      clear hHeld2
      simp only [List.setIfInBounds_toArray, List.set_cons_succ, List.set_cons_zero]
      refine wpAnyH_ready (rs := [7]) (by kernel_rfl) (by simp) ?_
      refine AllReadyH.cons rfl (fun K hK => ?_) AllReadyH.nil
      refine step_append_byt rfl _ _ rfl wz.heap.size _ ([] ++ lr) rfl O7.out (some ⟨gq, 0, none⟩) lq cq w7.heap.size rfl Y7.out (by simp; omega) CB7.out.size ?_
      intro v8 w8 o8 gr8
      obtain ⟨gb, cb, rfl, o8b⟩ := o8.slice
      have CB8 := hide (CB7.out.trans (belowD gr8 (fun g hg => (O7.out.lt g hg).1) CB7.out.size))
      have FR8 := hide (FR4.out.next CB8.out)
      rw [List.nil_append] at o8b
      obtain ⟨lb, hlb⟩ : ∃ lb, lr ++ lq = lb := ⟨_, rfl⟩
      rw [hlb] at o8b
      rw [List.nil_append, hlb]
      have O8 := hide o8b
      have HLb := hide hlb
      clear o8 o8b gr8 O7 CB7 FR7 Y7 hlb
      refine hK.out _ _ FR8.out.keep (fun hHeld2 => ?_)
      clear hK K hHeld
      have hHeld := hHeld2
      clear hHeld2
      simp only [List.setIfInBounds_toArray, List.set_cons_succ, List.set_cons_zero]
      refine wpAnyH_take (i := 8) (v := ?_) rfl (by kernel_rfl) (by kernel_rfl) (by kernel_rfl) (fun _ _ _ h => h) (Or.inl ⟨by rfl, ?_⟩) (by assumption) ?_
      rotate_left
      · intro w hSw; (try dsimp only at hSw); go_simp; try with_reducible rfl
      simp only [Act.put, List.getElem_toArray, List.getElem_cons_succ, List.getElem_cons_zero, List.setIfInBounds_toArray, List.set_cons_succ, List.set_cons_zero]
      refine wpAnyH_done (by kernel_rfl) ?_ _
      clear hHeld CB5 O5 Y5 FR5 FR4 HPr HPq
      have hNW : ∃ NW, w8.heap.size = NW := ⟨_, rfl⟩
      obtain ⟨NW, hNW⟩ := hNW
      obtain ⟨w9, hw9⟩ : ∃ w9, w8.alloc (Obj.cells #[] 39) = w9 := ⟨_, rfl⟩
      have ba : Below w8.heap.size w8 w9 := by rw [← hw9]; exact (Below.refl _ _).alloc (Nat.le_refl _) _
      have FR9 := hide (FR8.out.next ba)
      have OW := hide (OwnR.bare w8)
      rw [hw9, hNW] at OW
      have CBa := hide ba
      have HNW := hide hNW
      clear ba
      obtain ⟨_, x0, x1, x2, x3⟩ := FR9.out.b1
      go_wp2_with fail
      refine (HSr.out w9 FR9.out.h1).mono ?_
      rintro e w10 ⟨⟨g10, k10, rfl, _⟩, b10⟩
      have CB := hide (CBa.out.trans (b10.mono CBa.out.size))
      have OW10 := hide (OW.out.next b10)
      have hzw : NW ≤ w10.heap.size := by rw [← HNW.out]; exact CB.out.size
      clear b10 FR9 OW CBa x0 x1 x2 x3 hw9 hNW HSr CB8
      obtain ⟨wl, hwl⟩ : ∃ wl, (if lr.length = 0 then [] else [r]) ++ (if lq.length = 0 then [] else [q]) = wl := ⟨_, rfl⟩
      have HWl := hide hwl
      have HFt : Hid (∀ ls : List (List UInt8), ls.flatten = lb → feedsM ls [] 0 = (wl, [], 0)) := fun ls hls => by
        rw [← HWl.out]
        exact feeds_two (fun h => HB1.out lq h) (fun h => HB2.out h) ls (hls.trans HLb.out.symm)
      have hmw : ∀ x ∈ wl, x.hs.length ≤ maxLen := by
        rw [← hwl]
        intro x hx
        rcases List.mem_append.1 hx with hx | hx
        · split at hx
          · cases hx
          · simp at hx; subst hx; exact hrm
        · split at hx
          · cases hx
          · simp at hx; subst hx; exact hqm
      have hwn : wl.length ≤ 2 := by
        rw [← hwl]
        split <;> split <;> simp
      have hw0 : wl.length = 0 → lb.length = 0 := by
        rw [← hwl, ← HLb.out]
        intro h
        rw [List.length_append] at h ⊢
        by_cases e1 : lr.length = 0
        · by_cases e2 : lq.length = 0
          · omega
          · rw [if_neg e2] at h; simp at h
        · rw [if_neg e1] at h; simp at h
      have HW0 := hide hw0
      have HMw := hide hmw
      have hlbl : lb.length = lr.length + lq.length := by rw [← HLb.out, List.length_append]
      have hlbz : lb.length ≤ 10000 := by omega
      have HLbz := hide hlbl
      clear hwl hw0 hmw hlbl HB1 HB2
      by_cases hr0 : lr.length = 0
      case' pos =>
        have hr1 : ¬ (0 < lr.length) := by omega
        have hr2 : ¬ ((0 : Int) < (lr.length : Int)) := by omega
        have HQ1 : Hid (∃ qs1 : List Rv, OwnR w10 NW (.slice (some ⟨NW, 0, none⟩) 0 0) qs1 ∧ qs1.map Prod.fst = (if lr.length = 0 then [] else [r]) ∧ (∀ x ∈ qs1, ∃ aj cj, x.2 = .slice aj x.1.hs.length cj ∧ Hds w8 w8.heap.size aj x.1.hs) ∧ qs1.length ≤ 1) := ⟨[], OW10.out, by rw [if_pos hr0]; rfl, (fun x hx => by cases hx), Nat.zero_le _⟩
        clear hr0 OW10
        obtain ⟨qs1, ow1, hm1', hh1', hl1'⟩ := HQ1.out
        have OW1 := hide ow1
        have HM1 := hide hm1'
        have HH1 := hide hh1'
        clear HQ1 ow1 hm1' hh1'
      case' neg =>
        have hr1 : 0 < lr.length := by omega
        have hr2 : (0 : Int) < (lr.length : Int) := by omega
        obtain ⟨_, x0, x1, x2, x3⟩ := (FR8.out.next CB.out).b1
        go_wp2_with (at_builtin; refine wp_append_rq rfl _ _ rfl NW _ [] rfl (OW10.out.alloc _) w10.heap.size r (some ⟨g1, 0, none⟩) r.hs.length c1 rfl (by simp) (by simp) (by simp) (by simp) (by simp) (by simp; omega) ?_)
        intro g11 k11 w11 o11 gr11
        have CB11 := hide ((CB.out.alloc CB.out.size _).trans (belowD gr11 (fun g hg => by have := (World.ownsRow.lt OW10.out g hg).1; rw [HNW.out]; exact this) (by have := CB.out.size; simp; omega)))
        have HQ1 : Hid (∃ qs1 : List Rv, OwnR w11 NW (.slice (some ⟨g11, 0, none⟩) 1 k11) qs1 ∧ qs1.map Prod.fst = (if lr.length = 0 then [] else [r]) ∧ (∀ x ∈ qs1, ∃ aj cj, x.2 = .slice aj x.1.hs.length cj ∧ Hds w8 w8.heap.size aj x.1.hs) ∧ qs1.length ≤ 1) := ⟨_, o11, by rw [if_neg hr0]; rfl, (fun x hx => by simp at hx; subst hx; exact ⟨_, _, rfl, FR8.out.h1⟩), by simp⟩
        have hzw11 : NW ≤ w11.heap.size := by rw [← HNW.out]; exact CB11.out.size
        clear hr0 OW10 CB o11 gr11 x0 x1 x2 x3 hzw
        have CB := CB11
        have hzw := hzw11
        obtain ⟨qs1, ow1, hm1', hh1', hl1'⟩ := HQ1.out
        have OW1 := hide ow1
        have HM1 := hide hm1'
        have HH1 := hide hh1'
        clear HQ1 ow1 hm1' hh1' CB11 hzw11
      all_goals
        obtain ⟨_, y0, y1, y2, y3⟩ := (FR8.out.next CB.out).b2
        go_wp2_with fail
        refine (HSq.out _ (FR8.out.next CB.out).h2 (FR8.out.next CB.out).i).mono ?_
        rintro e w12 ⟨⟨g12, k12, rfl, _⟩, b12⟩
        have CB12 := hide (CB.out.trans (b12.mono CB.out.size))
        have OW12 := hide (OW1.out.next b12)
        have hzw12 : NW ≤ w12.heap.size := by rw [← HNW.out]; exact CB12.out.size
        clear b12 OW1 CB y0 y1 y2 y3 HSq hzw
        by_cases hq0 : lq.length = 0
        case' pos =>
          have hq1 : ¬ (0 < lq.length) := by omega
          have hq2 : ¬ ((0 : Int) < (lq.length : Int)) := by omega
          have HM2 := hide (show qs1.map Prod.fst = wl by rw [HM1.out, ← HWl.out, if_pos hq0, List.append_nil])
          obtain ⟨qs2, hqs2⟩ : ∃ qs2, qs1 = qs2 := ⟨_, rfl⟩
          have OW2 := OW12
          have HH2 := HH1
          rw [hqs2] at OW2 HH2 HM2
          have CB2 := CB12
          clear hq0 OW12 HM1 HH1 CB12 hqs2 hzw12
        case' neg =>
          have hq1 : 0 < lq.length := by omega
          have hq2 : (0 : Int) < (lq.length : Int) := by omega
          obtain ⟨_, y0, y1, y2, y3⟩ := (FR8.out.next CB12.out).b2
          go_wp2_with (at_builtin; refine wp_append_rq rfl _ _ rfl NW _ qs1 rfl (OW12.out.alloc _) w12.heap.size q (some ⟨g2, 0, none⟩) q.hs.length c2 rfl (by simp) (by simp) (by simp) (by simp) (by omega) (by simp; omega) ?_)
          intro g13 k13 w13 o13 gr13
          have CB2 := hide ((CB12.out.alloc CB12.out.size _).trans (belowD gr13 (fun g hg => by have := (World.ownsRow.lt OW12.out g hg).1; rw [HNW.out]; exact this) (by have := CB12.out.size; simp; omega)))
          have HM2 := hide (show (qs1 ++ [(q, Value.slice (some ⟨g2, 0, none⟩) q.hs.length c2)]).map Prod.fst = wl by rw [List.map_append, HM1.out, ← HWl.out, if_neg hq0]; rfl)
          have HH2 : Hid (∀ x ∈ qs1 ++ [(q, Value.slice (some ⟨g2, 0, none⟩) q.hs.length c2)], ∃ aj cj, x.2 = .slice aj x.1.hs.length cj ∧ Hds w8 w8.heap.size aj x.1.hs) := fun x hx => by
            rcases List.mem_append.1 hx with hx | hx
            · exact HH1.out x hx
            · simp at hx; subst hx; exact ⟨_, _, rfl, FR8.out.h2⟩
          have OW2 := hide o13
          obtain ⟨qs2, hqs2⟩ : ∃ qs2, qs1 ++ [(q, Value.slice (some ⟨g2, 0, none⟩) q.hs.length c2)] = qs2 := ⟨_, rfl⟩
          rw [hqs2] at OW2 HH2 HM2
          clear hq0 OW12 HM1 HH1 CB12 o13 gr13 y0 y1 y2 y3 hqs2 hzw12
        all_goals
          have cw2 := (FR8.out.next CB2.out).cw
          have o2b := O8.out.next CB2.out
          have hbd := o2b.bd
          have hlc := hbd.2.1
          have hcm := hbd.2.2.1
          have Y2 := hide (o2b.bytAt hbd.2.2.2.2)
          have CW2 := hide cw2
          clear cw2 o2b hbd
          go_wp2_with fail
          refine (cut_any (HC.out.below CW2.out) CW2.out.size cap gb 0 lb cb Y2.out hlc hcm).mono ?_
          rintro e w14 ⟨⟨ac, cc, ls, rfl, hfl, hln, hbs⟩, b14⟩
          have hsm : sumB ls ≤ 4194304 := by rw [← sumB_flat, hfl]; omega
          have HFl := hide hfl
          have HBs := hide hbs
          have CW14 := hide (CW2.out.trans (b14.mono CW2.out.size))
          have CB14 := hide (CB2.out.trans (b14.mono CB2.out.size))
          have OW14 := hide (OW2.out.next b14)
          have Y14 := hide (Y2.out.nextD b14)
          clear hfl hbs b14 Y2 CW2 OW2 CB2
          go_wp2_with fail
          refine (HFeed.out ac ls cc w14 HBs.out CW14.out (by omega) hsm).mono ?_
          rw [HFt.out ls HFl.out]
          rintro e w15 ⟨⟨bv, qv, qs3, rfl, ⟨ab, cbv, rfl, _⟩, rq3, hm3, _⟩, b15⟩
          obtain ⟨al, cl, rfl, r3⟩ := rq3.rqs
          have hl3 : qs3.length = wl.length := by rw [← List.length_map (f := Prod.fst), hm3]
          rw [hm3] at r3
          rw [hl3]
          have bal : Below w15.heap.size w15 (w15.alloc (Obj.cells #[Value.slice ab 0 cbv, Value.int .i64 0] 27)) := (Below.refl _ _).alloc (Nat.le_refl _) _
          have b16 := b15.trans (bal.mono b15.size)
          have R16 := hide (Rqs.next r3 bal)
          have CW16 := hide (CW14.out.trans (b16.mono CW14.out.size))
          have CB16 := hide (CB14.out.trans (b16.mono CB14.out.size))
          have OW16 := hide (OW14.out.next b16)
          have Y16 := hide (Y14.out.nextD b16)
          have Z0 : Hid ((w15.alloc (Obj.cells #[Value.slice ab 0 cbv, Value.int .i64 0] 27)).cell? ⟨w15.heap.size, 0, none⟩ = some (Value.slice ab 0 cbv) ∧ (w15.alloc (Obj.cells #[Value.slice ab 0 cbv, Value.int .i64 0] 27)).cell? ⟨w15.heap.size, 1, none⟩ = some (Value.int .i64 0) ∧ w15.heap.size < (w15.alloc (Obj.cells #[Value.slice ab 0 cbv, Value.int .i64 0] 27)).heap.size) := ⟨by simp, by simp, by simp⟩
          obtain ⟨aw, cw, ew, hrq⟩ := OW16.out.rqs (fun x hx => by obtain ⟨aj, cj, e1, h1⟩ := HH2.out x hx; exact ⟨aj, cj, e1, Hds.nextD h1 CB16.out⟩)
          have hl2 : qs2.length = wl.length := by rw [← List.length_map (f := Prod.fst), HM2.out]
          rw [HM2.out] at hrq
          rw [hl2] at ew
          rw [ew]
          have RW := hide hrq
          have hwm : wl.length ≤ maxLen := by unfold maxLen; omega
          clear b15 bal b16 r3 rq3 hm3 hl3 ew hrq hl2 OW16 OW14 CB14 CW14 Y14 HH2 HM2 CB16 hsm HFl HBs HFt
          go_wp2_with fail
          refine (sameReqs_same al aw wl cl cw _ _ _ R16.out RW.out (Nat.le_refl _) (Nat.le_refl _) hwm HMw.out).mono ?_
          rintro e w17 ⟨rfl, b17⟩
          have z0 := (b17.cell (p := ⟨w15.heap.size, 0, none⟩) Z0.out.2.2).trans Z0.out.1
          have z1 := (b17.cell (p := ⟨w15.heap.size, 1, none⟩) Z0.out.2.2).trans Z0.out.2.1
          have CW17 := hide (CW16.out.trans (b17.mono CW16.out.size))
          have Y17 := hide (Y16.out.nextD b17)
          clear b17 R16 RW CW16 Y16 Z0
          generalize w15.heap.size = N5 at z0 z1 ⊢
          by_cases hw0 : wl.length = 0
          case' pos =>
            have hb0 := HW0.out hw0
            have hw1 : ¬ (0 < wl.length) := by omega
            have hw2 : ¬ ((0 : Int) < (wl.length : Int)) := by omega
            have hb1 : ((lb.length : Int) == 0) = true := by rw [hb0]; rfl
            clear hw0 hb0
          case' neg =>
            have hw1 : 0 < wl.length := by omega
            have hw2 : (0 : Int) < (wl.length : Int) := by omega
            clear hw0
          all_goals
            go_wp2_with fail
            refine (HEnd.out gb cb lb w17 Y17.out CW17.out hlc hcm).mono ?_
            rintro e w18 ⟨rfl, b18⟩
            have CW18 := hide (CW17.out.trans (b18.mono CW17.out.size))
            have Y18 := hide (Y17.out.nextD b18)
            clear b18
            go_wp2_with fail
            refine (specHeadEnd_any (some ⟨gb, 0, none⟩) lb cb w18.heap.size w18 Y18.out hlc hcm).mono ?_
            rintro e w19 ⟨rfl, b19⟩
            have CW19 := hide (CW18.out.trans (b19 _))
            clear b19
            go_wp2
            go_ret
            exact ⟨by simp, CW19.out⟩
end Go.Proofs.YtanebchmeaomgaaGreatDoor
