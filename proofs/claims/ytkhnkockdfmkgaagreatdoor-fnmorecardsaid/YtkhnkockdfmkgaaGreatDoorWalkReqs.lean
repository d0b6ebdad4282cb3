/-
  The walk of the law FnReqs: for every code it returns true, and turns nothing that was there.
-/
import Derived.Test.YtkhnkockdfmkgaaGreatDoorSpecGetReq
import Derived.Test.YtkhnkockdfmkgaaGreatDoorBig
import Derived.Test.YtkhnkockdfmkgaaGreatDoorMathCutB
import Derived.Test.YtkhnkockdfmkgaaGreatDoorIsRow
namespace Go.Proofs.YtkhnkockdfmkgaaGreatDoor
open Go.RowKit M
set_option linter.unusedVariables false

theorem Hds.nextQ {w w' : World} {a : Option Addr} {hs : List Hd} (h : Hds w w.heap.size a hs) (hb : Below w.heap.size w w') : Hds w' w'.heap.size a hs := (h.below hb (Nat.le_refl _)).mono hb.size
theorem Byt.nextQ {w w' : World} {a : Option Addr} {l : List UInt8} (h : Byt w w.heap.size a l) (hb : Below w.heap.size w w') : Byt w' w'.heap.size a l := (h.below hb (Nat.le_refl _)).mono hb.size
theorem SmallR.fitQ {r : Rq} (h : SmallR r) : FitR r := by
  obtain ⟨h1, h2, h3, h4⟩ := h
  have := h1.1
  exact ⟨⟨by unfold maxLen; omega, by unfold maxLen; omega, by unfold maxLen; omega, by unfold maxLen; omega, h1.short⟩, fun x hx => by have := (h1.2 x hx).2; omega⟩
theorem inB_le {x a b : Int} (h : inB x a b = true) : x ≤ b := by
  simp only [inB, Bool.and_eq_true, decide_eq_true_eq] at h
  exact h.2
theorem fit_of_reqB {r : Rq} (h : reqB r = true) : FitR r := by
  obtain ⟨h1, h2, h3, h4, h5⟩ := req_parts h
  simp only [methB, Bool.and_eq_true] at h1
  simp only [targB, Bool.and_eq_true] at h2
  have e1 := inB_le h1.2
  have e2 := inB_le h2.2
  have e3 : ∀ x ∈ r.hs, x.1.size ≤ 20 ∧ x.2.size ≤ 60 := by
    intro x hx
    have hx' := h3 x hx
    simp only [hdFree, hdB, valB, Bool.and_eq_true, decide_eq_true_eq] at hx'
    refine ⟨?_, hx'.1.2.1⟩
    have hl : x.1.data.toList.length = x.1.size := Array.length_toList
    apply Classical.byContradiction
    intro hn
    have := smB_longL x.1.data.toList (Or.inr (by omega))
    rw [this] at hx'
    exact absurd hx'.1.1 (by simp)
  exact ⟨⟨by unfold maxLen; omega, by unfold maxLen; omega, by unfold maxLen; omega, by unfold maxLen; omega, fun x hx => by have := e3 x hx; unfold maxLen; omega⟩, fun x hx => by have := e3 x hx; omega⟩
theorem getR_hs8 (l : List UInt8) : (getR l).1.hs.length ≤ 8 := by
  by_cases h : (getR l).2.2 = 0
  · exact (req_parts (getR_ok h).1).2.2.2.1
  · rw [(getR_bad h).1]; exact Nat.zero_le _
theorem putL_few (r : Rq) : (putL r).length ≤ 400 + r.b.size := by
  have h3 := put0_few r (bodyLine r.b) r.b.data.toList
  have h4 : r.b.data.toList.length = r.b.size := Array.length_toList
  unfold putL
  omega

theorem belowV {w w' : World} {v : Value} {C : Nat} (h : w.grownBy w' v.ownBlock) (hC : ∀ g, v.ownBlock = some g → C ≤ g) (hz : C ≤ w.heap.size) : Below C w w' :=
  ⟨h.os, h.tape, h.output, h.size, fun k hk => h.block k (by omega) (fun e => by have := hC k e.symm; omega)⟩

/-- What stands in the course of the law: three requests in their boxes, a row of bytes. -/
structure FrQ (w : World) (N1 : Nat) (a1 : Option Addr) (c1 : Nat) (r : Rq) (N2 : Nat) (a2 : Option Addr) (c2 : Nat) (y : Rq) (N3 : Nat) (a3 : Option Addr) (c3 : Nat) (p : Rq) (gb : Nat) (lb : List UInt8) (W : World) : Prop where
  b1 : BoxR W N1 a1 c1 r
  h1 : Hds W W.heap.size a1 r.hs
  b2 : BoxR W N2 a2 c2 y
  h2 : Hds W W.heap.size a2 y.hs
  b3 : BoxR W N3 a3 c3 p
  h3 : Hds W W.heap.size a3 p.hs
  yb : Byt W W.heap.size (some ⟨gb, 0, none⟩) lb
  cw : Below w.heap.size w W
section
variable {w : World} {N1 : Nat} {a1 : Option Addr} {c1 : Nat} {r : Rq} {N2 : Nat} {a2 : Option Addr} {c2 : Nat} {y : Rq} {N3 : Nat} {a3 : Option Addr} {c3 : Nat} {p : Rq} {gb : Nat} {lb : List UInt8} {W W' : World}
theorem FrQ.next (h : FrQ w N1 a1 c1 r N2 a2 c2 y N3 a3 c3 p gb lb W) (hb : Below W.heap.size W W') : FrQ w N1 a1 c1 r N2 a2 c2 y N3 a3 c3 p gb lb W' :=
  ⟨h.b1.next hb, h.h1.nextQ hb, h.b2.next hb, h.h2.nextQ hb, h.b3.next hb, h.h3.nextQ hb, h.yb.nextQ hb, h.cw.trans (hb.mono h.cw.size)⟩
end

set_option maxRecDepth 100000 in
set_option maxHeartbeats 8000000 in
theorem FnReqs_walk (a : Option Addr) (len cap : Nat) (zs : List Int) (w : World) (hr : IsRow .u8 w a len cap zs) (hL : laidMet Tryz.prog Rows.fnReqsRow.laid w) (mx : Int) (hmx : w.cell? ⟨0, 0, none⟩ = some (.int .i64 mx)) :
    Calls Tryz.prog 3 #[.slice a len cap] w fun e w' => e = .returned (.bool true) ∧ Below w.heap.size w w' := by
  have hml := row_len hr
  by_cases hb : (1048576 : Int) < (len : Int)
  · clear hr hL hmx
    go_enter Tryz.func3, Tryz.ntmps3
    go_wp2_with (go_at_call 8; refine (big_any a len cap _ hml).mono ?_; rintro e w1 ⟨rfl, hw⟩; obtain rfl := hw.symm; rw [decide_eq_true hb])
    go_ret
    exact ⟨rfl, Below.refl _ _⟩
  · have HC : Hid (CodeIn w w.heap.size a len zs) := code_of_row hr (by omega)
    have h0 : 0 < w.heap.size := World.block_lt_of_cell? w _ hmx
    have ht : PowTab w := powTab_of hL.tail.tail
    have HPut := hide (fun (a : Option Addr) (r : Rq) (c : Nat) (W : World) (hd : Hds W W.heap.size a r.hs) (hc : Below w.heap.size w W) (hf : FitR r) (q1 : r.hs.length ≤ 1048576) (q2 : sumH r.hs ≤ 1048576) (q3 : r.m.size ≤ 1048576) (q4 : r.p.size ≤ 1048576) (q5 : r.b.size ≤ 1048576) => putReq_any a r c W.heap.size W hd (Nat.le_refl _) hf q1 q2 q3 q4 q5 (fun w' hb => ht.below (hc.trans (hb.mono hc.size))))
    have HGet := hide (fun (g c : Nat) (l : List UInt8) (W : World) (h : Byt W W.heap.size (some ⟨g, 0, none⟩) l) (hc : Below w.heap.size w W) (hl : l.length ≤ 10000) (hlc : l.length ≤ c) (hcm : c ≤ maxLen) => getReq_any g 0 l c mx W h (by omega) hlc hcm (Nat.lt_of_lt_of_le h0 hc.size) ((hc.cell (p := ⟨0, 0, none⟩) h0).trans hmx))
    clear hr hL hmx h0 ht
    go_enter Tryz.func3, Tryz.ntmps3
    go_wp2_with (go_at_call 8; refine (big_any a len cap _ hml).mono ?_; rintro e w1 ⟨rfl, hw⟩; obtain rfl := hw.symm; rw [decide_eq_false hb])
    refine (drawPutReq_any HC.out (Nat.le_refl _) cap).mono ?_
    rintro e w1 ⟨⟨v, rfl, r, g1, c1, hs1, rfl, hh1⟩, b1⟩
    have bal : Below w1.heap.size w1 (w1.alloc (Obj.cells #[Value.string r.m, Value.string r.p, Value.slice (some ⟨g1, 0, none⟩) r.hs.length c1, Value.string r.b] 26)) := (Below.refl _ _).alloc (Nat.le_refl _) _
    have BR := hide (BoxR.made w1 (some ⟨g1, 0, none⟩) c1 r 26)
    have HR := hide (Hds.nextQ hh1 bal)
    have C1 := hide (b1.trans (bal.mono b1.size))
    have hsum1 := hs1.1.sumR
    have hlen1 := hs1.1.1
    obtain ⟨hm1, hp1, hbz1⟩ := hs1.2
    have F1 := hide hs1.fitQ
    obtain ⟨N1, hN1⟩ : ∃ N1, w1.heap.size = N1 := ⟨_, rfl⟩
    obtain ⟨w1b, hw1b⟩ : ∃ w1b, w1.alloc (Obj.cells #[Value.string r.m, Value.string r.p, Value.slice (some ⟨g1, 0, none⟩) r.hs.length c1, Value.string r.b] 26) = w1b := ⟨_, rfl⟩
    rw [hw1b] at bal BR HR C1
    rw [hN1] at BR
    clear hh1 hs1 b1 bal
    obtain ⟨_, x0, x1, x2, x3⟩ := BR.out
    go_wp2_with fail
    refine (HPut.out (some ⟨g1, 0, none⟩) r c1 w1b HR.out C1.out F1.out (by omega) (by omega) (by omega) (by omega) (by omega)).mono ?_
    rintro e w2 ⟨⟨v, rfl, o2⟩, b2⟩
    obtain ⟨gb, cb, rfl, hB2, hg2, hlb, hcb, y2⟩ := o2.byt
    have hz2 := putL_few r
    have BR2 := hide (BR.out.next b2)
    have HR2 := hide (HR.out.nextQ b2)
    have Y2 := hide y2
    have C2 := hide (C1.out.trans (b2.mono C1.out.size))
    clear x0 x1 x2 x3 BR HR C1 o2 y2 b2
    obtain ⟨lb, hlbE⟩ : ∃ lb, putL r = lb := ⟨_, rfl⟩
    rw [hlbE] at hlb hz2 Y2
    rw [hlbE]
    have HLB := hide hlbE
    clear hlbE
    go_wp2_with fail
    refine (drawGetReq_any (HC.out.below C2.out) C2.out.size cap).mono ?_
    rintro e w3 ⟨⟨v, rfl, lc, hlc, o3⟩, b3⟩
    obtain ⟨gc, cc, rfl, _, _, hcc, hccm, y3⟩ := o3.byt
    have BR3 := hide (BR2.out.next b3)
    have HR3 := hide (HR2.out.nextQ b3)
    have Y3 := hide (Y2.out.nextQ b3)
    have Z3 := hide y3
    have C3 := hide (C2.out.trans (b3.mono C2.out.size))
    clear BR2 HR2 Y2 C2 o3 y3 b3
    have hn8 := getR_hs8 lc
    have HOk := hide (getR_ok (l := lc))
    have HBad := hide (getR_bad (l := lc))
    obtain ⟨y, P, C, hG⟩ : ∃ y P C, getR lc = (y, P, C) := ⟨_, _, _, rfl⟩
    rw [hG] at hn8 HOk HBad
    have hn8' : y.hs.length ≤ 8 := hn8
    have hnm : y.hs.length ≤ maxLen := by unfold maxLen; omega
    clear hn8
    go_wp2_with fail
    refine (HGet.out gc cc lc w3 Z3.out C3.out (by omega) hcc hccm).mono ?_
    rw [hG]
    rintro e w4 ⟨⟨hv4, rfl, r4⟩, b4⟩
    obtain ⟨a2, c2, rfl, d4⟩ := RowsH.hds r4
    have bal : Below w4.heap.size w4 (w4.alloc (Obj.cells #[Value.string y.m, Value.string y.p, Value.slice a2 y.hs.length c2, Value.string y.b] 26)) := (Below.refl _ _).alloc (Nat.le_refl _) _
    have BY4 := hide (BoxR.made w4 a2 c2 y 26)
    have b4' := b4.trans (bal.mono b4.size)
    have HY4 := hide (Hds.nextQ d4 bal)
    have BR4 := hide (BR3.out.next b4')
    have HR4 := hide (HR3.out.nextQ b4')
    have Y4 := hide (Y3.out.nextQ b4')
    have Z4 := hide (Z3.out.nextQ b4')
    have C4 := hide (C3.out.trans (b4'.mono C3.out.size))
    obtain ⟨N2, hN2⟩ : ∃ N2, w4.heap.size = N2 := ⟨_, rfl⟩
    obtain ⟨w4b, hw4b⟩ : ∃ w4b, w4.alloc (Obj.cells #[Value.string y.m, Value.string y.p, Value.slice a2 y.hs.length c2, Value.string y.b] 26) = w4b := ⟨_, rfl⟩
    rw [hw4b] at BY4 HY4 BR4 HR4 Y4 Z4 C4
    rw [hN2] at BY4
    clear BR3 HR3 Y3 Z3 C3 r4 d4 b4 b4' bal
    go_wp2_with fail
    refine (specGetReq_any gc 0 lc cc w4b Z4.out (by omega) hcc hccm).mono ?_
    rw [hG]
    rintro e w5 ⟨⟨hv5, rfl, r5⟩, b5⟩
    obtain ⟨a3, c3, rfl, d5⟩ := RowsH.hds r5
    have bal : Below w5.heap.size w5 (w5.alloc (Obj.cells #[Value.string y.m, Value.string y.p, Value.slice a3 y.hs.length c3, Value.string y.b] 26)) := (Below.refl _ _).alloc (Nat.le_refl _) _
    have b5' := b5.trans (bal.mono b5.size)
    have FR5 := hide (FrQ.mk (w := w) (BR4.out.next b5') (HR4.out.nextQ b5') (BY4.out.next b5') (HY4.out.nextQ b5') (BoxR.made w5 a3 c3 y 26) (Hds.nextQ d5 bal) (Y4.out.nextQ b5') (C4.out.trans (b5'.mono C4.out.size)))
    obtain ⟨N3, hN3⟩ : ∃ N3, w5.heap.size = N3 := ⟨_, rfl⟩
    obtain ⟨w5b, hw5b⟩ : ∃ w5b, w5.alloc (Obj.cells #[Value.string y.m, Value.string y.p, Value.slice a3 y.hs.length c3, Value.string y.b] 26) = w5b := ⟨_, rfl⟩
    rw [hw5b, hN3] at FR5
    clear BY4 HY4 BR4 HR4 Y4 Z4 C4 r5 d5 b5 b5' bal hG
    obtain ⟨_, x0, x1, x2, x3⟩ := FR5.out.b2
    obtain ⟨_, y0, y1, y2, y3⟩ := FR5.out.b3
    have Fy : Hid (C = 0 → FitR y ∧ reqB y = true) := hide (fun h => ⟨fit_of_reqB (HOk.out h).1, (HOk.out h).1⟩)
    have Py : Hid (C ≠ 0 → P = 0) := hide (fun h => (HBad.out h).2)
    clear HOk HBad
    go_wp2_with fail
    refine (sameReq_any _ _ y y _ _ _ _ w5b FR5.out.h2 FR5.out.h3 (Nat.le_refl _) (Nat.le_refl _) hnm hnm).mono ?_
    rintro e w7 ⟨rfl, b6⟩
    rw [sameR_refl]
    have FR7 := hide (FR5.out.next b6)
    clear FR5 b6 x0 x1 x2 x3 y0 y1 y2 y3 hw5b hN3 hw4b hN2 hw1b hN1
    by_cases hC : C = 0
    case' pos =>
      subst hC
      have F2 := hide (Fy.out rfl).1
      have R2 := hide (Fy.out rfl).2
      clear Fy Py
      obtain ⟨_, x0, x1, x2, x3⟩ := FR7.out.b2
      go_wp2_with fail
      refine (reqOk_any _ y _ _ w7 FR7.out.h2 (Nat.le_refl _) F2.out).mono ?_
      rw [R2.out]
      rintro e w7 ⟨rfl, b7⟩
      have FR8 := hide (FR7.out.next b7)
      clear FR7 b7 x0 x1 x2 x3 F2 R2
      have FR7 := FR8
      clear FR8
    case' neg =>
      have hP := Py.out hC
      subst hP
      have hC1 : (C == 0) = false := beq_eq_false_iff_ne.2 hC
      have hC2 : (C != 0) = true := bne_iff_ne.2 hC
      clear Fy Py
    all_goals
      obtain ⟨_, x0, x1, x2, x3⟩ := FR7.out.b1
      by_cases hb0 : lb.length = 0
      · obtain rfl := List.eq_nil_of_length_eq_zero hb0
        go_wp2_with fail
        refine (specPutReq_any _ r _ _ w7 FR7.out.h1 (Nat.le_refl _) F1.out.1 (by omega) (by omega) (by omega) (by omega) (by omega)).mono ?_
        rw [HLB.out]
        rintro e w8 ⟨⟨g8, c8, rfl, _⟩, b8⟩
        have HF := hide (FR7.out.next b8).cw
        clear b8 FR7
        go_wp2
        go_ret
        exact ⟨rfl, HF.out⟩
      · have hb1 : ((lb.length : Int) == 0) = false := by apply beq_eq_false_iff_ne.2; omega
        have hne : putL r ≠ [] := by rw [HLB.out]; intro h; rw [h] at hb0; exact hb0 rfl
        have hback := putL_back hne [120, 13, 10]
        rw [HLB.out] at hback
        have HB := hide hback
        clear hback hne
        go_wp2_with (at_builtin; refine wp_append_byts rfl _ _ rfl w7.heap.size _ [] rfl (OwnY.bare w7) gb lb cb rfl (fun j hj => ?_) (by simp; omega) (by simp) ?_)
        · obtain ⟨b', o', e, _, hc⟩ := ((FR7.out.next ((Below.refl _ _).alloc (Nat.le_refl _) (Obj.cells #[] 5))).yb) (by omega)
          cases e
          have := hc j hj
          rw [Nat.zero_add] at this
          exact this
        · intro v8 w8 o8 gr8 _
          obtain ⟨g8, c8, rfl, o8'⟩ := o8.slice
          have hb8 := o8'.bd
          have B8 : Below w7.heap.size w7 w8 := ((Below.refl _ _).alloc (Nat.le_refl _) (Obj.cells #[] 5)).trans (belowV gr8 (fun g hg => by simp [Value.ownBlock] at hg; omega) (by simp))
          have CB8 := hide B8
          have O8 := hide o8'
          have hz8 := B8.size
          clear o8 o8' gr8 B8 x0 x1 x2 x3
          go_wp2_with (at_builtin; refine wp_append_byts rfl _ _ rfl w7.heap.size _ lb rfl (O8.out.alloc _) w8.heap.size [120, 13, 10] 3 rfl (fun j hj => ?_) (by simp; omega) (by simp; omega) ?_)
          · match j, hj with
            | 0, _ => simp
            | 1, _ => simp
            | 2, _ => simp
            | j + 3, hj => exact absurd hj (by simp)
          · intro v9 w9 o9 gr9 _
            have h13 : (lb ++ [120, 13, 10]).length ≤ 10000 := by simp; omega
            obtain ⟨l9, hl9E⟩ : ∃ l9, lb ++ [120, 13, 10] = l9 := ⟨_, rfl⟩
            rw [hl9E] at o9 h13
            have HB9 := HB
            rw [hl9E] at HB9
            clear hl9E
            obtain ⟨g9, c9, rfl, _, _, hl9, hc9, y9⟩ := o9.byt
            have B9 : Below w7.heap.size w7 w9 := (CB8.out.alloc hz8 _).trans (belowV gr9 (fun g hg => by simp [Value.ownBlock] at hg; omega) (by simp; omega))
            have FR9 := hide (FR7.out.next B9)
            have Y9 := hide y9
            clear o9 gr9 B9 CB8 O8 y9 FR7
            go_wp2_with fail
            refine (HGet.out g9 c9 l9 w9 Y9.out FR9.out.cw h13 hl9 hc9).mono ?_
            rw [HB9.out.2]
            rintro e w10 ⟨⟨hv10, rfl, r10⟩, b10⟩
            obtain ⟨a4, c4, rfl, d10⟩ := RowsH.hds r10
            have bal : Below w10.heap.size w10 (w10.alloc (Obj.cells #[Value.string r.m, Value.string r.p, Value.slice a4 r.hs.length c4, Value.string r.b] 26)) := (Below.refl _ _).alloc (Nat.le_refl _) _
            have b10' := b10.trans (bal.mono b10.size)
            have FR10 := hide (FR9.out.next b10')
            have BX10 := hide (BoxR.made w10 a4 c4 r 26)
            have HX10 := hide (Hds.nextQ d10 bal)
            obtain ⟨N4, hN4⟩ : ∃ N4, w10.heap.size = N4 := ⟨_, rfl⟩
            obtain ⟨w10b, hw10b⟩ : ∃ w10b, w10.alloc (Obj.cells #[Value.string r.m, Value.string r.p, Value.slice a4 r.hs.length c4, Value.string r.b] 26) = w10b := ⟨_, rfl⟩
            rw [hw10b] at FR10 BX10 HX10
            rw [hN4] at BX10
            clear b10 b10' bal r10 d10 FR9 Y9
            obtain ⟨_, x0, x1, x2, x3⟩ := FR10.out.b1
            obtain ⟨_, y0, y1, y2, y3⟩ := BX10.out
            have hrm : r.hs.length ≤ maxLen := by unfold maxLen; omega
            go_wp2_with fail
            refine (sameReq_any _ _ r r _ _ _ _ w10b HX10.out FR10.out.h1 (Nat.le_refl _) (Nat.le_refl _) hrm hrm).mono ?_
            rintro e w11 ⟨rfl, b11⟩
            rw [sameR_refl]
            have FR11 := hide (FR10.out.next b11)
            clear FR10 BX10 HX10 b11 x0 x1 x2 x3 y0 y1 y2 y3 hw10b hN4
            obtain ⟨_, x0, x1, x2, x3⟩ := FR11.out.b1
            go_wp2_with fail
            refine (reqOk_any _ r _ _ w11 FR11.out.h1 (Nat.le_refl _) F1.out).mono ?_
            rw [HB.out.1]
            rintro e w12 ⟨rfl, b12⟩
            have HF := hide (FR11.out.next b12).cw
            clear FR11 b12 x0 x1 x2 x3
            go_wp2
            go_ret
            exact ⟨rfl, HF.out⟩
end Go.Proofs.YtkhnkockdfmkgaaGreatDoor
