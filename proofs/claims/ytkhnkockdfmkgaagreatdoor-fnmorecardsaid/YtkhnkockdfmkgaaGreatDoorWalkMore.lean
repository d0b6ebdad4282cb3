/-
  The walk of the law FnMore: for every code it returns true, and turns nothing that was there.
-/
import Derived.Test.YtkhnkockdfmkgaaGreatDoorWalkReqs
import Derived.Test.YtkhnkockdfmkgaaGreatDoorDrawHeadEnd
namespace Go.Proofs.YtkhnkockdfmkgaaGreatDoor
open Go.RowKit M
set_option linter.unusedVariables false

theorem more_here {l : List UInt8} {i : Nat} (hj : (getR (l.take i)).2.2 = 1) (hk : (getR l).2.2 = 0) : i < (getR l).2.1 := by
  apply Classical.byContradiction
  intro hn
  rw [getR_here hk (by omega), hk] at hj
  exact absurd hj (by decide)

/-- What stands in the course of the law: two requests in their boxes, a row of bytes. -/
structure FrM (w : World) (N1 : Nat) (a1 : Option Addr) (c1 : Nat) (r : Rq) (N2 : Nat) (a2 : Option Addr) (c2 : Nat) (y : Rq) (gb : Nat) (lb : List UInt8) (W : World) : Prop where
  b1 : BoxR W N1 a1 c1 r
  h1 : Hds W W.heap.size a1 r.hs
  b2 : BoxR W N2 a2 c2 y
  h2 : Hds W W.heap.size a2 y.hs
  yb : Byt W W.heap.size (some ⟨gb, 0, none⟩) lb
  cw : Below w.heap.size w W
section
variable {w : World} {N1 : Nat} {a1 : Option Addr} {c1 : Nat} {r : Rq} {N2 : Nat} {a2 : Option Addr} {c2 : Nat} {y : Rq} {gb : Nat} {lb : List UInt8} {W W' : World}
theorem FrM.next (h : FrM w N1 a1 c1 r N2 a2 c2 y gb lb W) (hb : Below W.heap.size W W') : FrM w N1 a1 c1 r N2 a2 c2 y gb lb W' :=
  ⟨h.b1.next hb, h.h1.nextQ hb, h.b2.next hb, h.h2.nextQ hb, h.yb.nextQ hb, h.cw.trans (hb.mono h.cw.size)⟩
end

set_option maxRecDepth 100000 in
set_option maxHeartbeats 8000000 in
theorem FnMore_walk (a : Option Addr) (len cap : Nat) (zs : List Int) (w : World) (hr : IsRow .u8 w a len cap zs) (hL : laidMet Tryz.prog Rows.fnMoreRow.laid w) (mx : Int) (hmx : w.cell? ⟨0, 0, none⟩ = some (.int .i64 mx)) :
    Calls Tryz.prog 4 #[.slice a len cap] w fun e w' => e = .returned (.bool true) ∧ Below w.heap.size w w' := by
  have hml := row_len hr
  by_cases hb : (1048576 : Int) < (len : Int)
  · clear hr hL hmx
    go_enter Tryz.func4, Tryz.ntmps4
    go_wp2_with (go_at_call 8; refine (big_any a len cap _ hml).mono ?_; rintro e w1 ⟨rfl, hw⟩; obtain rfl := hw.symm; rw [decide_eq_true hb])
    go_ret
    exact ⟨rfl, Below.refl _ _⟩
  · have HC : Hid (CodeIn w w.heap.size a len zs) := code_of_row hr (by omega)
    have h0 : 0 < w.heap.size := World.block_lt_of_cell? w _ hmx
    have HGet := hide (fun (g c : Nat) (l : List UInt8) (W : World) (h : Byt W W.heap.size (some ⟨g, 0, none⟩) l) (hc : Below w.heap.size w W) (hl : l.length ≤ 10000) (hlc : l.length ≤ c) (hcm : c ≤ maxLen) => getReq_any g 0 l c mx W h (by omega) hlc hcm (Nat.lt_of_lt_of_le h0 hc.size) ((hc.cell (p := ⟨0, 0, none⟩) h0).trans hmx))
    have HEnd := hide (fun (g c : Nat) (l : List UInt8) (W : World) (h : Byt W W.heap.size (some ⟨g, 0, none⟩) l) (hc : Below w.heap.size w W) (hlc : l.length ≤ c) (hcm : c ≤ maxLen) => headEnd_any g 0 l c W.heap.size mx W h (Nat.le_refl _) hlc hcm (Nat.lt_of_lt_of_le h0 hc.size) ((hc.cell (p := ⟨0, 0, none⟩) h0).trans hmx))
    clear hr hL hmx h0
    go_enter Tryz.func4, Tryz.ntmps4
    go_wp2_with (go_at_call 8; refine (big_any a len cap _ hml).mono ?_; rintro e w1 ⟨rfl, hw⟩; obtain rfl := hw.symm; rw [decide_eq_false hb])
    refine (drawGetReq_any HC.out (Nat.le_refl _) cap).mono ?_
    rintro e w1 ⟨⟨v, rfl, lb, hlb, o1⟩, b1⟩
    obtain ⟨gb, cb, rfl, _, _, hcb, hcbm, y1⟩ := o1.byt
    have Y1 := hide y1
    have C1 := hide b1
    clear o1 y1 b1
    have hn8 := getR_hs8 lb
    obtain ⟨r, n, k, hG⟩ : ∃ r n k, getR lb = (r, n, k) := ⟨_, _, _, rfl⟩
    have HG := hide hG
    rw [hG] at hn8
    have hnm : r.hs.length ≤ maxLen := by have : r.hs.length ≤ 8 := hn8; unfold maxLen; omega
    clear hn8
    go_wp2_with fail
    refine (HGet.out gb cb lb w1 Y1.out C1.out (by omega) hcb hcbm).mono ?_
    rw [hG]
    rintro e w2 ⟨⟨hv2, rfl, r2⟩, b2⟩
    obtain ⟨a1, c1, rfl, d2⟩ := RowsH.hds r2
    have bal : Below w2.heap.size w2 (w2.alloc (Obj.cells #[Value.string r.m, Value.string r.p, Value.slice a1 r.hs.length c1, Value.string r.b] 26)) := (Below.refl _ _).alloc (Nat.le_refl _) _
    have b2' := b2.trans (bal.mono b2.size)
    have BR := hide (BoxR.made w2 a1 c1 r 26)
    have HR := hide (Hds.nextQ d2 bal)
    have Y2 := hide (Y1.out.nextQ b2')
    have C2 := hide (C1.out.trans (b2'.mono C1.out.size))
    obtain ⟨N1, hN1⟩ : ∃ N1, w2.heap.size = N1 := ⟨_, rfl⟩
    obtain ⟨w2b, hw2b⟩ : ∃ w2b, w2.alloc (Obj.cells #[Value.string r.m, Value.string r.p, Value.slice a1 r.hs.length c1, Value.string r.b] 26) = w2b := ⟨_, rfl⟩
    rw [hw2b] at BR HR Y2 C2
    rw [hN1] at BR
    clear b2 b2' bal r2 d2 Y1 C1 hG
    go_wp2_with fail
    refine (at_any (HC.out.below C2.out) cap 2 (by decide)).mono ?_
    rintro e w3 ⟨⟨p, hp, rfl⟩, hw3⟩
    obtain rfl := hw3.symm
    have hwp : IntKind.i64.wrap ((p : Int) * 256) = (p : Int) * 256 := by rw [IntKind.wrap_i64]; omega
    go_wp2_with fail
    refine (at_any (HC.out.below C2.out) cap 3 (by decide)).mono ?_
    rintro e w3 ⟨⟨q, hq, rfl⟩, hw3⟩
    obtain rfl := hw3.symm
    obtain ⟨i, hi⟩ : ∃ i : Nat, i = (p * 256 + q) % (lb.length + 1) := ⟨_, rfl⟩
    have hil : i ≤ lb.length := by have := Nat.mod_lt (p * 256 + q) (show 0 < lb.length + 1 by omega); omega
    have hwq : IntKind.i64.wrap ((p : Int) * 256 + (q : Int)) = (p : Int) * 256 + (q : Int) := by rw [IntKind.wrap_i64]; omega
    have hwl : IntKind.i64.wrap ((lb.length : Int) + 1) = (lb.length : Int) + 1 := by rw [IntKind.wrap_i64]; omega
    have hnz : ¬ ((lb.length : Int) + 1 = 0) := by omega
    have hrem : ((p : Int) * 256 + (q : Int)).tmod ((lb.length : Int) + 1) = (i : Int) := by
      rw [Int.tmod_eq_emod_of_nonneg (by omega), hi]
      push_cast
      rfl
    have hwi : IntKind.i64.wrap (i : Int) = (i : Int) := by rw [IntKind.wrap_i64]; omega
    have hic : (i : Int) ≤ (cb : Int) := by omega
    clear hi
    have hn8 := getR_hs8 (lb.take i)
    have HSt := hide (getR_stay (l := lb) (i := i))
    have HMo := hide (more_here (l := lb) (i := i))
    have htl : (lb.take i).length = i := by rw [List.length_take]; omega
    have HTk := hide (fun (W : World) (h : Byt W W.heap.size (some ⟨gb, 0, none⟩) lb) => h.take i)
    obtain ⟨li, hli⟩ : ∃ li, lb.take i = li := ⟨_, rfl⟩
    rw [hli] at hn8 HSt HMo htl HTk
    obtain ⟨y, m, j, hG2⟩ : ∃ y m j, getR li = (y, m, j) := ⟨_, _, _, rfl⟩
    rw [HG.out, hG2] at HSt
    rw [HG.out, hG2] at HMo
    rw [hG2] at hn8
    have hnm2 : y.hs.length ≤ maxLen := by have : y.hs.length ≤ 8 := hn8; unfold maxLen; omega
    clear hn8 hli
    subst htl
    go_wp2_with fail
    refine (HGet.out gb cb li w2b (HTk.out w2b Y2.out) C2.out (by omega) (by omega) hcbm).mono ?_
    rw [hG2]
    rintro e w4 ⟨⟨hv4, rfl, r4⟩, b4⟩
    obtain ⟨a2, c2, rfl, d4⟩ := RowsH.hds r4
    have bal : Below w4.heap.size w4 (w4.alloc (Obj.cells #[Value.string y.m, Value.string y.p, Value.slice a2 y.hs.length c2, Value.string y.b] 26)) := (Below.refl _ _).alloc (Nat.le_refl _) _
    have b4' := b4.trans (bal.mono b4.size)
    have FR4 := hide (FrM.mk (w := w) (BR.out.next b4') (HR.out.nextQ b4') (BoxR.made w4 a2 c2 y 26) (Hds.nextQ d4 bal) (Y2.out.nextQ b4') (C2.out.trans (b4'.mono C2.out.size)))
    obtain ⟨N2, hN2⟩ : ∃ N2, w4.heap.size = N2 := ⟨_, rfl⟩
    obtain ⟨w4b, hw4b⟩ : ∃ w4b, w4.alloc (Obj.cells #[Value.string y.m, Value.string y.p, Value.slice a2 y.hs.length c2, Value.string y.b] 26) = w4b := ⟨_, rfl⟩
    rw [hw4b, hN2] at FR4
    clear b4 b4' bal r4 d4 BR HR Y2 C2 hG2 HTk
    go_wp2_with fail
    refine (HEnd.out gb cb lb w4b FR4.out.yb FR4.out.cw hcb hcbm).mono ?_
    rintro e w5 ⟨rfl, b5⟩
    have FR5 := hide (FR4.out.next b5)
    clear FR4 b5 hw4b hN2 hw2b hN1
    go_wp2_with fail
    refine (drawHeadEnd_any (HC.out.below FR5.out.cw) FR5.out.cw.size cap).mono ?_
    rintro e w6 ⟨⟨v, rfl, lh, hlh, o6⟩, b6⟩
    obtain ⟨gh, ch, rfl, _, _, hch, hchm, y6⟩ := o6.byt
    have FR6 := hide (FR5.out.next b6)
    have Y6 := hide y6
    clear FR5 b6 o6 y6
    go_wp2_with fail
    refine (HEnd.out gh ch lh w6 Y6.out FR6.out.cw hch hchm).mono ?_
    rintro e w7 ⟨rfl, b7⟩
    have FR7 := hide (FR6.out.next b7)
    have Y7 := hide (Y6.out.nextQ b7)
    clear FR6 Y6 b7
    go_wp2_with fail
    refine (specHeadEnd_any (some ⟨gh, 0, none⟩) lh ch w7.heap.size w7 Y7.out hch hchm).mono ?_
    rintro e w8 ⟨rfl, b8⟩
    have FR8 := hide (FR7.out.next (b8 w7.heap.size))
    clear FR7 Y7 b8
    go_wp2_with fail
    refine (specHeadEnd_any (some ⟨gb, 0, none⟩) lb cb w8.heap.size w8 FR8.out.yb hcb hcbm).mono ?_
    rintro e w9 ⟨rfl, b9⟩
    have FR9 := hide (FR8.out.next (b9 w8.heap.size))
    clear FR8 b9
    by_cases hj0 : j = 0
    · subst hj0
      have hst := HSt.out (by decide)
      simp only [Prod.mk.injEq] at hst
      obtain ⟨rfl, rfl, rfl⟩ := hst
      clear HSt HMo HG
      obtain ⟨_, x0, x1, x2, x3⟩ := FR9.out.b1
      obtain ⟨_, y0, y1, y2, y3⟩ := FR9.out.b2
      go_wp2_with fail
      refine (sameReq_any _ _ r r _ _ _ _ w9 FR9.out.h2 FR9.out.h1 (Nat.le_refl _) (Nat.le_refl _) hnm hnm).mono ?_
      rintro e w10 ⟨rfl, b10⟩
      rw [sameR_refl]
      have HF := hide (FR9.out.next b10).cw
      clear FR9 b10 x0 x1 x2 x3 y0 y1 y2 y3
      go_wp2
      go_ret
      exact ⟨rfl, HF.out⟩
    · have hj0' : (j == 0) = false := beq_eq_false_iff_ne.2 hj0
      by_cases hj1 : j = 1
      · subst hj1
        have HF := hide FR9.out.cw
        clear FR9 HSt HG
        by_cases hk0 : k = 0
        · subst hk0
          have hn : li.length < n := HMo.out rfl rfl
          have hn' : ((li.length : Nat) : Int) < (n : Int) := by omega
          clear HMo
          go_wp2
          go_ret
          exact ⟨by simp, HF.out⟩
        · have hk0' : (k != 0) = true := bne_iff_ne.2 hk0
          clear HMo
          by_cases hk1 : k = 1
          · subst hk1
            go_wp2
            go_ret
            exact ⟨by simp, HF.out⟩
          · have hk1' : (k == 1) = false := beq_eq_false_iff_ne.2 hk1
            go_wp2
            go_ret
            exact ⟨by simp, HF.out⟩
      · have hj1' : (j == 1) = false := beq_eq_false_iff_ne.2 hj1
        have hst := HSt.out hj1
        simp only [Prod.mk.injEq] at hst
        obtain ⟨rfl, rfl, rfl⟩ := hst
        have HF := hide FR9.out.cw
        clear FR9 HSt HG HMo
        go_wp2
        go_ret
        exact ⟨by simp, HF.out⟩
end Go.Proofs.YtkhnkockdfmkgaaGreatDoor
