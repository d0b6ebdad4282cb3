/-
  The walk of the law FnResps: for every code it returns true, and turns nothing that was there.
-/
import Derived.Test.YtkhnkockdfmkgaaDoorSpecGetResp
import Derived.Test.YtkhnkockdfmkgaaDoorDrawSameResp
import Derived.Test.YtkhnkockdfmkgaaDoorDrawGetResp
import Derived.Test.YtkhnkockdfmkgaaDoorSameResp
import Derived.Test.YtkhnkockdfmkgaaDoorIsRow
import Derived.Deep.RegionHeld3
namespace Go.Proofs.YtkhnkockdfmkgaaDoor
open Go.RowKit M
set_option linter.unusedVariables false

theorem Hds.next {w w' : World} {a : Option Addr} {hs : List Hd} (h : Hds w w.heap.size a hs) (hb : Below w.heap.size w w') : Hds w' w'.heap.size a hs := (h.below hb (Nat.le_refl _)).mono hb.size
theorem Byt.next {w w' : World} {a : Option Addr} {l : List UInt8} (h : Byt w w.heap.size a l) (hb : Below w.heap.size w w') : Byt w' w'.heap.size a l := (h.below hb (Nat.le_refl _)).mono hb.size

theorem sameA_self (r : Rs) : sameA r r = true := by
  have h : sameH r.hs r.hs = true := by simp [sameH]
  simp [sameA, h]
theorem SmallAn.fit {r : Rs} (h : SmallAn r) : FitA r := by
  obtain ⟨h1, h2, _⟩ := h
  have := h1.1
  exact ⟨h1.shortA (by decide) h2, fun x hx => by have := (h1.2 x hx).2; omega⟩
set_option maxRecDepth 100000 in
theorem putA_ge {r : Rs} (h : respB r = true) : sumH r.hs + r.b.size ≤ (putA r).length := by
  rw [putA_of h]
  unfold frontA linesTxt
  have h4 : r.b.data.toList.length = r.b.size := Array.length_toList
  simp only [List.length_append, hdsTxt_len]
  omega
/-- What is read of bytes is an answer whose bytes these are. -/
theorem getA_at {l : List UInt8} {y : Rs} {n : Nat} (h : getA l = (y, n, true)) : respB y = true ∧ putA y = l.take n ∧ n ≤ l.length := by
  by_cases hr : ∃ r, RespAt r l
  · obtain ⟨r, hr⟩ := hr
    rw [getA_yes hr] at h
    injection h with h1 h2
    injection h2 with h2 h3
    subst h1 h2
    obtain ⟨h4, q, rfl⟩ := hr
    exact ⟨h4, by simp, by simp⟩
  · rw [getA_no (fun r k => hr ⟨r, k⟩)] at h
    injection h with h1 h2
    injection h2 with h2 h3
    cases h3
theorem getA_fit {l : List UInt8} {y : Rs} {n : Nat} (h : getA l = (y, n, true)) (hl : l.length ≤ 8000) : FitA y ∧ y.hs.length ≤ 1048576 ∧ sumH y.hs ≤ 1048576 ∧ y.b.size ≤ 1048576 := by
  obtain ⟨h1, h2, h3⟩ := getA_at h
  have h4 := putA_ge h1
  rw [h2, List.length_take] at h4
  obtain ⟨_, _, h5, h6⟩ := resp_hds h1
  refine ⟨⟨⟨by unfold maxLen; omega, by unfold maxLen; omega, fun x hx => ?_⟩, fun x hx => ?_⟩, by omega, by omega, by omega⟩
  · have := sumH_mem y.hs x hx
    unfold maxLen
    omega
  · have := sumH_mem y.hs x hx
    omega

/-- What stands in the course of the law: four answers in their boxes, two rows of bytes. -/
structure FrA (w : World) (N1 : Nat) (a1 : Option Addr) (c1 : Nat) (r : Rs) (N2 : Nat) (a2 : Option Addr) (c2 : Nat) (y : Rs) (N3 : Nat) (a3 : Option Addr) (c3 : Nat) (p : Rs) (N4 : Nat) (a4 : Option Addr) (c4 : Nat) (q : Rs) (gb : Nat) (lb : List UInt8) (gc : Nat) (lc : List UInt8) (W : World) : Prop where
  b1 : BoxA W N1 a1 c1 r
  h1 : Hds W W.heap.size a1 r.hs
  b2 : BoxA W N2 a2 c2 y
  h2 : Hds W W.heap.size a2 y.hs
  b3 : BoxA W N3 a3 c3 p
  h3 : Hds W W.heap.size a3 p.hs
  b4 : BoxA W N4 a4 c4 q
  h4 : Hds W W.heap.size a4 q.hs
  yb : Byt W W.heap.size (some ⟨gb, 0, none⟩) lb
  yc : Byt W W.heap.size (some ⟨gc, 0, none⟩) lc
  cw : Below w.heap.size w W
section
variable {w : World} {N1 : Nat} {a1 : Option Addr} {c1 : Nat} {r : Rs} {N2 : Nat} {a2 : Option Addr} {c2 : Nat} {y : Rs} {N3 : Nat} {a3 : Option Addr} {c3 : Nat} {p : Rs} {N4 : Nat} {a4 : Option Addr} {c4 : Nat} {q : Rs} {gb : Nat} {lb : List UInt8} {gc : Nat} {lc : List UInt8} {W W' : World}
theorem FrA.next (h : FrA w N1 a1 c1 r N2 a2 c2 y N3 a3 c3 p N4 a4 c4 q gb lb gc lc W) (hb : Below W.heap.size W W') : FrA w N1 a1 c1 r N2 a2 c2 y N3 a3 c3 p N4 a4 c4 q gb lb gc lc W' :=
  ⟨h.b1.next hb, h.h1.next hb, h.b2.next hb, h.h2.next hb, h.b3.next hb, h.h3.next hb, h.b4.next hb, h.h4.next hb, h.yb.next hb, h.yc.next hb, h.cw.trans (hb.mono h.cw.size)⟩
theorem FrA.drew (h : FrA w N1 a1 c1 r N2 a2 c2 y N3 a3 c3 p N4 a4 c4 q gb lb gc lc W) : FrA w N1 a1 c1 r N2 a2 c2 y N3 a3 c3 p N4 a4 c4 q gb lb gc lc W.drew :=
  h.next ⟨rfl, rfl, rfl, Nat.le_refl _, fun _ _ => rfl⟩
theorem FrA.keep (h : FrA w N1 a1 c1 r N2 a2 c2 y N3 a3 c3 p N4 a4 c4 q gb lb gc lc W) : W.cell? ⟨N1, 0, none⟩ = some (.int .i64 r.c) ∧ W.cell? ⟨N1, 1, none⟩ = some (.slice a1 r.hs.length c1) ∧ W.cell? ⟨N1, 2, none⟩ = some (.string r.b) ∧ W.cell? ⟨N2, 0, none⟩ = some (.int .i64 y.c) ∧ W.cell? ⟨N2, 1, none⟩ = some (.slice a2 y.hs.length c2) ∧ W.cell? ⟨N2, 2, none⟩ = some (.string y.b) ∧ W.cell? ⟨N3, 0, none⟩ = some (.int .i64 p.c) ∧ W.cell? ⟨N3, 1, none⟩ = some (.slice a3 p.hs.length c3) ∧ W.cell? ⟨N3, 2, none⟩ = some (.string p.b) ∧ W.cell? ⟨N4, 0, none⟩ = some (.int .i64 q.c) ∧ W.cell? ⟨N4, 1, none⟩ = some (.slice a4 q.hs.length c4) ∧ W.cell? ⟨N4, 2, none⟩ = some (.string q.b) := by
  obtain ⟨_, x0, x1, x2⟩ := h.b1
  obtain ⟨_, y0, y1, y2⟩ := h.b2
  obtain ⟨_, z0, z1, z2⟩ := h.b3
  obtain ⟨_, u0, u1, u2⟩ := h.b4
  exact ⟨x0, x1, x2, y0, y1, y2, z0, z1, z2, u0, u1, u2⟩
theorem FrA.keepC (h : FrA w N1 a1 c1 r N2 a2 c2 y N3 a3 c3 p N4 a4 c4 q gb lb gc lc W) (n cc : Nat) (lt : List UInt8) (hn : n ≤ lc.length) (hlt : lc.take n = lt) : (convert 22 9 (.slice (some ⟨gc, 0, none⟩) n cc)).run Tryd.prog W = .ok (.string ⟨lt.toArray⟩) W ∧ W.cell? ⟨N1, 0, none⟩ = some (.int .i64 r.c) ∧ W.cell? ⟨N1, 1, none⟩ = some (.slice a1 r.hs.length c1) ∧ W.cell? ⟨N1, 2, none⟩ = some (.string r.b) ∧ W.cell? ⟨N2, 0, none⟩ = some (.int .i64 y.c) ∧ W.cell? ⟨N2, 1, none⟩ = some (.slice a2 y.hs.length c2) ∧ W.cell? ⟨N2, 2, none⟩ = some (.string y.b) ∧ W.cell? ⟨N3, 0, none⟩ = some (.int .i64 p.c) ∧ W.cell? ⟨N3, 1, none⟩ = some (.slice a3 p.hs.length c3) ∧ W.cell? ⟨N3, 2, none⟩ = some (.string p.b) ∧ W.cell? ⟨N4, 0, none⟩ = some (.int .i64 q.c) ∧ W.cell? ⟨N4, 1, none⟩ = some (.slice a4 q.hs.length c4) ∧ W.cell? ⟨N4, 2, none⟩ = some (.string q.b) := by
  refine ⟨?_, h.keep⟩
  rw [← hlt]
  exact conv_byt (h.yc.take n) n cc (by rw [List.length_take]; omega)
end

set_option maxRecDepth 100000 in
set_option maxHeartbeats 8000000 in
theorem FnResps_walk (a : Option Addr) (len cap : Nat) (zs : List Int) (w : World) (hr : IsRow .u8 w a len cap zs) (hL : laidMet Tryd.prog Rows.fnRespsRow.laid w) (mx : Int) (hmx : w.cell? ⟨0, 0, none⟩ = some (.int .i64 mx)) :
    Calls Tryd.prog 3 #[.slice a len cap] w fun e w' => e = .returned (.bool true) ∧ Below w.heap.size w w' := by
  have hml := row_len hr
  by_cases hb : (1048576 : Int) < (len : Int)
  · clear hr hL hmx
    go_enter Tryd.func3, Tryd.ntmps3
    go_wp2_with (go_at_call 4; refine (big_any a len cap _ hml).mono ?_; rintro e w1 ⟨rfl, hw⟩; obtain rfl := hw.symm; rw [decide_eq_true hb])
    go_ret
    exact ⟨rfl, Below.refl _ _⟩
  · have HC : Hid (CodeIn w w.heap.size a len zs) := code_of_row hr (by omega)
    have h0 : 0 < w.heap.size := World.block_lt_of_cell? w _ hmx
    have ht : PowTab w := powTab_of hL.tail.tail
    have HPut := hide (fun (a : Option Addr) (r : Rs) (c : Nat) (W : World) (hd : Hds W W.heap.size a r.hs) (hc : Below w.heap.size w W) (hf : FitA r) (q1 : r.hs.length ≤ 1048576) (q2 : sumH r.hs ≤ 1048576) (q3 : r.b.size ≤ 1048576) => putResp_any a r c W.heap.size W hd (Nat.le_refl _) hf q1 q2 q3 (fun w' hb => ht.below (hc.trans (hb.mono hc.size))))
    have HGet := hide (fun (g c : Nat) (l : List UInt8) (W : World) (h : Byt W W.heap.size (some ⟨g, 0, none⟩) l) (hc : Below w.heap.size w W) (hl : l.length ≤ 10000) (hlc : l.length ≤ c) (hcm : c ≤ maxLen) => getResp_any g 0 l c mx W h (by omega) hlc hcm (fun w' hb => ht.below (hc.trans (hb.mono hc.size))) (Nat.lt_of_lt_of_le h0 hc.size) ((hc.cell (p := ⟨0, 0, none⟩) h0).trans hmx))
    clear hr hL hmx h0 ht
    go_enter Tryd.func3, Tryd.ntmps3
    go_wp2_with (go_at_call 4; refine (big_any a len cap _ hml).mono ?_; rintro e w1 ⟨rfl, hw⟩; obtain rfl := hw.symm; rw [decide_eq_false hb])
    refine (drawPutResp_any HC.out (Nat.le_refl _) cap).mono ?_
    rintro e w1 ⟨⟨v, rfl, r, g1, c1, hs1, rfl, hh1⟩, b1⟩
    have S1 := hide hs1
    have bal : Below w1.heap.size w1 (w1.alloc (Obj.cells #[Value.int .i64 r.c, Value.slice (some ⟨g1, 0, none⟩) r.hs.length c1, Value.string r.b] 26)) := (Below.refl _ _).alloc (Nat.le_refl _) _
    have BR := hide (BoxA.made w1 (some ⟨g1, 0, none⟩) c1 r 26)
    have HR := hide (Hds.next hh1 bal)
    have C1 := hide (b1.trans (bal.mono b1.size))
    have hsum1 := hs1.1.sum
    have hlen1 := hs1.1.1
    have hbz1 := hs1.2.1
    have F1 := hide hs1.fit
    obtain ⟨N1, hN1⟩ : ∃ N1, w1.heap.size = N1 := ⟨_, rfl⟩
    obtain ⟨w1b, hw1b⟩ : ∃ w1b, w1.alloc (Obj.cells #[Value.int .i64 r.c, Value.slice (some ⟨g1, 0, none⟩) r.hs.length c1, Value.string r.b] 26) = w1b := ⟨_, rfl⟩
    rw [hw1b] at bal BR HR C1
    rw [hN1] at BR
    clear hh1 hs1 b1 bal
    --TAIL
    obtain ⟨_, x0, x1, x2⟩ := BR.out
    go_wp2_with fail
    refine (HPut.out (some ⟨g1, 0, none⟩) r c1 w1b HR.out C1.out F1.out (by omega) (by omega) (by omega)).mono ?_
    rintro e w2 ⟨⟨v, rfl, o2⟩, b2⟩
    obtain ⟨gb, cb, rfl, hB2, hg2, hlb, hcb, y2⟩ := o2.byt
    have hz2 := putA_small S1.out.1 S1.out.2.1
    have BR2 := hide (BR.out.next b2)
    have HR2 := hide (HR.out.next b2)
    have Y2 := hide y2
    have C2 := hide (C1.out.trans (b2.mono C1.out.size))
    clear x0 x1 x2 BR HR C1 o2 y2 b2
    obtain ⟨lb, hlbE⟩ : ∃ lb, putA r = lb := ⟨_, rfl⟩
    rw [hlbE] at hlb hz2 Y2
    rw [hlbE]
    have HLB := hide hlbE
    clear hlbE
    go_wp2_with fail
    refine (drawGetResp_any (HC.out.below C2.out) C2.out.size cap).mono ?_
    rintro e w3 ⟨⟨v, rfl, lc, hlc, o3⟩, b3⟩
    obtain ⟨gc, cc, rfl, _, _, hcc, hccm, y3⟩ := o3.byt
    have BR3 := hide (BR2.out.next b3)
    have HR3 := hide (HR2.out.next b3)
    have Y3 := hide (Y2.out.next b3)
    have Z3 := hide y3
    have C3 := hide (C2.out.trans (b3.mono C2.out.size))
    clear BR2 HR2 Y2 C2 o3 y3 b3
    obtain ⟨y, P, C, hG⟩ : ∃ y P C, getA lc = (y, P, C) := ⟨_, _, _, rfl⟩
    have HG := hide hG
    have HGet2 := HGet
    go_wp2_with fail
    refine (HGet.out gc cc lc w3 Z3.out C3.out (by omega) hcc hccm).mono ?_
    rw [hG]
    rintro e w4 ⟨⟨hv4, rfl, r4⟩, b4⟩
    obtain ⟨a2, c2, rfl, d4⟩ := RowsH.hds r4
    have bal : Below w4.heap.size w4 (w4.alloc (Obj.cells #[Value.int .i64 y.c, Value.slice a2 y.hs.length c2, Value.string y.b] 26)) := (Below.refl _ _).alloc (Nat.le_refl _) _
    have BY4 := hide (BoxA.made w4 a2 c2 y 26)
    have b4' := b4.trans (bal.mono b4.size)
    have HY4 := hide (Hds.next d4 bal)
    have BR4 := hide (BR3.out.next b4')
    have HR4 := hide (HR3.out.next b4')
    have Y4 := hide (Y3.out.next b4')
    have Z4 := hide (Z3.out.next b4')
    have C4 := hide (C3.out.trans (b4'.mono C3.out.size))
    obtain ⟨N2, hN2⟩ : ∃ N2, w4.heap.size = N2 := ⟨_, rfl⟩
    obtain ⟨w4b, hw4b⟩ : ∃ w4b, w4.alloc (Obj.cells #[Value.int .i64 y.c, Value.slice a2 y.hs.length c2, Value.string y.b] 26) = w4b := ⟨_, rfl⟩
    rw [hw4b] at BY4 HY4 BR4 HR4 Y4 Z4 C4
    rw [hN2] at BY4
    clear BR3 HR3 Y3 Z3 C3 r4 d4 b4 b4' bal
    go_wp2_with fail
    refine (specGetResp_any gc 0 lc cc w4b Z4.out (by omega) hcc hccm).mono ?_
    rw [hG]
    rintro e w5 ⟨⟨hv5, rfl, r5⟩, b5⟩
    obtain ⟨a5, c5, rfl, d5⟩ := RowsH.hds r5
    have bal : Below w5.heap.size w5 (w5.alloc (Obj.cells #[Value.int .i64 y.c, Value.slice a5 y.hs.length c5, Value.string y.b] 26)) := (Below.refl _ _).alloc (Nat.le_refl _) _
    have b5' := b5.trans (bal.mono b5.size)
    have BY5 := hide (BY4.out.next b5')
    have HY5 := hide (HY4.out.next b5')
    have BR5 := hide (BR4.out.next b5')
    have HR5 := hide (HR4.out.next b5')
    have Y5 := hide (Y4.out.next b5')
    have Z5 := hide (Z4.out.next b5')
    have C5 := hide (C4.out.trans (b5'.mono C4.out.size))
    obtain ⟨w5b, hw5b⟩ : ∃ w5b, w5.alloc (Obj.cells #[Value.int .i64 y.c, Value.slice a5 y.hs.length c5, Value.string y.b] 26) = w5b := ⟨_, rfl⟩
    rw [hw5b] at BY5 HY5 BR5 HR5 Y5 Z5 C5
    clear BY4 HY4 BR4 HR4 Y4 Z4 C4 r5 d5 b5 b5' bal hG
    go_wp2_with fail
    refine (drawSameResp_any (HC.out.below C5.out) C5.out.size cap).mono ?_
    rintro e w6 ⟨⟨v, u, rfl, ⟨p, g3, c3, hs3, rfl, hh3⟩, ⟨q, g4, c4, hs4, rfl, hh4⟩⟩, b6⟩
    have bal : Below w6.heap.size w6 ((w6.alloc (Obj.cells #[Value.int .i64 p.c, Value.slice (some ⟨g3, 0, none⟩) p.hs.length c3, Value.string p.b] 26)).alloc (Obj.cells #[Value.int .i64 q.c, Value.slice (some ⟨g4, 0, none⟩) q.hs.length c4, Value.string q.b] 26)) := ((Below.refl _ _).alloc (Nat.le_refl _) _).alloc (by simp) _
    have b6' := b6.trans (bal.mono b6.size)
    have bp := (BoxA.made w6 (some ⟨g3, 0, none⟩) c3 p 26).alloc (Obj.cells #[Value.int .i64 q.c, Value.slice (some ⟨g4, 0, none⟩) q.hs.length c4, Value.string q.b] 26)
    have bq := BoxA.made (w6.alloc (Obj.cells #[Value.int .i64 p.c, Value.slice (some ⟨g3, 0, none⟩) p.hs.length c3, Value.string p.b] 26)) (some ⟨g4, 0, none⟩) c4 q 26
    have hz6 : (w6.alloc (Obj.cells #[Value.int .i64 p.c, Value.slice (some ⟨g3, 0, none⟩) p.hs.length c3, Value.string p.b] 26)).heap.size = w6.heap.size + 1 := by simp
    rw [hz6] at bq
    have FR6 := hide (FrA.mk (w := w) (BR5.out.next b6') (HR5.out.next b6') (BY5.out.next b6') (HY5.out.next b6') bp (Hds.next hh3 bal) bq (Hds.next hh4 bal) (Y5.out.next b6') (Z5.out.next b6') (C5.out.trans (b6'.mono C5.out.size)))
    have lp : p.hs.length ≤ maxLen := by have := hs3.1.1; unfold maxLen; omega
    have lq : q.hs.length ≤ maxLen := by have := hs4.1.1; unfold maxLen; omega
    obtain ⟨N3, hN3⟩ : ∃ N3, w6.heap.size = N3 := ⟨_, rfl⟩
    obtain ⟨w6b, hw6b⟩ : ∃ w6b, (w6.alloc (Obj.cells #[Value.int .i64 p.c, Value.slice (some ⟨g3, 0, none⟩) p.hs.length c3, Value.string p.b] 26)).alloc (Obj.cells #[Value.int .i64 q.c, Value.slice (some ⟨g4, 0, none⟩) q.hs.length c4, Value.string q.b] 26) = w6b := ⟨_, rfl⟩
    rw [hw6b, hN3] at FR6
    clear BR5 HR5 BY5 HY5 Y5 Z5 C5 hh3 hh4 hs3 hs4 b6 b6' bal bp bq hz6
    have FR7 := hide FR6.out.drew
    cases C
    · have K7 := hide FR7.out.keep
      go_wp2_with fail
      refine wp_region_held_drew (S := (fun W => W.cell? ⟨N1, 0, none⟩ = some (.int .i64 r.c) ∧ W.cell? ⟨N1, 1, none⟩ = some (.slice (some ⟨g1, 0, none⟩) r.hs.length c1) ∧ W.cell? ⟨N1, 2, none⟩ = some (.string r.b) ∧ W.cell? ⟨N2, 0, none⟩ = some (.int .i64 y.c) ∧ W.cell? ⟨N2, 1, none⟩ = some (.slice a2 y.hs.length c2) ∧ W.cell? ⟨N2, 2, none⟩ = some (.string y.b) ∧ W.cell? ⟨N3, 0, none⟩ = some (.int .i64 p.c) ∧ W.cell? ⟨N3, 1, none⟩ = some (.slice (some ⟨g3, 0, none⟩) p.hs.length c3) ∧ W.cell? ⟨N3, 2, none⟩ = some (.string p.b) ∧ W.cell? ⟨N3 + 1, 0, none⟩ = some (.int .i64 q.c) ∧ W.cell? ⟨N3 + 1, 1, none⟩ = some (.slice (some ⟨g4, 0, none⟩) q.hs.length c4) ∧ W.cell? ⟨N3 + 1, 2, none⟩ = some (.string q.b))) (by kernel_rfl) K7.out (fun hHeld => ?_)
      simp only [List.size_toArray, List.length_cons, List.length_nil, Nat.reduceAdd, Array.replicate_succ, Array.replicate_zero, List.push_toArray, List.nil_append, List.cons_append]
      refine wpAnyH_take (i := 0) (v := ?_) rfl (by kernel_rfl) (by kernel_rfl) (by kernel_rfl) (fun _ _ _ h => h) (Or.inl ⟨by rfl, ?_⟩) (by assumption) ?_
      rotate_left
      · intro w hSw; (try dsimp only at hSw); go_simp; try with_reducible rfl
      simp only [Act.put, List.getElem_toArray, List.getElem_cons_zero, List.setIfInBounds_toArray, List.set_cons_succ, List.set_cons_zero]
      refine wpAnyH_take (i := 1) (v := ?_) rfl (by kernel_rfl) (by kernel_rfl) (by kernel_rfl) (fun _ _ _ h => h) (Or.inl ⟨by rfl, ?_⟩) (by assumption) ?_
      rotate_left
      · intro w hSw; (try dsimp only at hSw); go_simp; try with_reducible rfl
      simp only [Act.put, List.getElem_toArray, List.getElem_cons_succ, List.getElem_cons_zero, List.setIfInBounds_toArray, List.set_cons_succ, List.set_cons_zero]
      refine wpAnyH_take (i := 2) (v := ?_) rfl (by kernel_rfl) (by kernel_rfl) (by kernel_rfl) (fun _ _ _ h => h) (Or.inl ⟨by rfl, ?_⟩) (by assumption) ?_
      rotate_left
      · intro w hSw; (try dsimp only at hSw); go_simp; try with_reducible rfl
      simp only [Act.put, List.getElem_toArray, List.getElem_cons_succ, List.getElem_cons_zero, List.setIfInBounds_toArray, List.set_cons_succ, List.set_cons_zero]
      refine wpAnyH_take (i := 3) (v := ?_) rfl (by kernel_rfl) (by kernel_rfl) (by kernel_rfl) (fun _ _ _ h => h) (Or.inl ⟨by rfl, ?_⟩) (by assumption) ?_
      rotate_left
      · intro w hSw; (try dsimp only at hSw); go_simp; try with_reducible rfl
      simp only [Act.put, List.getElem_toArray, List.getElem_cons_succ, List.getElem_cons_zero, List.setIfInBounds_toArray, List.set_cons_succ, List.set_cons_zero]
      refine wpAnyH_take (i := 4) (v := ?_) rfl (by kernel_rfl) (by kernel_rfl) (by kernel_rfl) (fun _ _ _ h => h) (Or.inl ⟨by rfl, ?_⟩) (by assumption) ?_
      rotate_left
      · intro w hSw; (try dsimp only at hSw); go_simp; try with_reducible rfl
      simp only [Act.put, List.getElem_toArray, List.getElem_cons_succ, List.getElem_cons_zero, List.setIfInBounds_toArray, List.set_cons_succ, List.set_cons_zero]
      refine wpAnyH_take (i := 5) (v := ?_) rfl (by kernel_rfl) (by kernel_rfl) (by kernel_rfl) (fun _ _ _ h => h) (Or.inl ⟨by rfl, ?_⟩) (by assumption) ?_
      rotate_left
      · intro w hSw; (try dsimp only at hSw); go_simp; try with_reducible rfl
      simp only [Act.put, List.getElem_toArray, List.getElem_cons_succ, List.getElem_cons_zero, List.setIfInBounds_toArray, List.set_cons_succ, List.set_cons_zero]
      refine wpAnyH_take (i := 6) (v := undef) rfl (by kernel_rfl) (by kernel_rfl) (by kernel_rfl) (fun _ _ _ h => h) (Or.inr ⟨by rfl, rfl⟩) (by assumption) ?_
      simp only [Act.put, List.getElem_toArray, List.getElem_cons_succ, List.getElem_cons_zero, List.setIfInBounds_toArray, List.set_cons_succ, List.set_cons_zero]
      refine wpAnyH_take (i := 7) (v := undef) rfl (by kernel_rfl) (by kernel_rfl) (by kernel_rfl) (fun _ _ _ h => h) (Or.inr ⟨by rfl, rfl⟩) (by assumption) ?_
      simp only [Act.put, List.getElem_toArray, List.getElem_cons_succ, List.getElem_cons_zero, List.setIfInBounds_toArray, List.set_cons_succ, List.set_cons_zero]
      refine wpAnyH_take (i := 8) (v := undef) rfl (by kernel_rfl) (by kernel_rfl) (by kernel_rfl) (fun _ _ _ h => h) (Or.inr ⟨by rfl, rfl⟩) (by assumption) ?_
      simp only [Act.put, List.getElem_toArray, List.getElem_cons_succ, List.getElem_cons_zero, List.setIfInBounds_toArray, List.set_cons_succ, List.set_cons_zero]
      refine wpAnyH_take (i := 9) (v := undef) rfl (by kernel_rfl) (by kernel_rfl) (by kernel_rfl) (fun _ _ _ h => h) (Or.inr ⟨by rfl, rfl⟩) (by assumption) ?_
      simp only [Act.put, List.getElem_toArray, List.getElem_cons_succ, List.getElem_cons_zero, List.setIfInBounds_toArray, List.set_cons_succ, List.set_cons_zero]
      refine wpAnyH_take (i := 10) (v := undef) rfl (by kernel_rfl) (by kernel_rfl) (by kernel_rfl) (fun _ _ _ h => h) (Or.inr ⟨by rfl, rfl⟩) (by assumption) ?_
      simp only [Act.put, List.getElem_toArray, List.getElem_cons_succ, List.getElem_cons_zero, List.setIfInBounds_toArray, List.set_cons_succ, List.set_cons_zero]
      refine wpAnyH_take (i := 11) (v := undef) rfl (by kernel_rfl) (by kernel_rfl) (by kernel_rfl) (fun _ _ _ h => h) (Or.inr ⟨by rfl, rfl⟩) (by assumption) ?_
      simp only [Act.put, List.getElem_toArray, List.getElem_cons_succ, List.getElem_cons_zero, List.setIfInBounds_toArray, List.set_cons_succ, List.set_cons_zero]
      refine wpAnyH_take (i := 12) (v := undef) rfl (by kernel_rfl) (by kernel_rfl) (by kernel_rfl) (fun _ _ _ h => h) (Or.inr ⟨by rfl, rfl⟩) (by assumption) ?_
      simp only [Act.put, List.getElem_toArray, List.getElem_cons_succ, List.getElem_cons_zero, List.setIfInBounds_toArray, List.set_cons_succ, List.set_cons_zero]
      refine wpAnyH_take (i := 13) (v := undef) rfl (by kernel_rfl) (by kernel_rfl) (by kernel_rfl) (fun _ _ _ h => h) (Or.inr ⟨by rfl, rfl⟩) (by assumption) ?_
      simp only [Act.put, List.getElem_toArray, List.getElem_cons_succ, List.getElem_cons_zero, List.setIfInBounds_toArray, List.set_cons_succ, List.set_cons_zero]
      refine wpAnyH_take (i := 14) (v := ?_) rfl (by kernel_rfl) (by kernel_rfl) (by kernel_rfl) (fun _ _ _ h => h) (Or.inl ⟨by rfl, ?_⟩) (by assumption) ?_
      rotate_left
      · intro w hSw; (try dsimp only at hSw); go_simp; try with_reducible rfl
      simp only [Act.put, List.getElem_toArray, List.getElem_cons_succ, List.getElem_cons_zero, List.setIfInBounds_toArray, List.set_cons_succ, List.set_cons_zero]
      refine wpAnyH_take (i := 15) (v := ?_) rfl (by kernel_rfl) (by kernel_rfl) (by kernel_rfl) (fun _ _ _ h => h) (Or.inl ⟨by rfl, ?_⟩) (by assumption) ?_
      rotate_left
      · intro w hSw; (try dsimp only at hSw); go_simp; try with_reducible rfl
      simp only [Act.put, List.getElem_toArray, List.getElem_cons_succ, List.getElem_cons_zero, List.setIfInBounds_toArray, List.set_cons_succ, List.set_cons_zero]
      refine wpAnyH_take (i := 16) (v := ?_) rfl (by kernel_rfl) (by kernel_rfl) (by kernel_rfl) (fun _ _ _ h => h) (Or.inl ⟨by rfl, ?_⟩) (by assumption) ?_
      rotate_left
      · intro w hSw; (try dsimp only at hSw); go_simp; try with_reducible rfl
      simp only [Act.put, List.getElem_toArray, List.getElem_cons_succ, List.getElem_cons_zero, List.setIfInBounds_toArray, List.set_cons_succ, List.set_cons_zero]
      refine wpAnyH_take (i := 17) (v := ?_) rfl (by kernel_rfl) (by kernel_rfl) (by kernel_rfl) (fun _ _ _ h => h) (Or.inl ⟨by rfl, ?_⟩) (by assumption) ?_
      rotate_left
      · intro w hSw; (try dsimp only at hSw); go_simp; try with_reducible rfl
      simp only [Act.put, List.getElem_toArray, List.getElem_cons_succ, List.getElem_cons_zero, List.setIfInBounds_toArray, List.set_cons_succ, List.set_cons_zero]
      refine wpAnyH_take (i := 18) (v := ?_) rfl (by kernel_rfl) (by kernel_rfl) (by kernel_rfl) (fun _ _ _ h => h) (Or.inl ⟨by rfl, ?_⟩) (by assumption) ?_
      rotate_left
      · intro w hSw; (try dsimp only at hSw); go_simp; try with_reducible rfl
      simp only [Act.put, List.getElem_toArray, List.getElem_cons_succ, List.getElem_cons_zero, List.setIfInBounds_toArray, List.set_cons_succ, List.set_cons_zero]
      refine wpAnyH_take (i := 20) (v := ?_) rfl (by kernel_rfl) (by kernel_rfl) (by kernel_rfl) (fun _ _ _ h => h) (Or.inl ⟨by rfl, ?_⟩) (by assumption) ?_
      rotate_left
      · intro w hSw; (try dsimp only at hSw); go_simp; try with_reducible rfl
      simp only [Act.put, List.getElem_toArray, List.getElem_cons_succ, List.getElem_cons_zero, List.setIfInBounds_toArray, List.set_cons_succ, List.set_cons_zero]
      refine wpAnyH_take (i := 21) (v := ?_) rfl (by kernel_rfl) (by kernel_rfl) (by kernel_rfl) (fun _ _ _ h => h) (Or.inl ⟨by rfl, ?_⟩) (by assumption) ?_
      rotate_left
      · intro w hSw; (try dsimp only at hSw); go_simp; try with_reducible rfl
      simp only [Act.put, List.getElem_toArray, List.getElem_cons_succ, List.getElem_cons_zero, List.setIfInBounds_toArray, List.set_cons_succ, List.set_cons_zero]
      refine wpAnyH_ready (rs := [19]) (by kernel_rfl) (by simp) ?_
      refine AllReadyH.cons rfl (fun K hK => ?_) AllReadyH.nil
      go_simp
      refine (sameResp_any _ _ p q _ _ _ _ w6b.drew FR7.out.h3 FR7.out.h4 (Nat.le_refl _) (Nat.le_refl _) lp lq).mono ?_
      rintro e w8 ⟨rfl, b8⟩
      have FR8 := hide (FR7.out.next b8)
      have K8 := hide (FR8.out.keep)
      clear b8
      refine hK.out _ _ K8.out (fun hHeld2 => ?_)
      clear hK K hHeld
      have hHeld := hHeld2
      clear hHeld2
      refine wpAnyH_ready (rs := [22]) (by kernel_rfl) (by simp) ?_
      refine AllReadyH.cons rfl (fun K hK => ?_) AllReadyH.nil
      go_simp
      refine (specSameResp_any _ _ p q _ _ _ _ w8 FR8.out.h3 FR8.out.h4 (Nat.le_refl _) (Nat.le_refl _) lp lq).mono ?_
      rintro e w9 ⟨rfl, b9⟩
      have FR9 := hide (FR8.out.next b9)
      have K9 := hide (FR9.out.keep)
      clear b9
      refine hK.out _ _ K9.out (fun hHeld2 => ?_)
      clear hK K hHeld
      have hHeld := hHeld2
      clear hHeld2
      refine wpAnyH_take (i := 23) (v := ?_) rfl (by kernel_rfl) (by kernel_rfl) (by kernel_rfl) (fun _ _ _ h => h) (Or.inl ⟨by rfl, ?_⟩) (by assumption) ?_
      rotate_left
      · intro w hSw; (try dsimp only at hSw); go_simp; try with_reducible rfl
      simp only [Act.put, List.getElem_toArray, List.getElem_cons_succ, List.getElem_cons_zero, List.setIfInBounds_toArray, List.set_cons_succ, List.set_cons_zero]
      refine wpAnyH_take (i := 24) (v := ?_) rfl (by kernel_rfl) (by kernel_rfl) (by kernel_rfl) (fun _ _ _ h => h) (Or.inl ⟨by rfl, ?_⟩) (by assumption) ?_
      rotate_left
      · intro w hSw; (try dsimp only at hSw); go_simp; try with_reducible rfl
      simp only [Act.put, List.getElem_toArray, List.getElem_cons_succ, List.getElem_cons_zero, List.setIfInBounds_toArray, List.set_cons_succ, List.set_cons_zero]
      refine wpAnyH_take (i := 25) (v := ?_) rfl (by kernel_rfl) (by kernel_rfl) (by kernel_rfl) (fun _ _ _ h => h) (Or.inl ⟨by rfl, ?_⟩) (by assumption) ?_
      rotate_left
      · intro w hSw; (try dsimp only at hSw); go_simp; try with_reducible rfl
      simp only [Act.put, List.getElem_toArray, List.getElem_cons_succ, List.getElem_cons_zero, List.setIfInBounds_toArray, List.set_cons_succ, List.set_cons_zero]
      refine wpAnyH_take (i := 26) (v := ?_) rfl (by kernel_rfl) (by kernel_rfl) (by kernel_rfl) (fun _ _ _ h => h) (Or.inl ⟨by rfl, ?_⟩) (by assumption) ?_
      rotate_left
      · intro w hSw; (try dsimp only at hSw); go_simp; try with_reducible rfl
      simp only [Act.put, List.getElem_toArray, List.getElem_cons_succ, List.getElem_cons_zero, List.setIfInBounds_toArray, List.set_cons_succ, List.set_cons_zero]
      refine wpAnyH_take (i := 28) (v := ?_) rfl (by kernel_rfl) (by kernel_rfl) (by kernel_rfl) (fun _ _ _ h => h) (Or.inl ⟨by rfl, ?_⟩) (by assumption) ?_
      rotate_left
      · intro w hSw; (try dsimp only at hSw); go_simp; try with_reducible rfl
      simp only [Act.put, List.getElem_toArray, List.getElem_cons_succ, List.getElem_cons_zero, List.setIfInBounds_toArray, List.set_cons_succ, List.set_cons_zero]
      refine wpAnyH_ready (rs := [27]) (by kernel_rfl) (by simp) ?_
      refine AllReadyH.cons rfl (fun K hK => ?_) AllReadyH.nil
      go_simp
      refine (respOk_any _ r _ _ w9 FR9.out.h1 (Nat.le_refl _) F1.out).mono ?_
      rintro e w10 ⟨rfl, b10⟩
      have FR10 := hide (FR9.out.next b10)
      have K10 := hide (FR10.out.keep)
      clear b10
      refine hK.out _ _ K10.out (fun hHeld2 => ?_)
      clear hK K hHeld
      have hHeld := hHeld2
      clear hHeld2
      refine wpAnyH_ready (rs := [29]) (by kernel_rfl) (by simp) ?_
      refine AllReadyH.cons rfl (fun K hK => ?_) AllReadyH.nil
      go_simp
      refine (specRespOk_any _ r _ _ w10 FR10.out.h1 (Nat.le_refl _) F1.out.1).mono ?_
      rintro e w11 ⟨rfl, b11⟩
      have FR11 := hide (FR10.out.next b11)
      have K11 := hide (FR11.out.keep)
      clear b11
      refine hK.out _ _ K11.out (fun hHeld2 => ?_)
      clear hK K hHeld
      have hHeld := hHeld2
      clear hHeld2
      refine wpAnyH_take (i := 30) (v := ?_) rfl (by kernel_rfl) (by kernel_rfl) (by kernel_rfl) (fun _ _ _ h => h) (Or.inl ⟨by rfl, ?_⟩) (by assumption) ?_
      rotate_left
      · intro w hSw; (try dsimp only at hSw); go_simp; try with_reducible rfl
      simp only [Act.put, List.getElem_toArray, List.getElem_cons_succ, List.getElem_cons_zero, List.setIfInBounds_toArray, List.set_cons_succ, List.set_cons_zero]
      refine wpAnyH_take (i := 31) (v := ?_) rfl (by kernel_rfl) (by kernel_rfl) (by kernel_rfl) (fun _ _ _ h => h) (Or.inl ⟨by rfl, ?_⟩) (by assumption) ?_
      rotate_left
      · intro w hSw; (try dsimp only at hSw); go_simp; try with_reducible rfl
      simp only [Act.put, List.getElem_toArray, List.getElem_cons_succ, List.getElem_cons_zero, List.setIfInBounds_toArray, List.set_cons_succ, List.set_cons_zero]
      refine wpAnyH_done (by kernel_rfl) ?_ _
      have FRz := hide FR11.out
      obtain ⟨_, x0, x1, x2⟩ := FR11.out.b1
      cases hok : respB r
      · have hbN : lb.length = 0 := by rw [← HLB.out, putA_no hok]; rfl
        have HOk := hide (respOk_any _ r c1 _ w11 FR11.out.h1 (Nat.le_refl _) F1.out)
        rw [hok] at HOk
        go_wp2_with fail
        refine HOk.out.mono ?_
        rintro e wx ⟨rfl, bx⟩
        have cx := FRz.out.cw.trans (bx.mono FRz.out.cw.size)
        go_wp2
        go_ret
        exact ⟨rfl, cx⟩
      · have HOk := hide (respOk_any _ r c1 _ w11 FR11.out.h1 (Nat.le_refl _) F1.out)
        rw [hok] at HOk
        go_wp2_with fail
        refine HOk.out.mono ?_
        rintro e wx ⟨rfl, bx⟩
        have FX := hide (FRz.out.next bx)
        clear x0 x1 x2 bx
        have HGr : Hid (getA (lb ++ [72, 13]) = (r, lb.length, true)) := by
          rw [← HLB.out]
          exact getA_yes ⟨hok, _, rfl⟩
        go_wp2_with (at_builtin; refine wp_append_byts rfl _ _ rfl wx.heap.size _ [] rfl (OwnY.bare wx) gb lb cb rfl (fun j hj => ?_) (by simp; omega) (by simp) ?_)
        · obtain ⟨b', o', e, hbB, hc⟩ := FX.out.yb (by omega)
          cases e
          have hcj := hc j hj
          rw [Nat.zero_add] at hcj
          exact (((Below.refl wx.heap.size wx).alloc (Nat.le_refl _) _).cell (p := ⟨gb, j, none⟩) hbB).trans hcj
        · intro v2 w2 o2 gr2 _
          have o2n : OwnY w2 wx.heap.size v2 lb := o2
          have cx2 : Below wx.heap.size wx w2 := ((Below.refl wx.heap.size wx).alloc (Nat.le_refl _) _).grown gr2 (by simp) (fun k hk => by cases hk; exact Nat.le_refl _)
          obtain ⟨g2, k2, rfl, o2'⟩ := o2n.slice
          have O2 := hide o2'
          have CX2 := hide cx2
          have hzx := cx2.size
          clear o2 gr2 o2n o2' cx2
          go_wp2_with (at_builtin; refine wp_append_byts rfl _ _ rfl wx.heap.size _ lb rfl (O2.out.alloc _) w2.heap.size [72, 13] 2 rfl (fun j hj => ?_) (by simp; omega) (by simp; omega) ?_)
          · match j, hj with
            | 0, _ => simp
            | 1, _ => simp
          · intro v3 w3 o3 gr3 _
            have hob := O2.out.bd
            have cx3 : Below wx.heap.size wx w3 := (CX2.out.alloc hzx _).grown gr3 (by simp; omega) (fun k hk => by cases hk; exact hob.2.2.2.1)
            have FX3 := hide (FX.out.next cx3)
            obtain ⟨gz, kz, rfl, _, _, hk1, hk2, yz⟩ := o3.byt
            have YZ := hide yz
            have hlz : (lb ++ [72, 13]).length = lb.length + 2 := by simp
            clear o3 gr3 cx3 O2 CX2 hob yz FX
            rw [hlz] at hk1
            rw [hlz]
            go_wp2_with fail
            have HGz := hide (HGet.out gz kz (lb ++ [72, 13]) w3 YZ.out FX3.out.cw (by omega) (by omega) hk2)
            rw [HGr.out, hlz] at HGz
            refine HGz.out.mono ?_
            rintro e wy ⟨⟨hvy, rfl, ry⟩, bY⟩
            obtain ⟨ay, cy, rfl, dy⟩ := RowsH.hds ry
            have bal : Below wy.heap.size wy (wy.alloc (Obj.cells #[Value.int .i64 r.c, Value.slice ay r.hs.length cy, Value.string r.b] 26)) := (Below.refl _ _).alloc (Nat.le_refl _) _
            have bzz := bY.trans (bal.mono bY.size)
            have BXz := hide (BoxA.made wy ay cy r 26)
            have HXz := hide (Hds.next dy bal)
            have FX4 := hide (FX3.out.next bzz)
            obtain ⟨wz, hwz⟩ : ∃ wz, wy.alloc (Obj.cells #[Value.int .i64 r.c, Value.slice ay r.hs.length cy, Value.string r.b] 26) = wz := ⟨_, rfl⟩
            rw [hwz] at BXz HXz FX4
            obtain ⟨_, u0, u1, u2⟩ := BXz.out
            obtain ⟨_, x0, x1, x2⟩ := FX4.out.b1
            have lr : r.hs.length ≤ maxLen := by unfold maxLen; omega
            clear HGz YZ FX3 ry dy bY bal bzz
            go_wp2_with fail
            refine (sameResp_any _ _ r r _ _ _ _ wz HXz.out FX4.out.h1 (Nat.le_refl _) (Nat.le_refl _) lr lr).mono ?_
            rintro e wq ⟨rfl, bq⟩
            rw [sameA_self]
            have cq := FX4.out.cw.trans (bq.mono FX4.out.cw.size)
            clear bq
            go_wp2
            go_ret
            exact ⟨rfl, cq⟩

    · have hat := getA_at HG.out
      have FY := hide (getA_fit HG.out hlc)
      have hPl := hat.2.2
      obtain ⟨lt, hlt⟩ : ∃ lt, lc.take P = lt := ⟨_, rfl⟩
      have HLT := hide hlt
      have HYL := hide (hat.2.1.trans hlt)
      have hPc : (P : Int) ≤ (cc : Int) := by omega
      have hltl : lt.length = P := by rw [← hlt, List.length_take]; omega
      have K7 := hide (FR7.out.keepC P cc lt hPl HLT.out)
      clear hat hlt
      go_wp2_with fail
      refine wp_region_held_drew (S := (fun W => (convert 22 9 (.slice (some ⟨gc, 0, none⟩) P cc)).run Tryd.prog W = .ok (.string ⟨lt.toArray⟩) W ∧ W.cell? ⟨N1, 0, none⟩ = some (.int .i64 r.c) ∧ W.cell? ⟨N1, 1, none⟩ = some (.slice (some ⟨g1, 0, none⟩) r.hs.length c1) ∧ W.cell? ⟨N1, 2, none⟩ = some (.string r.b) ∧ W.cell? ⟨N2, 0, none⟩ = some (.int .i64 y.c) ∧ W.cell? ⟨N2, 1, none⟩ = some (.slice a2 y.hs.length c2) ∧ W.cell? ⟨N2, 2, none⟩ = some (.string y.b) ∧ W.cell? ⟨N3, 0, none⟩ = some (.int .i64 p.c) ∧ W.cell? ⟨N3, 1, none⟩ = some (.slice (some ⟨g3, 0, none⟩) p.hs.length c3) ∧ W.cell? ⟨N3, 2, none⟩ = some (.string p.b) ∧ W.cell? ⟨N3 + 1, 0, none⟩ = some (.int .i64 q.c) ∧ W.cell? ⟨N3 + 1, 1, none⟩ = some (.slice (some ⟨g4, 0, none⟩) q.hs.length c4) ∧ W.cell? ⟨N3 + 1, 2, none⟩ = some (.string q.b))) (by kernel_rfl) K7.out (fun hHeld => ?_)
      simp only [List.size_toArray, List.length_cons, List.length_nil, Nat.reduceAdd, Array.replicate_succ, Array.replicate_zero, List.push_toArray, List.nil_append, List.cons_append]
      refine wpAnyH_take (i := 0) (v := ?_) rfl (by kernel_rfl) (by kernel_rfl) (by kernel_rfl) (fun _ _ _ h => h) (Or.inl ⟨by rfl, ?_⟩) (by assumption) ?_
      rotate_left
      · intro w hSw; (try dsimp only at hSw); go_simp; try with_reducible rfl
      simp only [Act.put, List.getElem_toArray, List.getElem_cons_zero, List.setIfInBounds_toArray, List.set_cons_succ, List.set_cons_zero]
      refine wpAnyH_take (i := 1) (v := ?_) rfl (by kernel_rfl) (by kernel_rfl) (by kernel_rfl) (fun _ _ _ h => h) (Or.inl ⟨by rfl, ?_⟩) (by assumption) ?_
      rotate_left
      · intro w hSw; (try dsimp only at hSw); go_simp; try with_reducible rfl
      simp only [Act.put, List.getElem_toArray, List.getElem_cons_succ, List.getElem_cons_zero, List.setIfInBounds_toArray, List.set_cons_succ, List.set_cons_zero]
      refine wpAnyH_take (i := 2) (v := ?_) rfl (by kernel_rfl) (by kernel_rfl) (by kernel_rfl) (fun _ _ _ h => h) (Or.inl ⟨by rfl, ?_⟩) (by assumption) ?_
      rotate_left
      · intro w hSw; (try dsimp only at hSw); go_simp; try with_reducible rfl
      simp only [Act.put, List.getElem_toArray, List.getElem_cons_succ, List.getElem_cons_zero, List.setIfInBounds_toArray, List.set_cons_succ, List.set_cons_zero]
      refine wpAnyH_take (i := 3) (v := ?_) rfl (by kernel_rfl) (by kernel_rfl) (by kernel_rfl) (fun _ _ _ h => h) (Or.inl ⟨by rfl, ?_⟩) (by assumption) ?_
      rotate_left
      · intro w hSw; (try dsimp only at hSw); go_simp; try with_reducible rfl
      simp only [Act.put, List.getElem_toArray, List.getElem_cons_succ, List.getElem_cons_zero, List.setIfInBounds_toArray, List.set_cons_succ, List.set_cons_zero]
      refine wpAnyH_take (i := 4) (v := ?_) rfl (by kernel_rfl) (by kernel_rfl) (by kernel_rfl) (fun _ _ _ h => h) (Or.inl ⟨by rfl, ?_⟩) (by assumption) ?_
      rotate_left
      · intro w hSw; (try dsimp only at hSw); go_simp; try with_reducible rfl
      simp only [Act.put, List.getElem_toArray, List.getElem_cons_succ, List.getElem_cons_zero, List.setIfInBounds_toArray, List.set_cons_succ, List.set_cons_zero]
      refine wpAnyH_take (i := 5) (v := ?_) rfl (by kernel_rfl) (by kernel_rfl) (by kernel_rfl) (fun _ _ _ h => h) (Or.inl ⟨by rfl, ?_⟩) (by assumption) ?_
      rotate_left
      · intro w hSw; (try dsimp only at hSw); go_simp; try with_reducible rfl
      simp only [Act.put, List.getElem_toArray, List.getElem_cons_succ, List.getElem_cons_zero, List.setIfInBounds_toArray, List.set_cons_succ, List.set_cons_zero]
      refine wpAnyH_take (i := 6) (v := ?_) rfl (by kernel_rfl) (by kernel_rfl) (by kernel_rfl) (fun _ _ _ h => h) (Or.inl ⟨by rfl, ?_⟩) (by assumption) ?_
      rotate_left
      · intro w hSw; (try dsimp only at hSw); go_simp; try with_reducible rfl
      simp only [Act.put, List.getElem_toArray, List.getElem_cons_succ, List.getElem_cons_zero, List.setIfInBounds_toArray, List.set_cons_succ, List.set_cons_zero]
      refine wpAnyH_take (i := 9) (v := ?_) rfl (by kernel_rfl) (by kernel_rfl) (by kernel_rfl) (fun _ _ _ h => h) (Or.inl ⟨by rfl, ?_⟩) (by assumption) ?_
      rotate_left
      · intro w hSw; (try dsimp only at hSw); go_simp; try with_reducible rfl
      simp only [Act.put, List.getElem_toArray, List.getElem_cons_succ, List.getElem_cons_zero, List.setIfInBounds_toArray, List.set_cons_succ, List.set_cons_zero]
      refine wpAnyH_take (i := 10) (v := ?_) rfl (by kernel_rfl) (by kernel_rfl) (by kernel_rfl) (fun _ _ _ h => h) (Or.inl ⟨by rfl, ?_⟩) (by assumption) ?_
      rotate_left
      · intro w hSw; (try dsimp only at hSw); go_simp; try with_reducible rfl
      simp only [Act.put, List.getElem_toArray, List.getElem_cons_succ, List.getElem_cons_zero, List.setIfInBounds_toArray, List.set_cons_succ, List.set_cons_zero]
      refine wpAnyH_take (i := 11) (v := ?_) rfl (by kernel_rfl) (by kernel_rfl) (by kernel_rfl) (fun _ _ _ h => h) (Or.inl ⟨by rfl, ?_⟩) (by assumption) ?_
      rotate_left
      · intro w hSw; (try dsimp only at hSw); go_simp; try with_reducible rfl
      simp only [Act.put, List.getElem_toArray, List.getElem_cons_succ, List.getElem_cons_zero, List.setIfInBounds_toArray, List.set_cons_succ, List.set_cons_zero]
      refine wpAnyH_take (i := 12) (v := ?_) rfl (by kernel_rfl) (by kernel_rfl) (by kernel_rfl) (fun _ _ _ h => h) (Or.inl ⟨by rfl, ?_⟩) (by assumption) ?_
      rotate_left
      · intro w hSw; (try dsimp only at hSw); go_simp; try with_reducible rfl
      simp only [Act.put, List.getElem_toArray, List.getElem_cons_succ, List.getElem_cons_zero, List.setIfInBounds_toArray, List.set_cons_succ, List.set_cons_zero]
      refine wpAnyH_ready (rs := [7]) (by kernel_rfl) (by simp) ?_
      refine AllReadyH.cons rfl (fun K hK => ?_) AllReadyH.nil
      go_simp
      refine (HPut.out a2 y c2 w6b.drew FR7.out.h2 FR7.out.cw FY.out.1 FY.out.2.1 FY.out.2.2.1 FY.out.2.2.2).mono ?_
      rintro e w8 ⟨⟨v, rfl, o8⟩, b8⟩
      obtain ⟨g8, k8, rfl, _, _, _, _, y8⟩ := o8.byt
      rw [HYL.out] at y8 ⊢
      have hcv8 := conv_byt y8 P k8 hltl
      have FR8 := hide (FR7.out.next b8)
      have K8 := hide (FR8.out.keepC P cc lt hPl HLT.out)
      clear b8 o8 y8
      refine hK.out _ _ K8.out (fun hHeld2 => ?_)
      clear hK K hHeld
      have hHeld := hHeld2
      clear hHeld2
      refine wpAnyH_ready (rs := [8]) (by kernel_rfl) (by simp) ?_
      refine AllReadyH.cons rfl (fun K hK => ?_) AllReadyH.nil
      go_simp
      refine hK.out _ _ K8.out (fun hHeld2 => ?_)
      clear hK K hHeld
      have hHeld := hHeld2
      clear hHeld2
      refine wpAnyH_take (i := 13) (v := ?_) rfl (by kernel_rfl) (by kernel_rfl) (by kernel_rfl) (fun _ _ _ h => h) (Or.inl ⟨by rfl, ?_⟩) (by assumption) ?_
      rotate_left
      · intro w hSw; (try dsimp only at hSw); go_simp; try with_reducible rfl
      simp only [Act.put, List.getElem_toArray, List.getElem_cons_succ, List.getElem_cons_zero, List.setIfInBounds_toArray, List.set_cons_succ, List.set_cons_zero]
      refine wpAnyH_take (i := 14) (v := ?_) rfl (by kernel_rfl) (by kernel_rfl) (by kernel_rfl) (fun _ _ _ h => h) (Or.inl ⟨by rfl, ?_⟩) (by assumption) ?_
      rotate_left
      · intro w hSw; (try dsimp only at hSw); go_simp; try with_reducible rfl
      simp only [Act.put, List.getElem_toArray, List.getElem_cons_succ, List.getElem_cons_zero, List.setIfInBounds_toArray, List.set_cons_succ, List.set_cons_zero]
      refine wpAnyH_take (i := 15) (v := ?_) rfl (by kernel_rfl) (by kernel_rfl) (by kernel_rfl) (fun _ _ _ h => h) (Or.inl ⟨by rfl, ?_⟩) (by assumption) ?_
      rotate_left
      · intro w hSw; (try dsimp only at hSw); go_simp; try with_reducible rfl
      simp only [Act.put, List.getElem_toArray, List.getElem_cons_succ, List.getElem_cons_zero, List.setIfInBounds_toArray, List.set_cons_succ, List.set_cons_zero]
      refine wpAnyH_take (i := 16) (v := ?_) rfl (by kernel_rfl) (by kernel_rfl) (by kernel_rfl) (fun _ _ _ h => h) (Or.inl ⟨by rfl, ?_⟩) (by assumption) ?_
      rotate_left
      · intro w hSw; (try dsimp only at hSw); go_simp; try with_reducible rfl
      simp only [Act.put, List.getElem_toArray, List.getElem_cons_succ, List.getElem_cons_zero, List.setIfInBounds_toArray, List.set_cons_succ, List.set_cons_zero]
      refine wpAnyH_take (i := 17) (v := ?_) rfl (by kernel_rfl) (by kernel_rfl) (by kernel_rfl) (fun _ _ _ h => h) (Or.inl ⟨by rfl, ?_⟩) (by assumption) ?_
      rotate_left
      · intro w hSw; (try dsimp only at hSw); go_simp; try with_reducible rfl
      simp only [Act.put, List.getElem_toArray, List.getElem_cons_succ, List.getElem_cons_zero, List.setIfInBounds_toArray, List.set_cons_succ, List.set_cons_zero]
      refine wpAnyH_take (i := 18) (v := ?_) rfl (by kernel_rfl) (by kernel_rfl) (by kernel_rfl) (fun _ _ _ h => h) (Or.inl ⟨by rfl, ?_⟩) (by assumption) ?_
      rotate_left
      · intro w hSw; (try dsimp only at hSw); go_simp; try with_reducible rfl
      simp only [Act.put, List.getElem_toArray, List.getElem_cons_succ, List.getElem_cons_zero, List.setIfInBounds_toArray, List.set_cons_succ, List.set_cons_zero]
      refine wpAnyH_take (i := 20) (v := ?_) rfl (by kernel_rfl) (by kernel_rfl) (by kernel_rfl) (fun _ _ _ h => h) (Or.inl ⟨by rfl, ?_⟩) (by assumption) ?_
      rotate_left
      · intro w hSw; (try dsimp only at hSw); go_simp; try with_reducible rfl
      simp only [Act.put, List.getElem_toArray, List.getElem_cons_succ, List.getElem_cons_zero, List.setIfInBounds_toArray, List.set_cons_succ, List.set_cons_zero]
      refine wpAnyH_take (i := 21) (v := ?_) rfl (by kernel_rfl) (by kernel_rfl) (by kernel_rfl) (fun _ _ _ h => h) (Or.inl ⟨by rfl, ?_⟩) (by assumption) ?_
      rotate_left
      · intro w hSw; (try dsimp only at hSw); go_simp; try with_reducible rfl
      simp only [Act.put, List.getElem_toArray, List.getElem_cons_succ, List.getElem_cons_zero, List.setIfInBounds_toArray, List.set_cons_succ, List.set_cons_zero]
      refine wpAnyH_ready (rs := [19]) (by kernel_rfl) (by simp) ?_
      refine AllReadyH.cons rfl (fun K hK => ?_) AllReadyH.nil
      go_simp
      refine (sameResp_any _ _ p q _ _ _ _ w8 FR8.out.h3 FR8.out.h4 (Nat.le_refl _) (Nat.le_refl _) lp lq).mono ?_
      rintro e w9 ⟨rfl, b9⟩
      have FR9 := hide (FR8.out.next b9)
      have K9 := hide (FR9.out.keepC P cc lt hPl HLT.out)
      clear b9
      refine hK.out _ _ K9.out (fun hHeld2 => ?_)
      clear hK K hHeld
      have hHeld := hHeld2
      clear hHeld2
      refine wpAnyH_ready (rs := [22]) (by kernel_rfl) (by simp) ?_
      refine AllReadyH.cons rfl (fun K hK => ?_) AllReadyH.nil
      go_simp
      refine (specSameResp_any _ _ p q _ _ _ _ w9 FR9.out.h3 FR9.out.h4 (Nat.le_refl _) (Nat.le_refl _) lp lq).mono ?_
      rintro e w10 ⟨rfl, b10⟩
      have FR10 := hide (FR9.out.next b10)
      have K10 := hide (FR10.out.keepC P cc lt hPl HLT.out)
      clear b10
      refine hK.out _ _ K10.out (fun hHeld2 => ?_)
      clear hK K hHeld
      have hHeld := hHeld2
      clear hHeld2
      refine wpAnyH_take (i := 23) (v := ?_) rfl (by kernel_rfl) (by kernel_rfl) (by kernel_rfl) (fun _ _ _ h => h) (Or.inl ⟨by rfl, ?_⟩) (by assumption) ?_
      rotate_left
      · intro w hSw; (try dsimp only at hSw); go_simp; try with_reducible rfl
      simp only [Act.put, List.getElem_toArray, List.getElem_cons_succ, List.getElem_cons_zero, List.setIfInBounds_toArray, List.set_cons_succ, List.set_cons_zero]
      refine wpAnyH_take (i := 24) (v := ?_) rfl (by kernel_rfl) (by kernel_rfl) (by kernel_rfl) (fun _ _ _ h => h) (Or.inl ⟨by rfl, ?_⟩) (by assumption) ?_
      rotate_left
      · intro w hSw; (try dsimp only at hSw); go_simp; try with_reducible rfl
      simp only [Act.put, List.getElem_toArray, List.getElem_cons_succ, List.getElem_cons_zero, List.setIfInBounds_toArray, List.set_cons_succ, List.set_cons_zero]
      refine wpAnyH_take (i := 25) (v := ?_) rfl (by kernel_rfl) (by kernel_rfl) (by kernel_rfl) (fun _ _ _ h => h) (Or.inl ⟨by rfl, ?_⟩) (by assumption) ?_
      rotate_left
      · intro w hSw; (try dsimp only at hSw); go_simp; try with_reducible rfl
      simp only [Act.put, List.getElem_toArray, List.getElem_cons_succ, List.getElem_cons_zero, List.setIfInBounds_toArray, List.set_cons_succ, List.set_cons_zero]
      refine wpAnyH_take (i := 26) (v := ?_) rfl (by kernel_rfl) (by kernel_rfl) (by kernel_rfl) (fun _ _ _ h => h) (Or.inl ⟨by rfl, ?_⟩) (by assumption) ?_
      rotate_left
      · intro w hSw; (try dsimp only at hSw); go_simp; try with_reducible rfl
      simp only [Act.put, List.getElem_toArray, List.getElem_cons_succ, List.getElem_cons_zero, List.setIfInBounds_toArray, List.set_cons_succ, List.set_cons_zero]
      refine wpAnyH_take (i := 28) (v := ?_) rfl (by kernel_rfl) (by kernel_rfl) (by kernel_rfl) (fun _ _ _ h => h) (Or.inl ⟨by rfl, ?_⟩) (by assumption) ?_
      rotate_left
      · intro w hSw; (try dsimp only at hSw); go_simp; try with_reducible rfl
      simp only [Act.put, List.getElem_toArray, List.getElem_cons_succ, List.getElem_cons_zero, List.setIfInBounds_toArray, List.set_cons_succ, List.set_cons_zero]
      refine wpAnyH_ready (rs := [27]) (by kernel_rfl) (by simp) ?_
      refine AllReadyH.cons rfl (fun K hK => ?_) AllReadyH.nil
      go_simp
      refine (respOk_any _ r _ _ w10 FR10.out.h1 (Nat.le_refl _) F1.out).mono ?_
      rintro e w11 ⟨rfl, b11⟩
      have FR11 := hide (FR10.out.next b11)
      have K11 := hide (FR11.out.keepC P cc lt hPl HLT.out)
      clear b11
      refine hK.out _ _ K11.out (fun hHeld2 => ?_)
      clear hK K hHeld
      have hHeld := hHeld2
      clear hHeld2
      refine wpAnyH_ready (rs := [29]) (by kernel_rfl) (by simp) ?_
      refine AllReadyH.cons rfl (fun K hK => ?_) AllReadyH.nil
      go_simp
      refine (specRespOk_any _ r _ _ w11 FR11.out.h1 (Nat.le_refl _) F1.out.1).mono ?_
      rintro e w12 ⟨rfl, b12⟩
      have FR12 := hide (FR11.out.next b12)
      have K12 := hide (FR12.out.keepC P cc lt hPl HLT.out)
      clear b12
      refine hK.out _ _ K12.out (fun hHeld2 => ?_)
      clear hK K hHeld
      have hHeld := hHeld2
      clear hHeld2
      refine wpAnyH_take (i := 30) (v := ?_) rfl (by kernel_rfl) (by kernel_rfl) (by kernel_rfl) (fun _ _ _ h => h) (Or.inl ⟨by rfl, ?_⟩) (by assumption) ?_
      rotate_left
      · intro w hSw; (try dsimp only at hSw); go_simp; try with_reducible rfl
      simp only [Act.put, List.getElem_toArray, List.getElem_cons_succ, List.getElem_cons_zero, List.setIfInBounds_toArray, List.set_cons_succ, List.set_cons_zero]
      refine wpAnyH_take (i := 31) (v := ?_) rfl (by kernel_rfl) (by kernel_rfl) (by kernel_rfl) (fun _ _ _ h => h) (Or.inl ⟨by rfl, ?_⟩) (by assumption) ?_
      rotate_left
      · intro w hSw; (try dsimp only at hSw); go_simp; try with_reducible rfl
      simp only [Act.put, List.getElem_toArray, List.getElem_cons_succ, List.getElem_cons_zero, List.setIfInBounds_toArray, List.set_cons_succ, List.set_cons_zero]
      refine wpAnyH_done (by kernel_rfl) ?_ _
      have FRz := hide FR12.out
      obtain ⟨_, x0, x1, x2⟩ := FR12.out.b1
      cases hok : respB r
      · have hbN : lb.length = 0 := by rw [← HLB.out, putA_no hok]; rfl
        have HOk := hide (respOk_any _ r c1 _ w12 FR12.out.h1 (Nat.le_refl _) F1.out)
        rw [hok] at HOk
        go_wp2_with fail
        refine HOk.out.mono ?_
        rintro e wx ⟨rfl, bx⟩
        have cx := FRz.out.cw.trans (bx.mono FRz.out.cw.size)
        go_wp2
        go_ret
        exact ⟨rfl, cx⟩
      · have HOk := hide (respOk_any _ r c1 _ w12 FR12.out.h1 (Nat.le_refl _) F1.out)
        rw [hok] at HOk
        go_wp2_with fail
        refine HOk.out.mono ?_
        rintro e wx ⟨rfl, bx⟩
        have FX := hide (FRz.out.next bx)
        clear x0 x1 x2 bx
        have HGr : Hid (getA (lb ++ [72, 13]) = (r, lb.length, true)) := by
          rw [← HLB.out]
          exact getA_yes ⟨hok, _, rfl⟩
        go_wp2_with (at_builtin; refine wp_append_byts rfl _ _ rfl wx.heap.size _ [] rfl (OwnY.bare wx) gb lb cb rfl (fun j hj => ?_) (by simp; omega) (by simp) ?_)
        · obtain ⟨b', o', e, hbB, hc⟩ := FX.out.yb (by omega)
          cases e
          have hcj := hc j hj
          rw [Nat.zero_add] at hcj
          exact (((Below.refl wx.heap.size wx).alloc (Nat.le_refl _) _).cell (p := ⟨gb, j, none⟩) hbB).trans hcj
        · intro v2 w2 o2 gr2 _
          have o2n : OwnY w2 wx.heap.size v2 lb := o2
          have cx2 : Below wx.heap.size wx w2 := ((Below.refl wx.heap.size wx).alloc (Nat.le_refl _) _).grown gr2 (by simp) (fun k hk => by cases hk; exact Nat.le_refl _)
          obtain ⟨g2, k2, rfl, o2'⟩ := o2n.slice
          have O2 := hide o2'
          have CX2 := hide cx2
          have hzx := cx2.size
          clear o2 gr2 o2n o2' cx2
          go_wp2_with (at_builtin; refine wp_append_byts rfl _ _ rfl wx.heap.size _ lb rfl (O2.out.alloc _) w2.heap.size [72, 13] 2 rfl (fun j hj => ?_) (by simp; omega) (by simp; omega) ?_)
          · match j, hj with
            | 0, _ => simp
            | 1, _ => simp
          · intro v3 w3 o3 gr3 _
            have hob := O2.out.bd
            have cx3 : Below wx.heap.size wx w3 := (CX2.out.alloc hzx _).grown gr3 (by simp; omega) (fun k hk => by cases hk; exact hob.2.2.2.1)
            have FX3 := hide (FX.out.next cx3)
            obtain ⟨gz, kz, rfl, _, _, hk1, hk2, yz⟩ := o3.byt
            have YZ := hide yz
            have hlz : (lb ++ [72, 13]).length = lb.length + 2 := by simp
            clear o3 gr3 cx3 O2 CX2 hob yz FX
            rw [hlz] at hk1
            rw [hlz]
            go_wp2_with fail
            have HGz := hide (HGet.out gz kz (lb ++ [72, 13]) w3 YZ.out FX3.out.cw (by omega) (by omega) hk2)
            rw [HGr.out, hlz] at HGz
            refine HGz.out.mono ?_
            rintro e wy ⟨⟨hvy, rfl, ry⟩, bY⟩
            obtain ⟨ay, cy, rfl, dy⟩ := RowsH.hds ry
            have bal : Below wy.heap.size wy (wy.alloc (Obj.cells #[Value.int .i64 r.c, Value.slice ay r.hs.length cy, Value.string r.b] 26)) := (Below.refl _ _).alloc (Nat.le_refl _) _
            have bzz := bY.trans (bal.mono bY.size)
            have BXz := hide (BoxA.made wy ay cy r 26)
            have HXz := hide (Hds.next dy bal)
            have FX4 := hide (FX3.out.next bzz)
            obtain ⟨wz, hwz⟩ : ∃ wz, wy.alloc (Obj.cells #[Value.int .i64 r.c, Value.slice ay r.hs.length cy, Value.string r.b] 26) = wz := ⟨_, rfl⟩
            rw [hwz] at BXz HXz FX4
            obtain ⟨_, u0, u1, u2⟩ := BXz.out
            obtain ⟨_, x0, x1, x2⟩ := FX4.out.b1
            have lr : r.hs.length ≤ maxLen := by unfold maxLen; omega
            clear HGz YZ FX3 ry dy bY bal bzz
            go_wp2_with fail
            refine (sameResp_any _ _ r r _ _ _ _ wz HXz.out FX4.out.h1 (Nat.le_refl _) (Nat.le_refl _) lr lr).mono ?_
            rintro e wq ⟨rfl, bq⟩
            rw [sameA_self]
            have cq := FX4.out.cw.trans (bq.mono FX4.out.cw.size)
            clear bq
            go_wp2
            go_ret
            exact ⟨rfl, cq⟩

end Go.Proofs.YtkhnkockdfmkgaaDoor
