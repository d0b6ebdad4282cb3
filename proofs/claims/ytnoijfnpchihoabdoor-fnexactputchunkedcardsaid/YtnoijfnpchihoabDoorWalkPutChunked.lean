/-
  The walk of the law FnExactPutChunked: for every request and sizes it returns true, and turns nothing that was there.
-/
import Derived.Test.YtnoijfnpchihoabDoorPutChunked
import Derived.Test.YtnoijfnpchihoabDoorMarkByts
import Derived.Test.YtnoijfnpchihoabDoorMarkHeads
import Derived.Test.YtnoijfnpchihoabDoorStrEq
import Derived.Test.YtnoijfnpchihoabDoorEqReq
import Derived.Test.YtnoijfnpchihoabDoorLawReq
import Derived.Deep.RegionHeld3
namespace Go.Proofs.YtnoijfnpchihoabDoor
open Go.RowKit M
set_option linter.unusedVariables false

theorem belowG3 {w w' : World} {g C : Nat} (h : w.grownBy w' (some g)) (hC : C ≤ g) (hg : g < w.heap.size) : Below C w w' :=
  ⟨h.os, h.tape, h.output, h.size, fun k hk => h.block k (by omega) (fun e => by have := Option.some.inj e; omega)⟩
theorem putKL_len (r : Rq) (ns : List Int) (h : r.b.size ≤ 1048576) : (putKL r ns).length ≤ 33555000 := by
  unfold putKL put0
  split
  · rename_i hh
    have := putCs_le ns r.b h
    rw [List.length_append]
    omega
  · exact Nat.zero_le _
theorem NewI.of {w w' : World} {N g : Nat} {l : List Int} (h : NewI w N l) (hg : w.grownBy w' (some g)) (hne : N ≠ g) : NewI w' N l := World.rowIs.of_block h (hg.block _ (World.rowIs.lt h) (fun e => hne (Option.some.inj e)))

set_option maxRecDepth 100000 in
set_option maxHeartbeats 4000000 in
theorem FnExactPutChunked_walk (a : Option Addr) (r : Rq) (cap : Nat) (hs : ShortR r) (a2 : Option Addr) (len2 cap2 : Nat) (zs : List Int) (w : World) (h : Hds w w.heap.size a r.hs) (h2r : IsRow .i64 w a2 len2 cap2 zs) (hL : laidMet Tryd.prog Rows.fnExactPutChunkedRow.laid w) :
    Calls Tryd.prog 3 #[.agg #[.string r.m, .string r.p, .slice a r.hs.length cap, .string r.b], .slice a2 len2 cap2] w fun e w' => e = .returned (.bool true) ∧ Below w.heap.size w w' := by
  have HS := hide hs
  obtain ⟨q1, q2, q3, q4, q5⟩ := hs
  have ht : DeTab w := deTab_of hL.tail
  have HDe := hide ht
  clear ht hL
  obtain ⟨ns, rfl, hI, hlc, hcm⟩ := ints_of_row h2r
  unfold maxLen at hcm
  have HI := hide hI
  clear h2r hI
  have HB0 : Hid (Below w.heap.size w (w.alloc (Obj.cells #[Value.string r.m, Value.string r.p, Value.slice a r.hs.length cap, Value.string r.b] 24))) := (Below.refl _ _).alloc (Nat.le_refl _) _
  have HX0 := hide (BoxR.made w a cap r 24)
  have HH := hide h
  clear h
  by_cases hnl : ns.length ≤ 1048576
  case neg =>
    have h2' : (1048576 : Int) < ns.length := by omega
    go_enter Tryd.func3, Tryd.ntmps3
    go_wp2
    go_ret
    exact ⟨rfl, HB0.out⟩
  have hnl' : ¬ ((1048576 : Int) < ns.length) := by omega
  have hnm : ns.length ≤ maxLen := by unfold maxLen; omega
  have HTo := hide (fun (W : World) (hc : Below w.heap.size w W) => toIntS_any a2 ns cap2 w.heap.size W (HI.out.below hc (Nat.le_refl _)) hc.size hnl)
  go_enter Tryd.func3, Tryd.ntmps3
  go_wp2_with fail
  refine (szReq_any a r cap w.heap.size 1048576 _ (HH.out.below HB0.out (Nat.le_refl _)) (by simp) q5 q4 q1 q2 q3 (Nat.le_refl _)).mono ?_
  rintro e w1 ⟨⟨z, rfl, hz⟩, b1⟩
  have c1 := HB0.out.trans (b1.mono HB0.out.size)
  have BX1 := hide (HX0.out.next b1)
  have x1 := BX1.out
  obtain ⟨xlt1, x10, x11, x12, x13⟩ := x1
  clear b1
  rcases hz with hz | ⟨m, rfl, hm⟩
  · go_wp2
    go_ret
    exact ⟨rfl, c1⟩
  have hl2 : r.hs.length ≤ 1048576 := by omega
  have hsum : sumH r.hs ≤ 1048576 := by omega
  have hz1 : r.m.size ≤ 1048576 := by omega
  have hz2 : r.p.size ≤ 1048576 := by omega
  have hz4 : r.b.size ≤ 1048576 := by omega
  have hl4 : r.hs.length ≤ maxLen := by unfold maxLen; omega
  have HF : Hid (FitR r) := ⟨HS.out, fun x hx => by have := (sumH_mem r.hs x hx).2; omega⟩
  clear hm
  obtain ⟨P, hP⟩ : ∃ P, putKL r ns = P := ⟨_, rfl⟩
  have hPl : P.length ≤ 33555000 := by rw [← hP]; exact putKL_len r ns hz4
  have hPm : P.length ≤ maxLen := by unfold maxLen; omega
  have HPUT := hide (fun (a : Option Addr) (cap B : Nat) (a2 : Option Addr) (cap2 : Nat) (W : World) (h : Hds W B a r.hs) (hB : B ≤ W.heap.size) (hI : Ints W W.heap.size a2 ns) (hc : Below w.heap.size w W) => putChunked_any a r cap B a2 ns cap2 W h hB hI HF.out hl2 hsum hz1 hz2 hz4 hnl (HDe.out.below hc))
  have HSPUT := hide (fun (a : Option Addr) (cap B : Nat) (a2 : Option Addr) (cap2 : Nat) (W : World) (h : Hds W B a r.hs) (hB : B ≤ W.heap.size) (hI : Ints W W.heap.size a2 ns) => specPutChunked_any a r cap B a2 ns cap2 W h hB hI HS.out hl2 hsum hz1 hz2 hz4 hnl)
  rw [hP] at HPUT HSPUT
  clear hP
  go_wp2_with fail
  refine (toReq_any a r cap w.heap.size w1 (HH.out.below c1 (Nat.le_refl _)) c1.size hl2).mono ?_
  rintro e w2 ⟨⟨g2, rfl, s2⟩, b2⟩
  have c2 := c1.trans (b2.mono c1.size)
  have BX2 := hide (BX1.out.next b2)
  clear x10 x11 x12 x13 b2
  go_wp2_with fail
  refine (HTo.out w2 c2).mono ?_
  rintro e wi ⟨rfl, ni, bi, zi⟩
  have ci := c2.trans (bi.mono c2.size)
  have BXi := hide (BX2.out.next bi)
  have si := (s2.below bi (Nat.le_refl _)).mono bi.size
  have ii := ni.ints zi
  clear bi ni zi s2
  go_wp2_with fail
  refine (HSPUT.out _ _ _ _ _ wi si (Nat.le_refl _) ii).mono ?_
  rintro e w3 ⟨⟨gw, cw, rfl, y3⟩, b3⟩
  have c3 := ci.trans (b3.mono ci.size)
  have BX3 := hide (BXi.out.next b3)
  have x3 := BX3.out
  obtain ⟨xlt3, x30, x31, x32, x33⟩ := x3
  have Y3 := hide y3
  clear y3 si ii b3 HSPUT BXi BX2
  go_wp2_with fail
  refine (toReq_rows a r cap w.heap.size w3 (HH.out.below c3 (Nat.le_refl _)) c3.size hl2).mono ?_
  rintro e w4 ⟨⟨g4, rfl, s4, hg4⟩, b4⟩
  have c4 := c3.trans (b4.mono c3.size)
  have BX4 := hide (BX3.out.next b4)
  clear x30 x31 x32 x33
  obtain ⟨w5, hw5⟩ : ∃ w5, w4.alloc (Obj.cells #[Value.string r.m, Value.string r.p, Value.slice (some ⟨g4, 0, none⟩) r.hs.length r.hs.length, Value.string r.b] 31) = w5 := ⟨_, rfl⟩
  have d5 := b4.alloc b4.size (Obj.cells #[Value.string r.m, Value.string r.p, Value.slice (some ⟨g4, 0, none⟩) r.hs.length r.hs.length, Value.string r.b] 31)
  have c5 := c4.alloc c4.size (Obj.cells #[Value.string r.m, Value.string r.p, Value.slice (some ⟨g4, 0, none⟩) r.hs.length r.hs.length, Value.string r.b] 31)
  have BU5 := hide (BoxR.made w4 (some ⟨g4, 0, none⟩) r.hs.length r 31)
  have BX5 := hide (BX4.out.alloc (Obj.cells #[Value.string r.m, Value.string r.p, Value.slice (some ⟨g4, 0, none⟩) r.hs.length r.hs.length, Value.string r.b] 31))
  have s5 := s4.next ((Below.refl w4.heap.size w4).alloc (Nat.le_refl _) (Obj.cells #[Value.string r.m, Value.string r.p, Value.slice (some ⟨g4, 0, none⟩) r.hs.length r.hs.length, Value.string r.b] 31))
  rw [hw5] at d5 c5 BU5 BX5 s5
  have z5 : w5.heap.size = w4.heap.size + 1 := by rw [← hw5]; simp
  have hg5 := s4.1
  have C5 := hide c5
  have D5 := hide d5
  have S5 := hide s5
  have Z5 := hide z5
  clear s4 s5 BX4 c5 d5 z5
  go_wp2_with fail
  try rw [hw5]
  clear hw5
  refine (HTo.out w5 C5.out).mono ?_
  rintro e w6 ⟨rfl, n6, b6, z6⟩
  have c6 := C5.out.trans (b6.mono C5.out.size)
  have d6 := D5.out.trans (b6.mono D5.out.size)
  have BU6 := hide (BU5.out.next b6)
  have BX6 := hide (BX5.out.next b6)
  have s6 := S5.out.next b6
  have N6 := hide n6
  have zz6 : w5.heap.size < w6.heap.size := z6
  have u6 := BU6.out
  obtain ⟨ult6, u60, u61, u62, u63⟩ := u6
  clear b6 n6 z6 C5 D5 BU5 BX5 S5
  go_wp2_with fail
  refine (HPUT.out _ _ w6.heap.size _ _ w6 ((s6.hds (Nat.lt_succ_self _)).mono (by have := Z5.out; omega)) (Nat.le_refl _) (N6.out.ints zz6) c6).mono ?_
  rintro e w7 ⟨⟨v7, rfl, o7⟩, b7⟩
  have c7 := c6.trans (b7.mono c6.size)
  have d7 := d6.trans (b7.mono d6.size)
  have BU7 := hide (BU6.out.next b7)
  have BX7 := hide (BX6.out.next b7)
  have s7 := s6.next b7
  have N7 := hide (N6.out.next b7)
  have O7 := hide o7
  have zz7 : w5.heap.size < w7.heap.size := Nat.lt_of_lt_of_le zz6 b7.size
  obtain ⟨g7, k7, hv7, hg7, hl7, hk7, hk7m, y7⟩ := o7.byt
  subst hv7
  clear b7 o7 u60 u61 u62 u63 BU6 BX6 s6 N6
  go_wp2_with fail
  refine (eqByteS_any _ _ P P _ _ _ _ w7 y7 (Y3.out.below d7 (Nat.le_refl _)) hPm hPm).mono ?_
  rintro e w8 ⟨rfl, b8⟩
  rw [sameY_refl]
  have c8 := c7.trans (b8 _)
  have d8 := d7.trans (b8 _)
  have BU8 := hide (BU7.out.next (b8 _))
  have BX8 := hide (BX7.out.next (b8 _))
  have s8 := s7.next (b8 _)
  have N8 := hide (N7.out.next (b8 _))
  have O8 := hide (O7.out.next (b8 _))
  clear b8 y7 s7 BU7 BX7 N7 O7
  have K8 := hide (keep8 BU8.out.drew BX8.out.drew)
  have c8d := below_drew c8
  have t8 : Hds w8.drew (g4 + 1) (some ⟨g4, 0, none⟩) r.hs := s8.hds (Nat.lt_succ_self _)
  have hq8 := toReq_any a r cap w.heap.size w8.drew (HH.out.below c8d (Nat.le_refl _)) c8d.size hl2
  have zz8 : g4 + 1 ≤ w8.drew.heap.size := s8.1
  go_wp2
  go_region_held3 (fun W => W.cell? ⟨w4.heap.size, 0, none⟩ = some (.string r.m) ∧ W.cell? ⟨w4.heap.size, 1, none⟩ = some (.string r.p) ∧ W.cell? ⟨w4.heap.size, 2, none⟩ = some (.slice (some ⟨g4, 0, none⟩) r.hs.length r.hs.length) ∧ W.cell? ⟨w4.heap.size, 3, none⟩ = some (.string r.b) ∧ W.cell? ⟨w.heap.size, 0, none⟩ = some (.string r.m) ∧ W.cell? ⟨w.heap.size, 1, none⟩ = some (.string r.p) ∧ W.cell? ⟨w.heap.size, 2, none⟩ = some (.slice a r.hs.length cap) ∧ W.cell? ⟨w.heap.size, 3, none⟩ = some (.string r.b)) (first | exact K8.out | exact K9.out | exact Ka.out) (first
    | (go_at_call 8; refine hq8.mono ?_; rintro e w9 ⟨⟨g9, rfl, s9⟩, b9⟩; have c9 := c8d.trans (b9.mono c8d.size); have BU9 := hide (BU8.out.drew.next b9); have BX9 := hide (BX8.out.drew.next b9); have K9 := hide (keep8 BU9.out BX9.out); have t9 := t8.below b9 zz8; have zz9 := Nat.le_trans zz8 b9.size)
    | (go_at_call 12; refine (eqReq_any _ _ r r _ _ _ _ w9 t9 s9 zz9 (Nat.le_refl _) hl4 hl4).mono ?_; rintro e wa ⟨rfl, ba⟩; rw [sameR_refl]; have ca := c9.trans (ba.mono c9.size); have BUa := hide (BU9.out.next ba); have BXa := hide (BX9.out.next ba); have Ka := hide (keep8 BUa.out BXa.out)))
  have f9 := b9.trans (ba.mono b9.size)
  have e9 : Below w8.heap.size w8 wa := ⟨f9.os, f9.tape, f9.output, f9.size, f9.block⟩
  have da := d8.trans (e9.mono d8.size)
  have sa := s8.next e9
  have Na := hide (N8.out.next e9)
  have Oa := hide (O8.out.next e9)
  clear f9 e9 b9 ba K8 K9 Ka c8d t8 hq8 zz8 s9 t9 zz9 BU9 BX9 BU8 BX8 O8 s8 N8
  go_wp2_with fail
  refine (HTo.out wa ca).mono ?_
  rintro e wb ⟨rfl, nb, bb, zb⟩
  have cb := ca.trans (bb.mono ca.size)
  have db := da.trans (bb.mono da.size)
  have sb := sa.next bb
  have Nb := hide (Na.out.next bb)
  have Ob := hide (Oa.out.next bb)
  have BUb := hide (BUa.out.next bb)
  have BXb := hide (BXa.out.next bb)
  have Ib := hide (nb.ints zb)
  clear nb bb zb sa Na Oa BUa BXa
  go_wp2_with fail
  refine (eqIntS_any _ _ ns ns _ _ _ _ wb (Nb.out.ints (Nat.lt_succ_self _)) Ib.out hnm hnm).mono ?_
  rintro e wc ⟨rfl, bc⟩
  rw [sameI_refl]
  have cc := cb.trans (bc _)
  have dc := db.trans (bc _)
  have sc := sb.next (bc _)
  have Nc := hide (Nb.out.next (bc _))
  have Oc := hide (Ob.out.next (bc _))
  have BUc := hide (BUb.out.next (bc _))
  have BXc := hide (BXb.out.next (bc _))
  clear bc Ib sb Nb Ob BUb BXb
  have uc := BUc.out
  obtain ⟨ultc, uc0, uc1, uc2, uc3⟩ := uc
  have HM := hide (markReq_any g4 r.hs.length r wc sc hl2)
  go_wp2_with fail
  refine HM.out.mono ?_
  rintro e wd ⟨rfl, gd⟩
  have hb4 := b4.size
  have hZ5a : w4.heap.size + 1 ≤ w5.heap.size := by have := Z5.out; omega
  have hZ5b : w5.heap.size ≤ w4.heap.size + 1 := by have := Z5.out; omega
  have hc3 := c3.size
  have cd := cc.trans (belowG3 gd (by omega) sc.1)
  have dd := dc.trans (belowG3 gd hg4 sc.1)
  have Nd := hide (Nc.out.of gd (by omega))
  have Od := hide (Oc.out.kept gd (fun k e e' => by have h8 := Oc.out.lt k e; have := Option.some.inj e'; omega))
  have BXd := hide (BXc.out.below (belowG3 gd hg4 sc.1) (by omega))
  clear uc0 uc1 uc2 uc3 HM gd BUc BXc Oc sc Nc
  have hmk := markIntS_any w5.heap.size ns.length ns.length wd Nd.out.row (by omega) (1 + r.hs.length * 2) (by omega)
  rw [show (((1 + r.hs.length * 2 : Nat)) : Int) = 1 + (r.hs.length : Int) * 2 by omega] at hmk
  have HMk := hide hmk
  clear hmk
  go_wp2_with fail
  refine HMk.out.mono ?_
  rintro e we ⟨rfl, ge⟩
  have ltd : w5.heap.size < wd.heap.size := World.rowIs.lt Nd.out
  have ce := cd.trans (belowG3 ge (by omega) ltd)
  have de := dd.trans (belowG3 ge (by omega) ltd)
  have Oe := hide (Od.out.kept ge (fun k e e' => by have h8 := Od.out.lt k e; have := Option.some.inj e'; omega))
  have BXe := hide (BXd.out.below (belowG3 ge (show w3.heap.size ≤ w5.heap.size by omega) ltd) (by omega))
  obtain ⟨ge', ke', hve, _, _, _, _, ye⟩ := Oe.out.byt
  cases hve
  have Ye := hide ye
  have hnn : ¬ (((1 + r.hs.length * 2 + ns.length : Nat) : Int) < 0) := by omega
  clear ge ye HMk BXd Od Nd
  go_wp2_with fail
  refine (eqByteS_any _ _ P P _ _ _ _ we Ye.out (Y3.out.below de (Nat.le_refl _)) hPm hPm).mono ?_
  rintro e wf ⟨rfl, bf⟩
  rw [sameY_refl]
  have cf := ce.trans (bf _)
  have df := de.trans (bf _)
  have BXf := hide (BXe.out.next (bf _))
  obtain ⟨gf', kf', hvf, _, rf⟩ := (Oe.out.next (bf _)).row
  cases hvf
  have RF := hide rf
  clear bf Ye Oe BXe rf
  go_wp2_with fail
  refine (markByteS_any g7 P.length k7 wf RF.out (by omega)).mono ?_
  rintro e wg ⟨rfl, gg, mg⟩
  have cg := cf.trans (belowG3 gg (by omega) RF.out.1)
  have dg := df.trans (belowG3 gg (by omega) RF.out.1)
  have BXg := hide (BXf.out.below (belowG3 gg (show w3.heap.size ≤ g7 by omega) RF.out.1) (by omega))
  have MG := hide mg
  clear gg mg BXf RF
  go_wp2_with fail
  refine (heldByteS_any g7 P.length k7 wg MG.out (by omega)).mono ?_
  rintro e wh ⟨rfl, bh⟩
  have ch := cg.trans (bh _)
  have dh := dg.trans (bh _)
  have BXh := hide (BXg.out.next (bh _))
  have MH := hide (MG.out.next (bh _))
  clear bh MG BXg
  have xh := BXh.out
  obtain ⟨xlth, xh0, xh1, xh2, xh3⟩ := xh
  have hn2 : ¬ (1 + (P.length : Int) < 0) := by omega
  go_wp2_with fail
  refine (toReq_any a r cap w.heap.size wh (HH.out.below ch (Nat.le_refl _)) ch.size hl2).mono ?_
  rintro e wj ⟨⟨gj, rfl, sj⟩, bj⟩
  have cj := ch.trans (bj.mono ch.size)
  have dj := dh.trans (bj.mono dh.size)
  have MJ := hide (MH.out.next bj)
  clear MH bj xh0 xh1 xh2 xh3 BXh
  go_wp2_with fail
  refine (HTo.out wj cj).mono ?_
  rintro e wk ⟨rfl, nk, bk, zk⟩
  have ck := cj.trans (bk.mono cj.size)
  have dk := dj.trans (bk.mono dj.size)
  have MK := hide (MJ.out.next bk)
  have sk := (sj.below bk (Nat.le_refl _)).mono bk.size
  have ik := nk.ints zk
  clear MJ bk nk zk sj
  go_wp2_with fail
  refine (HPUT.out _ _ _ _ _ wk sk (Nat.le_refl _) ik ck).mono ?_
  rintro e wl ⟨⟨vl, rfl, ol⟩, bl⟩
  have cl := ck.trans (bl.mono ck.size)
  have dl := dk.trans (bl.mono dk.size)
  have ML := hide (MK.out.next bl)
  obtain ⟨gl, kl, hvl, _, _, _, _, yl⟩ := ol.byt
  subst hvl
  clear MK bl ol sk ik
  go_wp2_with fail
  refine (eqByteS_any _ _ P P _ _ _ _ wl yl (Y3.out.below dl (Nat.le_refl _)) hPm hPm).mono ?_
  rintro e wm ⟨rfl, bm⟩
  rw [sameY_refl]
  have cm := cl.trans (bm _)
  have MM := hide (ML.out.next (bm _))
  clear bm yl ML
  go_wp2_with fail
  refine (heldByteS_any g7 P.length k7 wm MM.out (by omega)).mono ?_
  rintro e wn ⟨rfl, bn⟩
  have cn := cm.trans (bn _)
  clear bn MM
  go_wp2
  go_ret
  exact ⟨rfl, cn⟩
end Go.Proofs.YtnoijfnpchihoabDoor
