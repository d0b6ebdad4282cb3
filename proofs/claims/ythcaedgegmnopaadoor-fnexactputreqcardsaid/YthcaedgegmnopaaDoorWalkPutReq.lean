/-
  The walk of the law FnExactPutReq: for every request it returns true, and turns nothing that was there.
-/
import Derived.Test.YthcaedgegmnopaaDoorPutReq
import Derived.Test.YthcaedgegmnopaaDoorSpecPut
import Derived.Test.YthcaedgegmnopaaDoorMarkByts
import Derived.Test.YthcaedgegmnopaaDoorMarkHeads
import Derived.Test.YthcaedgegmnopaaDoorEqReq
import Derived.Test.YthcaedgegmnopaaDoorLawReq
import Derived.Deep.RegionHeld3
namespace Go.Proofs.YthcaedgegmnopaaDoor
open Go.RowKit M
set_option linter.unusedVariables false

theorem belowG {w w' : World} {g C : Nat} (h : w.grownBy w' (some g)) (hC : C ≤ g) (hg : g < w.heap.size) : Below C w w' :=
  ⟨h.os, h.tape, h.output, h.size, fun k hk => h.block k (by omega) (fun e => by have := Option.some.inj e; omega)⟩
theorem OwnY.of {w w' : World} {B : Nat} {v : Value} {l : List UInt8} (h : OwnY w B v l) (hb : ∀ k, B ≤ k → k < w.heap.size → w'.heap[k]? = w.heap[k]?) : OwnY w' B v l := by
  obtain ⟨g, cap, cur, fz, hv, hB, hg, hr⟩ := h
  exact ⟨g, cap, cur, fz, hv, hB, (hb g hB (Array.getElem?_eq_some_iff.1 hg).1).trans hg, hr⟩
theorem putL_len (r : Rq) : (putL r).length ≤ 400 + r.b.size := by
  unfold putL put0
  split
  · rename_i h
    have e : r.b.data.toList.length = r.b.size := Array.length_toList
    rw [List.length_append, e]
    exact Nat.add_le_add_right h.2 _
  · exact Nat.zero_le _

set_option maxRecDepth 100000 in
set_option maxHeartbeats 4000000 in
theorem FnExactPutReq_walk (a : Option Addr) (r : Rq) (cap : Nat) (hs : ShortR r) (w : World) (h : Hds w w.heap.size a r.hs) (hL : laidMet Tryd.prog Rows.fnExactPutReqRow.laid w) :
    Calls Tryd.prog 4 #[.agg #[.string r.m, .string r.p, .slice a r.hs.length cap, .string r.b]] w fun e w' => e = .returned (.bool true) ∧ Below w.heap.size w w' := by
  have HS := hide hs
  obtain ⟨q1, q2, q3, q4, q5⟩ := hs
  have ht : PowTab w := powTab_of hL.tail.tail
  have HPT := hide ht
  clear ht hL
  have HB0 : Hid (Below w.heap.size w (w.alloc (Obj.cells #[Value.string r.m, Value.string r.p, Value.slice a r.hs.length cap, Value.string r.b] 38))) := (Below.refl _ _).alloc (Nat.le_refl _) _
  have HX0 := hide (BoxR.made w a cap r 38)
  have HH := hide h
  clear h
  go_enter Tryd.func4, Tryd.ntmps4
  go_wp2_with fail
  refine (szReq_any a r cap w.heap.size 1048576 _ (HH.out.below HB0.out (Nat.le_refl _)) (by simp) q5 q4 q1 q2 q3 (Nat.le_refl _)).mono ?_
  rintro e w1 ⟨⟨z, rfl, hz⟩, b1⟩
  have c1 := HB0.out.trans (b1.mono HB0.out.size)
  have BX1 := hide (HX0.out.next b1)
  have x1 := BX1.out
  obtain ⟨xlt1, x10, x11, x12, x13⟩ := x1
  clear b1
  rcases hz with hz | ⟨m, rfl, hm⟩
  · go_wp2
    go_ret
    exact ⟨rfl, c1⟩
  have hl2 : r.hs.length ≤ 1048576 := by omega
  have hsum : sumH r.hs ≤ 1048576 := by omega
  have hz1 : r.m.size ≤ 1048576 := by omega
  have hz2 : r.p.size ≤ 1048576 := by omega
  have hz4 : r.b.size ≤ 1048576 := by omega
  have hl4 : r.hs.length ≤ maxLen := by unfold maxLen; omega
  have HF : Hid (FitR r) := ⟨HS.out, fun x hx => by have := (sumH_mem r.hs x hx).2; omega⟩
  clear hm
  obtain ⟨P, hP⟩ : ∃ P, putL r = P := ⟨_, rfl⟩
  have hPl : P.length ≤ 1048976 := by rw [← hP]; have := putL_len r; omega
  have hPm : P.length ≤ maxLen := by unfold maxLen; omega
  have HPUT := hide (fun (a : Option Addr) (cap B : Nat) (W : World) (h : Hds W B a r.hs) (hB : B ≤ W.heap.size) (hc : Below w.heap.size w W) => putReq_any a r cap B W h hB HF.out hl2 hsum hz1 hz2 hz4 (fun w' hb => HPT.out.below (hc.trans (hb.mono hc.size))))
  have HSPUT := hide (fun (a : Option Addr) (cap B : Nat) (W : World) (h : Hds W B a r.hs) (hB : B ≤ W.heap.size) => specPutReq_any a r cap B W h hB HS.out hl2 hsum hz1 hz2 hz4)
  rw [hP] at HPUT HSPUT
  clear hP HPT
  go_wp2_with fail
  refine (toReq_any a r cap w.heap.size w1 (HH.out.below c1 (Nat.le_refl _)) c1.size hl2).mono ?_
  rintro e w2 ⟨⟨g2, rfl, s2⟩, b2⟩
  have c2 := c1.trans (b2.mono c1.size)
  have BX2 := hide (BX1.out.next b2)
  clear x10 x11 x12 x13 b2
  go_wp2_with fail
  refine (HSPUT.out _ _ _ w2 s2 (Nat.le_refl _)).mono ?_
  rintro e w3 ⟨⟨gw, cw, rfl, y3⟩, b3⟩
  have c3 := c2.trans (b3.mono c2.size)
  have BX3 := hide (BX2.out.next b3)
  have x3 := BX3.out
  obtain ⟨xlt3, x30, x31, x32, x33⟩ := x3
  have Y3 := hide y3
  clear y3 s2 b3 HSPUT
  go_wp2_with fail
  refine (toReq_rows a r cap w.heap.size w3 (HH.out.below c3 (Nat.le_refl _)) c3.size hl2).mono ?_
  rintro e w4 ⟨⟨g4, rfl, s4, hg4⟩, b4⟩
  have c4 := c3.trans (b4.mono c3.size)
  have BX4 := hide (BX3.out.next b4)
  clear x30 x31 x32 x33
  have d4 := b4.alloc b4.size (Obj.cells #[Value.string r.m, Value.string r.p, Value.slice (some ⟨g4, 0, none⟩) r.hs.length r.hs.length, Value.string r.b] 42)
  have c5 := c4.alloc c4.size (Obj.cells #[Value.string r.m, Value.string r.p, Value.slice (some ⟨g4, 0, none⟩) r.hs.length r.hs.length, Value.string r.b] 42)
  have BU5 := hide (BoxR.made w4 (some ⟨g4, 0, none⟩) r.hs.length r 42)
  have BX5 := hide (BX4.out.alloc (Obj.cells #[Value.string r.m, Value.string r.p, Value.slice (some ⟨g4, 0, none⟩) r.hs.length r.hs.length, Value.string r.b] 42))
  have s5 := s4.next ((Below.refl w4.heap.size w4).alloc (Nat.le_refl _) (Obj.cells #[Value.string r.m, Value.string r.p, Value.slice (some ⟨g4, 0, none⟩) r.hs.length r.hs.length, Value.string r.b] 42))
  have hg5 := s4.1
  have C5 := hide c5
  have S5 := hide s5
  have D5 := hide d4
  clear c5 s5 s4 BX4 d4
  go_wp2_with fail
  refine (HPUT.out _ _ w4.heap.size _ (S5.out.hds hg5) (by simp) C5.out).mono ?_
  rintro e w6 ⟨⟨v6, rfl, o6⟩, b6⟩
  have c6 := C5.out.trans (b6.mono C5.out.size)
  have d6 := D5.out.trans (b6.mono D5.out.size)
  have BU6 := hide (BU5.out.next b6)
  have BX6 := hide (BX5.out.next b6)
  have s6 := S5.out.next b6
  have z6 := b6.size
  have zx6 : w4.heap.size < w6.heap.size := by simp at z6; omega
  have hb6 : (w4.alloc (Obj.cells #[Value.string r.m, Value.string r.p, Value.slice (some ⟨g4, 0, none⟩) r.hs.length r.hs.length, Value.string r.b] 42)).heap.size = w4.heap.size + 1 := by simp
  rw [hb6] at o6
  have O6 := hide o6
  clear b6 z6 C5 S5 BU5 BX5 D5 hb6
  obtain ⟨g6, k6, rfl, hg6, hl6, hk6, hk6m, y6⟩ := o6.byt
  clear o6
  go_wp2_with fail
  refine (eqByteS_any _ _ P P _ _ _ _ w6 y6 (Y3.out.below d6 (Nat.le_refl _)) hPm hPm).mono ?_
  rintro e w7 ⟨rfl, b7⟩
  rw [sameY_refl]
  have c7 := c6.trans (b7 _)
  have d7 := d6.trans (b7 _)
  have BU7 := hide (BU6.out.next (b7 _))
  have BX7 := hide (BX6.out.next (b7 _))
  have s7 := s6.next (b7 _)
  have O7 := hide (O6.out.next (b7 _))
  have zx7 : w4.heap.size < w7.heap.size := Nat.lt_of_lt_of_le zx6 (b7 0).size
  clear b7 y6 s6 O6 BU6 BX6
  have K7 := hide (keep8 BU7.out.drew BX7.out.drew)
  have c7d := below_drew c7
  have t7 : Hds w7.drew (g4 + 1) (some ⟨g4, 0, none⟩) r.hs := s7.hds (Nat.lt_succ_self _)
  have hq7 := toReq_any a r cap w.heap.size w7.drew (HH.out.below c7d (Nat.le_refl _)) c7d.size hl2
  have zz7 : g4 + 1 ≤ w7.drew.heap.size := by show g4 + 1 ≤ w7.heap.size; omega
  go_wp2
  go_region_held3 (fun W => W.cell? ⟨w4.heap.size, 0, none⟩ = some (.string r.m) ∧ W.cell? ⟨w4.heap.size, 1, none⟩ = some (.string r.p) ∧ W.cell? ⟨w4.heap.size, 2, none⟩ = some (.slice (some ⟨g4, 0, none⟩) r.hs.length r.hs.length) ∧ W.cell? ⟨w4.heap.size, 3, none⟩ = some (.string r.b) ∧ W.cell? ⟨w.heap.size, 0, none⟩ = some (.string r.m) ∧ W.cell? ⟨w.heap.size, 1, none⟩ = some (.string r.p) ∧ W.cell? ⟨w.heap.size, 2, none⟩ = some (.slice a r.hs.length cap) ∧ W.cell? ⟨w.heap.size, 3, none⟩ = some (.string r.b)) (first | exact K7.out | exact K8.out | exact K9.out) (first
    | (go_at_call 18; refine hq7.mono ?_; rintro e w8 ⟨⟨g8, rfl, s8⟩, b8⟩; have c8 := c7d.trans (b8.mono c7d.size); have BU8 := hide (BU7.out.drew.next b8); have BX8 := hide (BX7.out.drew.next b8); have K8 := hide (keep8 BU8.out BX8.out); have t8 := t7.below b8 zz7; have zz8 := Nat.le_trans zz7 b8.size)
    | (go_at_call 21; refine (eqReq_any _ _ r r _ _ _ _ w8 t8 s8 zz8 (Nat.le_refl _) hl4 hl4).mono ?_; rintro e w9 ⟨rfl, b9⟩; rw [sameR_refl]; have c9 := c8.trans (b9.mono c8.size); have BU9 := hide (BU8.out.next b9); have BX9 := hide (BX8.out.next b9); have K9 := hide (keep8 BU9.out BX9.out)))
  have f9 := b8.trans (b9.mono b8.size)
  have e9 : Below w7.heap.size w7 w9 := ⟨f9.os, f9.tape, f9.output, f9.size, f9.block⟩
  have d9 := d7.trans (e9.mono d7.size)
  have s9 := s7.next e9
  have O9 := hide (O7.out.next e9)
  have zx9 : w4.heap.size < w9.heap.size := Nat.lt_of_lt_of_le zx7 e9.size
  have hl9 : g6 < w9.heap.size := (O9.out.lt g6 rfl).2
  clear f9 e9 b8 b9 K7 K8 K9 c7d t7 hq7 zz7 s8 t8 zz8 BU8 BX8 BU7 BX7 O7 s7
  have u9 := BU9.out
  obtain ⟨ult9, u90, u91, u92, u93⟩ := u9
  have hM9 := markReq_any g4 r.hs.length r w9 s9 hl2
  have HM9 := hide hM9
  clear hM9
  go_wp2_with fail
  refine HM9.out.mono ?_
  rintro e wa ⟨rfl, ga⟩
  have ca := c9.trans (belowG ga (Nat.le_trans c3.size hg4) s9.1)
  have da := d9.trans (belowG ga hg4 s9.1)
  have Oa := hide (O9.out.of (w' := wa) (fun k hk hk2 => ga.block k hk2 (fun e => by have := Option.some.inj e; omega)))
  have BXa := hide (BX9.out.below (belowG ga hg4 s9.1) xlt3)
  have za := ga.size
  obtain ⟨ga', ka', hva, _, _, _, _, ya⟩ := Oa.out.byt
  cases hva
  have Ya := hide ya
  clear ya u90 u91 u92 u93 HM9 ga BU9 BX9 O9 s9
  have hnn : ¬ (1 + (r.hs.length : Int) * 2 < 0) := by omega
  go_wp2_with fail
  refine (eqByteS_any _ _ P P _ _ _ _ wa Ya.out (Y3.out.below da (Nat.le_refl _)) hPm hPm).mono ?_
  rintro e wb ⟨rfl, bb⟩
  rw [sameY_refl]
  have cb := ca.trans (bb _)
  have db := da.trans (bb _)
  have BXb := hide (BXa.out.next (bb _))
  obtain ⟨gb', kb', hvb, _, rb⟩ := (Oa.out.next (bb _)).row
  cases hvb
  have RB := hide rb
  clear bb Ya Oa BXa rb
  go_wp2_with fail
  refine (markByteS_any g6 P.length k6 wb RB.out (by omega)).mono ?_
  rintro e wc ⟨rfl, gc, mc⟩
  have xg : w4.heap.size ≤ g6 := by omega
  have cc := cb.trans (belowG gc (Nat.le_trans c4.size xg) RB.out.1)
  have dc := db.trans (belowG gc (Nat.le_trans b4.size xg) RB.out.1)
  have BXc := hide (BXb.out.below (belowG gc (Nat.le_trans b4.size xg) RB.out.1) xlt3)
  have MC := hide mc
  clear gc mc BXb RB
  go_wp2_with fail
  refine (heldByteS_any g6 P.length k6 wc MC.out (by omega)).mono ?_
  rintro e wd ⟨rfl, bd⟩
  have cd := cc.trans (bd _)
  have dd := dc.trans (bd _)
  have BXd := hide (BXc.out.next (bd _))
  have MD := hide (MC.out.next (bd _))
  clear bd MC BXc
  have xd := BXd.out
  obtain ⟨xltd, xd0, xd1, xd2, xd3⟩ := xd
  have hn2 : ¬ (1 + (P.length : Int) < 0) := by omega
  go_wp2_with fail
  refine (toReq_any a r cap w.heap.size wd (HH.out.below cd (Nat.le_refl _)) cd.size hl2).mono ?_
  rintro e we ⟨⟨ge, rfl, se⟩, be⟩
  have ce := cd.trans (be.mono cd.size)
  have de := dd.trans (be.mono dd.size)
  have ME := hide (MD.out.next be)
  clear MD be xd0 xd1 xd2 xd3 BXd
  go_wp2_with fail
  refine (HPUT.out _ _ _ we se (Nat.le_refl _) ce).mono ?_
  rintro e wf ⟨⟨vf, rfl, of⟩, bf⟩
  have cf := ce.trans (bf.mono ce.size)
  have df := de.trans (bf.mono de.size)
  have MF := hide (ME.out.next bf)
  clear ME
  obtain ⟨gf, kf, rfl, hgf, hlf, hkf, hkfm, yf⟩ := of.byt
  clear of
  go_wp2_with fail
  refine (eqByteS_any _ _ P P _ _ _ _ wf yf (Y3.out.below df (Nat.le_refl _)) hPm hPm).mono ?_
  rintro e wg ⟨rfl, bg⟩
  rw [sameY_refl]
  have cg := cf.trans (bg _)
  have MG := hide (MF.out.next (bg _))
  clear bg MF yf
  go_wp2_with fail
  refine (heldByteS_any g6 P.length k6 wg MG.out (by omega)).mono ?_
  rintro e wh ⟨rfl, bh⟩
  have ch := cg.trans (bh _)
  clear bh
  go_wp2
  go_ret
  exact ⟨rfl, ch⟩
end Go.Proofs.YthcaedgegmnopaaDoor
