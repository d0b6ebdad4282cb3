/-
  The walk of the law FnExactGetResp: for all bytes it returns true, and turns nothing that was there.
-/
import Derived.Test.YtnoijfnpchihoabDoorSpecGetResp
import Derived.Test.YtnoijfnpchihoabDoorIsRow0
import Derived.Test.YtnoijfnpchihoabDoorIsByt
namespace Go.Proofs.YtnoijfnpchihoabDoor
open Go.RowKit M
set_option linter.unusedVariables false

theorem getA_heads (l : List UInt8) : (getA l).1.hs.length ≤ 8 := by
  by_cases h : ∃ r, RespAt r l
  · obtain ⟨r, hr⟩ := h
    rw [getA_yes hr]
    exact (resp_hds hr.1).2.2.1
  · rw [getA_no (fun r hr => h ⟨r, hr⟩)]
    exact Nat.zero_le _
theorem NewB.row {w : World} {N : Nat} {l : List UInt8} (h : NewB w N l) : RowC w N l.length :=
  ⟨World.rowIs.lt h, fun j hj => ⟨⟨_, World.rowIs.cell h hj⟩, World.rowIs.frozen h j⟩⟩
theorem belowO {w w' : World} {v : Value} {C : Nat} (h : w.grownBy w' v.ownBlock) (hC : ∀ g, v.ownBlock = some g → C ≤ g) (hz : C ≤ w.heap.size) : Below C w w' :=
  ⟨h.os, h.tape, h.output, h.size, fun k hk => h.block k (by omega) (fun e => by have := hC k e.symm; omega)⟩
theorem belowGo {w w' : World} {g C : Nat} (h : w.grownBy w' (some g)) (hC : C ≤ g) (hg : g < w.heap.size) : Below C w w' :=
  ⟨h.os, h.tape, h.output, h.size, fun k hk => h.block k (by omega) (fun e => by have := Option.some.inj e; omega)⟩
theorem BoxA.of {w w' : World} {N : Nat} {a : Option Addr} {cap : Nat} {r : Rs} (h : BoxA w N a cap r) (hs : w.heap.size ≤ w'.heap.size) (hb : w'.heap[N]? = w.heap[N]?) : BoxA w' N a cap r := by
  have hc : ∀ o, w'.cell? ⟨N, o, none⟩ = w.cell? ⟨N, o, none⟩ := fun o => World.cell?_of_block (a := ⟨N, o, none⟩) hb
  obtain ⟨h0, h1, h2, h3⟩ := h
  exact ⟨Nat.lt_of_lt_of_le h0 hs, by rw [hc]; exact h1, by rw [hc]; exact h2, by rw [hc]; exact h3⟩

set_option maxRecDepth 100000 in
set_option maxHeartbeats 4000000 in
theorem FnExactGetResp_walk (a : Option Addr) (len cap : Nat) (zs : List Int) (w : World) (h : IsRow .u8 w a len cap zs) (hL : laidMet Tryd.prog Rows.fnExactGetRespRow.laid w) (mx : Int) (hmx : w.cell? ⟨0, 0, none⟩ = some (.int .i64 mx)) :
    Calls Tryd.prog 5 #[.slice a len cap] w fun e w' => e = .returned (.bool true) ∧ Below w.heap.size w w' := by
  have ht : PowTab w := powTab_of hL.tail.tail
  have HPT := hide ht
  clear hL ht
  obtain ⟨l, rfl, hy, hlc, hcm⟩ := byt_of_row h
  have h0 : 0 < w.heap.size := World.block_lt_of_cell? w _ hmx
  clear h
  have HY := hide hy
  have HX := hide hmx
  have HX0 := hide h0
  clear hy hmx h0
  have hcm' := hcm
  unfold maxLen at hcm'
  by_cases h2 : l.length ≤ 1048576
  · have h2' : ¬ ((1048576 : Int) < l.length) := by omega
    have hlm : l.length ≤ maxLen := by unfold maxLen; omega
    have HTo := hide (fun (W : World) (hc : Below w.heap.size w W) => toByteS_any a l cap w.heap.size W (HY.out.below hc (Nat.le_refl _)) hc.size h2)
    have HSp := hide (fun (g : Nat) (W : World) (h : Byt W W.heap.size (some ⟨g, 0, none⟩) l) => specGetResp_any g 0 l l.length W h h2 (Nat.le_refl _) hlm)
    have HIm := hide (fun (g : Nat) (W : World) (h : Byt W W.heap.size (some ⟨g, 0, none⟩) l) (hc : Below w.heap.size w W) => getResp_any g 0 l l.length mx W h h2 (Nat.le_refl _) hlm (fun w' hb => HPT.out.below (hc.trans (hb.mono hc.size))) (Nat.lt_of_lt_of_le HX0.out hc.size) ((hc.cell (p := ⟨0, 0, none⟩) HX0.out).trans HX.out))
    have hn8 := getA_heads l
    obtain ⟨R, P, C, hG⟩ : ∃ R P C, getA l = (R, P, C) := ⟨_, _, _, rfl⟩
    rw [hG] at HSp HIm hn8
    have hn8' : R.hs.length ≤ 8 := hn8
    have hnm : R.hs.length ≤ maxLen := by unfold maxLen; omega
    clear hG hn8
    go_enter Tryd.func5, Tryd.ntmps5
    go_wp2_with fail
    refine (HTo.out w (Below.refl _ _)).mono ?_
    rintro e w1 ⟨rfl, n1, c1, z1⟩
    have i1 := n1.byt z1
    clear n1
    go_wp2_with fail
    refine (HSp.out _ w1 i1).mono ?_
    rintro e w2 ⟨⟨hv2, rfl, r2⟩, b2⟩
    obtain ⟨a2, k2, rfl, d2⟩ := RowsH.hds r2
    have c2 := c1.trans (b2.mono c1.size)
    have C2 := hide c2
    clear i1 b2 z1 HSp r2
    obtain ⟨w3, hw3⟩ : ∃ w3, w2.alloc (Obj.cells #[.int .i64 R.c, .slice a2 R.hs.length k2, .string R.b] 46) = w3 := ⟨_, rfl⟩
    have c3 := c2.alloc c2.size (Obj.cells #[.int .i64 R.c, .slice a2 R.hs.length k2, .string R.b] 46)
    have BW3 := hide (BoxA.made w2 a2 k2 R 46)
    have d3 := d2.alloc (Nat.le_refl _) (Obj.cells #[.int .i64 R.c, .slice a2 R.hs.length k2, .string R.b] 46)
    have z3 : w3.heap.size = w2.heap.size + 1 := by rw [← hw3]; simp
    rw [hw3] at c3 BW3 d3
    have D3 := hide d3
    have Z3 := hide z3
    clear c2 d2 d3 z3
    go_wp2_with fail
    refine (HTo.out w3 c3).mono ?_
    rintro e w4 ⟨rfl, n4, b4, z4⟩
    have c4 := c3.trans (b4.mono c3.size)
    have N4 := hide n4
    have BW4 := hide (BW3.out.next b4)
    have D4 := hide (D3.out.below b4 (by have := Z3.out; omega))
    clear hw3 BW3 D3
    go_wp2_with fail
    refine (HIm.out _ w4 (n4.byt z4) c4).mono ?_
    rintro e w5 ⟨⟨hv5, rfl, r5⟩, b5⟩
    obtain ⟨a5, k5, rfl, d5⟩ := RowsH.hds r5
    have Hown : Hid (∀ g, (Value.slice a5 R.hs.length k5).ownBlock = some g → w4.heap.size ≤ g ∧ g < w5.heap.size) := hide (fun g hg => World.ownsRow.lt r5 g hg)
    have c5 := c4.trans (b5.mono c4.size)
    have N5 := hide (N4.out.next b5)
    have BW5 := hide (BW4.out.next b5)
    have zb4 : w2.heap.size ≤ w4.heap.size := by have := Z3.out; omega
    have D5 := hide (D4.out.below b5 zb4)
    have Zb := hide b5.size
    have Z4 := hide z4
    clear b4 b5 n4 N4 BW4 D4 zb4
    obtain ⟨w6, hw6⟩ : ∃ w6, w5.alloc (Obj.cells #[.int .i64 R.c, .slice a5 R.hs.length k5, .string R.b] 46) = w6 := ⟨_, rfl⟩
    have b6 : Below w5.heap.size w5 (w5.alloc (Obj.cells #[.int .i64 R.c, .slice a5 R.hs.length k5, .string R.b] 46)) := (Below.refl _ _).alloc (Nat.le_refl _) _
    have BG6 := hide (BoxA.made w5 a5 k5 R 46)
    rw [hw6] at b6 BG6
    have c6 := c5.trans (b6.mono c5.size)
    have N6 := hide (N5.out.next b6)
    have BW6 := hide (BW5.out.next b6)
    have D6 := hide (D5.out.below b6 (by have := Z3.out; have := Zb.out; have := Z4.out; omega))
    have R6 := hide (ownsH_below r5 b6)
    have E6 := hide (d5.below b6 (Nat.le_refl _))
    have z6 : w6.heap.size = w5.heap.size + 1 := by rw [← hw6]; simp
    have Z6 := hide z6
    have hle6 : w2.heap.size ≤ w6.heap.size := by have := Z3.out; have := Zb.out; have := Z4.out; omega
    have hle6' : w5.heap.size ≤ w6.heap.size := by omega
    obtain ⟨_, x0, x1, x2⟩ := BW6.out
    obtain ⟨_, y0, y1, y2⟩ := BG6.out
    clear b6 N5 BW5 D5 r5 d5 z6 z4
    go_wp2_with fail
    refine (eqResp_any _ _ R R _ _ _ _ w6 E6.out D6.out hle6' hle6 hnm hnm).mono ?_
    rintro e w7 ⟨rfl, b7⟩
    rw [sameA_refl]
    have c7 := c6.trans (b7.mono c6.size)
    have N7 := hide (N6.out.next b7)
    have BW7 := hide (BW6.out.next b7)
    have BG7 := hide (BG6.out.next b7)
    have D7 := hide (D6.out.below b7 hle6)
    have R7 := hide (ownsH_below R6.out b7)
    have E7 := hide (E6.out.below b7 hle6')
    have Z7 := hide b7.size
    clear hw6 x0 x1 x2 y0 y1 y2 N6 BW6 BG6 D6 R6 E6 b7 hle6 hle6'
    go_wp2_with fail
    refine (HTo.out w7 c7).mono ?_
    rintro e w8 ⟨rfl, n8, b8, z8⟩
    have c8 := c7.trans (b8.mono c7.size)
    have N8 := hide (N7.out.next b8)
    have BW8 := hide (BW7.out.next b8)
    have BG8 := hide (BG7.out.next b8)
    have D8 := hide (D7.out.below b8 (by have := Z3.out; have := Zb.out; have := Z4.out; have := Z6.out; have := Z7.out; omega))
    have R8 := hide (ownsH_below R7.out b8)
    have E8 := hide (E7.out.below b8 (by have := Z6.out; have := Z7.out; omega))
    have I8 := hide (n8.byt z8)
    have Z8 := hide b8.size
    clear n8 b8 z8 N7 BW7 BG7 D7 R7 E7
    go_wp2_with fail
    refine (eqByteS_any _ _ l l _ _ _ _ w8 (N8.out.byt (Nat.lt_succ_self _)) I8.out hlm hlm).mono ?_
    rintro e w9 ⟨rfl, b9⟩
    rw [sameY_refl]
    have c9 := c8.trans (b9 _)
    have N9 := hide (N8.out.next (b9 _))
    have BW9 := hide (BW8.out.next (b9 _))
    have BG9 := hide (BG8.out.next (b9 _))
    have zz8 : w2.heap.size ≤ w8.heap.size ∧ w5.heap.size < w8.heap.size := by have := Z3.out; have := Zb.out; have := Z4.out; have := Z6.out; have := Z7.out; have := Z8.out; omega
    have D9 := hide (D8.out.below (b9 w8.heap.size) zz8.1)
    have R9 := hide (ownsH_below R8.out (b9 _))
    have E9 := hide (E8.out.below (b9 w8.heap.size) (Nat.le_of_lt zz8.2))
    have Z9 := hide (b9 0).size
    clear b9 N8 BW8 BG8 D8 R8 E8 I8 zz8
    go_wp2_with fail
    refine (markByteS_any _ l.length _ w9 N9.out.row (by omega)).mono ?_
    rintro e wa ⟨rfl, ga, _⟩
    have hga : Below (w2.heap.size + 1) w9 wa := belowGo ga (Nat.le_of_eq Z3.out.symm) N9.out.row.1
    have zz9 : w2.heap.size < w9.heap.size ∧ w3.heap.size < w4.heap.size ∧ w4.heap.size ≤ w5.heap.size ∧ w5.heap.size < w9.heap.size := by have := Z3.out; have := Zb.out; have := Z4.out; have := Z6.out; have := Z7.out; have := Z8.out; have := Z9.out; omega
    have ca := c9.trans (hga.mono (Nat.le_succ_of_le C2.out.size))
    have BWa := hide (BW9.out.below hga (Nat.lt_succ_self _))
    have BGa := hide (BG9.out.of (w' := wa) ga.size (ga.block _ zz9.2.2.2 (fun e => by have := Option.some.inj e; omega)))
    have Da := hide (D9.out.below hga (Nat.le_succ _))
    have Ra := hide (RowsH.same (w' := wa) R9.out (fun k hk hk2 => ga.block k hk2 (fun e => by have := Option.some.inj e; omega)))
    obtain ⟨aa, ka, hva, da⟩ := RowsH.hds Ra.out
    cases hva
    have Ea := hide da
    have Za := hide ga.size
    have Zz9 := hide zz9
    have hla : w2.heap.size ≤ wa.heap.size := by have := ga.size; omega
    clear ga hga N9 BW9 BG9 D9 R9 E9 zz9 da
    have hnn : ¬ (1 + (l.length : Int) < 0) := by omega
    obtain ⟨_, x0, x1, x2⟩ := BWa.out
    obtain ⟨_, y0, y1, y2⟩ := BGa.out
    go_wp2_with fail
    refine (eqResp_any _ _ R R _ _ _ _ wa Ea.out Da.out (Nat.le_refl _) hla hnm hnm).mono ?_
    rintro e wb ⟨rfl, bb⟩
    rw [sameA_refl]
    have cb := ca.trans (bb.mono ca.size)
    have BWb := hide (BWa.out.next bb)
    have BGb := hide (BGa.out.next bb)
    have Db := hide (Da.out.below bb hla)
    have Rb := hide (ownsH_below Ra.out bb)
    have Zb2 := hide bb.size
    clear x0 x1 x2 y0 y1 y2 bb BWa BGa Da Ra Ea hla hnn
    obtain ⟨_, y0, y1, y2⟩ := BGb.out
    go_wp2_with fail
    refine (markResp_own R _ _ w4.heap.size wb Rb.out (by omega)).mono ?_
    rintro e wc ⟨rfl, hc, gc⟩
    have zzb : w2.heap.size < w4.heap.size ∧ w4.heap.size ≤ w5.heap.size ∧ w5.heap.size < wb.heap.size := by have := Zz9.out; have := Za.out; have := Zb2.out; have := Z3.out; omega
    have hbc : Below w4.heap.size wb wc := belowO gc (fun g hg => (Hown.out g hg).1) (by omega)
    have cc := cb.trans (hbc.mono (by have := C2.out.size; omega))
    have BWc := hide (BWb.out.below hbc zzb.1)
    have BGc := hide (BGb.out.of (w' := wc) gc.size (gc.block _ zzb.2.2 (fun e => by have := Hown.out _ e.symm; omega)))
    have Dc := hide (Db.out.below hbc (Nat.le_of_lt zzb.1))
    have Hc := hide hc
    have zc := gc.size
    have zzc : w2.heap.size < w4.heap.size ∧ w4.heap.size ≤ w5.heap.size ∧ w5.heap.size < wc.heap.size := by omega
    have Zzc := hide zzc
    clear gc hbc BWb BGb Db Rb hc y0 y1 y2 zzb zzc zc
    obtain ⟨_, y0, y1, y2⟩ := BGc.out
    go_wp2_with fail
    refine (heldResp_own R _ _ wc Hc.out (by omega)).mono ?_
    rintro e wd ⟨rfl, bd⟩
    have cd := cc.trans (bd.mono cc.size)
    have BWd := hide (BWc.out.next bd)
    have BGd := hide (BGc.out.next bd)
    have Dd := hide (Dc.out.below bd (by have := Zzc.out; omega))
    have Hd' := hide (Hc.out.next bd)
    have Zd := hide bd.size
    clear bd BWc BGc Dc Hc y0 y1 y2
    have hn2 : ¬ (1 + (R.hs.length : Int) * 2 < 0) := by omega
    go_wp2_with fail
    refine (HTo.out wd cd).mono ?_
    rintro e we ⟨rfl, ne, be, ze⟩
    have ce := cd.trans (be.mono cd.size)
    have BWe := hide (BWd.out.next be)
    have BGe := hide (BGd.out.next be)
    have De := hide (Dd.out.below be (by have := Zzc.out; have := Zd.out; omega))
    have He' := hide (Hd'.out.next be)
    have Ze := hide be.size
    clear be BWd BGd Dd Hd'
    go_wp2_with fail
    refine (HIm.out _ we (ne.byt ze) ce).mono ?_
    rintro e wf ⟨⟨hvf, rfl, rf⟩, bf⟩
    obtain ⟨af, kf, rfl, df⟩ := RowsH.hds rf
    have cf := ce.trans (bf.mono ce.size)
    have BWf := hide (BWe.out.next bf)
    have BGf := hide (BGe.out.next bf)
    have Df := hide (De.out.below bf (by have := Zzc.out; have := Zd.out; have := Ze.out; omega))
    have Hf' := hide (He'.out.next bf)
    have Zf := hide bf.size
    clear bf ne ze BWe BGe De He' rf
    obtain ⟨wg, hwg⟩ : ∃ wg, wf.alloc (Obj.cells #[.int .i64 R.c, .slice af R.hs.length kf, .string R.b] 46) = wg := ⟨_, rfl⟩
    have bg : Below wf.heap.size wf (wf.alloc (Obj.cells #[.int .i64 R.c, .slice af R.hs.length kf, .string R.b] 46)) := (Below.refl _ _).alloc (Nat.le_refl _) _
    have BHg := hide (BoxA.made wf af kf R 46)
    rw [hwg] at bg BHg
    have cg := cf.trans (bg.mono cf.size)
    have BWg := hide (BWf.out.next bg)
    have BGg := hide (BGf.out.next bg)
    have hlg : w2.heap.size ≤ wf.heap.size := by have := Zzc.out; have := Zd.out; have := Ze.out; have := Zf.out; omega
    have Dg := hide (Df.out.below bg hlg)
    have Eg := hide (df.below bg (Nat.le_refl _))
    have Hg' := hide (Hf'.out.next bg)
    have hlg2 : w2.heap.size ≤ wg.heap.size := Nat.le_trans hlg bg.size
    have hlg3 : wf.heap.size ≤ wg.heap.size := bg.size
    obtain ⟨_, x0, x1, x2⟩ := BWg.out
    obtain ⟨_, y0, y1, y2⟩ := BHg.out
    clear bg BWf BGf Df Hf' df hlg
    go_wp2_with fail
    refine (eqResp_any _ _ R R _ _ _ _ wg Eg.out Dg.out hlg3 hlg2 hnm hnm).mono ?_
    rintro e wh ⟨rfl, bh⟩
    rw [sameA_refl]
    have ch := cg.trans (bh.mono cg.size)
    have BGh := hide (BGg.out.next bh)
    have Hh' := hide (Hg'.out.next bh)
    clear hwg bh x0 x1 x2 y0 y1 y2 BGg Hg' Dg Eg
    obtain ⟨_, y0, y1, y2⟩ := BGh.out
    go_wp2_with fail
    refine (heldResp_own R _ _ wh Hh'.out (by omega)).mono ?_
    rintro e wi ⟨rfl, bi⟩
    have ci := ch.trans (bi.mono ch.size)
    clear bi
    go_wp2
    go_ret
    exact ⟨rfl, ci⟩
  · have h2' : (1048576 : Int) < l.length := by omega
    go_enter Tryd.func5, Tryd.ntmps5
    go_wp2
    go_ret
    exact ⟨rfl, Below.refl _ _⟩
end Go.Proofs.YtnoijfnpchihoabDoor
