/-
  The walk of the law FnExactSameNode: for every two nodes it returns true, and turns nothing that was there.
-/
import Derived.Test.YtanebchmeaomgaaSpecSameN
import Derived.Test.YtanebchmeaomgaaSameNodeI
import Derived.Test.YtanebchmeaomgaaBoxNode
import Derived.Test.YtanebchmeaomgaaToNode
import Derived.Test.YtanebchmeaomgaaEqNode
namespace Go.Proofs.Ytanebchmeaomgaa
open Go.RowKit M
set_option linter.unusedVariables false

set_option maxRecDepth 100000 in
set_option maxHeartbeats 4000000 in
theorem FnExactSameNode_walk (a : Option Addr) (r : Nd) (cap : Nat) (hs : r.short) (b : Option Addr) (q : Nd) (cap' : Nat) (hs' : q.short) (w : World) (h : Nds w w.heap.size a r.ks) (h' : Nds w w.heap.size b q.ks) :
    Calls Try.prog 4 #[.agg #[.string r.ns, .string r.nm, .string r.tx, .slice a r.ks.length cap], .agg #[.string q.ns, .string q.nm, .string q.tx, .slice b q.ks.length cap']] w fun e w' => e = .returned (.bool true) ∧ Below w.heap.size w w' := by
  have HS := hide hs
  have HS' := hide hs'
  clear hs hs'
  have hb0 : Below w.heap.size w ((w.alloc (Obj.cells #[Value.string r.ns, Value.string r.nm, Value.string r.tx, Value.slice a r.ks.length cap] 24)).alloc (Obj.cells #[Value.string q.ns, Value.string q.nm, Value.string q.tx, Value.slice b q.ks.length cap'] 24)) := ((Below.refl _ _).alloc (Nat.le_refl _) _).alloc (by simp) _
  have bx0 : BoxN ((w.alloc (Obj.cells #[Value.string r.ns, Value.string r.nm, Value.string r.tx, Value.slice a r.ks.length cap] 24)).alloc (Obj.cells #[Value.string q.ns, Value.string q.nm, Value.string q.tx, Value.slice b q.ks.length cap'] 24)) w.heap.size a cap r := ⟨by simp; omega, by simp, by simp, by simp, by simp⟩
  have by0 : BoxN ((w.alloc (Obj.cells #[Value.string r.ns, Value.string r.nm, Value.string r.tx, Value.slice a r.ks.length cap] 24)).alloc (Obj.cells #[Value.string q.ns, Value.string q.nm, Value.string q.tx, Value.slice b q.ks.length cap'] 24)) (w.heap.size + 1) b cap' q := ⟨by simp, by simp, by simp, by simp, by simp⟩
  have HB0 := hide hb0
  have HX0 := hide bx0
  have HY0 := hide by0
  have HH : Hid (Nds w w.heap.size a r.ks) := h
  have HH' : Hid (Nds w w.heap.size b q.ks) := h'
  clear hb0 bx0 by0 h h'
  go_enter Try.func4, Try.ntmps4
  go_wp2_with fail
  refine (szNode_any r a cap w.heap.size 1048576 _ (HH.out.stays HB0.out (Nat.le_refl _)) (by simp; omega) HS.out (Nat.le_refl _)).mono ?_
  rintro e w1 ⟨⟨z, rfl, hz⟩, b1⟩
  have c1 := HB0.out.trans (b1.mono HB0.out.size)
  have bx1 := HX0.out.next b1
  have by1 := HY0.out.next b1
  have BX1 := hide bx1
  have BY1 := hide by1
  obtain ⟨_, x0, x1, x2, x3⟩ := bx1
  obtain ⟨_, y0, y1, y2, y3⟩ := by1
  clear b1
  rcases hz with hz | ⟨m, rfl, hm⟩
  · go_wp2
    go_ret
    exact ⟨rfl, c1⟩
  have hl2 : Hid (r.szN ≤ 1048576) := (by omega : r.szN ≤ 1048576)
  have hm2 : m ≤ 1048576 := by omega
  clear hm
  go_wp2_with fail
  refine (szNode_any q b cap' w.heap.size m w1 (HH'.out.stays c1 (Nat.le_refl _)) c1.size HS'.out hm2).mono ?_
  rintro e w2 ⟨⟨z, rfl, hz⟩, b2⟩
  have c2 := c1.trans (b2.mono c1.size)
  have bx2 := BX1.out.next b2
  have by2 := BY1.out.next b2
  have BX2 := hide bx2
  have BY2 := hide by2
  clear x0 x1 x2 x3 y0 y1 y2 y3
  obtain ⟨_, x0, x1, x2, x3⟩ := bx2
  obtain ⟨_, y0, y1, y2, y3⟩ := by2
  rcases hz with hz | ⟨m2, rfl, hm⟩
  · go_wp2
    go_ret
    exact ⟨rfl, c2⟩
  have hl3 : Hid (q.szN ≤ 1048576) := (by omega : q.szN ≤ 1048576)
  clear hm
  clear x0 x1 x2 x3 y0 y1 y2 y3
  have BX2d := hide BX2.out.drew
  have BY2d := hide BY2.out.drew
  have c2d := below_drewN c2
  have K2 := hide (keepB BX2d.out BY2d.out)
  have hq1 := toNode_any r a cap w.heap.size w2.drew (HH.out.stays c2d (Nat.le_refl _)) c2d.size hl2.out
  go_wp2
  go_region_held3 (fun W => W.cell? ⟨w.heap.size, 0, none⟩ = some (.string r.ns) ∧ W.cell? ⟨w.heap.size, 1, none⟩ = some (.string r.nm) ∧ W.cell? ⟨w.heap.size, 2, none⟩ = some (.string r.tx) ∧ W.cell? ⟨w.heap.size, 3, none⟩ = some (.slice a r.ks.length cap) ∧ W.cell? ⟨w.heap.size + 1, 0, none⟩ = some (.string q.ns) ∧ W.cell? ⟨w.heap.size + 1, 1, none⟩ = some (.string q.nm) ∧ W.cell? ⟨w.heap.size + 1, 2, none⟩ = some (.string q.tx) ∧ W.cell? ⟨w.heap.size + 1, 3, none⟩ = some (.slice b q.ks.length cap')) (first | exact K2.out | exact K3.out | exact K4.out | exact K5.out) (first
    | (go_at_call_of 8 (Value.string r.ns); refine hq1.mono ?_; rintro e w3 ⟨⟨g3, rfl, o3⟩, b3⟩; have s3 := OwnK.nds o3 (B := w3.heap.size) (fun x hx => hx.2); have c3 := c2d.trans (b3.mono c2d.size); have BX3 := hide (BX2d.out.next b3); have BY3 := hide (BY2d.out.next b3); have K3 := hide (keepB BX3.out BY3.out))
    | (go_at_call_of 8 (Value.string q.ns); refine (toNode_any q b cap' w.heap.size w3 (HH'.out.stays c3 (Nat.le_refl _)) c3.size hl3.out).mono ?_; rintro e w4 ⟨⟨g4, rfl, o4⟩, b4⟩; have s4 := OwnK.nds o4 (B := w4.heap.size) (fun x hx => hx.2); have c4 := c3.trans (b4.mono c3.size); have BX4 := hide (BX3.out.next b4); have BY4 := hide (BY3.out.next b4); have K4 := hide (keepB BX4.out BY4.out))
    | (go_at_call 11; refine (specSameNode_any r q _ _ _ _ _ _ w4 (s3.stays b4 (Nat.le_refl _)) s4 b4.size (Nat.le_refl _) HS.out HS'.out).mono ?_; rintro e w5 ⟨rfl, b5⟩; have c5 := c4.trans (b5.mono c4.size); have BX5 := hide (BX4.out.next b5); have BY5 := hide (BY4.out.next b5); have K5 := hide (keepB BX5.out BY5.out)))
  clear hq1 K2 K3 K4 K5 BX2d BY2d BX3 BY3 BX4 BY4 BX2 BY2 b3 b4 b5 s3 s4
  have x5 := BX5.out
  have y5 := BY5.out
  obtain ⟨_, x0, x1, x2, x3⟩ := x5
  obtain ⟨_, y0, y1, y2, y3⟩ := y5
  go_wp2_with fail
  refine (toNode_any r a cap w.heap.size w5 (HH.out.stays c5 (Nat.le_refl _)) c5.size hl2.out).mono ?_
  rintro e w6 ⟨⟨g6, rfl, o6⟩, b6⟩
  have s6 := OwnK.nds o6 (B := w6.heap.size) (fun x hx => hx.2)
  have c6 := c5.trans (b6.mono c5.size)
  have BX6 := hide (BX5.out.next b6)
  have BY6 := hide (BY5.out.next b6)
  clear x0 x1 x2 x3 y0 y1 y2 y3
  have y6 := BY6.out
  obtain ⟨_, y0, y1, y2, y3⟩ := y6
  have c7 := c6.alloc c6.size (Obj.cells #[Value.string r.ns, Value.string r.nm, Value.string r.tx, Value.slice (some ⟨g6, 0, none⟩) r.ks.length r.ks.length] 29)
  have BU7 := hide (BoxN.made w6 (some ⟨g6, 0, none⟩) r.ks.length r 29)
  have BX7 := hide (BX6.out.alloc (Obj.cells #[Value.string r.ns, Value.string r.nm, Value.string r.tx, Value.slice (some ⟨g6, 0, none⟩) r.ks.length r.ks.length] 29))
  have BY7 := hide (BY6.out.alloc (Obj.cells #[Value.string r.ns, Value.string r.nm, Value.string r.tx, Value.slice (some ⟨g6, 0, none⟩) r.ks.length r.ks.length] 29))
  have s7 := s6.alloc (Nat.le_refl _) (Obj.cells #[Value.string r.ns, Value.string r.nm, Value.string r.tx, Value.slice (some ⟨g6, 0, none⟩) r.ks.length r.ks.length] 29)
  have C7 := hide c7
  have S7 := hide s7
  clear c7 s7 s6 b6
  go_wp2_with fail
  refine (toNode_any q b cap' w.heap.size _ (HH'.out.stays C7.out (Nat.le_refl _)) C7.out.size hl3.out).mono ?_
  rintro e w8 ⟨⟨g8, rfl, o8⟩, b8⟩
  have s8 := OwnK.nds o8 (B := w8.heap.size) (fun x hx => hx.2)
  have c8 := C7.out.trans (b8.mono C7.out.size)
  have BU8 := hide (BU7.out.next b8)
  have BX8 := hide (BX7.out.next b8)
  have BY8 := hide (BY7.out.next b8)
  have t8 := S7.out.stays b8 (by simp)
  have z8 := b8.size
  have z68 : w6.heap.size < w8.heap.size := by simp at z8; omega
  clear y0 y1 y2 y3 b8 z8 BU7 BX7 BY7 C7 S7 BX6 BY6
  have c9 := c8.alloc c8.size (Obj.cells #[Value.string q.ns, Value.string q.nm, Value.string q.tx, Value.slice (some ⟨g8, 0, none⟩) q.ks.length q.ks.length] 29)
  have BV9 := hide (BoxN.made w8 (some ⟨g8, 0, none⟩) q.ks.length q 29)
  have BU9 := hide (BU8.out.alloc (Obj.cells #[Value.string q.ns, Value.string q.nm, Value.string q.tx, Value.slice (some ⟨g8, 0, none⟩) q.ks.length q.ks.length] 29))
  have BX9 := hide (BX8.out.alloc (Obj.cells #[Value.string q.ns, Value.string q.nm, Value.string q.tx, Value.slice (some ⟨g8, 0, none⟩) q.ks.length q.ks.length] 29))
  have BY9 := hide (BY8.out.alloc (Obj.cells #[Value.string q.ns, Value.string q.nm, Value.string q.tx, Value.slice (some ⟨g8, 0, none⟩) q.ks.length q.ks.length] 29))
  have t9 := t8.alloc (by omega) (Obj.cells #[Value.string q.ns, Value.string q.nm, Value.string q.tx, Value.slice (some ⟨g8, 0, none⟩) q.ks.length q.ks.length] 29)
  have s9 := s8.alloc (Nat.le_refl _) (Obj.cells #[Value.string q.ns, Value.string q.nm, Value.string q.tx, Value.slice (some ⟨g8, 0, none⟩) q.ks.length q.ks.length] 29)
  have z9 : w8.heap.size < (w8.alloc (Obj.cells #[Value.string q.ns, Value.string q.nm, Value.string q.tx, Value.slice (some ⟨g8, 0, none⟩) q.ks.length q.ks.length] 29)).heap.size := by simp
  obtain ⟨w9, hw9⟩ : ∃ w9, w8.alloc (Obj.cells #[Value.string q.ns, Value.string q.nm, Value.string q.tx, Value.slice (some ⟨g8, 0, none⟩) q.ks.length q.ks.length] 29) = w9 := ⟨_, rfl⟩
  rw [hw9] at c9 BV9 BU9 BX9 BY9 t9 s9 z9
  have u9 := BU9.out
  have v9 := BV9.out
  obtain ⟨_, u0, u1, u2, u3⟩ := u9
  obtain ⟨_, v0, v1, v2, v3⟩ := v9
  clear BU8 BX8 BY8 t8 s8 c8
  go_wp2_with fail
  refine (sameNode_any r q (some ⟨g6, 0, none⟩) (some ⟨g8, 0, none⟩) r.ks.length q.ks.length w6.heap.size w8.heap.size w9 t9 s9 (by omega) (by omega) HS.out HS'.out).mono ?_
  rintro e w10 ⟨rfl, b10⟩
  clear hw9 u0 u1 u2 u3 v0 v1 v2 v3
  have c10 := c9.trans (b10.mono c9.size)
  have BU10 := hide (BU9.out.next b10)
  have BV10 := hide (BV9.out.next b10)
  have BX10 := hide (BX9.out.next b10)
  have BY10 := hide (BY9.out.next b10)
  have t10 := t9.stays b10 (by omega)
  have s10 := s9.stays b10 (by omega)
  have z10 : w9.heap.size ≤ w10.heap.size := b10.size
  clear BU9 BV9 BX9 BY9 t9 s9 b10 c9
  have zx10 : w6.heap.size ≤ w10.drew.heap.size := by show w6.heap.size ≤ w10.heap.size; omega
  have K10 := hide (keepB BU10.out BX10.out)
  have c10d := below_drewN c10
  have hqa10 := toNode_any r a cap w.heap.size w10.drew (HH.out.stays c10d (Nat.le_refl _)) c10d.size hl2.out
  go_wp2
  go_region_held3 (fun W => W.cell? ⟨w6.heap.size, 0, none⟩ = some (.string r.ns) ∧ W.cell? ⟨w6.heap.size, 1, none⟩ = some (.string r.nm) ∧ W.cell? ⟨w6.heap.size, 2, none⟩ = some (.string r.tx) ∧ W.cell? ⟨w6.heap.size, 3, none⟩ = some (.slice (some ⟨g6, 0, none⟩) r.ks.length r.ks.length) ∧ W.cell? ⟨w.heap.size, 0, none⟩ = some (.string r.ns) ∧ W.cell? ⟨w.heap.size, 1, none⟩ = some (.string r.nm) ∧ W.cell? ⟨w.heap.size, 2, none⟩ = some (.string r.tx) ∧ W.cell? ⟨w.heap.size, 3, none⟩ = some (.slice a r.ks.length cap)) (first | exact K10.out | exact K11.out | exact K12.out) (first
    | (go_at_call 8; refine hqa10.mono ?_; rintro e w11 ⟨⟨g11, rfl, o11⟩, b11⟩; have s11' := OwnK.nds o11 (B := w11.heap.size) (fun x hx => hx.2); have c11 := c10d.trans (b11.mono c10d.size); have BUa11 := hide (BU10.out.drew.next b11); have BXa11 := hide (BX10.out.drew.next b11); have K11 := hide (keepB BUa11.out BXa11.out); have ta11 := t10.drew.stays b11 zx10; have zz11 := Nat.le_trans zx10 b11.size)
    | (go_at_call 10; refine (eqNode_any r r _ _ _ _ _ _ w11 ta11 s11' zz11 (Nat.le_refl _) HS.out HS.out).mono ?_; rintro e w12 ⟨rfl, b12⟩; rw [same_refl]; have c12 := c11.trans (b12.mono c11.size); have BUa12 := hide (BUa11.out.next b12); have BXa12 := hide (BXa11.out.next b12); have K12 := hide (keepB BUa12.out BXa12.out)))
  have BV12 := hide ((BV10.out.drew.next b11).next b12)
  have BY12 := hide ((BY10.out.drew.next b11).next b12)
  have zb11 : w8.heap.size ≤ w10.drew.heap.size := by show w8.heap.size ≤ w10.heap.size; omega
  have zb12 : w8.heap.size ≤ w11.heap.size := Nat.le_trans zb11 b11.size
  have s12 := (s10.drew.stays b11 zb11).stays b12 zb12
  have zx12 : w8.heap.size ≤ w12.drew.heap.size := by show w8.heap.size ≤ w12.heap.size; have := b12.size; omega
  clear hqa10 K10 K11 K12 BU10 BX10 BUa11 BXa11 BUa12 BXa12 ta11 s11' b11 b12 c10 c10d c11 t10 s10 BV10 BY10
  have K12 := hide (keepB BV12.out BY12.out)
  have c12d := below_drewN c12
  have hqa12 := toNode_any q b cap' w.heap.size w12.drew (HH'.out.stays c12d (Nat.le_refl _)) c12d.size hl3.out
  go_wp2
  go_region_held3 (fun W => W.cell? ⟨w8.heap.size, 0, none⟩ = some (.string q.ns) ∧ W.cell? ⟨w8.heap.size, 1, none⟩ = some (.string q.nm) ∧ W.cell? ⟨w8.heap.size, 2, none⟩ = some (.string q.tx) ∧ W.cell? ⟨w8.heap.size, 3, none⟩ = some (.slice (some ⟨g8, 0, none⟩) q.ks.length q.ks.length) ∧ W.cell? ⟨w.heap.size + 1, 0, none⟩ = some (.string q.ns) ∧ W.cell? ⟨w.heap.size + 1, 1, none⟩ = some (.string q.nm) ∧ W.cell? ⟨w.heap.size + 1, 2, none⟩ = some (.string q.tx) ∧ W.cell? ⟨w.heap.size + 1, 3, none⟩ = some (.slice b q.ks.length cap')) (first | exact K12.out | exact K13.out | exact K14.out) (first
    | (go_at_call 8; refine hqa12.mono ?_; rintro e w13 ⟨⟨g13, rfl, o13⟩, b13⟩; have s13' := OwnK.nds o13 (B := w13.heap.size) (fun x hx => hx.2); have c13 := c12d.trans (b13.mono c12d.size); have BUa13 := hide (BV12.out.drew.next b13); have BXa13 := hide (BY12.out.drew.next b13); have K13 := hide (keepB BUa13.out BXa13.out); have ta13 := s12.drew.stays b13 zx12; have zz13 := Nat.le_trans zx12 b13.size)
    | (go_at_call 10; refine (eqNode_any q q _ _ _ _ _ _ w13 ta13 s13' zz13 (Nat.le_refl _) HS'.out HS'.out).mono ?_; rintro e w14 ⟨rfl, b14⟩; rw [same_refl]; have c14 := c13.trans (b14.mono c13.size); have BUa14 := hide (BUa13.out.next b14); have BXa14 := hide (BXa13.out.next b14); have K14 := hide (keepB BUa14.out BXa14.out)))
  go_wp2
  go_ret
  exact ⟨rfl, c14⟩
end Go.Proofs.Ytanebchmeaomgaa
