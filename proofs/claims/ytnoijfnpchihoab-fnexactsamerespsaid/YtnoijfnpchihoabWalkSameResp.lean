/-
  The walk of the law FnExactSameResp: for every two answers it returns true, and turns nothing that was there.
-/
import Derived.Test.YtnoijfnpchihoabSameResp
import Derived.Test.YtnoijfnpchihoabEqResp
import Derived.Test.YtnoijfnpchihoabLawResp
import Derived.Test.YtnoijfnpchihoabBoxResp
import Derived.Deep.RegionWith
namespace Go.Proofs.Ytnoijfnpchihoab
open Go.RowKit M
set_option linter.unusedVariables false

set_option maxRecDepth 100000 in
set_option maxHeartbeats 4000000 in
theorem FnExactSameResp_walk (a : Option Addr) (r : Rs) (cap : Nat) (hs : ShortA r) (b : Option Addr) (q : Rs) (cap' : Nat) (hs' : ShortA q) (w : World) (h : Hds w w.heap.size a r.hs) (h' : Hds w w.heap.size b q.hs) :
    Calls Try.prog 4 #[.agg #[.int .i64 r.c, .slice a r.hs.length cap, .string r.b], .agg #[.int .i64 q.c, .slice b q.hs.length cap', .string q.b]] w fun e w' => e = .returned (.bool true) ∧ Below w.heap.size w w' := by
  obtain ⟨q3, q4, q5⟩ := hs
  obtain ⟨p3, p4, p5⟩ := hs'
  have hb0 : Below w.heap.size w ((w.alloc (Obj.cells #[Value.int .i64 r.c, Value.slice a r.hs.length cap, Value.string r.b] 24)).alloc (Obj.cells #[Value.int .i64 q.c, Value.slice b q.hs.length cap', Value.string q.b] 24)) := ((Below.refl _ _).alloc (Nat.le_refl _) _).alloc (by simp) _
  have bx0 : BoxA ((w.alloc (Obj.cells #[Value.int .i64 r.c, Value.slice a r.hs.length cap, Value.string r.b] 24)).alloc (Obj.cells #[Value.int .i64 q.c, Value.slice b q.hs.length cap', Value.string q.b] 24)) w.heap.size a cap r := ⟨by simp; omega, by simp, by simp, by simp⟩
  have by0 : BoxA ((w.alloc (Obj.cells #[Value.int .i64 r.c, Value.slice a r.hs.length cap, Value.string r.b] 24)).alloc (Obj.cells #[Value.int .i64 q.c, Value.slice b q.hs.length cap', Value.string q.b] 24)) (w.heap.size + 1) b cap' q := ⟨by simp, by simp, by simp, by simp⟩
  have HB0 := hide hb0
  have HX0 := hide bx0
  have HY0 := hide by0
  have HH : Hid (Hds w w.heap.size a r.hs) := h
  have HH' : Hid (Hds w w.heap.size b q.hs) := h'
  clear hb0 bx0 by0 h h'
  go_enter Try.func4, Try.ntmps4
  go_wp2_with fail
  refine (szResp_any a r cap w.heap.size 1048576 _ (HH.out.below HB0.out (Nat.le_refl _)) (by simp; omega) q5 q4 q3 (Nat.le_refl _)).mono ?_
  rintro e w1 ⟨⟨z, rfl, hz⟩, b1⟩
  have c1 := HB0.out.trans (b1.mono HB0.out.size)
  have bx1 := HX0.out.next b1
  have by1 := HY0.out.next b1
  have BX1 := hide bx1
  have BY1 := hide by1
  obtain ⟨_, x0, x1, x2⟩ := bx1
  obtain ⟨_, y0, y1, y2⟩ := by1
  clear b1
  rcases hz with hz | ⟨m, rfl, hm⟩
  · go_wp2
    go_ret
    exact ⟨rfl, c1⟩
  have hl2 : r.hs.length ≤ 1048576 := by omega
  have hm2 : m ≤ 1048576 := by omega
  clear hm
  go_wp2_with fail
  refine (szResp_any b q cap' w.heap.size m w1 (HH'.out.below c1 (Nat.le_refl _)) c1.size p5 p4 p3 hm2).mono ?_
  rintro e w2 ⟨⟨z, rfl, hz⟩, b2⟩
  have c2 := c1.trans (b2.mono c1.size)
  have bx2 := BX1.out.next b2
  have by2 := BY1.out.next b2
  have BX2 := hide bx2
  have BY2 := hide by2
  clear x0 x1 x2 y0 y1 y2
  obtain ⟨_, x0, x1, x2⟩ := bx2
  obtain ⟨_, y0, y1, y2⟩ := by2
  rcases hz with hz | ⟨m2, rfl, hm⟩
  · go_wp2
    go_ret
    exact ⟨rfl, c2⟩
  have hl3 : q.hs.length ≤ 1048576 := by omega
  clear hm
  have hl4 : r.hs.length ≤ maxLen := by unfold maxLen; omega
  have hl5 : q.hs.length ≤ maxLen := by unfold maxLen; omega
  clear x0 x1 x2 y0 y1 y2
  have BX2d := hide BX2.out.drew
  have BY2d := hide BY2.out.drew
  have c2d := below_drew c2
  have K2 := hide (keep6 BX2d.out BY2d.out)
  have hq1 := toResp_any a r cap w.heap.size w2.drew (HH.out.below c2d (Nat.le_refl _)) c2d.size hl2
  go_wp2
  go_region_held3 (fun W => W.cell? ⟨w.heap.size, 0, none⟩ = some (.int .i64 r.c) ∧ W.cell? ⟨w.heap.size, 1, none⟩ = some (.slice a r.hs.length cap) ∧ W.cell? ⟨w.heap.size, 2, none⟩ = some (.string r.b) ∧ W.cell? ⟨w.heap.size + 1, 0, none⟩ = some (.int .i64 q.c) ∧ W.cell? ⟨w.heap.size + 1, 1, none⟩ = some (.slice b q.hs.length cap') ∧ W.cell? ⟨w.heap.size + 1, 2, none⟩ = some (.string q.b)) (first | exact K2.out | exact K3.out | exact K4.out | exact K5.out) (first
    | (go_at_call_of 7 (Value.int .i64 r.c); refine hq1.mono ?_; rintro e w3 ⟨⟨g3, rfl, s3⟩, b3⟩; have c3 := c2d.trans (b3.mono c2d.size); have BX3 := hide (BX2d.out.next b3); have BY3 := hide (BY2d.out.next b3); have K3 := hide (keep6 BX3.out BY3.out))
    | (go_at_call_of 7 (Value.int .i64 q.c); refine (toResp_any b q cap' w.heap.size w3 (HH'.out.below c3 (Nat.le_refl _)) c3.size hl3).mono ?_; rintro e w4 ⟨⟨g4, rfl, s4⟩, b4⟩; have c4 := c3.trans (b4.mono c3.size); have BX4 := hide (BX3.out.next b4); have BY4 := hide (BY3.out.next b4); have K4 := hide (keep6 BX4.out BY4.out))
    | (go_at_call 10; refine (specSameResp_any _ _ r q _ _ _ _ w4 (s3.below b4 (Nat.le_refl _)) s4 b4.size (Nat.le_refl _) hl4 hl5).mono ?_; rintro e w5 ⟨rfl, b5⟩; have c5 := c4.trans (b5.mono c4.size); have BX5 := hide (BX4.out.next b5); have BY5 := hide (BY4.out.next b5); have K5 := hide (keep6 BX5.out BY5.out)))
  clear hq1 K2 K3 K4 K5 BX2d BY2d BX3 BY3 BX4 BY4 BX2 BY2 b3 b4 b5 s3 s4
  have x5 := BX5.out
  have y5 := BY5.out
  obtain ⟨_, x0, x1, x2⟩ := x5
  obtain ⟨_, y0, y1, y2⟩ := y5
  go_wp2_with fail
  refine (toResp_any a r cap w.heap.size w5 (HH.out.below c5 (Nat.le_refl _)) c5.size hl2).mono ?_
  rintro e w6 ⟨⟨g6, rfl, s6⟩, b6⟩
  have c6 := c5.trans (b6.mono c5.size)
  have BX6 := hide (BX5.out.next b6)
  have BY6 := hide (BY5.out.next b6)
  clear x0 x1 x2 y0 y1 y2
  have y6 := BY6.out
  obtain ⟨_, y0, y1, y2⟩ := y6
  have c7 := c6.alloc c6.size (Obj.cells #[Value.int .i64 r.c, Value.slice (some ⟨g6, 0, none⟩) r.hs.length r.hs.length, Value.string r.b] 29)
  have BU7 := hide (BoxA.made w6 (some ⟨g6, 0, none⟩) r.hs.length r 29)
  have BX7 := hide (BX6.out.alloc (Obj.cells #[Value.int .i64 r.c, Value.slice (some ⟨g6, 0, none⟩) r.hs.length r.hs.length, Value.string r.b] 29))
  have BY7 := hide (BY6.out.alloc (Obj.cells #[Value.int .i64 r.c, Value.slice (some ⟨g6, 0, none⟩) r.hs.length r.hs.length, Value.string r.b] 29))
  have s7 := s6.alloc (Nat.le_refl _) (Obj.cells #[Value.int .i64 r.c, Value.slice (some ⟨g6, 0, none⟩) r.hs.length r.hs.length, Value.string r.b] 29)
  have C7 := hide c7
  have S7 := hide s7
  clear c7 s7 s6 b6
  go_wp2_with fail
  refine (toResp_any b q cap' w.heap.size _ (HH'.out.below C7.out (Nat.le_refl _)) C7.out.size hl3).mono ?_
  rintro e w8 ⟨⟨g8, rfl, s8⟩, b8⟩
  have c8 := C7.out.trans (b8.mono C7.out.size)
  have BU8 := hide (BU7.out.next b8)
  have BX8 := hide (BX7.out.next b8)
  have BY8 := hide (BY7.out.next b8)
  have t8 := S7.out.below b8 (by simp)
  have z8 := b8.size
  have z68 : w6.heap.size < w8.heap.size := by simp at z8; omega
  clear y0 y1 y2 b8 z8 BU7 BX7 BY7 C7 S7 BX6 BY6
  have c9 := c8.alloc c8.size (Obj.cells #[Value.int .i64 q.c, Value.slice (some ⟨g8, 0, none⟩) q.hs.length q.hs.length, Value.string q.b] 29)
  have BV9 := hide (BoxA.made w8 (some ⟨g8, 0, none⟩) q.hs.length q 29)
  have BU9 := hide (BU8.out.alloc (Obj.cells #[Value.int .i64 q.c, Value.slice (some ⟨g8, 0, none⟩) q.hs.length q.hs.length, Value.string q.b] 29))
  have BX9 := hide (BX8.out.alloc (Obj.cells #[Value.int .i64 q.c, Value.slice (some ⟨g8, 0, none⟩) q.hs.length q.hs.length, Value.string q.b] 29))
  have BY9 := hide (BY8.out.alloc (Obj.cells #[Value.int .i64 q.c, Value.slice (some ⟨g8, 0, none⟩) q.hs.length q.hs.length, Value.string q.b] 29))
  have t9 := t8.alloc (by omega) (Obj.cells #[Value.int .i64 q.c, Value.slice (some ⟨g8, 0, none⟩) q.hs.length q.hs.length, Value.string q.b] 29)
  have s9 := s8.alloc (Nat.le_refl _) (Obj.cells #[Value.int .i64 q.c, Value.slice (some ⟨g8, 0, none⟩) q.hs.length q.hs.length, Value.string q.b] 29)
  have z9 : w8.heap.size < (w8.alloc (Obj.cells #[Value.int .i64 q.c, Value.slice (some ⟨g8, 0, none⟩) q.hs.length q.hs.length, Value.string q.b] 29)).heap.size := by simp
  obtain ⟨w9, hw9⟩ : ∃ w9, w8.alloc (Obj.cells #[Value.int .i64 q.c, Value.slice (some ⟨g8, 0, none⟩) q.hs.length q.hs.length, Value.string q.b] 29) = w9 := ⟨_, rfl⟩
  rw [hw9] at c9 BV9 BU9 BX9 BY9 t9 s9 z9
  have u9 := BU9.out
  have v9 := BV9.out
  obtain ⟨_, u0, u1, u2⟩ := u9
  obtain ⟨_, v0, v1, v2⟩ := v9
  clear BU8 BX8 BY8 t8 s8 c8
  go_wp2_with fail
  refine (sameResp_any (some ⟨g6, 0, none⟩) (some ⟨g8, 0, none⟩) r q r.hs.length q.hs.length w6.heap.size w8.heap.size w9 t9 s9 (by omega) (by omega) hl4 hl5).mono ?_
  rintro e w10 ⟨rfl, b10⟩
  clear hw9 u0 u1 u2 v0 v1 v2
  have c10 := c9.trans (b10.mono c9.size)
  have BU10 := hide (BU9.out.next b10)
  have BV10 := hide (BV9.out.next b10)
  have BX10 := hide (BX9.out.next b10)
  have BY10 := hide (BY9.out.next b10)
  have t10 := t9.below b10 (by omega)
  have s10 := s9.below b10 (by omega)
  have z10 : w9.heap.size ≤ w10.heap.size := b10.size
  clear BU9 BV9 BX9 BY9 t9 s9 b10 c9
  have zx10 : w6.heap.size ≤ w10.drew.heap.size := by show w6.heap.size ≤ w10.heap.size; omega
  have K10 := hide (keep6 BU10.out BX10.out)
  have c10d := below_drew c10
  have hqa10 := toResp_any a r cap w.heap.size w10.drew (HH.out.below c10d (Nat.le_refl _)) c10d.size hl2
  go_wp2
  go_region_held3 (fun W => W.cell? ⟨w6.heap.size, 0, none⟩ = some (.int .i64 r.c) ∧ W.cell? ⟨w6.heap.size, 1, none⟩ = some (.slice (some ⟨g6, 0, none⟩) r.hs.length r.hs.length) ∧ W.cell? ⟨w6.heap.size, 2, none⟩ = some (.string r.b) ∧ W.cell? ⟨w.heap.size, 0, none⟩ = some (.int .i64 r.c) ∧ W.cell? ⟨w.heap.size, 1, none⟩ = some (.slice a r.hs.length cap) ∧ W.cell? ⟨w.heap.size, 2, none⟩ = some (.string r.b)) (first | exact K10.out | exact K11.out | exact K12.out) (first
    | (go_at_call 7; refine hqa10.mono ?_; rintro e w11 ⟨⟨g11, rfl, s11'⟩, b11⟩; have c11 := c10d.trans (b11.mono c10d.size); have BUa11 := hide (BU10.out.drew.next b11); have BXa11 := hide (BX10.out.drew.next b11); have K11 := hide (keep6 BUa11.out BXa11.out); have ta11 := t10.drew.below b11 zx10; have zz11 := Nat.le_trans zx10 b11.size)
    | (go_at_call 9; refine (eqResp_any _ _ r r _ _ _ _ w11 ta11 s11' zz11 (Nat.le_refl _) hl4 hl4).mono ?_; rintro e w12 ⟨rfl, b12⟩; rw [sameA_refl]; have c12 := c11.trans (b12.mono c11.size); have BUa12 := hide (BUa11.out.next b12); have BXa12 := hide (BXa11.out.next b12); have K12 := hide (keep6 BUa12.out BXa12.out)))
  have BV12 := hide ((BV10.out.drew.next b11).next b12)
  have BY12 := hide ((BY10.out.drew.next b11).next b12)
  have zb11 : w8.heap.size ≤ w10.drew.heap.size := by show w8.heap.size ≤ w10.heap.size; omega
  have zb12 : w8.heap.size ≤ w11.heap.size := Nat.le_trans zb11 b11.size
  have s12 := (s10.drew.below b11 zb11).below b12 zb12
  have zx12 : w8.heap.size ≤ w12.drew.heap.size := by show w8.heap.size ≤ w12.heap.size; have := b12.size; omega
  clear hqa10 K10 K11 K12 BU10 BX10 BUa11 BXa11 BUa12 BXa12 ta11 s11' b11 b12 c10 c10d c11 t10 s10 BV10 BY10
  have K12 := hide (keep6 BV12.out BY12.out)
  have c12d := below_drew c12
  have hqa12 := toResp_any b q cap' w.heap.size w12.drew (HH'.out.below c12d (Nat.le_refl _)) c12d.size hl3
  go_wp2
  go_region_held3 (fun W => W.cell? ⟨w8.heap.size, 0, none⟩ = some (.int .i64 q.c) ∧ W.cell? ⟨w8.heap.size, 1, none⟩ = some (.slice (some ⟨g8, 0, none⟩) q.hs.length q.hs.length) ∧ W.cell? ⟨w8.heap.size, 2, none⟩ = some (.string q.b) ∧ W.cell? ⟨w.heap.size + 1, 0, none⟩ = some (.int .i64 q.c) ∧ W.cell? ⟨w.heap.size + 1, 1, none⟩ = some (.slice b q.hs.length cap') ∧ W.cell? ⟨w.heap.size + 1, 2, none⟩ = some (.string q.b)) (first | exact K12.out | exact K13.out | exact K14.out) (first
    | (go_at_call 7; refine hqa12.mono ?_; rintro e w13 ⟨⟨g13, rfl, s13'⟩, b13⟩; have c13 := c12d.trans (b13.mono c12d.size); have BUa13 := hide (BV12.out.drew.next b13); have BXa13 := hide (BY12.out.drew.next b13); have K13 := hide (keep6 BUa13.out BXa13.out); have ta13 := s12.drew.below b13 zx12; have zz13 := Nat.le_trans zx12 b13.size)
    | (go_at_call 9; refine (eqResp_any _ _ q q _ _ _ _ w13 ta13 s13' zz13 (Nat.le_refl _) hl5 hl5).mono ?_; rintro e w14 ⟨rfl, b14⟩; rw [sameA_refl]; have c14 := c13.trans (b14.mono c13.size); have BUa14 := hide (BUa13.out.next b14); have BXa14 := hide (BXa13.out.next b14); have K14 := hide (keep6 BUa14.out BXa14.out)))
  go_wp2
  go_ret
  exact ⟨rfl, c14⟩
end Go.Proofs.Ytnoijfnpchihoab
