/-
  The walk of the law FnExactFeed: for all wires and bytes it returns true, and turns nothing that was there.
-/
import Derived.Test.YtkhnkockdfmkgabGreatDoorSpecFeed
import Derived.Test.YtkhnkockdfmkgabGreatDoorWireTop
import Derived.Test.YtkhnkockdfmkgabGreatDoorHeldFrom
import Derived.Test.YtkhnkockdfmkgabGreatDoorIsByt
namespace Go.Proofs.YtkhnkockdfmkgabGreatDoor
open Go.RowKit M
set_option linter.unusedVariables false

theorem NewW.byt {w : World} {lo hi : Nat} {l : List UInt8} {bad : Int} {v : Value} (h : NewW w lo hi l bad v) : ∃ N, v = .agg #[.slice (some ⟨N, 0, none⟩) l.length l.length, .int .i64 bad] ∧ Byt w w.heap.size (some ⟨N, 0, none⟩) l := by
  obtain ⟨N, rfl, _, _, h3⟩ := h
  exact ⟨N, rfl, h3.byt (World.rowIs.lt h3)⟩
theorem heads8 {rs : List Rq} (h : ∀ r ∈ rs, reqB r = true) : ∀ r ∈ rs, r.hs.length ≤ 8 := fun r hr => (req_parts (h r hr)).2.2.2.1
theorem FreshY.byt {w : World} {B : Nat} {v : Value} {l : List UInt8} (h : FreshY w B v l) : ∃ a c, v = .slice a l.length c ∧ Byt w w.heap.size a l := by
  obtain ⟨a, c, rfl, _, _, _, hy⟩ := h
  exact ⟨a, c, rfl, hy⟩
theorem RowsQ.within {lo hi B : Nat} {w w' : World} {v : Value} {qs : List Rv} (h : RowsQ w B v qs) (hw : Within lo hi w w') (hB : hi ≤ B) : RowsQ w' B v qs := h.same (fun k hk hz => hw.block k hz (.inr (by omega)))
theorem FreshY.within {lo hi B : Nat} {w w' : World} {v : Value} {l : List UInt8} (h : FreshY w B v l) (hw : Within lo hi w w') (hB : hi ≤ B) : FreshY w' B v l := h.same hw.size (fun k hk hz => hw.block k hz (.inr (by omega)))
theorem Within.wide {lo hi lo' hi' : Nat} {w w' : World} (h : Within lo hi w w') (h1 : lo' ≤ lo) (h2 : hi ≤ hi') : Within lo' hi' w w' := ⟨h.os, h.tape, h.output, h.size, fun k hk hd => h.block k hk (by omega)⟩
theorem FedIs.heads {w : World} {B : Nat} {d : List Rq × List UInt8 × Int} {e : Ending} (h : FedIs w B d e) (h8 : ∀ r ∈ d.1, r.hs.length ≤ 8) : ∃ bv qv qs, e = .returned (.tuple #[.agg #[bv, .int .i64 d.2.2], qv]) ∧ FreshY w B bv d.2.1 ∧ RowsQ w B qv qs ∧ qs.map Prod.fst = d.1 ∧ (∀ g, 0 < d.2.1.length → bv.ownBlock = some g → qv.ownBlock ≠ some g ∧ ∀ q ∈ qs, q.2.ownBlock ≠ some g) ∧ (∀ q ∈ qs, q.1.hs.length ≤ 8) := by
  obtain ⟨bv, qv, qs, rfl, h1, h2, h3, h4⟩ := h
  exact ⟨bv, qv, qs, rfl, h1, h2, h3, h4, fun q hq => h8 q.1 (by rw [← h3]; exact List.mem_map_of_mem hq)⟩

set_option maxRecDepth 100000 in
set_option maxHeartbeats 8000000 in
theorem FnExactFeed_walk (a : Option Addr) (l : List UInt8) (cap : Nat) (bad : Int) (hlc : l.length ≤ maxLen) (a2 : Option Addr) (len2 cap2 : Nat) (zs2 : List Int) (w : World) (hy : Byt w w.heap.size a l) (hr2 : IsRow .u8 w a2 len2 cap2 zs2) (hL : laidMet Tryz.prog Rows.fnExactFeedRow.laid w) (mx : Int) (hmx : w.cell? ⟨0, 0, none⟩ = some (.int .i64 mx)) :
    Calls Tryz.prog 3 #[.agg #[.slice a l.length cap, .int .i64 bad], .slice a2 len2 cap2] w fun e w' => e = .returned (.bool true) ∧ Below w.heap.size w w' := by
  clear hL
  obtain ⟨m, rfl, hy2, hlc2, hcm2⟩ := byt_of_row hr2
  clear hr2
  have h0 : 0 < w.heap.size := World.block_lt_of_cell? w _ hmx
  have hcm2' : m.length ≤ 9223372036854775807 := by unfold maxLen at hcm2; omega
  rcases Nat.lt_or_ge 1048576 m.length with hm1 | hm1
  · have hm2 : (1048576 : Int) < m.length := by omega
    clear hy hy2 hmx
    go_enter Tryz.func3, Tryz.ntmps3
    go_wp2
    go_ret
    exact ⟨rfl, (Below.refl _ _).alloc (Nat.le_refl _) _⟩
  have hm2 : ¬ ((1048576 : Int) < m.length) := by omega
  obtain ⟨wA, hwA⟩ : ∃ wA, w.alloc (Obj.cells #[.slice a l.length cap, .int .i64 bad] 24) = wA := ⟨_, rfl⟩
  have bA : Below w.heap.size w wA := by rw [← hwA]; exact (Below.refl _ _).alloc (Nat.le_refl _) _
  have sA : w.heap.size < wA.heap.size := by rw [← hwA]; simp
  have zA : wA.heap[w.heap.size]? = some (Obj.cells #[.slice a l.length cap, .int .i64 bad] 24) := by rw [← hwA]; exact heap_alloc_new w _
  obtain ⟨x0, x1, _, _⟩ := cells2 zA
  have HX := hide (fun (W : World) (hb : Below wA.heap.size wA W) => (⟨(hb.cell (p := ⟨w.heap.size, 0, none⟩) sA).trans x0, (hb.cell (p := ⟨w.heap.size, 1, none⟩) sA).trans x1⟩ : W.cell? ⟨w.heap.size, 0, none⟩ = some (.slice a l.length cap) ∧ W.cell? ⟨w.heap.size, 1, none⟩ = some (.int .i64 bad)))
  have HSz := hide (szWire_any a l.length cap 1048576 bad wA hlc (Nat.le_refl _))
  have HY := hide ((hy.below bA (Nat.le_refl _)).mono bA.size)
  have HY2 := hide ((hy2.below bA (Nat.le_refl _)).mono bA.size)
  have HM := hide (fun (W : World) (hb : Below wA.heap.size wA W) => (hb.cell (p := ⟨0, 0, none⟩) (Nat.lt_of_lt_of_le h0 bA.size)).trans ((bA.cell (p := ⟨0, 0, none⟩) h0).trans hmx))
  have h0A : 0 < wA.heap.size := Nat.lt_of_lt_of_le h0 bA.size
  have BA := hide bA
  clear hy hy2 hmx bA zA
  go_enter Tryz.func3, Tryz.ntmps3
  go_wp2_with fail
  try rw [hwA]
  refine HSz.out.mono ?_
  rintro e w0 ⟨⟨z, rfl, hz⟩, b0⟩
  clear HSz hwA
  rcases hz with hz | ⟨z2, rfl, hz2⟩
  · have c0 := BA.out.trans (b0.mono BA.out.size)
    clear b0
    go_wp2
    go_ret
    exact ⟨rfl, c0⟩
  have hl1 : l.length ≤ 1048576 := by omega
  have hlm : l.length ≤ maxLen := hlc
  have hmm : m.length ≤ maxLen := by unfold maxLen; omega
  clear hz2
  have HTw := hide (fun (W : World) (hc : Below wA.heap.size wA W) => toWire_any a l cap wA.heap.size bad W (HY.out.below hc (Nat.le_refl _)) hc.size hl1)
  have HTb := hide (fun (W : World) (hc : Below wA.heap.size wA W) => toByteS_any a2 m cap2 wA.heap.size W (HY2.out.below hc (Nat.le_refl _)) hc.size hm1)
  have hcnt := feedM_count l bad m
  have h8 := heads8 (feedM_all l bad m).1
  have HSp := hide (fun (n1 n2 : Nat) (W : World) (k1 : Byt W W.heap.size (some ⟨n1, 0, none⟩) l) (k2 : Byt W W.heap.size (some ⟨n2, 0, none⟩) m) => specFeed_any (some ⟨n1, 0, none⟩) l l.length bad (some ⟨n2, 0, none⟩) m m.length W k1 k2 (by omega))
  have HIm := hide (fun (n1 n2 : Nat) (W : World) (k1 : Byt W W.heap.size (some ⟨n1, 0, none⟩) l) (k2 : Byt W W.heap.size (some ⟨n2, 0, none⟩) m) (hc : Below wA.heap.size wA W) => feedI_any (some ⟨n1, 0, none⟩) l l.length bad (some ⟨n2, 0, none⟩) m m.length mx W k1 k2 (by omega) (Nat.lt_of_lt_of_le h0A hc.size) (HM.out W hc))
  obtain ⟨rs, buf, bd, hD⟩ : ∃ rs buf bd, feedM l bad m = (rs, buf, bd) := ⟨_, _, _, rfl⟩
  rw [hD] at HSp HIm hcnt h8
  have hcnt' : rs.length + buf.length ≤ l.length + m.length := hcnt
  have H8 : Hid (∀ r ∈ rs, r.hs.length ≤ 8) := h8
  have hrm : rs.length ≤ maxLen := by unfold maxLen; omega
  have hbm : buf.length ≤ maxLen := by unfold maxLen; omega
  have H8m : Hid (∀ r ∈ rs, r.hs.length ≤ maxLen) := hide (fun r hr => Nat.le_trans (H8.out r hr) (by decide))
  clear hD hcnt h8
  have C0 := hide b0
  obtain ⟨x0, x1⟩ := HX.out _ b0
  clear b0
  -- the specification's
  go_wp2_with fail
  refine (HTw.out w0 C0.out).mono ?_
  rintro e w1 ⟨⟨v1, rfl, n1⟩, b1⟩
  obtain ⟨N1, rfl, y1⟩ := n1.byt
  have C1 := hide (C0.out.trans (b1.mono C0.out.size))
  clear n1 b1 C0
  go_wp2_with fail
  refine (HTb.out w1 C1.out).mono ?_
  rintro e w2 ⟨rfl, n2, b2, z2⟩
  have C2 := hide (C1.out.trans (b2.mono C1.out.size))
  have y2 := (y1.below b2 (Nat.le_refl _)).mono b2.size
  have y2' := n2.byt z2
  clear y1 n2 b2 z2 C1
  go_wp2_with fail
  refine (HSp.out _ _ w2 y2 y2').mono ?_
  rintro e w3 ⟨⟨aw, cw, qw, pw, rfl, yw, rw3, ew, _⟩, b3⟩
  obtain ⟨aq, cq, rfl, rq3⟩ := rw3.rq ew
  have c3 := C2.out.trans (b3.mono C2.out.size)
  obtain ⟨w3b, hw3b⟩ : ∃ w3b, w3.alloc (Obj.cells #[.slice aw buf.length cw, .int .i64 bd] 26) = w3b := ⟨_, rfl⟩
  have bx3 : Below w3.heap.size w3 w3b := by rw [← hw3b]; exact (Below.refl _ _).alloc (Nat.le_refl _) _
  have BW3 : Hid (BoxW w3b w3.heap.size (.slice aw buf.length cw) bd) := by rw [← hw3b]; exact BoxW.made w3 _ _
  have s3 : w3.heap.size < w3b.heap.size := by rw [← hw3b]; simp
  have YW := hide (yw.below bx3 (Nat.le_refl _))
  have RW := hide (rq3.below bx3 (Nat.le_refl _))
  have C3 := hide (c3.trans (bx3.mono c3.size))
  have C3s := hide C3.out.size
  obtain ⟨x0, x1⟩ := HX.out _ C3.out
  clear y2 y2' C2 yw rw3 rq3 ew b3 c3 bx3 HSp
  -- x0, x1
  go_wp2_with fail
  refine (HTw.out w3b C3.out).mono ?_
  rintro e w4 ⟨⟨v4, rfl, n4⟩, b4⟩
  obtain ⟨N4, rfl, _⟩ := n4.byt
  have c4 := C3.out.trans (b4.mono C3.out.size)
  obtain ⟨w4b, hw4b⟩ : ∃ w4b, w4.alloc (Obj.cells #[.slice (some ⟨N4, 0, none⟩) l.length l.length, .int .i64 bad] 26) = w4b := ⟨_, rfl⟩
  have bx4 : Below w4.heap.size w4 w4b := by rw [← hw4b]; exact (Below.refl _ _).alloc (Nat.le_refl _) _
  have BX4 : Hid (BoxW w4b w4.heap.size (.slice (some ⟨N4, 0, none⟩) l.length l.length) bad) := by rw [← hw4b]; exact BoxW.made w4 _ _
  have s4 : w4.heap.size < w4b.heap.size := by rw [← hw4b]; simp
  have bb4 := b4.trans (bx4.mono b4.size)
  have zz4 := b4.size
  have C4 := hide (c4.trans (bx4.mono c4.size))
  have N4b := hide (n4.next bx4)
  have BW4 := hide (BW3.out.next bb4)
  have YW4 := hide (YW.out.below bb4 (Nat.le_of_lt s3))
  have RW4 := hide (RW.out.below bb4 (Nat.le_of_lt s3))
  clear hw3b n4 b4 c4 bx4 bb4 BW3 YW RW C3 x0 x1
  go_wp2_with fail
  refine (HTb.out w4b C4.out).mono ?_
  rintro e w5 ⟨rfl, n5, b5, z5⟩
  have C5 := hide (C4.out.trans (b5.mono C4.out.size))
  have N5x := hide (N4b.out.next b5)
  have BX5 := hide (BX4.out.next b5)
  have BW5 := hide (BW4.out.next b5)
  have YW5 := hide (YW4.out.below b5 (by omega))
  have RW5 := hide (RW4.out.below b5 (by omega))
  have NB5 := hide n5
  obtain ⟨_, x5⟩ := BX5.out.cells
  have x5' := BX5.out.cells.1
  clear hw4b n5 b5 N4b BX4 BW4 YW4 RW4 C4
  -- the program's
  go_wp2_with fail
  obtain ⟨N4', eN, y5x⟩ := N5x.out.byt
  have eN' : N4' = N4 := by simp at eN; exact eN.symm
  subst eN'
  refine (HIm.out _ _ w5 y5x (NB5.out.byt z5) C5.out).mono ?_
  rintro e w6 ⟨hf6, b6⟩
  obtain ⟨bv, qv, qs, rfl, f6, r6, e6, p6, h86⟩ := hf6.heads H8.out
  obtain ⟨ab, cb, rfl, yb6⟩ := f6.byt
  obtain ⟨ag, cg, rfl, _⟩ := r6.rq e6
  have e6' : qs.map Prod.fst = rs := e6
  have hql : qs.length = rs.length := by have := congrArg List.length e6'; rwa [List.length_map] at this
  obtain ⟨w6b, hw6b⟩ : ∃ w6b, w6.alloc (Obj.cells #[.slice ab buf.length cb, .int .i64 bd] 26) = w6b := ⟨_, rfl⟩
  have bx6 : Below w6.heap.size w6 w6b := by rw [← hw6b]; exact (Below.refl _ _).alloc (Nat.le_refl _) _
  have BG6 : Hid (BoxW w6b w6.heap.size (.slice ab buf.length cb) bd) := by rw [← hw6b]; exact BoxW.made w6 _ _
  have s6 : w6.heap.size < w6b.heap.size := by rw [← hw6b]; simp
  have zz6 := b6.size
  have bb6 := b6.trans (bx6.mono b6.size)
  have C6 := hide (C5.out.trans (bb6.mono C5.out.size))
  have N6x := hide (N5x.out.next bb6)
  have BX6 := hide (BX5.out.next bb6)
  have BW6 := hide (BW5.out.next bb6)
  have YW6 := hide (YW5.out.below bb6 (by omega))
  have RW6 := hide (RW5.out.below bb6 (by omega))
  have NB6 := hide (NB5.out.next bb6)
  have HBv : Hid (∀ g, 0 < buf.length → (Value.slice ab buf.length cb).ownBlock = some g → g < w6.heap.size) := hide (fun g h0 hg => by
    obtain ⟨_, _, e, _, _, q3, _⟩ := f6
    cases e
    obtain ⟨g', e', _, hr'⟩ := q3 h0
    subst e'
    have e'' : g' = g := Option.some.inj hg
    subst e''
    exact hr'.1)
  have HRl : Hid (∀ g, ((Value.slice ag rs.length cg).ownBlock = some g ∨ ∃ q ∈ qs, q.2.ownBlock = some g) → g < w6.heap.size) := hide (fun g hg => (r6.lt g hg).2)
  have F6 := hide (f6.next bx6)
  have R6 := hide (r6.next bx6)
  have E6 := hide e6'
  have P6 : Hid (∀ g, 0 < buf.length → (Value.slice ab buf.length cb).ownBlock = some g → (Value.slice ag rs.length cg).ownBlock ≠ some g ∧ ∀ q ∈ qs, q.2.ownBlock ≠ some g) := hide p6
  have H86 := hide h86
  have hmk := marksQ_bd qs h86
  clear hf6 f6 r6 e6 e6' p6 h86 yb6 b6 bx6 bb6 N5x BX5 BW5 YW5 RW5 NB5 C5 x5 x5' y5x eN
  obtain ⟨x6, x6'⟩ := BG6.out.cells
  obtain ⟨y6, y6'⟩ := BW6.out.cells
  obtain ⟨ab', cb', e1, yb⟩ := F6.out.byt
  cases e1
  obtain ⟨ag', cg', e2, rg⟩ := R6.out.rq E6.out
  cases e2
  go_wp2_with fail
  refine (eqWire_same _ _ buf bd _ _ _ _ w6b yb YW6.out (Nat.le_refl _) (by omega) hbm).mono ?_
  rintro e w7 ⟨rfl, b7⟩
  have hw7 := b7.size
  have C7 := hide (C6.out.trans (b7.mono C6.out.size))
  have N7x := hide (N6x.out.next b7)
  have BX7 := hide (BX6.out.next b7)
  have BW7 := hide (BW6.out.next b7)
  have BG7 := hide (BG6.out.next b7)
  have YW7 := hide (YW6.out.below b7 (by omega))
  have RW7 := hide (RW6.out.below b7 (by omega))
  have NB7 := hide (NB6.out.next b7)
  have F7 := hide (F6.out.next b7)
  have R7 := hide (R6.out.next b7)
  have rg7 := rg.next b7
  clear hw6b b7 N6x BX6 BW6 BG6 YW6 RW6 NB6 F6 R6 C6 yb rg x6 x6' y6 y6'
  go_wp2_with fail
  refine (eqReqS_same _ _ rs _ _ _ _ w7 rg7 RW7.out (Nat.le_refl _) (by omega) hrm H8m.out).mono ?_
  rintro e w8 ⟨rfl, b8⟩
  have hw8 := b8.size
  have C8 := hide (C7.out.trans (b8.mono C7.out.size))
  have N8x := hide (N7x.out.next b8)
  have BX8 := hide (BX7.out.next b8)
  have BW8 := hide (BW7.out.next b8)
  have BG8 := hide (BG7.out.next b8)
  have YW8 := hide (YW7.out.below b8 (by omega))
  have RW8 := hide (RW7.out.below b8 (by omega))
  have NB8 := hide (NB7.out.next b8)
  have F8 := hide (F7.out.next b8)
  have R8 := hide (R7.out.next b8)
  clear b8 N7x BX7 BW7 BG7 YW7 RW7 NB7 F7 R7 C7 rg7
  have KX := hide (fun (W : World) (hb : Below w8.heap.size w8 W) => (⟨⟨(BX8.out.next hb).cells.1, (BX8.out.next hb).cells.2⟩, HX.out W (C8.out.trans (hb.mono C8.out.size))⟩ : (W.cell? ⟨w4.heap.size, 0, none⟩ = some (.slice (some ⟨N4', 0, none⟩) l.length l.length) ∧ W.cell? ⟨w4.heap.size, 1, none⟩ = some (.int .i64 bad)) ∧ W.cell? ⟨w.heap.size, 0, none⟩ = some (.slice a l.length cap) ∧ W.cell? ⟨w.heap.size, 1, none⟩ = some (.int .i64 bad)))
  have C8d := hide C8.out.drew
  have D8 := hide ((Below.refl w8.heap.size w8).drew)
  have N8d := hide (N8x.out.next D8.out)
  go_wp2_with fail
  go_region_held3 (fun W => (W.cell? ⟨w4.heap.size, 0, none⟩ = some (.slice (some ⟨N4', 0, none⟩) l.length l.length) ∧ W.cell? ⟨w4.heap.size, 1, none⟩ = some (.int .i64 bad)) ∧ W.cell? ⟨w.heap.size, 0, none⟩ = some (.slice a l.length cap) ∧ W.cell? ⟨w.heap.size, 1, none⟩ = some (.int .i64 bad)) (first | exact KX.out _ (Below.refl _ _) | exact KX.out _ D8.out | exact KX.out _ c9 | exact KX.out _ c10)
    (first
      | (go_at_call 7; refine (HTw.out w8.drew C8d.out).mono ?_; rintro e w9 ⟨⟨v9, rfl, n9⟩, b9⟩; obtain ⟨N9, rfl, y9⟩ := n9.byt; have c9 : Below w8.heap.size w8 w9 := D8.out.trans b9; obtain ⟨N8', e8, y8⟩ := (N8d.out.next b9).byt; have e8' : N8' = N4' := (by simp at e8; exact e8.symm); subst e8')
      | (go_at_call 10; refine (eqWire_same _ _ l bad _ _ _ _ w9 y8 y9 (Nat.le_refl _) (Nat.le_refl _) hlm).mono ?_; rintro e w10 ⟨rfl, b10⟩; have c10 : Below w8.heap.size w8 w10 := c9.trans (b10.mono c9.size)))
  have hw10 := c10.size
  have C10 := hide (C8.out.trans (c10.mono C8.out.size))
  have N10x := hide (N8x.out.next c10)
  have BX10 := hide (BX8.out.next c10)
  have BW10 := hide (BW8.out.next c10)
  have BG10 := hide (BG8.out.next c10)
  have YW10 := hide (YW8.out.below c10 (by omega))
  have RW10 := hide (RW8.out.below c10 (by omega))
  have NB10 := hide (NB8.out.next c10)
  have F10 := hide (F8.out.next c10)
  have R10 := hide (R8.out.next c10)
  clear N8x BX8 BW8 BG8 YW8 RW8 NB8 F8 R8 C8
  clear KX C8d D8 N8d n9 y9 y8 b9 c9 b10 c10
  go_wp2_with fail
  refine (HTb.out w10 C10.out).mono ?_
  rintro e w11 ⟨rfl, n11, b11, z11⟩
  have hw11 := b11.size
  have C11 := hide (C10.out.trans (b11.mono C10.out.size))
  have N11x := hide (N10x.out.next b11)
  have BX11 := hide (BX10.out.next b11)
  have BW11 := hide (BW10.out.next b11)
  have BG11 := hide (BG10.out.next b11)
  have YW11 := hide (YW10.out.below b11 (by omega))
  have RW11 := hide (RW10.out.below b11 (by omega))
  have NB11 := hide (NB10.out.next b11)
  have F11 := hide (F10.out.next b11)
  have R11 := hide (R10.out.next b11)
  clear N10x BX10 BW10 BG10 YW10 RW10 NB10 F10 R10 C10
  have Y11 := hide (n11.byt z11)
  clear n11 b11 z11
  go_wp2_with fail
  refine (eqByteS_any _ _ m m _ _ _ _ w11 (NB11.out.byt (World.rowIs.lt NB11.out)) Y11.out hmm hmm).mono ?_
  rintro e w12 ⟨rfl, b12⟩
  rw [sameY_refl]
  have c12 := b12 w11.heap.size
  have hw12 := c12.size
  have C12 := hide (C11.out.trans (c12.mono C11.out.size))
  have N12x := hide (N11x.out.next c12)
  have BX12 := hide (BX11.out.next c12)
  have BW12 := hide (BW11.out.next c12)
  have BG12 := hide (BG11.out.next c12)
  have YW12 := hide (YW11.out.below c12 (by omega))
  have RW12 := hide (RW11.out.below c12 (by omega))
  have NB12 := hide (NB11.out.next c12)
  have F12 := hide (F11.out.next c12)
  have R12 := hide (R11.out.next c12)
  clear N11x BX11 BW11 BG11 YW11 RW11 NB11 F11 R11 C11
  clear b12 c12 Y11
  obtain ⟨x12, x12'⟩ := BX12.out.cells
  -- what was handed in is marked
  go_wp2_with fail
  refine (markWire_new w12 w3b.heap.size w4.heap.size _ l bad N12x.out (by omega)).mono ?_
  rintro e w13 ⟨rfl, m13⟩
  have hw13 := m13.size
  have nb13 : NewB w13 w4b.heap.size m := World.rowIs.of_block NB12.out (m13.block _ (World.rowIs.lt NB12.out) (.inr (by omega)))
  have hr13 : RowC w13 w4b.heap.size m.length := ⟨World.rowIs.lt nb13, fun i hi => ⟨⟨_, World.rowIs.cell nb13 hi⟩, World.rowIs.frozen nb13 i⟩⟩
  have M13 := hide m13
  have HMb := hide (markByteS_from w4b.heap.size m.length m.length (1 + l.length) w13 hr13 (by omega) (by omega))
  obtain ⟨k1, hk1⟩ : ∃ k1 : Nat, 1 + l.length = k1 := ⟨_, rfl⟩
  rw [hk1] at HMb
  rw [hk1]
  have HK1 := hide hk1
  clear m13 nb13 hr13 hk1 x12 x12'
  go_wp2_with fail
  refine HMb.out.mono ?_
  rintro e w14 ⟨rfl, g14, _⟩
  have hw14 := g14.size
  have wi : Within w3b.heap.size w5.heap.size w12 w14 := (M13.out.wide (Nat.le_refl _) (by omega)).trans (Within.of_grown g14 (by omega) z5)
  have bw := wi.below (by omega)
  have C14 := hide (C12.out.trans (bw.mono (by have := C3s.out; omega)))
  have BW14 := hide (BW12.out.below bw s3)
  have BG14 : Hid (BoxW w14 w6.heap.size (.slice ab buf.length cb) bd) := hide ((wi.block _ BG12.out.lt (.inr (by omega))).trans BG12.out)
  have YW14 := hide (YW12.out.below bw (by omega))
  have RW14 := hide (RW12.out.below bw (by omega))
  have F14 := hide (F12.out.within wi (Nat.le_refl _))
  have R14 := hide (R12.out.within wi (Nat.le_refl _))
  obtain ⟨k2, hk2⟩ : ∃ k2 : Nat, k1 + m.length = k2 := ⟨_, rfl⟩
  rw [hk2]
  have hnn : ¬ ((k2 : Int) < 0) := by omega
  clear N12x BX12 BW12 BG12 YW12 RW12 NB12 F12 R12 C12 M13 HMb g14 wi bw hk2
  obtain ⟨x14, x14'⟩ := BG14.out.cells
  obtain ⟨y14, y14'⟩ := BW14.out.cells
  obtain ⟨ab', cb', e1, yb⟩ := F14.out.byt
  cases e1
  obtain ⟨ag', cg', e2, rg⟩ := R14.out.rq E6.out
  cases e2
  go_wp2_with fail
  refine (eqWire_same _ _ buf bd _ _ _ _ w14 yb YW14.out (Nat.le_refl _) (by omega) hbm).mono ?_
  rintro e w15 ⟨rfl, b15⟩
  have hw15 := b15.size
  have C15 := hide (C14.out.trans (b15.mono C14.out.size))
  have BW15 := hide (BW14.out.next b15)
  have BG15 := hide (BG14.out.next b15)
  have YW15 := hide (YW14.out.below b15 (by omega))
  have RW15 := hide (RW14.out.below b15 (by omega))
  have F15 := hide (F14.out.next b15)
  have R15 := hide (R14.out.next b15)
  have rg15 := rg.next b15
  clear BW14 BG14 YW14 RW14 F14 R14 C14 yb rg b15 x14 x14' y14 y14'
  go_wp2_with fail
  refine (eqReqS_same _ _ rs _ _ _ _ w15 rg15 RW15.out (Nat.le_refl _) (by omega) hrm H8m.out).mono ?_
  rintro e w16 ⟨rfl, b16⟩
  have hw16 := b16.size
  have C16 := hide (C15.out.trans (b16.mono C15.out.size))
  have BW16 := hide (BW15.out.next b16)
  have BG16 := hide (BG15.out.next b16)
  have YW16 := hide (YW15.out.below b16 (by omega))
  have RW16 := hide (RW15.out.below b16 (by omega))
  have F16 := hide (F15.out.next b16)
  have R16 := hide (R15.out.next b16)
  clear BW15 BG15 YW15 RW15 F15 R15 C15 rg15 b16
  obtain ⟨x16, x16'⟩ := BG16.out.cells
  -- what was answered is marked
  obtain ⟨K0, hK0⟩ : ∃ K0 : Nat, 1 + buf.length = K0 := ⟨_, rfl⟩
  have hKc : (1 + (buf.length : Int)) = (K0 : Int) := by omega
  have HKc := hide hKc
  have hK1 : 1 ≤ K0 := by omega
  have hK2 : K0 + marksQ qs ≤ 49000000 := by omega
  clear hKc hK0
  go_wp2_with fail
  refine (markWire_any w16 w5.heap.size _ buf bd F16.out (by omega) (by omega)).mono ?_
  rintro e w17 ⟨rfl, mk17, b17, k17⟩
  rw [HKc.out]
  have hw17 := b17.size
  have hap17 : ∀ g, ((Value.slice ag rs.length cg).ownBlock = some g ∨ ∃ q ∈ qs, q.2.ownBlock = some g) → 0 < buf.length → some g ≠ (Value.slice ab buf.length cb).ownBlock := fun g hg h0 e => by
    have hp := P6.out g h0 e.symm
    rcases hg with hg | ⟨q, hq, hg⟩
    · exact hp.1 hg
    · exact hp.2 q hq hg
  have C17 := hide (C16.out.trans (b17.mono (by have := C3s.out; omega)))
  have R17 := hide (R16.out.of (fun g hg => k17 g (R16.out.lt g hg).2 (hap17 g hg)))
  have BG17 : Hid (BoxW w17 w6.heap.size (.slice ab buf.length cb) bd) := hide ((k17 _ BG16.out.lt (fun h0 e => by have := HBv.out _ h0 e.symm; omega)).trans BG16.out)
  have BW17 := hide (BW16.out.below b17 (by omega))
  have YW17 := hide (YW16.out.below b17 (by omega))
  have RW17 := hide (RW16.out.below b17 (by omega))
  have MK17 := hide mk17
  clear BW16 BG16 YW16 RW16 F16 R16 C16 mk17 b17 k17 hap17 x16 x16'
  go_wp2_with fail
  refine (markQ w17 w5.heap.size K0 _ qs R17.out (by omega) hK1 hK2 (by omega) H86.out).mono ?_
  rintro e w18 ⟨rfl, hq18, b18, k18⟩
  have hw18 := b18.size
  obtain ⟨M0, hM0⟩ : ∃ M0 : Nat, K0 + marksQ qs = M0 := ⟨_, rfl⟩
  rw [hM0]
  have HM0 := hide hM0
  have C18 := hide (C17.out.trans (b18.mono (by have := C3s.out; omega)))
  have BG18 : Hid (BoxW w18 w6.heap.size (.slice ab buf.length cb) bd) := hide ((k18 _ BG17.out.lt (fun e => by have := HRl.out _ (.inl e); omega) (fun q hq e => by have := HRl.out _ (.inr ⟨q, hq, e⟩); omega)).trans BG17.out)
  have BW18 := hide (BW17.out.below b18 (by omega))
  have YW18 := hide (YW17.out.below b18 (by omega))
  have RW18 := hide (RW17.out.below b18 (by omega))
  have MK18 := hide (MK17.out.of hw18 (fun g hg h0 => k18 g (by have := HBv.out g h0 hg; omega) (P6.out g h0 hg).1 (P6.out g h0 hg).2))
  have HQ18 := hide hq18
  clear BW17 BG17 YW17 RW17 R17 C17 MK17 hq18 b18 k18 hM0
  obtain ⟨x18, x18'⟩ := BG18.out.cells
  have hn1 : ¬ ((K0 : Int) < 0) := by omega
  have hn2 : ¬ ((M0 : Int) < 0) := by omega
  have hn3 : ((M0 : Int) != (M0 : Int)) = false := by simp
  go_wp2_with fail
  refine (heldWire_any w18 _ buf.length bd MK18.out (by omega)).mono ?_
  rintro e w19 ⟨rfl, b19⟩
  rw [HKc.out]
  have hw19 := b19.size
  have C19 := hide (C18.out.trans (b19.mono C18.out.size))
  have BG19 := hide (BG18.out.next b19)
  have BW19 := hide (BW18.out.next b19)
  have YW19 := hide (YW18.out.below b19 (by omega))
  have RW19 := hide (RW18.out.below b19 (by omega))
  have MK19 := hide (MK18.out.next b19)
  have HQ19 := hide (HQ18.out.next b19)
  clear BG18 BW18 YW18 RW18 MK18 HQ18 C18 b19 x18 x18'
  go_wp2_with fail
  refine (heldQ w19 K0 _ qs HQ19.out hK1 hK2 (by omega) H86.out).mono ?_
  rintro e w20 ⟨rfl, b20⟩
  rw [HM0.out]
  have hw20 := b20.size
  have C20 := hide (C19.out.trans (b20.mono C19.out.size))
  have BG20 := hide (BG19.out.next b20)
  have BW20 := hide (BW19.out.next b20)
  have YW20 := hide (YW19.out.below b20 (by omega))
  have RW20 := hide (RW19.out.below b20 (by omega))
  have MK20 := hide (MK19.out.next b20)
  have HQ20 := hide (HQ19.out.next b20)
  obtain ⟨x0, x1⟩ := HX.out _ C20.out
  clear BG19 BW19 YW19 RW19 MK19 HQ19 C19 b20
  -- once more
  go_wp2_with fail
  refine (HTw.out w20 C20.out).mono ?_
  rintro e w21 ⟨⟨v21, rfl, n21⟩, b21⟩
  obtain ⟨N21, rfl, y21⟩ := n21.byt
  have hw21 := b21.size
  have C21 := hide (C20.out.trans (b21.mono C20.out.size))
  go_wp2_with fail
  refine (HTb.out w21 C21.out).mono ?_
  rintro e w22 ⟨rfl, n22, b22, z22⟩
  have hw22 := b22.size
  have C22 := hide (C21.out.trans (b22.mono C21.out.size))
  have y22 := (y21.below b22 (Nat.le_refl _)).mono b22.size
  have y22' := n22.byt z22
  have b2022 := b21.trans (b22.mono b21.size)
  have B2022 := hide b2022
  clear n21 b21 y21 n22 b22 z22 C21 b2022 x0 x1
  go_wp2_with fail
  refine (HIm.out _ _ w22 y22 y22' C22.out).mono ?_
  rintro e w23 ⟨hf23, b23⟩
  obtain ⟨bv3, qv3, qs3, rfl, f23, r23, e23, _⟩ := hf23
  obtain ⟨ab3, cb3, rfl, yb3⟩ := f23.byt
  obtain ⟨ag3, cg3, rfl, rg3⟩ := r23.rq e23
  obtain ⟨w23b, hw23b⟩ : ∃ w23b, w23.alloc (Obj.cells #[.slice ab3 buf.length cb3, .int .i64 bd] 26) = w23b := ⟨_, rfl⟩
  have bx23 : Below w23.heap.size w23 w23b := by rw [← hw23b]; exact (Below.refl _ _).alloc (Nat.le_refl _) _
  have BH23 : Hid (BoxW w23b w23.heap.size (.slice ab3 buf.length cb3) bd) := by rw [← hw23b]; exact BoxW.made w23 _ _
  have bb23 := B2022.out.trans ((b23.trans (bx23.mono b23.size)).mono B2022.out.size)
  have hw23 := bb23.size
  have C23 := hide (C20.out.trans (bb23.mono C20.out.size))
  have BG23 := hide (BG20.out.next bb23)
  have BW23 := hide (BW20.out.next bb23)
  have YW23 := hide (YW20.out.below bb23 (by omega))
  have RW23 := hide (RW20.out.below bb23 (by omega))
  have MK23 := hide (MK20.out.next bb23)
  have HQ23 := hide (HQ20.out.next bb23)
  have Y23 := hide ((yb3.below bx23 (Nat.le_refl _)).mono bx23.size)
  have G23 := hide (rg3.next bx23)
  obtain ⟨x23, x23'⟩ := BH23.out.cells
  obtain ⟨y23, y23'⟩ := BW23.out.cells
  clear BG20 BW20 YW20 RW20 MK20 HQ20 C20 C22 B2022 bb23 bx23 b23 f23 r23 e23 yb3 rg3 y22 y22'
  go_wp2_with fail
  refine (eqWire_same _ _ buf bd _ _ _ _ w23b Y23.out YW23.out (Nat.le_refl _) (by omega) hbm).mono ?_
  rintro e w24 ⟨rfl, b24⟩
  have hw24 := b24.size
  have C24 := hide (C23.out.trans (b24.mono C23.out.size))
  have BG24 := hide (BG23.out.next b24)
  have RW24 := hide (RW23.out.below b24 (by omega))
  have MK24 := hide (MK23.out.next b24)
  have HQ24 := hide (HQ23.out.next b24)
  have G24 := hide (G23.out.next b24)
  clear BG23 BW23 YW23 RW23 MK23 HQ23 C23 G23 Y23 b24 x23 x23' y23 y23' hw23b BH23
  go_wp2_with fail
  refine (eqReqS_same _ _ rs _ _ _ _ w24 G24.out RW24.out (Nat.le_refl _) (by omega) hrm H8m.out).mono ?_
  rintro e w25 ⟨rfl, b25⟩
  have C25 := hide (C24.out.trans (b25.mono C24.out.size))
  have BG25 := hide (BG24.out.next b25)
  have MK25 := hide (MK24.out.next b25)
  have HQ25 := hide (HQ24.out.next b25)
  obtain ⟨x25, x25'⟩ := BG25.out.cells
  clear BG24 RW24 MK24 HQ24 C24 G24 b25
  go_wp2_with fail
  refine (heldWire_any w25 _ buf.length bd MK25.out (by omega)).mono ?_
  rintro e w26 ⟨rfl, b26⟩
  rw [HKc.out]
  have C26 := hide (C25.out.trans (b26.mono C25.out.size))
  have HQ26 := hide (HQ25.out.next b26)
  clear MK25 HQ25 C25 BG25 b26 x25 x25'
  go_wp2_with fail
  refine (heldQ w26 K0 _ qs HQ26.out hK1 hK2 (by omega) H86.out).mono ?_
  rintro e w27 ⟨rfl, b27⟩
  rw [HM0.out]
  have c27 := BA.out.trans ((C26.out.trans (b27.mono C26.out.size)).mono BA.out.size)
  clear b27 HQ26 C26
  go_wp2
  go_ret
  exact ⟨rfl, c27⟩
end Go.Proofs.YtkhnkockdfmkgabGreatDoor
