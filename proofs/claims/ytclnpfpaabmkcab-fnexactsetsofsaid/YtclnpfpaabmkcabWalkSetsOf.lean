/-
  The walk of the law FnExactSetsOf: for every node it returns true, and turns nothing that was there.
-/
import Derived.Test.YtclnpfpaabmkcabSetsOfI
import Derived.Test.YtclnpfpaabmkcabSpecSetsOf
import Derived.Test.YtclnpfpaabmkcabToNode
import Derived.Test.YtclnpfpaabmkcabEqNode
import Derived.Test.YtclnpfpaabmkcabMarkNode
import Derived.Test.YtclnpfpaabmkcabEqSets
import Derived.Test.YtclnpfpaabmkcabHeldSets
import Derived.Test.YtclnpfpaabmkcabBoxNode
namespace Go.Proofs.Ytclnpfpaabmkcab
open Go.RowKit M
set_option linter.unusedVariables false

theorem OwnV.turnS {w w' : World} {B g n c : Nat} {ps : List Sx} {S : Nat → Prop} (h : OwnV w B (.slice (some ⟨g, 0, none⟩) n c) ps) (t : Turn S w w') (hS : ¬ S g) : OwnV w' B (.slice (some ⟨g, 0, none⟩) n c) ps := by
  have hlt := World.ownsRow.lt h g rfl
  refine ⟨h.1, ?_⟩
  rcases h.2 with ⟨e, _⟩ | ⟨g', cap, cur, e, r1, r2, r3⟩
  · cases e
  · cases e
    exact .inr ⟨g, c, cur, rfl, r1, (t.block g hlt.2 hS).trans r2, r3⟩
theorem OwnV.cellsU {w : World} {B g n c : Nat} {ps : List Sx} (h : OwnV w B (.slice (some ⟨g, 0, none⟩) n c) ps) : ∃ F, CellsU w g ps.length F := by
  have hn := h.sts.1
  subst hn
  have hlt := World.ownsRow.lt h g rfl
  refine ⟨fun o => ((sxCells ps)[o]?).getD (.bool false), hlt.2, fun o ho => ?_, fun i => World.ownsRow.frozenAt h i⟩
  have hl := sxCells_length ps
  rw [World.ownsRow.cellAt h o (by omega)]
  simp [List.getElem?_eq_getElem (show o < (sxCells ps).length by omega)]
theorem BoxN.turnS {w w' : World} {b : Nat} {a : Option Addr} {cap : Nat} {n : Nd} {S : Nat → Prop} (h : BoxN w b a cap n) (t : Turn S w w') (hS : ¬ S b) : BoxN w' b a cap n := by
  have e := t.block b h.lt hS
  have c : ∀ o, w'.cell? ⟨b, o, none⟩ = w.cell? ⟨b, o, none⟩ := fun o => by simp only [World.cell?, e]
  exact ⟨Nat.lt_of_lt_of_le h.lt t.size, (c 0).trans h.c0, (c 1).trans h.c1, (c 2).trans h.c2, (c 3).trans h.c3⟩

/-- In the midst of the law. -/
structure StO (w W : World) (n : Nd) (a : Option Addr) (cap p1 g4 gs ms cs : Nat) (L : List Sx) (k1 : List Nd) (S1 : Nat → Prop) : Prop where
  x : BoxN W w.heap.size a cap n
  b1 : BoxN W p1 (some ⟨g4, 0, none⟩) n.ks.length n
  c : Below w.heap.size w W
  o : OwnV W w.heap.size (.slice (some ⟨gs, 0, none⟩) ms cs) L
  t1 : OwnK W (some ⟨g4, 0, none⟩) k1 S1
  l1 : ∀ y, S1 y → y < W.heap.size
  e0 : ¬ S1 w.heap.size
  e1 : ¬ S1 p1
  e2 : ¬ S1 gs
  e3 : ∀ y, S1 y → w.heap.size ≤ y
theorem StO.next {w W W' : World} {n : Nd} {a : Option Addr} {cap p1 g4 gs ms cs : Nat} {L : List Sx} {k1 : List Nd} {S1 : Nat → Prop} (s : StO w W n a cap p1 g4 gs ms cs L k1 S1) (hb : Below W.heap.size W W') : StO w W' n a cap p1 g4 gs ms cs L k1 S1 :=
  ⟨s.x.next hb, s.b1.next hb, s.c.trans (hb.mono s.c.size), s.o.next hb, s.t1.stays hb s.l1, fun y hy => Nat.lt_of_lt_of_le (s.l1 y hy) hb.size, s.e0, s.e1, s.e2, s.e3⟩
theorem StO.drew {w W : World} {n : Nd} {a : Option Addr} {cap p1 g4 gs ms cs : Nat} {L : List Sx} {k1 : List Nd} {S1 : Nat → Prop} (s : StO w W n a cap p1 g4 gs ms cs L k1 S1) : StO w W.drew n a cap p1 g4 gs ms cs L k1 S1 := s.next ⟨rfl, rfl, rfl, Nat.le_refl _, fun _ _ => rfl⟩
theorem StO.mark {w W W' : World} {n : Nd} {a : Option Addr} {cap p1 g4 gs ms cs : Nat} {L : List Sx} {k1 k2 : List Nd} {S1 : Nat → Prop} (s : StO w W n a cap p1 g4 gs ms cs L k1 S1) (t : Turn S1 W W') (o : OwnK W' (some ⟨g4, 0, none⟩) k2 S1) : StO w W' n a cap p1 g4 gs ms cs L k2 S1 :=
  ⟨s.x.turnS t s.e0, s.b1.turnS t s.e1, s.c.trans ⟨t.os, t.tape, t.output, t.size, fun i hi => t.block i (Nat.lt_of_lt_of_le hi s.c.size) (fun h => by have := s.e3 i h; omega)⟩, s.o.turnS t s.e2, o, fun y hy => Nat.lt_of_lt_of_le (s.l1 y hy) t.size, s.e0, s.e1, s.e2, s.e3⟩
theorem StO.markG {w W W' : World} {n : Nd} {a : Option Addr} {cap p1 g4 gs ms cs gg : Nat} {L : List Sx} {k1 : List Nd} {S1 : Nat → Prop} (s : StO w W n a cap p1 g4 gs ms cs L k1 S1) (t : Turn (· = gg) W W') (h0 : w.heap.size < gg) (h1 : p1 ≠ gg) (h2 : gs ≠ gg) (h3 : ¬ S1 gg) : StO w W' n a cap p1 g4 gs ms cs L k1 S1 :=
  ⟨s.x.turnS t (by show ¬ _ = _; omega), s.b1.turnS t (by show ¬ _ = _; omega), s.c.trans ⟨t.os, t.tape, t.output, t.size, fun i hi => t.block i (Nat.lt_of_lt_of_le hi s.c.size) (by show ¬ _ = _; omega)⟩, s.o.turnS t (by show ¬ _ = _; omega), s.t1.keep (fun b o hb => by have e := t.block b (s.l1 b hb) (fun e => h3 (e ▸ hb)); simp only [World.cell?, e]) (fun b o hb => by have e := t.block b (s.l1 b hb) (fun e => h3 (e ▸ hb)); simp only [World.frozen?, e]), fun y hy => Nat.lt_of_lt_of_le (s.l1 y hy) t.size, s.e0, s.e1, s.e2, s.e3⟩
theorem allS_len : ∀ (r : List Nd) (acc l : List Sx), acc.length ≤ 8 → allS r acc = some l → l.length ≤ 8
  | [], acc, l, h, e => by rw [allS] at e; cases e; exact h
  | k :: r, acc, l, h, e => by
    rw [allS] at e
    split at e
    · cases e
    · split at e
      · cases e
      · rename_i ss _ h8
        exact allS_len r (acc ++ ss) l (by rw [List.length_append]; omega) e
theorem ansL_len (n : Nd) : (ansL (ofS n)).length ≤ 8 := by
  unfold ofS
  split
  · cases h : allS n.ks [] with
    | none => simp [ansL]
    | some l => exact allS_len n.ks [] l (by simp) h
  · simp [ansL]
theorem sameS_self (L : List Sx) : sameS L L = true := by unfold sameS; simp

set_option maxRecDepth 100000 in
set_option maxHeartbeats 8000000 in
theorem FnExactSetsOf_walk (a : Option Addr) (n : Nd) (cap : Nat) (hs : n.short) (w : World) (h : Nds w w.heap.size a n.ks) :
    Calls Try.prog 4 #[.agg #[.string n.ns, .string n.nm, .string n.tx, .slice a n.ks.length cap]] w fun e w' => e = .returned (.bool true) ∧ Below w.heap.size w w' := by
  have HS := hide hs
  have HB0 : Hid (Below w.heap.size w (w.alloc (Obj.cells #[.string n.ns, .string n.nm, .string n.tx, .slice a n.ks.length cap] 52))) := (Below.refl _ _).alloc (Nat.le_refl _) _
  have HX0 := hide (BoxN.made w a cap n 52)
  have HH := hide h
  clear h hs
  go_enter Try.func4, Try.ntmps4
  go_wp2_with fail
  refine (szNode_any n a cap w.heap.size 1048576 _ (HH.out.stays HB0.out (Nat.le_refl _)) (by simp) HS.out (Nat.le_refl _)).mono ?_
  rintro e w1 ⟨⟨z, rfl, hz⟩, b1⟩
  have c1 := HB0.out.trans (b1.mono HB0.out.size)
  have BX1 := hide (HX0.out.next b1)
  have x1 := BX1.out
  obtain ⟨hq1, x10, x11, x12, x13⟩ := x1
  clear b1
  rcases hz with hz | ⟨mm, rfl, hm⟩
  · go_wp2
    go_ret
    exact ⟨rfl, c1⟩
  have HN : Hid (n.szN ≤ 1048576) := (by omega : n.szN ≤ 1048576)
  clear hm
  have HNC : Hid (n.cnt ≤ 2000000) := (by have h1 := n.cnt_le; have h2 := HN.out; omega : n.cnt ≤ 2000000)
  have HLL := hide (ansL_len n)
  have HKS := hide (fun (a' : Option Addr) (c' B : Nat) (W : World) (h : Nds W B a' n.ks) (hB : B ≤ W.heap.size) => specSetsOf_any n a' c' B W h hB HN.out)
  have HKI := hide (fun (a' : Option Addr) (c' B : Nat) (W : World) (h : Nds W B a' n.ks) (hB : B ≤ W.heap.size) => setsOf_any n a' c' B W h hB HN.out)
  obtain ⟨L, hL⟩ : ∃ L, ansL (ofS n) = L := ⟨_, rfl⟩
  obtain ⟨f, hf⟩ : ∃ f, (ofS n).isSome = f := ⟨_, rfl⟩
  simp only [hL, hf] at HKS HKI HLL
  clear hL hf
  have hff : (f != f) = false := by cases f <;> rfl
  have hll : L.length ≤ maxLen := by have := HLL.out; unfold maxLen; omega
  go_wp2_with fail
  refine (toNode_any n a cap w.heap.size w1 (HH.out.stays c1 (Nat.le_refl _)) c1.size HN.out).mono ?_
  rintro e w2 ⟨⟨g2, rfl, s2⟩, b2⟩
  have c2 := c1.trans (b2.mono c1.size)
  have BX2 := hide (BX1.out.next b2)
  have S2 := hide (OwnK.nds s2 (B := w2.heap.size) (fun x hx => hx.2))
  clear x10 x11 x12 x13 b2 s2
  go_wp2_with fail
  refine (HKS.out _ _ _ w2 S2.out (Nat.le_refl _)).mono ?_
  rintro e w3 ⟨⟨gs, ms, cs, rfl, ov⟩, b3⟩
  have hms := ov.sts.1
  have hgs := World.ownsRow.lt ov gs rfl
  have OV3 := hide (ov.low (C := w.heap.size) c2.size)
  have c3 := c2.trans (b3.mono c2.size)
  have BX3 := hide (BX2.out.next b3)
  have z23 := b3.size
  have z12 : w.heap.size < w2.heap.size := BX2.out.lt
  subst hms
  clear ov b3 S2
  have x1 := BX3.out
  obtain ⟨_, x10, x11, x12, x13⟩ := x1
  go_wp2_with fail
  refine (toNode_any n a cap w.heap.size w3 (HH.out.stays c3 (Nat.le_refl _)) c3.size HN.out).mono ?_
  rintro e w4 ⟨⟨g4, rfl, t1⟩, b4⟩
  have z34 := b4.size
  have c4 := c3.trans (b4.mono c3.size)
  have bA := (Below.refl w4.heap.size w4).alloc (Nat.le_refl _) (Obj.cells #[.string n.ns, .string n.nm, .string n.tx, .slice (some ⟨g4, 0, none⟩) n.ks.length n.ks.length] 59)
  obtain ⟨p1, hp1⟩ : ∃ p, w4.heap.size = p := ⟨_, rfl⟩
  have hp2 : w4.heap.size ≤ p1 := Nat.le_of_eq hp1
  have hp3 : p1 ≤ w4.heap.size := Nat.le_of_eq hp1.symm
  have HBM := BoxN.made w4 (some ⟨g4, 0, none⟩) n.ks.length n 59
  have HST := hide (show StO w (w4.alloc (Obj.cells #[.string n.ns, .string n.nm, .string n.tx, .slice (some ⟨g4, 0, none⟩) n.ks.length n.ks.length] 59)) n a cap w4.heap.size g4 gs L.length cs L n.ks (Ivl w3.heap.size w4.heap.size) from
    ⟨(BX3.out.next b4).next bA, HBM, c4.trans (bA.mono c4.size), (OV3.out.next b4).next bA, t1.stays bA (fun x hx => hx.2), fun y hy => by have := hy.2; simp; omega, fun e => by have := e.1; have := e.2; omega, fun e => by have := e.1; have := e.2; omega, fun e => by have := e.1; have := e.2; omega, fun y hy => by have := hy.1; omega⟩)
  obtain ⟨WB, hWB⟩ : ∃ W, (w4.alloc (Obj.cells #[.string n.ns, .string n.nm, .string n.tx, .slice (some ⟨g4, 0, none⟩) n.ks.length n.ks.length] 59)) = W := ⟨_, rfl⟩
  have hzB : WB.heap.size = w4.heap.size + 1 := by rw [← hWB]; simp
  have HZB := hide hzB
  have HWB := hide hWB
  rw [hWB, hp1] at HST
  have HP1 := hide hp1
  have SL : Hid (∀ y, Ivl w3.heap.size w4.heap.size y → y < w4.heap.size) := fun y hy => hy.2
  clear hWB hzB hp1 bA HBM b4 t1 c3 c4 BX3 OV3 x10 x11 x12 x13 BX1 BX2 HX0 HB0 c1 c2
  have NB := hide (HST.out.t1.nds (B := p1) (fun x hx => hx.2))
  have x1 := HST.out.b1
  obtain ⟨_, x0, x1, x2, x3⟩ := x1
  go_wp2_with fail
  rw [HWB.out, HP1.out]
  refine (HKI.out (some ⟨g4, 0, none⟩) n.ks.length p1 WB NB.out (by have := HZB.out; omega)).mono ?_
  rintro e w5 ⟨⟨gg, mg, cg, rfl, og⟩, b5⟩
  have hmg := og.sts.1
  have hgg := World.ownsRow.lt og gg rfl
  subst hmg
  have G5 := hide (og.low (C := w.heap.size) HST.out.c.size)
  have ST5 := hide (HST.out.next b5)
  have hgB : WB.heap.size ≤ gg := hgg.1
  have hzz := HZB.out
  have q1 : w.heap.size < gg := by omega
  have q2 : p1 ≠ gg := by omega
  have q3 : gs ≠ gg := by omega
  have q4 : ¬ Ivl w3.heap.size p1 gg := fun e => by have := e.2; omega
  have HQQ := hide (And.intro q1 (And.intro q2 (And.intro q3 q4)))
  generalize Ivl w3.heap.size p1 = S1 at *
  clear og b5 HST NB x0 x1 x2 x3 HWB HP1 HZB SL hgg hgB hzz q1 q2 q3 q4 hgs z23 z34 z12 hp2 hp3
  have HE := hide (fun (W : World) (g1 g2 c1 c2 B C : Nat) (h1 : OwnV W B (.slice (some ⟨g1, 0, none⟩) L.length c1) L) (h2 : OwnV W C (.slice (some ⟨g2, 0, none⟩) L.length c2) L) => by
    have h := eqSetS_any (some ⟨g1, 0, none⟩) (some ⟨g2, 0, none⟩) L L c1 c2 W.heap.size W.heap.size W h1.sts.2.1 h2.sts.2.1 (Nat.le_refl _) (Nat.le_refl _) hll hll
    rw [sameS_self] at h
    exact h)
  go_wp2_with fail
  refine (HE.out w5 gg gs cg cs _ _ G5.out ST5.out.o).mono ?_
  rintro e w6 ⟨rfl, b6⟩
  have ST6 := hide (ST5.out.next b6)
  have G6 := hide (G5.out.next b6)
  clear b6 ST5 G5
  have K6 := hide (keepB ST6.out.b1 ST6.out.x)
  have ST6d := hide ST6.out.drew
  have G6d := hide (show OwnV w6.drew w.heap.size (.slice (some ⟨gg, 0, none⟩) L.length cg) L from G6.out)
  have c6d := ST6d.out.c
  have hqa6 := toNode_any n a cap w.heap.size w6.drew (HH.out.stays c6d (Nat.le_refl _)) c6d.size HN.out
  go_wp2
  go_region_held3 (fun W => W.cell? ⟨p1, 0, none⟩ = some (.string n.ns) ∧ W.cell? ⟨p1, 1, none⟩ = some (.string n.nm) ∧ W.cell? ⟨p1, 2, none⟩ = some (.string n.tx) ∧ W.cell? ⟨p1, 3, none⟩ = some (.slice (some ⟨g4, 0, none⟩) n.ks.length n.ks.length) ∧ W.cell? ⟨w.heap.size, 0, none⟩ = some (.string n.ns) ∧ W.cell? ⟨w.heap.size, 1, none⟩ = some (.string n.nm) ∧ W.cell? ⟨w.heap.size, 2, none⟩ = some (.string n.tx) ∧ W.cell? ⟨w.heap.size, 3, none⟩ = some (.slice a n.ks.length cap)) (first | exact K6.out | exact K7.out | exact K8.out) (first
    | (go_at_call 31; refine hqa6.mono ?_; rintro e w7 ⟨⟨g7, rfl, s7'⟩, b7⟩; have ST7 := hide (ST6d.out.next b7); have G7 := hide (G6d.out.next b7); have K7 := hide (keepB ST7.out.b1 ST7.out.x); have s7 := OwnK.nds s7' (B := w7.heap.size) (fun x hx => hx.2); have n7 := OwnK.nds ST7.out.t1 (B := w7.heap.size) ST7.out.l1)
    | (go_at_call 34; refine (eqNode_any n n _ _ _ _ _ _ w7 n7 s7 (Nat.le_refl _) (Nat.le_refl _) HS.out HS.out).mono ?_; rintro e w8 ⟨rfl, b8⟩; rw [same_refl]; have ST8 := hide (ST7.out.next b8); have G8 := hide (G7.out.next b8); have K8 := hide (keepB ST8.out.b1 ST8.out.x)))
  clear hqa6 K6 K7 K8 ST6 ST6d ST7 s7 s7' n7 b7 b8 c6d G6 G6d G7
  obtain ⟨_, u0, u1, u2, u3⟩ := ST8.out.b1
  go_wp2_with fail
  refine (markNode_any n (some ⟨g4, 0, none⟩) n.ks.length S1 w8 ST8.out.t1 ST8.out.l1 HNC.out).mono ?_
  rintro e w9 ⟨rfl, o9, t9⟩
  have ST9 := hide (ST8.out.mark t9 o9)
  have G9 := hide (G8.out.turnS t9 HQQ.out.2.2.2)
  clear u0 u1 u2 u3 o9 t9 ST8 G8
  generalize 1 + 3 * cntL n.ks = kx at *
  go_wp2_with fail
  refine (HE.out w9 gg gs cg cs _ _ G9.out ST9.out.o).mono ?_
  rintro e w10 ⟨rfl, b10⟩
  have ST10 := hide (ST9.out.next b10)
  obtain ⟨F0, hF0⟩ := (G9.out.next b10).cellsU
  have HF := hide hF0
  have hl5 : L.length ≤ 1048576 := by have := HLL.out; omega
  have hl6 : 1 + 4 * L.length ≤ 50000000 := by have := HLL.out; omega
  have HM := hide (markSetS_from gg L.length cg 1 F0 hl5 (Nat.le_refl _) hl6 w10 HF.out)
  have HHE := hide (fun W (h : MarkU W gg L.length 1) => heldSetS_from gg L.length cg 1 hl5 (Nat.le_refl _) hl6 W h)
  obtain ⟨M, hM⟩ : ∃ M, 1 + 4 * L.length = M := ⟨_, rfl⟩
  rw [hM] at HM HHE
  clear b10 ST9 G9 hF0 hM hl5 hl6
  go_wp2_with fail
  refine HM.out.mono ?_
  rintro e w11 ⟨rfl, mu, t11⟩
  have ST11 := hide (ST10.out.markG t11 HQQ.out.1 HQQ.out.2.1 HQQ.out.2.2.1 HQQ.out.2.2.2)
  have MU11 := hide mu
  clear mu t11 ST10 HM HF
  go_wp2_with fail
  refine (HHE.out w11 MU11.out).mono ?_
  rintro e w12 ⟨rfl, b12⟩
  have ST12 := hide (ST11.out.next b12)
  have MU12 := hide (show MarkU w12 gg L.length 1 from MU11.out.below b12)
  clear b12 ST11 MU11
  obtain ⟨_, u0, u1, u2, u3⟩ := ST12.out.x
  go_wp2_with fail
  refine (toNode_any n a cap w.heap.size w12 (HH.out.stays ST12.out.c (Nat.le_refl _)) ST12.out.c.size HN.out).mono ?_
  rintro e w13 ⟨⟨g13, rfl, s13⟩, b13⟩
  have ST13 := hide (ST12.out.next b13)
  have MU13 := hide (show MarkU w13 gg L.length 1 from MU12.out.below b13)
  have N13 := hide (OwnK.nds s13 (B := w13.heap.size) (fun x hx => hx.2))
  clear u0 u1 u2 u3 b13 s13 ST12 MU12
  go_wp2_with fail
  refine (HKI.out _ _ _ w13 N13.out (Nat.le_refl _)).mono ?_
  rintro e w14 ⟨⟨gh, mh, ch, rfl, oh⟩, b14⟩
  have hmh := oh.sts.1
  subst hmh
  have H14 := hide oh
  have ST14 := hide (ST13.out.next b14)
  have MU14 := hide (show MarkU w14 gg L.length 1 from MU13.out.below b14)
  clear oh b14 N13 ST13 MU13
  go_wp2_with fail
  refine (HE.out w14 gh gs ch cs _ _ H14.out ST14.out.o).mono ?_
  rintro e w15 ⟨rfl, b15⟩
  have ST15 := hide (ST14.out.next b15)
  have MU15 := hide (show MarkU w15 gg L.length 1 from MU14.out.below b15)
  clear b15 ST14 MU14
  go_wp2_with fail
  refine (HHE.out w15 MU15.out).mono ?_
  rintro e w16 ⟨rfl, b16⟩
  have ST16 := hide (ST15.out.next b16)
  clear b16 ST15
  go_wp2
  go_ret
  exact ⟨rfl, ST16.out.c⟩
end Go.Proofs.Ytclnpfpaabmkcab
