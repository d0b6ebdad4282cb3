/-
  The walk of the law FnPieces: for every code it returns true, and turns nothing that was there.
-/
import Derived.Test.YtcgmokjnjmefpaaGreatDoorSamePcs
import Derived.Test.YtcgmokjnjmefpaaGreatDoorPieces
import Derived.Test.YtcgmokjnjmefpaaGreatDoorIsRow
import Derived.Deep.RegionHeld3
namespace Go.Proofs.YtcgmokjnjmefpaaGreatDoor
open Go.RowKit M
set_option linter.unusedVariables false

/-- What stands in the course of the law: four rows of pieces, a piece in its box. -/
structure FrP (w : World) (al : Option Addr) (ps : List Pce) (ax ay az : Option Addr) (qs : List Pce) (NP : Nat) (p : Pce) (W : World) : Prop where
  l : Pcs W W.heap.size al ps
  x : Pcs W W.heap.size ax ps
  y : Pcs W W.heap.size ay qs
  z : Pcs W W.heap.size az qs
  hN : NP < W.heap.size
  box : W.cell? ⟨NP, 0, none⟩ = some (.int .i64 p.k) ∧ W.cell? ⟨NP, 1, none⟩ = some (.string p.name) ∧ W.cell? ⟨NP, 2, none⟩ = some (.string p.ns) ∧ W.cell? ⟨NP, 3, none⟩ = some (.bool p.has) ∧ W.cell? ⟨NP, 4, none⟩ = some (.string p.s)
  cw : Below w.heap.size w W
theorem FrP.next {w : World} {al : Option Addr} {ps : List Pce} {ax ay az : Option Addr} {qs : List Pce} {NP : Nat} {p : Pce} {W W' : World} (h : FrP w al ps ax ay az qs NP p W) (hb : Below W.heap.size W W') : FrP w al ps ax ay az qs NP p W' :=
  ⟨h.l.next hb, h.x.next hb, h.y.next hb, h.z.next hb, Nat.lt_of_lt_of_le h.hN hb.size,
   ⟨(hb.cell (p := ⟨NP, 0, none⟩) h.hN).trans h.box.1, (hb.cell (p := ⟨NP, 1, none⟩) h.hN).trans h.box.2.1, (hb.cell (p := ⟨NP, 2, none⟩) h.hN).trans h.box.2.2.1, (hb.cell (p := ⟨NP, 3, none⟩) h.hN).trans h.box.2.2.2.1, (hb.cell (p := ⟨NP, 4, none⟩) h.hN).trans h.box.2.2.2.2⟩,
   h.cw.trans (hb.mono h.cw.size)⟩
theorem pcsR_60 (l : List UInt8) : (pcsR l).1.length ≤ 60 := by
  unfold pcsR
  split
  · split
    · split
      · assumption
      · exact Nat.zero_le _
    · exact Nat.zero_le _
  · exact Nat.zero_le _
theorem flat_take (ps : List Pce) (k : Nat) (h : k < ps.length) : (ps.take (k + 1)).flatMap markT = (ps.take k).flatMap markT ++ markT ps[k] := by
  rw [List.take_succ_eq_append_getElem h, List.flatMap_append, List.flatMap_cons, List.flatMap_nil, List.append_nil]

set_option maxRecDepth 100000 in
set_option maxHeartbeats 4000000 in
theorem FnPieces_walk (a : Option Addr) (len cap : Nat) (zs : List Int) (w : World) (hr : IsRow .u8 w a len cap zs) (hL : laidMet Tryz.prog Rows.fnPiecesRow.laid w) :
    Calls Tryz.prog 6 #[.slice a len cap] w fun e w' => e = .returned (.bool true) ∧ Below w.heap.size w w' := by
  clear hL
  have hml := row_len hr
  by_cases hb : (1048576 : Int) < (len : Int)
  · clear hr
    go_enter Tryz.func6, Tryz.ntmps6
    go_wp2_with (go_at_call 7; refine (big_any a len cap _ hml).mono ?_; rintro e w1 ⟨rfl, hw⟩; obtain rfl := hw.symm; rw [decide_eq_true hb])
    go_ret
    exact ⟨rfl, Below.refl _ _⟩
  · have HC : Hid (CodeIn w w.heap.size a len zs) := code_of_row hr (by omega)
    clear hr
    go_enter Tryz.func6, Tryz.ntmps6
    go_wp2_with (go_at_call 7; refine (big_any a len cap _ hml).mono ?_; rintro e w1 ⟨rfl, hw⟩; obtain rfl := hw.symm; rw [decide_eq_false hb])
    refine (drawPieceList_any HC.out cap).mono ?_
    rintro e w1 ⟨⟨v, ps, rfl, o1, hG, hAll, h7⟩, b1⟩
    obtain ⟨al, cl, rfl, y1⟩ := o1.pcs
    have Y1 := hide y1
    have B1 := hide b1
    have HBack := hide (pcsR_back hG (fun p hp => (hAll p hp).2.1) (by omega))
    have HAll := hide hAll
    clear o1 y1 b1 hG hAll
    go_wp2
    go_loopw [4, 5] (fun o i wr => ∃ (k : Nat) (t : ByteArray), k ≤ ps.length ∧ i = .int .i64 k ∧ o = .string t ∧ t.size ≤ 280 * k ∧ t = bytesOf ((ps.take k).flatMap markT) ∧ Below w1.heap.size w1 wr) (fun _ i _ => ps.length - (intOf i).toNat)
    case atStart => exact ⟨0, ⟨#[]⟩, Nat.zero_le _, rfl, rfl, Nat.zero_le _, rfl, Below.refl _ _⟩
    case round =>
      obtain ⟨k, t, hk, rfl, rfl, ht, htE, hbe⟩ := hrel
      have HT := hide htE
      have HBe := hide hbe
      clear htE hbe
      by_cases hlt : k < ps.length
      · obtain ⟨b1, o1, rfl, hb1, hc1⟩ := Y1.out (by omega)
        obtain ⟨d0, d1, d2, d3, d4⟩ := hc1 k hlt
        have c1 := fun i => HBe.out.cell (p := ⟨b1, i, none⟩) hb1
        have x0 := (c1 _).trans d0
        have x1 := (c1 _).trans d1
        have x2 := (c1 _).trans d2
        have x3 := (c1 _).trans d3
        have x4 := (c1 _).trans d4
        have hp := HAll.out _ (List.getElem_mem hlt)
        have hpl := hp.len
        have HP := hide (fun W : World => pieceText_any ps[k] W hp.fits)
        have HF := hide (flat_take ps k hlt)
        have hz : (bytesOf (markT ps[k])).size ≤ 280 := by rw [bytesOf_size]; exact hpl
        have HX := hide (bytesOf_append ((ps.take k).flatMap markT) (markT ps[k]))
        obtain ⟨p, hpp⟩ : ∃ p, ps[k] = p := ⟨_, rfl⟩
        rw [hpp] at x0 x1 x2 x3 x4 HP hz HF HX
        obtain ⟨x, hx⟩ : ∃ x, bytesOf (markT p) = x := ⟨_, rfl⟩
        rw [hx] at HP hz HX
        have hq1 : ¬ (9223372036854775807 < t.size + x.size) := by omega
        have hk0 : (0 : Int) ≤ k := by omega
        have hk1 : (k : Int) < ps.length := by omega
        clear hc1 d0 d1 d2 d3 d4 c1 hp hpl hpp hx
        go_wp2_with fail
        refine (HP.out _).mono ?_
        rintro e w2 ⟨rfl, b2⟩
        have B2 := hide (HBe.out.trans (b2.mono HBe.out.size))
        clear b2 x0 x1 x2 x3 x4
        go_wp2
        go_roundw
        case rel => exact ⟨k + 1, t ++ x, by omega, by go_num, rfl, by rw [ByteArray.size_append]; omega, by rw [HF.out, HT.out]; exact HX.out, B2.out⟩
        case measure => simp [intOf]; omega
      · have hkn : k = ps.length := by omega
        have htz : t.size ≤ 2000 := by omega
        have hback := HBack.out
        have htd : t.data.toList = ps.flatMap markT := by rw [HT.out, List.take_of_length_le (by omega)]; rfl
        have HI := hide (fun W : World => pieces_any t W (by omega))
        rw [htd, hback] at HI
        clear htd hback hkn ht HT
        go_wp2_with fail
        refine (HI.out _).mono ?_
        rintro e w2 ⟨⟨vx, rfl, o2⟩, b2⟩
        obtain ⟨ax, cx, rfl, y2⟩ := o2.pcs
        have X2 := hide y2
        have L2 := hide ((Y1.out.below (HBe.out.trans (b2.mono HBe.out.size)) (Nat.le_refl _)).mono (Nat.le_trans HBe.out.size b2.size))
        have C2 := hide (B1.out.trans ((HBe.out.trans (b2.mono HBe.out.size)).mono B1.out.size))
        clear y2 o2 b2 HBe HI
        go_wp2_with fail
        refine (drawPieces_any (HC.out.below C2.out) cap).mono ?_
        rintro e w3 ⟨⟨u, rfl, hu⟩, b3⟩
        have X3 := hide (X2.out.next b3)
        have L3 := hide (L2.out.next b3)
        have C3 := hide (C2.out.trans (b3.mono C2.out.size))
        clear b3 X2 L2 C2
        have HI2 := hide (fun W : World => pieces_any u W (by omega))
        have HS2 := hide (fun W : World => specPieces_any u W (by omega))
        have h60 := pcsR_60 u.data.toList
        obtain ⟨qs, bo, hqs⟩ : ∃ qs bo, pcsR u.data.toList = (qs, bo) := ⟨_, _, rfl⟩
        rw [hqs] at HI2 HS2 h60
        have h60' : qs.length ≤ 60 := h60
        clear hqs h60
        go_wp2_with fail
        refine (HI2.out _).mono ?_
        rintro e w4 ⟨⟨vy, rfl, o4⟩, b4⟩
        obtain ⟨ay, cy, rfl, y4⟩ := o4.pcs
        have V4 := hide y4
        have X4 := hide (X3.out.next b4)
        have L4 := hide (L3.out.next b4)
        have C4 := hide (C3.out.trans (b4.mono C3.out.size))
        clear y4 o4 b4 X3 L3 C3
        go_wp2_with fail
        refine (HS2.out _).mono ?_
        rintro e w5 ⟨⟨vz, rfl, o5⟩, b5⟩
        obtain ⟨az, cz, rfl, y5⟩ := o5.pcs
        have Z5 := hide y5
        have V5 := hide (V4.out.next b5)
        have X5 := hide (X4.out.next b5)
        have L5 := hide (L4.out.next b5)
        have C5 := hide (C4.out.trans (b5.mono C4.out.size))
        clear y5 o5 b5 V4 X4 L4 C4 HI2 HS2
        go_wp2_with fail
        refine (drawPieceText_any (HC.out.below C5.out) C5.out.size cap).mono ?_
        rintro e w6 ⟨⟨p, rfl, s1, s2, s3⟩, b6⟩
        have bal : Below w6.heap.size w6 (w6.alloc (Obj.cells #[.int .i64 p.k, .string p.name, .string p.ns, .bool p.has, .string p.s] 62)) := (Below.refl _ _).alloc (Nat.le_refl _) _
        have b6' := b6.trans (bal.mono b6.size)
        have FR9 := hide (FrP.mk (w := w) (L5.out.next b6') (X5.out.next b6') (V5.out.next b6') (Z5.out.next b6') (NP := w6.heap.size) (p := p) (by simp) ⟨by simp, by simp, by simp, by simp, by simp⟩ (C5.out.trans (b6'.mono C5.out.size)))
        have HPi := hide (fun W : World => pieceText_any p W ⟨by omega, by omega, by omega⟩)
        have HPs := hide (fun W : World => specPieceText_any p W (by omega) (by omega) (by omega))
        obtain ⟨mt7, hmt⟩ : ∃ x, bytesOf (markT p) = x := ⟨_, rfl⟩
        rw [hmt] at HPi HPs
        obtain ⟨NP, hNP⟩ : ∃ NP, w6.heap.size = NP := ⟨_, rfl⟩
        obtain ⟨w9, hw9⟩ : ∃ w9, w6.alloc (Obj.cells #[.int .i64 p.k, .string p.name, .string p.ns, .bool p.has, .string p.s] 62) = w9 := ⟨_, rfl⟩
        rw [hw9, hNP] at FR9
        clear b6 b6' bal L5 X5 V5 Z5 C5 hmt
        have FRd := hide (FR9.out.next ((Below.refl _ _).drew))
        go_wp2_with fail
        clear hw9 hNP
        refine wp_region_held_drew (S := (fun W => W.cell? ⟨NP, 0, none⟩ = some (.int .i64 p.k) ∧ W.cell? ⟨NP, 1, none⟩ = some (.string p.name) ∧ W.cell? ⟨NP, 2, none⟩ = some (.string p.ns) ∧ W.cell? ⟨NP, 3, none⟩ = some (.bool p.has) ∧ W.cell? ⟨NP, 4, none⟩ = some (.string p.s))) (by kernel_rfl) FRd.out.box (fun hHeld => ?_)
        simp only [List.size_toArray, List.length_cons, List.length_nil, Nat.reduceAdd, Array.replicate_succ, Array.replicate_zero, List.push_toArray, List.nil_append, List.cons_append]
        refine wpAnyH_take (i := 0) (v := ?_) rfl (by kernel_rfl) (by kernel_rfl) (by kernel_rfl) (fun _ _ _ h => h) (Or.inl ⟨by rfl, ?_⟩) (by assumption) ?_
        rotate_left
        · intro w hSw; (try dsimp only at hSw); go_simp; try with_reducible rfl
        simp only [Act.put, List.getElem_toArray, List.getElem_cons_zero, List.setIfInBounds_toArray, List.set_cons_succ, List.set_cons_zero]
        refine wpAnyH_take (i := 1) (v := ?_) rfl (by kernel_rfl) (by kernel_rfl) (by kernel_rfl) (fun _ _ _ h => h) (Or.inl ⟨by rfl, ?_⟩) (by assumption) ?_
        rotate_left
        · intro w hSw; (try dsimp only at hSw); go_simp; try with_reducible rfl
        simp only [Act.put, List.getElem_toArray, List.getElem_cons_succ, List.getElem_cons_zero, List.setIfInBounds_toArray, List.set_cons_succ, List.set_cons_zero]
        refine wpAnyH_take (i := 2) (v := ?_) rfl (by kernel_rfl) (by kernel_rfl) (by kernel_rfl) (fun _ _ _ h => h) (Or.inl ⟨by rfl, ?_⟩) (by assumption) ?_
        rotate_left
        · intro w hSw; (try dsimp only at hSw); go_simp; try with_reducible rfl
        simp only [Act.put, List.getElem_toArray, List.getElem_cons_succ, List.getElem_cons_zero, List.setIfInBounds_toArray, List.set_cons_succ, List.set_cons_zero]
        refine wpAnyH_take (i := 3) (v := ?_) rfl (by kernel_rfl) (by kernel_rfl) (by kernel_rfl) (fun _ _ _ h => h) (Or.inl ⟨by rfl, ?_⟩) (by assumption) ?_
        rotate_left
        · intro w hSw; (try dsimp only at hSw); go_simp; try with_reducible rfl
        simp only [Act.put, List.getElem_toArray, List.getElem_cons_succ, List.getElem_cons_zero, List.setIfInBounds_toArray, List.set_cons_succ, List.set_cons_zero]
        refine wpAnyH_ready (rs := [4]) (by kernel_rfl) (by simp) ?_
        refine AllReadyH.cons rfl (fun K hK => ?_) AllReadyH.nil
        go_simp
        refine (samePieces_same ax al ps cx cl _ _ w9.drew FRd.out.x FRd.out.l (by unfold maxLen; omega)).mono ?_
        rintro e w10 ⟨rfl, n10, hw10⟩
        have FR10 := hide (FRd.out.next (hw10 ▸ below_drewC _ n10))
        clear hw10
        refine hK.out _ _ FR10.out.box (fun hHeld2 => ?_)
        clear hK K hHeld
        have hHeld := hHeld2
        clear hHeld2
        simp only [List.setIfInBounds_toArray, List.set_cons_succ, List.set_cons_zero]
        refine wpAnyH_take (i := 5) (v := ?_) rfl (by kernel_rfl) (by kernel_rfl) (by kernel_rfl) (fun _ _ _ h => h) (Or.inl ⟨by rfl, ?_⟩) (by assumption) ?_
        rotate_left
        · intro w hSw; (try dsimp only at hSw); go_simp; try with_reducible rfl
        simp only [Act.put, List.getElem_toArray, List.getElem_cons_succ, List.getElem_cons_zero, List.setIfInBounds_toArray, List.set_cons_succ, List.set_cons_zero]
        refine wpAnyH_take (i := 6) (v := ?_) rfl (by kernel_rfl) (by kernel_rfl) (by kernel_rfl) (fun _ _ _ h => h) (Or.inl ⟨by rfl, ?_⟩) (by assumption) ?_
        rotate_left
        · intro w hSw; (try dsimp only at hSw); go_simp; try with_reducible rfl
        simp only [Act.put, List.getElem_toArray, List.getElem_cons_succ, List.getElem_cons_zero, List.setIfInBounds_toArray, List.set_cons_succ, List.set_cons_zero]
        refine wpAnyH_take (i := 7) (v := ?_) rfl (by kernel_rfl) (by kernel_rfl) (by kernel_rfl) (fun _ _ _ h => h) (Or.inl ⟨by rfl, ?_⟩) (by assumption) ?_
        rotate_left
        · intro w hSw; (try dsimp only at hSw); go_simp; try with_reducible rfl
        simp only [Act.put, List.getElem_toArray, List.getElem_cons_succ, List.getElem_cons_zero, List.setIfInBounds_toArray, List.set_cons_succ, List.set_cons_zero]
        refine wpAnyH_take (i := 8) (v := ?_) rfl (by kernel_rfl) (by kernel_rfl) (by kernel_rfl) (fun _ _ _ h => h) (Or.inl ⟨by rfl, ?_⟩) (by assumption) ?_
        rotate_left
        · intro w hSw; (try dsimp only at hSw); go_simp; try with_reducible rfl
        simp only [Act.put, List.getElem_toArray, List.getElem_cons_succ, List.getElem_cons_zero, List.setIfInBounds_toArray, List.set_cons_succ, List.set_cons_zero]
        refine wpAnyH_take (i := 9) (v := ?_) rfl (by kernel_rfl) (by kernel_rfl) (by kernel_rfl) (fun _ _ _ h => h) (Or.inl ⟨by rfl, ?_⟩) (by assumption) ?_
        rotate_left
        · intro w hSw; (try dsimp only at hSw); go_simp; try with_reducible rfl
        simp only [Act.put, List.getElem_toArray, List.getElem_cons_succ, List.getElem_cons_zero, List.setIfInBounds_toArray, List.set_cons_succ, List.set_cons_zero]
        refine wpAnyH_take (i := 10) (v := ?_) rfl (by kernel_rfl) (by kernel_rfl) (by kernel_rfl) (fun _ _ _ h => h) (Or.inl ⟨by rfl, ?_⟩) (by assumption) ?_
        rotate_left
        · intro w hSw; (try dsimp only at hSw); go_simp; try with_reducible rfl
        simp only [Act.put, List.getElem_toArray, List.getElem_cons_succ, List.getElem_cons_zero, List.setIfInBounds_toArray, List.set_cons_succ, List.set_cons_zero]
        refine wpAnyH_take (i := 11) (v := ?_) rfl (by kernel_rfl) (by kernel_rfl) (by kernel_rfl) (fun _ _ _ h => h) (Or.inl ⟨by rfl, ?_⟩) (by assumption) ?_
        rotate_left
        · intro w hSw; (try dsimp only at hSw); go_simp; try with_reducible rfl
        simp only [Act.put, List.getElem_toArray, List.getElem_cons_succ, List.getElem_cons_zero, List.setIfInBounds_toArray, List.set_cons_succ, List.set_cons_zero]
        refine wpAnyH_take (i := 12) (v := ?_) rfl (by kernel_rfl) (by kernel_rfl) (by kernel_rfl) (fun _ _ _ h => h) (Or.inl ⟨by rfl, ?_⟩) (by assumption) ?_
        rotate_left
        · intro w hSw; (try dsimp only at hSw); go_simp; try with_reducible rfl
        simp only [Act.put, List.getElem_toArray, List.getElem_cons_succ, List.getElem_cons_zero, List.setIfInBounds_toArray, List.set_cons_succ, List.set_cons_zero]
        refine wpAnyH_take (i := 13) (v := ?_) rfl (by kernel_rfl) (by kernel_rfl) (by kernel_rfl) (fun _ _ _ h => h) (Or.inl ⟨by rfl, ?_⟩) (by assumption) ?_
        rotate_left
        · intro w hSw; (try dsimp only at hSw); go_simp; try with_reducible rfl
        simp only [Act.put, List.getElem_toArray, List.getElem_cons_succ, List.getElem_cons_zero, List.setIfInBounds_toArray, List.set_cons_succ, List.set_cons_zero]
        refine wpAnyH_ready (rs := [14]) (by kernel_rfl) (by simp) ?_
        refine AllReadyH.cons rfl (fun K hK => ?_) AllReadyH.nil
        go_simp
        refine (samePieces_same ay az qs cy cz _ _ w10 FR10.out.y FR10.out.z (by unfold maxLen; omega)).mono ?_
        rintro e w11 ⟨rfl, n11, hw11⟩
        have FR11 := hide (FR10.out.next (hw11 ▸ below_drewC _ n11))
        clear hw11
        refine hK.out _ _ FR11.out.box (fun hHeld2 => ?_)
        clear hK K hHeld
        have hHeld := hHeld2
        clear hHeld2
        simp only [List.setIfInBounds_toArray, List.set_cons_succ, List.set_cons_zero]
        refine wpAnyH_take (i := 15) (v := ?_) rfl (by kernel_rfl) (by kernel_rfl) (by kernel_rfl) (fun _ _ _ h => h) (Or.inl ⟨by rfl, ?_⟩) (by assumption) ?_
        rotate_left
        · intro w hSw; (try dsimp only at hSw); go_simp; try with_reducible rfl
        simp only [Act.put, List.getElem_toArray, List.getElem_cons_succ, List.getElem_cons_zero, List.setIfInBounds_toArray, List.set_cons_succ, List.set_cons_zero]
        refine wpAnyH_take (i := 16) (v := ?_) rfl (by kernel_rfl) (by kernel_rfl) (by kernel_rfl) (fun _ _ _ h => h) (Or.inl ⟨by rfl, ?_⟩) (by assumption) ?_
        rotate_left
        · intro w hSw; (try dsimp only at hSw); go_simp; try with_reducible rfl
        simp only [Act.put, List.getElem_toArray, List.getElem_cons_succ, List.getElem_cons_zero, List.setIfInBounds_toArray, List.set_cons_succ, List.set_cons_zero]
        refine wpAnyH_take (i := 17) (v := ?_) rfl (by kernel_rfl) (by kernel_rfl) (by kernel_rfl) (fun _ _ _ h => h) (Or.inl ⟨by rfl, ?_⟩) (by assumption) ?_
        rotate_left
        · intro w hSw; (try dsimp only at hSw); go_simp; try with_reducible rfl
        simp only [Act.put, List.getElem_toArray, List.getElem_cons_succ, List.getElem_cons_zero, List.setIfInBounds_toArray, List.set_cons_succ, List.set_cons_zero]
        refine wpAnyH_take (i := 19) (v := ?_) rfl (by kernel_rfl) (by kernel_rfl) (by kernel_rfl) (fun _ _ _ h => h) (Or.inl ⟨by rfl, ?_⟩) (by assumption) ?_
        rotate_left
        · intro w hSw; (try dsimp only at hSw); go_simp; try with_reducible rfl
        simp only [Act.put, List.getElem_toArray, List.getElem_cons_succ, List.getElem_cons_zero, List.setIfInBounds_toArray, List.set_cons_succ, List.set_cons_zero]
        refine wpAnyH_ready (rs := [18]) (by kernel_rfl) (by simp) ?_
        refine AllReadyH.cons rfl (fun K hK => ?_) AllReadyH.nil
        go_simp
        refine (HPi.out w11).mono ?_
        rintro e w12 ⟨rfl, b12⟩
        have FR12 := hide (FR11.out.next b12)
        clear b12
        refine hK.out _ _ FR12.out.box (fun hHeld2 => ?_)
        clear hK K hHeld
        have hHeld := hHeld2
        clear hHeld2
        simp only [List.setIfInBounds_toArray, List.set_cons_succ, List.set_cons_zero]
        refine wpAnyH_ready (rs := [20]) (by kernel_rfl) (by simp) ?_
        refine AllReadyH.cons rfl (fun K hK => ?_) AllReadyH.nil
        go_simp
        refine (HPs.out w12).mono ?_
        rintro e w13 ⟨rfl, b13⟩
        have FR13 := hide (FR12.out.next b13)
        clear b13
        refine hK.out _ _ FR13.out.box (fun hHeld2 => ?_)
        clear hK K hHeld
        have hHeld := hHeld2
        clear hHeld2
        simp only [List.setIfInBounds_toArray, List.set_cons_succ, List.set_cons_zero]
        refine wpAnyH_take (i := 21) (v := ?_) rfl (by kernel_rfl) (by kernel_rfl) (by kernel_rfl) (fun _ _ _ h => h) (Or.inl ⟨by rfl, ?_⟩) (by assumption) ?_
        rotate_left
        · intro w hSw; (try dsimp only at hSw); go_simp; try with_reducible rfl
        simp only [Act.put, List.getElem_toArray, List.getElem_cons_succ, List.getElem_cons_zero, List.setIfInBounds_toArray, List.set_cons_succ, List.set_cons_zero]
        refine wpAnyH_take (i := 22) (v := ?_) rfl (by kernel_rfl) (by kernel_rfl) (by kernel_rfl) (fun _ _ _ h => h) (Or.inl ⟨by rfl, ?_⟩) (by assumption) ?_
        rotate_left
        · intro w hSw; (try dsimp only at hSw); go_simp; try with_reducible rfl
        simp only [Act.put, List.getElem_toArray, List.getElem_cons_succ, List.getElem_cons_zero, List.setIfInBounds_toArray, List.set_cons_succ, List.set_cons_zero]
        refine wpAnyH_take (i := 23) (v := ?_) rfl (by kernel_rfl) (by kernel_rfl) (by kernel_rfl) (fun _ _ _ h => h) (Or.inl ⟨by rfl, ?_⟩) (by assumption) ?_
        rotate_left
        · intro w hSw; (try dsimp only at hSw); go_simp; try with_reducible rfl
        simp only [Act.put, List.getElem_toArray, List.getElem_cons_succ, List.getElem_cons_zero, List.setIfInBounds_toArray, List.set_cons_succ, List.set_cons_zero]
        refine wpAnyH_done (by kernel_rfl) ?_ _
        go_wp2
        go_ret
        exact ⟨by simp, FR13.out.cw⟩
end Go.Proofs.YtcgmokjnjmefpaaGreatDoor
