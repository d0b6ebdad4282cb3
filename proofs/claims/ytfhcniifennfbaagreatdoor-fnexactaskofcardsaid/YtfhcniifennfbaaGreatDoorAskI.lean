/-
  What is asked, as it is read, and its code: impl.readAsk, looksAtAsk, firstCode and AskOf.
-/
import Derived.Test.YtfhcniifennfbaaGreatDoorLooksI
namespace Go.Proofs.YtfhcniifennfbaaGreatDoor
open Go.RowKit M
set_option linter.unusedVariables false

theorem own_of_ownS {w : World} {B : Nat} {v : Value} {ns : List ByteArray} (h : OwnS w B v ns) : ∃ g, B ≤ g ∧ g < w.heap.size ∧ Own w v (.l (ns.map dS)) (IvG g (g + 1)) := by
  obtain ⟨g, cap, rfl, h1, h2, h3, h4, h5⟩ := h
  exact ⟨g, h3, h4, (own_of_rowS ⟨h4, h5⟩ h1 h2).wide (fun y hy => by subst hy; exact ⟨Nat.le_refl _, Nat.lt_succ_self _⟩)⟩
theorem own_nilG {w : World} {l u : Nat} (d : ByteArray → List Lf) : Own w (.slice none 0 0) (.l (([] : List ByteArray).map d)) (IvG l u) := .nil _
/-- What readAsk hands back: its three lists lie apart. -/
structure AskR (w : World) (B : Nat) (v0 v1 v4 : Value) (pa tl : List ByteArray) (tk : List Int) (l0 u0 l1 u1 l4 u4 : Nat) : Prop where
  o0 : Own w v0 (.l (pa.map dS)) (IvG l0 u0)
  o1 : Own w v1 (.l (tl.map dS)) (IvG l1 u1)
  o4 : Own w v4 (.l (tk.map dI)) (IvG l4 u4)
  b : B ≤ l4 ∧ l4 ≤ u4 ∧ u4 ≤ w.heap.size ∧ B ≤ l0 ∧ l0 ≤ u0 ∧ u0 ≤ l1 ∧ l1 ≤ u1 ∧ u1 ≤ w.heap.size ∧ (u4 ≤ l0 ∨ u1 ≤ l4)

def AskO (w : World) (B : Nat) (v0 v1 v4 : Value) (pa tl : List ByteArray) (tk : List Int) : Prop := ∃ l0 u0 l1 u1 l4 u4, AskR w B v0 v1 v4 pa tl tk l0 u0 l1 u1 l4 u4

set_option maxRecDepth 100000 in
set_option maxHeartbeats 8000000 in
theorem readAsk_gen (r : Rq) (h : Value) (W : World) (hh : View W W.heap.size h (.l (r.hs.map dHd))) (hr : szR (dRq r) ≤ 1048576) :
    Calls Tryz.prog 30 #[.agg #[.string r.m, .string r.p, h, .string r.b]] W fun e w' => (∃ v0 v1 v4, e = .returned (.agg #[v0, v1, .bool (decide (depI r.hs 2 = 2)), .bool (!decide ((hdOf r.hs overN).1 = tF)), v4, .int .i64 0]) ∧ AskO w' W.heap.size v0 v1 v4 (pthV r).1 (toL r) (tkL r)) ∧ Below W.heap.size W w' := by
  have HO := hide (fun W' (hb : Below W.heap.size W W') => head_gen r.hs overN h W' (hh.atI hb) (req_sz hr))
  have HI := hide (fun W' (hb : Below W.heap.size W W') => ifOf_gen r h W' (hh.atI hb) hr)
  have HD := hide (fun W' (hb : Below W.heap.size W W') => depth_gen r 2 h W' (hh.atI hb) hr)
  have HS := hide (fun W' (v : Value) (hv : View W' W'.heap.size v (.l ((ifLs (ifV r).1).map dCs))) => sub_gen (ifLs (ifV r).1) v W' hv (if_small _))
  have HP := hide (fun W' => parsePath_any r.p W' (req_p hr))
  have HF := hide (fun W' => isFar_any r.m W')
  have HT := hide (fun W' (hb : Below W.heap.size W W') => toOf_gen r h W' (hh.atI hb) hr)
  have fF := eq_tF (hdOf r.hs overN).1
  have nF : ((hdOf r.hs overN).1.toList != [70]) = !decide ((hdOf r.hs overN).1 = tF) := by rw [bne, fF]
  unfold toL pthV
  have htk : subI (ifLs (ifV r).1) = tkL r := rfl
  rw [htk] at HS
  generalize tkL r = tk at *
  generalize (hdOf r.hs overN).1 = ov at *
  generalize (hdOf r.hs overN).2 = ob at *
  generalize (ifV r).2 = ib at *
  generalize ifOkB r = iq at *
  generalize decide (ov = tF) = fz at *
  have hdd : ((depI r.hs 2) == 2) = decide (depI r.hs 2 = 2) := by
    by_cases e : depI r.hs 2 = 2
    · rw [e]; rfl
    · rw [decide_eq_false e]; exact beq_eq_false_iff_ne.2 e
  generalize decide (depI r.hs 2 = 2) = dz at *
  generalize depI r.hs 2 = dd at *
  generalize parseP r.p.data.toList = pp at *
  generalize dstV r = tt at *
  generalize farB r.m = fb at *
  have KA := hide (show Below W.heap.size W (W.alloc (Obj.cells #[.string r.m, .string r.p, h, .string r.b] 43)) from (Below.refl _ _).alloc (Nat.le_refl _) _)
  obtain ⟨w0, hw0⟩ : ∃ w', (W.alloc (Obj.cells #[.string r.m, .string r.p, h, .string r.b] 43)).alloc (Obj.cells #[.slice none 0 0, .slice none 0 0, .bool false, .bool false, .slice none 0 0, .int .i64 0] 34) = w' := ⟨_, rfl⟩
  have K0 := hide (show Below W.heap.size W w0 by rw [← hw0]; exact KA.out.alloc (by simp) _)
  have y0 : w0.heap.size = W.heap.size + 2 := by rw [← hw0]; simp
  have X_0 := hide (show BoxV w0 W.heap.size [.string r.m, .string r.p, h, .string r.b] by rw [← hw0]; exact (BoxV.made W [.string r.m, .string r.p, h, .string r.b] 43).alloc _)
  have Z_0 := hide (show BoxV w0 (W.heap.size + 1) [.slice none 0 0, .slice none 0 0, .bool false, .bool false, .slice none 0 0, .int .i64 0] by rw [← hw0]; have h := BoxV.made (W.alloc (Obj.cells #[.string r.m, .string r.p, h, .string r.b] 43)) [.slice none 0 0, .slice none 0 0, .bool false, .bool false, .slice none 0 0, .int .i64 0] 34; simpa using h)
  clear KA hh hr htk
  unfold overN at HO
  obtain ⟨pl, pb⟩ := pp
  cases pb
  · have cX2_0x := (X_0.out.2 2 _ rfl).1
    go_enter Tryz.func30, Tryz.ntmps30
    have cX2_0 := (X_0.out.2 2 _ rfl).1
    go_wp2_with fail
    refine (HO.out _ K0.out).mono ?_
    rintro e w1 ⟨rfl, b1⟩
    clear cX2_0x cX2_0 hw0
    have K1 := hide (K0.out.trans (b1.mono K0.out.size))
    have y1 := b1.size
    have X_1 := hide (X_0.out.next b1)
    have Z_1 := hide (Z_0.out.next b1)
    clear X_0 Z_0
    clear b1
    have cX0_1 := (X_1.out.2 0 _ rfl).1
    have cX1_1 := (X_1.out.2 1 _ rfl).1
    have cX2_1 := (X_1.out.2 2 _ rfl).1
    have cX3_1 := (X_1.out.2 3 _ rfl).1
    go_wp2_with fail
    refine (HI.out _ K1.out).mono ?_
    rintro e w2 ⟨⟨lv, rfl, hv⟩, b2⟩
    clear cX0_1 cX1_1 cX2_1 cX3_1
    have K2 := hide (K1.out.trans (b2.mono K1.out.size))
    have y2 := b2.size
    have X_2 := hide (X_1.out.next b2)
    have Z_2 := hide (Z_1.out.next b2)
    clear X_1 Z_1
    have V_2 := hide hv
    clear hv
    clear b2
    have cX0_2 := (X_2.out.2 0 _ rfl).1
    have cX1_2 := (X_2.out.2 1 _ rfl).1
    have cX2_2 := (X_2.out.2 2 _ rfl).1
    have cX3_2 := (X_2.out.2 3 _ rfl).1
    go_wp2_with fail
    refine (HD.out _ K2.out).mono ?_
    rintro e w3 ⟨rfl, b3⟩
    clear cX0_2 cX1_2 cX2_2 cX3_2
    have K3 := hide (K2.out.trans (b3.mono K2.out.size))
    have y3 := b3.size
    have X_3 := hide (X_2.out.next b3)
    have Z_3 := hide (Z_2.out.next b3)
    clear X_2 Z_2
    have V_3 := hide (V_2.out.atI b3)
    clear V_2
    clear b3
    go_wp2_with fail
    refine (HS.out _ lv V_3.out).mono ?_
    rintro e w4 ⟨⟨v4, rfl, ho⟩, b4⟩
    have K4 := hide (K3.out.trans (b4.mono K3.out.size))
    have y4 := b4.size
    have X_4 := hide (X_3.out.next b4)
    have Z_4 := hide (Z_3.out.next b4)
    clear X_3 Z_3
    obtain ⟨a4, q4, rfl, _⟩ := ho.rows 1 (fun _ => rfl)
    have O4_4 := hide ho
    clear ho V_3 HS
    clear b4
    obtain ⟨w5, hw5⟩ : ∃ w', w4.alloc (Obj.cells #[.slice none 0 0, .slice none 0 0, .bool false, .bool false, .slice none 0 0, .int .i64 0] 34) = w' := ⟨_, rfl⟩
    have b5 : Below w4.heap.size w4 w5 := by rw [← hw5]; exact (Below.refl _ _).alloc (Nat.le_refl _) _
    have y5 : w5.heap.size = w4.heap.size + 1 := by rw [← hw5]; simp
    have hS : BoxV w5 w4.heap.size [.slice none 0 0, .slice none 0 0, .bool false, .bool false, .slice none 0 0, .int .i64 0] := by rw [← hw5]; exact BoxV.made _ _ _
    have K5 := hide (K4.out.trans (b5.mono K4.out.size))
    have X_5 := hide (X_4.out.next b5)
    have Z_5 := hide (Z_4.out.next b5)
    have O4_5 := hide (O4_4.out.next b5)
    clear X_4 Z_4 O4_4
    have A_5 := hide hS
    clear hS b5
    obtain ⟨cA0_5, fA0_5⟩ := A_5.out.2 0 _ rfl
    obtain ⟨cA1_5, fA1_5⟩ := A_5.out.2 1 _ rfl
    obtain ⟨cA2_5, fA2_5⟩ := A_5.out.2 2 _ rfl
    obtain ⟨cA3_5, fA3_5⟩ := A_5.out.2 3 _ rfl
    obtain ⟨cA4_5, fA4_5⟩ := A_5.out.2 4 _ rfl
    obtain ⟨cA5_5, fA5_5⟩ := A_5.out.2 5 _ rfl
    obtain ⟨w6, hw6⟩ : ∃ w', ((((((w5.setCell ⟨w4.heap.size, 0, none⟩ (.slice none 0 0)).setCell ⟨w4.heap.size, 1, none⟩ (.slice none 0 0)).setCell ⟨w4.heap.size, 2, none⟩ (.bool dz)).setCell ⟨w4.heap.size, 3, none⟩ (.bool (!fz))).setCell ⟨w4.heap.size, 4, none⟩ (.slice a4 tk.length q4)).setCell ⟨w4.heap.size, 5, none⟩ (.int .i64 0)) = w' := ⟨_, rfl⟩
    have y6 : w6.heap.size = w5.heap.size := by rw [← hw6]; simp
    have K6 := hide (show Below W.heap.size W w6 by rw [← hw6]; exact ((((((K5.out).setCell (by dsimp only; omega) _).setCell (by dsimp only; omega) _).setCell (by dsimp only; omega) _).setCell (by dsimp only; omega) _).setCell (by dsimp only; omega) _).setCell (by dsimp only; omega) _)
    have X_6 := hide (show BoxV w6 (W.heap.size) _ by rw [← hw6]; exact ((((((X_5.out).other ⟨w4.heap.size, 0, none⟩ (.slice none 0 0) (by dsimp only; omega)).other ⟨w4.heap.size, 1, none⟩ (.slice none 0 0) (by dsimp only; omega)).other ⟨w4.heap.size, 2, none⟩ (.bool dz) (by dsimp only; omega)).other ⟨w4.heap.size, 3, none⟩ (.bool (!fz)) (by dsimp only; omega)).other ⟨w4.heap.size, 4, none⟩ (.slice a4 tk.length q4) (by dsimp only; omega)).other ⟨w4.heap.size, 5, none⟩ (.int .i64 0) (by dsimp only; omega))
    have Z_6 := hide (show BoxV w6 (W.heap.size + 1) _ by rw [← hw6]; exact ((((((Z_5.out).other ⟨w4.heap.size, 0, none⟩ (.slice none 0 0) (by dsimp only; omega)).other ⟨w4.heap.size, 1, none⟩ (.slice none 0 0) (by dsimp only; omega)).other ⟨w4.heap.size, 2, none⟩ (.bool dz) (by dsimp only; omega)).other ⟨w4.heap.size, 3, none⟩ (.bool (!fz)) (by dsimp only; omega)).other ⟨w4.heap.size, 4, none⟩ (.slice a4 tk.length q4) (by dsimp only; omega)).other ⟨w4.heap.size, 5, none⟩ (.int .i64 0) (by dsimp only; omega))
    have O4_6 := hide (show Own w6 _ _ _ by rw [← hw6]; exact ((((((O4_5.out).setCell ⟨w4.heap.size, 0, none⟩ (.slice none 0 0) (fun hh => by have h1 := hh.1; have h2 := hh.2; simp only at h1 h2; omega)).setCell ⟨w4.heap.size, 1, none⟩ (.slice none 0 0) (fun hh => by have h1 := hh.1; have h2 := hh.2; simp only at h1 h2; omega)).setCell ⟨w4.heap.size, 2, none⟩ (.bool dz) (fun hh => by have h1 := hh.1; have h2 := hh.2; simp only at h1 h2; omega)).setCell ⟨w4.heap.size, 3, none⟩ (.bool (!fz)) (fun hh => by have h1 := hh.1; have h2 := hh.2; simp only at h1 h2; omega)).setCell ⟨w4.heap.size, 4, none⟩ (.slice a4 tk.length q4) (fun hh => by have h1 := hh.1; have h2 := hh.2; simp only at h1 h2; omega)).setCell ⟨w4.heap.size, 5, none⟩ (.int .i64 0) (fun hh => by have h1 := hh.1; have h2 := hh.2; simp only at h1 h2; omega))
    have A_6 := hide (show BoxV w6 (w4.heap.size) [.slice none 0 0, .slice none 0 0, .bool dz, .bool (!fz), .slice a4 tk.length q4, .int .i64 0] by rw [← hw6]; exact ((((((A_5.out).set 0 (by simp) (.slice none 0 0)).set 1 (by simp) (.slice none 0 0)).set 2 (by simp) (.bool dz)).set 3 (by simp) (.bool (!fz))).set 4 (by simp) (.slice a4 tk.length q4)).set 5 (by simp) (.int .i64 0))
    clear X_5 Z_5 O4_5 A_5
    have cX1_6 := (X_6.out.2 1 _ rfl).1
    go_wp2_with fail
    refine (HP.out _).mono ?_
    rintro e w7 ⟨⟨p, rfl, ho⟩, b7⟩
    clear hw5 cA0_5 fA0_5 cA1_5 fA1_5 cA2_5 fA2_5 cA3_5 fA3_5 cA4_5 fA4_5 cA5_5 fA5_5 hw6 cX1_6
    have K7 := hide (K6.out.trans (b7.mono K6.out.size))
    have y7 := b7.size
    have X_7 := hide (X_6.out.next b7)
    have Z_7 := hide (Z_6.out.next b7)
    have O4_7 := hide (O4_6.out.next b7)
    have A_7 := hide (A_6.out.next b7)
    clear X_6 Z_6 O4_6 A_6
    obtain ⟨g0, hg1, hg2, hO⟩ := own_of_ownS ho
    obtain ⟨a0, q0, rfl, _⟩ := hO.rows 1 (fun _ => rfl)
    have OP_7 := hide hO
    clear ho hO
    clear b7
    obtain ⟨cA0_7, fA0_7⟩ := A_7.out.2 0 _ rfl
    obtain ⟨w8, hw8⟩ : ∃ w', (w7.setCell ⟨w4.heap.size, 0, none⟩ (.slice a0 pl.length q0)) = w' := ⟨_, rfl⟩
    have y8 : w8.heap.size = w7.heap.size := by rw [← hw8]; simp
    have K8 := hide (show Below W.heap.size W w8 by rw [← hw8]; exact (K7.out).setCell (by dsimp only; omega) _)
    have X_8 := hide (show BoxV w8 (W.heap.size) _ by rw [← hw8]; exact (X_7.out).other ⟨w4.heap.size, 0, none⟩ (.slice a0 pl.length q0) (by dsimp only; omega))
    have Z_8 := hide (show BoxV w8 (W.heap.size + 1) _ by rw [← hw8]; exact (Z_7.out).other ⟨w4.heap.size, 0, none⟩ (.slice a0 pl.length q0) (by dsimp only; omega))
    have O4_8 := hide (show Own w8 _ _ _ by rw [← hw8]; exact (O4_7.out).setCell ⟨w4.heap.size, 0, none⟩ (.slice a0 pl.length q0) (fun hh => by have h1 := hh.1; have h2 := hh.2; simp only at h1 h2; omega))
    have A_8 := hide (show BoxV w8 (w4.heap.size) [.slice a0 pl.length q0, .slice none 0 0, .bool dz, .bool (!fz), .slice a4 tk.length q4, .int .i64 0] by rw [← hw8]; exact (A_7.out).set 0 (by simp) (.slice a0 pl.length q0))
    have OP_8 := hide (show Own w8 _ _ _ by rw [← hw8]; exact (OP_7.out).setCell ⟨w4.heap.size, 0, none⟩ (.slice a0 pl.length q0) (fun hh => by have h1 := hh.1; have h2 := hh.2; simp only at h1 h2; omega))
    clear X_7 Z_7 O4_7 A_7 OP_7
    have cA0_8 := (A_8.out.2 0 _ rfl).1
    have cA1_8 := (A_8.out.2 1 _ rfl).1
    have cA2_8 := (A_8.out.2 2 _ rfl).1
    have cA3_8 := (A_8.out.2 3 _ rfl).1
    have cA4_8 := (A_8.out.2 4 _ rfl).1
    have cA5_8 := (A_8.out.2 5 _ rfl).1
    obtain ⟨cZ0_8, fZ0_8⟩ := Z_8.out.2 0 _ rfl
    obtain ⟨cZ1_8, fZ1_8⟩ := Z_8.out.2 1 _ rfl
    obtain ⟨cZ2_8, fZ2_8⟩ := Z_8.out.2 2 _ rfl
    obtain ⟨cZ3_8, fZ3_8⟩ := Z_8.out.2 3 _ rfl
    obtain ⟨cZ4_8, fZ4_8⟩ := Z_8.out.2 4 _ rfl
    obtain ⟨cZ5_8, fZ5_8⟩ := Z_8.out.2 5 _ rfl
    obtain ⟨w9, hw9⟩ : ∃ w', ((((((w8.setCell ⟨W.heap.size + 1, 0, none⟩ (.slice a0 pl.length q0)).setCell ⟨W.heap.size + 1, 1, none⟩ (.slice none 0 0)).setCell ⟨W.heap.size + 1, 2, none⟩ (.bool dz)).setCell ⟨W.heap.size + 1, 3, none⟩ (.bool (!fz))).setCell ⟨W.heap.size + 1, 4, none⟩ (.slice a4 tk.length q4)).setCell ⟨W.heap.size + 1, 5, none⟩ (.int .i64 0)) = w' := ⟨_, rfl⟩
    have y9 : w9.heap.size = w8.heap.size := by rw [← hw9]; simp
    have K9 := hide (show Below W.heap.size W w9 by rw [← hw9]; exact ((((((K8.out).setCell (by dsimp only; omega) _).setCell (by dsimp only; omega) _).setCell (by dsimp only; omega) _).setCell (by dsimp only; omega) _).setCell (by dsimp only; omega) _).setCell (by dsimp only; omega) _)
    have X_9 := hide (show BoxV w9 (W.heap.size) _ by rw [← hw9]; exact ((((((X_8.out).other ⟨W.heap.size + 1, 0, none⟩ (.slice a0 pl.length q0) (by dsimp only; omega)).other ⟨W.heap.size + 1, 1, none⟩ (.slice none 0 0) (by dsimp only; omega)).other ⟨W.heap.size + 1, 2, none⟩ (.bool dz) (by dsimp only; omega)).other ⟨W.heap.size + 1, 3, none⟩ (.bool (!fz)) (by dsimp only; omega)).other ⟨W.heap.size + 1, 4, none⟩ (.slice a4 tk.length q4) (by dsimp only; omega)).other ⟨W.heap.size + 1, 5, none⟩ (.int .i64 0) (by dsimp only; omega))
    have Z_9 := hide (show BoxV w9 (W.heap.size + 1) [.slice a0 pl.length q0, .slice none 0 0, .bool dz, .bool (!fz), .slice a4 tk.length q4, .int .i64 0] by rw [← hw9]; exact ((((((Z_8.out).set 0 (by simp) (.slice a0 pl.length q0)).set 1 (by simp) (.slice none 0 0)).set 2 (by simp) (.bool dz)).set 3 (by simp) (.bool (!fz))).set 4 (by simp) (.slice a4 tk.length q4)).set 5 (by simp) (.int .i64 0))
    have O4_9 := hide (show Own w9 _ _ _ by rw [← hw9]; exact ((((((O4_8.out).setCell ⟨W.heap.size + 1, 0, none⟩ (.slice a0 pl.length q0) (fun hh => by have h1 := hh.1; have h2 := hh.2; simp only at h1 h2; omega)).setCell ⟨W.heap.size + 1, 1, none⟩ (.slice none 0 0) (fun hh => by have h1 := hh.1; have h2 := hh.2; simp only at h1 h2; omega)).setCell ⟨W.heap.size + 1, 2, none⟩ (.bool dz) (fun hh => by have h1 := hh.1; have h2 := hh.2; simp only at h1 h2; omega)).setCell ⟨W.heap.size + 1, 3, none⟩ (.bool (!fz)) (fun hh => by have h1 := hh.1; have h2 := hh.2; simp only at h1 h2; omega)).setCell ⟨W.heap.size + 1, 4, none⟩ (.slice a4 tk.length q4) (fun hh => by have h1 := hh.1; have h2 := hh.2; simp only at h1 h2; omega)).setCell ⟨W.heap.size + 1, 5, none⟩ (.int .i64 0) (fun hh => by have h1 := hh.1; have h2 := hh.2; simp only at h1 h2; omega))
    have A_9 := hide (show BoxV w9 (w4.heap.size) _ by rw [← hw9]; exact ((((((A_8.out).other ⟨W.heap.size + 1, 0, none⟩ (.slice a0 pl.length q0) (by dsimp only; omega)).other ⟨W.heap.size + 1, 1, none⟩ (.slice none 0 0) (by dsimp only; omega)).other ⟨W.heap.size + 1, 2, none⟩ (.bool dz) (by dsimp only; omega)).other ⟨W.heap.size + 1, 3, none⟩ (.bool (!fz)) (by dsimp only; omega)).other ⟨W.heap.size + 1, 4, none⟩ (.slice a4 tk.length q4) (by dsimp only; omega)).other ⟨W.heap.size + 1, 5, none⟩ (.int .i64 0) (by dsimp only; omega))
    have OP_9 := hide (show Own w9 _ _ _ by rw [← hw9]; exact ((((((OP_8.out).setCell ⟨W.heap.size + 1, 0, none⟩ (.slice a0 pl.length q0) (fun hh => by have h1 := hh.1; have h2 := hh.2; simp only at h1 h2; omega)).setCell ⟨W.heap.size + 1, 1, none⟩ (.slice none 0 0) (fun hh => by have h1 := hh.1; have h2 := hh.2; simp only at h1 h2; omega)).setCell ⟨W.heap.size + 1, 2, none⟩ (.bool dz) (fun hh => by have h1 := hh.1; have h2 := hh.2; simp only at h1 h2; omega)).setCell ⟨W.heap.size + 1, 3, none⟩ (.bool (!fz)) (fun hh => by have h1 := hh.1; have h2 := hh.2; simp only at h1 h2; omega)).setCell ⟨W.heap.size + 1, 4, none⟩ (.slice a4 tk.length q4) (fun hh => by have h1 := hh.1; have h2 := hh.2; simp only at h1 h2; omega)).setCell ⟨W.heap.size + 1, 5, none⟩ (.int .i64 0) (fun hh => by have h1 := hh.1; have h2 := hh.2; simp only at h1 h2; omega))
    clear X_8 Z_8 O4_8 A_8 OP_8
    have cZ0_9 := (Z_9.out.2 0 _ rfl).1
    have cZ1_9 := (Z_9.out.2 1 _ rfl).1
    have cZ2_9 := (Z_9.out.2 2 _ rfl).1
    have cZ3_9 := (Z_9.out.2 3 _ rfl).1
    have cZ4_9 := (Z_9.out.2 4 _ rfl).1
    have cZ5_9 := (Z_9.out.2 5 _ rfl).1
    go_wp2
    refine bodyPost_ret (v := .agg #[.slice a0 pl.length q0, .slice none 0 0, .bool dz, .bool (!fz), .slice a4 tk.length q4, .int .i64 0]) (by simp [results, Tryz.results30, go_sem, cZ0_9, cZ1_9, cZ2_9, cZ3_9, cZ4_9, cZ5_9]) rfl ⟨⟨_, _, _, rfl, g0, g0 + 1, w9.heap.size, w9.heap.size, w3.heap.size, w4.heap.size, ⟨OP_9.out, ?_, O4_9.out, by omega⟩⟩, K9.out⟩
    exact own_nilG dS
  cases fb
  · have cX2_0x := (X_0.out.2 2 _ rfl).1
    go_enter Tryz.func30, Tryz.ntmps30
    have cX2_0 := (X_0.out.2 2 _ rfl).1
    go_wp2_with fail
    refine (HO.out _ K0.out).mono ?_
    rintro e w1 ⟨rfl, b1⟩
    clear cX2_0x cX2_0 hw0
    have K1 := hide (K0.out.trans (b1.mono K0.out.size))
    have y1 := b1.size
    have X_1 := hide (X_0.out.next b1)
    have Z_1 := hide (Z_0.out.next b1)
    clear X_0 Z_0
    clear b1
    have cX0_1 := (X_1.out.2 0 _ rfl).1
    have cX1_1 := (X_1.out.2 1 _ rfl).1
    have cX2_1 := (X_1.out.2 2 _ rfl).1
    have cX3_1 := (X_1.out.2 3 _ rfl).1
    go_wp2_with fail
    refine (HI.out _ K1.out).mono ?_
    rintro e w2 ⟨⟨lv, rfl, hv⟩, b2⟩
    clear cX0_1 cX1_1 cX2_1 cX3_1
    have K2 := hide (K1.out.trans (b2.mono K1.out.size))
    have y2 := b2.size
    have X_2 := hide (X_1.out.next b2)
    have Z_2 := hide (Z_1.out.next b2)
    clear X_1 Z_1
    have V_2 := hide hv
    clear hv
    clear b2
    have cX0_2 := (X_2.out.2 0 _ rfl).1
    have cX1_2 := (X_2.out.2 1 _ rfl).1
    have cX2_2 := (X_2.out.2 2 _ rfl).1
    have cX3_2 := (X_2.out.2 3 _ rfl).1
    go_wp2_with fail
    refine (HD.out _ K2.out).mono ?_
    rintro e w3 ⟨rfl, b3⟩
    clear cX0_2 cX1_2 cX2_2 cX3_2
    have K3 := hide (K2.out.trans (b3.mono K2.out.size))
    have y3 := b3.size
    have X_3 := hide (X_2.out.next b3)
    have Z_3 := hide (Z_2.out.next b3)
    clear X_2 Z_2
    have V_3 := hide (V_2.out.atI b3)
    clear V_2
    clear b3
    go_wp2_with fail
    refine (HS.out _ lv V_3.out).mono ?_
    rintro e w4 ⟨⟨v4, rfl, ho⟩, b4⟩
    have K4 := hide (K3.out.trans (b4.mono K3.out.size))
    have y4 := b4.size
    have X_4 := hide (X_3.out.next b4)
    have Z_4 := hide (Z_3.out.next b4)
    clear X_3 Z_3
    obtain ⟨a4, q4, rfl, _⟩ := ho.rows 1 (fun _ => rfl)
    have O4_4 := hide ho
    clear ho V_3 HS
    clear b4
    obtain ⟨w5, hw5⟩ : ∃ w', w4.alloc (Obj.cells #[.slice none 0 0, .slice none 0 0, .bool false, .bool false, .slice none 0 0, .int .i64 0] 34) = w' := ⟨_, rfl⟩
    have b5 : Below w4.heap.size w4 w5 := by rw [← hw5]; exact (Below.refl _ _).alloc (Nat.le_refl _) _
    have y5 : w5.heap.size = w4.heap.size + 1 := by rw [← hw5]; simp
    have hS : BoxV w5 w4.heap.size [.slice none 0 0, .slice none 0 0, .bool false, .bool false, .slice none 0 0, .int .i64 0] := by rw [← hw5]; exact BoxV.made _ _ _
    have K5 := hide (K4.out.trans (b5.mono K4.out.size))
    have X_5 := hide (X_4.out.next b5)
    have Z_5 := hide (Z_4.out.next b5)
    have O4_5 := hide (O4_4.out.next b5)
    clear X_4 Z_4 O4_4
    have A_5 := hide hS
    clear hS b5
    obtain ⟨cA0_5, fA0_5⟩ := A_5.out.2 0 _ rfl
    obtain ⟨cA1_5, fA1_5⟩ := A_5.out.2 1 _ rfl
    obtain ⟨cA2_5, fA2_5⟩ := A_5.out.2 2 _ rfl
    obtain ⟨cA3_5, fA3_5⟩ := A_5.out.2 3 _ rfl
    obtain ⟨cA4_5, fA4_5⟩ := A_5.out.2 4 _ rfl
    obtain ⟨cA5_5, fA5_5⟩ := A_5.out.2 5 _ rfl
    obtain ⟨w6, hw6⟩ : ∃ w', ((((((w5.setCell ⟨w4.heap.size, 0, none⟩ (.slice none 0 0)).setCell ⟨w4.heap.size, 1, none⟩ (.slice none 0 0)).setCell ⟨w4.heap.size, 2, none⟩ (.bool dz)).setCell ⟨w4.heap.size, 3, none⟩ (.bool (!fz))).setCell ⟨w4.heap.size, 4, none⟩ (.slice a4 tk.length q4)).setCell ⟨w4.heap.size, 5, none⟩ (.int .i64 0)) = w' := ⟨_, rfl⟩
    have y6 : w6.heap.size = w5.heap.size := by rw [← hw6]; simp
    have K6 := hide (show Below W.heap.size W w6 by rw [← hw6]; exact ((((((K5.out).setCell (by dsimp only; omega) _).setCell (by dsimp only; omega) _).setCell (by dsimp only; omega) _).setCell (by dsimp only; omega) _).setCell (by dsimp only; omega) _).setCell (by dsimp only; omega) _)
    have X_6 := hide (show BoxV w6 (W.heap.size) _ by rw [← hw6]; exact ((((((X_5.out).other ⟨w4.heap.size, 0, none⟩ (.slice none 0 0) (by dsimp only; omega)).other ⟨w4.heap.size, 1, none⟩ (.slice none 0 0) (by dsimp only; omega)).other ⟨w4.heap.size, 2, none⟩ (.bool dz) (by dsimp only; omega)).other ⟨w4.heap.size, 3, none⟩ (.bool (!fz)) (by dsimp only; omega)).other ⟨w4.heap.size, 4, none⟩ (.slice a4 tk.length q4) (by dsimp only; omega)).other ⟨w4.heap.size, 5, none⟩ (.int .i64 0) (by dsimp only; omega))
    have Z_6 := hide (show BoxV w6 (W.heap.size + 1) _ by rw [← hw6]; exact ((((((Z_5.out).other ⟨w4.heap.size, 0, none⟩ (.slice none 0 0) (by dsimp only; omega)).other ⟨w4.heap.size, 1, none⟩ (.slice none 0 0) (by dsimp only; omega)).other ⟨w4.heap.size, 2, none⟩ (.bool dz) (by dsimp only; omega)).other ⟨w4.heap.size, 3, none⟩ (.bool (!fz)) (by dsimp only; omega)).other ⟨w4.heap.size, 4, none⟩ (.slice a4 tk.length q4) (by dsimp only; omega)).other ⟨w4.heap.size, 5, none⟩ (.int .i64 0) (by dsimp only; omega))
    have O4_6 := hide (show Own w6 _ _ _ by rw [← hw6]; exact ((((((O4_5.out).setCell ⟨w4.heap.size, 0, none⟩ (.slice none 0 0) (fun hh => by have h1 := hh.1; have h2 := hh.2; simp only at h1 h2; omega)).setCell ⟨w4.heap.size, 1, none⟩ (.slice none 0 0) (fun hh => by have h1 := hh.1; have h2 := hh.2; simp only at h1 h2; omega)).setCell ⟨w4.heap.size, 2, none⟩ (.bool dz) (fun hh => by have h1 := hh.1; have h2 := hh.2; simp only at h1 h2; omega)).setCell ⟨w4.heap.size, 3, none⟩ (.bool (!fz)) (fun hh => by have h1 := hh.1; have h2 := hh.2; simp only at h1 h2; omega)).setCell ⟨w4.heap.size, 4, none⟩ (.slice a4 tk.length q4) (fun hh => by have h1 := hh.1; have h2 := hh.2; simp only at h1 h2; omega)).setCell ⟨w4.heap.size, 5, none⟩ (.int .i64 0) (fun hh => by have h1 := hh.1; have h2 := hh.2; simp only at h1 h2; omega))
    have A_6 := hide (show BoxV w6 (w4.heap.size) [.slice none 0 0, .slice none 0 0, .bool dz, .bool (!fz), .slice a4 tk.length q4, .int .i64 0] by rw [← hw6]; exact ((((((A_5.out).set 0 (by simp) (.slice none 0 0)).set 1 (by simp) (.slice none 0 0)).set 2 (by simp) (.bool dz)).set 3 (by simp) (.bool (!fz))).set 4 (by simp) (.slice a4 tk.length q4)).set 5 (by simp) (.int .i64 0))
    clear X_5 Z_5 O4_5 A_5
    have cX1_6 := (X_6.out.2 1 _ rfl).1
    go_wp2_with fail
    refine (HP.out _).mono ?_
    rintro e w7 ⟨⟨p, rfl, ho⟩, b7⟩
    clear hw5 cA0_5 fA0_5 cA1_5 fA1_5 cA2_5 fA2_5 cA3_5 fA3_5 cA4_5 fA4_5 cA5_5 fA5_5 hw6 cX1_6
    have K7 := hide (K6.out.trans (b7.mono K6.out.size))
    have y7 := b7.size
    have X_7 := hide (X_6.out.next b7)
    have Z_7 := hide (Z_6.out.next b7)
    have O4_7 := hide (O4_6.out.next b7)
    have A_7 := hide (A_6.out.next b7)
    clear X_6 Z_6 O4_6 A_6
    obtain ⟨g0, hg1, hg2, hO⟩ := own_of_ownS ho
    obtain ⟨a0, q0, rfl, _⟩ := hO.rows 1 (fun _ => rfl)
    have OP_7 := hide hO
    clear ho hO
    clear b7
    obtain ⟨cA0_7, fA0_7⟩ := A_7.out.2 0 _ rfl
    obtain ⟨w8, hw8⟩ : ∃ w', (w7.setCell ⟨w4.heap.size, 0, none⟩ (.slice a0 pl.length q0)) = w' := ⟨_, rfl⟩
    have y8 : w8.heap.size = w7.heap.size := by rw [← hw8]; simp
    have K8 := hide (show Below W.heap.size W w8 by rw [← hw8]; exact (K7.out).setCell (by dsimp only; omega) _)
    have X_8 := hide (show BoxV w8 (W.heap.size) _ by rw [← hw8]; exact (X_7.out).other ⟨w4.heap.size, 0, none⟩ (.slice a0 pl.length q0) (by dsimp only; omega))
    have Z_8 := hide (show BoxV w8 (W.heap.size + 1) _ by rw [← hw8]; exact (Z_7.out).other ⟨w4.heap.size, 0, none⟩ (.slice a0 pl.length q0) (by dsimp only; omega))
    have O4_8 := hide (show Own w8 _ _ _ by rw [← hw8]; exact (O4_7.out).setCell ⟨w4.heap.size, 0, none⟩ (.slice a0 pl.length q0) (fun hh => by have h1 := hh.1; have h2 := hh.2; simp only at h1 h2; omega))
    have A_8 := hide (show BoxV w8 (w4.heap.size) [.slice a0 pl.length q0, .slice none 0 0, .bool dz, .bool (!fz), .slice a4 tk.length q4, .int .i64 0] by rw [← hw8]; exact (A_7.out).set 0 (by simp) (.slice a0 pl.length q0))
    have OP_8 := hide (show Own w8 _ _ _ by rw [← hw8]; exact (OP_7.out).setCell ⟨w4.heap.size, 0, none⟩ (.slice a0 pl.length q0) (fun hh => by have h1 := hh.1; have h2 := hh.2; simp only at h1 h2; omega))
    clear X_7 Z_7 O4_7 A_7 OP_7
    have cX0_8 := (X_8.out.2 0 _ rfl).1
    go_wp2_with fail
    refine (HF.out _).mono ?_
    rintro e w9 ⟨rfl, b9⟩
    clear cA0_7 fA0_7 hw8 cX0_8
    have K9 := hide (K8.out.trans (b9.mono K8.out.size))
    have y9 := b9.size
    have X_9 := hide (X_8.out.next b9)
    have Z_9 := hide (Z_8.out.next b9)
    have O4_9 := hide (O4_8.out.next b9)
    have A_9 := hide (A_8.out.next b9)
    have OP_9 := hide (OP_8.out.next b9)
    clear X_8 Z_8 O4_8 A_8 OP_8
    clear b9
    have cA0_9 := (A_9.out.2 0 _ rfl).1
    have cA1_9 := (A_9.out.2 1 _ rfl).1
    have cA2_9 := (A_9.out.2 2 _ rfl).1
    have cA3_9 := (A_9.out.2 3 _ rfl).1
    have cA4_9 := (A_9.out.2 4 _ rfl).1
    have cA5_9 := (A_9.out.2 5 _ rfl).1
    obtain ⟨cZ0_9, fZ0_9⟩ := Z_9.out.2 0 _ rfl
    obtain ⟨cZ1_9, fZ1_9⟩ := Z_9.out.2 1 _ rfl
    obtain ⟨cZ2_9, fZ2_9⟩ := Z_9.out.2 2 _ rfl
    obtain ⟨cZ3_9, fZ3_9⟩ := Z_9.out.2 3 _ rfl
    obtain ⟨cZ4_9, fZ4_9⟩ := Z_9.out.2 4 _ rfl
    obtain ⟨cZ5_9, fZ5_9⟩ := Z_9.out.2 5 _ rfl
    obtain ⟨w10, hw10⟩ : ∃ w', ((((((w9.setCell ⟨W.heap.size + 1, 0, none⟩ (.slice a0 pl.length q0)).setCell ⟨W.heap.size + 1, 1, none⟩ (.slice none 0 0)).setCell ⟨W.heap.size + 1, 2, none⟩ (.bool dz)).setCell ⟨W.heap.size + 1, 3, none⟩ (.bool (!fz))).setCell ⟨W.heap.size + 1, 4, none⟩ (.slice a4 tk.length q4)).setCell ⟨W.heap.size + 1, 5, none⟩ (.int .i64 0)) = w' := ⟨_, rfl⟩
    have y10 : w10.heap.size = w9.heap.size := by rw [← hw10]; simp
    have K10 := hide (show Below W.heap.size W w10 by rw [← hw10]; exact ((((((K9.out).setCell (by dsimp only; omega) _).setCell (by dsimp only; omega) _).setCell (by dsimp only; omega) _).setCell (by dsimp only; omega) _).setCell (by dsimp only; omega) _).setCell (by dsimp only; omega) _)
    have X_10 := hide (show BoxV w10 (W.heap.size) _ by rw [← hw10]; exact ((((((X_9.out).other ⟨W.heap.size + 1, 0, none⟩ (.slice a0 pl.length q0) (by dsimp only; omega)).other ⟨W.heap.size + 1, 1, none⟩ (.slice none 0 0) (by dsimp only; omega)).other ⟨W.heap.size + 1, 2, none⟩ (.bool dz) (by dsimp only; omega)).other ⟨W.heap.size + 1, 3, none⟩ (.bool (!fz)) (by dsimp only; omega)).other ⟨W.heap.size + 1, 4, none⟩ (.slice a4 tk.length q4) (by dsimp only; omega)).other ⟨W.heap.size + 1, 5, none⟩ (.int .i64 0) (by dsimp only; omega))
    have Z_10 := hide (show BoxV w10 (W.heap.size + 1) [.slice a0 pl.length q0, .slice none 0 0, .bool dz, .bool (!fz), .slice a4 tk.length q4, .int .i64 0] by rw [← hw10]; exact ((((((Z_9.out).set 0 (by simp) (.slice a0 pl.length q0)).set 1 (by simp) (.slice none 0 0)).set 2 (by simp) (.bool dz)).set 3 (by simp) (.bool (!fz))).set 4 (by simp) (.slice a4 tk.length q4)).set 5 (by simp) (.int .i64 0))
    have O4_10 := hide (show Own w10 _ _ _ by rw [← hw10]; exact ((((((O4_9.out).setCell ⟨W.heap.size + 1, 0, none⟩ (.slice a0 pl.length q0) (fun hh => by have h1 := hh.1; have h2 := hh.2; simp only at h1 h2; omega)).setCell ⟨W.heap.size + 1, 1, none⟩ (.slice none 0 0) (fun hh => by have h1 := hh.1; have h2 := hh.2; simp only at h1 h2; omega)).setCell ⟨W.heap.size + 1, 2, none⟩ (.bool dz) (fun hh => by have h1 := hh.1; have h2 := hh.2; simp only at h1 h2; omega)).setCell ⟨W.heap.size + 1, 3, none⟩ (.bool (!fz)) (fun hh => by have h1 := hh.1; have h2 := hh.2; simp only at h1 h2; omega)).setCell ⟨W.heap.size + 1, 4, none⟩ (.slice a4 tk.length q4) (fun hh => by have h1 := hh.1; have h2 := hh.2; simp only at h1 h2; omega)).setCell ⟨W.heap.size + 1, 5, none⟩ (.int .i64 0) (fun hh => by have h1 := hh.1; have h2 := hh.2; simp only at h1 h2; omega))
    have A_10 := hide (show BoxV w10 (w4.heap.size) _ by rw [← hw10]; exact ((((((A_9.out).other ⟨W.heap.size + 1, 0, none⟩ (.slice a0 pl.length q0) (by dsimp only; omega)).other ⟨W.heap.size + 1, 1, none⟩ (.slice none 0 0) (by dsimp only; omega)).other ⟨W.heap.size + 1, 2, none⟩ (.bool dz) (by dsimp only; omega)).other ⟨W.heap.size + 1, 3, none⟩ (.bool (!fz)) (by dsimp only; omega)).other ⟨W.heap.size + 1, 4, none⟩ (.slice a4 tk.length q4) (by dsimp only; omega)).other ⟨W.heap.size + 1, 5, none⟩ (.int .i64 0) (by dsimp only; omega))
    have OP_10 := hide (show Own w10 _ _ _ by rw [← hw10]; exact ((((((OP_9.out).setCell ⟨W.heap.size + 1, 0, none⟩ (.slice a0 pl.length q0) (fun hh => by have h1 := hh.1; have h2 := hh.2; simp only at h1 h2; omega)).setCell ⟨W.heap.size + 1, 1, none⟩ (.slice none 0 0) (fun hh => by have h1 := hh.1; have h2 := hh.2; simp only at h1 h2; omega)).setCell ⟨W.heap.size + 1, 2, none⟩ (.bool dz) (fun hh => by have h1 := hh.1; have h2 := hh.2; simp only at h1 h2; omega)).setCell ⟨W.heap.size + 1, 3, none⟩ (.bool (!fz)) (fun hh => by have h1 := hh.1; have h2 := hh.2; simp only at h1 h2; omega)).setCell ⟨W.heap.size + 1, 4, none⟩ (.slice a4 tk.length q4) (fun hh => by have h1 := hh.1; have h2 := hh.2; simp only at h1 h2; omega)).setCell ⟨W.heap.size + 1, 5, none⟩ (.int .i64 0) (fun hh => by have h1 := hh.1; have h2 := hh.2; simp only at h1 h2; omega))
    clear X_9 Z_9 O4_9 A_9 OP_9
    have cZ0_10 := (Z_10.out.2 0 _ rfl).1
    have cZ1_10 := (Z_10.out.2 1 _ rfl).1
    have cZ2_10 := (Z_10.out.2 2 _ rfl).1
    have cZ3_10 := (Z_10.out.2 3 _ rfl).1
    have cZ4_10 := (Z_10.out.2 4 _ rfl).1
    have cZ5_10 := (Z_10.out.2 5 _ rfl).1
    go_wp2
    refine bodyPost_ret (v := .agg #[.slice a0 pl.length q0, .slice none 0 0, .bool dz, .bool (!fz), .slice a4 tk.length q4, .int .i64 0]) (by simp [results, Tryz.results30, go_sem, cZ0_10, cZ1_10, cZ2_10, cZ3_10, cZ4_10, cZ5_10]) rfl ⟨⟨_, _, _, rfl, g0, g0 + 1, w10.heap.size, w10.heap.size, w3.heap.size, w4.heap.size, ⟨OP_10.out, ?_, O4_10.out, by omega⟩⟩, K10.out⟩
    exact own_nilG dS
  · have cX2_0x := (X_0.out.2 2 _ rfl).1
    go_enter Tryz.func30, Tryz.ntmps30
    have cX2_0 := (X_0.out.2 2 _ rfl).1
    go_wp2_with fail
    refine (HO.out _ K0.out).mono ?_
    rintro e w1 ⟨rfl, b1⟩
    clear cX2_0x cX2_0 hw0
    have K1 := hide (K0.out.trans (b1.mono K0.out.size))
    have y1 := b1.size
    have X_1 := hide (X_0.out.next b1)
    have Z_1 := hide (Z_0.out.next b1)
    clear X_0 Z_0
    clear b1
    have cX0_1 := (X_1.out.2 0 _ rfl).1
    have cX1_1 := (X_1.out.2 1 _ rfl).1
    have cX2_1 := (X_1.out.2 2 _ rfl).1
    have cX3_1 := (X_1.out.2 3 _ rfl).1
    go_wp2_with fail
    refine (HI.out _ K1.out).mono ?_
    rintro e w2 ⟨⟨lv, rfl, hv⟩, b2⟩
    clear cX0_1 cX1_1 cX2_1 cX3_1
    have K2 := hide (K1.out.trans (b2.mono K1.out.size))
    have y2 := b2.size
    have X_2 := hide (X_1.out.next b2)
    have Z_2 := hide (Z_1.out.next b2)
    clear X_1 Z_1
    have V_2 := hide hv
    clear hv
    clear b2
    have cX0_2 := (X_2.out.2 0 _ rfl).1
    have cX1_2 := (X_2.out.2 1 _ rfl).1
    have cX2_2 := (X_2.out.2 2 _ rfl).1
    have cX3_2 := (X_2.out.2 3 _ rfl).1
    go_wp2_with fail
    refine (HD.out _ K2.out).mono ?_
    rintro e w3 ⟨rfl, b3⟩
    clear cX0_2 cX1_2 cX2_2 cX3_2
    have K3 := hide (K2.out.trans (b3.mono K2.out.size))
    have y3 := b3.size
    have X_3 := hide (X_2.out.next b3)
    have Z_3 := hide (Z_2.out.next b3)
    clear X_2 Z_2
    have V_3 := hide (V_2.out.atI b3)
    clear V_2
    clear b3
    go_wp2_with fail
    refine (HS.out _ lv V_3.out).mono ?_
    rintro e w4 ⟨⟨v4, rfl, ho⟩, b4⟩
    have K4 := hide (K3.out.trans (b4.mono K3.out.size))
    have y4 := b4.size
    have X_4 := hide (X_3.out.next b4)
    have Z_4 := hide (Z_3.out.next b4)
    clear X_3 Z_3
    obtain ⟨a4, q4, rfl, _⟩ := ho.rows 1 (fun _ => rfl)
    have O4_4 := hide ho
    clear ho V_3 HS
    clear b4
    obtain ⟨w5, hw5⟩ : ∃ w', w4.alloc (Obj.cells #[.slice none 0 0, .slice none 0 0, .bool false, .bool false, .slice none 0 0, .int .i64 0] 34) = w' := ⟨_, rfl⟩
    have b5 : Below w4.heap.size w4 w5 := by rw [← hw5]; exact (Below.refl _ _).alloc (Nat.le_refl _) _
    have y5 : w5.heap.size = w4.heap.size + 1 := by rw [← hw5]; simp
    have hS : BoxV w5 w4.heap.size [.slice none 0 0, .slice none 0 0, .bool false, .bool false, .slice none 0 0, .int .i64 0] := by rw [← hw5]; exact BoxV.made _ _ _
    have K5 := hide (K4.out.trans (b5.mono K4.out.size))
    have X_5 := hide (X_4.out.next b5)
    have Z_5 := hide (Z_4.out.next b5)
    have O4_5 := hide (O4_4.out.next b5)
    clear X_4 Z_4 O4_4
    have A_5 := hide hS
    clear hS b5
    obtain ⟨cA0_5, fA0_5⟩ := A_5.out.2 0 _ rfl
    obtain ⟨cA1_5, fA1_5⟩ := A_5.out.2 1 _ rfl
    obtain ⟨cA2_5, fA2_5⟩ := A_5.out.2 2 _ rfl
    obtain ⟨cA3_5, fA3_5⟩ := A_5.out.2 3 _ rfl
    obtain ⟨cA4_5, fA4_5⟩ := A_5.out.2 4 _ rfl
    obtain ⟨cA5_5, fA5_5⟩ := A_5.out.2 5 _ rfl
    obtain ⟨w6, hw6⟩ : ∃ w', ((((((w5.setCell ⟨w4.heap.size, 0, none⟩ (.slice none 0 0)).setCell ⟨w4.heap.size, 1, none⟩ (.slice none 0 0)).setCell ⟨w4.heap.size, 2, none⟩ (.bool dz)).setCell ⟨w4.heap.size, 3, none⟩ (.bool (!fz))).setCell ⟨w4.heap.size, 4, none⟩ (.slice a4 tk.length q4)).setCell ⟨w4.heap.size, 5, none⟩ (.int .i64 0)) = w' := ⟨_, rfl⟩
    have y6 : w6.heap.size = w5.heap.size := by rw [← hw6]; simp
    have K6 := hide (show Below W.heap.size W w6 by rw [← hw6]; exact ((((((K5.out).setCell (by dsimp only; omega) _).setCell (by dsimp only; omega) _).setCell (by dsimp only; omega) _).setCell (by dsimp only; omega) _).setCell (by dsimp only; omega) _).setCell (by dsimp only; omega) _)
    have X_6 := hide (show BoxV w6 (W.heap.size) _ by rw [← hw6]; exact ((((((X_5.out).other ⟨w4.heap.size, 0, none⟩ (.slice none 0 0) (by dsimp only; omega)).other ⟨w4.heap.size, 1, none⟩ (.slice none 0 0) (by dsimp only; omega)).other ⟨w4.heap.size, 2, none⟩ (.bool dz) (by dsimp only; omega)).other ⟨w4.heap.size, 3, none⟩ (.bool (!fz)) (by dsimp only; omega)).other ⟨w4.heap.size, 4, none⟩ (.slice a4 tk.length q4) (by dsimp only; omega)).other ⟨w4.heap.size, 5, none⟩ (.int .i64 0) (by dsimp only; omega))
    have Z_6 := hide (show BoxV w6 (W.heap.size + 1) _ by rw [← hw6]; exact ((((((Z_5.out).other ⟨w4.heap.size, 0, none⟩ (.slice none 0 0) (by dsimp only; omega)).other ⟨w4.heap.size, 1, none⟩ (.slice none 0 0) (by dsimp only; omega)).other ⟨w4.heap.size, 2, none⟩ (.bool dz) (by dsimp only; omega)).other ⟨w4.heap.size, 3, none⟩ (.bool (!fz)) (by dsimp only; omega)).other ⟨w4.heap.size, 4, none⟩ (.slice a4 tk.length q4) (by dsimp only; omega)).other ⟨w4.heap.size, 5, none⟩ (.int .i64 0) (by dsimp only; omega))
    have O4_6 := hide (show Own w6 _ _ _ by rw [← hw6]; exact ((((((O4_5.out).setCell ⟨w4.heap.size, 0, none⟩ (.slice none 0 0) (fun hh => by have h1 := hh.1; have h2 := hh.2; simp only at h1 h2; omega)).setCell ⟨w4.heap.size, 1, none⟩ (.slice none 0 0) (fun hh => by have h1 := hh.1; have h2 := hh.2; simp only at h1 h2; omega)).setCell ⟨w4.heap.size, 2, none⟩ (.bool dz) (fun hh => by have h1 := hh.1; have h2 := hh.2; simp only at h1 h2; omega)).setCell ⟨w4.heap.size, 3, none⟩ (.bool (!fz)) (fun hh => by have h1 := hh.1; have h2 := hh.2; simp only at h1 h2; omega)).setCell ⟨w4.heap.size, 4, none⟩ (.slice a4 tk.length q4) (fun hh => by have h1 := hh.1; have h2 := hh.2; simp only at h1 h2; omega)).setCell ⟨w4.heap.size, 5, none⟩ (.int .i64 0) (fun hh => by have h1 := hh.1; have h2 := hh.2; simp only at h1 h2; omega))
    have A_6 := hide (show BoxV w6 (w4.heap.size) [.slice none 0 0, .slice none 0 0, .bool dz, .bool (!fz), .slice a4 tk.length q4, .int .i64 0] by rw [← hw6]; exact ((((((A_5.out).set 0 (by simp) (.slice none 0 0)).set 1 (by simp) (.slice none 0 0)).set 2 (by simp) (.bool dz)).set 3 (by simp) (.bool (!fz))).set 4 (by simp) (.slice a4 tk.length q4)).set 5 (by simp) (.int .i64 0))
    clear X_5 Z_5 O4_5 A_5
    have cX1_6 := (X_6.out.2 1 _ rfl).1
    go_wp2_with fail
    refine (HP.out _).mono ?_
    rintro e w7 ⟨⟨p, rfl, ho⟩, b7⟩
    clear hw5 cA0_5 fA0_5 cA1_5 fA1_5 cA2_5 fA2_5 cA3_5 fA3_5 cA4_5 fA4_5 cA5_5 fA5_5 hw6 cX1_6
    have K7 := hide (K6.out.trans (b7.mono K6.out.size))
    have y7 := b7.size
    have X_7 := hide (X_6.out.next b7)
    have Z_7 := hide (Z_6.out.next b7)
    have O4_7 := hide (O4_6.out.next b7)
    have A_7 := hide (A_6.out.next b7)
    clear X_6 Z_6 O4_6 A_6
    obtain ⟨g0, hg1, hg2, hO⟩ := own_of_ownS ho
    obtain ⟨a0, q0, rfl, _⟩ := hO.rows 1 (fun _ => rfl)
    have OP_7 := hide hO
    clear ho hO
    clear b7
    obtain ⟨cA0_7, fA0_7⟩ := A_7.out.2 0 _ rfl
    obtain ⟨w8, hw8⟩ : ∃ w', (w7.setCell ⟨w4.heap.size, 0, none⟩ (.slice a0 pl.length q0)) = w' := ⟨_, rfl⟩
    have y8 : w8.heap.size = w7.heap.size := by rw [← hw8]; simp
    have K8 := hide (show Below W.heap.size W w8 by rw [← hw8]; exact (K7.out).setCell (by dsimp only; omega) _)
    have X_8 := hide (show BoxV w8 (W.heap.size) _ by rw [← hw8]; exact (X_7.out).other ⟨w4.heap.size, 0, none⟩ (.slice a0 pl.length q0) (by dsimp only; omega))
    have Z_8 := hide (show BoxV w8 (W.heap.size + 1) _ by rw [← hw8]; exact (Z_7.out).other ⟨w4.heap.size, 0, none⟩ (.slice a0 pl.length q0) (by dsimp only; omega))
    have O4_8 := hide (show Own w8 _ _ _ by rw [← hw8]; exact (O4_7.out).setCell ⟨w4.heap.size, 0, none⟩ (.slice a0 pl.length q0) (fun hh => by have h1 := hh.1; have h2 := hh.2; simp only at h1 h2; omega))
    have A_8 := hide (show BoxV w8 (w4.heap.size) [.slice a0 pl.length q0, .slice none 0 0, .bool dz, .bool (!fz), .slice a4 tk.length q4, .int .i64 0] by rw [← hw8]; exact (A_7.out).set 0 (by simp) (.slice a0 pl.length q0))
    have OP_8 := hide (show Own w8 _ _ _ by rw [← hw8]; exact (OP_7.out).setCell ⟨w4.heap.size, 0, none⟩ (.slice a0 pl.length q0) (fun hh => by have h1 := hh.1; have h2 := hh.2; simp only at h1 h2; omega))
    clear X_7 Z_7 O4_7 A_7 OP_7
    have cX0_8 := (X_8.out.2 0 _ rfl).1
    go_wp2_with fail
    refine (HF.out _).mono ?_
    rintro e w9 ⟨rfl, b9⟩
    clear cA0_7 fA0_7 hw8 cX0_8
    have K9 := hide (K8.out.trans (b9.mono K8.out.size))
    have y9 := b9.size
    have X_9 := hide (X_8.out.next b9)
    have Z_9 := hide (Z_8.out.next b9)
    have O4_9 := hide (O4_8.out.next b9)
    have A_9 := hide (A_8.out.next b9)
    have OP_9 := hide (OP_8.out.next b9)
    clear X_8 Z_8 O4_8 A_8 OP_8
    clear b9
    have cX0_9 := (X_9.out.2 0 _ rfl).1
    have cX1_9 := (X_9.out.2 1 _ rfl).1
    have cX2_9 := (X_9.out.2 2 _ rfl).1
    have cX3_9 := (X_9.out.2 3 _ rfl).1
    go_wp2_with fail
    refine (HT.out _ K9.out).mono ?_
    rintro e w10 ⟨⟨q, rfl, ho⟩, b10⟩
    clear cX0_9 cX1_9 cX2_9 cX3_9
    have K10 := hide (K9.out.trans (b10.mono K9.out.size))
    have y10 := b10.size
    have X_10 := hide (X_9.out.next b10)
    have Z_10 := hide (Z_9.out.next b10)
    have O4_10 := hide (O4_9.out.next b10)
    have A_10 := hide (A_9.out.next b10)
    have OP_10 := hide (OP_9.out.next b10)
    clear X_9 Z_9 O4_9 A_9 OP_9
    obtain ⟨g1, hg3, hg4, hO⟩ := own_of_ownS ho
    obtain ⟨a1, q1, rfl, _⟩ := hO.rows 1 (fun _ => rfl)
    have OV_10 := hide hO
    clear ho hO
    clear b10
    obtain ⟨cA1_10, fA1_10⟩ := A_10.out.2 1 _ rfl
    obtain ⟨w11, hw11⟩ : ∃ w', (w10.setCell ⟨w4.heap.size, 1, none⟩ (.slice a1 tt.1.length q1)) = w' := ⟨_, rfl⟩
    have y11 : w11.heap.size = w10.heap.size := by rw [← hw11]; simp
    have K11 := hide (show Below W.heap.size W w11 by rw [← hw11]; exact (K10.out).setCell (by dsimp only; omega) _)
    have X_11 := hide (show BoxV w11 (W.heap.size) _ by rw [← hw11]; exact (X_10.out).other ⟨w4.heap.size, 1, none⟩ (.slice a1 tt.1.length q1) (by dsimp only; omega))
    have Z_11 := hide (show BoxV w11 (W.heap.size + 1) _ by rw [← hw11]; exact (Z_10.out).other ⟨w4.heap.size, 1, none⟩ (.slice a1 tt.1.length q1) (by dsimp only; omega))
    have O4_11 := hide (show Own w11 _ _ _ by rw [← hw11]; exact (O4_10.out).setCell ⟨w4.heap.size, 1, none⟩ (.slice a1 tt.1.length q1) (fun hh => by have h1 := hh.1; have h2 := hh.2; simp only at h1 h2; omega))
    have A_11 := hide (show BoxV w11 (w4.heap.size) [.slice a0 pl.length q0, .slice a1 tt.1.length q1, .bool dz, .bool (!fz), .slice a4 tk.length q4, .int .i64 0] by rw [← hw11]; exact (A_10.out).set 1 (by simp) (.slice a1 tt.1.length q1))
    have OP_11 := hide (show Own w11 _ _ _ by rw [← hw11]; exact (OP_10.out).setCell ⟨w4.heap.size, 1, none⟩ (.slice a1 tt.1.length q1) (fun hh => by have h1 := hh.1; have h2 := hh.2; simp only at h1 h2; omega))
    have OV_11 := hide (show Own w11 _ _ _ by rw [← hw11]; exact (OV_10.out).setCell ⟨w4.heap.size, 1, none⟩ (.slice a1 tt.1.length q1) (fun hh => by have h1 := hh.1; have h2 := hh.2; simp only at h1 h2; omega))
    clear X_10 Z_10 O4_10 A_10 OP_10 OV_10
    have cA0_11 := (A_11.out.2 0 _ rfl).1
    have cA1_11 := (A_11.out.2 1 _ rfl).1
    have cA2_11 := (A_11.out.2 2 _ rfl).1
    have cA3_11 := (A_11.out.2 3 _ rfl).1
    have cA4_11 := (A_11.out.2 4 _ rfl).1
    have cA5_11 := (A_11.out.2 5 _ rfl).1
    obtain ⟨cZ0_11, fZ0_11⟩ := Z_11.out.2 0 _ rfl
    obtain ⟨cZ1_11, fZ1_11⟩ := Z_11.out.2 1 _ rfl
    obtain ⟨cZ2_11, fZ2_11⟩ := Z_11.out.2 2 _ rfl
    obtain ⟨cZ3_11, fZ3_11⟩ := Z_11.out.2 3 _ rfl
    obtain ⟨cZ4_11, fZ4_11⟩ := Z_11.out.2 4 _ rfl
    obtain ⟨cZ5_11, fZ5_11⟩ := Z_11.out.2 5 _ rfl
    obtain ⟨w12, hw12⟩ : ∃ w', ((((((w11.setCell ⟨W.heap.size + 1, 0, none⟩ (.slice a0 pl.length q0)).setCell ⟨W.heap.size + 1, 1, none⟩ (.slice a1 tt.1.length q1)).setCell ⟨W.heap.size + 1, 2, none⟩ (.bool dz)).setCell ⟨W.heap.size + 1, 3, none⟩ (.bool (!fz))).setCell ⟨W.heap.size + 1, 4, none⟩ (.slice a4 tk.length q4)).setCell ⟨W.heap.size + 1, 5, none⟩ (.int .i64 0)) = w' := ⟨_, rfl⟩
    have y12 : w12.heap.size = w11.heap.size := by rw [← hw12]; simp
    have K12 := hide (show Below W.heap.size W w12 by rw [← hw12]; exact ((((((K11.out).setCell (by dsimp only; omega) _).setCell (by dsimp only; omega) _).setCell (by dsimp only; omega) _).setCell (by dsimp only; omega) _).setCell (by dsimp only; omega) _).setCell (by dsimp only; omega) _)
    have X_12 := hide (show BoxV w12 (W.heap.size) _ by rw [← hw12]; exact ((((((X_11.out).other ⟨W.heap.size + 1, 0, none⟩ (.slice a0 pl.length q0) (by dsimp only; omega)).other ⟨W.heap.size + 1, 1, none⟩ (.slice a1 tt.1.length q1) (by dsimp only; omega)).other ⟨W.heap.size + 1, 2, none⟩ (.bool dz) (by dsimp only; omega)).other ⟨W.heap.size + 1, 3, none⟩ (.bool (!fz)) (by dsimp only; omega)).other ⟨W.heap.size + 1, 4, none⟩ (.slice a4 tk.length q4) (by dsimp only; omega)).other ⟨W.heap.size + 1, 5, none⟩ (.int .i64 0) (by dsimp only; omega))
    have Z_12 := hide (show BoxV w12 (W.heap.size + 1) [.slice a0 pl.length q0, .slice a1 tt.1.length q1, .bool dz, .bool (!fz), .slice a4 tk.length q4, .int .i64 0] by rw [← hw12]; exact ((((((Z_11.out).set 0 (by simp) (.slice a0 pl.length q0)).set 1 (by simp) (.slice a1 tt.1.length q1)).set 2 (by simp) (.bool dz)).set 3 (by simp) (.bool (!fz))).set 4 (by simp) (.slice a4 tk.length q4)).set 5 (by simp) (.int .i64 0))
    have O4_12 := hide (show Own w12 _ _ _ by rw [← hw12]; exact ((((((O4_11.out).setCell ⟨W.heap.size + 1, 0, none⟩ (.slice a0 pl.length q0) (fun hh => by have h1 := hh.1; have h2 := hh.2; simp only at h1 h2; omega)).setCell ⟨W.heap.size + 1, 1, none⟩ (.slice a1 tt.1.length q1) (fun hh => by have h1 := hh.1; have h2 := hh.2; simp only at h1 h2; omega)).setCell ⟨W.heap.size + 1, 2, none⟩ (.bool dz) (fun hh => by have h1 := hh.1; have h2 := hh.2; simp only at h1 h2; omega)).setCell ⟨W.heap.size + 1, 3, none⟩ (.bool (!fz)) (fun hh => by have h1 := hh.1; have h2 := hh.2; simp only at h1 h2; omega)).setCell ⟨W.heap.size + 1, 4, none⟩ (.slice a4 tk.length q4) (fun hh => by have h1 := hh.1; have h2 := hh.2; simp only at h1 h2; omega)).setCell ⟨W.heap.size + 1, 5, none⟩ (.int .i64 0) (fun hh => by have h1 := hh.1; have h2 := hh.2; simp only at h1 h2; omega))
    have A_12 := hide (show BoxV w12 (w4.heap.size) _ by rw [← hw12]; exact ((((((A_11.out).other ⟨W.heap.size + 1, 0, none⟩ (.slice a0 pl.length q0) (by dsimp only; omega)).other ⟨W.heap.size + 1, 1, none⟩ (.slice a1 tt.1.length q1) (by dsimp only; omega)).other ⟨W.heap.size + 1, 2, none⟩ (.bool dz) (by dsimp only; omega)).other ⟨W.heap.size + 1, 3, none⟩ (.bool (!fz)) (by dsimp only; omega)).other ⟨W.heap.size + 1, 4, none⟩ (.slice a4 tk.length q4) (by dsimp only; omega)).other ⟨W.heap.size + 1, 5, none⟩ (.int .i64 0) (by dsimp only; omega))
    have OP_12 := hide (show Own w12 _ _ _ by rw [← hw12]; exact ((((((OP_11.out).setCell ⟨W.heap.size + 1, 0, none⟩ (.slice a0 pl.length q0) (fun hh => by have h1 := hh.1; have h2 := hh.2; simp only at h1 h2; omega)).setCell ⟨W.heap.size + 1, 1, none⟩ (.slice a1 tt.1.length q1) (fun hh => by have h1 := hh.1; have h2 := hh.2; simp only at h1 h2; omega)).setCell ⟨W.heap.size + 1, 2, none⟩ (.bool dz) (fun hh => by have h1 := hh.1; have h2 := hh.2; simp only at h1 h2; omega)).setCell ⟨W.heap.size + 1, 3, none⟩ (.bool (!fz)) (fun hh => by have h1 := hh.1; have h2 := hh.2; simp only at h1 h2; omega)).setCell ⟨W.heap.size + 1, 4, none⟩ (.slice a4 tk.length q4) (fun hh => by have h1 := hh.1; have h2 := hh.2; simp only at h1 h2; omega)).setCell ⟨W.heap.size + 1, 5, none⟩ (.int .i64 0) (fun hh => by have h1 := hh.1; have h2 := hh.2; simp only at h1 h2; omega))
    have OV_12 := hide (show Own w12 _ _ _ by rw [← hw12]; exact ((((((OV_11.out).setCell ⟨W.heap.size + 1, 0, none⟩ (.slice a0 pl.length q0) (fun hh => by have h1 := hh.1; have h2 := hh.2; simp only at h1 h2; omega)).setCell ⟨W.heap.size + 1, 1, none⟩ (.slice a1 tt.1.length q1) (fun hh => by have h1 := hh.1; have h2 := hh.2; simp only at h1 h2; omega)).setCell ⟨W.heap.size + 1, 2, none⟩ (.bool dz) (fun hh => by have h1 := hh.1; have h2 := hh.2; simp only at h1 h2; omega)).setCell ⟨W.heap.size + 1, 3, none⟩ (.bool (!fz)) (fun hh => by have h1 := hh.1; have h2 := hh.2; simp only at h1 h2; omega)).setCell ⟨W.heap.size + 1, 4, none⟩ (.slice a4 tk.length q4) (fun hh => by have h1 := hh.1; have h2 := hh.2; simp only at h1 h2; omega)).setCell ⟨W.heap.size + 1, 5, none⟩ (.int .i64 0) (fun hh => by have h1 := hh.1; have h2 := hh.2; simp only at h1 h2; omega))
    clear X_11 Z_11 O4_11 A_11 OP_11 OV_11
    have cZ0_12 := (Z_12.out.2 0 _ rfl).1
    have cZ1_12 := (Z_12.out.2 1 _ rfl).1
    have cZ2_12 := (Z_12.out.2 2 _ rfl).1
    have cZ3_12 := (Z_12.out.2 3 _ rfl).1
    have cZ4_12 := (Z_12.out.2 4 _ rfl).1
    have cZ5_12 := (Z_12.out.2 5 _ rfl).1
    go_wp2
    refine bodyPost_ret (v := .agg #[.slice a0 pl.length q0, .slice a1 tt.1.length q1, .bool dz, .bool (!fz), .slice a4 tk.length q4, .int .i64 0]) (by simp [results, Tryz.results30, go_sem, cZ0_12, cZ1_12, cZ2_12, cZ3_12, cZ4_12, cZ5_12]) rfl ⟨⟨_, _, _, rfl, g0, g0 + 1, g1, (g1 + 1), w3.heap.size, w4.heap.size, ⟨OP_12.out, ?_, O4_12.out, by omega⟩⟩, K12.out⟩
    exact OV_12.out
end Go.Proofs.YtfhcniifennfbaaGreatDoor
