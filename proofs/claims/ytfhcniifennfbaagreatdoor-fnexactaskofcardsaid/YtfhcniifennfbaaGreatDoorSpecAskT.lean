/-
  What is asked: spec.AskOf.
-/
import Derived.Test.YtfhcniifennfbaaGreatDoorSpecForm
import Derived.Test.YtfhcniifennfbaaGreatDoorAskTop
namespace Go.Proofs.YtfhcniifennfbaaGreatDoor
open Go.RowKit M
set_option linter.unusedVariables false

theorem OTS (w : World) (g : Nat) (h : g < w.heap.size) : Own w (.slice (some ⟨g, 0, none⟩) 0 0) (.l (([] : List ByteArray).map dS)) (IvG g (g + 1)) := .row g 0 0 1 [] (fun _ _ => .bool false) (fun _ _ _ => False) _ ⟨Nat.le_refl _, Nat.lt_succ_self _⟩ h (by simp) (Nat.zero_le _) (fun r hr => by cases hr) (fun j i x hx => by simp [cellAt] at hx) (fun j i x hx => by simp [cellAt] at hx) (fun j i y hy => hy.elim) (fun _ _ _ _ _ _ hy => hy.elim)
structure AskQR (w : World) (B : Nat) (v0 v1 v4 : Value) (pa tl : List ByteArray) (tk : List Int) (l0 u0 l1 u1 l4 u4 : Nat) : Prop where
  o0 : Own w v0 (.l (pa.map dS)) (IvG l0 u0)
  o1 : Own w v1 (.l (tl.map dS)) (IvG l1 u1)
  o4 : Own w v4 (.l (tk.map dI)) (IvG l4 u4)
  b : (B ≤ l0 ∧ u0 ≤ w.heap.size) ∧ (B ≤ l1 ∧ u1 ≤ w.heap.size) ∧ (B ≤ l4 ∧ u4 ≤ w.heap.size) ∧ (u0 ≤ l1 ∨ u1 ≤ l0) ∧ (u0 ≤ l4 ∨ u4 ≤ l0) ∧ (u1 ≤ l4 ∨ u4 ≤ l1)
def AskQ (w : World) (B : Nat) (v0 v1 v4 : Value) (pa tl : List ByteArray) (tk : List Int) : Prop := ∃ l0 u0 l1 u1 l4 u4, AskQR w B v0 v1 v4 pa tl tk l0 u0 l1 u1 l4 u4
set_option maxRecDepth 100000 in
set_option maxHeartbeats 16000000 in
theorem specAsk_any (x : Sv) (r : Rq) (u0 u1 u4 u5 h : Value) (W : World) (hh : View W W.heap.size h (.l (r.hs.map dHd))) (hr : szR (dRq r) ≤ 1048576) (h0 : View W W.heap.size u0 (.l (x.t.map dRs))) (h1 : View W W.heap.size u1 (.l (x.l.map dLk))) (h4 : View W W.heap.size u4 (.l (x.dr.map dI))) (h5 : View W W.heap.size u5 (.l (x.us.map dI))) (hsz : szR (dSv x) ≤ 1048576) (ok : okR (dSv x)) :
    Calls Tryz.prog 6 #[.agg #[u0, u1, .int .i64 x.now, .int .i64 x.ver, u4, u5], .agg #[.string r.m, .string r.p, h, .string r.b]] W fun e w' => (∃ v0 v1 v4 : Value, e = .returned (.agg #[v0, v1, .bool (askL x r).de, .bool (askL x r).ov, v4, .int .i64 (askL x r).co]) ∧ AskQ w' W.heap.size v0 v1 v4 (askL x r).pa (askL x r).to (askL x r).tk) ∧ Below W.heap.size W w' := by
  have HO := hide (fun W' (hb : Below W.heap.size W W') => specHead_gen r.hs overN h W' (hh.atI hb))
  have HD := hide (fun W' (hb : Below W.heap.size W W') => specDepth_gen r 2 h W' (hh.atI hb) hr)
  have HF := hide (fun W' N (hb : Below W.heap.size W W') (hB : W.heap.size ≤ N) (hN : N < W'.heap.size) e0 e1 e4 de ov ha m1 m4 L hm1 hm4 hmm hf1 hf4 => specForm_gen r h W' W.heap.size N hB hN (hh.stays hb (Nat.le_refl _)) hr e0 e1 e4 de ov 0 ha m1 m4 L hm1 hm4 hmm hf1 hf4)
  have HW := hide (fun W' (q : Value) (hb : Below W.heap.size W W') (hq : View W' W'.heap.size q (.l ((pthV r).1.map dS))) => specWhen_gen x r (pthV r).1 u0 u1 u4 u5 h q W' (hh.atI hb) hr (h0.atI hb) (h1.atI hb) (h4.atI hb) (h5.atI hb) hsz ok hq)
  have HM := hide (fun W' (v0 v1 v4 : Value) (tk : List Int) (de ov : Bool) (co : Int) (hb : Below W.heap.size W W') (j0 : View W' W'.heap.size v0 (.l ((pthV r).1.map dS))) (j1 : View W' W'.heap.size v1 (.l ((toL r).map dS))) (j4 : View W' W'.heap.size v4 (.l (tk.map dI))) (htk : tk.length ≤ 1048576) => specMayC_gen x r.m ⟨(pthV r).1, toL r, de, ov, tk, co⟩ u0 u1 u4 u5 v0 v1 v4 W' (h0.atI hb) (h1.atI hb) (h4.atI hb) (h5.atI hb) j0 j1 j4 hsz ok (by have := (pth_path (l := r.p.data.toList)).1; show (pthV r).1.length ≤ _; unfold pthV; omega) (by have := (toL_small r).1; show (toL r).length ≤ _; omega) htk)
  have HM := hide (fun W' (v0 v1 v4 : Value) (tk : List Int) (de ov : Bool) (co : Int) (hb : Below W.heap.size W W') j0 j1 j4 (htk : tk.length ≤ 1048576) => (show Calls Tryz.prog 25 _ W' fun e w' => e = .returned (.bool (chgB x r.m (pthV r).1 (toL r) tk)) ∧ Below W'.heap.size W' w' from HM.out W' v0 v1 v4 tk de ov co hb j0 j1 j4 htk))
  have HTK := hide (tk_few r)
  have hci := codeI_is x r
  have fF := eq_tF (hdOf r.hs overN).1
  have nF : ((hdOf r.hs overN).1.toList != [70]) = !decide ((hdOf r.hs overN).1 = tF) := by rw [bne, fF]
  have hdd : ((depI r.hs 2) == 2) = decide (depI r.hs 2 = 2) := by
    by_cases e : depI r.hs 2 = 2
    · rw [e]; rfl
    · rw [decide_eq_false e]; exact beq_eq_false_iff_ne.2 e
  unfold askL
  dsimp only
  obtain ⟨tkv, htv⟩ : ∃ tkv, (if formI r = 0 then tkL r else []) = tkv := ⟨_, rfl⟩
  rw [htv]
  rw [htv] at HF
  unfold cLck at hci
  generalize (pthV r).1 = pl at *
  generalize toL r = tl at *
  generalize tkL r = tk at *
  generalize (hdOf r.hs overN).1 = ov at *
  generalize (hdOf r.hs overN).2 = ob at *
  generalize decide (ov = tF) = fz at *
  generalize decide (depI r.hs 2 = 2) = dz at *
  generalize depI r.hs 2 = dd at *
  generalize codeI x r = c at *
  generalize formI r = fo at *
  generalize whenI x r pl = wh at *
  obtain ⟨cb, hcb⟩ : ∃ cb, chgB x r.m pl tl tk = cb := ⟨_, rfl⟩
  rw [hcb] at hci
  have KA := hide (show Below W.heap.size W (W.alloc (Obj.cells #[u0, u1, .int .i64 x.now, .int .i64 x.ver, u4, u5] 39)) from (Below.refl _ _).alloc (Nat.le_refl _) _)
  have KB := hide (show Below W.heap.size W ((W.alloc (Obj.cells #[u0, u1, .int .i64 x.now, .int .i64 x.ver, u4, u5] 39)).alloc (Obj.cells #[.string r.m, .string r.p, h, .string r.b] 43)) from KA.out.alloc (by simp) _)
  obtain ⟨w0, hw0⟩ : ∃ w', ((W.alloc (Obj.cells #[u0, u1, .int .i64 x.now, .int .i64 x.ver, u4, u5] 39)).alloc (Obj.cells #[.string r.m, .string r.p, h, .string r.b] 43)).alloc (Obj.cells #[.slice none 0 0, .slice none 0 0, .bool false, .bool false, .slice none 0 0, .int .i64 0] 34) = w' := ⟨_, rfl⟩
  have K0 := hide (show Below W.heap.size W w0 by rw [← hw0]; exact KB.out.alloc (by simp; omega) _)
  have y0 : w0.heap.size = W.heap.size + 3 := by rw [← hw0]; simp
  have S_0 := hide (show BoxV w0 W.heap.size [u0, u1, .int .i64 x.now, .int .i64 x.ver, u4, u5] by rw [← hw0]; exact ((BoxV.made W [u0, u1, .int .i64 x.now, .int .i64 x.ver, u4, u5] 39).alloc _).alloc _)
  have X_0 := hide (show BoxV w0 (W.heap.size + 1) [.string r.m, .string r.p, h, .string r.b] by rw [← hw0]; have h := (BoxV.made (W.alloc (Obj.cells #[u0, u1, .int .i64 x.now, .int .i64 x.ver, u4, u5] 39)) [.string r.m, .string r.p, h, .string r.b] 43).alloc (Obj.cells #[.slice none 0 0, .slice none 0 0, .bool false, .bool false, .slice none 0 0, .int .i64 0] 34); simpa using h)
  have Z_0 := hide (show BoxV w0 (W.heap.size + 2) [.slice none 0 0, .slice none 0 0, .bool false, .bool false, .slice none 0 0, .int .i64 0] by rw [← hw0]; have h := BoxV.made ((W.alloc (Obj.cells #[u0, u1, .int .i64 x.now, .int .i64 x.ver, u4, u5] 39)).alloc (Obj.cells #[.string r.m, .string r.p, h, .string r.b] 43)) [.slice none 0 0, .slice none 0 0, .bool false, .bool false, .slice none 0 0, .int .i64 0] 34; simpa using h)
  have HTV := hide htv
  have HCI := hide hci
  have HCB := hide hcb
  unfold overN at HO
  clear KA KB hh hr h0 h1 h4 h5 hsz ok htv hci hcb
  by_cases hfo : fo = 0
  rotate_left
  · have hc : fo = c := by have h9 := HCI.out; rw [if_neg hfo] at h9; exact h9.symm
    subst hc
    have g0 : (fo == 0) = false := beq_eq_false_iff_ne.2 hfo
    clear HCI
    have cX2_0 := (X_0.out.2 2 _ rfl).1
    go_enter Tryz.func6, Tryz.ntmps6
    go_wp2_with fail
    refine (HO.out _ K0.out).mono ?_
    rintro e w1 ⟨rfl, b1⟩
    clear cX2_0 hw0
    have K1 := hide (K0.out.trans (b1.mono K0.out.size))
    have y1 := b1.size
    have S_1 := hide (S_0.out.next b1)
    have X_1 := hide (X_0.out.next b1)
    have Z_1 := hide (Z_0.out.next b1)
    clear S_0 X_0 Z_0
    clear b1
    obtain ⟨w2, hw2⟩ : ∃ w', w1.alloc (Obj.cells #[] 9) = w' := ⟨_, rfl⟩
    have b2 : Below w1.heap.size w1 w2 := by rw [← hw2]; exact (Below.refl _ _).alloc (Nat.le_refl _) _
    have y2 : w2.heap.size = w1.heap.size + 1 := by rw [← hw2]; simp
    have hS : BoxV w2 w1.heap.size [] := by rw [← hw2]; exact BoxV.made _ _ _
    have K2 := hide (K1.out.trans (b2.mono K1.out.size))
    have S_2 := hide (S_1.out.next b2)
    have X_2 := hide (X_1.out.next b2)
    have Z_2 := hide (Z_1.out.next b2)
    clear S_1 X_1 Z_1
    have P_2 := hide hS
    clear hS b2
    clear P_2
    obtain ⟨w3, hw3⟩ : ∃ w', w2.alloc (Obj.cells #[] 9) = w' := ⟨_, rfl⟩
    have b3 : Below w2.heap.size w2 w3 := by rw [← hw3]; exact (Below.refl _ _).alloc (Nat.le_refl _) _
    have y3 : w3.heap.size = w2.heap.size + 1 := by rw [← hw3]; simp
    have hS : BoxV w3 (w1.heap.size + 1) [] := by
      rw [← hw3]
      have h9 := BoxV.made w2 [] 9
      have e9 : w2.heap.size = w1.heap.size + 1 := by omega
      rwa [e9] at h9
    have K3 := hide (K2.out.trans (b3.mono K2.out.size))
    have S_3 := hide (S_2.out.next b3)
    have X_3 := hide (X_2.out.next b3)
    have Z_3 := hide (Z_2.out.next b3)
    clear S_2 X_2 Z_2
    have Q_3 := hide hS
    clear hS b3
    clear Q_3
    have cX0_3 := (X_3.out.2 0 _ rfl).1
    have cX1_3 := (X_3.out.2 1 _ rfl).1
    have cX2_3 := (X_3.out.2 2 _ rfl).1
    have cX3_3 := (X_3.out.2 3 _ rfl).1
    go_wp2_with fail
    refine (HD.out _ K3.out).mono ?_
    rintro e w4 ⟨rfl, b4⟩
    clear hw2 hw3 cX0_3 cX1_3 cX2_3 cX3_3
    have K4 := hide (K3.out.trans (b4.mono K3.out.size))
    have y4 := b4.size
    have S_4 := hide (S_3.out.next b4)
    have X_4 := hide (X_3.out.next b4)
    have Z_4 := hide (Z_3.out.next b4)
    clear S_3 X_3 Z_3
    clear b4
    obtain ⟨w5, hw5⟩ : ∃ w', w4.alloc (Obj.cells #[] 3) = w' := ⟨_, rfl⟩
    have b5 : Below w4.heap.size w4 w5 := by rw [← hw5]; exact (Below.refl _ _).alloc (Nat.le_refl _) _
    have y5 : w5.heap.size = w4.heap.size + 1 := by rw [← hw5]; simp
    have hS : BoxV w5 w4.heap.size [] := by rw [← hw5]; exact BoxV.made _ _ _
    have K5 := hide (K4.out.trans (b5.mono K4.out.size))
    have S_5 := hide (S_4.out.next b5)
    have X_5 := hide (X_4.out.next b5)
    have Z_5 := hide (Z_4.out.next b5)
    clear S_4 X_4 Z_4
    have T_5 := hide hS
    clear hS b5
    clear T_5
    obtain ⟨w6, hw6⟩ : ∃ w', w5.alloc (Obj.cells #[.slice none 0 0, .slice none 0 0, .bool false, .bool false, .slice none 0 0, .int .i64 0] 34) = w' := ⟨_, rfl⟩
    have b6 : Below w5.heap.size w5 w6 := by rw [← hw6]; exact (Below.refl _ _).alloc (Nat.le_refl _) _
    have y6 : w6.heap.size = w5.heap.size + 1 := by rw [← hw6]; simp
    have hS : BoxV w6 (w4.heap.size + 1) [.slice none 0 0, .slice none 0 0, .bool false, .bool false, .slice none 0 0, .int .i64 0] := by
      rw [← hw6]
      have h9 := BoxV.made w5 [.slice none 0 0, .slice none 0 0, .bool false, .bool false, .slice none 0 0, .int .i64 0] 34
      have e9 : w5.heap.size = w4.heap.size + 1 := by omega
      rwa [e9] at h9
    have K6 := hide (K5.out.trans (b6.mono K5.out.size))
    have S_6 := hide (S_5.out.next b6)
    have X_6 := hide (X_5.out.next b6)
    have Z_6 := hide (Z_5.out.next b6)
    clear S_5 X_5 Z_5
    have A_6 := hide hS
    clear hS b6
    obtain ⟨cA0_6, fA0_6⟩ := A_6.out.2 0 _ rfl
    obtain ⟨cA1_6, fA1_6⟩ := A_6.out.2 1 _ rfl
    obtain ⟨cA2_6, fA2_6⟩ := A_6.out.2 2 _ rfl
    obtain ⟨cA3_6, fA3_6⟩ := A_6.out.2 3 _ rfl
    obtain ⟨cA4_6, fA4_6⟩ := A_6.out.2 4 _ rfl
    obtain ⟨cA5_6, fA5_6⟩ := A_6.out.2 5 _ rfl
    obtain ⟨w7, hw7⟩ : ∃ w', ((((((w6.setCell ⟨w4.heap.size + 1, 0, none⟩ (.slice (some ⟨w1.heap.size, 0, none⟩) 0 0)).setCell ⟨w4.heap.size + 1, 1, none⟩ (.slice (some ⟨w1.heap.size + 1, 0, none⟩) 0 0)).setCell ⟨w4.heap.size + 1, 2, none⟩ (.bool dz)).setCell ⟨w4.heap.size + 1, 3, none⟩ (.bool (!fz))).setCell ⟨w4.heap.size + 1, 4, none⟩ (.slice (some ⟨w4.heap.size, 0, none⟩) 0 0)).setCell ⟨w4.heap.size + 1, 5, none⟩ (.int .i64 0)) = w' := ⟨_, rfl⟩
    have y7 : w7.heap.size = w6.heap.size := by rw [← hw7]; simp
    have K7 := hide (show Below W.heap.size W w7 by rw [← hw7]; exact ((((((K6.out).setCell (by dsimp only; omega) _).setCell (by dsimp only; omega) _).setCell (by dsimp only; omega) _).setCell (by dsimp only; omega) _).setCell (by dsimp only; omega) _).setCell (by dsimp only; omega) _)
    have S_7 := hide (show BoxV w7 (W.heap.size) _ by rw [← hw7]; exact ((((((S_6.out).other ⟨w4.heap.size + 1, 0, none⟩ (.slice (some ⟨w1.heap.size, 0, none⟩) 0 0) (by dsimp only; omega)).other ⟨w4.heap.size + 1, 1, none⟩ (.slice (some ⟨w1.heap.size + 1, 0, none⟩) 0 0) (by dsimp only; omega)).other ⟨w4.heap.size + 1, 2, none⟩ (.bool dz) (by dsimp only; omega)).other ⟨w4.heap.size + 1, 3, none⟩ (.bool (!fz)) (by dsimp only; omega)).other ⟨w4.heap.size + 1, 4, none⟩ (.slice (some ⟨w4.heap.size, 0, none⟩) 0 0) (by dsimp only; omega)).other ⟨w4.heap.size + 1, 5, none⟩ (.int .i64 0) (by dsimp only; omega))
    have X_7 := hide (show BoxV w7 (W.heap.size + 1) _ by rw [← hw7]; exact ((((((X_6.out).other ⟨w4.heap.size + 1, 0, none⟩ (.slice (some ⟨w1.heap.size, 0, none⟩) 0 0) (by dsimp only; omega)).other ⟨w4.heap.size + 1, 1, none⟩ (.slice (some ⟨w1.heap.size + 1, 0, none⟩) 0 0) (by dsimp only; omega)).other ⟨w4.heap.size + 1, 2, none⟩ (.bool dz) (by dsimp only; omega)).other ⟨w4.heap.size + 1, 3, none⟩ (.bool (!fz)) (by dsimp only; omega)).other ⟨w4.heap.size + 1, 4, none⟩ (.slice (some ⟨w4.heap.size, 0, none⟩) 0 0) (by dsimp only; omega)).other ⟨w4.heap.size + 1, 5, none⟩ (.int .i64 0) (by dsimp only; omega))
    have Z_7 := hide (show BoxV w7 (W.heap.size + 2) _ by rw [← hw7]; exact ((((((Z_6.out).other ⟨w4.heap.size + 1, 0, none⟩ (.slice (some ⟨w1.heap.size, 0, none⟩) 0 0) (by dsimp only; omega)).other ⟨w4.heap.size + 1, 1, none⟩ (.slice (some ⟨w1.heap.size + 1, 0, none⟩) 0 0) (by dsimp only; omega)).other ⟨w4.heap.size + 1, 2, none⟩ (.bool dz) (by dsimp only; omega)).other ⟨w4.heap.size + 1, 3, none⟩ (.bool (!fz)) (by dsimp only; omega)).other ⟨w4.heap.size + 1, 4, none⟩ (.slice (some ⟨w4.heap.size, 0, none⟩) 0 0) (by dsimp only; omega)).other ⟨w4.heap.size + 1, 5, none⟩ (.int .i64 0) (by dsimp only; omega))
    have A_7 := hide (show BoxV w7 (w4.heap.size + 1) [.slice (some ⟨w1.heap.size, 0, none⟩) 0 0, .slice (some ⟨w1.heap.size + 1, 0, none⟩) 0 0, .bool dz, .bool (!fz), .slice (some ⟨w4.heap.size, 0, none⟩) 0 0, .int .i64 0] by rw [← hw7]; exact ((((((A_6.out).set 0 (by simp) (.slice (some ⟨w1.heap.size, 0, none⟩) 0 0)).set 1 (by simp) (.slice (some ⟨w1.heap.size + 1, 0, none⟩) 0 0)).set 2 (by simp) (.bool dz)).set 3 (by simp) (.bool (!fz))).set 4 (by simp) (.slice (some ⟨w4.heap.size, 0, none⟩) 0 0)).set 5 (by simp) (.int .i64 0))
    clear S_6 X_6 Z_6 A_6
    have cX0_7 := (X_7.out.2 0 _ rfl).1
    have cX1_7 := (X_7.out.2 1 _ rfl).1
    have cX2_7 := (X_7.out.2 2 _ rfl).1
    have cX3_7 := (X_7.out.2 3 _ rfl).1
    have HQ := hide (HF.out w7 (w4.heap.size + 1) K7.out (by omega) (by omega) _ _ _ _ _ A_7.out (w1.heap.size + 1) (w4.heap.size) (W.heap.size + 3) (by omega) (by omega) (by omega) (fun w hw => OTS w _ (by omega)) (fun w hw => OTL w _ (by omega)))
    go_wp2_with fail
    refine HQ.out.mono ?_
    rintro e w8 ⟨⟨rfl, v0, v1, v4, l0, z0, l1, z1, l4, z4, hf⟩, tt⟩
    clear hw5 hw6 cA0_6 fA0_6 cA1_6 fA1_6 cA2_6 fA2_6 cA3_6 fA3_6 cA4_6 fA4_6 cA5_6 fA5_6 hw7 cX0_7 cX1_7 cX2_7 cX3_7
    have K8 := hide (K7.out.trans (tt.below (C := W.heap.size) (fun y e => by subst e; omega) (by omega)))
    have y8 := tt.size
    have S_8 := hide (S_7.out.turn tt (by omega))
    have X_8 := hide (X_7.out.turn tt (by omega))
    have Z_8 := hide (Z_7.out.turn tt (by omega))
    clear S_7 X_7 Z_7 A_7 HQ
    obtain ⟨a0, q0, rfl, _⟩ := hf.o0.rows 1 (fun _ => rfl)
    obtain ⟨a1, q1, rfl, _⟩ := hf.o1.rows 1 (fun _ => rfl)
    obtain ⟨a4, q4, rfl, _⟩ := hf.o4.rows 1 (fun _ => rfl)
    have A_8 := hide hf.bx
    have O0_8 := hide hf.o0
    have O1_8 := hide hf.o1
    have O4_8 := hide hf.o4
    have i0 := hf.b0
    have i1 := hf.b1
    have i4 := hf.b4
    have id := hf.d
    clear hf tt
    obtain ⟨cA5_8, fA5_8⟩ := A_8.out.2 5 _ rfl
    obtain ⟨w9, hw9⟩ : ∃ w', (w8.setCell ⟨w4.heap.size + 1, 5, none⟩ (.int .i64 fo)) = w' := ⟨_, rfl⟩
    have y9 : w9.heap.size = w8.heap.size := by rw [← hw9]; simp
    have K9 := hide (show Below W.heap.size W w9 by rw [← hw9]; exact (K8.out).setCell (by dsimp only; omega) _)
    have S_9 := hide (show BoxV w9 (W.heap.size) _ by rw [← hw9]; exact (S_8.out).other ⟨w4.heap.size + 1, 5, none⟩ (.int .i64 fo) (by dsimp only; omega))
    have X_9 := hide (show BoxV w9 (W.heap.size + 1) _ by rw [← hw9]; exact (X_8.out).other ⟨w4.heap.size + 1, 5, none⟩ (.int .i64 fo) (by dsimp only; omega))
    have Z_9 := hide (show BoxV w9 (W.heap.size + 2) _ by rw [← hw9]; exact (Z_8.out).other ⟨w4.heap.size + 1, 5, none⟩ (.int .i64 fo) (by dsimp only; omega))
    have A_9 := hide (show BoxV w9 (w4.heap.size + 1) [.slice a0 pl.length q0, .slice a1 tl.length q1, .bool dz, .bool (!fz), .slice a4 tkv.length q4, .int .i64 fo] by rw [← hw9]; exact (A_8.out).set 5 (by simp) (.int .i64 fo))
    have O0_9 := hide (show Own w9 _ _ _ by rw [← hw9]; exact (O0_8.out).setCell ⟨w4.heap.size + 1, 5, none⟩ (.int .i64 fo) (fun hh => by have h1 := hh.1; have h2 := hh.2; simp only at h1 h2; omega))
    have O1_9 := hide (show Own w9 _ _ _ by rw [← hw9]; exact (O1_8.out).setCell ⟨w4.heap.size + 1, 5, none⟩ (.int .i64 fo) (fun hh => by have h1 := hh.1; have h2 := hh.2; simp only at h1 h2; omega))
    have O4_9 := hide (show Own w9 _ _ _ by rw [← hw9]; exact (O4_8.out).setCell ⟨w4.heap.size + 1, 5, none⟩ (.int .i64 fo) (fun hh => by have h1 := hh.1; have h2 := hh.2; simp only at h1 h2; omega))
    clear S_8 X_8 Z_8 A_8 O0_8 O1_8 O4_8
    have cA5_9 := (A_9.out.2 5 _ rfl).1
    have cA0_9 := (A_9.out.2 0 _ rfl).1
    have cA1_9 := (A_9.out.2 1 _ rfl).1
    have cA2_9 := (A_9.out.2 2 _ rfl).1
    have cA3_9 := (A_9.out.2 3 _ rfl).1
    have cA4_9 := (A_9.out.2 4 _ rfl).1
    obtain ⟨cZ0_9, fZ0_9⟩ := Z_9.out.2 0 _ rfl
    obtain ⟨cZ1_9, fZ1_9⟩ := Z_9.out.2 1 _ rfl
    obtain ⟨cZ2_9, fZ2_9⟩ := Z_9.out.2 2 _ rfl
    obtain ⟨cZ3_9, fZ3_9⟩ := Z_9.out.2 3 _ rfl
    obtain ⟨cZ4_9, fZ4_9⟩ := Z_9.out.2 4 _ rfl
    obtain ⟨cZ5_9, fZ5_9⟩ := Z_9.out.2 5 _ rfl
    obtain ⟨w10, hw10⟩ : ∃ w', ((((((w9.setCell ⟨W.heap.size + 2, 0, none⟩ (.slice a0 pl.length q0)).setCell ⟨W.heap.size + 2, 1, none⟩ (.slice a1 tl.length q1)).setCell ⟨W.heap.size + 2, 2, none⟩ (.bool dz)).setCell ⟨W.heap.size + 2, 3, none⟩ (.bool (!fz))).setCell ⟨W.heap.size + 2, 4, none⟩ (.slice a4 tkv.length q4)).setCell ⟨W.heap.size + 2, 5, none⟩ (.int .i64 fo)) = w' := ⟨_, rfl⟩
    have y10 : w10.heap.size = w9.heap.size := by rw [← hw10]; simp
    have K10 := hide (show Below W.heap.size W w10 by rw [← hw10]; exact ((((((K9.out).setCell (by dsimp only; omega) _).setCell (by dsimp only; omega) _).setCell (by dsimp only; omega) _).setCell (by dsimp only; omega) _).setCell (by dsimp only; omega) _).setCell (by dsimp only; omega) _)
    have S_10 := hide (show BoxV w10 (W.heap.size) _ by rw [← hw10]; exact ((((((S_9.out).other ⟨W.heap.size + 2, 0, none⟩ (.slice a0 pl.length q0) (by dsimp only; omega)).other ⟨W.heap.size + 2, 1, none⟩ (.slice a1 tl.length q1) (by dsimp only; omega)).other ⟨W.heap.size + 2, 2, none⟩ (.bool dz) (by dsimp only; omega)).other ⟨W.heap.size + 2, 3, none⟩ (.bool (!fz)) (by dsimp only; omega)).other ⟨W.heap.size + 2, 4, none⟩ (.slice a4 tkv.length q4) (by dsimp only; omega)).other ⟨W.heap.size + 2, 5, none⟩ (.int .i64 fo) (by dsimp only; omega))
    have X_10 := hide (show BoxV w10 (W.heap.size + 1) _ by rw [← hw10]; exact ((((((X_9.out).other ⟨W.heap.size + 2, 0, none⟩ (.slice a0 pl.length q0) (by dsimp only; omega)).other ⟨W.heap.size + 2, 1, none⟩ (.slice a1 tl.length q1) (by dsimp only; omega)).other ⟨W.heap.size + 2, 2, none⟩ (.bool dz) (by dsimp only; omega)).other ⟨W.heap.size + 2, 3, none⟩ (.bool (!fz)) (by dsimp only; omega)).other ⟨W.heap.size + 2, 4, none⟩ (.slice a4 tkv.length q4) (by dsimp only; omega)).other ⟨W.heap.size + 2, 5, none⟩ (.int .i64 fo) (by dsimp only; omega))
    have Z_10 := hide (show BoxV w10 (W.heap.size + 2) [.slice a0 pl.length q0, .slice a1 tl.length q1, .bool dz, .bool (!fz), .slice a4 tkv.length q4, .int .i64 fo] by rw [← hw10]; exact ((((((Z_9.out).set 0 (by simp) (.slice a0 pl.length q0)).set 1 (by simp) (.slice a1 tl.length q1)).set 2 (by simp) (.bool dz)).set 3 (by simp) (.bool (!fz))).set 4 (by simp) (.slice a4 tkv.length q4)).set 5 (by simp) (.int .i64 fo))
    have A_10 := hide (show BoxV w10 (w4.heap.size + 1) _ by rw [← hw10]; exact ((((((A_9.out).other ⟨W.heap.size + 2, 0, none⟩ (.slice a0 pl.length q0) (by dsimp only; omega)).other ⟨W.heap.size + 2, 1, none⟩ (.slice a1 tl.length q1) (by dsimp only; omega)).other ⟨W.heap.size + 2, 2, none⟩ (.bool dz) (by dsimp only; omega)).other ⟨W.heap.size + 2, 3, none⟩ (.bool (!fz)) (by dsimp only; omega)).other ⟨W.heap.size + 2, 4, none⟩ (.slice a4 tkv.length q4) (by dsimp only; omega)).other ⟨W.heap.size + 2, 5, none⟩ (.int .i64 fo) (by dsimp only; omega))
    have O0_10 := hide (show Own w10 _ _ _ by rw [← hw10]; exact ((((((O0_9.out).setCell ⟨W.heap.size + 2, 0, none⟩ (.slice a0 pl.length q0) (fun hh => by have h1 := hh.1; have h2 := hh.2; simp only at h1 h2; omega)).setCell ⟨W.heap.size + 2, 1, none⟩ (.slice a1 tl.length q1) (fun hh => by have h1 := hh.1; have h2 := hh.2; simp only at h1 h2; omega)).setCell ⟨W.heap.size + 2, 2, none⟩ (.bool dz) (fun hh => by have h1 := hh.1; have h2 := hh.2; simp only at h1 h2; omega)).setCell ⟨W.heap.size + 2, 3, none⟩ (.bool (!fz)) (fun hh => by have h1 := hh.1; have h2 := hh.2; simp only at h1 h2; omega)).setCell ⟨W.heap.size + 2, 4, none⟩ (.slice a4 tkv.length q4) (fun hh => by have h1 := hh.1; have h2 := hh.2; simp only at h1 h2; omega)).setCell ⟨W.heap.size + 2, 5, none⟩ (.int .i64 fo) (fun hh => by have h1 := hh.1; have h2 := hh.2; simp only at h1 h2; omega))
    have O1_10 := hide (show Own w10 _ _ _ by rw [← hw10]; exact ((((((O1_9.out).setCell ⟨W.heap.size + 2, 0, none⟩ (.slice a0 pl.length q0) (fun hh => by have h1 := hh.1; have h2 := hh.2; simp only at h1 h2; omega)).setCell ⟨W.heap.size + 2, 1, none⟩ (.slice a1 tl.length q1) (fun hh => by have h1 := hh.1; have h2 := hh.2; simp only at h1 h2; omega)).setCell ⟨W.heap.size + 2, 2, none⟩ (.bool dz) (fun hh => by have h1 := hh.1; have h2 := hh.2; simp only at h1 h2; omega)).setCell ⟨W.heap.size + 2, 3, none⟩ (.bool (!fz)) (fun hh => by have h1 := hh.1; have h2 := hh.2; simp only at h1 h2; omega)).setCell ⟨W.heap.size + 2, 4, none⟩ (.slice a4 tkv.length q4) (fun hh => by have h1 := hh.1; have h2 := hh.2; simp only at h1 h2; omega)).setCell ⟨W.heap.size + 2, 5, none⟩ (.int .i64 fo) (fun hh => by have h1 := hh.1; have h2 := hh.2; simp only at h1 h2; omega))
    have O4_10 := hide (show Own w10 _ _ _ by rw [← hw10]; exact ((((((O4_9.out).setCell ⟨W.heap.size + 2, 0, none⟩ (.slice a0 pl.length q0) (fun hh => by have h1 := hh.1; have h2 := hh.2; simp only at h1 h2; omega)).setCell ⟨W.heap.size + 2, 1, none⟩ (.slice a1 tl.length q1) (fun hh => by have h1 := hh.1; have h2 := hh.2; simp only at h1 h2; omega)).setCell ⟨W.heap.size + 2, 2, none⟩ (.bool dz) (fun hh => by have h1 := hh.1; have h2 := hh.2; simp only at h1 h2; omega)).setCell ⟨W.heap.size + 2, 3, none⟩ (.bool (!fz)) (fun hh => by have h1 := hh.1; have h2 := hh.2; simp only at h1 h2; omega)).setCell ⟨W.heap.size + 2, 4, none⟩ (.slice a4 tkv.length q4) (fun hh => by have h1 := hh.1; have h2 := hh.2; simp only at h1 h2; omega)).setCell ⟨W.heap.size + 2, 5, none⟩ (.int .i64 fo) (fun hh => by have h1 := hh.1; have h2 := hh.2; simp only at h1 h2; omega))
    clear S_9 X_9 Z_9 A_9 O0_9 O1_9 O4_9
    have cZ0_10 := (Z_10.out.2 0 _ rfl).1
    have cZ1_10 := (Z_10.out.2 1 _ rfl).1
    have cZ2_10 := (Z_10.out.2 2 _ rfl).1
    have cZ3_10 := (Z_10.out.2 3 _ rfl).1
    have cZ4_10 := (Z_10.out.2 4 _ rfl).1
    have cZ5_10 := (Z_10.out.2 5 _ rfl).1
    go_wp2
    refine bodyPost_ret (v := .agg #[.slice a0 pl.length q0, .slice a1 tl.length q1, .bool dz, .bool (!fz), .slice a4 tkv.length q4, .int .i64 fo]) (by simp [results, Tryz.results6, go_sem, cZ0_10, cZ1_10, cZ2_10, cZ3_10, cZ4_10, cZ5_10]) rfl ⟨⟨_, _, _, rfl, l0, z0, l1, z1, l4, z4, O0_10.out, O1_10.out, O4_10.out, by omega⟩, K10.out⟩
  subst hfo
  by_cases hwh : wh = 0
  rotate_left
  · have hc : wh = c := by have h9 := HCI.out; rw [if_pos rfl, if_neg hwh] at h9; exact h9.symm
    subst hc
    have g0 : (wh == 0) = false := beq_eq_false_iff_ne.2 hwh
    clear HCI
    have cX2_0 := (X_0.out.2 2 _ rfl).1
    go_enter Tryz.func6, Tryz.ntmps6
    go_wp2_with fail
    refine (HO.out _ K0.out).mono ?_
    rintro e w1 ⟨rfl, b1⟩
    clear cX2_0 hw0
    have K1 := hide (K0.out.trans (b1.mono K0.out.size))
    have y1 := b1.size
    have S_1 := hide (S_0.out.next b1)
    have X_1 := hide (X_0.out.next b1)
    have Z_1 := hide (Z_0.out.next b1)
    clear S_0 X_0 Z_0
    clear b1
    obtain ⟨w2, hw2⟩ : ∃ w', w1.alloc (Obj.cells #[] 9) = w' := ⟨_, rfl⟩
    have b2 : Below w1.heap.size w1 w2 := by rw [← hw2]; exact (Below.refl _ _).alloc (Nat.le_refl _) _
    have y2 : w2.heap.size = w1.heap.size + 1 := by rw [← hw2]; simp
    have hS : BoxV w2 w1.heap.size [] := by rw [← hw2]; exact BoxV.made _ _ _
    have K2 := hide (K1.out.trans (b2.mono K1.out.size))
    have S_2 := hide (S_1.out.next b2)
    have X_2 := hide (X_1.out.next b2)
    have Z_2 := hide (Z_1.out.next b2)
    clear S_1 X_1 Z_1
    have P_2 := hide hS
    clear hS b2
    clear P_2
    obtain ⟨w3, hw3⟩ : ∃ w', w2.alloc (Obj.cells #[] 9) = w' := ⟨_, rfl⟩
    have b3 : Below w2.heap.size w2 w3 := by rw [← hw3]; exact (Below.refl _ _).alloc (Nat.le_refl _) _
    have y3 : w3.heap.size = w2.heap.size + 1 := by rw [← hw3]; simp
    have hS : BoxV w3 (w1.heap.size + 1) [] := by
      rw [← hw3]
      have h9 := BoxV.made w2 [] 9
      have e9 : w2.heap.size = w1.heap.size + 1 := by omega
      rwa [e9] at h9
    have K3 := hide (K2.out.trans (b3.mono K2.out.size))
    have S_3 := hide (S_2.out.next b3)
    have X_3 := hide (X_2.out.next b3)
    have Z_3 := hide (Z_2.out.next b3)
    clear S_2 X_2 Z_2
    have Q_3 := hide hS
    clear hS b3
    clear Q_3
    have cX0_3 := (X_3.out.2 0 _ rfl).1
    have cX1_3 := (X_3.out.2 1 _ rfl).1
    have cX2_3 := (X_3.out.2 2 _ rfl).1
    have cX3_3 := (X_3.out.2 3 _ rfl).1
    go_wp2_with fail
    refine (HD.out _ K3.out).mono ?_
    rintro e w4 ⟨rfl, b4⟩
    clear hw2 hw3 cX0_3 cX1_3 cX2_3 cX3_3
    have K4 := hide (K3.out.trans (b4.mono K3.out.size))
    have y4 := b4.size
    have S_4 := hide (S_3.out.next b4)
    have X_4 := hide (X_3.out.next b4)
    have Z_4 := hide (Z_3.out.next b4)
    clear S_3 X_3 Z_3
    clear b4
    obtain ⟨w5, hw5⟩ : ∃ w', w4.alloc (Obj.cells #[] 3) = w' := ⟨_, rfl⟩
    have b5 : Below w4.heap.size w4 w5 := by rw [← hw5]; exact (Below.refl _ _).alloc (Nat.le_refl _) _
    have y5 : w5.heap.size = w4.heap.size + 1 := by rw [← hw5]; simp
    have hS : BoxV w5 w4.heap.size [] := by rw [← hw5]; exact BoxV.made _ _ _
    have K5 := hide (K4.out.trans (b5.mono K4.out.size))
    have S_5 := hide (S_4.out.next b5)
    have X_5 := hide (X_4.out.next b5)
    have Z_5 := hide (Z_4.out.next b5)
    clear S_4 X_4 Z_4
    have T_5 := hide hS
    clear hS b5
    clear T_5
    obtain ⟨w6, hw6⟩ : ∃ w', w5.alloc (Obj.cells #[.slice none 0 0, .slice none 0 0, .bool false, .bool false, .slice none 0 0, .int .i64 0] 34) = w' := ⟨_, rfl⟩
    have b6 : Below w5.heap.size w5 w6 := by rw [← hw6]; exact (Below.refl _ _).alloc (Nat.le_refl _) _
    have y6 : w6.heap.size = w5.heap.size + 1 := by rw [← hw6]; simp
    have hS : BoxV w6 (w4.heap.size + 1) [.slice none 0 0, .slice none 0 0, .bool false, .bool false, .slice none 0 0, .int .i64 0] := by
      rw [← hw6]
      have h9 := BoxV.made w5 [.slice none 0 0, .slice none 0 0, .bool false, .bool false, .slice none 0 0, .int .i64 0] 34
      have e9 : w5.heap.size = w4.heap.size + 1 := by omega
      rwa [e9] at h9
    have K6 := hide (K5.out.trans (b6.mono K5.out.size))
    have S_6 := hide (S_5.out.next b6)
    have X_6 := hide (X_5.out.next b6)
    have Z_6 := hide (Z_5.out.next b6)
    clear S_5 X_5 Z_5
    have A_6 := hide hS
    clear hS b6
    obtain ⟨cA0_6, fA0_6⟩ := A_6.out.2 0 _ rfl
    obtain ⟨cA1_6, fA1_6⟩ := A_6.out.2 1 _ rfl
    obtain ⟨cA2_6, fA2_6⟩ := A_6.out.2 2 _ rfl
    obtain ⟨cA3_6, fA3_6⟩ := A_6.out.2 3 _ rfl
    obtain ⟨cA4_6, fA4_6⟩ := A_6.out.2 4 _ rfl
    obtain ⟨cA5_6, fA5_6⟩ := A_6.out.2 5 _ rfl
    obtain ⟨w7, hw7⟩ : ∃ w', ((((((w6.setCell ⟨w4.heap.size + 1, 0, none⟩ (.slice (some ⟨w1.heap.size, 0, none⟩) 0 0)).setCell ⟨w4.heap.size + 1, 1, none⟩ (.slice (some ⟨w1.heap.size + 1, 0, none⟩) 0 0)).setCell ⟨w4.heap.size + 1, 2, none⟩ (.bool dz)).setCell ⟨w4.heap.size + 1, 3, none⟩ (.bool (!fz))).setCell ⟨w4.heap.size + 1, 4, none⟩ (.slice (some ⟨w4.heap.size, 0, none⟩) 0 0)).setCell ⟨w4.heap.size + 1, 5, none⟩ (.int .i64 0)) = w' := ⟨_, rfl⟩
    have y7 : w7.heap.size = w6.heap.size := by rw [← hw7]; simp
    have K7 := hide (show Below W.heap.size W w7 by rw [← hw7]; exact ((((((K6.out).setCell (by dsimp only; omega) _).setCell (by dsimp only; omega) _).setCell (by dsimp only; omega) _).setCell (by dsimp only; omega) _).setCell (by dsimp only; omega) _).setCell (by dsimp only; omega) _)
    have S_7 := hide (show BoxV w7 (W.heap.size) _ by rw [← hw7]; exact ((((((S_6.out).other ⟨w4.heap.size + 1, 0, none⟩ (.slice (some ⟨w1.heap.size, 0, none⟩) 0 0) (by dsimp only; omega)).other ⟨w4.heap.size + 1, 1, none⟩ (.slice (some ⟨w1.heap.size + 1, 0, none⟩) 0 0) (by dsimp only; omega)).other ⟨w4.heap.size + 1, 2, none⟩ (.bool dz) (by dsimp only; omega)).other ⟨w4.heap.size + 1, 3, none⟩ (.bool (!fz)) (by dsimp only; omega)).other ⟨w4.heap.size + 1, 4, none⟩ (.slice (some ⟨w4.heap.size, 0, none⟩) 0 0) (by dsimp only; omega)).other ⟨w4.heap.size + 1, 5, none⟩ (.int .i64 0) (by dsimp only; omega))
    have X_7 := hide (show BoxV w7 (W.heap.size + 1) _ by rw [← hw7]; exact ((((((X_6.out).other ⟨w4.heap.size + 1, 0, none⟩ (.slice (some ⟨w1.heap.size, 0, none⟩) 0 0) (by dsimp only; omega)).other ⟨w4.heap.size + 1, 1, none⟩ (.slice (some ⟨w1.heap.size + 1, 0, none⟩) 0 0) (by dsimp only; omega)).other ⟨w4.heap.size + 1, 2, none⟩ (.bool dz) (by dsimp only; omega)).other ⟨w4.heap.size + 1, 3, none⟩ (.bool (!fz)) (by dsimp only; omega)).other ⟨w4.heap.size + 1, 4, none⟩ (.slice (some ⟨w4.heap.size, 0, none⟩) 0 0) (by dsimp only; omega)).other ⟨w4.heap.size + 1, 5, none⟩ (.int .i64 0) (by dsimp only; omega))
    have Z_7 := hide (show BoxV w7 (W.heap.size + 2) _ by rw [← hw7]; exact ((((((Z_6.out).other ⟨w4.heap.size + 1, 0, none⟩ (.slice (some ⟨w1.heap.size, 0, none⟩) 0 0) (by dsimp only; omega)).other ⟨w4.heap.size + 1, 1, none⟩ (.slice (some ⟨w1.heap.size + 1, 0, none⟩) 0 0) (by dsimp only; omega)).other ⟨w4.heap.size + 1, 2, none⟩ (.bool dz) (by dsimp only; omega)).other ⟨w4.heap.size + 1, 3, none⟩ (.bool (!fz)) (by dsimp only; omega)).other ⟨w4.heap.size + 1, 4, none⟩ (.slice (some ⟨w4.heap.size, 0, none⟩) 0 0) (by dsimp only; omega)).other ⟨w4.heap.size + 1, 5, none⟩ (.int .i64 0) (by dsimp only; omega))
    have A_7 := hide (show BoxV w7 (w4.heap.size + 1) [.slice (some ⟨w1.heap.size, 0, none⟩) 0 0, .slice (some ⟨w1.heap.size + 1, 0, none⟩) 0 0, .bool dz, .bool (!fz), .slice (some ⟨w4.heap.size, 0, none⟩) 0 0, .int .i64 0] by rw [← hw7]; exact ((((((A_6.out).set 0 (by simp) (.slice (some ⟨w1.heap.size, 0, none⟩) 0 0)).set 1 (by simp) (.slice (some ⟨w1.heap.size + 1, 0, none⟩) 0 0)).set 2 (by simp) (.bool dz)).set 3 (by simp) (.bool (!fz))).set 4 (by simp) (.slice (some ⟨w4.heap.size, 0, none⟩) 0 0)).set 5 (by simp) (.int .i64 0))
    clear S_6 X_6 Z_6 A_6
    have cX0_7 := (X_7.out.2 0 _ rfl).1
    have cX1_7 := (X_7.out.2 1 _ rfl).1
    have cX2_7 := (X_7.out.2 2 _ rfl).1
    have cX3_7 := (X_7.out.2 3 _ rfl).1
    have HQ := hide (HF.out w7 (w4.heap.size + 1) K7.out (by omega) (by omega) _ _ _ _ _ A_7.out (w1.heap.size + 1) (w4.heap.size) (W.heap.size + 3) (by omega) (by omega) (by omega) (fun w hw => OTS w _ (by omega)) (fun w hw => OTL w _ (by omega)))
    go_wp2_with fail
    refine HQ.out.mono ?_
    rintro e w8 ⟨⟨rfl, v0, v1, v4, l0, z0, l1, z1, l4, z4, hf⟩, tt⟩
    clear hw5 hw6 cA0_6 fA0_6 cA1_6 fA1_6 cA2_6 fA2_6 cA3_6 fA3_6 cA4_6 fA4_6 cA5_6 fA5_6 hw7 cX0_7 cX1_7 cX2_7 cX3_7
    have K8 := hide (K7.out.trans (tt.below (C := W.heap.size) (fun y e => by subst e; omega) (by omega)))
    have y8 := tt.size
    have S_8 := hide (S_7.out.turn tt (by omega))
    have X_8 := hide (X_7.out.turn tt (by omega))
    have Z_8 := hide (Z_7.out.turn tt (by omega))
    clear S_7 X_7 Z_7 A_7 HQ
    obtain ⟨a0, q0, rfl, _⟩ := hf.o0.rows 1 (fun _ => rfl)
    obtain ⟨a1, q1, rfl, _⟩ := hf.o1.rows 1 (fun _ => rfl)
    obtain ⟨a4, q4, rfl, _⟩ := hf.o4.rows 1 (fun _ => rfl)
    have A_8 := hide hf.bx
    have O0_8 := hide hf.o0
    have O1_8 := hide hf.o1
    have O4_8 := hide hf.o4
    have i0 := hf.b0
    have i1 := hf.b1
    have i4 := hf.b4
    have id := hf.d
    clear hf tt
    obtain ⟨cA5_8, fA5_8⟩ := A_8.out.2 5 _ rfl
    obtain ⟨w9, hw9⟩ : ∃ w', (w8.setCell ⟨w4.heap.size + 1, 5, none⟩ (.int .i64 0)) = w' := ⟨_, rfl⟩
    have y9 : w9.heap.size = w8.heap.size := by rw [← hw9]; simp
    have K9 := hide (show Below W.heap.size W w9 by rw [← hw9]; exact (K8.out).setCell (by dsimp only; omega) _)
    have S_9 := hide (show BoxV w9 (W.heap.size) _ by rw [← hw9]; exact (S_8.out).other ⟨w4.heap.size + 1, 5, none⟩ (.int .i64 0) (by dsimp only; omega))
    have X_9 := hide (show BoxV w9 (W.heap.size + 1) _ by rw [← hw9]; exact (X_8.out).other ⟨w4.heap.size + 1, 5, none⟩ (.int .i64 0) (by dsimp only; omega))
    have Z_9 := hide (show BoxV w9 (W.heap.size + 2) _ by rw [← hw9]; exact (Z_8.out).other ⟨w4.heap.size + 1, 5, none⟩ (.int .i64 0) (by dsimp only; omega))
    have A_9 := hide (show BoxV w9 (w4.heap.size + 1) [.slice a0 pl.length q0, .slice a1 tl.length q1, .bool dz, .bool (!fz), .slice a4 tkv.length q4, .int .i64 0] by rw [← hw9]; exact (A_8.out).set 5 (by simp) (.int .i64 0))
    have O0_9 := hide (show Own w9 _ _ _ by rw [← hw9]; exact (O0_8.out).setCell ⟨w4.heap.size + 1, 5, none⟩ (.int .i64 0) (fun hh => by have h1 := hh.1; have h2 := hh.2; simp only at h1 h2; omega))
    have O1_9 := hide (show Own w9 _ _ _ by rw [← hw9]; exact (O1_8.out).setCell ⟨w4.heap.size + 1, 5, none⟩ (.int .i64 0) (fun hh => by have h1 := hh.1; have h2 := hh.2; simp only at h1 h2; omega))
    have O4_9 := hide (show Own w9 _ _ _ by rw [← hw9]; exact (O4_8.out).setCell ⟨w4.heap.size + 1, 5, none⟩ (.int .i64 0) (fun hh => by have h1 := hh.1; have h2 := hh.2; simp only at h1 h2; omega))
    clear S_8 X_8 Z_8 A_8 O0_8 O1_8 O4_8
    have cA5_9 := (A_9.out.2 5 _ rfl).1
    have cS0_9 := (S_9.out.2 0 _ rfl).1
    have cS1_9 := (S_9.out.2 1 _ rfl).1
    have cS2_9 := (S_9.out.2 2 _ rfl).1
    have cS3_9 := (S_9.out.2 3 _ rfl).1
    have cS4_9 := (S_9.out.2 4 _ rfl).1
    have cS5_9 := (S_9.out.2 5 _ rfl).1
    have cX0_9 := (X_9.out.2 0 _ rfl).1
    have cX1_9 := (X_9.out.2 1 _ rfl).1
    have cX2_9 := (X_9.out.2 2 _ rfl).1
    have cX3_9 := (X_9.out.2 3 _ rfl).1
    have cA0_9 := (A_9.out.2 0 _ rfl).1
    go_wp2_with fail
    refine (HW.out _ _ K9.out (O0_9.out.vw (by omega))).mono ?_
    rintro e w10 ⟨rfl, b10⟩
    clear cA5_8 fA5_8 hw9 cA5_9 cS0_9 cS1_9 cS2_9 cS3_9 cS4_9 cS5_9 cX0_9 cX1_9 cX2_9 cX3_9 cA0_9
    have K10 := hide (K9.out.trans (b10.mono K9.out.size))
    have y10 := b10.size
    have S_10 := hide (S_9.out.next b10)
    have X_10 := hide (X_9.out.next b10)
    have Z_10 := hide (Z_9.out.next b10)
    have A_10 := hide (A_9.out.next b10)
    have O0_10 := hide (O0_9.out.next b10)
    have O1_10 := hide (O1_9.out.next b10)
    have O4_10 := hide (O4_9.out.next b10)
    clear S_9 X_9 Z_9 A_9 O0_9 O1_9 O4_9
    clear b10
    obtain ⟨cA5_10, fA5_10⟩ := A_10.out.2 5 _ rfl
    obtain ⟨w11, hw11⟩ : ∃ w', (w10.setCell ⟨w4.heap.size + 1, 5, none⟩ (.int .i64 wh)) = w' := ⟨_, rfl⟩
    have y11 : w11.heap.size = w10.heap.size := by rw [← hw11]; simp
    have K11 := hide (show Below W.heap.size W w11 by rw [← hw11]; exact (K10.out).setCell (by dsimp only; omega) _)
    have S_11 := hide (show BoxV w11 (W.heap.size) _ by rw [← hw11]; exact (S_10.out).other ⟨w4.heap.size + 1, 5, none⟩ (.int .i64 wh) (by dsimp only; omega))
    have X_11 := hide (show BoxV w11 (W.heap.size + 1) _ by rw [← hw11]; exact (X_10.out).other ⟨w4.heap.size + 1, 5, none⟩ (.int .i64 wh) (by dsimp only; omega))
    have Z_11 := hide (show BoxV w11 (W.heap.size + 2) _ by rw [← hw11]; exact (Z_10.out).other ⟨w4.heap.size + 1, 5, none⟩ (.int .i64 wh) (by dsimp only; omega))
    have A_11 := hide (show BoxV w11 (w4.heap.size + 1) [.slice a0 pl.length q0, .slice a1 tl.length q1, .bool dz, .bool (!fz), .slice a4 tkv.length q4, .int .i64 wh] by rw [← hw11]; exact (A_10.out).set 5 (by simp) (.int .i64 wh))
    have O0_11 := hide (show Own w11 _ _ _ by rw [← hw11]; exact (O0_10.out).setCell ⟨w4.heap.size + 1, 5, none⟩ (.int .i64 wh) (fun hh => by have h1 := hh.1; have h2 := hh.2; simp only at h1 h2; omega))
    have O1_11 := hide (show Own w11 _ _ _ by rw [← hw11]; exact (O1_10.out).setCell ⟨w4.heap.size + 1, 5, none⟩ (.int .i64 wh) (fun hh => by have h1 := hh.1; have h2 := hh.2; simp only at h1 h2; omega))
    have O4_11 := hide (show Own w11 _ _ _ by rw [← hw11]; exact (O4_10.out).setCell ⟨w4.heap.size + 1, 5, none⟩ (.int .i64 wh) (fun hh => by have h1 := hh.1; have h2 := hh.2; simp only at h1 h2; omega))
    clear S_10 X_10 Z_10 A_10 O0_10 O1_10 O4_10
    have cA5_11 := (A_11.out.2 5 _ rfl).1
    have cA0_11 := (A_11.out.2 0 _ rfl).1
    have cA1_11 := (A_11.out.2 1 _ rfl).1
    have cA2_11 := (A_11.out.2 2 _ rfl).1
    have cA3_11 := (A_11.out.2 3 _ rfl).1
    have cA4_11 := (A_11.out.2 4 _ rfl).1
    obtain ⟨cZ0_11, fZ0_11⟩ := Z_11.out.2 0 _ rfl
    obtain ⟨cZ1_11, fZ1_11⟩ := Z_11.out.2 1 _ rfl
    obtain ⟨cZ2_11, fZ2_11⟩ := Z_11.out.2 2 _ rfl
    obtain ⟨cZ3_11, fZ3_11⟩ := Z_11.out.2 3 _ rfl
    obtain ⟨cZ4_11, fZ4_11⟩ := Z_11.out.2 4 _ rfl
    obtain ⟨cZ5_11, fZ5_11⟩ := Z_11.out.2 5 _ rfl
    obtain ⟨w12, hw12⟩ : ∃ w', ((((((w11.setCell ⟨W.heap.size + 2, 0, none⟩ (.slice a0 pl.length q0)).setCell ⟨W.heap.size + 2, 1, none⟩ (.slice a1 tl.length q1)).setCell ⟨W.heap.size + 2, 2, none⟩ (.bool dz)).setCell ⟨W.heap.size + 2, 3, none⟩ (.bool (!fz))).setCell ⟨W.heap.size + 2, 4, none⟩ (.slice a4 tkv.length q4)).setCell ⟨W.heap.size + 2, 5, none⟩ (.int .i64 wh)) = w' := ⟨_, rfl⟩
    have y12 : w12.heap.size = w11.heap.size := by rw [← hw12]; simp
    have K12 := hide (show Below W.heap.size W w12 by rw [← hw12]; exact ((((((K11.out).setCell (by dsimp only; omega) _).setCell (by dsimp only; omega) _).setCell (by dsimp only; omega) _).setCell (by dsimp only; omega) _).setCell (by dsimp only; omega) _).setCell (by dsimp only; omega) _)
    have S_12 := hide (show BoxV w12 (W.heap.size) _ by rw [← hw12]; exact ((((((S_11.out).other ⟨W.heap.size + 2, 0, none⟩ (.slice a0 pl.length q0) (by dsimp only; omega)).other ⟨W.heap.size + 2, 1, none⟩ (.slice a1 tl.length q1) (by dsimp only; omega)).other ⟨W.heap.size + 2, 2, none⟩ (.bool dz) (by dsimp only; omega)).other ⟨W.heap.size + 2, 3, none⟩ (.bool (!fz)) (by dsimp only; omega)).other ⟨W.heap.size + 2, 4, none⟩ (.slice a4 tkv.length q4) (by dsimp only; omega)).other ⟨W.heap.size + 2, 5, none⟩ (.int .i64 wh) (by dsimp only; omega))
    have X_12 := hide (show BoxV w12 (W.heap.size + 1) _ by rw [← hw12]; exact ((((((X_11.out).other ⟨W.heap.size + 2, 0, none⟩ (.slice a0 pl.length q0) (by dsimp only; omega)).other ⟨W.heap.size + 2, 1, none⟩ (.slice a1 tl.length q1) (by dsimp only; omega)).other ⟨W.heap.size + 2, 2, none⟩ (.bool dz) (by dsimp only; omega)).other ⟨W.heap.size + 2, 3, none⟩ (.bool (!fz)) (by dsimp only; omega)).other ⟨W.heap.size + 2, 4, none⟩ (.slice a4 tkv.length q4) (by dsimp only; omega)).other ⟨W.heap.size + 2, 5, none⟩ (.int .i64 wh) (by dsimp only; omega))
    have Z_12 := hide (show BoxV w12 (W.heap.size + 2) [.slice a0 pl.length q0, .slice a1 tl.length q1, .bool dz, .bool (!fz), .slice a4 tkv.length q4, .int .i64 wh] by rw [← hw12]; exact ((((((Z_11.out).set 0 (by simp) (.slice a0 pl.length q0)).set 1 (by simp) (.slice a1 tl.length q1)).set 2 (by simp) (.bool dz)).set 3 (by simp) (.bool (!fz))).set 4 (by simp) (.slice a4 tkv.length q4)).set 5 (by simp) (.int .i64 wh))
    have A_12 := hide (show BoxV w12 (w4.heap.size + 1) _ by rw [← hw12]; exact ((((((A_11.out).other ⟨W.heap.size + 2, 0, none⟩ (.slice a0 pl.length q0) (by dsimp only; omega)).other ⟨W.heap.size + 2, 1, none⟩ (.slice a1 tl.length q1) (by dsimp only; omega)).other ⟨W.heap.size + 2, 2, none⟩ (.bool dz) (by dsimp only; omega)).other ⟨W.heap.size + 2, 3, none⟩ (.bool (!fz)) (by dsimp only; omega)).other ⟨W.heap.size + 2, 4, none⟩ (.slice a4 tkv.length q4) (by dsimp only; omega)).other ⟨W.heap.size + 2, 5, none⟩ (.int .i64 wh) (by dsimp only; omega))
    have O0_12 := hide (show Own w12 _ _ _ by rw [← hw12]; exact ((((((O0_11.out).setCell ⟨W.heap.size + 2, 0, none⟩ (.slice a0 pl.length q0) (fun hh => by have h1 := hh.1; have h2 := hh.2; simp only at h1 h2; omega)).setCell ⟨W.heap.size + 2, 1, none⟩ (.slice a1 tl.length q1) (fun hh => by have h1 := hh.1; have h2 := hh.2; simp only at h1 h2; omega)).setCell ⟨W.heap.size + 2, 2, none⟩ (.bool dz) (fun hh => by have h1 := hh.1; have h2 := hh.2; simp only at h1 h2; omega)).setCell ⟨W.heap.size + 2, 3, none⟩ (.bool (!fz)) (fun hh => by have h1 := hh.1; have h2 := hh.2; simp only at h1 h2; omega)).setCell ⟨W.heap.size + 2, 4, none⟩ (.slice a4 tkv.length q4) (fun hh => by have h1 := hh.1; have h2 := hh.2; simp only at h1 h2; omega)).setCell ⟨W.heap.size + 2, 5, none⟩ (.int .i64 wh) (fun hh => by have h1 := hh.1; have h2 := hh.2; simp only at h1 h2; omega))
    have O1_12 := hide (show Own w12 _ _ _ by rw [← hw12]; exact ((((((O1_11.out).setCell ⟨W.heap.size + 2, 0, none⟩ (.slice a0 pl.length q0) (fun hh => by have h1 := hh.1; have h2 := hh.2; simp only at h1 h2; omega)).setCell ⟨W.heap.size + 2, 1, none⟩ (.slice a1 tl.length q1) (fun hh => by have h1 := hh.1; have h2 := hh.2; simp only at h1 h2; omega)).setCell ⟨W.heap.size + 2, 2, none⟩ (.bool dz) (fun hh => by have h1 := hh.1; have h2 := hh.2; simp only at h1 h2; omega)).setCell ⟨W.heap.size + 2, 3, none⟩ (.bool (!fz)) (fun hh => by have h1 := hh.1; have h2 := hh.2; simp only at h1 h2; omega)).setCell ⟨W.heap.size + 2, 4, none⟩ (.slice a4 tkv.length q4) (fun hh => by have h1 := hh.1; have h2 := hh.2; simp only at h1 h2; omega)).setCell ⟨W.heap.size + 2, 5, none⟩ (.int .i64 wh) (fun hh => by have h1 := hh.1; have h2 := hh.2; simp only at h1 h2; omega))
    have O4_12 := hide (show Own w12 _ _ _ by rw [← hw12]; exact ((((((O4_11.out).setCell ⟨W.heap.size + 2, 0, none⟩ (.slice a0 pl.length q0) (fun hh => by have h1 := hh.1; have h2 := hh.2; simp only at h1 h2; omega)).setCell ⟨W.heap.size + 2, 1, none⟩ (.slice a1 tl.length q1) (fun hh => by have h1 := hh.1; have h2 := hh.2; simp only at h1 h2; omega)).setCell ⟨W.heap.size + 2, 2, none⟩ (.bool dz) (fun hh => by have h1 := hh.1; have h2 := hh.2; simp only at h1 h2; omega)).setCell ⟨W.heap.size + 2, 3, none⟩ (.bool (!fz)) (fun hh => by have h1 := hh.1; have h2 := hh.2; simp only at h1 h2; omega)).setCell ⟨W.heap.size + 2, 4, none⟩ (.slice a4 tkv.length q4) (fun hh => by have h1 := hh.1; have h2 := hh.2; simp only at h1 h2; omega)).setCell ⟨W.heap.size + 2, 5, none⟩ (.int .i64 wh) (fun hh => by have h1 := hh.1; have h2 := hh.2; simp only at h1 h2; omega))
    clear S_11 X_11 Z_11 A_11 O0_11 O1_11 O4_11
    have cZ0_12 := (Z_12.out.2 0 _ rfl).1
    have cZ1_12 := (Z_12.out.2 1 _ rfl).1
    have cZ2_12 := (Z_12.out.2 2 _ rfl).1
    have cZ3_12 := (Z_12.out.2 3 _ rfl).1
    have cZ4_12 := (Z_12.out.2 4 _ rfl).1
    have cZ5_12 := (Z_12.out.2 5 _ rfl).1
    go_wp2
    refine bodyPost_ret (v := .agg #[.slice a0 pl.length q0, .slice a1 tl.length q1, .bool dz, .bool (!fz), .slice a4 tkv.length q4, .int .i64 wh]) (by simp [results, Tryz.results6, go_sem, cZ0_12, cZ1_12, cZ2_12, cZ3_12, cZ4_12, cZ5_12]) rfl ⟨⟨_, _, _, rfl, l0, z0, l1, z1, l4, z4, O0_12.out, O1_12.out, O4_12.out, by omega⟩, K12.out⟩
  subst hwh
  have htk : tkv = tk := by have h9 := HTV.out; rw [if_pos rfl] at h9; exact h9.symm
  subst htk
  have HM := hide (fun W' (v0 v1 v4 : Value) (de ov : Bool) (co : Int) (hb : Below W.heap.size W W') j0 j1 j4 => (HM.out W' v0 v1 v4 tkv de ov co hb j0 j1 j4 HTK.out))
  cases cb
  · have hc : 423 = c := by have h9 := HCI.out; rw [if_pos rfl, if_pos rfl] at h9; exact h9.symm
    subst hc
    rw [show chgB x r.m pl tl tkv = false from HCB.out] at HM
    clear HCI HCB
    have cX2_0 := (X_0.out.2 2 _ rfl).1
    go_enter Tryz.func6, Tryz.ntmps6
    go_wp2_with fail
    refine (HO.out _ K0.out).mono ?_
    rintro e w1 ⟨rfl, b1⟩
    clear cX2_0 hw0
    have K1 := hide (K0.out.trans (b1.mono K0.out.size))
    have y1 := b1.size
    have S_1 := hide (S_0.out.next b1)
    have X_1 := hide (X_0.out.next b1)
    have Z_1 := hide (Z_0.out.next b1)
    clear S_0 X_0 Z_0
    clear b1
    obtain ⟨w2, hw2⟩ : ∃ w', w1.alloc (Obj.cells #[] 9) = w' := ⟨_, rfl⟩
    have b2 : Below w1.heap.size w1 w2 := by rw [← hw2]; exact (Below.refl _ _).alloc (Nat.le_refl _) _
    have y2 : w2.heap.size = w1.heap.size + 1 := by rw [← hw2]; simp
    have hS : BoxV w2 w1.heap.size [] := by rw [← hw2]; exact BoxV.made _ _ _
    have K2 := hide (K1.out.trans (b2.mono K1.out.size))
    have S_2 := hide (S_1.out.next b2)
    have X_2 := hide (X_1.out.next b2)
    have Z_2 := hide (Z_1.out.next b2)
    clear S_1 X_1 Z_1
    have P_2 := hide hS
    clear hS b2
    clear P_2
    obtain ⟨w3, hw3⟩ : ∃ w', w2.alloc (Obj.cells #[] 9) = w' := ⟨_, rfl⟩
    have b3 : Below w2.heap.size w2 w3 := by rw [← hw3]; exact (Below.refl _ _).alloc (Nat.le_refl _) _
    have y3 : w3.heap.size = w2.heap.size + 1 := by rw [← hw3]; simp
    have hS : BoxV w3 (w1.heap.size + 1) [] := by
      rw [← hw3]
      have h9 := BoxV.made w2 [] 9
      have e9 : w2.heap.size = w1.heap.size + 1 := by omega
      rwa [e9] at h9
    have K3 := hide (K2.out.trans (b3.mono K2.out.size))
    have S_3 := hide (S_2.out.next b3)
    have X_3 := hide (X_2.out.next b3)
    have Z_3 := hide (Z_2.out.next b3)
    clear S_2 X_2 Z_2
    have Q_3 := hide hS
    clear hS b3
    clear Q_3
    have cX0_3 := (X_3.out.2 0 _ rfl).1
    have cX1_3 := (X_3.out.2 1 _ rfl).1
    have cX2_3 := (X_3.out.2 2 _ rfl).1
    have cX3_3 := (X_3.out.2 3 _ rfl).1
    go_wp2_with fail
    refine (HD.out _ K3.out).mono ?_
    rintro e w4 ⟨rfl, b4⟩
    clear hw2 hw3 cX0_3 cX1_3 cX2_3 cX3_3
    have K4 := hide (K3.out.trans (b4.mono K3.out.size))
    have y4 := b4.size
    have S_4 := hide (S_3.out.next b4)
    have X_4 := hide (X_3.out.next b4)
    have Z_4 := hide (Z_3.out.next b4)
    clear S_3 X_3 Z_3
    clear b4
    obtain ⟨w5, hw5⟩ : ∃ w', w4.alloc (Obj.cells #[] 3) = w' := ⟨_, rfl⟩
    have b5 : Below w4.heap.size w4 w5 := by rw [← hw5]; exact (Below.refl _ _).alloc (Nat.le_refl _) _
    have y5 : w5.heap.size = w4.heap.size + 1 := by rw [← hw5]; simp
    have hS : BoxV w5 w4.heap.size [] := by rw [← hw5]; exact BoxV.made _ _ _
    have K5 := hide (K4.out.trans (b5.mono K4.out.size))
    have S_5 := hide (S_4.out.next b5)
    have X_5 := hide (X_4.out.next b5)
    have Z_5 := hide (Z_4.out.next b5)
    clear S_4 X_4 Z_4
    have T_5 := hide hS
    clear hS b5
    clear T_5
    obtain ⟨w6, hw6⟩ : ∃ w', w5.alloc (Obj.cells #[.slice none 0 0, .slice none 0 0, .bool false, .bool false, .slice none 0 0, .int .i64 0] 34) = w' := ⟨_, rfl⟩
    have b6 : Below w5.heap.size w5 w6 := by rw [← hw6]; exact (Below.refl _ _).alloc (Nat.le_refl _) _
    have y6 : w6.heap.size = w5.heap.size + 1 := by rw [← hw6]; simp
    have hS : BoxV w6 (w4.heap.size + 1) [.slice none 0 0, .slice none 0 0, .bool false, .bool false, .slice none 0 0, .int .i64 0] := by
      rw [← hw6]
      have h9 := BoxV.made w5 [.slice none 0 0, .slice none 0 0, .bool false, .bool false, .slice none 0 0, .int .i64 0] 34
      have e9 : w5.heap.size = w4.heap.size + 1 := by omega
      rwa [e9] at h9
    have K6 := hide (K5.out.trans (b6.mono K5.out.size))
    have S_6 := hide (S_5.out.next b6)
    have X_6 := hide (X_5.out.next b6)
    have Z_6 := hide (Z_5.out.next b6)
    clear S_5 X_5 Z_5
    have A_6 := hide hS
    clear hS b6
    obtain ⟨cA0_6, fA0_6⟩ := A_6.out.2 0 _ rfl
    obtain ⟨cA1_6, fA1_6⟩ := A_6.out.2 1 _ rfl
    obtain ⟨cA2_6, fA2_6⟩ := A_6.out.2 2 _ rfl
    obtain ⟨cA3_6, fA3_6⟩ := A_6.out.2 3 _ rfl
    obtain ⟨cA4_6, fA4_6⟩ := A_6.out.2 4 _ rfl
    obtain ⟨cA5_6, fA5_6⟩ := A_6.out.2 5 _ rfl
    obtain ⟨w7, hw7⟩ : ∃ w', ((((((w6.setCell ⟨w4.heap.size + 1, 0, none⟩ (.slice (some ⟨w1.heap.size, 0, none⟩) 0 0)).setCell ⟨w4.heap.size + 1, 1, none⟩ (.slice (some ⟨w1.heap.size + 1, 0, none⟩) 0 0)).setCell ⟨w4.heap.size + 1, 2, none⟩ (.bool dz)).setCell ⟨w4.heap.size + 1, 3, none⟩ (.bool (!fz))).setCell ⟨w4.heap.size + 1, 4, none⟩ (.slice (some ⟨w4.heap.size, 0, none⟩) 0 0)).setCell ⟨w4.heap.size + 1, 5, none⟩ (.int .i64 0)) = w' := ⟨_, rfl⟩
    have y7 : w7.heap.size = w6.heap.size := by rw [← hw7]; simp
    have K7 := hide (show Below W.heap.size W w7 by rw [← hw7]; exact ((((((K6.out).setCell (by dsimp only; omega) _).setCell (by dsimp only; omega) _).setCell (by dsimp only; omega) _).setCell (by dsimp only; omega) _).setCell (by dsimp only; omega) _).setCell (by dsimp only; omega) _)
    have S_7 := hide (show BoxV w7 (W.heap.size) _ by rw [← hw7]; exact ((((((S_6.out).other ⟨w4.heap.size + 1, 0, none⟩ (.slice (some ⟨w1.heap.size, 0, none⟩) 0 0) (by dsimp only; omega)).other ⟨w4.heap.size + 1, 1, none⟩ (.slice (some ⟨w1.heap.size + 1, 0, none⟩) 0 0) (by dsimp only; omega)).other ⟨w4.heap.size + 1, 2, none⟩ (.bool dz) (by dsimp only; omega)).other ⟨w4.heap.size + 1, 3, none⟩ (.bool (!fz)) (by dsimp only; omega)).other ⟨w4.heap.size + 1, 4, none⟩ (.slice (some ⟨w4.heap.size, 0, none⟩) 0 0) (by dsimp only; omega)).other ⟨w4.heap.size + 1, 5, none⟩ (.int .i64 0) (by dsimp only; omega))
    have X_7 := hide (show BoxV w7 (W.heap.size + 1) _ by rw [← hw7]; exact ((((((X_6.out).other ⟨w4.heap.size + 1, 0, none⟩ (.slice (some ⟨w1.heap.size, 0, none⟩) 0 0) (by dsimp only; omega)).other ⟨w4.heap.size + 1, 1, none⟩ (.slice (some ⟨w1.heap.size + 1, 0, none⟩) 0 0) (by dsimp only; omega)).other ⟨w4.heap.size + 1, 2, none⟩ (.bool dz) (by dsimp only; omega)).other ⟨w4.heap.size + 1, 3, none⟩ (.bool (!fz)) (by dsimp only; omega)).other ⟨w4.heap.size + 1, 4, none⟩ (.slice (some ⟨w4.heap.size, 0, none⟩) 0 0) (by dsimp only; omega)).other ⟨w4.heap.size + 1, 5, none⟩ (.int .i64 0) (by dsimp only; omega))
    have Z_7 := hide (show BoxV w7 (W.heap.size + 2) _ by rw [← hw7]; exact ((((((Z_6.out).other ⟨w4.heap.size + 1, 0, none⟩ (.slice (some ⟨w1.heap.size, 0, none⟩) 0 0) (by dsimp only; omega)).other ⟨w4.heap.size + 1, 1, none⟩ (.slice (some ⟨w1.heap.size + 1, 0, none⟩) 0 0) (by dsimp only; omega)).other ⟨w4.heap.size + 1, 2, none⟩ (.bool dz) (by dsimp only; omega)).other ⟨w4.heap.size + 1, 3, none⟩ (.bool (!fz)) (by dsimp only; omega)).other ⟨w4.heap.size + 1, 4, none⟩ (.slice (some ⟨w4.heap.size, 0, none⟩) 0 0) (by dsimp only; omega)).other ⟨w4.heap.size + 1, 5, none⟩ (.int .i64 0) (by dsimp only; omega))
    have A_7 := hide (show BoxV w7 (w4.heap.size + 1) [.slice (some ⟨w1.heap.size, 0, none⟩) 0 0, .slice (some ⟨w1.heap.size + 1, 0, none⟩) 0 0, .bool dz, .bool (!fz), .slice (some ⟨w4.heap.size, 0, none⟩) 0 0, .int .i64 0] by rw [← hw7]; exact ((((((A_6.out).set 0 (by simp) (.slice (some ⟨w1.heap.size, 0, none⟩) 0 0)).set 1 (by simp) (.slice (some ⟨w1.heap.size + 1, 0, none⟩) 0 0)).set 2 (by simp) (.bool dz)).set 3 (by simp) (.bool (!fz))).set 4 (by simp) (.slice (some ⟨w4.heap.size, 0, none⟩) 0 0)).set 5 (by simp) (.int .i64 0))
    clear S_6 X_6 Z_6 A_6
    have cX0_7 := (X_7.out.2 0 _ rfl).1
    have cX1_7 := (X_7.out.2 1 _ rfl).1
    have cX2_7 := (X_7.out.2 2 _ rfl).1
    have cX3_7 := (X_7.out.2 3 _ rfl).1
    have HQ := hide (HF.out w7 (w4.heap.size + 1) K7.out (by omega) (by omega) _ _ _ _ _ A_7.out (w1.heap.size + 1) (w4.heap.size) (W.heap.size + 3) (by omega) (by omega) (by omega) (fun w hw => OTS w _ (by omega)) (fun w hw => OTL w _ (by omega)))
    go_wp2_with fail
    refine HQ.out.mono ?_
    rintro e w8 ⟨⟨rfl, v0, v1, v4, l0, z0, l1, z1, l4, z4, hf⟩, tt⟩
    clear hw5 hw6 cA0_6 fA0_6 cA1_6 fA1_6 cA2_6 fA2_6 cA3_6 fA3_6 cA4_6 fA4_6 cA5_6 fA5_6 hw7 cX0_7 cX1_7 cX2_7 cX3_7
    have K8 := hide (K7.out.trans (tt.below (C := W.heap.size) (fun y e => by subst e; omega) (by omega)))
    have y8 := tt.size
    have S_8 := hide (S_7.out.turn tt (by omega))
    have X_8 := hide (X_7.out.turn tt (by omega))
    have Z_8 := hide (Z_7.out.turn tt (by omega))
    clear S_7 X_7 Z_7 A_7 HQ
    obtain ⟨a0, q0, rfl, _⟩ := hf.o0.rows 1 (fun _ => rfl)
    obtain ⟨a1, q1, rfl, _⟩ := hf.o1.rows 1 (fun _ => rfl)
    obtain ⟨a4, q4, rfl, _⟩ := hf.o4.rows 1 (fun _ => rfl)
    have A_8 := hide hf.bx
    have O0_8 := hide hf.o0
    have O1_8 := hide hf.o1
    have O4_8 := hide hf.o4
    have i0 := hf.b0
    have i1 := hf.b1
    have i4 := hf.b4
    have id := hf.d
    clear hf tt
    obtain ⟨cA5_8, fA5_8⟩ := A_8.out.2 5 _ rfl
    obtain ⟨w9, hw9⟩ : ∃ w', (w8.setCell ⟨w4.heap.size + 1, 5, none⟩ (.int .i64 0)) = w' := ⟨_, rfl⟩
    have y9 : w9.heap.size = w8.heap.size := by rw [← hw9]; simp
    have K9 := hide (show Below W.heap.size W w9 by rw [← hw9]; exact (K8.out).setCell (by dsimp only; omega) _)
    have S_9 := hide (show BoxV w9 (W.heap.size) _ by rw [← hw9]; exact (S_8.out).other ⟨w4.heap.size + 1, 5, none⟩ (.int .i64 0) (by dsimp only; omega))
    have X_9 := hide (show BoxV w9 (W.heap.size + 1) _ by rw [← hw9]; exact (X_8.out).other ⟨w4.heap.size + 1, 5, none⟩ (.int .i64 0) (by dsimp only; omega))
    have Z_9 := hide (show BoxV w9 (W.heap.size + 2) _ by rw [← hw9]; exact (Z_8.out).other ⟨w4.heap.size + 1, 5, none⟩ (.int .i64 0) (by dsimp only; omega))
    have A_9 := hide (show BoxV w9 (w4.heap.size + 1) [.slice a0 pl.length q0, .slice a1 tl.length q1, .bool dz, .bool (!fz), .slice a4 tkv.length q4, .int .i64 0] by rw [← hw9]; exact (A_8.out).set 5 (by simp) (.int .i64 0))
    have O0_9 := hide (show Own w9 _ _ _ by rw [← hw9]; exact (O0_8.out).setCell ⟨w4.heap.size + 1, 5, none⟩ (.int .i64 0) (fun hh => by have h1 := hh.1; have h2 := hh.2; simp only at h1 h2; omega))
    have O1_9 := hide (show Own w9 _ _ _ by rw [← hw9]; exact (O1_8.out).setCell ⟨w4.heap.size + 1, 5, none⟩ (.int .i64 0) (fun hh => by have h1 := hh.1; have h2 := hh.2; simp only at h1 h2; omega))
    have O4_9 := hide (show Own w9 _ _ _ by rw [← hw9]; exact (O4_8.out).setCell ⟨w4.heap.size + 1, 5, none⟩ (.int .i64 0) (fun hh => by have h1 := hh.1; have h2 := hh.2; simp only at h1 h2; omega))
    clear S_8 X_8 Z_8 A_8 O0_8 O1_8 O4_8
    have cA5_9 := (A_9.out.2 5 _ rfl).1
    have cS0_9 := (S_9.out.2 0 _ rfl).1
    have cS1_9 := (S_9.out.2 1 _ rfl).1
    have cS2_9 := (S_9.out.2 2 _ rfl).1
    have cS3_9 := (S_9.out.2 3 _ rfl).1
    have cS4_9 := (S_9.out.2 4 _ rfl).1
    have cS5_9 := (S_9.out.2 5 _ rfl).1
    have cX0_9 := (X_9.out.2 0 _ rfl).1
    have cX1_9 := (X_9.out.2 1 _ rfl).1
    have cX2_9 := (X_9.out.2 2 _ rfl).1
    have cX3_9 := (X_9.out.2 3 _ rfl).1
    have cA0_9 := (A_9.out.2 0 _ rfl).1
    go_wp2_with fail
    refine (HW.out _ _ K9.out (O0_9.out.vw (by omega))).mono ?_
    rintro e w10 ⟨rfl, b10⟩
    clear cA5_8 fA5_8 hw9 cA5_9 cS0_9 cS1_9 cS2_9 cS3_9 cS4_9 cS5_9 cX0_9 cX1_9 cX2_9 cX3_9 cA0_9
    have K10 := hide (K9.out.trans (b10.mono K9.out.size))
    have y10 := b10.size
    have S_10 := hide (S_9.out.next b10)
    have X_10 := hide (X_9.out.next b10)
    have Z_10 := hide (Z_9.out.next b10)
    have A_10 := hide (A_9.out.next b10)
    have O0_10 := hide (O0_9.out.next b10)
    have O1_10 := hide (O1_9.out.next b10)
    have O4_10 := hide (O4_9.out.next b10)
    clear S_9 X_9 Z_9 A_9 O0_9 O1_9 O4_9
    clear b10
    obtain ⟨cA5_10, fA5_10⟩ := A_10.out.2 5 _ rfl
    obtain ⟨w11, hw11⟩ : ∃ w', (w10.setCell ⟨w4.heap.size + 1, 5, none⟩ (.int .i64 0)) = w' := ⟨_, rfl⟩
    have y11 : w11.heap.size = w10.heap.size := by rw [← hw11]; simp
    have K11 := hide (show Below W.heap.size W w11 by rw [← hw11]; exact (K10.out).setCell (by dsimp only; omega) _)
    have S_11 := hide (show BoxV w11 (W.heap.size) _ by rw [← hw11]; exact (S_10.out).other ⟨w4.heap.size + 1, 5, none⟩ (.int .i64 0) (by dsimp only; omega))
    have X_11 := hide (show BoxV w11 (W.heap.size + 1) _ by rw [← hw11]; exact (X_10.out).other ⟨w4.heap.size + 1, 5, none⟩ (.int .i64 0) (by dsimp only; omega))
    have Z_11 := hide (show BoxV w11 (W.heap.size + 2) _ by rw [← hw11]; exact (Z_10.out).other ⟨w4.heap.size + 1, 5, none⟩ (.int .i64 0) (by dsimp only; omega))
    have A_11 := hide (show BoxV w11 (w4.heap.size + 1) [.slice a0 pl.length q0, .slice a1 tl.length q1, .bool dz, .bool (!fz), .slice a4 tkv.length q4, .int .i64 0] by rw [← hw11]; exact (A_10.out).set 5 (by simp) (.int .i64 0))
    have O0_11 := hide (show Own w11 _ _ _ by rw [← hw11]; exact (O0_10.out).setCell ⟨w4.heap.size + 1, 5, none⟩ (.int .i64 0) (fun hh => by have h1 := hh.1; have h2 := hh.2; simp only at h1 h2; omega))
    have O1_11 := hide (show Own w11 _ _ _ by rw [← hw11]; exact (O1_10.out).setCell ⟨w4.heap.size + 1, 5, none⟩ (.int .i64 0) (fun hh => by have h1 := hh.1; have h2 := hh.2; simp only at h1 h2; omega))
    have O4_11 := hide (show Own w11 _ _ _ by rw [← hw11]; exact (O4_10.out).setCell ⟨w4.heap.size + 1, 5, none⟩ (.int .i64 0) (fun hh => by have h1 := hh.1; have h2 := hh.2; simp only at h1 h2; omega))
    clear S_10 X_10 Z_10 A_10 O0_10 O1_10 O4_10
    have cA5_11 := (A_11.out.2 5 _ rfl).1
    have cS0_11 := (S_11.out.2 0 _ rfl).1
    have cS1_11 := (S_11.out.2 1 _ rfl).1
    have cS2_11 := (S_11.out.2 2 _ rfl).1
    have cS3_11 := (S_11.out.2 3 _ rfl).1
    have cS4_11 := (S_11.out.2 4 _ rfl).1
    have cS5_11 := (S_11.out.2 5 _ rfl).1
    have cX0_11 := (X_11.out.2 0 _ rfl).1
    have cA0_11 := (A_11.out.2 0 _ rfl).1
    have cA1_11 := (A_11.out.2 1 _ rfl).1
    have cA2_11 := (A_11.out.2 2 _ rfl).1
    have cA3_11 := (A_11.out.2 3 _ rfl).1
    have cA4_11 := (A_11.out.2 4 _ rfl).1
    go_wp2_with fail
    refine (HM.out _ _ _ _ dz (!fz) 0 K11.out (O0_11.out.vw (by omega)) (O1_11.out.vw (by omega)) (O4_11.out.vw (by omega))).mono ?_
    rintro e w12 ⟨rfl, b12⟩
    clear cA5_10 fA5_10 hw11 cA5_11 cS0_11 cS1_11 cS2_11 cS3_11 cS4_11 cS5_11 cX0_11 cA0_11 cA1_11 cA2_11 cA3_11 cA4_11
    have K12 := hide (K11.out.trans (b12.mono K11.out.size))
    have y12 := b12.size
    have S_12 := hide (S_11.out.next b12)
    have X_12 := hide (X_11.out.next b12)
    have Z_12 := hide (Z_11.out.next b12)
    have A_12 := hide (A_11.out.next b12)
    have O0_12 := hide (O0_11.out.next b12)
    have O1_12 := hide (O1_11.out.next b12)
    have O4_12 := hide (O4_11.out.next b12)
    clear S_11 X_11 Z_11 A_11 O0_11 O1_11 O4_11
    clear b12
    obtain ⟨cA5_12, fA5_12⟩ := A_12.out.2 5 _ rfl
    obtain ⟨w13, hw13⟩ : ∃ w', (w12.setCell ⟨w4.heap.size + 1, 5, none⟩ (.int .i64 423)) = w' := ⟨_, rfl⟩
    have y13 : w13.heap.size = w12.heap.size := by rw [← hw13]; simp
    have K13 := hide (show Below W.heap.size W w13 by rw [← hw13]; exact (K12.out).setCell (by dsimp only; omega) _)
    have S_13 := hide (show BoxV w13 (W.heap.size) _ by rw [← hw13]; exact (S_12.out).other ⟨w4.heap.size + 1, 5, none⟩ (.int .i64 423) (by dsimp only; omega))
    have X_13 := hide (show BoxV w13 (W.heap.size + 1) _ by rw [← hw13]; exact (X_12.out).other ⟨w4.heap.size + 1, 5, none⟩ (.int .i64 423) (by dsimp only; omega))
    have Z_13 := hide (show BoxV w13 (W.heap.size + 2) _ by rw [← hw13]; exact (Z_12.out).other ⟨w4.heap.size + 1, 5, none⟩ (.int .i64 423) (by dsimp only; omega))
    have A_13 := hide (show BoxV w13 (w4.heap.size + 1) [.slice a0 pl.length q0, .slice a1 tl.length q1, .bool dz, .bool (!fz), .slice a4 tkv.length q4, .int .i64 423] by rw [← hw13]; exact (A_12.out).set 5 (by simp) (.int .i64 423))
    have O0_13 := hide (show Own w13 _ _ _ by rw [← hw13]; exact (O0_12.out).setCell ⟨w4.heap.size + 1, 5, none⟩ (.int .i64 423) (fun hh => by have h1 := hh.1; have h2 := hh.2; simp only at h1 h2; omega))
    have O1_13 := hide (show Own w13 _ _ _ by rw [← hw13]; exact (O1_12.out).setCell ⟨w4.heap.size + 1, 5, none⟩ (.int .i64 423) (fun hh => by have h1 := hh.1; have h2 := hh.2; simp only at h1 h2; omega))
    have O4_13 := hide (show Own w13 _ _ _ by rw [← hw13]; exact (O4_12.out).setCell ⟨w4.heap.size + 1, 5, none⟩ (.int .i64 423) (fun hh => by have h1 := hh.1; have h2 := hh.2; simp only at h1 h2; omega))
    clear S_12 X_12 Z_12 A_12 O0_12 O1_12 O4_12
    have cA5_13 := (A_13.out.2 5 _ rfl).1
    have cA0_13 := (A_13.out.2 0 _ rfl).1
    have cA1_13 := (A_13.out.2 1 _ rfl).1
    have cA2_13 := (A_13.out.2 2 _ rfl).1
    have cA3_13 := (A_13.out.2 3 _ rfl).1
    have cA4_13 := (A_13.out.2 4 _ rfl).1
    obtain ⟨cZ0_13, fZ0_13⟩ := Z_13.out.2 0 _ rfl
    obtain ⟨cZ1_13, fZ1_13⟩ := Z_13.out.2 1 _ rfl
    obtain ⟨cZ2_13, fZ2_13⟩ := Z_13.out.2 2 _ rfl
    obtain ⟨cZ3_13, fZ3_13⟩ := Z_13.out.2 3 _ rfl
    obtain ⟨cZ4_13, fZ4_13⟩ := Z_13.out.2 4 _ rfl
    obtain ⟨cZ5_13, fZ5_13⟩ := Z_13.out.2 5 _ rfl
    obtain ⟨w14, hw14⟩ : ∃ w', ((((((w13.setCell ⟨W.heap.size + 2, 0, none⟩ (.slice a0 pl.length q0)).setCell ⟨W.heap.size + 2, 1, none⟩ (.slice a1 tl.length q1)).setCell ⟨W.heap.size + 2, 2, none⟩ (.bool dz)).setCell ⟨W.heap.size + 2, 3, none⟩ (.bool (!fz))).setCell ⟨W.heap.size + 2, 4, none⟩ (.slice a4 tkv.length q4)).setCell ⟨W.heap.size + 2, 5, none⟩ (.int .i64 423)) = w' := ⟨_, rfl⟩
    have y14 : w14.heap.size = w13.heap.size := by rw [← hw14]; simp
    have K14 := hide (show Below W.heap.size W w14 by rw [← hw14]; exact ((((((K13.out).setCell (by dsimp only; omega) _).setCell (by dsimp only; omega) _).setCell (by dsimp only; omega) _).setCell (by dsimp only; omega) _).setCell (by dsimp only; omega) _).setCell (by dsimp only; omega) _)
    have S_14 := hide (show BoxV w14 (W.heap.size) _ by rw [← hw14]; exact ((((((S_13.out).other ⟨W.heap.size + 2, 0, none⟩ (.slice a0 pl.length q0) (by dsimp only; omega)).other ⟨W.heap.size + 2, 1, none⟩ (.slice a1 tl.length q1) (by dsimp only; omega)).other ⟨W.heap.size + 2, 2, none⟩ (.bool dz) (by dsimp only; omega)).other ⟨W.heap.size + 2, 3, none⟩ (.bool (!fz)) (by dsimp only; omega)).other ⟨W.heap.size + 2, 4, none⟩ (.slice a4 tkv.length q4) (by dsimp only; omega)).other ⟨W.heap.size + 2, 5, none⟩ (.int .i64 423) (by dsimp only; omega))
    have X_14 := hide (show BoxV w14 (W.heap.size + 1) _ by rw [← hw14]; exact ((((((X_13.out).other ⟨W.heap.size + 2, 0, none⟩ (.slice a0 pl.length q0) (by dsimp only; omega)).other ⟨W.heap.size + 2, 1, none⟩ (.slice a1 tl.length q1) (by dsimp only; omega)).other ⟨W.heap.size + 2, 2, none⟩ (.bool dz) (by dsimp only; omega)).other ⟨W.heap.size + 2, 3, none⟩ (.bool (!fz)) (by dsimp only; omega)).other ⟨W.heap.size + 2, 4, none⟩ (.slice a4 tkv.length q4) (by dsimp only; omega)).other ⟨W.heap.size + 2, 5, none⟩ (.int .i64 423) (by dsimp only; omega))
    have Z_14 := hide (show BoxV w14 (W.heap.size + 2) [.slice a0 pl.length q0, .slice a1 tl.length q1, .bool dz, .bool (!fz), .slice a4 tkv.length q4, .int .i64 423] by rw [← hw14]; exact ((((((Z_13.out).set 0 (by simp) (.slice a0 pl.length q0)).set 1 (by simp) (.slice a1 tl.length q1)).set 2 (by simp) (.bool dz)).set 3 (by simp) (.bool (!fz))).set 4 (by simp) (.slice a4 tkv.length q4)).set 5 (by simp) (.int .i64 423))
    have A_14 := hide (show BoxV w14 (w4.heap.size + 1) _ by rw [← hw14]; exact ((((((A_13.out).other ⟨W.heap.size + 2, 0, none⟩ (.slice a0 pl.length q0) (by dsimp only; omega)).other ⟨W.heap.size + 2, 1, none⟩ (.slice a1 tl.length q1) (by dsimp only; omega)).other ⟨W.heap.size + 2, 2, none⟩ (.bool dz) (by dsimp only; omega)).other ⟨W.heap.size + 2, 3, none⟩ (.bool (!fz)) (by dsimp only; omega)).other ⟨W.heap.size + 2, 4, none⟩ (.slice a4 tkv.length q4) (by dsimp only; omega)).other ⟨W.heap.size + 2, 5, none⟩ (.int .i64 423) (by dsimp only; omega))
    have O0_14 := hide (show Own w14 _ _ _ by rw [← hw14]; exact ((((((O0_13.out).setCell ⟨W.heap.size + 2, 0, none⟩ (.slice a0 pl.length q0) (fun hh => by have h1 := hh.1; have h2 := hh.2; simp only at h1 h2; omega)).setCell ⟨W.heap.size + 2, 1, none⟩ (.slice a1 tl.length q1) (fun hh => by have h1 := hh.1; have h2 := hh.2; simp only at h1 h2; omega)).setCell ⟨W.heap.size + 2, 2, none⟩ (.bool dz) (fun hh => by have h1 := hh.1; have h2 := hh.2; simp only at h1 h2; omega)).setCell ⟨W.heap.size + 2, 3, none⟩ (.bool (!fz)) (fun hh => by have h1 := hh.1; have h2 := hh.2; simp only at h1 h2; omega)).setCell ⟨W.heap.size + 2, 4, none⟩ (.slice a4 tkv.length q4) (fun hh => by have h1 := hh.1; have h2 := hh.2; simp only at h1 h2; omega)).setCell ⟨W.heap.size + 2, 5, none⟩ (.int .i64 423) (fun hh => by have h1 := hh.1; have h2 := hh.2; simp only at h1 h2; omega))
    have O1_14 := hide (show Own w14 _ _ _ by rw [← hw14]; exact ((((((O1_13.out).setCell ⟨W.heap.size + 2, 0, none⟩ (.slice a0 pl.length q0) (fun hh => by have h1 := hh.1; have h2 := hh.2; simp only at h1 h2; omega)).setCell ⟨W.heap.size + 2, 1, none⟩ (.slice a1 tl.length q1) (fun hh => by have h1 := hh.1; have h2 := hh.2; simp only at h1 h2; omega)).setCell ⟨W.heap.size + 2, 2, none⟩ (.bool dz) (fun hh => by have h1 := hh.1; have h2 := hh.2; simp only at h1 h2; omega)).setCell ⟨W.heap.size + 2, 3, none⟩ (.bool (!fz)) (fun hh => by have h1 := hh.1; have h2 := hh.2; simp only at h1 h2; omega)).setCell ⟨W.heap.size + 2, 4, none⟩ (.slice a4 tkv.length q4) (fun hh => by have h1 := hh.1; have h2 := hh.2; simp only at h1 h2; omega)).setCell ⟨W.heap.size + 2, 5, none⟩ (.int .i64 423) (fun hh => by have h1 := hh.1; have h2 := hh.2; simp only at h1 h2; omega))
    have O4_14 := hide (show Own w14 _ _ _ by rw [← hw14]; exact ((((((O4_13.out).setCell ⟨W.heap.size + 2, 0, none⟩ (.slice a0 pl.length q0) (fun hh => by have h1 := hh.1; have h2 := hh.2; simp only at h1 h2; omega)).setCell ⟨W.heap.size + 2, 1, none⟩ (.slice a1 tl.length q1) (fun hh => by have h1 := hh.1; have h2 := hh.2; simp only at h1 h2; omega)).setCell ⟨W.heap.size + 2, 2, none⟩ (.bool dz) (fun hh => by have h1 := hh.1; have h2 := hh.2; simp only at h1 h2; omega)).setCell ⟨W.heap.size + 2, 3, none⟩ (.bool (!fz)) (fun hh => by have h1 := hh.1; have h2 := hh.2; simp only at h1 h2; omega)).setCell ⟨W.heap.size + 2, 4, none⟩ (.slice a4 tkv.length q4) (fun hh => by have h1 := hh.1; have h2 := hh.2; simp only at h1 h2; omega)).setCell ⟨W.heap.size + 2, 5, none⟩ (.int .i64 423) (fun hh => by have h1 := hh.1; have h2 := hh.2; simp only at h1 h2; omega))
    clear S_13 X_13 Z_13 A_13 O0_13 O1_13 O4_13
    have cZ0_14 := (Z_14.out.2 0 _ rfl).1
    have cZ1_14 := (Z_14.out.2 1 _ rfl).1
    have cZ2_14 := (Z_14.out.2 2 _ rfl).1
    have cZ3_14 := (Z_14.out.2 3 _ rfl).1
    have cZ4_14 := (Z_14.out.2 4 _ rfl).1
    have cZ5_14 := (Z_14.out.2 5 _ rfl).1
    go_wp2
    refine bodyPost_ret (v := .agg #[.slice a0 pl.length q0, .slice a1 tl.length q1, .bool dz, .bool (!fz), .slice a4 tkv.length q4, .int .i64 423]) (by simp [results, Tryz.results6, go_sem, cZ0_14, cZ1_14, cZ2_14, cZ3_14, cZ4_14, cZ5_14]) rfl ⟨⟨_, _, _, rfl, l0, z0, l1, z1, l4, z4, O0_14.out, O1_14.out, O4_14.out, by omega⟩, K14.out⟩
  · have hc : 0 = c := by have h9 := HCI.out; rw [if_pos rfl, if_pos rfl] at h9; exact h9.symm
    subst hc
    rw [show chgB x r.m pl tl tkv = true from HCB.out] at HM
    clear HCI HCB
    have cX2_0 := (X_0.out.2 2 _ rfl).1
    go_enter Tryz.func6, Tryz.ntmps6
    go_wp2_with fail
    refine (HO.out _ K0.out).mono ?_
    rintro e w1 ⟨rfl, b1⟩
    clear cX2_0 hw0
    have K1 := hide (K0.out.trans (b1.mono K0.out.size))
    have y1 := b1.size
    have S_1 := hide (S_0.out.next b1)
    have X_1 := hide (X_0.out.next b1)
    have Z_1 := hide (Z_0.out.next b1)
    clear S_0 X_0 Z_0
    clear b1
    obtain ⟨w2, hw2⟩ : ∃ w', w1.alloc (Obj.cells #[] 9) = w' := ⟨_, rfl⟩
    have b2 : Below w1.heap.size w1 w2 := by rw [← hw2]; exact (Below.refl _ _).alloc (Nat.le_refl _) _
    have y2 : w2.heap.size = w1.heap.size + 1 := by rw [← hw2]; simp
    have hS : BoxV w2 w1.heap.size [] := by rw [← hw2]; exact BoxV.made _ _ _
    have K2 := hide (K1.out.trans (b2.mono K1.out.size))
    have S_2 := hide (S_1.out.next b2)
    have X_2 := hide (X_1.out.next b2)
    have Z_2 := hide (Z_1.out.next b2)
    clear S_1 X_1 Z_1
    have P_2 := hide hS
    clear hS b2
    clear P_2
    obtain ⟨w3, hw3⟩ : ∃ w', w2.alloc (Obj.cells #[] 9) = w' := ⟨_, rfl⟩
    have b3 : Below w2.heap.size w2 w3 := by rw [← hw3]; exact (Below.refl _ _).alloc (Nat.le_refl _) _
    have y3 : w3.heap.size = w2.heap.size + 1 := by rw [← hw3]; simp
    have hS : BoxV w3 (w1.heap.size + 1) [] := by
      rw [← hw3]
      have h9 := BoxV.made w2 [] 9
      have e9 : w2.heap.size = w1.heap.size + 1 := by omega
      rwa [e9] at h9
    have K3 := hide (K2.out.trans (b3.mono K2.out.size))
    have S_3 := hide (S_2.out.next b3)
    have X_3 := hide (X_2.out.next b3)
    have Z_3 := hide (Z_2.out.next b3)
    clear S_2 X_2 Z_2
    have Q_3 := hide hS
    clear hS b3
    clear Q_3
    have cX0_3 := (X_3.out.2 0 _ rfl).1
    have cX1_3 := (X_3.out.2 1 _ rfl).1
    have cX2_3 := (X_3.out.2 2 _ rfl).1
    have cX3_3 := (X_3.out.2 3 _ rfl).1
    go_wp2_with fail
    refine (HD.out _ K3.out).mono ?_
    rintro e w4 ⟨rfl, b4⟩
    clear hw2 hw3 cX0_3 cX1_3 cX2_3 cX3_3
    have K4 := hide (K3.out.trans (b4.mono K3.out.size))
    have y4 := b4.size
    have S_4 := hide (S_3.out.next b4)
    have X_4 := hide (X_3.out.next b4)
    have Z_4 := hide (Z_3.out.next b4)
    clear S_3 X_3 Z_3
    clear b4
    obtain ⟨w5, hw5⟩ : ∃ w', w4.alloc (Obj.cells #[] 3) = w' := ⟨_, rfl⟩
    have b5 : Below w4.heap.size w4 w5 := by rw [← hw5]; exact (Below.refl _ _).alloc (Nat.le_refl _) _
    have y5 : w5.heap.size = w4.heap.size + 1 := by rw [← hw5]; simp
    have hS : BoxV w5 w4.heap.size [] := by rw [← hw5]; exact BoxV.made _ _ _
    have K5 := hide (K4.out.trans (b5.mono K4.out.size))
    have S_5 := hide (S_4.out.next b5)
    have X_5 := hide (X_4.out.next b5)
    have Z_5 := hide (Z_4.out.next b5)
    clear S_4 X_4 Z_4
    have T_5 := hide hS
    clear hS b5
    clear T_5
    obtain ⟨w6, hw6⟩ : ∃ w', w5.alloc (Obj.cells #[.slice none 0 0, .slice none 0 0, .bool false, .bool false, .slice none 0 0, .int .i64 0] 34) = w' := ⟨_, rfl⟩
    have b6 : Below w5.heap.size w5 w6 := by rw [← hw6]; exact (Below.refl _ _).alloc (Nat.le_refl _) _
    have y6 : w6.heap.size = w5.heap.size + 1 := by rw [← hw6]; simp
    have hS : BoxV w6 (w4.heap.size + 1) [.slice none 0 0, .slice none 0 0, .bool false, .bool false, .slice none 0 0, .int .i64 0] := by
      rw [← hw6]
      have h9 := BoxV.made w5 [.slice none 0 0, .slice none 0 0, .bool false, .bool false, .slice none 0 0, .int .i64 0] 34
      have e9 : w5.heap.size = w4.heap.size + 1 := by omega
      rwa [e9] at h9
    have K6 := hide (K5.out.trans (b6.mono K5.out.size))
    have S_6 := hide (S_5.out.next b6)
    have X_6 := hide (X_5.out.next b6)
    have Z_6 := hide (Z_5.out.next b6)
    clear S_5 X_5 Z_5
    have A_6 := hide hS
    clear hS b6
    obtain ⟨cA0_6, fA0_6⟩ := A_6.out.2 0 _ rfl
    obtain ⟨cA1_6, fA1_6⟩ := A_6.out.2 1 _ rfl
    obtain ⟨cA2_6, fA2_6⟩ := A_6.out.2 2 _ rfl
    obtain ⟨cA3_6, fA3_6⟩ := A_6.out.2 3 _ rfl
    obtain ⟨cA4_6, fA4_6⟩ := A_6.out.2 4 _ rfl
    obtain ⟨cA5_6, fA5_6⟩ := A_6.out.2 5 _ rfl
    obtain ⟨w7, hw7⟩ : ∃ w', ((((((w6.setCell ⟨w4.heap.size + 1, 0, none⟩ (.slice (some ⟨w1.heap.size, 0, none⟩) 0 0)).setCell ⟨w4.heap.size + 1, 1, none⟩ (.slice (some ⟨w1.heap.size + 1, 0, none⟩) 0 0)).setCell ⟨w4.heap.size + 1, 2, none⟩ (.bool dz)).setCell ⟨w4.heap.size + 1, 3, none⟩ (.bool (!fz))).setCell ⟨w4.heap.size + 1, 4, none⟩ (.slice (some ⟨w4.heap.size, 0, none⟩) 0 0)).setCell ⟨w4.heap.size + 1, 5, none⟩ (.int .i64 0)) = w' := ⟨_, rfl⟩
    have y7 : w7.heap.size = w6.heap.size := by rw [← hw7]; simp
    have K7 := hide (show Below W.heap.size W w7 by rw [← hw7]; exact ((((((K6.out).setCell (by dsimp only; omega) _).setCell (by dsimp only; omega) _).setCell (by dsimp only; omega) _).setCell (by dsimp only; omega) _).setCell (by dsimp only; omega) _).setCell (by dsimp only; omega) _)
    have S_7 := hide (show BoxV w7 (W.heap.size) _ by rw [← hw7]; exact ((((((S_6.out).other ⟨w4.heap.size + 1, 0, none⟩ (.slice (some ⟨w1.heap.size, 0, none⟩) 0 0) (by dsimp only; omega)).other ⟨w4.heap.size + 1, 1, none⟩ (.slice (some ⟨w1.heap.size + 1, 0, none⟩) 0 0) (by dsimp only; omega)).other ⟨w4.heap.size + 1, 2, none⟩ (.bool dz) (by dsimp only; omega)).other ⟨w4.heap.size + 1, 3, none⟩ (.bool (!fz)) (by dsimp only; omega)).other ⟨w4.heap.size + 1, 4, none⟩ (.slice (some ⟨w4.heap.size, 0, none⟩) 0 0) (by dsimp only; omega)).other ⟨w4.heap.size + 1, 5, none⟩ (.int .i64 0) (by dsimp only; omega))
    have X_7 := hide (show BoxV w7 (W.heap.size + 1) _ by rw [← hw7]; exact ((((((X_6.out).other ⟨w4.heap.size + 1, 0, none⟩ (.slice (some ⟨w1.heap.size, 0, none⟩) 0 0) (by dsimp only; omega)).other ⟨w4.heap.size + 1, 1, none⟩ (.slice (some ⟨w1.heap.size + 1, 0, none⟩) 0 0) (by dsimp only; omega)).other ⟨w4.heap.size + 1, 2, none⟩ (.bool dz) (by dsimp only; omega)).other ⟨w4.heap.size + 1, 3, none⟩ (.bool (!fz)) (by dsimp only; omega)).other ⟨w4.heap.size + 1, 4, none⟩ (.slice (some ⟨w4.heap.size, 0, none⟩) 0 0) (by dsimp only; omega)).other ⟨w4.heap.size + 1, 5, none⟩ (.int .i64 0) (by dsimp only; omega))
    have Z_7 := hide (show BoxV w7 (W.heap.size + 2) _ by rw [← hw7]; exact ((((((Z_6.out).other ⟨w4.heap.size + 1, 0, none⟩ (.slice (some ⟨w1.heap.size, 0, none⟩) 0 0) (by dsimp only; omega)).other ⟨w4.heap.size + 1, 1, none⟩ (.slice (some ⟨w1.heap.size + 1, 0, none⟩) 0 0) (by dsimp only; omega)).other ⟨w4.heap.size + 1, 2, none⟩ (.bool dz) (by dsimp only; omega)).other ⟨w4.heap.size + 1, 3, none⟩ (.bool (!fz)) (by dsimp only; omega)).other ⟨w4.heap.size + 1, 4, none⟩ (.slice (some ⟨w4.heap.size, 0, none⟩) 0 0) (by dsimp only; omega)).other ⟨w4.heap.size + 1, 5, none⟩ (.int .i64 0) (by dsimp only; omega))
    have A_7 := hide (show BoxV w7 (w4.heap.size + 1) [.slice (some ⟨w1.heap.size, 0, none⟩) 0 0, .slice (some ⟨w1.heap.size + 1, 0, none⟩) 0 0, .bool dz, .bool (!fz), .slice (some ⟨w4.heap.size, 0, none⟩) 0 0, .int .i64 0] by rw [← hw7]; exact ((((((A_6.out).set 0 (by simp) (.slice (some ⟨w1.heap.size, 0, none⟩) 0 0)).set 1 (by simp) (.slice (some ⟨w1.heap.size + 1, 0, none⟩) 0 0)).set 2 (by simp) (.bool dz)).set 3 (by simp) (.bool (!fz))).set 4 (by simp) (.slice (some ⟨w4.heap.size, 0, none⟩) 0 0)).set 5 (by simp) (.int .i64 0))
    clear S_6 X_6 Z_6 A_6
    have cX0_7 := (X_7.out.2 0 _ rfl).1
    have cX1_7 := (X_7.out.2 1 _ rfl).1
    have cX2_7 := (X_7.out.2 2 _ rfl).1
    have cX3_7 := (X_7.out.2 3 _ rfl).1
    have HQ := hide (HF.out w7 (w4.heap.size + 1) K7.out (by omega) (by omega) _ _ _ _ _ A_7.out (w1.heap.size + 1) (w4.heap.size) (W.heap.size + 3) (by omega) (by omega) (by omega) (fun w hw => OTS w _ (by omega)) (fun w hw => OTL w _ (by omega)))
    go_wp2_with fail
    refine HQ.out.mono ?_
    rintro e w8 ⟨⟨rfl, v0, v1, v4, l0, z0, l1, z1, l4, z4, hf⟩, tt⟩
    clear hw5 hw6 cA0_6 fA0_6 cA1_6 fA1_6 cA2_6 fA2_6 cA3_6 fA3_6 cA4_6 fA4_6 cA5_6 fA5_6 hw7 cX0_7 cX1_7 cX2_7 cX3_7
    have K8 := hide (K7.out.trans (tt.below (C := W.heap.size) (fun y e => by subst e; omega) (by omega)))
    have y8 := tt.size
    have S_8 := hide (S_7.out.turn tt (by omega))
    have X_8 := hide (X_7.out.turn tt (by omega))
    have Z_8 := hide (Z_7.out.turn tt (by omega))
    clear S_7 X_7 Z_7 A_7 HQ
    obtain ⟨a0, q0, rfl, _⟩ := hf.o0.rows 1 (fun _ => rfl)
    obtain ⟨a1, q1, rfl, _⟩ := hf.o1.rows 1 (fun _ => rfl)
    obtain ⟨a4, q4, rfl, _⟩ := hf.o4.rows 1 (fun _ => rfl)
    have A_8 := hide hf.bx
    have O0_8 := hide hf.o0
    have O1_8 := hide hf.o1
    have O4_8 := hide hf.o4
    have i0 := hf.b0
    have i1 := hf.b1
    have i4 := hf.b4
    have id := hf.d
    clear hf tt
    obtain ⟨cA5_8, fA5_8⟩ := A_8.out.2 5 _ rfl
    obtain ⟨w9, hw9⟩ : ∃ w', (w8.setCell ⟨w4.heap.size + 1, 5, none⟩ (.int .i64 0)) = w' := ⟨_, rfl⟩
    have y9 : w9.heap.size = w8.heap.size := by rw [← hw9]; simp
    have K9 := hide (show Below W.heap.size W w9 by rw [← hw9]; exact (K8.out).setCell (by dsimp only; omega) _)
    have S_9 := hide (show BoxV w9 (W.heap.size) _ by rw [← hw9]; exact (S_8.out).other ⟨w4.heap.size + 1, 5, none⟩ (.int .i64 0) (by dsimp only; omega))
    have X_9 := hide (show BoxV w9 (W.heap.size + 1) _ by rw [← hw9]; exact (X_8.out).other ⟨w4.heap.size + 1, 5, none⟩ (.int .i64 0) (by dsimp only; omega))
    have Z_9 := hide (show BoxV w9 (W.heap.size + 2) _ by rw [← hw9]; exact (Z_8.out).other ⟨w4.heap.size + 1, 5, none⟩ (.int .i64 0) (by dsimp only; omega))
    have A_9 := hide (show BoxV w9 (w4.heap.size + 1) [.slice a0 pl.length q0, .slice a1 tl.length q1, .bool dz, .bool (!fz), .slice a4 tkv.length q4, .int .i64 0] by rw [← hw9]; exact (A_8.out).set 5 (by simp) (.int .i64 0))
    have O0_9 := hide (show Own w9 _ _ _ by rw [← hw9]; exact (O0_8.out).setCell ⟨w4.heap.size + 1, 5, none⟩ (.int .i64 0) (fun hh => by have h1 := hh.1; have h2 := hh.2; simp only at h1 h2; omega))
    have O1_9 := hide (show Own w9 _ _ _ by rw [← hw9]; exact (O1_8.out).setCell ⟨w4.heap.size + 1, 5, none⟩ (.int .i64 0) (fun hh => by have h1 := hh.1; have h2 := hh.2; simp only at h1 h2; omega))
    have O4_9 := hide (show Own w9 _ _ _ by rw [← hw9]; exact (O4_8.out).setCell ⟨w4.heap.size + 1, 5, none⟩ (.int .i64 0) (fun hh => by have h1 := hh.1; have h2 := hh.2; simp only at h1 h2; omega))
    clear S_8 X_8 Z_8 A_8 O0_8 O1_8 O4_8
    have cA5_9 := (A_9.out.2 5 _ rfl).1
    have cS0_9 := (S_9.out.2 0 _ rfl).1
    have cS1_9 := (S_9.out.2 1 _ rfl).1
    have cS2_9 := (S_9.out.2 2 _ rfl).1
    have cS3_9 := (S_9.out.2 3 _ rfl).1
    have cS4_9 := (S_9.out.2 4 _ rfl).1
    have cS5_9 := (S_9.out.2 5 _ rfl).1
    have cX0_9 := (X_9.out.2 0 _ rfl).1
    have cX1_9 := (X_9.out.2 1 _ rfl).1
    have cX2_9 := (X_9.out.2 2 _ rfl).1
    have cX3_9 := (X_9.out.2 3 _ rfl).1
    have cA0_9 := (A_9.out.2 0 _ rfl).1
    go_wp2_with fail
    refine (HW.out _ _ K9.out (O0_9.out.vw (by omega))).mono ?_
    rintro e w10 ⟨rfl, b10⟩
    clear cA5_8 fA5_8 hw9 cA5_9 cS0_9 cS1_9 cS2_9 cS3_9 cS4_9 cS5_9 cX0_9 cX1_9 cX2_9 cX3_9 cA0_9
    have K10 := hide (K9.out.trans (b10.mono K9.out.size))
    have y10 := b10.size
    have S_10 := hide (S_9.out.next b10)
    have X_10 := hide (X_9.out.next b10)
    have Z_10 := hide (Z_9.out.next b10)
    have A_10 := hide (A_9.out.next b10)
    have O0_10 := hide (O0_9.out.next b10)
    have O1_10 := hide (O1_9.out.next b10)
    have O4_10 := hide (O4_9.out.next b10)
    clear S_9 X_9 Z_9 A_9 O0_9 O1_9 O4_9
    clear b10
    obtain ⟨cA5_10, fA5_10⟩ := A_10.out.2 5 _ rfl
    obtain ⟨w11, hw11⟩ : ∃ w', (w10.setCell ⟨w4.heap.size + 1, 5, none⟩ (.int .i64 0)) = w' := ⟨_, rfl⟩
    have y11 : w11.heap.size = w10.heap.size := by rw [← hw11]; simp
    have K11 := hide (show Below W.heap.size W w11 by rw [← hw11]; exact (K10.out).setCell (by dsimp only; omega) _)
    have S_11 := hide (show BoxV w11 (W.heap.size) _ by rw [← hw11]; exact (S_10.out).other ⟨w4.heap.size + 1, 5, none⟩ (.int .i64 0) (by dsimp only; omega))
    have X_11 := hide (show BoxV w11 (W.heap.size + 1) _ by rw [← hw11]; exact (X_10.out).other ⟨w4.heap.size + 1, 5, none⟩ (.int .i64 0) (by dsimp only; omega))
    have Z_11 := hide (show BoxV w11 (W.heap.size + 2) _ by rw [← hw11]; exact (Z_10.out).other ⟨w4.heap.size + 1, 5, none⟩ (.int .i64 0) (by dsimp only; omega))
    have A_11 := hide (show BoxV w11 (w4.heap.size + 1) [.slice a0 pl.length q0, .slice a1 tl.length q1, .bool dz, .bool (!fz), .slice a4 tkv.length q4, .int .i64 0] by rw [← hw11]; exact (A_10.out).set 5 (by simp) (.int .i64 0))
    have O0_11 := hide (show Own w11 _ _ _ by rw [← hw11]; exact (O0_10.out).setCell ⟨w4.heap.size + 1, 5, none⟩ (.int .i64 0) (fun hh => by have h1 := hh.1; have h2 := hh.2; simp only at h1 h2; omega))
    have O1_11 := hide (show Own w11 _ _ _ by rw [← hw11]; exact (O1_10.out).setCell ⟨w4.heap.size + 1, 5, none⟩ (.int .i64 0) (fun hh => by have h1 := hh.1; have h2 := hh.2; simp only at h1 h2; omega))
    have O4_11 := hide (show Own w11 _ _ _ by rw [← hw11]; exact (O4_10.out).setCell ⟨w4.heap.size + 1, 5, none⟩ (.int .i64 0) (fun hh => by have h1 := hh.1; have h2 := hh.2; simp only at h1 h2; omega))
    clear S_10 X_10 Z_10 A_10 O0_10 O1_10 O4_10
    have cA5_11 := (A_11.out.2 5 _ rfl).1
    have cS0_11 := (S_11.out.2 0 _ rfl).1
    have cS1_11 := (S_11.out.2 1 _ rfl).1
    have cS2_11 := (S_11.out.2 2 _ rfl).1
    have cS3_11 := (S_11.out.2 3 _ rfl).1
    have cS4_11 := (S_11.out.2 4 _ rfl).1
    have cS5_11 := (S_11.out.2 5 _ rfl).1
    have cX0_11 := (X_11.out.2 0 _ rfl).1
    have cA0_11 := (A_11.out.2 0 _ rfl).1
    have cA1_11 := (A_11.out.2 1 _ rfl).1
    have cA2_11 := (A_11.out.2 2 _ rfl).1
    have cA3_11 := (A_11.out.2 3 _ rfl).1
    have cA4_11 := (A_11.out.2 4 _ rfl).1
    go_wp2_with fail
    refine (HM.out _ _ _ _ dz (!fz) 0 K11.out (O0_11.out.vw (by omega)) (O1_11.out.vw (by omega)) (O4_11.out.vw (by omega))).mono ?_
    rintro e w12 ⟨rfl, b12⟩
    clear cA5_10 fA5_10 hw11 cA5_11 cS0_11 cS1_11 cS2_11 cS3_11 cS4_11 cS5_11 cX0_11 cA0_11 cA1_11 cA2_11 cA3_11 cA4_11
    have K12 := hide (K11.out.trans (b12.mono K11.out.size))
    have y12 := b12.size
    have S_12 := hide (S_11.out.next b12)
    have X_12 := hide (X_11.out.next b12)
    have Z_12 := hide (Z_11.out.next b12)
    have A_12 := hide (A_11.out.next b12)
    have O0_12 := hide (O0_11.out.next b12)
    have O1_12 := hide (O1_11.out.next b12)
    have O4_12 := hide (O4_11.out.next b12)
    clear S_11 X_11 Z_11 A_11 O0_11 O1_11 O4_11
    clear b12
    have cA0_12 := (A_12.out.2 0 _ rfl).1
    have cA1_12 := (A_12.out.2 1 _ rfl).1
    have cA2_12 := (A_12.out.2 2 _ rfl).1
    have cA3_12 := (A_12.out.2 3 _ rfl).1
    have cA4_12 := (A_12.out.2 4 _ rfl).1
    have cA5_12 := (A_12.out.2 5 _ rfl).1
    obtain ⟨cZ0_12, fZ0_12⟩ := Z_12.out.2 0 _ rfl
    obtain ⟨cZ1_12, fZ1_12⟩ := Z_12.out.2 1 _ rfl
    obtain ⟨cZ2_12, fZ2_12⟩ := Z_12.out.2 2 _ rfl
    obtain ⟨cZ3_12, fZ3_12⟩ := Z_12.out.2 3 _ rfl
    obtain ⟨cZ4_12, fZ4_12⟩ := Z_12.out.2 4 _ rfl
    obtain ⟨cZ5_12, fZ5_12⟩ := Z_12.out.2 5 _ rfl
    obtain ⟨w13, hw13⟩ : ∃ w', ((((((w12.setCell ⟨W.heap.size + 2, 0, none⟩ (.slice a0 pl.length q0)).setCell ⟨W.heap.size + 2, 1, none⟩ (.slice a1 tl.length q1)).setCell ⟨W.heap.size + 2, 2, none⟩ (.bool dz)).setCell ⟨W.heap.size + 2, 3, none⟩ (.bool (!fz))).setCell ⟨W.heap.size + 2, 4, none⟩ (.slice a4 tkv.length q4)).setCell ⟨W.heap.size + 2, 5, none⟩ (.int .i64 0)) = w' := ⟨_, rfl⟩
    have y13 : w13.heap.size = w12.heap.size := by rw [← hw13]; simp
    have K13 := hide (show Below W.heap.size W w13 by rw [← hw13]; exact ((((((K12.out).setCell (by dsimp only; omega) _).setCell (by dsimp only; omega) _).setCell (by dsimp only; omega) _).setCell (by dsimp only; omega) _).setCell (by dsimp only; omega) _).setCell (by dsimp only; omega) _)
    have S_13 := hide (show BoxV w13 (W.heap.size) _ by rw [← hw13]; exact ((((((S_12.out).other ⟨W.heap.size + 2, 0, none⟩ (.slice a0 pl.length q0) (by dsimp only; omega)).other ⟨W.heap.size + 2, 1, none⟩ (.slice a1 tl.length q1) (by dsimp only; omega)).other ⟨W.heap.size + 2, 2, none⟩ (.bool dz) (by dsimp only; omega)).other ⟨W.heap.size + 2, 3, none⟩ (.bool (!fz)) (by dsimp only; omega)).other ⟨W.heap.size + 2, 4, none⟩ (.slice a4 tkv.length q4) (by dsimp only; omega)).other ⟨W.heap.size + 2, 5, none⟩ (.int .i64 0) (by dsimp only; omega))
    have X_13 := hide (show BoxV w13 (W.heap.size + 1) _ by rw [← hw13]; exact ((((((X_12.out).other ⟨W.heap.size + 2, 0, none⟩ (.slice a0 pl.length q0) (by dsimp only; omega)).other ⟨W.heap.size + 2, 1, none⟩ (.slice a1 tl.length q1) (by dsimp only; omega)).other ⟨W.heap.size + 2, 2, none⟩ (.bool dz) (by dsimp only; omega)).other ⟨W.heap.size + 2, 3, none⟩ (.bool (!fz)) (by dsimp only; omega)).other ⟨W.heap.size + 2, 4, none⟩ (.slice a4 tkv.length q4) (by dsimp only; omega)).other ⟨W.heap.size + 2, 5, none⟩ (.int .i64 0) (by dsimp only; omega))
    have Z_13 := hide (show BoxV w13 (W.heap.size + 2) [.slice a0 pl.length q0, .slice a1 tl.length q1, .bool dz, .bool (!fz), .slice a4 tkv.length q4, .int .i64 0] by rw [← hw13]; exact ((((((Z_12.out).set 0 (by simp) (.slice a0 pl.length q0)).set 1 (by simp) (.slice a1 tl.length q1)).set 2 (by simp) (.bool dz)).set 3 (by simp) (.bool (!fz))).set 4 (by simp) (.slice a4 tkv.length q4)).set 5 (by simp) (.int .i64 0))
    have A_13 := hide (show BoxV w13 (w4.heap.size + 1) _ by rw [← hw13]; exact ((((((A_12.out).other ⟨W.heap.size + 2, 0, none⟩ (.slice a0 pl.length q0) (by dsimp only; omega)).other ⟨W.heap.size + 2, 1, none⟩ (.slice a1 tl.length q1) (by dsimp only; omega)).other ⟨W.heap.size + 2, 2, none⟩ (.bool dz) (by dsimp only; omega)).other ⟨W.heap.size + 2, 3, none⟩ (.bool (!fz)) (by dsimp only; omega)).other ⟨W.heap.size + 2, 4, none⟩ (.slice a4 tkv.length q4) (by dsimp only; omega)).other ⟨W.heap.size + 2, 5, none⟩ (.int .i64 0) (by dsimp only; omega))
    have O0_13 := hide (show Own w13 _ _ _ by rw [← hw13]; exact ((((((O0_12.out).setCell ⟨W.heap.size + 2, 0, none⟩ (.slice a0 pl.length q0) (fun hh => by have h1 := hh.1; have h2 := hh.2; simp only at h1 h2; omega)).setCell ⟨W.heap.size + 2, 1, none⟩ (.slice a1 tl.length q1) (fun hh => by have h1 := hh.1; have h2 := hh.2; simp only at h1 h2; omega)).setCell ⟨W.heap.size + 2, 2, none⟩ (.bool dz) (fun hh => by have h1 := hh.1; have h2 := hh.2; simp only at h1 h2; omega)).setCell ⟨W.heap.size + 2, 3, none⟩ (.bool (!fz)) (fun hh => by have h1 := hh.1; have h2 := hh.2; simp only at h1 h2; omega)).setCell ⟨W.heap.size + 2, 4, none⟩ (.slice a4 tkv.length q4) (fun hh => by have h1 := hh.1; have h2 := hh.2; simp only at h1 h2; omega)).setCell ⟨W.heap.size + 2, 5, none⟩ (.int .i64 0) (fun hh => by have h1 := hh.1; have h2 := hh.2; simp only at h1 h2; omega))
    have O1_13 := hide (show Own w13 _ _ _ by rw [← hw13]; exact ((((((O1_12.out).setCell ⟨W.heap.size + 2, 0, none⟩ (.slice a0 pl.length q0) (fun hh => by have h1 := hh.1; have h2 := hh.2; simp only at h1 h2; omega)).setCell ⟨W.heap.size + 2, 1, none⟩ (.slice a1 tl.length q1) (fun hh => by have h1 := hh.1; have h2 := hh.2; simp only at h1 h2; omega)).setCell ⟨W.heap.size + 2, 2, none⟩ (.bool dz) (fun hh => by have h1 := hh.1; have h2 := hh.2; simp only at h1 h2; omega)).setCell ⟨W.heap.size + 2, 3, none⟩ (.bool (!fz)) (fun hh => by have h1 := hh.1; have h2 := hh.2; simp only at h1 h2; omega)).setCell ⟨W.heap.size + 2, 4, none⟩ (.slice a4 tkv.length q4) (fun hh => by have h1 := hh.1; have h2 := hh.2; simp only at h1 h2; omega)).setCell ⟨W.heap.size + 2, 5, none⟩ (.int .i64 0) (fun hh => by have h1 := hh.1; have h2 := hh.2; simp only at h1 h2; omega))
    have O4_13 := hide (show Own w13 _ _ _ by rw [← hw13]; exact ((((((O4_12.out).setCell ⟨W.heap.size + 2, 0, none⟩ (.slice a0 pl.length q0) (fun hh => by have h1 := hh.1; have h2 := hh.2; simp only at h1 h2; omega)).setCell ⟨W.heap.size + 2, 1, none⟩ (.slice a1 tl.length q1) (fun hh => by have h1 := hh.1; have h2 := hh.2; simp only at h1 h2; omega)).setCell ⟨W.heap.size + 2, 2, none⟩ (.bool dz) (fun hh => by have h1 := hh.1; have h2 := hh.2; simp only at h1 h2; omega)).setCell ⟨W.heap.size + 2, 3, none⟩ (.bool (!fz)) (fun hh => by have h1 := hh.1; have h2 := hh.2; simp only at h1 h2; omega)).setCell ⟨W.heap.size + 2, 4, none⟩ (.slice a4 tkv.length q4) (fun hh => by have h1 := hh.1; have h2 := hh.2; simp only at h1 h2; omega)).setCell ⟨W.heap.size + 2, 5, none⟩ (.int .i64 0) (fun hh => by have h1 := hh.1; have h2 := hh.2; simp only at h1 h2; omega))
    clear S_12 X_12 Z_12 A_12 O0_12 O1_12 O4_12
    have cZ0_13 := (Z_13.out.2 0 _ rfl).1
    have cZ1_13 := (Z_13.out.2 1 _ rfl).1
    have cZ2_13 := (Z_13.out.2 2 _ rfl).1
    have cZ3_13 := (Z_13.out.2 3 _ rfl).1
    have cZ4_13 := (Z_13.out.2 4 _ rfl).1
    have cZ5_13 := (Z_13.out.2 5 _ rfl).1
    go_wp2
    refine bodyPost_ret (v := .agg #[.slice a0 pl.length q0, .slice a1 tl.length q1, .bool dz, .bool (!fz), .slice a4 tkv.length q4, .int .i64 0]) (by simp [results, Tryz.results6, go_sem, cZ0_13, cZ1_13, cZ2_13, cZ3_13, cZ4_13, cZ5_13]) rfl ⟨⟨_, _, _, rfl, l0, z0, l1, z1, l4, z4, O0_13.out, O1_13.out, O4_13.out, by omega⟩, K13.out⟩

theorem specAsk_gen (x : Sv) (r : Rq) (u0 u1 u4 u5 h : Value) (W : World) (hh : View W W.heap.size h (.l (r.hs.map dHd))) (hr : szR (dRq r) ≤ 1048576) (h0 : View W W.heap.size u0 (.l (x.t.map dRs))) (h1 : View W W.heap.size u1 (.l (x.l.map dLk))) (h4 : View W W.heap.size u4 (.l (x.dr.map dI))) (h5 : View W W.heap.size u5 (.l (x.us.map dI))) (hsz : szR (dSv x) ≤ 1048576) (ok : okR (dSv x)) :
    Calls Tryz.prog 6 #[.agg #[u0, u1, .int .i64 x.now, .int .i64 x.ver, u4, u5], .agg #[.string r.m, .string r.p, h, .string r.b]] W fun e w' => (∃ v0 v1 v4 : Value, ∃ l0 z0 l1 z1 l4 z4 : Nat, e = .returned (.agg #[v0, v1, .bool (askL x r).de, .bool (askL x r).ov, v4, .int .i64 (askL x r).co]) ∧ (Own w' v0 (.l ((askL x r).pa.map dS)) (IvG l0 z0) ∧ W.heap.size ≤ l0 ∧ z0 ≤ w'.heap.size) ∧ (Own w' v1 (.l ((askL x r).to.map dS)) (IvG l1 z1) ∧ W.heap.size ≤ l1 ∧ z1 ≤ w'.heap.size) ∧ (Own w' v4 (.l ((askL x r).tk.map dI)) (IvG l4 z4) ∧ W.heap.size ≤ l4 ∧ z4 ≤ w'.heap.size) ∧ (z0 ≤ l1 ∨ z1 ≤ l0) ∧ (z0 ≤ l4 ∨ z4 ≤ l0) ∧ (z1 ≤ l4 ∨ z4 ≤ l1)) ∧ Below W.heap.size W w' := by
  refine (specAsk_any x r u0 u1 u4 u5 h W hh hr h0 h1 h4 h5 hsz ok).mono ?_
  rintro e w1 ⟨⟨v0, v1, v4, rfl, l0, z0, l1, z1, l4, z4, ho⟩, hb⟩
  obtain ⟨⟨i1, i2⟩, ⟨i3, i4⟩, ⟨i5, i6⟩, i7, i8, i9⟩ := ho.b
  exact ⟨⟨v0, v1, v4, l0, z0, l1, z1, l4, z4, rfl, ⟨ho.o0, i1, i2⟩, ⟨ho.o1, i3, i4⟩, ⟨ho.o4, i5, i6⟩, i7, i8, i9⟩, hb⟩
end Go.Proofs.YtfhcniifennfbaaGreatDoor
