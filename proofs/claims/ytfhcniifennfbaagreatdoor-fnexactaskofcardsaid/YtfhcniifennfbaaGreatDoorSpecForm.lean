/-
  What is read of a request, and what is asked: spec.l16Form and AskOf.
-/
import Derived.Test.YtfhcniifennfbaaGreatDoorSpecWhen
import Derived.Test.YtfhcniifennfbaaGreatDoorHas9
namespace Go.Proofs.YtfhcniifennfbaaGreatDoor
open Go.RowKit M
set_option linter.unusedVariables false

theorem specSubO_gen (l : List (List Cn)) (u : Value) (W : World) (h : View W W.heap.size u (.l (l.map dCs))) (hsz : szRs (l.map dCs) ≤ 1048576) :
    Calls Tryz.prog 53 #[u] W fun e w' => (∃ r : Value, e = .returned r ∧ Own w' r (.l ((subI l).map dI)) (IvG W.heap.size w'.heap.size)) ∧ Below W.heap.size W w' := by
  obtain ⟨a, cap, rfl, h1, h2, h3, h4⟩ := cnss_of_view h
  refine (specSub_any a l cap W.heap.size W h4 (Nat.le_refl _) (cns_small hsz).1 (flat_small hsz)).mono ?_
  rintro e w' ⟨⟨g, n, c, rfl, ho⟩, hb⟩
  have hr := ho.row ci_len
  exact ⟨⟨_, rfl, (own_of_ints ho).wide (fun y hy => by subst hy; exact ⟨hr.2.2.2.1, hr.2.2.2.2.1⟩)⟩, hb⟩
/-- What l16Form leaves in the block of what is asked. -/
structure FormR (w : World) (N L : Nat) (pa tl : List ByteArray) (de ov : Bool) (tk : List Int) (co : Int) (v0 v1 v4 : Value) (l0 u0 l1 u1 l4 u4 : Nat) : Prop where
  bx : BoxV w N [v0, v1, .bool de, .bool ov, v4, .int .i64 co]
  o0 : Own w v0 (.l (pa.map dS)) (IvG l0 u0)
  o1 : Own w v1 (.l (tl.map dS)) (IvG l1 u1)
  o4 : Own w v4 (.l (tk.map dI)) (IvG l4 u4)
  b0 : N < l0 ∧ u0 ≤ w.heap.size
  b1 : L ≤ l1 ∧ (u1 ≤ N ∨ N < l1) ∧ u1 ≤ w.heap.size
  b4 : L ≤ l4 ∧ (u4 ≤ N ∨ N < l4) ∧ u4 ≤ w.heap.size
  d : (u0 ≤ l1 ∨ u1 ≤ l0) ∧ (u0 ≤ l4 ∨ u4 ≤ l0) ∧ (u1 ≤ l4 ∨ u4 ≤ l1)
def FormO (w : World) (N L : Nat) (pa tl : List ByteArray) (de ov : Bool) (tk : List Int) (co : Int) : Prop := ∃ v0 v1 v4 l0 u0 l1 u1 l4 u4, FormR w N L pa tl de ov tk co v0 v1 v4 l0 u0 l1 u1 l4 u4
theorem other_ms : otherMs = [⟨#[71, 69, 84]⟩, ⟨#[72, 69, 65, 68]⟩, ⟨#[79, 80, 84, 73, 79, 78, 83]⟩, ⟨#[80, 82, 79, 80, 70, 73, 78, 68]⟩] := rfl

set_option maxRecDepth 100000 in
set_option maxHeartbeats 16000000 in
theorem specForm_gen (r : Rq) (h : Value) (W : World) (B N : Nat) (hB : B ≤ N) (hN : N < W.heap.size) (hh : View W B h (.l (r.hs.map dHd))) (hr : szR (dRq r) ≤ 1048576) (e0 e1 e4 : Value) (de ov : Bool) (co : Int) (ha : BoxV W N [e0, e1, .bool de, .bool ov, e4, .int .i64 co]) (m1 m4 L : Nat) (hm1 : L ≤ m1 ∧ m1 < N) (hm4 : L ≤ m4 ∧ m4 < N) (hmm : m1 + 1 ≤ m4) (hf1 : ∀ w : World, N < w.heap.size → Own w e1 (.l (([] : List ByteArray).map dS)) (IvG m1 (m1 + 1))) (hf4 : ∀ w : World, N < w.heap.size → Own w e4 (.l (([] : List Int).map dI)) (IvG m4 (m4 + 1))) :
    Calls Tryz.prog 23 #[.agg #[.string r.m, .string r.p, h, .string r.b], .pointer (some ⟨N, 0, none⟩)] W fun e w' => (e = .returned (.int .i64 (formI r)) ∧ FormO w' N L (pthV r).1 (toL r) de ov (if formI r = 0 then tkL r else []) co) ∧ Turn (fun y => y = N) W w' := by
  have hz : B ≤ W.heap.size := by omega
  have KB := hide (fun w' (t : Turn (fun y => y = N) W w') => (t.below (C := B) (fun y e => by subst e; exact hB) hz : Below B W w'))
  have HP := hide (fun W' => specParsePath_any r.p W' (req_p hr))
  have HQ := hide (fun W' => specParsePath_any (hdOf r.hs destN).1 W' (head_size destN (req_sz hr)))
  have HD := hide (fun W' (hb : Below B W W') => specHead_gen r.hs destN h W' (hh.atB hb hz))
  have HF := hide (fun W' (hb : Below B W W') => specHead_gen r.hs ifN h W' (hh.atB hb hz))
  have HI := hide (fun W' => specParseIf_gen (hdOf r.hs ifN).1 W' (Nat.le_trans (head_size ifN (req_sz hr)) (by decide)))
  have HE := hide (fun W' (hb : Below B W W') => specDep_gen r h W' (hh.atB hb hz) hr)
  have HC := hide (fun W' => specChanges_any r.m W')
  have HS := hide (fun W' (v : Value) (hv : View W' W'.heap.size v (.l ((ifLs (hdOf r.hs ifN).1).map dCs))) => specSubO_gen (ifLs (hdOf r.hs ifN).1) v W' hv (if_small _))
  have HTN := hide (@tk_none r)
  have hkn := known_has r.m
  have hfk := @far_known r.m
  have HV1 := hide hf1
  have HV4 := hide hf4
  obtain ⟨fo, hfo⟩ : ∃ fo, formI r = fo := ⟨_, rfl⟩
  obtain ⟨tkv, htv⟩ : ∃ tkv, (if formI r = 0 then tkL r else []) = tkv := ⟨_, rfl⟩
  obtain ⟨tlv, htl⟩ : ∃ tlv, toL r = tlv := ⟨_, rfl⟩
  rw [htv, hfo, htl]
  rw [hfo] at htv
  unfold formI cPath cMeth cTo cDep cIfF ifOkB pthV dstV ifV at hfo
  unfold toL pthV dstV at htl
  unfold tkL ifV at htv
  unfold pthV
  unfold tkL ifV at HTN
  rw [hkn] at hfk hfo
  have f0 := eq_COPY r.m
  have f1 := eq_MOVE r.m
  unfold farB at hfk hfo htl
  have HH := hide (fun (g : Nat) W' hc => l9Has_any g 4 4 otherMs r.m W' rfl (by decide) hc)
  generalize hasB otherMs r.m = c2 at *
  generalize chB r.m = c1 at *
  generalize decide (r.m = mCOPY) = b0 at *
  generalize decide (r.m = mMOVE) = b1 at *
  generalize depOkB r.m (depI r.hs 2) = dz at *
  generalize subI (ifLs (hdOf r.hs ifN).1) = tk at *
  generalize ifLs (hdOf r.hs ifN).1 = ls at *
  generalize (ifL (hdOf r.hs ifN).1.data.toList).isSome = iq at *
  generalize (hdOf r.hs ifN).1 = vi at *
  generalize (hdOf r.hs ifN).2 = it at *
  generalize hpp : parseP r.p.data.toList = pp at *
  generalize hqq : parseP (hdOf r.hs destN).1.data.toList = qq at *
  generalize (hdOf r.hs destN).1 = vd at *
  generalize (hdOf r.hs destN).2 = td at *
  have HFO := hide hfo.symm
  have HTV := hide htv.symm
  have HTL := hide htl.symm
  clear hpp hqq hkn hfo htv htl
  obtain ⟨pl, pb⟩ := pp
  obtain ⟨ql, qb⟩ := qq
  unfold destN at HD
  unfold ifN at HF
  obtain ⟨w0, hw0⟩ : ∃ w', W.alloc (Obj.cells #[.string r.m, .string r.p, h, .string r.b] 43) = w' := ⟨_, rfl⟩
  have K0 := hide (show Turn (fun y => y = N) W w0 by rw [← hw0]; exact Turn.of_below ((Below.refl _ _).alloc (Nat.le_refl _) _))
  have y0 : w0.heap.size = W.heap.size + 1 := by rw [← hw0]; simp
  have X_0 := hide (show BoxV w0 W.heap.size [.string r.m, .string r.p, h, .string r.b] by rw [← hw0]; exact BoxV.made _ _ _)
  have A_0 := hide (show BoxV w0 N [e0, e1, .bool de, .bool ov, e4, .int .i64 co] by rw [← hw0]; exact ha.alloc _)
  clear hh hr ha hf1 hf4
  cases pb
  · obtain rfl : 400 = fo := (HFO.out.trans (by first | rfl | (simp [firstI, cwI]; done))).symm
    obtain rfl : [] = tlv := (HTL.out.trans (by first | rfl | (simp; done) | (have hb : (b0 || b1) = false := by {cases hh : (b0 || b1) with | false => rfl | true => exact absurd (hfk hh) (by decide)}; simp [hb]))).symm
    obtain rfl : [] = tkv := (HTV.out.trans (by first | rfl | (simp; done))).symm
    clear HFO HTV HTL
    have cX1_0 := (X_0.out.2 1 _ rfl).1
    go_enter Tryz.func23, Tryz.ntmps23
    go_wp2_with fail
    refine (HP.out _).mono ?_
    rintro e w1 ⟨⟨p, rfl, ho⟩, b1⟩
    clear cX1_0 hw0
    have K1 := hide (K0.out.trans (Turn.of_below b1))
    have y1 := b1.size
    have X_1 := hide (X_0.out.next b1)
    have A_1 := hide (A_0.out.next b1)
    clear X_0 A_0
    obtain ⟨g0, hg1, hg2, hO⟩ := own_of_ownS ho
    obtain ⟨a0, q0, rfl, _⟩ := hO.rows 1 (fun _ => rfl)
    have OP_1 := hide hO
    clear ho hO
    clear b1
    obtain ⟨cA0_1, fA0_1⟩ := A_1.out.2 0 _ rfl
    obtain ⟨w2, hw2⟩ : ∃ w', (w1.setCell ⟨N, 0, none⟩ (.slice a0 pl.length q0)) = w' := ⟨_, rfl⟩
    have y2 : w2.heap.size = w1.heap.size := by rw [← hw2]; simp
    have K2 := hide (show Turn (fun y => y = N) W w2 by rw [← hw2]; exact (K1.out).trans (Turn.set _ ⟨N, 0, none⟩ _ rfl))
    have X_2 := hide (show BoxV w2 (W.heap.size) _ by rw [← hw2]; exact (X_1.out).other ⟨N, 0, none⟩ (.slice a0 pl.length q0) (by dsimp only; omega))
    have A_2 := hide (show BoxV w2 (N) [.slice a0 pl.length q0, e1, .bool de, .bool ov, e4, .int .i64 co] by rw [← hw2]; exact (A_1.out).set 0 (by simp) (.slice a0 pl.length q0))
    have OP_2 := hide (show Own w2 _ _ _ by rw [← hw2]; exact (OP_1.out).setCell ⟨N, 0, none⟩ (.slice a0 pl.length q0) (fun hh => by have h1 := hh.1; have h2 := hh.2; simp only at h1 h2; omega))
    clear X_1 A_1 OP_1
    go_wp2
    go_ret
    exact ⟨⟨rfl, _, _, _, g0, g0 + 1, m1, (m1 + 1), m4, (m4 + 1), A_2.out, OP_2.out, (HV1.out _ (by omega)), (HV4.out _ (by omega)), by omega, by omega, by omega, by omega⟩, K2.out⟩
  · cases c1
    · cases c2
      · obtain rfl : 501 = fo := (HFO.out.trans (by first | rfl | (simp [firstI, cwI]; done))).symm
        obtain rfl : [] = tlv := (HTL.out.trans (by first | rfl | (simp; done) | (have hb : (b0 || b1) = false := by {cases hh : (b0 || b1) with | false => rfl | true => exact absurd (hfk hh) (by decide)}; simp [hb]))).symm
        obtain rfl : [] = tkv := (HTV.out.trans (by first | rfl | (simp; done))).symm
        clear HFO HTV HTL
        have cX1_0 := (X_0.out.2 1 _ rfl).1
        go_enter Tryz.func23, Tryz.ntmps23
        go_wp2_with fail
        refine (HP.out _).mono ?_
        rintro e w1 ⟨⟨p, rfl, ho⟩, b1⟩
        clear cX1_0 hw0
        have K1 := hide (K0.out.trans (Turn.of_below b1))
        have y1 := b1.size
        have X_1 := hide (X_0.out.next b1)
        have A_1 := hide (A_0.out.next b1)
        clear X_0 A_0
        obtain ⟨g0, hg1, hg2, hO⟩ := own_of_ownS ho
        obtain ⟨a0, q0, rfl, _⟩ := hO.rows 1 (fun _ => rfl)
        have OP_1 := hide hO
        clear ho hO
        clear b1
        obtain ⟨cA0_1, fA0_1⟩ := A_1.out.2 0 _ rfl
        obtain ⟨w2, hw2⟩ : ∃ w', (w1.setCell ⟨N, 0, none⟩ (.slice a0 pl.length q0)) = w' := ⟨_, rfl⟩
        have y2 : w2.heap.size = w1.heap.size := by rw [← hw2]; simp
        have K2 := hide (show Turn (fun y => y = N) W w2 by rw [← hw2]; exact (K1.out).trans (Turn.set _ ⟨N, 0, none⟩ _ rfl))
        have X_2 := hide (show BoxV w2 (W.heap.size) _ by rw [← hw2]; exact (X_1.out).other ⟨N, 0, none⟩ (.slice a0 pl.length q0) (by dsimp only; omega))
        have A_2 := hide (show BoxV w2 (N) [.slice a0 pl.length q0, e1, .bool de, .bool ov, e4, .int .i64 co] by rw [← hw2]; exact (A_1.out).set 0 (by simp) (.slice a0 pl.length q0))
        have OP_2 := hide (show Own w2 _ _ _ by rw [← hw2]; exact (OP_1.out).setCell ⟨N, 0, none⟩ (.slice a0 pl.length q0) (fun hh => by have h1 := hh.1; have h2 := hh.2; simp only at h1 h2; omega))
        clear X_1 A_1 OP_1
        have cX0_2 := (X_2.out.2 0 _ rfl).1
        go_wp2_with fail
        refine (HC.out _).mono ?_
        rintro e w3 ⟨rfl, b3⟩
        clear cA0_1 fA0_1 hw2 cX0_2
        have K3 := hide (K2.out.trans (Turn.of_below b3))
        have y3 := b3.size
        have X_3 := hide (X_2.out.next b3)
        have A_3 := hide (A_2.out.next b3)
        have OP_3 := hide (OP_2.out.next b3)
        clear X_2 A_2 OP_2
        clear b3
        obtain ⟨w4, hw4⟩ : ∃ w', w3.alloc (Obj.cells #[.string ⟨#[71, 69, 84]⟩, .string ⟨#[72, 69, 65, 68]⟩, .string ⟨#[79, 80, 84, 73, 79, 78, 83]⟩, .string ⟨#[80, 82, 79, 80, 70, 73, 78, 68]⟩] 9) = w' := ⟨_, rfl⟩
        have b4 : Below w3.heap.size w3 w4 := by rw [← hw4]; exact (Below.refl _ _).alloc (Nat.le_refl _) _
        have y4 : w4.heap.size = w3.heap.size + 1 := by rw [← hw4]; simp
        have hS : BoxV w4 w3.heap.size [.string ⟨#[71, 69, 84]⟩, .string ⟨#[72, 69, 65, 68]⟩, .string ⟨#[79, 80, 84, 73, 79, 78, 83]⟩, .string ⟨#[80, 82, 79, 80, 70, 73, 78, 68]⟩] := by rw [← hw4]; exact BoxV.made _ _ _
        have K4 := hide (K3.out.trans (Turn.of_below b4))
        have X_4 := hide (X_3.out.next b4)
        have A_4 := hide (A_3.out.next b4)
        have OP_4 := hide (OP_3.out.next b4)
        clear X_3 A_3 OP_3
        have L_4 := hide hS
        clear hS b4
        have cX0_4 := (X_4.out.2 0 _ rfl).1
        have hcl : ∀ j (hj : j < otherMs.length), w4.cell? ⟨w3.heap.size, j, none⟩ = some (.string otherMs[j]) := fun j hj => by
          match j, hj with
          | 0, _ => exact (L_4.out.2 0 _ rfl).1
          | 1, _ => exact (L_4.out.2 1 _ rfl).1
          | 2, _ => exact (L_4.out.2 2 _ rfl).1
          | 3, _ => exact (L_4.out.2 3 _ rfl).1
        have HHQ := hide ((HH.out (w3.heap.size) _ hcl).mono (fun e w2 (q : _ ∧ _) => (⟨q.1, by rw [q.2]; exact Below.refl _ _⟩ : _ ∧ Below w4.heap.size w4 w2)))
        clear hcl
        go_wp2_with fail
        refine (HHQ.out).mono ?_
        rintro e w5 ⟨rfl, b5⟩
        clear hw4 cX0_4
        have K5 := hide (K4.out.trans (Turn.of_below b5))
        have y5 := b5.size
        have X_5 := hide (X_4.out.next b5)
        have A_5 := hide (A_4.out.next b5)
        have OP_5 := hide (OP_4.out.next b5)
        have L_5 := hide (L_4.out.next b5)
        clear X_4 A_4 OP_4 L_4
        clear b5
        clear HHQ L_5
        go_wp2
        go_ret
        exact ⟨⟨rfl, _, _, _, g0, g0 + 1, m1, (m1 + 1), m4, (m4 + 1), A_5.out, OP_5.out, (HV1.out _ (by omega)), (HV4.out _ (by omega)), by omega, by omega, by omega, by omega⟩, K5.out⟩
      · cases b0
        rotate_left
        · cases qb
          · obtain rfl : 400 = fo := (HFO.out.trans (by first | rfl | (simp [firstI, cwI]; done))).symm
            obtain rfl : ql = tlv := (HTL.out.trans (by first | rfl | (simp; done) | (have hb : (b0 || b1) = false := by {cases hh : (b0 || b1) with | false => rfl | true => exact absurd (hfk hh) (by decide)}; simp [hb]))).symm
            obtain rfl : [] = tkv := (HTV.out.trans (by first | rfl | (simp; done))).symm
            clear HFO HTV HTL
            have cX1_0 := (X_0.out.2 1 _ rfl).1
            go_enter Tryz.func23, Tryz.ntmps23
            go_wp2_with fail
            refine (HP.out _).mono ?_
            rintro e w1 ⟨⟨p, rfl, ho⟩, b1⟩
            clear cX1_0 hw0
            have K1 := hide (K0.out.trans (Turn.of_below b1))
            have y1 := b1.size
            have X_1 := hide (X_0.out.next b1)
            have A_1 := hide (A_0.out.next b1)
            clear X_0 A_0
            obtain ⟨g0, hg1, hg2, hO⟩ := own_of_ownS ho
            obtain ⟨a0, q0, rfl, _⟩ := hO.rows 1 (fun _ => rfl)
            have OP_1 := hide hO
            clear ho hO
            clear b1
            obtain ⟨cA0_1, fA0_1⟩ := A_1.out.2 0 _ rfl
            obtain ⟨w2, hw2⟩ : ∃ w', (w1.setCell ⟨N, 0, none⟩ (.slice a0 pl.length q0)) = w' := ⟨_, rfl⟩
            have y2 : w2.heap.size = w1.heap.size := by rw [← hw2]; simp
            have K2 := hide (show Turn (fun y => y = N) W w2 by rw [← hw2]; exact (K1.out).trans (Turn.set _ ⟨N, 0, none⟩ _ rfl))
            have X_2 := hide (show BoxV w2 (W.heap.size) _ by rw [← hw2]; exact (X_1.out).other ⟨N, 0, none⟩ (.slice a0 pl.length q0) (by dsimp only; omega))
            have A_2 := hide (show BoxV w2 (N) [.slice a0 pl.length q0, e1, .bool de, .bool ov, e4, .int .i64 co] by rw [← hw2]; exact (A_1.out).set 0 (by simp) (.slice a0 pl.length q0))
            have OP_2 := hide (show Own w2 _ _ _ by rw [← hw2]; exact (OP_1.out).setCell ⟨N, 0, none⟩ (.slice a0 pl.length q0) (fun hh => by have h1 := hh.1; have h2 := hh.2; simp only at h1 h2; omega))
            clear X_1 A_1 OP_1
            have cX0_2 := (X_2.out.2 0 _ rfl).1
            go_wp2_with fail
            refine (HC.out _).mono ?_
            rintro e w3 ⟨rfl, b3⟩
            clear cA0_1 fA0_1 hw2 cX0_2
            have K3 := hide (K2.out.trans (Turn.of_below b3))
            have y3 := b3.size
            have X_3 := hide (X_2.out.next b3)
            have A_3 := hide (A_2.out.next b3)
            have OP_3 := hide (OP_2.out.next b3)
            clear X_2 A_2 OP_2
            clear b3
            obtain ⟨w4, hw4⟩ : ∃ w', w3.alloc (Obj.cells #[.string ⟨#[71, 69, 84]⟩, .string ⟨#[72, 69, 65, 68]⟩, .string ⟨#[79, 80, 84, 73, 79, 78, 83]⟩, .string ⟨#[80, 82, 79, 80, 70, 73, 78, 68]⟩] 9) = w' := ⟨_, rfl⟩
            have b4 : Below w3.heap.size w3 w4 := by rw [← hw4]; exact (Below.refl _ _).alloc (Nat.le_refl _) _
            have y4 : w4.heap.size = w3.heap.size + 1 := by rw [← hw4]; simp
            have hS : BoxV w4 w3.heap.size [.string ⟨#[71, 69, 84]⟩, .string ⟨#[72, 69, 65, 68]⟩, .string ⟨#[79, 80, 84, 73, 79, 78, 83]⟩, .string ⟨#[80, 82, 79, 80, 70, 73, 78, 68]⟩] := by rw [← hw4]; exact BoxV.made _ _ _
            have K4 := hide (K3.out.trans (Turn.of_below b4))
            have X_4 := hide (X_3.out.next b4)
            have A_4 := hide (A_3.out.next b4)
            have OP_4 := hide (OP_3.out.next b4)
            clear X_3 A_3 OP_3
            have L_4 := hide hS
            clear hS b4
            have cX0_4 := (X_4.out.2 0 _ rfl).1
            have hcl : ∀ j (hj : j < otherMs.length), w4.cell? ⟨w3.heap.size, j, none⟩ = some (.string otherMs[j]) := fun j hj => by
              match j, hj with
              | 0, _ => exact (L_4.out.2 0 _ rfl).1
              | 1, _ => exact (L_4.out.2 1 _ rfl).1
              | 2, _ => exact (L_4.out.2 2 _ rfl).1
              | 3, _ => exact (L_4.out.2 3 _ rfl).1
            have HHQ := hide ((HH.out (w3.heap.size) _ hcl).mono (fun e w2 (q : _ ∧ _) => (⟨q.1, by rw [q.2]; exact Below.refl _ _⟩ : _ ∧ Below w4.heap.size w4 w2)))
            clear hcl
            go_wp2_with fail
            refine (HHQ.out).mono ?_
            rintro e w5 ⟨rfl, b5⟩
            clear hw4 cX0_4
            have K5 := hide (K4.out.trans (Turn.of_below b5))
            have y5 := b5.size
            have X_5 := hide (X_4.out.next b5)
            have A_5 := hide (A_4.out.next b5)
            have OP_5 := hide (OP_4.out.next b5)
            have L_5 := hide (L_4.out.next b5)
            clear X_4 A_4 OP_4 L_4
            clear b5
            clear HHQ L_5
            have cX0_5 := (X_5.out.2 0 _ rfl).1
            have cX2_5 := (X_5.out.2 2 _ rfl).1
            go_wp2_with fail
            refine (HD.out _ (KB.out _ K5.out)).mono ?_
            rintro e w6 ⟨rfl, b6⟩
            clear cX0_5 cX2_5
            have K6 := hide (K5.out.trans (Turn.of_below b6))
            have y6 := b6.size
            have X_6 := hide (X_5.out.next b6)
            have A_6 := hide (A_5.out.next b6)
            have OP_6 := hide (OP_5.out.next b6)
            clear X_5 A_5 OP_5
            clear b6
            go_wp2_with fail
            refine (HQ.out _).mono ?_
            rintro e w7 ⟨⟨p, rfl, ho⟩, b7⟩
            have K7 := hide (K6.out.trans (Turn.of_below b7))
            have y7 := b7.size
            have X_7 := hide (X_6.out.next b7)
            have A_7 := hide (A_6.out.next b7)
            have OP_7 := hide (OP_6.out.next b7)
            clear X_6 A_6 OP_6
            obtain ⟨g1, hg3, hg4, hO⟩ := own_of_ownS ho
            obtain ⟨a1, q1, rfl, _⟩ := hO.rows 1 (fun _ => rfl)
            have OQ_7 := hide hO
            clear ho hO
            clear b7
            obtain ⟨cA1_7, fA1_7⟩ := A_7.out.2 1 _ rfl
            obtain ⟨w8, hw8⟩ : ∃ w', (w7.setCell ⟨N, 1, none⟩ (.slice a1 ql.length q1)) = w' := ⟨_, rfl⟩
            have y8 : w8.heap.size = w7.heap.size := by rw [← hw8]; simp
            have K8 := hide (show Turn (fun y => y = N) W w8 by rw [← hw8]; exact (K7.out).trans (Turn.set _ ⟨N, 1, none⟩ _ rfl))
            have X_8 := hide (show BoxV w8 (W.heap.size) _ by rw [← hw8]; exact (X_7.out).other ⟨N, 1, none⟩ (.slice a1 ql.length q1) (by dsimp only; omega))
            have A_8 := hide (show BoxV w8 (N) [.slice a0 pl.length q0, .slice a1 ql.length q1, .bool de, .bool ov, e4, .int .i64 co] by rw [← hw8]; exact (A_7.out).set 1 (by simp) (.slice a1 ql.length q1))
            have OP_8 := hide (show Own w8 _ _ _ by rw [← hw8]; exact (OP_7.out).setCell ⟨N, 1, none⟩ (.slice a1 ql.length q1) (fun hh => by have h1 := hh.1; have h2 := hh.2; simp only at h1 h2; omega))
            have OQ_8 := hide (show Own w8 _ _ _ by rw [← hw8]; exact (OQ_7.out).setCell ⟨N, 1, none⟩ (.slice a1 ql.length q1) (fun hh => by have h1 := hh.1; have h2 := hh.2; simp only at h1 h2; omega))
            clear X_7 A_7 OP_7 OQ_7
            go_wp2
            go_ret
            exact ⟨⟨rfl, _, _, _, g0, g0 + 1, g1, (g1 + 1), m4, (m4 + 1), A_8.out, OP_8.out, OQ_8.out, (HV4.out _ (by omega)), by omega, by omega, by omega, by omega⟩, K8.out⟩
          · cases dz
            · obtain rfl : 400 = fo := (HFO.out.trans (by first | rfl | (simp [firstI, cwI]; done))).symm
              obtain rfl : ql = tlv := (HTL.out.trans (by first | rfl | (simp; done) | (have hb : (b0 || b1) = false := by {cases hh : (b0 || b1) with | false => rfl | true => exact absurd (hfk hh) (by decide)}; simp [hb]))).symm
              obtain rfl : [] = tkv := (HTV.out.trans (by first | rfl | (simp; done))).symm
              clear HFO HTV HTL
              have cX1_0 := (X_0.out.2 1 _ rfl).1
              go_enter Tryz.func23, Tryz.ntmps23
              go_wp2_with fail
              refine (HP.out _).mono ?_
              rintro e w1 ⟨⟨p, rfl, ho⟩, b1⟩
              clear cX1_0 hw0
              have K1 := hide (K0.out.trans (Turn.of_below b1))
              have y1 := b1.size
              have X_1 := hide (X_0.out.next b1)
              have A_1 := hide (A_0.out.next b1)
              clear X_0 A_0
              obtain ⟨g0, hg1, hg2, hO⟩ := own_of_ownS ho
              obtain ⟨a0, q0, rfl, _⟩ := hO.rows 1 (fun _ => rfl)
              have OP_1 := hide hO
              clear ho hO
              clear b1
              obtain ⟨cA0_1, fA0_1⟩ := A_1.out.2 0 _ rfl
              obtain ⟨w2, hw2⟩ : ∃ w', (w1.setCell ⟨N, 0, none⟩ (.slice a0 pl.length q0)) = w' := ⟨_, rfl⟩
              have y2 : w2.heap.size = w1.heap.size := by rw [← hw2]; simp
              have K2 := hide (show Turn (fun y => y = N) W w2 by rw [← hw2]; exact (K1.out).trans (Turn.set _ ⟨N, 0, none⟩ _ rfl))
              have X_2 := hide (show BoxV w2 (W.heap.size) _ by rw [← hw2]; exact (X_1.out).other ⟨N, 0, none⟩ (.slice a0 pl.length q0) (by dsimp only; omega))
              have A_2 := hide (show BoxV w2 (N) [.slice a0 pl.length q0, e1, .bool de, .bool ov, e4, .int .i64 co] by rw [← hw2]; exact (A_1.out).set 0 (by simp) (.slice a0 pl.length q0))
              have OP_2 := hide (show Own w2 _ _ _ by rw [← hw2]; exact (OP_1.out).setCell ⟨N, 0, none⟩ (.slice a0 pl.length q0) (fun hh => by have h1 := hh.1; have h2 := hh.2; simp only at h1 h2; omega))
              clear X_1 A_1 OP_1
              have cX0_2 := (X_2.out.2 0 _ rfl).1
              go_wp2_with fail
              refine (HC.out _).mono ?_
              rintro e w3 ⟨rfl, b3⟩
              clear cA0_1 fA0_1 hw2 cX0_2
              have K3 := hide (K2.out.trans (Turn.of_below b3))
              have y3 := b3.size
              have X_3 := hide (X_2.out.next b3)
              have A_3 := hide (A_2.out.next b3)
              have OP_3 := hide (OP_2.out.next b3)
              clear X_2 A_2 OP_2
              clear b3
              obtain ⟨w4, hw4⟩ : ∃ w', w3.alloc (Obj.cells #[.string ⟨#[71, 69, 84]⟩, .string ⟨#[72, 69, 65, 68]⟩, .string ⟨#[79, 80, 84, 73, 79, 78, 83]⟩, .string ⟨#[80, 82, 79, 80, 70, 73, 78, 68]⟩] 9) = w' := ⟨_, rfl⟩
              have b4 : Below w3.heap.size w3 w4 := by rw [← hw4]; exact (Below.refl _ _).alloc (Nat.le_refl _) _
              have y4 : w4.heap.size = w3.heap.size + 1 := by rw [← hw4]; simp
              have hS : BoxV w4 w3.heap.size [.string ⟨#[71, 69, 84]⟩, .string ⟨#[72, 69, 65, 68]⟩, .string ⟨#[79, 80, 84, 73, 79, 78, 83]⟩, .string ⟨#[80, 82, 79, 80, 70, 73, 78, 68]⟩] := by rw [← hw4]; exact BoxV.made _ _ _
              have K4 := hide (K3.out.trans (Turn.of_below b4))
              have X_4 := hide (X_3.out.next b4)
              have A_4 := hide (A_3.out.next b4)
              have OP_4 := hide (OP_3.out.next b4)
              clear X_3 A_3 OP_3
              have L_4 := hide hS
              clear hS b4
              have cX0_4 := (X_4.out.2 0 _ rfl).1
              have hcl : ∀ j (hj : j < otherMs.length), w4.cell? ⟨w3.heap.size, j, none⟩ = some (.string otherMs[j]) := fun j hj => by
                match j, hj with
                | 0, _ => exact (L_4.out.2 0 _ rfl).1
                | 1, _ => exact (L_4.out.2 1 _ rfl).1
                | 2, _ => exact (L_4.out.2 2 _ rfl).1
                | 3, _ => exact (L_4.out.2 3 _ rfl).1
              have HHQ := hide ((HH.out (w3.heap.size) _ hcl).mono (fun e w2 (q : _ ∧ _) => (⟨q.1, by rw [q.2]; exact Below.refl _ _⟩ : _ ∧ Below w4.heap.size w4 w2)))
              clear hcl
              go_wp2_with fail
              refine (HHQ.out).mono ?_
              rintro e w5 ⟨rfl, b5⟩
              clear hw4 cX0_4
              have K5 := hide (K4.out.trans (Turn.of_below b5))
              have y5 := b5.size
              have X_5 := hide (X_4.out.next b5)
              have A_5 := hide (A_4.out.next b5)
              have OP_5 := hide (OP_4.out.next b5)
              have L_5 := hide (L_4.out.next b5)
              clear X_4 A_4 OP_4 L_4
              clear b5
              clear HHQ L_5
              have cX0_5 := (X_5.out.2 0 _ rfl).1
              have cX2_5 := (X_5.out.2 2 _ rfl).1
              go_wp2_with fail
              refine (HD.out _ (KB.out _ K5.out)).mono ?_
              rintro e w6 ⟨rfl, b6⟩
              clear cX0_5 cX2_5
              have K6 := hide (K5.out.trans (Turn.of_below b6))
              have y6 := b6.size
              have X_6 := hide (X_5.out.next b6)
              have A_6 := hide (A_5.out.next b6)
              have OP_6 := hide (OP_5.out.next b6)
              clear X_5 A_5 OP_5
              clear b6
              go_wp2_with fail
              refine (HQ.out _).mono ?_
              rintro e w7 ⟨⟨p, rfl, ho⟩, b7⟩
              have K7 := hide (K6.out.trans (Turn.of_below b7))
              have y7 := b7.size
              have X_7 := hide (X_6.out.next b7)
              have A_7 := hide (A_6.out.next b7)
              have OP_7 := hide (OP_6.out.next b7)
              clear X_6 A_6 OP_6
              obtain ⟨g1, hg3, hg4, hO⟩ := own_of_ownS ho
              obtain ⟨a1, q1, rfl, _⟩ := hO.rows 1 (fun _ => rfl)
              have OQ_7 := hide hO
              clear ho hO
              clear b7
              obtain ⟨cA1_7, fA1_7⟩ := A_7.out.2 1 _ rfl
              obtain ⟨w8, hw8⟩ : ∃ w', (w7.setCell ⟨N, 1, none⟩ (.slice a1 ql.length q1)) = w' := ⟨_, rfl⟩
              have y8 : w8.heap.size = w7.heap.size := by rw [← hw8]; simp
              have K8 := hide (show Turn (fun y => y = N) W w8 by rw [← hw8]; exact (K7.out).trans (Turn.set _ ⟨N, 1, none⟩ _ rfl))
              have X_8 := hide (show BoxV w8 (W.heap.size) _ by rw [← hw8]; exact (X_7.out).other ⟨N, 1, none⟩ (.slice a1 ql.length q1) (by dsimp only; omega))
              have A_8 := hide (show BoxV w8 (N) [.slice a0 pl.length q0, .slice a1 ql.length q1, .bool de, .bool ov, e4, .int .i64 co] by rw [← hw8]; exact (A_7.out).set 1 (by simp) (.slice a1 ql.length q1))
              have OP_8 := hide (show Own w8 _ _ _ by rw [← hw8]; exact (OP_7.out).setCell ⟨N, 1, none⟩ (.slice a1 ql.length q1) (fun hh => by have h1 := hh.1; have h2 := hh.2; simp only at h1 h2; omega))
              have OQ_8 := hide (show Own w8 _ _ _ by rw [← hw8]; exact (OQ_7.out).setCell ⟨N, 1, none⟩ (.slice a1 ql.length q1) (fun hh => by have h1 := hh.1; have h2 := hh.2; simp only at h1 h2; omega))
              clear X_7 A_7 OP_7 OQ_7
              have cX2_8 := (X_8.out.2 2 _ rfl).1
              go_wp2_with fail
              refine (HF.out _ (KB.out _ K8.out)).mono ?_
              rintro e w9 ⟨rfl, b9⟩
              clear cA1_7 fA1_7 hw8 cX2_8
              have K9 := hide (K8.out.trans (Turn.of_below b9))
              have y9 := b9.size
              have X_9 := hide (X_8.out.next b9)
              have A_9 := hide (A_8.out.next b9)
              have OP_9 := hide (OP_8.out.next b9)
              have OQ_9 := hide (OQ_8.out.next b9)
              clear X_8 A_8 OP_8 OQ_8
              clear b9
              go_wp2_with fail
              refine (HI.out _).mono ?_
              rintro e w10 ⟨⟨lv, rfl, hv⟩, b10⟩
              have K10 := hide (K9.out.trans (Turn.of_below b10))
              have y10 := b10.size
              have X_10 := hide (X_9.out.next b10)
              have A_10 := hide (A_9.out.next b10)
              have OP_10 := hide (OP_9.out.next b10)
              have OQ_10 := hide (OQ_9.out.next b10)
              clear X_9 A_9 OP_9 OQ_9
              have V_10 := hide hv
              clear hv
              clear b10
              have cX0_10 := (X_10.out.2 0 _ rfl).1
              have cX1_10 := (X_10.out.2 1 _ rfl).1
              have cX2_10 := (X_10.out.2 2 _ rfl).1
              have cX3_10 := (X_10.out.2 3 _ rfl).1
              go_wp2_with fail
              refine (HE.out _ (KB.out _ K10.out)).mono ?_
              rintro e w11 ⟨rfl, b11⟩
              clear cX0_10 cX1_10 cX2_10 cX3_10
              have K11 := hide (K10.out.trans (Turn.of_below b11))
              have y11 := b11.size
              have X_11 := hide (X_10.out.next b11)
              have A_11 := hide (A_10.out.next b11)
              have OP_11 := hide (OP_10.out.next b11)
              have OQ_11 := hide (OQ_10.out.next b11)
              clear X_10 A_10 OP_10 OQ_10
              have V_11 := hide (V_10.out.atI b11)
              clear V_10
              clear b11
              go_wp2
              go_ret
              exact ⟨⟨rfl, _, _, _, g0, g0 + 1, g1, (g1 + 1), m4, (m4 + 1), A_11.out, OP_11.out, OQ_11.out, (HV4.out _ (by omega)), by omega, by omega, by omega, by omega⟩, K11.out⟩
            · cases it
              · have htk : tk = [] := HTN.out (by trivial)
                subst htk
                obtain rfl : 0 = fo := (HFO.out.trans (by first | rfl | (simp [firstI, cwI]; done))).symm
                obtain rfl : ql = tlv := (HTL.out.trans (by first | rfl | (simp; done) | (have hb : (b0 || b1) = false := by {cases hh : (b0 || b1) with | false => rfl | true => exact absurd (hfk hh) (by decide)}; simp [hb]))).symm
                obtain rfl : [] = tkv := (HTV.out.trans (by first | rfl | (simp; done))).symm
                clear HFO HTV HTL
                have cX1_0 := (X_0.out.2 1 _ rfl).1
                go_enter Tryz.func23, Tryz.ntmps23
                go_wp2_with fail
                refine (HP.out _).mono ?_
                rintro e w1 ⟨⟨p, rfl, ho⟩, b1⟩
                clear cX1_0 hw0
                have K1 := hide (K0.out.trans (Turn.of_below b1))
                have y1 := b1.size
                have X_1 := hide (X_0.out.next b1)
                have A_1 := hide (A_0.out.next b1)
                clear X_0 A_0
                obtain ⟨g0, hg1, hg2, hO⟩ := own_of_ownS ho
                obtain ⟨a0, q0, rfl, _⟩ := hO.rows 1 (fun _ => rfl)
                have OP_1 := hide hO
                clear ho hO
                clear b1
                obtain ⟨cA0_1, fA0_1⟩ := A_1.out.2 0 _ rfl
                obtain ⟨w2, hw2⟩ : ∃ w', (w1.setCell ⟨N, 0, none⟩ (.slice a0 pl.length q0)) = w' := ⟨_, rfl⟩
                have y2 : w2.heap.size = w1.heap.size := by rw [← hw2]; simp
                have K2 := hide (show Turn (fun y => y = N) W w2 by rw [← hw2]; exact (K1.out).trans (Turn.set _ ⟨N, 0, none⟩ _ rfl))
                have X_2 := hide (show BoxV w2 (W.heap.size) _ by rw [← hw2]; exact (X_1.out).other ⟨N, 0, none⟩ (.slice a0 pl.length q0) (by dsimp only; omega))
                have A_2 := hide (show BoxV w2 (N) [.slice a0 pl.length q0, e1, .bool de, .bool ov, e4, .int .i64 co] by rw [← hw2]; exact (A_1.out).set 0 (by simp) (.slice a0 pl.length q0))
                have OP_2 := hide (show Own w2 _ _ _ by rw [← hw2]; exact (OP_1.out).setCell ⟨N, 0, none⟩ (.slice a0 pl.length q0) (fun hh => by have h1 := hh.1; have h2 := hh.2; simp only at h1 h2; omega))
                clear X_1 A_1 OP_1
                have cX0_2 := (X_2.out.2 0 _ rfl).1
                go_wp2_with fail
                refine (HC.out _).mono ?_
                rintro e w3 ⟨rfl, b3⟩
                clear cA0_1 fA0_1 hw2 cX0_2
                have K3 := hide (K2.out.trans (Turn.of_below b3))
                have y3 := b3.size
                have X_3 := hide (X_2.out.next b3)
                have A_3 := hide (A_2.out.next b3)
                have OP_3 := hide (OP_2.out.next b3)
                clear X_2 A_2 OP_2
                clear b3
                obtain ⟨w4, hw4⟩ : ∃ w', w3.alloc (Obj.cells #[.string ⟨#[71, 69, 84]⟩, .string ⟨#[72, 69, 65, 68]⟩, .string ⟨#[79, 80, 84, 73, 79, 78, 83]⟩, .string ⟨#[80, 82, 79, 80, 70, 73, 78, 68]⟩] 9) = w' := ⟨_, rfl⟩
                have b4 : Below w3.heap.size w3 w4 := by rw [← hw4]; exact (Below.refl _ _).alloc (Nat.le_refl _) _
                have y4 : w4.heap.size = w3.heap.size + 1 := by rw [← hw4]; simp
                have hS : BoxV w4 w3.heap.size [.string ⟨#[71, 69, 84]⟩, .string ⟨#[72, 69, 65, 68]⟩, .string ⟨#[79, 80, 84, 73, 79, 78, 83]⟩, .string ⟨#[80, 82, 79, 80, 70, 73, 78, 68]⟩] := by rw [← hw4]; exact BoxV.made _ _ _
                have K4 := hide (K3.out.trans (Turn.of_below b4))
                have X_4 := hide (X_3.out.next b4)
                have A_4 := hide (A_3.out.next b4)
                have OP_4 := hide (OP_3.out.next b4)
                clear X_3 A_3 OP_3
                have L_4 := hide hS
                clear hS b4
                have cX0_4 := (X_4.out.2 0 _ rfl).1
                have hcl : ∀ j (hj : j < otherMs.length), w4.cell? ⟨w3.heap.size, j, none⟩ = some (.string otherMs[j]) := fun j hj => by
                  match j, hj with
                  | 0, _ => exact (L_4.out.2 0 _ rfl).1
                  | 1, _ => exact (L_4.out.2 1 _ rfl).1
                  | 2, _ => exact (L_4.out.2 2 _ rfl).1
                  | 3, _ => exact (L_4.out.2 3 _ rfl).1
                have HHQ := hide ((HH.out (w3.heap.size) _ hcl).mono (fun e w2 (q : _ ∧ _) => (⟨q.1, by rw [q.2]; exact Below.refl _ _⟩ : _ ∧ Below w4.heap.size w4 w2)))
                clear hcl
                go_wp2_with fail
                refine (HHQ.out).mono ?_
                rintro e w5 ⟨rfl, b5⟩
                clear hw4 cX0_4
                have K5 := hide (K4.out.trans (Turn.of_below b5))
                have y5 := b5.size
                have X_5 := hide (X_4.out.next b5)
                have A_5 := hide (A_4.out.next b5)
                have OP_5 := hide (OP_4.out.next b5)
                have L_5 := hide (L_4.out.next b5)
                clear X_4 A_4 OP_4 L_4
                clear b5
                clear HHQ L_5
                have cX0_5 := (X_5.out.2 0 _ rfl).1
                have cX2_5 := (X_5.out.2 2 _ rfl).1
                go_wp2_with fail
                refine (HD.out _ (KB.out _ K5.out)).mono ?_
                rintro e w6 ⟨rfl, b6⟩
                clear cX0_5 cX2_5
                have K6 := hide (K5.out.trans (Turn.of_below b6))
                have y6 := b6.size
                have X_6 := hide (X_5.out.next b6)
                have A_6 := hide (A_5.out.next b6)
                have OP_6 := hide (OP_5.out.next b6)
                clear X_5 A_5 OP_5
                clear b6
                go_wp2_with fail
                refine (HQ.out _).mono ?_
                rintro e w7 ⟨⟨p, rfl, ho⟩, b7⟩
                have K7 := hide (K6.out.trans (Turn.of_below b7))
                have y7 := b7.size
                have X_7 := hide (X_6.out.next b7)
                have A_7 := hide (A_6.out.next b7)
                have OP_7 := hide (OP_6.out.next b7)
                clear X_6 A_6 OP_6
                obtain ⟨g1, hg3, hg4, hO⟩ := own_of_ownS ho
                obtain ⟨a1, q1, rfl, _⟩ := hO.rows 1 (fun _ => rfl)
                have OQ_7 := hide hO
                clear ho hO
                clear b7
                obtain ⟨cA1_7, fA1_7⟩ := A_7.out.2 1 _ rfl
                obtain ⟨w8, hw8⟩ : ∃ w', (w7.setCell ⟨N, 1, none⟩ (.slice a1 ql.length q1)) = w' := ⟨_, rfl⟩
                have y8 : w8.heap.size = w7.heap.size := by rw [← hw8]; simp
                have K8 := hide (show Turn (fun y => y = N) W w8 by rw [← hw8]; exact (K7.out).trans (Turn.set _ ⟨N, 1, none⟩ _ rfl))
                have X_8 := hide (show BoxV w8 (W.heap.size) _ by rw [← hw8]; exact (X_7.out).other ⟨N, 1, none⟩ (.slice a1 ql.length q1) (by dsimp only; omega))
                have A_8 := hide (show BoxV w8 (N) [.slice a0 pl.length q0, .slice a1 ql.length q1, .bool de, .bool ov, e4, .int .i64 co] by rw [← hw8]; exact (A_7.out).set 1 (by simp) (.slice a1 ql.length q1))
                have OP_8 := hide (show Own w8 _ _ _ by rw [← hw8]; exact (OP_7.out).setCell ⟨N, 1, none⟩ (.slice a1 ql.length q1) (fun hh => by have h1 := hh.1; have h2 := hh.2; simp only at h1 h2; omega))
                have OQ_8 := hide (show Own w8 _ _ _ by rw [← hw8]; exact (OQ_7.out).setCell ⟨N, 1, none⟩ (.slice a1 ql.length q1) (fun hh => by have h1 := hh.1; have h2 := hh.2; simp only at h1 h2; omega))
                clear X_7 A_7 OP_7 OQ_7
                have cX2_8 := (X_8.out.2 2 _ rfl).1
                go_wp2_with fail
                refine (HF.out _ (KB.out _ K8.out)).mono ?_
                rintro e w9 ⟨rfl, b9⟩
                clear cA1_7 fA1_7 hw8 cX2_8
                have K9 := hide (K8.out.trans (Turn.of_below b9))
                have y9 := b9.size
                have X_9 := hide (X_8.out.next b9)
                have A_9 := hide (A_8.out.next b9)
                have OP_9 := hide (OP_8.out.next b9)
                have OQ_9 := hide (OQ_8.out.next b9)
                clear X_8 A_8 OP_8 OQ_8
                clear b9
                go_wp2_with fail
                refine (HI.out _).mono ?_
                rintro e w10 ⟨⟨lv, rfl, hv⟩, b10⟩
                have K10 := hide (K9.out.trans (Turn.of_below b10))
                have y10 := b10.size
                have X_10 := hide (X_9.out.next b10)
                have A_10 := hide (A_9.out.next b10)
                have OP_10 := hide (OP_9.out.next b10)
                have OQ_10 := hide (OQ_9.out.next b10)
                clear X_9 A_9 OP_9 OQ_9
                have V_10 := hide hv
                clear hv
                clear b10
                have cX0_10 := (X_10.out.2 0 _ rfl).1
                have cX1_10 := (X_10.out.2 1 _ rfl).1
                have cX2_10 := (X_10.out.2 2 _ rfl).1
                have cX3_10 := (X_10.out.2 3 _ rfl).1
                go_wp2_with fail
                refine (HE.out _ (KB.out _ K10.out)).mono ?_
                rintro e w11 ⟨rfl, b11⟩
                clear cX0_10 cX1_10 cX2_10 cX3_10
                have K11 := hide (K10.out.trans (Turn.of_below b11))
                have y11 := b11.size
                have X_11 := hide (X_10.out.next b11)
                have A_11 := hide (A_10.out.next b11)
                have OP_11 := hide (OP_10.out.next b11)
                have OQ_11 := hide (OQ_10.out.next b11)
                clear X_10 A_10 OP_10 OQ_10
                have V_11 := hide (V_10.out.atI b11)
                clear V_10
                clear b11
                go_wp2
                go_ret
                exact ⟨⟨rfl, _, _, _, g0, g0 + 1, g1, (g1 + 1), m4, (m4 + 1), A_11.out, OP_11.out, OQ_11.out, (HV4.out _ (by omega)), by omega, by omega, by omega, by omega⟩, K11.out⟩
              · cases iq
                · obtain rfl : 400 = fo := (HFO.out.trans (by first | rfl | (simp [firstI, cwI]; done))).symm
                  obtain rfl : ql = tlv := (HTL.out.trans (by first | rfl | (simp; done) | (have hb : (b0 || b1) = false := by {cases hh : (b0 || b1) with | false => rfl | true => exact absurd (hfk hh) (by decide)}; simp [hb]))).symm
                  obtain rfl : [] = tkv := (HTV.out.trans (by first | rfl | (simp; done))).symm
                  clear HFO HTV HTL
                  have cX1_0 := (X_0.out.2 1 _ rfl).1
                  go_enter Tryz.func23, Tryz.ntmps23
                  go_wp2_with fail
                  refine (HP.out _).mono ?_
                  rintro e w1 ⟨⟨p, rfl, ho⟩, b1⟩
                  clear cX1_0 hw0
                  have K1 := hide (K0.out.trans (Turn.of_below b1))
                  have y1 := b1.size
                  have X_1 := hide (X_0.out.next b1)
                  have A_1 := hide (A_0.out.next b1)
                  clear X_0 A_0
                  obtain ⟨g0, hg1, hg2, hO⟩ := own_of_ownS ho
                  obtain ⟨a0, q0, rfl, _⟩ := hO.rows 1 (fun _ => rfl)
                  have OP_1 := hide hO
                  clear ho hO
                  clear b1
                  obtain ⟨cA0_1, fA0_1⟩ := A_1.out.2 0 _ rfl
                  obtain ⟨w2, hw2⟩ : ∃ w', (w1.setCell ⟨N, 0, none⟩ (.slice a0 pl.length q0)) = w' := ⟨_, rfl⟩
                  have y2 : w2.heap.size = w1.heap.size := by rw [← hw2]; simp
                  have K2 := hide (show Turn (fun y => y = N) W w2 by rw [← hw2]; exact (K1.out).trans (Turn.set _ ⟨N, 0, none⟩ _ rfl))
                  have X_2 := hide (show BoxV w2 (W.heap.size) _ by rw [← hw2]; exact (X_1.out).other ⟨N, 0, none⟩ (.slice a0 pl.length q0) (by dsimp only; omega))
                  have A_2 := hide (show BoxV w2 (N) [.slice a0 pl.length q0, e1, .bool de, .bool ov, e4, .int .i64 co] by rw [← hw2]; exact (A_1.out).set 0 (by simp) (.slice a0 pl.length q0))
                  have OP_2 := hide (show Own w2 _ _ _ by rw [← hw2]; exact (OP_1.out).setCell ⟨N, 0, none⟩ (.slice a0 pl.length q0) (fun hh => by have h1 := hh.1; have h2 := hh.2; simp only at h1 h2; omega))
                  clear X_1 A_1 OP_1
                  have cX0_2 := (X_2.out.2 0 _ rfl).1
                  go_wp2_with fail
                  refine (HC.out _).mono ?_
                  rintro e w3 ⟨rfl, b3⟩
                  clear cA0_1 fA0_1 hw2 cX0_2
                  have K3 := hide (K2.out.trans (Turn.of_below b3))
                  have y3 := b3.size
                  have X_3 := hide (X_2.out.next b3)
                  have A_3 := hide (A_2.out.next b3)
                  have OP_3 := hide (OP_2.out.next b3)
                  clear X_2 A_2 OP_2
                  clear b3
                  obtain ⟨w4, hw4⟩ : ∃ w', w3.alloc (Obj.cells #[.string ⟨#[71, 69, 84]⟩, .string ⟨#[72, 69, 65, 68]⟩, .string ⟨#[79, 80, 84, 73, 79, 78, 83]⟩, .string ⟨#[80, 82, 79, 80, 70, 73, 78, 68]⟩] 9) = w' := ⟨_, rfl⟩
                  have b4 : Below w3.heap.size w3 w4 := by rw [← hw4]; exact (Below.refl _ _).alloc (Nat.le_refl _) _
                  have y4 : w4.heap.size = w3.heap.size + 1 := by rw [← hw4]; simp
                  have hS : BoxV w4 w3.heap.size [.string ⟨#[71, 69, 84]⟩, .string ⟨#[72, 69, 65, 68]⟩, .string ⟨#[79, 80, 84, 73, 79, 78, 83]⟩, .string ⟨#[80, 82, 79, 80, 70, 73, 78, 68]⟩] := by rw [← hw4]; exact BoxV.made _ _ _
                  have K4 := hide (K3.out.trans (Turn.of_below b4))
                  have X_4 := hide (X_3.out.next b4)
                  have A_4 := hide (A_3.out.next b4)
                  have OP_4 := hide (OP_3.out.next b4)
                  clear X_3 A_3 OP_3
                  have L_4 := hide hS
                  clear hS b4
                  have cX0_4 := (X_4.out.2 0 _ rfl).1
                  have hcl : ∀ j (hj : j < otherMs.length), w4.cell? ⟨w3.heap.size, j, none⟩ = some (.string otherMs[j]) := fun j hj => by
                    match j, hj with
                    | 0, _ => exact (L_4.out.2 0 _ rfl).1
                    | 1, _ => exact (L_4.out.2 1 _ rfl).1
                    | 2, _ => exact (L_4.out.2 2 _ rfl).1
                    | 3, _ => exact (L_4.out.2 3 _ rfl).1
                  have HHQ := hide ((HH.out (w3.heap.size) _ hcl).mono (fun e w2 (q : _ ∧ _) => (⟨q.1, by rw [q.2]; exact Below.refl _ _⟩ : _ ∧ Below w4.heap.size w4 w2)))
                  clear hcl
                  go_wp2_with fail
                  refine (HHQ.out).mono ?_
                  rintro e w5 ⟨rfl, b5⟩
                  clear hw4 cX0_4
                  have K5 := hide (K4.out.trans (Turn.of_below b5))
                  have y5 := b5.size
                  have X_5 := hide (X_4.out.next b5)
                  have A_5 := hide (A_4.out.next b5)
                  have OP_5 := hide (OP_4.out.next b5)
                  have L_5 := hide (L_4.out.next b5)
                  clear X_4 A_4 OP_4 L_4
                  clear b5
                  clear HHQ L_5
                  have cX0_5 := (X_5.out.2 0 _ rfl).1
                  have cX2_5 := (X_5.out.2 2 _ rfl).1
                  go_wp2_with fail
                  refine (HD.out _ (KB.out _ K5.out)).mono ?_
                  rintro e w6 ⟨rfl, b6⟩
                  clear cX0_5 cX2_5
                  have K6 := hide (K5.out.trans (Turn.of_below b6))
                  have y6 := b6.size
                  have X_6 := hide (X_5.out.next b6)
                  have A_6 := hide (A_5.out.next b6)
                  have OP_6 := hide (OP_5.out.next b6)
                  clear X_5 A_5 OP_5
                  clear b6
                  go_wp2_with fail
                  refine (HQ.out _).mono ?_
                  rintro e w7 ⟨⟨p, rfl, ho⟩, b7⟩
                  have K7 := hide (K6.out.trans (Turn.of_below b7))
                  have y7 := b7.size
                  have X_7 := hide (X_6.out.next b7)
                  have A_7 := hide (A_6.out.next b7)
                  have OP_7 := hide (OP_6.out.next b7)
                  clear X_6 A_6 OP_6
                  obtain ⟨g1, hg3, hg4, hO⟩ := own_of_ownS ho
                  obtain ⟨a1, q1, rfl, _⟩ := hO.rows 1 (fun _ => rfl)
                  have OQ_7 := hide hO
                  clear ho hO
                  clear b7
                  obtain ⟨cA1_7, fA1_7⟩ := A_7.out.2 1 _ rfl
                  obtain ⟨w8, hw8⟩ : ∃ w', (w7.setCell ⟨N, 1, none⟩ (.slice a1 ql.length q1)) = w' := ⟨_, rfl⟩
                  have y8 : w8.heap.size = w7.heap.size := by rw [← hw8]; simp
                  have K8 := hide (show Turn (fun y => y = N) W w8 by rw [← hw8]; exact (K7.out).trans (Turn.set _ ⟨N, 1, none⟩ _ rfl))
                  have X_8 := hide (show BoxV w8 (W.heap.size) _ by rw [← hw8]; exact (X_7.out).other ⟨N, 1, none⟩ (.slice a1 ql.length q1) (by dsimp only; omega))
                  have A_8 := hide (show BoxV w8 (N) [.slice a0 pl.length q0, .slice a1 ql.length q1, .bool de, .bool ov, e4, .int .i64 co] by rw [← hw8]; exact (A_7.out).set 1 (by simp) (.slice a1 ql.length q1))
                  have OP_8 := hide (show Own w8 _ _ _ by rw [← hw8]; exact (OP_7.out).setCell ⟨N, 1, none⟩ (.slice a1 ql.length q1) (fun hh => by have h1 := hh.1; have h2 := hh.2; simp only at h1 h2; omega))
                  have OQ_8 := hide (show Own w8 _ _ _ by rw [← hw8]; exact (OQ_7.out).setCell ⟨N, 1, none⟩ (.slice a1 ql.length q1) (fun hh => by have h1 := hh.1; have h2 := hh.2; simp only at h1 h2; omega))
                  clear X_7 A_7 OP_7 OQ_7
                  have cX2_8 := (X_8.out.2 2 _ rfl).1
                  go_wp2_with fail
                  refine (HF.out _ (KB.out _ K8.out)).mono ?_
                  rintro e w9 ⟨rfl, b9⟩
                  clear cA1_7 fA1_7 hw8 cX2_8
                  have K9 := hide (K8.out.trans (Turn.of_below b9))
                  have y9 := b9.size
                  have X_9 := hide (X_8.out.next b9)
                  have A_9 := hide (A_8.out.next b9)
                  have OP_9 := hide (OP_8.out.next b9)
                  have OQ_9 := hide (OQ_8.out.next b9)
                  clear X_8 A_8 OP_8 OQ_8
                  clear b9
                  go_wp2_with fail
                  refine (HI.out _).mono ?_
                  rintro e w10 ⟨⟨lv, rfl, hv⟩, b10⟩
                  have K10 := hide (K9.out.trans (Turn.of_below b10))
                  have y10 := b10.size
                  have X_10 := hide (X_9.out.next b10)
                  have A_10 := hide (A_9.out.next b10)
                  have OP_10 := hide (OP_9.out.next b10)
                  have OQ_10 := hide (OQ_9.out.next b10)
                  clear X_9 A_9 OP_9 OQ_9
                  have V_10 := hide hv
                  clear hv
                  clear b10
                  have cX0_10 := (X_10.out.2 0 _ rfl).1
                  have cX1_10 := (X_10.out.2 1 _ rfl).1
                  have cX2_10 := (X_10.out.2 2 _ rfl).1
                  have cX3_10 := (X_10.out.2 3 _ rfl).1
                  go_wp2_with fail
                  refine (HE.out _ (KB.out _ K10.out)).mono ?_
                  rintro e w11 ⟨rfl, b11⟩
                  clear cX0_10 cX1_10 cX2_10 cX3_10
                  have K11 := hide (K10.out.trans (Turn.of_below b11))
                  have y11 := b11.size
                  have X_11 := hide (X_10.out.next b11)
                  have A_11 := hide (A_10.out.next b11)
                  have OP_11 := hide (OP_10.out.next b11)
                  have OQ_11 := hide (OQ_10.out.next b11)
                  clear X_10 A_10 OP_10 OQ_10
                  have V_11 := hide (V_10.out.atI b11)
                  clear V_10
                  clear b11
                  go_wp2
                  go_ret
                  exact ⟨⟨rfl, _, _, _, g0, g0 + 1, g1, (g1 + 1), m4, (m4 + 1), A_11.out, OP_11.out, OQ_11.out, (HV4.out _ (by omega)), by omega, by omega, by omega, by omega⟩, K11.out⟩
                · obtain rfl : 0 = fo := (HFO.out.trans (by first | rfl | (simp [firstI, cwI]; done))).symm
                  obtain rfl : ql = tlv := (HTL.out.trans (by first | rfl | (simp; done) | (have hb : (b0 || b1) = false := by {cases hh : (b0 || b1) with | false => rfl | true => exact absurd (hfk hh) (by decide)}; simp [hb]))).symm
                  obtain rfl : tk = tkv := (HTV.out.trans (by first | rfl | (simp; done))).symm
                  clear HFO HTV HTL
                  have cX1_0 := (X_0.out.2 1 _ rfl).1
                  go_enter Tryz.func23, Tryz.ntmps23
                  go_wp2_with fail
                  refine (HP.out _).mono ?_
                  rintro e w1 ⟨⟨p, rfl, ho⟩, b1⟩
                  clear cX1_0 hw0
                  have K1 := hide (K0.out.trans (Turn.of_below b1))
                  have y1 := b1.size
                  have X_1 := hide (X_0.out.next b1)
                  have A_1 := hide (A_0.out.next b1)
                  clear X_0 A_0
                  obtain ⟨g0, hg1, hg2, hO⟩ := own_of_ownS ho
                  obtain ⟨a0, q0, rfl, _⟩ := hO.rows 1 (fun _ => rfl)
                  have OP_1 := hide hO
                  clear ho hO
                  clear b1
                  obtain ⟨cA0_1, fA0_1⟩ := A_1.out.2 0 _ rfl
                  obtain ⟨w2, hw2⟩ : ∃ w', (w1.setCell ⟨N, 0, none⟩ (.slice a0 pl.length q0)) = w' := ⟨_, rfl⟩
                  have y2 : w2.heap.size = w1.heap.size := by rw [← hw2]; simp
                  have K2 := hide (show Turn (fun y => y = N) W w2 by rw [← hw2]; exact (K1.out).trans (Turn.set _ ⟨N, 0, none⟩ _ rfl))
                  have X_2 := hide (show BoxV w2 (W.heap.size) _ by rw [← hw2]; exact (X_1.out).other ⟨N, 0, none⟩ (.slice a0 pl.length q0) (by dsimp only; omega))
                  have A_2 := hide (show BoxV w2 (N) [.slice a0 pl.length q0, e1, .bool de, .bool ov, e4, .int .i64 co] by rw [← hw2]; exact (A_1.out).set 0 (by simp) (.slice a0 pl.length q0))
                  have OP_2 := hide (show Own w2 _ _ _ by rw [← hw2]; exact (OP_1.out).setCell ⟨N, 0, none⟩ (.slice a0 pl.length q0) (fun hh => by have h1 := hh.1; have h2 := hh.2; simp only at h1 h2; omega))
                  clear X_1 A_1 OP_1
                  have cX0_2 := (X_2.out.2 0 _ rfl).1
                  go_wp2_with fail
                  refine (HC.out _).mono ?_
                  rintro e w3 ⟨rfl, b3⟩
                  clear cA0_1 fA0_1 hw2 cX0_2
                  have K3 := hide (K2.out.trans (Turn.of_below b3))
                  have y3 := b3.size
                  have X_3 := hide (X_2.out.next b3)
                  have A_3 := hide (A_2.out.next b3)
                  have OP_3 := hide (OP_2.out.next b3)
                  clear X_2 A_2 OP_2
                  clear b3
                  obtain ⟨w4, hw4⟩ : ∃ w', w3.alloc (Obj.cells #[.string ⟨#[71, 69, 84]⟩, .string ⟨#[72, 69, 65, 68]⟩, .string ⟨#[79, 80, 84, 73, 79, 78, 83]⟩, .string ⟨#[80, 82, 79, 80, 70, 73, 78, 68]⟩] 9) = w' := ⟨_, rfl⟩
                  have b4 : Below w3.heap.size w3 w4 := by rw [← hw4]; exact (Below.refl _ _).alloc (Nat.le_refl _) _
                  have y4 : w4.heap.size = w3.heap.size + 1 := by rw [← hw4]; simp
                  have hS : BoxV w4 w3.heap.size [.string ⟨#[71, 69, 84]⟩, .string ⟨#[72, 69, 65, 68]⟩, .string ⟨#[79, 80, 84, 73, 79, 78, 83]⟩, .string ⟨#[80, 82, 79, 80, 70, 73, 78, 68]⟩] := by rw [← hw4]; exact BoxV.made _ _ _
                  have K4 := hide (K3.out.trans (Turn.of_below b4))
                  have X_4 := hide (X_3.out.next b4)
                  have A_4 := hide (A_3.out.next b4)
                  have OP_4 := hide (OP_3.out.next b4)
                  clear X_3 A_3 OP_3
                  have L_4 := hide hS
                  clear hS b4
                  have cX0_4 := (X_4.out.2 0 _ rfl).1
                  have hcl : ∀ j (hj : j < otherMs.length), w4.cell? ⟨w3.heap.size, j, none⟩ = some (.string otherMs[j]) := fun j hj => by
                    match j, hj with
                    | 0, _ => exact (L_4.out.2 0 _ rfl).1
                    | 1, _ => exact (L_4.out.2 1 _ rfl).1
                    | 2, _ => exact (L_4.out.2 2 _ rfl).1
                    | 3, _ => exact (L_4.out.2 3 _ rfl).1
                  have HHQ := hide ((HH.out (w3.heap.size) _ hcl).mono (fun e w2 (q : _ ∧ _) => (⟨q.1, by rw [q.2]; exact Below.refl _ _⟩ : _ ∧ Below w4.heap.size w4 w2)))
                  clear hcl
                  go_wp2_with fail
                  refine (HHQ.out).mono ?_
                  rintro e w5 ⟨rfl, b5⟩
                  clear hw4 cX0_4
                  have K5 := hide (K4.out.trans (Turn.of_below b5))
                  have y5 := b5.size
                  have X_5 := hide (X_4.out.next b5)
                  have A_5 := hide (A_4.out.next b5)
                  have OP_5 := hide (OP_4.out.next b5)
                  have L_5 := hide (L_4.out.next b5)
                  clear X_4 A_4 OP_4 L_4
                  clear b5
                  clear HHQ L_5
                  have cX0_5 := (X_5.out.2 0 _ rfl).1
                  have cX2_5 := (X_5.out.2 2 _ rfl).1
                  go_wp2_with fail
                  refine (HD.out _ (KB.out _ K5.out)).mono ?_
                  rintro e w6 ⟨rfl, b6⟩
                  clear cX0_5 cX2_5
                  have K6 := hide (K5.out.trans (Turn.of_below b6))
                  have y6 := b6.size
                  have X_6 := hide (X_5.out.next b6)
                  have A_6 := hide (A_5.out.next b6)
                  have OP_6 := hide (OP_5.out.next b6)
                  clear X_5 A_5 OP_5
                  clear b6
                  go_wp2_with fail
                  refine (HQ.out _).mono ?_
                  rintro e w7 ⟨⟨p, rfl, ho⟩, b7⟩
                  have K7 := hide (K6.out.trans (Turn.of_below b7))
                  have y7 := b7.size
                  have X_7 := hide (X_6.out.next b7)
                  have A_7 := hide (A_6.out.next b7)
                  have OP_7 := hide (OP_6.out.next b7)
                  clear X_6 A_6 OP_6
                  obtain ⟨g1, hg3, hg4, hO⟩ := own_of_ownS ho
                  obtain ⟨a1, q1, rfl, _⟩ := hO.rows 1 (fun _ => rfl)
                  have OQ_7 := hide hO
                  clear ho hO
                  clear b7
                  obtain ⟨cA1_7, fA1_7⟩ := A_7.out.2 1 _ rfl
                  obtain ⟨w8, hw8⟩ : ∃ w', (w7.setCell ⟨N, 1, none⟩ (.slice a1 ql.length q1)) = w' := ⟨_, rfl⟩
                  have y8 : w8.heap.size = w7.heap.size := by rw [← hw8]; simp
                  have K8 := hide (show Turn (fun y => y = N) W w8 by rw [← hw8]; exact (K7.out).trans (Turn.set _ ⟨N, 1, none⟩ _ rfl))
                  have X_8 := hide (show BoxV w8 (W.heap.size) _ by rw [← hw8]; exact (X_7.out).other ⟨N, 1, none⟩ (.slice a1 ql.length q1) (by dsimp only; omega))
                  have A_8 := hide (show BoxV w8 (N) [.slice a0 pl.length q0, .slice a1 ql.length q1, .bool de, .bool ov, e4, .int .i64 co] by rw [← hw8]; exact (A_7.out).set 1 (by simp) (.slice a1 ql.length q1))
                  have OP_8 := hide (show Own w8 _ _ _ by rw [← hw8]; exact (OP_7.out).setCell ⟨N, 1, none⟩ (.slice a1 ql.length q1) (fun hh => by have h1 := hh.1; have h2 := hh.2; simp only at h1 h2; omega))
                  have OQ_8 := hide (show Own w8 _ _ _ by rw [← hw8]; exact (OQ_7.out).setCell ⟨N, 1, none⟩ (.slice a1 ql.length q1) (fun hh => by have h1 := hh.1; have h2 := hh.2; simp only at h1 h2; omega))
                  clear X_7 A_7 OP_7 OQ_7
                  have cX2_8 := (X_8.out.2 2 _ rfl).1
                  go_wp2_with fail
                  refine (HF.out _ (KB.out _ K8.out)).mono ?_
                  rintro e w9 ⟨rfl, b9⟩
                  clear cA1_7 fA1_7 hw8 cX2_8
                  have K9 := hide (K8.out.trans (Turn.of_below b9))
                  have y9 := b9.size
                  have X_9 := hide (X_8.out.next b9)
                  have A_9 := hide (A_8.out.next b9)
                  have OP_9 := hide (OP_8.out.next b9)
                  have OQ_9 := hide (OQ_8.out.next b9)
                  clear X_8 A_8 OP_8 OQ_8
                  clear b9
                  go_wp2_with fail
                  refine (HI.out _).mono ?_
                  rintro e w10 ⟨⟨lv, rfl, hv⟩, b10⟩
                  have K10 := hide (K9.out.trans (Turn.of_below b10))
                  have y10 := b10.size
                  have X_10 := hide (X_9.out.next b10)
                  have A_10 := hide (A_9.out.next b10)
                  have OP_10 := hide (OP_9.out.next b10)
                  have OQ_10 := hide (OQ_9.out.next b10)
                  clear X_9 A_9 OP_9 OQ_9
                  have V_10 := hide hv
                  clear hv
                  clear b10
                  have cX0_10 := (X_10.out.2 0 _ rfl).1
                  have cX1_10 := (X_10.out.2 1 _ rfl).1
                  have cX2_10 := (X_10.out.2 2 _ rfl).1
                  have cX3_10 := (X_10.out.2 3 _ rfl).1
                  go_wp2_with fail
                  refine (HE.out _ (KB.out _ K10.out)).mono ?_
                  rintro e w11 ⟨rfl, b11⟩
                  clear cX0_10 cX1_10 cX2_10 cX3_10
                  have K11 := hide (K10.out.trans (Turn.of_below b11))
                  have y11 := b11.size
                  have X_11 := hide (X_10.out.next b11)
                  have A_11 := hide (A_10.out.next b11)
                  have OP_11 := hide (OP_10.out.next b11)
                  have OQ_11 := hide (OQ_10.out.next b11)
                  clear X_10 A_10 OP_10 OQ_10
                  have V_11 := hide (V_10.out.atI b11)
                  clear V_10
                  clear b11
                  go_wp2_with fail
                  refine (HS.out _ lv V_11.out).mono ?_
                  rintro e w12 ⟨⟨tv, rfl, ho⟩, b12⟩
                  have K12 := hide (K11.out.trans (Turn.of_below b12))
                  have y12 := b12.size
                  have X_12 := hide (X_11.out.next b12)
                  have A_12 := hide (A_11.out.next b12)
                  have OP_12 := hide (OP_11.out.next b12)
                  have OQ_12 := hide (OQ_11.out.next b12)
                  clear X_11 A_11 OP_11 OQ_11
                  obtain ⟨a4, q4, rfl, _⟩ := ho.rows 1 (fun _ => rfl)
                  have OT_12 := hide ho
                  clear ho
                  clear b12
                  obtain ⟨cA4_12, fA4_12⟩ := A_12.out.2 4 _ rfl
                  obtain ⟨w13, hw13⟩ : ∃ w', (w12.setCell ⟨N, 4, none⟩ (.slice a4 tk.length q4)) = w' := ⟨_, rfl⟩
                  have y13 : w13.heap.size = w12.heap.size := by rw [← hw13]; simp
                  have K13 := hide (show Turn (fun y => y = N) W w13 by rw [← hw13]; exact (K12.out).trans (Turn.set _ ⟨N, 4, none⟩ _ rfl))
                  have X_13 := hide (show BoxV w13 (W.heap.size) _ by rw [← hw13]; exact (X_12.out).other ⟨N, 4, none⟩ (.slice a4 tk.length q4) (by dsimp only; omega))
                  have A_13 := hide (show BoxV w13 (N) [.slice a0 pl.length q0, .slice a1 ql.length q1, .bool de, .bool ov, .slice a4 tk.length q4, .int .i64 co] by rw [← hw13]; exact (A_12.out).set 4 (by simp) (.slice a4 tk.length q4))
                  have OP_13 := hide (show Own w13 _ _ _ by rw [← hw13]; exact (OP_12.out).setCell ⟨N, 4, none⟩ (.slice a4 tk.length q4) (fun hh => by have h1 := hh.1; have h2 := hh.2; simp only at h1 h2; omega))
                  have OQ_13 := hide (show Own w13 _ _ _ by rw [← hw13]; exact (OQ_12.out).setCell ⟨N, 4, none⟩ (.slice a4 tk.length q4) (fun hh => by have h1 := hh.1; have h2 := hh.2; simp only at h1 h2; omega))
                  have OT_13 := hide (show Own w13 _ _ _ by rw [← hw13]; exact (OT_12.out).setCell ⟨N, 4, none⟩ (.slice a4 tk.length q4) (fun hh => by have h1 := hh.1; have h2 := hh.2; simp only at h1 h2; omega))
                  clear X_12 A_12 OP_12 OQ_12 OT_12
                  go_wp2
                  go_ret
                  exact ⟨⟨rfl, _, _, _, g0, g0 + 1, g1, (g1 + 1), w11.heap.size, w12.heap.size, A_13.out, OP_13.out, OQ_13.out, OT_13.out, by omega, by omega, by omega, by omega⟩, K13.out⟩
        cases b1
        rotate_left
        · cases qb
          · obtain rfl : 400 = fo := (HFO.out.trans (by first | rfl | (simp [firstI, cwI]; done))).symm
            obtain rfl : ql = tlv := (HTL.out.trans (by first | rfl | (simp; done) | (have hb : (b0 || b1) = false := by {cases hh : (b0 || b1) with | false => rfl | true => exact absurd (hfk hh) (by decide)}; simp [hb]))).symm
            obtain rfl : [] = tkv := (HTV.out.trans (by first | rfl | (simp; done))).symm
            clear HFO HTV HTL
            have cX1_0 := (X_0.out.2 1 _ rfl).1
            go_enter Tryz.func23, Tryz.ntmps23
            go_wp2_with fail
            refine (HP.out _).mono ?_
            rintro e w1 ⟨⟨p, rfl, ho⟩, b1⟩
            clear cX1_0 hw0
            have K1 := hide (K0.out.trans (Turn.of_below b1))
            have y1 := b1.size
            have X_1 := hide (X_0.out.next b1)
            have A_1 := hide (A_0.out.next b1)
            clear X_0 A_0
            obtain ⟨g0, hg1, hg2, hO⟩ := own_of_ownS ho
            obtain ⟨a0, q0, rfl, _⟩ := hO.rows 1 (fun _ => rfl)
            have OP_1 := hide hO
            clear ho hO
            clear b1
            obtain ⟨cA0_1, fA0_1⟩ := A_1.out.2 0 _ rfl
            obtain ⟨w2, hw2⟩ : ∃ w', (w1.setCell ⟨N, 0, none⟩ (.slice a0 pl.length q0)) = w' := ⟨_, rfl⟩
            have y2 : w2.heap.size = w1.heap.size := by rw [← hw2]; simp
            have K2 := hide (show Turn (fun y => y = N) W w2 by rw [← hw2]; exact (K1.out).trans (Turn.set _ ⟨N, 0, none⟩ _ rfl))
            have X_2 := hide (show BoxV w2 (W.heap.size) _ by rw [← hw2]; exact (X_1.out).other ⟨N, 0, none⟩ (.slice a0 pl.length q0) (by dsimp only; omega))
            have A_2 := hide (show BoxV w2 (N) [.slice a0 pl.length q0, e1, .bool de, .bool ov, e4, .int .i64 co] by rw [← hw2]; exact (A_1.out).set 0 (by simp) (.slice a0 pl.length q0))
            have OP_2 := hide (show Own w2 _ _ _ by rw [← hw2]; exact (OP_1.out).setCell ⟨N, 0, none⟩ (.slice a0 pl.length q0) (fun hh => by have h1 := hh.1; have h2 := hh.2; simp only at h1 h2; omega))
            clear X_1 A_1 OP_1
            have cX0_2 := (X_2.out.2 0 _ rfl).1
            go_wp2_with fail
            refine (HC.out _).mono ?_
            rintro e w3 ⟨rfl, b3⟩
            clear cA0_1 fA0_1 hw2 cX0_2
            have K3 := hide (K2.out.trans (Turn.of_below b3))
            have y3 := b3.size
            have X_3 := hide (X_2.out.next b3)
            have A_3 := hide (A_2.out.next b3)
            have OP_3 := hide (OP_2.out.next b3)
            clear X_2 A_2 OP_2
            clear b3
            obtain ⟨w4, hw4⟩ : ∃ w', w3.alloc (Obj.cells #[.string ⟨#[71, 69, 84]⟩, .string ⟨#[72, 69, 65, 68]⟩, .string ⟨#[79, 80, 84, 73, 79, 78, 83]⟩, .string ⟨#[80, 82, 79, 80, 70, 73, 78, 68]⟩] 9) = w' := ⟨_, rfl⟩
            have b4 : Below w3.heap.size w3 w4 := by rw [← hw4]; exact (Below.refl _ _).alloc (Nat.le_refl _) _
            have y4 : w4.heap.size = w3.heap.size + 1 := by rw [← hw4]; simp
            have hS : BoxV w4 w3.heap.size [.string ⟨#[71, 69, 84]⟩, .string ⟨#[72, 69, 65, 68]⟩, .string ⟨#[79, 80, 84, 73, 79, 78, 83]⟩, .string ⟨#[80, 82, 79, 80, 70, 73, 78, 68]⟩] := by rw [← hw4]; exact BoxV.made _ _ _
            have K4 := hide (K3.out.trans (Turn.of_below b4))
            have X_4 := hide (X_3.out.next b4)
            have A_4 := hide (A_3.out.next b4)
            have OP_4 := hide (OP_3.out.next b4)
            clear X_3 A_3 OP_3
            have L_4 := hide hS
            clear hS b4
            have cX0_4 := (X_4.out.2 0 _ rfl).1
            have hcl : ∀ j (hj : j < otherMs.length), w4.cell? ⟨w3.heap.size, j, none⟩ = some (.string otherMs[j]) := fun j hj => by
              match j, hj with
              | 0, _ => exact (L_4.out.2 0 _ rfl).1
              | 1, _ => exact (L_4.out.2 1 _ rfl).1
              | 2, _ => exact (L_4.out.2 2 _ rfl).1
              | 3, _ => exact (L_4.out.2 3 _ rfl).1
            have HHQ := hide ((HH.out (w3.heap.size) _ hcl).mono (fun e w2 (q : _ ∧ _) => (⟨q.1, by rw [q.2]; exact Below.refl _ _⟩ : _ ∧ Below w4.heap.size w4 w2)))
            clear hcl
            go_wp2_with fail
            refine (HHQ.out).mono ?_
            rintro e w5 ⟨rfl, b5⟩
            clear hw4 cX0_4
            have K5 := hide (K4.out.trans (Turn.of_below b5))
            have y5 := b5.size
            have X_5 := hide (X_4.out.next b5)
            have A_5 := hide (A_4.out.next b5)
            have OP_5 := hide (OP_4.out.next b5)
            have L_5 := hide (L_4.out.next b5)
            clear X_4 A_4 OP_4 L_4
            clear b5
            clear HHQ L_5
            have cX0_5 := (X_5.out.2 0 _ rfl).1
            have cX2_5 := (X_5.out.2 2 _ rfl).1
            go_wp2_with fail
            refine (HD.out _ (KB.out _ K5.out)).mono ?_
            rintro e w6 ⟨rfl, b6⟩
            clear cX0_5 cX2_5
            have K6 := hide (K5.out.trans (Turn.of_below b6))
            have y6 := b6.size
            have X_6 := hide (X_5.out.next b6)
            have A_6 := hide (A_5.out.next b6)
            have OP_6 := hide (OP_5.out.next b6)
            clear X_5 A_5 OP_5
            clear b6
            go_wp2_with fail
            refine (HQ.out _).mono ?_
            rintro e w7 ⟨⟨p, rfl, ho⟩, b7⟩
            have K7 := hide (K6.out.trans (Turn.of_below b7))
            have y7 := b7.size
            have X_7 := hide (X_6.out.next b7)
            have A_7 := hide (A_6.out.next b7)
            have OP_7 := hide (OP_6.out.next b7)
            clear X_6 A_6 OP_6
            obtain ⟨g1, hg3, hg4, hO⟩ := own_of_ownS ho
            obtain ⟨a1, q1, rfl, _⟩ := hO.rows 1 (fun _ => rfl)
            have OQ_7 := hide hO
            clear ho hO
            clear b7
            obtain ⟨cA1_7, fA1_7⟩ := A_7.out.2 1 _ rfl
            obtain ⟨w8, hw8⟩ : ∃ w', (w7.setCell ⟨N, 1, none⟩ (.slice a1 ql.length q1)) = w' := ⟨_, rfl⟩
            have y8 : w8.heap.size = w7.heap.size := by rw [← hw8]; simp
            have K8 := hide (show Turn (fun y => y = N) W w8 by rw [← hw8]; exact (K7.out).trans (Turn.set _ ⟨N, 1, none⟩ _ rfl))
            have X_8 := hide (show BoxV w8 (W.heap.size) _ by rw [← hw8]; exact (X_7.out).other ⟨N, 1, none⟩ (.slice a1 ql.length q1) (by dsimp only; omega))
            have A_8 := hide (show BoxV w8 (N) [.slice a0 pl.length q0, .slice a1 ql.length q1, .bool de, .bool ov, e4, .int .i64 co] by rw [← hw8]; exact (A_7.out).set 1 (by simp) (.slice a1 ql.length q1))
            have OP_8 := hide (show Own w8 _ _ _ by rw [← hw8]; exact (OP_7.out).setCell ⟨N, 1, none⟩ (.slice a1 ql.length q1) (fun hh => by have h1 := hh.1; have h2 := hh.2; simp only at h1 h2; omega))
            have OQ_8 := hide (show Own w8 _ _ _ by rw [← hw8]; exact (OQ_7.out).setCell ⟨N, 1, none⟩ (.slice a1 ql.length q1) (fun hh => by have h1 := hh.1; have h2 := hh.2; simp only at h1 h2; omega))
            clear X_7 A_7 OP_7 OQ_7
            go_wp2
            go_ret
            exact ⟨⟨rfl, _, _, _, g0, g0 + 1, g1, (g1 + 1), m4, (m4 + 1), A_8.out, OP_8.out, OQ_8.out, (HV4.out _ (by omega)), by omega, by omega, by omega, by omega⟩, K8.out⟩
          · cases dz
            · obtain rfl : 400 = fo := (HFO.out.trans (by first | rfl | (simp [firstI, cwI]; done))).symm
              obtain rfl : ql = tlv := (HTL.out.trans (by first | rfl | (simp; done) | (have hb : (b0 || b1) = false := by {cases hh : (b0 || b1) with | false => rfl | true => exact absurd (hfk hh) (by decide)}; simp [hb]))).symm
              obtain rfl : [] = tkv := (HTV.out.trans (by first | rfl | (simp; done))).symm
              clear HFO HTV HTL
              have cX1_0 := (X_0.out.2 1 _ rfl).1
              go_enter Tryz.func23, Tryz.ntmps23
              go_wp2_with fail
              refine (HP.out _).mono ?_
              rintro e w1 ⟨⟨p, rfl, ho⟩, b1⟩
              clear cX1_0 hw0
              have K1 := hide (K0.out.trans (Turn.of_below b1))
              have y1 := b1.size
              have X_1 := hide (X_0.out.next b1)
              have A_1 := hide (A_0.out.next b1)
              clear X_0 A_0
              obtain ⟨g0, hg1, hg2, hO⟩ := own_of_ownS ho
              obtain ⟨a0, q0, rfl, _⟩ := hO.rows 1 (fun _ => rfl)
              have OP_1 := hide hO
              clear ho hO
              clear b1
              obtain ⟨cA0_1, fA0_1⟩ := A_1.out.2 0 _ rfl
              obtain ⟨w2, hw2⟩ : ∃ w', (w1.setCell ⟨N, 0, none⟩ (.slice a0 pl.length q0)) = w' := ⟨_, rfl⟩
              have y2 : w2.heap.size = w1.heap.size := by rw [← hw2]; simp
              have K2 := hide (show Turn (fun y => y = N) W w2 by rw [← hw2]; exact (K1.out).trans (Turn.set _ ⟨N, 0, none⟩ _ rfl))
              have X_2 := hide (show BoxV w2 (W.heap.size) _ by rw [← hw2]; exact (X_1.out).other ⟨N, 0, none⟩ (.slice a0 pl.length q0) (by dsimp only; omega))
              have A_2 := hide (show BoxV w2 (N) [.slice a0 pl.length q0, e1, .bool de, .bool ov, e4, .int .i64 co] by rw [← hw2]; exact (A_1.out).set 0 (by simp) (.slice a0 pl.length q0))
              have OP_2 := hide (show Own w2 _ _ _ by rw [← hw2]; exact (OP_1.out).setCell ⟨N, 0, none⟩ (.slice a0 pl.length q0) (fun hh => by have h1 := hh.1; have h2 := hh.2; simp only at h1 h2; omega))
              clear X_1 A_1 OP_1
              have cX0_2 := (X_2.out.2 0 _ rfl).1
              go_wp2_with fail
              refine (HC.out _).mono ?_
              rintro e w3 ⟨rfl, b3⟩
              clear cA0_1 fA0_1 hw2 cX0_2
              have K3 := hide (K2.out.trans (Turn.of_below b3))
              have y3 := b3.size
              have X_3 := hide (X_2.out.next b3)
              have A_3 := hide (A_2.out.next b3)
              have OP_3 := hide (OP_2.out.next b3)
              clear X_2 A_2 OP_2
              clear b3
              obtain ⟨w4, hw4⟩ : ∃ w', w3.alloc (Obj.cells #[.string ⟨#[71, 69, 84]⟩, .string ⟨#[72, 69, 65, 68]⟩, .string ⟨#[79, 80, 84, 73, 79, 78, 83]⟩, .string ⟨#[80, 82, 79, 80, 70, 73, 78, 68]⟩] 9) = w' := ⟨_, rfl⟩
              have b4 : Below w3.heap.size w3 w4 := by rw [← hw4]; exact (Below.refl _ _).alloc (Nat.le_refl _) _
              have y4 : w4.heap.size = w3.heap.size + 1 := by rw [← hw4]; simp
              have hS : BoxV w4 w3.heap.size [.string ⟨#[71, 69, 84]⟩, .string ⟨#[72, 69, 65, 68]⟩, .string ⟨#[79, 80, 84, 73, 79, 78, 83]⟩, .string ⟨#[80, 82, 79, 80, 70, 73, 78, 68]⟩] := by rw [← hw4]; exact BoxV.made _ _ _
              have K4 := hide (K3.out.trans (Turn.of_below b4))
              have X_4 := hide (X_3.out.next b4)
              have A_4 := hide (A_3.out.next b4)
              have OP_4 := hide (OP_3.out.next b4)
              clear X_3 A_3 OP_3
              have L_4 := hide hS
              clear hS b4
              have cX0_4 := (X_4.out.2 0 _ rfl).1
              have hcl : ∀ j (hj : j < otherMs.length), w4.cell? ⟨w3.heap.size, j, none⟩ = some (.string otherMs[j]) := fun j hj => by
                match j, hj with
                | 0, _ => exact (L_4.out.2 0 _ rfl).1
                | 1, _ => exact (L_4.out.2 1 _ rfl).1
                | 2, _ => exact (L_4.out.2 2 _ rfl).1
                | 3, _ => exact (L_4.out.2 3 _ rfl).1
              have HHQ := hide ((HH.out (w3.heap.size) _ hcl).mono (fun e w2 (q : _ ∧ _) => (⟨q.1, by rw [q.2]; exact Below.refl _ _⟩ : _ ∧ Below w4.heap.size w4 w2)))
              clear hcl
              go_wp2_with fail
              refine (HHQ.out).mono ?_
              rintro e w5 ⟨rfl, b5⟩
              clear hw4 cX0_4
              have K5 := hide (K4.out.trans (Turn.of_below b5))
              have y5 := b5.size
              have X_5 := hide (X_4.out.next b5)
              have A_5 := hide (A_4.out.next b5)
              have OP_5 := hide (OP_4.out.next b5)
              have L_5 := hide (L_4.out.next b5)
              clear X_4 A_4 OP_4 L_4
              clear b5
              clear HHQ L_5
              have cX0_5 := (X_5.out.2 0 _ rfl).1
              have cX2_5 := (X_5.out.2 2 _ rfl).1
              go_wp2_with fail
              refine (HD.out _ (KB.out _ K5.out)).mono ?_
              rintro e w6 ⟨rfl, b6⟩
              clear cX0_5 cX2_5
              have K6 := hide (K5.out.trans (Turn.of_below b6))
              have y6 := b6.size
              have X_6 := hide (X_5.out.next b6)
              have A_6 := hide (A_5.out.next b6)
              have OP_6 := hide (OP_5.out.next b6)
              clear X_5 A_5 OP_5
              clear b6
              go_wp2_with fail
              refine (HQ.out _).mono ?_
              rintro e w7 ⟨⟨p, rfl, ho⟩, b7⟩
              have K7 := hide (K6.out.trans (Turn.of_below b7))
              have y7 := b7.size
              have X_7 := hide (X_6.out.next b7)
              have A_7 := hide (A_6.out.next b7)
              have OP_7 := hide (OP_6.out.next b7)
              clear X_6 A_6 OP_6
              obtain ⟨g1, hg3, hg4, hO⟩ := own_of_ownS ho
              obtain ⟨a1, q1, rfl, _⟩ := hO.rows 1 (fun _ => rfl)
              have OQ_7 := hide hO
              clear ho hO
              clear b7
              obtain ⟨cA1_7, fA1_7⟩ := A_7.out.2 1 _ rfl
              obtain ⟨w8, hw8⟩ : ∃ w', (w7.setCell ⟨N, 1, none⟩ (.slice a1 ql.length q1)) = w' := ⟨_, rfl⟩
              have y8 : w8.heap.size = w7.heap.size := by rw [← hw8]; simp
              have K8 := hide (show Turn (fun y => y = N) W w8 by rw [← hw8]; exact (K7.out).trans (Turn.set _ ⟨N, 1, none⟩ _ rfl))
              have X_8 := hide (show BoxV w8 (W.heap.size) _ by rw [← hw8]; exact (X_7.out).other ⟨N, 1, none⟩ (.slice a1 ql.length q1) (by dsimp only; omega))
              have A_8 := hide (show BoxV w8 (N) [.slice a0 pl.length q0, .slice a1 ql.length q1, .bool de, .bool ov, e4, .int .i64 co] by rw [← hw8]; exact (A_7.out).set 1 (by simp) (.slice a1 ql.length q1))
              have OP_8 := hide (show Own w8 _ _ _ by rw [← hw8]; exact (OP_7.out).setCell ⟨N, 1, none⟩ (.slice a1 ql.length q1) (fun hh => by have h1 := hh.1; have h2 := hh.2; simp only at h1 h2; omega))
              have OQ_8 := hide (show Own w8 _ _ _ by rw [← hw8]; exact (OQ_7.out).setCell ⟨N, 1, none⟩ (.slice a1 ql.length q1) (fun hh => by have h1 := hh.1; have h2 := hh.2; simp only at h1 h2; omega))
              clear X_7 A_7 OP_7 OQ_7
              have cX2_8 := (X_8.out.2 2 _ rfl).1
              go_wp2_with fail
              refine (HF.out _ (KB.out _ K8.out)).mono ?_
              rintro e w9 ⟨rfl, b9⟩
              clear cA1_7 fA1_7 hw8 cX2_8
              have K9 := hide (K8.out.trans (Turn.of_below b9))
              have y9 := b9.size
              have X_9 := hide (X_8.out.next b9)
              have A_9 := hide (A_8.out.next b9)
              have OP_9 := hide (OP_8.out.next b9)
              have OQ_9 := hide (OQ_8.out.next b9)
              clear X_8 A_8 OP_8 OQ_8
              clear b9
              go_wp2_with fail
              refine (HI.out _).mono ?_
              rintro e w10 ⟨⟨lv, rfl, hv⟩, b10⟩
              have K10 := hide (K9.out.trans (Turn.of_below b10))
              have y10 := b10.size
              have X_10 := hide (X_9.out.next b10)
              have A_10 := hide (A_9.out.next b10)
              have OP_10 := hide (OP_9.out.next b10)
              have OQ_10 := hide (OQ_9.out.next b10)
              clear X_9 A_9 OP_9 OQ_9
              have V_10 := hide hv
              clear hv
              clear b10
              have cX0_10 := (X_10.out.2 0 _ rfl).1
              have cX1_10 := (X_10.out.2 1 _ rfl).1
              have cX2_10 := (X_10.out.2 2 _ rfl).1
              have cX3_10 := (X_10.out.2 3 _ rfl).1
              go_wp2_with fail
              refine (HE.out _ (KB.out _ K10.out)).mono ?_
              rintro e w11 ⟨rfl, b11⟩
              clear cX0_10 cX1_10 cX2_10 cX3_10
              have K11 := hide (K10.out.trans (Turn.of_below b11))
              have y11 := b11.size
              have X_11 := hide (X_10.out.next b11)
              have A_11 := hide (A_10.out.next b11)
              have OP_11 := hide (OP_10.out.next b11)
              have OQ_11 := hide (OQ_10.out.next b11)
              clear X_10 A_10 OP_10 OQ_10
              have V_11 := hide (V_10.out.atI b11)
              clear V_10
              clear b11
              go_wp2
              go_ret
              exact ⟨⟨rfl, _, _, _, g0, g0 + 1, g1, (g1 + 1), m4, (m4 + 1), A_11.out, OP_11.out, OQ_11.out, (HV4.out _ (by omega)), by omega, by omega, by omega, by omega⟩, K11.out⟩
            · cases it
              · have htk : tk = [] := HTN.out (by trivial)
                subst htk
                obtain rfl : 0 = fo := (HFO.out.trans (by first | rfl | (simp [firstI, cwI]; done))).symm
                obtain rfl : ql = tlv := (HTL.out.trans (by first | rfl | (simp; done) | (have hb : (b0 || b1) = false := by {cases hh : (b0 || b1) with | false => rfl | true => exact absurd (hfk hh) (by decide)}; simp [hb]))).symm
                obtain rfl : [] = tkv := (HTV.out.trans (by first | rfl | (simp; done))).symm
                clear HFO HTV HTL
                have cX1_0 := (X_0.out.2 1 _ rfl).1
                go_enter Tryz.func23, Tryz.ntmps23
                go_wp2_with fail
                refine (HP.out _).mono ?_
                rintro e w1 ⟨⟨p, rfl, ho⟩, b1⟩
                clear cX1_0 hw0
                have K1 := hide (K0.out.trans (Turn.of_below b1))
                have y1 := b1.size
                have X_1 := hide (X_0.out.next b1)
                have A_1 := hide (A_0.out.next b1)
                clear X_0 A_0
                obtain ⟨g0, hg1, hg2, hO⟩ := own_of_ownS ho
                obtain ⟨a0, q0, rfl, _⟩ := hO.rows 1 (fun _ => rfl)
                have OP_1 := hide hO
                clear ho hO
                clear b1
                obtain ⟨cA0_1, fA0_1⟩ := A_1.out.2 0 _ rfl
                obtain ⟨w2, hw2⟩ : ∃ w', (w1.setCell ⟨N, 0, none⟩ (.slice a0 pl.length q0)) = w' := ⟨_, rfl⟩
                have y2 : w2.heap.size = w1.heap.size := by rw [← hw2]; simp
                have K2 := hide (show Turn (fun y => y = N) W w2 by rw [← hw2]; exact (K1.out).trans (Turn.set _ ⟨N, 0, none⟩ _ rfl))
                have X_2 := hide (show BoxV w2 (W.heap.size) _ by rw [← hw2]; exact (X_1.out).other ⟨N, 0, none⟩ (.slice a0 pl.length q0) (by dsimp only; omega))
                have A_2 := hide (show BoxV w2 (N) [.slice a0 pl.length q0, e1, .bool de, .bool ov, e4, .int .i64 co] by rw [← hw2]; exact (A_1.out).set 0 (by simp) (.slice a0 pl.length q0))
                have OP_2 := hide (show Own w2 _ _ _ by rw [← hw2]; exact (OP_1.out).setCell ⟨N, 0, none⟩ (.slice a0 pl.length q0) (fun hh => by have h1 := hh.1; have h2 := hh.2; simp only at h1 h2; omega))
                clear X_1 A_1 OP_1
                have cX0_2 := (X_2.out.2 0 _ rfl).1
                go_wp2_with fail
                refine (HC.out _).mono ?_
                rintro e w3 ⟨rfl, b3⟩
                clear cA0_1 fA0_1 hw2 cX0_2
                have K3 := hide (K2.out.trans (Turn.of_below b3))
                have y3 := b3.size
                have X_3 := hide (X_2.out.next b3)
                have A_3 := hide (A_2.out.next b3)
                have OP_3 := hide (OP_2.out.next b3)
                clear X_2 A_2 OP_2
                clear b3
                obtain ⟨w4, hw4⟩ : ∃ w', w3.alloc (Obj.cells #[.string ⟨#[71, 69, 84]⟩, .string ⟨#[72, 69, 65, 68]⟩, .string ⟨#[79, 80, 84, 73, 79, 78, 83]⟩, .string ⟨#[80, 82, 79, 80, 70, 73, 78, 68]⟩] 9) = w' := ⟨_, rfl⟩
                have b4 : Below w3.heap.size w3 w4 := by rw [← hw4]; exact (Below.refl _ _).alloc (Nat.le_refl _) _
                have y4 : w4.heap.size = w3.heap.size + 1 := by rw [← hw4]; simp
                have hS : BoxV w4 w3.heap.size [.string ⟨#[71, 69, 84]⟩, .string ⟨#[72, 69, 65, 68]⟩, .string ⟨#[79, 80, 84, 73, 79, 78, 83]⟩, .string ⟨#[80, 82, 79, 80, 70, 73, 78, 68]⟩] := by rw [← hw4]; exact BoxV.made _ _ _
                have K4 := hide (K3.out.trans (Turn.of_below b4))
                have X_4 := hide (X_3.out.next b4)
                have A_4 := hide (A_3.out.next b4)
                have OP_4 := hide (OP_3.out.next b4)
                clear X_3 A_3 OP_3
                have L_4 := hide hS
                clear hS b4
                have cX0_4 := (X_4.out.2 0 _ rfl).1
                have hcl : ∀ j (hj : j < otherMs.length), w4.cell? ⟨w3.heap.size, j, none⟩ = some (.string otherMs[j]) := fun j hj => by
                  match j, hj with
                  | 0, _ => exact (L_4.out.2 0 _ rfl).1
                  | 1, _ => exact (L_4.out.2 1 _ rfl).1
                  | 2, _ => exact (L_4.out.2 2 _ rfl).1
                  | 3, _ => exact (L_4.out.2 3 _ rfl).1
                have HHQ := hide ((HH.out (w3.heap.size) _ hcl).mono (fun e w2 (q : _ ∧ _) => (⟨q.1, by rw [q.2]; exact Below.refl _ _⟩ : _ ∧ Below w4.heap.size w4 w2)))
                clear hcl
                go_wp2_with fail
                refine (HHQ.out).mono ?_
                rintro e w5 ⟨rfl, b5⟩
                clear hw4 cX0_4
                have K5 := hide (K4.out.trans (Turn.of_below b5))
                have y5 := b5.size
                have X_5 := hide (X_4.out.next b5)
                have A_5 := hide (A_4.out.next b5)
                have OP_5 := hide (OP_4.out.next b5)
                have L_5 := hide (L_4.out.next b5)
                clear X_4 A_4 OP_4 L_4
                clear b5
                clear HHQ L_5
                have cX0_5 := (X_5.out.2 0 _ rfl).1
                have cX2_5 := (X_5.out.2 2 _ rfl).1
                go_wp2_with fail
                refine (HD.out _ (KB.out _ K5.out)).mono ?_
                rintro e w6 ⟨rfl, b6⟩
                clear cX0_5 cX2_5
                have K6 := hide (K5.out.trans (Turn.of_below b6))
                have y6 := b6.size
                have X_6 := hide (X_5.out.next b6)
                have A_6 := hide (A_5.out.next b6)
                have OP_6 := hide (OP_5.out.next b6)
                clear X_5 A_5 OP_5
                clear b6
                go_wp2_with fail
                refine (HQ.out _).mono ?_
                rintro e w7 ⟨⟨p, rfl, ho⟩, b7⟩
                have K7 := hide (K6.out.trans (Turn.of_below b7))
                have y7 := b7.size
                have X_7 := hide (X_6.out.next b7)
                have A_7 := hide (A_6.out.next b7)
                have OP_7 := hide (OP_6.out.next b7)
                clear X_6 A_6 OP_6
                obtain ⟨g1, hg3, hg4, hO⟩ := own_of_ownS ho
                obtain ⟨a1, q1, rfl, _⟩ := hO.rows 1 (fun _ => rfl)
                have OQ_7 := hide hO
                clear ho hO
                clear b7
                obtain ⟨cA1_7, fA1_7⟩ := A_7.out.2 1 _ rfl
                obtain ⟨w8, hw8⟩ : ∃ w', (w7.setCell ⟨N, 1, none⟩ (.slice a1 ql.length q1)) = w' := ⟨_, rfl⟩
                have y8 : w8.heap.size = w7.heap.size := by rw [← hw8]; simp
                have K8 := hide (show Turn (fun y => y = N) W w8 by rw [← hw8]; exact (K7.out).trans (Turn.set _ ⟨N, 1, none⟩ _ rfl))
                have X_8 := hide (show BoxV w8 (W.heap.size) _ by rw [← hw8]; exact (X_7.out).other ⟨N, 1, none⟩ (.slice a1 ql.length q1) (by dsimp only; omega))
                have A_8 := hide (show BoxV w8 (N) [.slice a0 pl.length q0, .slice a1 ql.length q1, .bool de, .bool ov, e4, .int .i64 co] by rw [← hw8]; exact (A_7.out).set 1 (by simp) (.slice a1 ql.length q1))
                have OP_8 := hide (show Own w8 _ _ _ by rw [← hw8]; exact (OP_7.out).setCell ⟨N, 1, none⟩ (.slice a1 ql.length q1) (fun hh => by have h1 := hh.1; have h2 := hh.2; simp only at h1 h2; omega))
                have OQ_8 := hide (show Own w8 _ _ _ by rw [← hw8]; exact (OQ_7.out).setCell ⟨N, 1, none⟩ (.slice a1 ql.length q1) (fun hh => by have h1 := hh.1; have h2 := hh.2; simp only at h1 h2; omega))
                clear X_7 A_7 OP_7 OQ_7
                have cX2_8 := (X_8.out.2 2 _ rfl).1
                go_wp2_with fail
                refine (HF.out _ (KB.out _ K8.out)).mono ?_
                rintro e w9 ⟨rfl, b9⟩
                clear cA1_7 fA1_7 hw8 cX2_8
                have K9 := hide (K8.out.trans (Turn.of_below b9))
                have y9 := b9.size
                have X_9 := hide (X_8.out.next b9)
                have A_9 := hide (A_8.out.next b9)
                have OP_9 := hide (OP_8.out.next b9)
                have OQ_9 := hide (OQ_8.out.next b9)
                clear X_8 A_8 OP_8 OQ_8
                clear b9
                go_wp2_with fail
                refine (HI.out _).mono ?_
                rintro e w10 ⟨⟨lv, rfl, hv⟩, b10⟩
                have K10 := hide (K9.out.trans (Turn.of_below b10))
                have y10 := b10.size
                have X_10 := hide (X_9.out.next b10)
                have A_10 := hide (A_9.out.next b10)
                have OP_10 := hide (OP_9.out.next b10)
                have OQ_10 := hide (OQ_9.out.next b10)
                clear X_9 A_9 OP_9 OQ_9
                have V_10 := hide hv
                clear hv
                clear b10
                have cX0_10 := (X_10.out.2 0 _ rfl).1
                have cX1_10 := (X_10.out.2 1 _ rfl).1
                have cX2_10 := (X_10.out.2 2 _ rfl).1
                have cX3_10 := (X_10.out.2 3 _ rfl).1
                go_wp2_with fail
                refine (HE.out _ (KB.out _ K10.out)).mono ?_
                rintro e w11 ⟨rfl, b11⟩
                clear cX0_10 cX1_10 cX2_10 cX3_10
                have K11 := hide (K10.out.trans (Turn.of_below b11))
                have y11 := b11.size
                have X_11 := hide (X_10.out.next b11)
                have A_11 := hide (A_10.out.next b11)
                have OP_11 := hide (OP_10.out.next b11)
                have OQ_11 := hide (OQ_10.out.next b11)
                clear X_10 A_10 OP_10 OQ_10
                have V_11 := hide (V_10.out.atI b11)
                clear V_10
                clear b11
                go_wp2
                go_ret
                exact ⟨⟨rfl, _, _, _, g0, g0 + 1, g1, (g1 + 1), m4, (m4 + 1), A_11.out, OP_11.out, OQ_11.out, (HV4.out _ (by omega)), by omega, by omega, by omega, by omega⟩, K11.out⟩
              · cases iq
                · obtain rfl : 400 = fo := (HFO.out.trans (by first | rfl | (simp [firstI, cwI]; done))).symm
                  obtain rfl : ql = tlv := (HTL.out.trans (by first | rfl | (simp; done) | (have hb : (b0 || b1) = false := by {cases hh : (b0 || b1) with | false => rfl | true => exact absurd (hfk hh) (by decide)}; simp [hb]))).symm
                  obtain rfl : [] = tkv := (HTV.out.trans (by first | rfl | (simp; done))).symm
                  clear HFO HTV HTL
                  have cX1_0 := (X_0.out.2 1 _ rfl).1
                  go_enter Tryz.func23, Tryz.ntmps23
                  go_wp2_with fail
                  refine (HP.out _).mono ?_
                  rintro e w1 ⟨⟨p, rfl, ho⟩, b1⟩
                  clear cX1_0 hw0
                  have K1 := hide (K0.out.trans (Turn.of_below b1))
                  have y1 := b1.size
                  have X_1 := hide (X_0.out.next b1)
                  have A_1 := hide (A_0.out.next b1)
                  clear X_0 A_0
                  obtain ⟨g0, hg1, hg2, hO⟩ := own_of_ownS ho
                  obtain ⟨a0, q0, rfl, _⟩ := hO.rows 1 (fun _ => rfl)
                  have OP_1 := hide hO
                  clear ho hO
                  clear b1
                  obtain ⟨cA0_1, fA0_1⟩ := A_1.out.2 0 _ rfl
                  obtain ⟨w2, hw2⟩ : ∃ w', (w1.setCell ⟨N, 0, none⟩ (.slice a0 pl.length q0)) = w' := ⟨_, rfl⟩
                  have y2 : w2.heap.size = w1.heap.size := by rw [← hw2]; simp
                  have K2 := hide (show Turn (fun y => y = N) W w2 by rw [← hw2]; exact (K1.out).trans (Turn.set _ ⟨N, 0, none⟩ _ rfl))
                  have X_2 := hide (show BoxV w2 (W.heap.size) _ by rw [← hw2]; exact (X_1.out).other ⟨N, 0, none⟩ (.slice a0 pl.length q0) (by dsimp only; omega))
                  have A_2 := hide (show BoxV w2 (N) [.slice a0 pl.length q0, e1, .bool de, .bool ov, e4, .int .i64 co] by rw [← hw2]; exact (A_1.out).set 0 (by simp) (.slice a0 pl.length q0))
                  have OP_2 := hide (show Own w2 _ _ _ by rw [← hw2]; exact (OP_1.out).setCell ⟨N, 0, none⟩ (.slice a0 pl.length q0) (fun hh => by have h1 := hh.1; have h2 := hh.2; simp only at h1 h2; omega))
                  clear X_1 A_1 OP_1
                  have cX0_2 := (X_2.out.2 0 _ rfl).1
                  go_wp2_with fail
                  refine (HC.out _).mono ?_
                  rintro e w3 ⟨rfl, b3⟩
                  clear cA0_1 fA0_1 hw2 cX0_2
                  have K3 := hide (K2.out.trans (Turn.of_below b3))
                  have y3 := b3.size
                  have X_3 := hide (X_2.out.next b3)
                  have A_3 := hide (A_2.out.next b3)
                  have OP_3 := hide (OP_2.out.next b3)
                  clear X_2 A_2 OP_2
                  clear b3
                  obtain ⟨w4, hw4⟩ : ∃ w', w3.alloc (Obj.cells #[.string ⟨#[71, 69, 84]⟩, .string ⟨#[72, 69, 65, 68]⟩, .string ⟨#[79, 80, 84, 73, 79, 78, 83]⟩, .string ⟨#[80, 82, 79, 80, 70, 73, 78, 68]⟩] 9) = w' := ⟨_, rfl⟩
                  have b4 : Below w3.heap.size w3 w4 := by rw [← hw4]; exact (Below.refl _ _).alloc (Nat.le_refl _) _
                  have y4 : w4.heap.size = w3.heap.size + 1 := by rw [← hw4]; simp
                  have hS : BoxV w4 w3.heap.size [.string ⟨#[71, 69, 84]⟩, .string ⟨#[72, 69, 65, 68]⟩, .string ⟨#[79, 80, 84, 73, 79, 78, 83]⟩, .string ⟨#[80, 82, 79, 80, 70, 73, 78, 68]⟩] := by rw [← hw4]; exact BoxV.made _ _ _
                  have K4 := hide (K3.out.trans (Turn.of_below b4))
                  have X_4 := hide (X_3.out.next b4)
                  have A_4 := hide (A_3.out.next b4)
                  have OP_4 := hide (OP_3.out.next b4)
                  clear X_3 A_3 OP_3
                  have L_4 := hide hS
                  clear hS b4
                  have cX0_4 := (X_4.out.2 0 _ rfl).1
                  have hcl : ∀ j (hj : j < otherMs.length), w4.cell? ⟨w3.heap.size, j, none⟩ = some (.string otherMs[j]) := fun j hj => by
                    match j, hj with
                    | 0, _ => exact (L_4.out.2 0 _ rfl).1
                    | 1, _ => exact (L_4.out.2 1 _ rfl).1
                    | 2, _ => exact (L_4.out.2 2 _ rfl).1
                    | 3, _ => exact (L_4.out.2 3 _ rfl).1
                  have HHQ := hide ((HH.out (w3.heap.size) _ hcl).mono (fun e w2 (q : _ ∧ _) => (⟨q.1, by rw [q.2]; exact Below.refl _ _⟩ : _ ∧ Below w4.heap.size w4 w2)))
                  clear hcl
                  go_wp2_with fail
                  refine (HHQ.out).mono ?_
                  rintro e w5 ⟨rfl, b5⟩
                  clear hw4 cX0_4
                  have K5 := hide (K4.out.trans (Turn.of_below b5))
                  have y5 := b5.size
                  have X_5 := hide (X_4.out.next b5)
                  have A_5 := hide (A_4.out.next b5)
                  have OP_5 := hide (OP_4.out.next b5)
                  have L_5 := hide (L_4.out.next b5)
                  clear X_4 A_4 OP_4 L_4
                  clear b5
                  clear HHQ L_5
                  have cX0_5 := (X_5.out.2 0 _ rfl).1
                  have cX2_5 := (X_5.out.2 2 _ rfl).1
                  go_wp2_with fail
                  refine (HD.out _ (KB.out _ K5.out)).mono ?_
                  rintro e w6 ⟨rfl, b6⟩
                  clear cX0_5 cX2_5
                  have K6 := hide (K5.out.trans (Turn.of_below b6))
                  have y6 := b6.size
                  have X_6 := hide (X_5.out.next b6)
                  have A_6 := hide (A_5.out.next b6)
                  have OP_6 := hide (OP_5.out.next b6)
                  clear X_5 A_5 OP_5
                  clear b6
                  go_wp2_with fail
                  refine (HQ.out _).mono ?_
                  rintro e w7 ⟨⟨p, rfl, ho⟩, b7⟩
                  have K7 := hide (K6.out.trans (Turn.of_below b7))
                  have y7 := b7.size
                  have X_7 := hide (X_6.out.next b7)
                  have A_7 := hide (A_6.out.next b7)
                  have OP_7 := hide (OP_6.out.next b7)
                  clear X_6 A_6 OP_6
                  obtain ⟨g1, hg3, hg4, hO⟩ := own_of_ownS ho
                  obtain ⟨a1, q1, rfl, _⟩ := hO.rows 1 (fun _ => rfl)
                  have OQ_7 := hide hO
                  clear ho hO
                  clear b7
                  obtain ⟨cA1_7, fA1_7⟩ := A_7.out.2 1 _ rfl
                  obtain ⟨w8, hw8⟩ : ∃ w', (w7.setCell ⟨N, 1, none⟩ (.slice a1 ql.length q1)) = w' := ⟨_, rfl⟩
                  have y8 : w8.heap.size = w7.heap.size := by rw [← hw8]; simp
                  have K8 := hide (show Turn (fun y => y = N) W w8 by rw [← hw8]; exact (K7.out).trans (Turn.set _ ⟨N, 1, none⟩ _ rfl))
                  have X_8 := hide (show BoxV w8 (W.heap.size) _ by rw [← hw8]; exact (X_7.out).other ⟨N, 1, none⟩ (.slice a1 ql.length q1) (by dsimp only; omega))
                  have A_8 := hide (show BoxV w8 (N) [.slice a0 pl.length q0, .slice a1 ql.length q1, .bool de, .bool ov, e4, .int .i64 co] by rw [← hw8]; exact (A_7.out).set 1 (by simp) (.slice a1 ql.length q1))
                  have OP_8 := hide (show Own w8 _ _ _ by rw [← hw8]; exact (OP_7.out).setCell ⟨N, 1, none⟩ (.slice a1 ql.length q1) (fun hh => by have h1 := hh.1; have h2 := hh.2; simp only at h1 h2; omega))
                  have OQ_8 := hide (show Own w8 _ _ _ by rw [← hw8]; exact (OQ_7.out).setCell ⟨N, 1, none⟩ (.slice a1 ql.length q1) (fun hh => by have h1 := hh.1; have h2 := hh.2; simp only at h1 h2; omega))
                  clear X_7 A_7 OP_7 OQ_7
                  have cX2_8 := (X_8.out.2 2 _ rfl).1
                  go_wp2_with fail
                  refine (HF.out _ (KB.out _ K8.out)).mono ?_
                  rintro e w9 ⟨rfl, b9⟩
                  clear cA1_7 fA1_7 hw8 cX2_8
                  have K9 := hide (K8.out.trans (Turn.of_below b9))
                  have y9 := b9.size
                  have X_9 := hide (X_8.out.next b9)
                  have A_9 := hide (A_8.out.next b9)
                  have OP_9 := hide (OP_8.out.next b9)
                  have OQ_9 := hide (OQ_8.out.next b9)
                  clear X_8 A_8 OP_8 OQ_8
                  clear b9
                  go_wp2_with fail
                  refine (HI.out _).mono ?_
                  rintro e w10 ⟨⟨lv, rfl, hv⟩, b10⟩
                  have K10 := hide (K9.out.trans (Turn.of_below b10))
                  have y10 := b10.size
                  have X_10 := hide (X_9.out.next b10)
                  have A_10 := hide (A_9.out.next b10)
                  have OP_10 := hide (OP_9.out.next b10)
                  have OQ_10 := hide (OQ_9.out.next b10)
                  clear X_9 A_9 OP_9 OQ_9
                  have V_10 := hide hv
                  clear hv
                  clear b10
                  have cX0_10 := (X_10.out.2 0 _ rfl).1
                  have cX1_10 := (X_10.out.2 1 _ rfl).1
                  have cX2_10 := (X_10.out.2 2 _ rfl).1
                  have cX3_10 := (X_10.out.2 3 _ rfl).1
                  go_wp2_with fail
                  refine (HE.out _ (KB.out _ K10.out)).mono ?_
                  rintro e w11 ⟨rfl, b11⟩
                  clear cX0_10 cX1_10 cX2_10 cX3_10
                  have K11 := hide (K10.out.trans (Turn.of_below b11))
                  have y11 := b11.size
                  have X_11 := hide (X_10.out.next b11)
                  have A_11 := hide (A_10.out.next b11)
                  have OP_11 := hide (OP_10.out.next b11)
                  have OQ_11 := hide (OQ_10.out.next b11)
                  clear X_10 A_10 OP_10 OQ_10
                  have V_11 := hide (V_10.out.atI b11)
                  clear V_10
                  clear b11
                  go_wp2
                  go_ret
                  exact ⟨⟨rfl, _, _, _, g0, g0 + 1, g1, (g1 + 1), m4, (m4 + 1), A_11.out, OP_11.out, OQ_11.out, (HV4.out _ (by omega)), by omega, by omega, by omega, by omega⟩, K11.out⟩
                · obtain rfl : 0 = fo := (HFO.out.trans (by first | rfl | (simp [firstI, cwI]; done))).symm
                  obtain rfl : ql = tlv := (HTL.out.trans (by first | rfl | (simp; done) | (have hb : (b0 || b1) = false := by {cases hh : (b0 || b1) with | false => rfl | true => exact absurd (hfk hh) (by decide)}; simp [hb]))).symm
                  obtain rfl : tk = tkv := (HTV.out.trans (by first | rfl | (simp; done))).symm
                  clear HFO HTV HTL
                  have cX1_0 := (X_0.out.2 1 _ rfl).1
                  go_enter Tryz.func23, Tryz.ntmps23
                  go_wp2_with fail
                  refine (HP.out _).mono ?_
                  rintro e w1 ⟨⟨p, rfl, ho⟩, b1⟩
                  clear cX1_0 hw0
                  have K1 := hide (K0.out.trans (Turn.of_below b1))
                  have y1 := b1.size
                  have X_1 := hide (X_0.out.next b1)
                  have A_1 := hide (A_0.out.next b1)
                  clear X_0 A_0
                  obtain ⟨g0, hg1, hg2, hO⟩ := own_of_ownS ho
                  obtain ⟨a0, q0, rfl, _⟩ := hO.rows 1 (fun _ => rfl)
                  have OP_1 := hide hO
                  clear ho hO
                  clear b1
                  obtain ⟨cA0_1, fA0_1⟩ := A_1.out.2 0 _ rfl
                  obtain ⟨w2, hw2⟩ : ∃ w', (w1.setCell ⟨N, 0, none⟩ (.slice a0 pl.length q0)) = w' := ⟨_, rfl⟩
                  have y2 : w2.heap.size = w1.heap.size := by rw [← hw2]; simp
                  have K2 := hide (show Turn (fun y => y = N) W w2 by rw [← hw2]; exact (K1.out).trans (Turn.set _ ⟨N, 0, none⟩ _ rfl))
                  have X_2 := hide (show BoxV w2 (W.heap.size) _ by rw [← hw2]; exact (X_1.out).other ⟨N, 0, none⟩ (.slice a0 pl.length q0) (by dsimp only; omega))
                  have A_2 := hide (show BoxV w2 (N) [.slice a0 pl.length q0, e1, .bool de, .bool ov, e4, .int .i64 co] by rw [← hw2]; exact (A_1.out).set 0 (by simp) (.slice a0 pl.length q0))
                  have OP_2 := hide (show Own w2 _ _ _ by rw [← hw2]; exact (OP_1.out).setCell ⟨N, 0, none⟩ (.slice a0 pl.length q0) (fun hh => by have h1 := hh.1; have h2 := hh.2; simp only at h1 h2; omega))
                  clear X_1 A_1 OP_1
                  have cX0_2 := (X_2.out.2 0 _ rfl).1
                  go_wp2_with fail
                  refine (HC.out _).mono ?_
                  rintro e w3 ⟨rfl, b3⟩
                  clear cA0_1 fA0_1 hw2 cX0_2
                  have K3 := hide (K2.out.trans (Turn.of_below b3))
                  have y3 := b3.size
                  have X_3 := hide (X_2.out.next b3)
                  have A_3 := hide (A_2.out.next b3)
                  have OP_3 := hide (OP_2.out.next b3)
                  clear X_2 A_2 OP_2
                  clear b3
                  obtain ⟨w4, hw4⟩ : ∃ w', w3.alloc (Obj.cells #[.string ⟨#[71, 69, 84]⟩, .string ⟨#[72, 69, 65, 68]⟩, .string ⟨#[79, 80, 84, 73, 79, 78, 83]⟩, .string ⟨#[80, 82, 79, 80, 70, 73, 78, 68]⟩] 9) = w' := ⟨_, rfl⟩
                  have b4 : Below w3.heap.size w3 w4 := by rw [← hw4]; exact (Below.refl _ _).alloc (Nat.le_refl _) _
                  have y4 : w4.heap.size = w3.heap.size + 1 := by rw [← hw4]; simp
                  have hS : BoxV w4 w3.heap.size [.string ⟨#[71, 69, 84]⟩, .string ⟨#[72, 69, 65, 68]⟩, .string ⟨#[79, 80, 84, 73, 79, 78, 83]⟩, .string ⟨#[80, 82, 79, 80, 70, 73, 78, 68]⟩] := by rw [← hw4]; exact BoxV.made _ _ _
                  have K4 := hide (K3.out.trans (Turn.of_below b4))
                  have X_4 := hide (X_3.out.next b4)
                  have A_4 := hide (A_3.out.next b4)
                  have OP_4 := hide (OP_3.out.next b4)
                  clear X_3 A_3 OP_3
                  have L_4 := hide hS
                  clear hS b4
                  have cX0_4 := (X_4.out.2 0 _ rfl).1
                  have hcl : ∀ j (hj : j < otherMs.length), w4.cell? ⟨w3.heap.size, j, none⟩ = some (.string otherMs[j]) := fun j hj => by
                    match j, hj with
                    | 0, _ => exact (L_4.out.2 0 _ rfl).1
                    | 1, _ => exact (L_4.out.2 1 _ rfl).1
                    | 2, _ => exact (L_4.out.2 2 _ rfl).1
                    | 3, _ => exact (L_4.out.2 3 _ rfl).1
                  have HHQ := hide ((HH.out (w3.heap.size) _ hcl).mono (fun e w2 (q : _ ∧ _) => (⟨q.1, by rw [q.2]; exact Below.refl _ _⟩ : _ ∧ Below w4.heap.size w4 w2)))
                  clear hcl
                  go_wp2_with fail
                  refine (HHQ.out).mono ?_
                  rintro e w5 ⟨rfl, b5⟩
                  clear hw4 cX0_4
                  have K5 := hide (K4.out.trans (Turn.of_below b5))
                  have y5 := b5.size
                  have X_5 := hide (X_4.out.next b5)
                  have A_5 := hide (A_4.out.next b5)
                  have OP_5 := hide (OP_4.out.next b5)
                  have L_5 := hide (L_4.out.next b5)
                  clear X_4 A_4 OP_4 L_4
                  clear b5
                  clear HHQ L_5
                  have cX0_5 := (X_5.out.2 0 _ rfl).1
                  have cX2_5 := (X_5.out.2 2 _ rfl).1
                  go_wp2_with fail
                  refine (HD.out _ (KB.out _ K5.out)).mono ?_
                  rintro e w6 ⟨rfl, b6⟩
                  clear cX0_5 cX2_5
                  have K6 := hide (K5.out.trans (Turn.of_below b6))
                  have y6 := b6.size
                  have X_6 := hide (X_5.out.next b6)
                  have A_6 := hide (A_5.out.next b6)
                  have OP_6 := hide (OP_5.out.next b6)
                  clear X_5 A_5 OP_5
                  clear b6
                  go_wp2_with fail
                  refine (HQ.out _).mono ?_
                  rintro e w7 ⟨⟨p, rfl, ho⟩, b7⟩
                  have K7 := hide (K6.out.trans (Turn.of_below b7))
                  have y7 := b7.size
                  have X_7 := hide (X_6.out.next b7)
                  have A_7 := hide (A_6.out.next b7)
                  have OP_7 := hide (OP_6.out.next b7)
                  clear X_6 A_6 OP_6
                  obtain ⟨g1, hg3, hg4, hO⟩ := own_of_ownS ho
                  obtain ⟨a1, q1, rfl, _⟩ := hO.rows 1 (fun _ => rfl)
                  have OQ_7 := hide hO
                  clear ho hO
                  clear b7
                  obtain ⟨cA1_7, fA1_7⟩ := A_7.out.2 1 _ rfl
                  obtain ⟨w8, hw8⟩ : ∃ w', (w7.setCell ⟨N, 1, none⟩ (.slice a1 ql.length q1)) = w' := ⟨_, rfl⟩
                  have y8 : w8.heap.size = w7.heap.size := by rw [← hw8]; simp
                  have K8 := hide (show Turn (fun y => y = N) W w8 by rw [← hw8]; exact (K7.out).trans (Turn.set _ ⟨N, 1, none⟩ _ rfl))
                  have X_8 := hide (show BoxV w8 (W.heap.size) _ by rw [← hw8]; exact (X_7.out).other ⟨N, 1, none⟩ (.slice a1 ql.length q1) (by dsimp only; omega))
                  have A_8 := hide (show BoxV w8 (N) [.slice a0 pl.length q0, .slice a1 ql.length q1, .bool de, .bool ov, e4, .int .i64 co] by rw [← hw8]; exact (A_7.out).set 1 (by simp) (.slice a1 ql.length q1))
                  have OP_8 := hide (show Own w8 _ _ _ by rw [← hw8]; exact (OP_7.out).setCell ⟨N, 1, none⟩ (.slice a1 ql.length q1) (fun hh => by have h1 := hh.1; have h2 := hh.2; simp only at h1 h2; omega))
                  have OQ_8 := hide (show Own w8 _ _ _ by rw [← hw8]; exact (OQ_7.out).setCell ⟨N, 1, none⟩ (.slice a1 ql.length q1) (fun hh => by have h1 := hh.1; have h2 := hh.2; simp only at h1 h2; omega))
                  clear X_7 A_7 OP_7 OQ_7
                  have cX2_8 := (X_8.out.2 2 _ rfl).1
                  go_wp2_with fail
                  refine (HF.out _ (KB.out _ K8.out)).mono ?_
                  rintro e w9 ⟨rfl, b9⟩
                  clear cA1_7 fA1_7 hw8 cX2_8
                  have K9 := hide (K8.out.trans (Turn.of_below b9))
                  have y9 := b9.size
                  have X_9 := hide (X_8.out.next b9)
                  have A_9 := hide (A_8.out.next b9)
                  have OP_9 := hide (OP_8.out.next b9)
                  have OQ_9 := hide (OQ_8.out.next b9)
                  clear X_8 A_8 OP_8 OQ_8
                  clear b9
                  go_wp2_with fail
                  refine (HI.out _).mono ?_
                  rintro e w10 ⟨⟨lv, rfl, hv⟩, b10⟩
                  have K10 := hide (K9.out.trans (Turn.of_below b10))
                  have y10 := b10.size
                  have X_10 := hide (X_9.out.next b10)
                  have A_10 := hide (A_9.out.next b10)
                  have OP_10 := hide (OP_9.out.next b10)
                  have OQ_10 := hide (OQ_9.out.next b10)
                  clear X_9 A_9 OP_9 OQ_9
                  have V_10 := hide hv
                  clear hv
                  clear b10
                  have cX0_10 := (X_10.out.2 0 _ rfl).1
                  have cX1_10 := (X_10.out.2 1 _ rfl).1
                  have cX2_10 := (X_10.out.2 2 _ rfl).1
                  have cX3_10 := (X_10.out.2 3 _ rfl).1
                  go_wp2_with fail
                  refine (HE.out _ (KB.out _ K10.out)).mono ?_
                  rintro e w11 ⟨rfl, b11⟩
                  clear cX0_10 cX1_10 cX2_10 cX3_10
                  have K11 := hide (K10.out.trans (Turn.of_below b11))
                  have y11 := b11.size
                  have X_11 := hide (X_10.out.next b11)
                  have A_11 := hide (A_10.out.next b11)
                  have OP_11 := hide (OP_10.out.next b11)
                  have OQ_11 := hide (OQ_10.out.next b11)
                  clear X_10 A_10 OP_10 OQ_10
                  have V_11 := hide (V_10.out.atI b11)
                  clear V_10
                  clear b11
                  go_wp2_with fail
                  refine (HS.out _ lv V_11.out).mono ?_
                  rintro e w12 ⟨⟨tv, rfl, ho⟩, b12⟩
                  have K12 := hide (K11.out.trans (Turn.of_below b12))
                  have y12 := b12.size
                  have X_12 := hide (X_11.out.next b12)
                  have A_12 := hide (A_11.out.next b12)
                  have OP_12 := hide (OP_11.out.next b12)
                  have OQ_12 := hide (OQ_11.out.next b12)
                  clear X_11 A_11 OP_11 OQ_11
                  obtain ⟨a4, q4, rfl, _⟩ := ho.rows 1 (fun _ => rfl)
                  have OT_12 := hide ho
                  clear ho
                  clear b12
                  obtain ⟨cA4_12, fA4_12⟩ := A_12.out.2 4 _ rfl
                  obtain ⟨w13, hw13⟩ : ∃ w', (w12.setCell ⟨N, 4, none⟩ (.slice a4 tk.length q4)) = w' := ⟨_, rfl⟩
                  have y13 : w13.heap.size = w12.heap.size := by rw [← hw13]; simp
                  have K13 := hide (show Turn (fun y => y = N) W w13 by rw [← hw13]; exact (K12.out).trans (Turn.set _ ⟨N, 4, none⟩ _ rfl))
                  have X_13 := hide (show BoxV w13 (W.heap.size) _ by rw [← hw13]; exact (X_12.out).other ⟨N, 4, none⟩ (.slice a4 tk.length q4) (by dsimp only; omega))
                  have A_13 := hide (show BoxV w13 (N) [.slice a0 pl.length q0, .slice a1 ql.length q1, .bool de, .bool ov, .slice a4 tk.length q4, .int .i64 co] by rw [← hw13]; exact (A_12.out).set 4 (by simp) (.slice a4 tk.length q4))
                  have OP_13 := hide (show Own w13 _ _ _ by rw [← hw13]; exact (OP_12.out).setCell ⟨N, 4, none⟩ (.slice a4 tk.length q4) (fun hh => by have h1 := hh.1; have h2 := hh.2; simp only at h1 h2; omega))
                  have OQ_13 := hide (show Own w13 _ _ _ by rw [← hw13]; exact (OQ_12.out).setCell ⟨N, 4, none⟩ (.slice a4 tk.length q4) (fun hh => by have h1 := hh.1; have h2 := hh.2; simp only at h1 h2; omega))
                  have OT_13 := hide (show Own w13 _ _ _ by rw [← hw13]; exact (OT_12.out).setCell ⟨N, 4, none⟩ (.slice a4 tk.length q4) (fun hh => by have h1 := hh.1; have h2 := hh.2; simp only at h1 h2; omega))
                  clear X_12 A_12 OP_12 OQ_12 OT_12
                  go_wp2
                  go_ret
                  exact ⟨⟨rfl, _, _, _, g0, g0 + 1, g1, (g1 + 1), w11.heap.size, w12.heap.size, A_13.out, OP_13.out, OQ_13.out, OT_13.out, by omega, by omega, by omega, by omega⟩, K13.out⟩
        cases dz
        · obtain rfl : 400 = fo := (HFO.out.trans (by first | rfl | (simp [firstI, cwI]; done))).symm
          obtain rfl : [] = tlv := (HTL.out.trans (by first | rfl | (simp; done) | (have hb : (b0 || b1) = false := by {cases hh : (b0 || b1) with | false => rfl | true => exact absurd (hfk hh) (by decide)}; simp [hb]))).symm
          obtain rfl : [] = tkv := (HTV.out.trans (by first | rfl | (simp; done))).symm
          clear HFO HTV HTL
          have cX1_0 := (X_0.out.2 1 _ rfl).1
          go_enter Tryz.func23, Tryz.ntmps23
          go_wp2_with fail
          refine (HP.out _).mono ?_
          rintro e w1 ⟨⟨p, rfl, ho⟩, b1⟩
          clear cX1_0 hw0
          have K1 := hide (K0.out.trans (Turn.of_below b1))
          have y1 := b1.size
          have X_1 := hide (X_0.out.next b1)
          have A_1 := hide (A_0.out.next b1)
          clear X_0 A_0
          obtain ⟨g0, hg1, hg2, hO⟩ := own_of_ownS ho
          obtain ⟨a0, q0, rfl, _⟩ := hO.rows 1 (fun _ => rfl)
          have OP_1 := hide hO
          clear ho hO
          clear b1
          obtain ⟨cA0_1, fA0_1⟩ := A_1.out.2 0 _ rfl
          obtain ⟨w2, hw2⟩ : ∃ w', (w1.setCell ⟨N, 0, none⟩ (.slice a0 pl.length q0)) = w' := ⟨_, rfl⟩
          have y2 : w2.heap.size = w1.heap.size := by rw [← hw2]; simp
          have K2 := hide (show Turn (fun y => y = N) W w2 by rw [← hw2]; exact (K1.out).trans (Turn.set _ ⟨N, 0, none⟩ _ rfl))
          have X_2 := hide (show BoxV w2 (W.heap.size) _ by rw [← hw2]; exact (X_1.out).other ⟨N, 0, none⟩ (.slice a0 pl.length q0) (by dsimp only; omega))
          have A_2 := hide (show BoxV w2 (N) [.slice a0 pl.length q0, e1, .bool de, .bool ov, e4, .int .i64 co] by rw [← hw2]; exact (A_1.out).set 0 (by simp) (.slice a0 pl.length q0))
          have OP_2 := hide (show Own w2 _ _ _ by rw [← hw2]; exact (OP_1.out).setCell ⟨N, 0, none⟩ (.slice a0 pl.length q0) (fun hh => by have h1 := hh.1; have h2 := hh.2; simp only at h1 h2; omega))
          clear X_1 A_1 OP_1
          have cX0_2 := (X_2.out.2 0 _ rfl).1
          go_wp2_with fail
          refine (HC.out _).mono ?_
          rintro e w3 ⟨rfl, b3⟩
          clear cA0_1 fA0_1 hw2 cX0_2
          have K3 := hide (K2.out.trans (Turn.of_below b3))
          have y3 := b3.size
          have X_3 := hide (X_2.out.next b3)
          have A_3 := hide (A_2.out.next b3)
          have OP_3 := hide (OP_2.out.next b3)
          clear X_2 A_2 OP_2
          clear b3
          obtain ⟨w4, hw4⟩ : ∃ w', w3.alloc (Obj.cells #[.string ⟨#[71, 69, 84]⟩, .string ⟨#[72, 69, 65, 68]⟩, .string ⟨#[79, 80, 84, 73, 79, 78, 83]⟩, .string ⟨#[80, 82, 79, 80, 70, 73, 78, 68]⟩] 9) = w' := ⟨_, rfl⟩
          have b4 : Below w3.heap.size w3 w4 := by rw [← hw4]; exact (Below.refl _ _).alloc (Nat.le_refl _) _
          have y4 : w4.heap.size = w3.heap.size + 1 := by rw [← hw4]; simp
          have hS : BoxV w4 w3.heap.size [.string ⟨#[71, 69, 84]⟩, .string ⟨#[72, 69, 65, 68]⟩, .string ⟨#[79, 80, 84, 73, 79, 78, 83]⟩, .string ⟨#[80, 82, 79, 80, 70, 73, 78, 68]⟩] := by rw [← hw4]; exact BoxV.made _ _ _
          have K4 := hide (K3.out.trans (Turn.of_below b4))
          have X_4 := hide (X_3.out.next b4)
          have A_4 := hide (A_3.out.next b4)
          have OP_4 := hide (OP_3.out.next b4)
          clear X_3 A_3 OP_3
          have L_4 := hide hS
          clear hS b4
          have cX0_4 := (X_4.out.2 0 _ rfl).1
          have hcl : ∀ j (hj : j < otherMs.length), w4.cell? ⟨w3.heap.size, j, none⟩ = some (.string otherMs[j]) := fun j hj => by
            match j, hj with
            | 0, _ => exact (L_4.out.2 0 _ rfl).1
            | 1, _ => exact (L_4.out.2 1 _ rfl).1
            | 2, _ => exact (L_4.out.2 2 _ rfl).1
            | 3, _ => exact (L_4.out.2 3 _ rfl).1
          have HHQ := hide ((HH.out (w3.heap.size) _ hcl).mono (fun e w2 (q : _ ∧ _) => (⟨q.1, by rw [q.2]; exact Below.refl _ _⟩ : _ ∧ Below w4.heap.size w4 w2)))
          clear hcl
          go_wp2_with fail
          refine (HHQ.out).mono ?_
          rintro e w5 ⟨rfl, b5⟩
          clear hw4 cX0_4
          have K5 := hide (K4.out.trans (Turn.of_below b5))
          have y5 := b5.size
          have X_5 := hide (X_4.out.next b5)
          have A_5 := hide (A_4.out.next b5)
          have OP_5 := hide (OP_4.out.next b5)
          have L_5 := hide (L_4.out.next b5)
          clear X_4 A_4 OP_4 L_4
          clear b5
          clear HHQ L_5
          have cX0_5 := (X_5.out.2 0 _ rfl).1
          have cX2_5 := (X_5.out.2 2 _ rfl).1
          go_wp2_with fail
          refine (HF.out _ (KB.out _ K5.out)).mono ?_
          rintro e w6 ⟨rfl, b6⟩
          clear cX0_5 cX2_5
          have K6 := hide (K5.out.trans (Turn.of_below b6))
          have y6 := b6.size
          have X_6 := hide (X_5.out.next b6)
          have A_6 := hide (A_5.out.next b6)
          have OP_6 := hide (OP_5.out.next b6)
          clear X_5 A_5 OP_5
          clear b6
          go_wp2_with fail
          refine (HI.out _).mono ?_
          rintro e w7 ⟨⟨lv, rfl, hv⟩, b7⟩
          have K7 := hide (K6.out.trans (Turn.of_below b7))
          have y7 := b7.size
          have X_7 := hide (X_6.out.next b7)
          have A_7 := hide (A_6.out.next b7)
          have OP_7 := hide (OP_6.out.next b7)
          clear X_6 A_6 OP_6
          have V_7 := hide hv
          clear hv
          clear b7
          have cX0_7 := (X_7.out.2 0 _ rfl).1
          have cX1_7 := (X_7.out.2 1 _ rfl).1
          have cX2_7 := (X_7.out.2 2 _ rfl).1
          have cX3_7 := (X_7.out.2 3 _ rfl).1
          go_wp2_with fail
          refine (HE.out _ (KB.out _ K7.out)).mono ?_
          rintro e w8 ⟨rfl, b8⟩
          clear cX0_7 cX1_7 cX2_7 cX3_7
          have K8 := hide (K7.out.trans (Turn.of_below b8))
          have y8 := b8.size
          have X_8 := hide (X_7.out.next b8)
          have A_8 := hide (A_7.out.next b8)
          have OP_8 := hide (OP_7.out.next b8)
          clear X_7 A_7 OP_7
          have V_8 := hide (V_7.out.atI b8)
          clear V_7
          clear b8
          go_wp2
          go_ret
          exact ⟨⟨rfl, _, _, _, g0, g0 + 1, m1, (m1 + 1), m4, (m4 + 1), A_8.out, OP_8.out, (HV1.out _ (by omega)), (HV4.out _ (by omega)), by omega, by omega, by omega, by omega⟩, K8.out⟩
        · cases it
          · have htk : tk = [] := HTN.out (by trivial)
            subst htk
            obtain rfl : 0 = fo := (HFO.out.trans (by first | rfl | (simp [firstI, cwI]; done))).symm
            obtain rfl : [] = tlv := (HTL.out.trans (by first | rfl | (simp; done) | (have hb : (b0 || b1) = false := by {cases hh : (b0 || b1) with | false => rfl | true => exact absurd (hfk hh) (by decide)}; simp [hb]))).symm
            obtain rfl : [] = tkv := (HTV.out.trans (by first | rfl | (simp; done))).symm
            clear HFO HTV HTL
            have cX1_0 := (X_0.out.2 1 _ rfl).1
            go_enter Tryz.func23, Tryz.ntmps23
            go_wp2_with fail
            refine (HP.out _).mono ?_
            rintro e w1 ⟨⟨p, rfl, ho⟩, b1⟩
            clear cX1_0 hw0
            have K1 := hide (K0.out.trans (Turn.of_below b1))
            have y1 := b1.size
            have X_1 := hide (X_0.out.next b1)
            have A_1 := hide (A_0.out.next b1)
            clear X_0 A_0
            obtain ⟨g0, hg1, hg2, hO⟩ := own_of_ownS ho
            obtain ⟨a0, q0, rfl, _⟩ := hO.rows 1 (fun _ => rfl)
            have OP_1 := hide hO
            clear ho hO
            clear b1
            obtain ⟨cA0_1, fA0_1⟩ := A_1.out.2 0 _ rfl
            obtain ⟨w2, hw2⟩ : ∃ w', (w1.setCell ⟨N, 0, none⟩ (.slice a0 pl.length q0)) = w' := ⟨_, rfl⟩
            have y2 : w2.heap.size = w1.heap.size := by rw [← hw2]; simp
            have K2 := hide (show Turn (fun y => y = N) W w2 by rw [← hw2]; exact (K1.out).trans (Turn.set _ ⟨N, 0, none⟩ _ rfl))
            have X_2 := hide (show BoxV w2 (W.heap.size) _ by rw [← hw2]; exact (X_1.out).other ⟨N, 0, none⟩ (.slice a0 pl.length q0) (by dsimp only; omega))
            have A_2 := hide (show BoxV w2 (N) [.slice a0 pl.length q0, e1, .bool de, .bool ov, e4, .int .i64 co] by rw [← hw2]; exact (A_1.out).set 0 (by simp) (.slice a0 pl.length q0))
            have OP_2 := hide (show Own w2 _ _ _ by rw [← hw2]; exact (OP_1.out).setCell ⟨N, 0, none⟩ (.slice a0 pl.length q0) (fun hh => by have h1 := hh.1; have h2 := hh.2; simp only at h1 h2; omega))
            clear X_1 A_1 OP_1
            have cX0_2 := (X_2.out.2 0 _ rfl).1
            go_wp2_with fail
            refine (HC.out _).mono ?_
            rintro e w3 ⟨rfl, b3⟩
            clear cA0_1 fA0_1 hw2 cX0_2
            have K3 := hide (K2.out.trans (Turn.of_below b3))
            have y3 := b3.size
            have X_3 := hide (X_2.out.next b3)
            have A_3 := hide (A_2.out.next b3)
            have OP_3 := hide (OP_2.out.next b3)
            clear X_2 A_2 OP_2
            clear b3
            obtain ⟨w4, hw4⟩ : ∃ w', w3.alloc (Obj.cells #[.string ⟨#[71, 69, 84]⟩, .string ⟨#[72, 69, 65, 68]⟩, .string ⟨#[79, 80, 84, 73, 79, 78, 83]⟩, .string ⟨#[80, 82, 79, 80, 70, 73, 78, 68]⟩] 9) = w' := ⟨_, rfl⟩
            have b4 : Below w3.heap.size w3 w4 := by rw [← hw4]; exact (Below.refl _ _).alloc (Nat.le_refl _) _
            have y4 : w4.heap.size = w3.heap.size + 1 := by rw [← hw4]; simp
            have hS : BoxV w4 w3.heap.size [.string ⟨#[71, 69, 84]⟩, .string ⟨#[72, 69, 65, 68]⟩, .string ⟨#[79, 80, 84, 73, 79, 78, 83]⟩, .string ⟨#[80, 82, 79, 80, 70, 73, 78, 68]⟩] := by rw [← hw4]; exact BoxV.made _ _ _
            have K4 := hide (K3.out.trans (Turn.of_below b4))
            have X_4 := hide (X_3.out.next b4)
            have A_4 := hide (A_3.out.next b4)
            have OP_4 := hide (OP_3.out.next b4)
            clear X_3 A_3 OP_3
            have L_4 := hide hS
            clear hS b4
            have cX0_4 := (X_4.out.2 0 _ rfl).1
            have hcl : ∀ j (hj : j < otherMs.length), w4.cell? ⟨w3.heap.size, j, none⟩ = some (.string otherMs[j]) := fun j hj => by
              match j, hj with
              | 0, _ => exact (L_4.out.2 0 _ rfl).1
              | 1, _ => exact (L_4.out.2 1 _ rfl).1
              | 2, _ => exact (L_4.out.2 2 _ rfl).1
              | 3, _ => exact (L_4.out.2 3 _ rfl).1
            have HHQ := hide ((HH.out (w3.heap.size) _ hcl).mono (fun e w2 (q : _ ∧ _) => (⟨q.1, by rw [q.2]; exact Below.refl _ _⟩ : _ ∧ Below w4.heap.size w4 w2)))
            clear hcl
            go_wp2_with fail
            refine (HHQ.out).mono ?_
            rintro e w5 ⟨rfl, b5⟩
            clear hw4 cX0_4
            have K5 := hide (K4.out.trans (Turn.of_below b5))
            have y5 := b5.size
            have X_5 := hide (X_4.out.next b5)
            have A_5 := hide (A_4.out.next b5)
            have OP_5 := hide (OP_4.out.next b5)
            have L_5 := hide (L_4.out.next b5)
            clear X_4 A_4 OP_4 L_4
            clear b5
            clear HHQ L_5
            have cX0_5 := (X_5.out.2 0 _ rfl).1
            have cX2_5 := (X_5.out.2 2 _ rfl).1
            go_wp2_with fail
            refine (HF.out _ (KB.out _ K5.out)).mono ?_
            rintro e w6 ⟨rfl, b6⟩
            clear cX0_5 cX2_5
            have K6 := hide (K5.out.trans (Turn.of_below b6))
            have y6 := b6.size
            have X_6 := hide (X_5.out.next b6)
            have A_6 := hide (A_5.out.next b6)
            have OP_6 := hide (OP_5.out.next b6)
            clear X_5 A_5 OP_5
            clear b6
            go_wp2_with fail
            refine (HI.out _).mono ?_
            rintro e w7 ⟨⟨lv, rfl, hv⟩, b7⟩
            have K7 := hide (K6.out.trans (Turn.of_below b7))
            have y7 := b7.size
            have X_7 := hide (X_6.out.next b7)
            have A_7 := hide (A_6.out.next b7)
            have OP_7 := hide (OP_6.out.next b7)
            clear X_6 A_6 OP_6
            have V_7 := hide hv
            clear hv
            clear b7
            have cX0_7 := (X_7.out.2 0 _ rfl).1
            have cX1_7 := (X_7.out.2 1 _ rfl).1
            have cX2_7 := (X_7.out.2 2 _ rfl).1
            have cX3_7 := (X_7.out.2 3 _ rfl).1
            go_wp2_with fail
            refine (HE.out _ (KB.out _ K7.out)).mono ?_
            rintro e w8 ⟨rfl, b8⟩
            clear cX0_7 cX1_7 cX2_7 cX3_7
            have K8 := hide (K7.out.trans (Turn.of_below b8))
            have y8 := b8.size
            have X_8 := hide (X_7.out.next b8)
            have A_8 := hide (A_7.out.next b8)
            have OP_8 := hide (OP_7.out.next b8)
            clear X_7 A_7 OP_7
            have V_8 := hide (V_7.out.atI b8)
            clear V_7
            clear b8
            go_wp2
            go_ret
            exact ⟨⟨rfl, _, _, _, g0, g0 + 1, m1, (m1 + 1), m4, (m4 + 1), A_8.out, OP_8.out, (HV1.out _ (by omega)), (HV4.out _ (by omega)), by omega, by omega, by omega, by omega⟩, K8.out⟩
          · cases iq
            · obtain rfl : 400 = fo := (HFO.out.trans (by first | rfl | (simp [firstI, cwI]; done))).symm
              obtain rfl : [] = tlv := (HTL.out.trans (by first | rfl | (simp; done) | (have hb : (b0 || b1) = false := by {cases hh : (b0 || b1) with | false => rfl | true => exact absurd (hfk hh) (by decide)}; simp [hb]))).symm
              obtain rfl : [] = tkv := (HTV.out.trans (by first | rfl | (simp; done))).symm
              clear HFO HTV HTL
              have cX1_0 := (X_0.out.2 1 _ rfl).1
              go_enter Tryz.func23, Tryz.ntmps23
              go_wp2_with fail
              refine (HP.out _).mono ?_
              rintro e w1 ⟨⟨p, rfl, ho⟩, b1⟩
              clear cX1_0 hw0
              have K1 := hide (K0.out.trans (Turn.of_below b1))
              have y1 := b1.size
              have X_1 := hide (X_0.out.next b1)
              have A_1 := hide (A_0.out.next b1)
              clear X_0 A_0
              obtain ⟨g0, hg1, hg2, hO⟩ := own_of_ownS ho
              obtain ⟨a0, q0, rfl, _⟩ := hO.rows 1 (fun _ => rfl)
              have OP_1 := hide hO
              clear ho hO
              clear b1
              obtain ⟨cA0_1, fA0_1⟩ := A_1.out.2 0 _ rfl
              obtain ⟨w2, hw2⟩ : ∃ w', (w1.setCell ⟨N, 0, none⟩ (.slice a0 pl.length q0)) = w' := ⟨_, rfl⟩
              have y2 : w2.heap.size = w1.heap.size := by rw [← hw2]; simp
              have K2 := hide (show Turn (fun y => y = N) W w2 by rw [← hw2]; exact (K1.out).trans (Turn.set _ ⟨N, 0, none⟩ _ rfl))
              have X_2 := hide (show BoxV w2 (W.heap.size) _ by rw [← hw2]; exact (X_1.out).other ⟨N, 0, none⟩ (.slice a0 pl.length q0) (by dsimp only; omega))
              have A_2 := hide (show BoxV w2 (N) [.slice a0 pl.length q0, e1, .bool de, .bool ov, e4, .int .i64 co] by rw [← hw2]; exact (A_1.out).set 0 (by simp) (.slice a0 pl.length q0))
              have OP_2 := hide (show Own w2 _ _ _ by rw [← hw2]; exact (OP_1.out).setCell ⟨N, 0, none⟩ (.slice a0 pl.length q0) (fun hh => by have h1 := hh.1; have h2 := hh.2; simp only at h1 h2; omega))
              clear X_1 A_1 OP_1
              have cX0_2 := (X_2.out.2 0 _ rfl).1
              go_wp2_with fail
              refine (HC.out _).mono ?_
              rintro e w3 ⟨rfl, b3⟩
              clear cA0_1 fA0_1 hw2 cX0_2
              have K3 := hide (K2.out.trans (Turn.of_below b3))
              have y3 := b3.size
              have X_3 := hide (X_2.out.next b3)
              have A_3 := hide (A_2.out.next b3)
              have OP_3 := hide (OP_2.out.next b3)
              clear X_2 A_2 OP_2
              clear b3
              obtain ⟨w4, hw4⟩ : ∃ w', w3.alloc (Obj.cells #[.string ⟨#[71, 69, 84]⟩, .string ⟨#[72, 69, 65, 68]⟩, .string ⟨#[79, 80, 84, 73, 79, 78, 83]⟩, .string ⟨#[80, 82, 79, 80, 70, 73, 78, 68]⟩] 9) = w' := ⟨_, rfl⟩
              have b4 : Below w3.heap.size w3 w4 := by rw [← hw4]; exact (Below.refl _ _).alloc (Nat.le_refl _) _
              have y4 : w4.heap.size = w3.heap.size + 1 := by rw [← hw4]; simp
              have hS : BoxV w4 w3.heap.size [.string ⟨#[71, 69, 84]⟩, .string ⟨#[72, 69, 65, 68]⟩, .string ⟨#[79, 80, 84, 73, 79, 78, 83]⟩, .string ⟨#[80, 82, 79, 80, 70, 73, 78, 68]⟩] := by rw [← hw4]; exact BoxV.made _ _ _
              have K4 := hide (K3.out.trans (Turn.of_below b4))
              have X_4 := hide (X_3.out.next b4)
              have A_4 := hide (A_3.out.next b4)
              have OP_4 := hide (OP_3.out.next b4)
              clear X_3 A_3 OP_3
              have L_4 := hide hS
              clear hS b4
              have cX0_4 := (X_4.out.2 0 _ rfl).1
              have hcl : ∀ j (hj : j < otherMs.length), w4.cell? ⟨w3.heap.size, j, none⟩ = some (.string otherMs[j]) := fun j hj => by
                match j, hj with
                | 0, _ => exact (L_4.out.2 0 _ rfl).1
                | 1, _ => exact (L_4.out.2 1 _ rfl).1
                | 2, _ => exact (L_4.out.2 2 _ rfl).1
                | 3, _ => exact (L_4.out.2 3 _ rfl).1
              have HHQ := hide ((HH.out (w3.heap.size) _ hcl).mono (fun e w2 (q : _ ∧ _) => (⟨q.1, by rw [q.2]; exact Below.refl _ _⟩ : _ ∧ Below w4.heap.size w4 w2)))
              clear hcl
              go_wp2_with fail
              refine (HHQ.out).mono ?_
              rintro e w5 ⟨rfl, b5⟩
              clear hw4 cX0_4
              have K5 := hide (K4.out.trans (Turn.of_below b5))
              have y5 := b5.size
              have X_5 := hide (X_4.out.next b5)
              have A_5 := hide (A_4.out.next b5)
              have OP_5 := hide (OP_4.out.next b5)
              have L_5 := hide (L_4.out.next b5)
              clear X_4 A_4 OP_4 L_4
              clear b5
              clear HHQ L_5
              have cX0_5 := (X_5.out.2 0 _ rfl).1
              have cX2_5 := (X_5.out.2 2 _ rfl).1
              go_wp2_with fail
              refine (HF.out _ (KB.out _ K5.out)).mono ?_
              rintro e w6 ⟨rfl, b6⟩
              clear cX0_5 cX2_5
              have K6 := hide (K5.out.trans (Turn.of_below b6))
              have y6 := b6.size
              have X_6 := hide (X_5.out.next b6)
              have A_6 := hide (A_5.out.next b6)
              have OP_6 := hide (OP_5.out.next b6)
              clear X_5 A_5 OP_5
              clear b6
              go_wp2_with fail
              refine (HI.out _).mono ?_
              rintro e w7 ⟨⟨lv, rfl, hv⟩, b7⟩
              have K7 := hide (K6.out.trans (Turn.of_below b7))
              have y7 := b7.size
              have X_7 := hide (X_6.out.next b7)
              have A_7 := hide (A_6.out.next b7)
              have OP_7 := hide (OP_6.out.next b7)
              clear X_6 A_6 OP_6
              have V_7 := hide hv
              clear hv
              clear b7
              have cX0_7 := (X_7.out.2 0 _ rfl).1
              have cX1_7 := (X_7.out.2 1 _ rfl).1
              have cX2_7 := (X_7.out.2 2 _ rfl).1
              have cX3_7 := (X_7.out.2 3 _ rfl).1
              go_wp2_with fail
              refine (HE.out _ (KB.out _ K7.out)).mono ?_
              rintro e w8 ⟨rfl, b8⟩
              clear cX0_7 cX1_7 cX2_7 cX3_7
              have K8 := hide (K7.out.trans (Turn.of_below b8))
              have y8 := b8.size
              have X_8 := hide (X_7.out.next b8)
              have A_8 := hide (A_7.out.next b8)
              have OP_8 := hide (OP_7.out.next b8)
              clear X_7 A_7 OP_7
              have V_8 := hide (V_7.out.atI b8)
              clear V_7
              clear b8
              go_wp2
              go_ret
              exact ⟨⟨rfl, _, _, _, g0, g0 + 1, m1, (m1 + 1), m4, (m4 + 1), A_8.out, OP_8.out, (HV1.out _ (by omega)), (HV4.out _ (by omega)), by omega, by omega, by omega, by omega⟩, K8.out⟩
            · obtain rfl : 0 = fo := (HFO.out.trans (by first | rfl | (simp [firstI, cwI]; done))).symm
              obtain rfl : [] = tlv := (HTL.out.trans (by first | rfl | (simp; done) | (have hb : (b0 || b1) = false := by {cases hh : (b0 || b1) with | false => rfl | true => exact absurd (hfk hh) (by decide)}; simp [hb]))).symm
              obtain rfl : tk = tkv := (HTV.out.trans (by first | rfl | (simp; done))).symm
              clear HFO HTV HTL
              have cX1_0 := (X_0.out.2 1 _ rfl).1
              go_enter Tryz.func23, Tryz.ntmps23
              go_wp2_with fail
              refine (HP.out _).mono ?_
              rintro e w1 ⟨⟨p, rfl, ho⟩, b1⟩
              clear cX1_0 hw0
              have K1 := hide (K0.out.trans (Turn.of_below b1))
              have y1 := b1.size
              have X_1 := hide (X_0.out.next b1)
              have A_1 := hide (A_0.out.next b1)
              clear X_0 A_0
              obtain ⟨g0, hg1, hg2, hO⟩ := own_of_ownS ho
              obtain ⟨a0, q0, rfl, _⟩ := hO.rows 1 (fun _ => rfl)
              have OP_1 := hide hO
              clear ho hO
              clear b1
              obtain ⟨cA0_1, fA0_1⟩ := A_1.out.2 0 _ rfl
              obtain ⟨w2, hw2⟩ : ∃ w', (w1.setCell ⟨N, 0, none⟩ (.slice a0 pl.length q0)) = w' := ⟨_, rfl⟩
              have y2 : w2.heap.size = w1.heap.size := by rw [← hw2]; simp
              have K2 := hide (show Turn (fun y => y = N) W w2 by rw [← hw2]; exact (K1.out).trans (Turn.set _ ⟨N, 0, none⟩ _ rfl))
              have X_2 := hide (show BoxV w2 (W.heap.size) _ by rw [← hw2]; exact (X_1.out).other ⟨N, 0, none⟩ (.slice a0 pl.length q0) (by dsimp only; omega))
              have A_2 := hide (show BoxV w2 (N) [.slice a0 pl.length q0, e1, .bool de, .bool ov, e4, .int .i64 co] by rw [← hw2]; exact (A_1.out).set 0 (by simp) (.slice a0 pl.length q0))
              have OP_2 := hide (show Own w2 _ _ _ by rw [← hw2]; exact (OP_1.out).setCell ⟨N, 0, none⟩ (.slice a0 pl.length q0) (fun hh => by have h1 := hh.1; have h2 := hh.2; simp only at h1 h2; omega))
              clear X_1 A_1 OP_1
              have cX0_2 := (X_2.out.2 0 _ rfl).1
              go_wp2_with fail
              refine (HC.out _).mono ?_
              rintro e w3 ⟨rfl, b3⟩
              clear cA0_1 fA0_1 hw2 cX0_2
              have K3 := hide (K2.out.trans (Turn.of_below b3))
              have y3 := b3.size
              have X_3 := hide (X_2.out.next b3)
              have A_3 := hide (A_2.out.next b3)
              have OP_3 := hide (OP_2.out.next b3)
              clear X_2 A_2 OP_2
              clear b3
              obtain ⟨w4, hw4⟩ : ∃ w', w3.alloc (Obj.cells #[.string ⟨#[71, 69, 84]⟩, .string ⟨#[72, 69, 65, 68]⟩, .string ⟨#[79, 80, 84, 73, 79, 78, 83]⟩, .string ⟨#[80, 82, 79, 80, 70, 73, 78, 68]⟩] 9) = w' := ⟨_, rfl⟩
              have b4 : Below w3.heap.size w3 w4 := by rw [← hw4]; exact (Below.refl _ _).alloc (Nat.le_refl _) _
              have y4 : w4.heap.size = w3.heap.size + 1 := by rw [← hw4]; simp
              have hS : BoxV w4 w3.heap.size [.string ⟨#[71, 69, 84]⟩, .string ⟨#[72, 69, 65, 68]⟩, .string ⟨#[79, 80, 84, 73, 79, 78, 83]⟩, .string ⟨#[80, 82, 79, 80, 70, 73, 78, 68]⟩] := by rw [← hw4]; exact BoxV.made _ _ _
              have K4 := hide (K3.out.trans (Turn.of_below b4))
              have X_4 := hide (X_3.out.next b4)
              have A_4 := hide (A_3.out.next b4)
              have OP_4 := hide (OP_3.out.next b4)
              clear X_3 A_3 OP_3
              have L_4 := hide hS
              clear hS b4
              have cX0_4 := (X_4.out.2 0 _ rfl).1
              have hcl : ∀ j (hj : j < otherMs.length), w4.cell? ⟨w3.heap.size, j, none⟩ = some (.string otherMs[j]) := fun j hj => by
                match j, hj with
                | 0, _ => exact (L_4.out.2 0 _ rfl).1
                | 1, _ => exact (L_4.out.2 1 _ rfl).1
                | 2, _ => exact (L_4.out.2 2 _ rfl).1
                | 3, _ => exact (L_4.out.2 3 _ rfl).1
              have HHQ := hide ((HH.out (w3.heap.size) _ hcl).mono (fun e w2 (q : _ ∧ _) => (⟨q.1, by rw [q.2]; exact Below.refl _ _⟩ : _ ∧ Below w4.heap.size w4 w2)))
              clear hcl
              go_wp2_with fail
              refine (HHQ.out).mono ?_
              rintro e w5 ⟨rfl, b5⟩
              clear hw4 cX0_4
              have K5 := hide (K4.out.trans (Turn.of_below b5))
              have y5 := b5.size
              have X_5 := hide (X_4.out.next b5)
              have A_5 := hide (A_4.out.next b5)
              have OP_5 := hide (OP_4.out.next b5)
              have L_5 := hide (L_4.out.next b5)
              clear X_4 A_4 OP_4 L_4
              clear b5
              clear HHQ L_5
              have cX0_5 := (X_5.out.2 0 _ rfl).1
              have cX2_5 := (X_5.out.2 2 _ rfl).1
              go_wp2_with fail
              refine (HF.out _ (KB.out _ K5.out)).mono ?_
              rintro e w6 ⟨rfl, b6⟩
              clear cX0_5 cX2_5
              have K6 := hide (K5.out.trans (Turn.of_below b6))
              have y6 := b6.size
              have X_6 := hide (X_5.out.next b6)
              have A_6 := hide (A_5.out.next b6)
              have OP_6 := hide (OP_5.out.next b6)
              clear X_5 A_5 OP_5
              clear b6
              go_wp2_with fail
              refine (HI.out _).mono ?_
              rintro e w7 ⟨⟨lv, rfl, hv⟩, b7⟩
              have K7 := hide (K6.out.trans (Turn.of_below b7))
              have y7 := b7.size
              have X_7 := hide (X_6.out.next b7)
              have A_7 := hide (A_6.out.next b7)
              have OP_7 := hide (OP_6.out.next b7)
              clear X_6 A_6 OP_6
              have V_7 := hide hv
              clear hv
              clear b7
              have cX0_7 := (X_7.out.2 0 _ rfl).1
              have cX1_7 := (X_7.out.2 1 _ rfl).1
              have cX2_7 := (X_7.out.2 2 _ rfl).1
              have cX3_7 := (X_7.out.2 3 _ rfl).1
              go_wp2_with fail
              refine (HE.out _ (KB.out _ K7.out)).mono ?_
              rintro e w8 ⟨rfl, b8⟩
              clear cX0_7 cX1_7 cX2_7 cX3_7
              have K8 := hide (K7.out.trans (Turn.of_below b8))
              have y8 := b8.size
              have X_8 := hide (X_7.out.next b8)
              have A_8 := hide (A_7.out.next b8)
              have OP_8 := hide (OP_7.out.next b8)
              clear X_7 A_7 OP_7
              have V_8 := hide (V_7.out.atI b8)
              clear V_7
              clear b8
              go_wp2_with fail
              refine (HS.out _ lv V_8.out).mono ?_
              rintro e w9 ⟨⟨tv, rfl, ho⟩, b9⟩
              have K9 := hide (K8.out.trans (Turn.of_below b9))
              have y9 := b9.size
              have X_9 := hide (X_8.out.next b9)
              have A_9 := hide (A_8.out.next b9)
              have OP_9 := hide (OP_8.out.next b9)
              clear X_8 A_8 OP_8
              obtain ⟨a4, q4, rfl, _⟩ := ho.rows 1 (fun _ => rfl)
              have OT_9 := hide ho
              clear ho
              clear b9
              obtain ⟨cA4_9, fA4_9⟩ := A_9.out.2 4 _ rfl
              obtain ⟨w10, hw10⟩ : ∃ w', (w9.setCell ⟨N, 4, none⟩ (.slice a4 tk.length q4)) = w' := ⟨_, rfl⟩
              have y10 : w10.heap.size = w9.heap.size := by rw [← hw10]; simp
              have K10 := hide (show Turn (fun y => y = N) W w10 by rw [← hw10]; exact (K9.out).trans (Turn.set _ ⟨N, 4, none⟩ _ rfl))
              have X_10 := hide (show BoxV w10 (W.heap.size) _ by rw [← hw10]; exact (X_9.out).other ⟨N, 4, none⟩ (.slice a4 tk.length q4) (by dsimp only; omega))
              have A_10 := hide (show BoxV w10 (N) [.slice a0 pl.length q0, e1, .bool de, .bool ov, .slice a4 tk.length q4, .int .i64 co] by rw [← hw10]; exact (A_9.out).set 4 (by simp) (.slice a4 tk.length q4))
              have OP_10 := hide (show Own w10 _ _ _ by rw [← hw10]; exact (OP_9.out).setCell ⟨N, 4, none⟩ (.slice a4 tk.length q4) (fun hh => by have h1 := hh.1; have h2 := hh.2; simp only at h1 h2; omega))
              have OT_10 := hide (show Own w10 _ _ _ by rw [← hw10]; exact (OT_9.out).setCell ⟨N, 4, none⟩ (.slice a4 tk.length q4) (fun hh => by have h1 := hh.1; have h2 := hh.2; simp only at h1 h2; omega))
              clear X_9 A_9 OP_9 OT_9
              go_wp2
              go_ret
              exact ⟨⟨rfl, _, _, _, g0, g0 + 1, m1, (m1 + 1), w8.heap.size, w9.heap.size, A_10.out, OP_10.out, (HV1.out _ (by omega)), OT_10.out, by omega, by omega, by omega, by omega⟩, K10.out⟩
    · cases b0
      rotate_left
      · cases qb
        · obtain rfl : 400 = fo := (HFO.out.trans (by first | rfl | (simp [firstI, cwI]; done))).symm
          obtain rfl : ql = tlv := (HTL.out.trans (by first | rfl | (simp; done) | (have hb : (b0 || b1) = false := by {cases hh : (b0 || b1) with | false => rfl | true => exact absurd (hfk hh) (by decide)}; simp [hb]))).symm
          obtain rfl : [] = tkv := (HTV.out.trans (by first | rfl | (simp; done))).symm
          clear HFO HTV HTL
          have cX1_0 := (X_0.out.2 1 _ rfl).1
          go_enter Tryz.func23, Tryz.ntmps23
          go_wp2_with fail
          refine (HP.out _).mono ?_
          rintro e w1 ⟨⟨p, rfl, ho⟩, b1⟩
          clear cX1_0 hw0
          have K1 := hide (K0.out.trans (Turn.of_below b1))
          have y1 := b1.size
          have X_1 := hide (X_0.out.next b1)
          have A_1 := hide (A_0.out.next b1)
          clear X_0 A_0
          obtain ⟨g0, hg1, hg2, hO⟩ := own_of_ownS ho
          obtain ⟨a0, q0, rfl, _⟩ := hO.rows 1 (fun _ => rfl)
          have OP_1 := hide hO
          clear ho hO
          clear b1
          obtain ⟨cA0_1, fA0_1⟩ := A_1.out.2 0 _ rfl
          obtain ⟨w2, hw2⟩ : ∃ w', (w1.setCell ⟨N, 0, none⟩ (.slice a0 pl.length q0)) = w' := ⟨_, rfl⟩
          have y2 : w2.heap.size = w1.heap.size := by rw [← hw2]; simp
          have K2 := hide (show Turn (fun y => y = N) W w2 by rw [← hw2]; exact (K1.out).trans (Turn.set _ ⟨N, 0, none⟩ _ rfl))
          have X_2 := hide (show BoxV w2 (W.heap.size) _ by rw [← hw2]; exact (X_1.out).other ⟨N, 0, none⟩ (.slice a0 pl.length q0) (by dsimp only; omega))
          have A_2 := hide (show BoxV w2 (N) [.slice a0 pl.length q0, e1, .bool de, .bool ov, e4, .int .i64 co] by rw [← hw2]; exact (A_1.out).set 0 (by simp) (.slice a0 pl.length q0))
          have OP_2 := hide (show Own w2 _ _ _ by rw [← hw2]; exact (OP_1.out).setCell ⟨N, 0, none⟩ (.slice a0 pl.length q0) (fun hh => by have h1 := hh.1; have h2 := hh.2; simp only at h1 h2; omega))
          clear X_1 A_1 OP_1
          have cX0_2 := (X_2.out.2 0 _ rfl).1
          go_wp2_with fail
          refine (HC.out _).mono ?_
          rintro e w3 ⟨rfl, b3⟩
          clear cA0_1 fA0_1 hw2 cX0_2
          have K3 := hide (K2.out.trans (Turn.of_below b3))
          have y3 := b3.size
          have X_3 := hide (X_2.out.next b3)
          have A_3 := hide (A_2.out.next b3)
          have OP_3 := hide (OP_2.out.next b3)
          clear X_2 A_2 OP_2
          clear b3
          have cX0_3 := (X_3.out.2 0 _ rfl).1
          have cX2_3 := (X_3.out.2 2 _ rfl).1
          go_wp2_with fail
          refine (HD.out _ (KB.out _ K3.out)).mono ?_
          rintro e w4 ⟨rfl, b4⟩
          clear cX0_3 cX2_3
          have K4 := hide (K3.out.trans (Turn.of_below b4))
          have y4 := b4.size
          have X_4 := hide (X_3.out.next b4)
          have A_4 := hide (A_3.out.next b4)
          have OP_4 := hide (OP_3.out.next b4)
          clear X_3 A_3 OP_3
          clear b4
          go_wp2_with fail
          refine (HQ.out _).mono ?_
          rintro e w5 ⟨⟨p, rfl, ho⟩, b5⟩
          have K5 := hide (K4.out.trans (Turn.of_below b5))
          have y5 := b5.size
          have X_5 := hide (X_4.out.next b5)
          have A_5 := hide (A_4.out.next b5)
          have OP_5 := hide (OP_4.out.next b5)
          clear X_4 A_4 OP_4
          obtain ⟨g1, hg3, hg4, hO⟩ := own_of_ownS ho
          obtain ⟨a1, q1, rfl, _⟩ := hO.rows 1 (fun _ => rfl)
          have OQ_5 := hide hO
          clear ho hO
          clear b5
          obtain ⟨cA1_5, fA1_5⟩ := A_5.out.2 1 _ rfl
          obtain ⟨w6, hw6⟩ : ∃ w', (w5.setCell ⟨N, 1, none⟩ (.slice a1 ql.length q1)) = w' := ⟨_, rfl⟩
          have y6 : w6.heap.size = w5.heap.size := by rw [← hw6]; simp
          have K6 := hide (show Turn (fun y => y = N) W w6 by rw [← hw6]; exact (K5.out).trans (Turn.set _ ⟨N, 1, none⟩ _ rfl))
          have X_6 := hide (show BoxV w6 (W.heap.size) _ by rw [← hw6]; exact (X_5.out).other ⟨N, 1, none⟩ (.slice a1 ql.length q1) (by dsimp only; omega))
          have A_6 := hide (show BoxV w6 (N) [.slice a0 pl.length q0, .slice a1 ql.length q1, .bool de, .bool ov, e4, .int .i64 co] by rw [← hw6]; exact (A_5.out).set 1 (by simp) (.slice a1 ql.length q1))
          have OP_6 := hide (show Own w6 _ _ _ by rw [← hw6]; exact (OP_5.out).setCell ⟨N, 1, none⟩ (.slice a1 ql.length q1) (fun hh => by have h1 := hh.1; have h2 := hh.2; simp only at h1 h2; omega))
          have OQ_6 := hide (show Own w6 _ _ _ by rw [← hw6]; exact (OQ_5.out).setCell ⟨N, 1, none⟩ (.slice a1 ql.length q1) (fun hh => by have h1 := hh.1; have h2 := hh.2; simp only at h1 h2; omega))
          clear X_5 A_5 OP_5 OQ_5
          go_wp2
          go_ret
          exact ⟨⟨rfl, _, _, _, g0, g0 + 1, g1, (g1 + 1), m4, (m4 + 1), A_6.out, OP_6.out, OQ_6.out, (HV4.out _ (by omega)), by omega, by omega, by omega, by omega⟩, K6.out⟩
        · cases dz
          · obtain rfl : 400 = fo := (HFO.out.trans (by first | rfl | (simp [firstI, cwI]; done))).symm
            obtain rfl : ql = tlv := (HTL.out.trans (by first | rfl | (simp; done) | (have hb : (b0 || b1) = false := by {cases hh : (b0 || b1) with | false => rfl | true => exact absurd (hfk hh) (by decide)}; simp [hb]))).symm
            obtain rfl : [] = tkv := (HTV.out.trans (by first | rfl | (simp; done))).symm
            clear HFO HTV HTL
            have cX1_0 := (X_0.out.2 1 _ rfl).1
            go_enter Tryz.func23, Tryz.ntmps23
            go_wp2_with fail
            refine (HP.out _).mono ?_
            rintro e w1 ⟨⟨p, rfl, ho⟩, b1⟩
            clear cX1_0 hw0
            have K1 := hide (K0.out.trans (Turn.of_below b1))
            have y1 := b1.size
            have X_1 := hide (X_0.out.next b1)
            have A_1 := hide (A_0.out.next b1)
            clear X_0 A_0
            obtain ⟨g0, hg1, hg2, hO⟩ := own_of_ownS ho
            obtain ⟨a0, q0, rfl, _⟩ := hO.rows 1 (fun _ => rfl)
            have OP_1 := hide hO
            clear ho hO
            clear b1
            obtain ⟨cA0_1, fA0_1⟩ := A_1.out.2 0 _ rfl
            obtain ⟨w2, hw2⟩ : ∃ w', (w1.setCell ⟨N, 0, none⟩ (.slice a0 pl.length q0)) = w' := ⟨_, rfl⟩
            have y2 : w2.heap.size = w1.heap.size := by rw [← hw2]; simp
            have K2 := hide (show Turn (fun y => y = N) W w2 by rw [← hw2]; exact (K1.out).trans (Turn.set _ ⟨N, 0, none⟩ _ rfl))
            have X_2 := hide (show BoxV w2 (W.heap.size) _ by rw [← hw2]; exact (X_1.out).other ⟨N, 0, none⟩ (.slice a0 pl.length q0) (by dsimp only; omega))
            have A_2 := hide (show BoxV w2 (N) [.slice a0 pl.length q0, e1, .bool de, .bool ov, e4, .int .i64 co] by rw [← hw2]; exact (A_1.out).set 0 (by simp) (.slice a0 pl.length q0))
            have OP_2 := hide (show Own w2 _ _ _ by rw [← hw2]; exact (OP_1.out).setCell ⟨N, 0, none⟩ (.slice a0 pl.length q0) (fun hh => by have h1 := hh.1; have h2 := hh.2; simp only at h1 h2; omega))
            clear X_1 A_1 OP_1
            have cX0_2 := (X_2.out.2 0 _ rfl).1
            go_wp2_with fail
            refine (HC.out _).mono ?_
            rintro e w3 ⟨rfl, b3⟩
            clear cA0_1 fA0_1 hw2 cX0_2
            have K3 := hide (K2.out.trans (Turn.of_below b3))
            have y3 := b3.size
            have X_3 := hide (X_2.out.next b3)
            have A_3 := hide (A_2.out.next b3)
            have OP_3 := hide (OP_2.out.next b3)
            clear X_2 A_2 OP_2
            clear b3
            have cX0_3 := (X_3.out.2 0 _ rfl).1
            have cX2_3 := (X_3.out.2 2 _ rfl).1
            go_wp2_with fail
            refine (HD.out _ (KB.out _ K3.out)).mono ?_
            rintro e w4 ⟨rfl, b4⟩
            clear cX0_3 cX2_3
            have K4 := hide (K3.out.trans (Turn.of_below b4))
            have y4 := b4.size
            have X_4 := hide (X_3.out.next b4)
            have A_4 := hide (A_3.out.next b4)
            have OP_4 := hide (OP_3.out.next b4)
            clear X_3 A_3 OP_3
            clear b4
            go_wp2_with fail
            refine (HQ.out _).mono ?_
            rintro e w5 ⟨⟨p, rfl, ho⟩, b5⟩
            have K5 := hide (K4.out.trans (Turn.of_below b5))
            have y5 := b5.size
            have X_5 := hide (X_4.out.next b5)
            have A_5 := hide (A_4.out.next b5)
            have OP_5 := hide (OP_4.out.next b5)
            clear X_4 A_4 OP_4
            obtain ⟨g1, hg3, hg4, hO⟩ := own_of_ownS ho
            obtain ⟨a1, q1, rfl, _⟩ := hO.rows 1 (fun _ => rfl)
            have OQ_5 := hide hO
            clear ho hO
            clear b5
            obtain ⟨cA1_5, fA1_5⟩ := A_5.out.2 1 _ rfl
            obtain ⟨w6, hw6⟩ : ∃ w', (w5.setCell ⟨N, 1, none⟩ (.slice a1 ql.length q1)) = w' := ⟨_, rfl⟩
            have y6 : w6.heap.size = w5.heap.size := by rw [← hw6]; simp
            have K6 := hide (show Turn (fun y => y = N) W w6 by rw [← hw6]; exact (K5.out).trans (Turn.set _ ⟨N, 1, none⟩ _ rfl))
            have X_6 := hide (show BoxV w6 (W.heap.size) _ by rw [← hw6]; exact (X_5.out).other ⟨N, 1, none⟩ (.slice a1 ql.length q1) (by dsimp only; omega))
            have A_6 := hide (show BoxV w6 (N) [.slice a0 pl.length q0, .slice a1 ql.length q1, .bool de, .bool ov, e4, .int .i64 co] by rw [← hw6]; exact (A_5.out).set 1 (by simp) (.slice a1 ql.length q1))
            have OP_6 := hide (show Own w6 _ _ _ by rw [← hw6]; exact (OP_5.out).setCell ⟨N, 1, none⟩ (.slice a1 ql.length q1) (fun hh => by have h1 := hh.1; have h2 := hh.2; simp only at h1 h2; omega))
            have OQ_6 := hide (show Own w6 _ _ _ by rw [← hw6]; exact (OQ_5.out).setCell ⟨N, 1, none⟩ (.slice a1 ql.length q1) (fun hh => by have h1 := hh.1; have h2 := hh.2; simp only at h1 h2; omega))
            clear X_5 A_5 OP_5 OQ_5
            have cX2_6 := (X_6.out.2 2 _ rfl).1
            go_wp2_with fail
            refine (HF.out _ (KB.out _ K6.out)).mono ?_
            rintro e w7 ⟨rfl, b7⟩
            clear cA1_5 fA1_5 hw6 cX2_6
            have K7 := hide (K6.out.trans (Turn.of_below b7))
            have y7 := b7.size
            have X_7 := hide (X_6.out.next b7)
            have A_7 := hide (A_6.out.next b7)
            have OP_7 := hide (OP_6.out.next b7)
            have OQ_7 := hide (OQ_6.out.next b7)
            clear X_6 A_6 OP_6 OQ_6
            clear b7
            go_wp2_with fail
            refine (HI.out _).mono ?_
            rintro e w8 ⟨⟨lv, rfl, hv⟩, b8⟩
            have K8 := hide (K7.out.trans (Turn.of_below b8))
            have y8 := b8.size
            have X_8 := hide (X_7.out.next b8)
            have A_8 := hide (A_7.out.next b8)
            have OP_8 := hide (OP_7.out.next b8)
            have OQ_8 := hide (OQ_7.out.next b8)
            clear X_7 A_7 OP_7 OQ_7
            have V_8 := hide hv
            clear hv
            clear b8
            have cX0_8 := (X_8.out.2 0 _ rfl).1
            have cX1_8 := (X_8.out.2 1 _ rfl).1
            have cX2_8 := (X_8.out.2 2 _ rfl).1
            have cX3_8 := (X_8.out.2 3 _ rfl).1
            go_wp2_with fail
            refine (HE.out _ (KB.out _ K8.out)).mono ?_
            rintro e w9 ⟨rfl, b9⟩
            clear cX0_8 cX1_8 cX2_8 cX3_8
            have K9 := hide (K8.out.trans (Turn.of_below b9))
            have y9 := b9.size
            have X_9 := hide (X_8.out.next b9)
            have A_9 := hide (A_8.out.next b9)
            have OP_9 := hide (OP_8.out.next b9)
            have OQ_9 := hide (OQ_8.out.next b9)
            clear X_8 A_8 OP_8 OQ_8
            have V_9 := hide (V_8.out.atI b9)
            clear V_8
            clear b9
            go_wp2
            go_ret
            exact ⟨⟨rfl, _, _, _, g0, g0 + 1, g1, (g1 + 1), m4, (m4 + 1), A_9.out, OP_9.out, OQ_9.out, (HV4.out _ (by omega)), by omega, by omega, by omega, by omega⟩, K9.out⟩
          · cases it
            · have htk : tk = [] := HTN.out (by trivial)
              subst htk
              obtain rfl : 0 = fo := (HFO.out.trans (by first | rfl | (simp [firstI, cwI]; done))).symm
              obtain rfl : ql = tlv := (HTL.out.trans (by first | rfl | (simp; done) | (have hb : (b0 || b1) = false := by {cases hh : (b0 || b1) with | false => rfl | true => exact absurd (hfk hh) (by decide)}; simp [hb]))).symm
              obtain rfl : [] = tkv := (HTV.out.trans (by first | rfl | (simp; done))).symm
              clear HFO HTV HTL
              have cX1_0 := (X_0.out.2 1 _ rfl).1
              go_enter Tryz.func23, Tryz.ntmps23
              go_wp2_with fail
              refine (HP.out _).mono ?_
              rintro e w1 ⟨⟨p, rfl, ho⟩, b1⟩
              clear cX1_0 hw0
              have K1 := hide (K0.out.trans (Turn.of_below b1))
              have y1 := b1.size
              have X_1 := hide (X_0.out.next b1)
              have A_1 := hide (A_0.out.next b1)
              clear X_0 A_0
              obtain ⟨g0, hg1, hg2, hO⟩ := own_of_ownS ho
              obtain ⟨a0, q0, rfl, _⟩ := hO.rows 1 (fun _ => rfl)
              have OP_1 := hide hO
              clear ho hO
              clear b1
              obtain ⟨cA0_1, fA0_1⟩ := A_1.out.2 0 _ rfl
              obtain ⟨w2, hw2⟩ : ∃ w', (w1.setCell ⟨N, 0, none⟩ (.slice a0 pl.length q0)) = w' := ⟨_, rfl⟩
              have y2 : w2.heap.size = w1.heap.size := by rw [← hw2]; simp
              have K2 := hide (show Turn (fun y => y = N) W w2 by rw [← hw2]; exact (K1.out).trans (Turn.set _ ⟨N, 0, none⟩ _ rfl))
              have X_2 := hide (show BoxV w2 (W.heap.size) _ by rw [← hw2]; exact (X_1.out).other ⟨N, 0, none⟩ (.slice a0 pl.length q0) (by dsimp only; omega))
              have A_2 := hide (show BoxV w2 (N) [.slice a0 pl.length q0, e1, .bool de, .bool ov, e4, .int .i64 co] by rw [← hw2]; exact (A_1.out).set 0 (by simp) (.slice a0 pl.length q0))
              have OP_2 := hide (show Own w2 _ _ _ by rw [← hw2]; exact (OP_1.out).setCell ⟨N, 0, none⟩ (.slice a0 pl.length q0) (fun hh => by have h1 := hh.1; have h2 := hh.2; simp only at h1 h2; omega))
              clear X_1 A_1 OP_1
              have cX0_2 := (X_2.out.2 0 _ rfl).1
              go_wp2_with fail
              refine (HC.out _).mono ?_
              rintro e w3 ⟨rfl, b3⟩
              clear cA0_1 fA0_1 hw2 cX0_2
              have K3 := hide (K2.out.trans (Turn.of_below b3))
              have y3 := b3.size
              have X_3 := hide (X_2.out.next b3)
              have A_3 := hide (A_2.out.next b3)
              have OP_3 := hide (OP_2.out.next b3)
              clear X_2 A_2 OP_2
              clear b3
              have cX0_3 := (X_3.out.2 0 _ rfl).1
              have cX2_3 := (X_3.out.2 2 _ rfl).1
              go_wp2_with fail
              refine (HD.out _ (KB.out _ K3.out)).mono ?_
              rintro e w4 ⟨rfl, b4⟩
              clear cX0_3 cX2_3
              have K4 := hide (K3.out.trans (Turn.of_below b4))
              have y4 := b4.size
              have X_4 := hide (X_3.out.next b4)
              have A_4 := hide (A_3.out.next b4)
              have OP_4 := hide (OP_3.out.next b4)
              clear X_3 A_3 OP_3
              clear b4
              go_wp2_with fail
              refine (HQ.out _).mono ?_
              rintro e w5 ⟨⟨p, rfl, ho⟩, b5⟩
              have K5 := hide (K4.out.trans (Turn.of_below b5))
              have y5 := b5.size
              have X_5 := hide (X_4.out.next b5)
              have A_5 := hide (A_4.out.next b5)
              have OP_5 := hide (OP_4.out.next b5)
              clear X_4 A_4 OP_4
              obtain ⟨g1, hg3, hg4, hO⟩ := own_of_ownS ho
              obtain ⟨a1, q1, rfl, _⟩ := hO.rows 1 (fun _ => rfl)
              have OQ_5 := hide hO
              clear ho hO
              clear b5
              obtain ⟨cA1_5, fA1_5⟩ := A_5.out.2 1 _ rfl
              obtain ⟨w6, hw6⟩ : ∃ w', (w5.setCell ⟨N, 1, none⟩ (.slice a1 ql.length q1)) = w' := ⟨_, rfl⟩
              have y6 : w6.heap.size = w5.heap.size := by rw [← hw6]; simp
              have K6 := hide (show Turn (fun y => y = N) W w6 by rw [← hw6]; exact (K5.out).trans (Turn.set _ ⟨N, 1, none⟩ _ rfl))
              have X_6 := hide (show BoxV w6 (W.heap.size) _ by rw [← hw6]; exact (X_5.out).other ⟨N, 1, none⟩ (.slice a1 ql.length q1) (by dsimp only; omega))
              have A_6 := hide (show BoxV w6 (N) [.slice a0 pl.length q0, .slice a1 ql.length q1, .bool de, .bool ov, e4, .int .i64 co] by rw [← hw6]; exact (A_5.out).set 1 (by simp) (.slice a1 ql.length q1))
              have OP_6 := hide (show Own w6 _ _ _ by rw [← hw6]; exact (OP_5.out).setCell ⟨N, 1, none⟩ (.slice a1 ql.length q1) (fun hh => by have h1 := hh.1; have h2 := hh.2; simp only at h1 h2; omega))
              have OQ_6 := hide (show Own w6 _ _ _ by rw [← hw6]; exact (OQ_5.out).setCell ⟨N, 1, none⟩ (.slice a1 ql.length q1) (fun hh => by have h1 := hh.1; have h2 := hh.2; simp only at h1 h2; omega))
              clear X_5 A_5 OP_5 OQ_5
              have cX2_6 := (X_6.out.2 2 _ rfl).1
              go_wp2_with fail
              refine (HF.out _ (KB.out _ K6.out)).mono ?_
              rintro e w7 ⟨rfl, b7⟩
              clear cA1_5 fA1_5 hw6 cX2_6
              have K7 := hide (K6.out.trans (Turn.of_below b7))
              have y7 := b7.size
              have X_7 := hide (X_6.out.next b7)
              have A_7 := hide (A_6.out.next b7)
              have OP_7 := hide (OP_6.out.next b7)
              have OQ_7 := hide (OQ_6.out.next b7)
              clear X_6 A_6 OP_6 OQ_6
              clear b7
              go_wp2_with fail
              refine (HI.out _).mono ?_
              rintro e w8 ⟨⟨lv, rfl, hv⟩, b8⟩
              have K8 := hide (K7.out.trans (Turn.of_below b8))
              have y8 := b8.size
              have X_8 := hide (X_7.out.next b8)
              have A_8 := hide (A_7.out.next b8)
              have OP_8 := hide (OP_7.out.next b8)
              have OQ_8 := hide (OQ_7.out.next b8)
              clear X_7 A_7 OP_7 OQ_7
              have V_8 := hide hv
              clear hv
              clear b8
              have cX0_8 := (X_8.out.2 0 _ rfl).1
              have cX1_8 := (X_8.out.2 1 _ rfl).1
              have cX2_8 := (X_8.out.2 2 _ rfl).1
              have cX3_8 := (X_8.out.2 3 _ rfl).1
              go_wp2_with fail
              refine (HE.out _ (KB.out _ K8.out)).mono ?_
              rintro e w9 ⟨rfl, b9⟩
              clear cX0_8 cX1_8 cX2_8 cX3_8
              have K9 := hide (K8.out.trans (Turn.of_below b9))
              have y9 := b9.size
              have X_9 := hide (X_8.out.next b9)
              have A_9 := hide (A_8.out.next b9)
              have OP_9 := hide (OP_8.out.next b9)
              have OQ_9 := hide (OQ_8.out.next b9)
              clear X_8 A_8 OP_8 OQ_8
              have V_9 := hide (V_8.out.atI b9)
              clear V_8
              clear b9
              go_wp2
              go_ret
              exact ⟨⟨rfl, _, _, _, g0, g0 + 1, g1, (g1 + 1), m4, (m4 + 1), A_9.out, OP_9.out, OQ_9.out, (HV4.out _ (by omega)), by omega, by omega, by omega, by omega⟩, K9.out⟩
            · cases iq
              · obtain rfl : 400 = fo := (HFO.out.trans (by first | rfl | (simp [firstI, cwI]; done))).symm
                obtain rfl : ql = tlv := (HTL.out.trans (by first | rfl | (simp; done) | (have hb : (b0 || b1) = false := by {cases hh : (b0 || b1) with | false => rfl | true => exact absurd (hfk hh) (by decide)}; simp [hb]))).symm
                obtain rfl : [] = tkv := (HTV.out.trans (by first | rfl | (simp; done))).symm
                clear HFO HTV HTL
                have cX1_0 := (X_0.out.2 1 _ rfl).1
                go_enter Tryz.func23, Tryz.ntmps23
                go_wp2_with fail
                refine (HP.out _).mono ?_
                rintro e w1 ⟨⟨p, rfl, ho⟩, b1⟩
                clear cX1_0 hw0
                have K1 := hide (K0.out.trans (Turn.of_below b1))
                have y1 := b1.size
                have X_1 := hide (X_0.out.next b1)
                have A_1 := hide (A_0.out.next b1)
                clear X_0 A_0
                obtain ⟨g0, hg1, hg2, hO⟩ := own_of_ownS ho
                obtain ⟨a0, q0, rfl, _⟩ := hO.rows 1 (fun _ => rfl)
                have OP_1 := hide hO
                clear ho hO
                clear b1
                obtain ⟨cA0_1, fA0_1⟩ := A_1.out.2 0 _ rfl
                obtain ⟨w2, hw2⟩ : ∃ w', (w1.setCell ⟨N, 0, none⟩ (.slice a0 pl.length q0)) = w' := ⟨_, rfl⟩
                have y2 : w2.heap.size = w1.heap.size := by rw [← hw2]; simp
                have K2 := hide (show Turn (fun y => y = N) W w2 by rw [← hw2]; exact (K1.out).trans (Turn.set _ ⟨N, 0, none⟩ _ rfl))
                have X_2 := hide (show BoxV w2 (W.heap.size) _ by rw [← hw2]; exact (X_1.out).other ⟨N, 0, none⟩ (.slice a0 pl.length q0) (by dsimp only; omega))
                have A_2 := hide (show BoxV w2 (N) [.slice a0 pl.length q0, e1, .bool de, .bool ov, e4, .int .i64 co] by rw [← hw2]; exact (A_1.out).set 0 (by simp) (.slice a0 pl.length q0))
                have OP_2 := hide (show Own w2 _ _ _ by rw [← hw2]; exact (OP_1.out).setCell ⟨N, 0, none⟩ (.slice a0 pl.length q0) (fun hh => by have h1 := hh.1; have h2 := hh.2; simp only at h1 h2; omega))
                clear X_1 A_1 OP_1
                have cX0_2 := (X_2.out.2 0 _ rfl).1
                go_wp2_with fail
                refine (HC.out _).mono ?_
                rintro e w3 ⟨rfl, b3⟩
                clear cA0_1 fA0_1 hw2 cX0_2
                have K3 := hide (K2.out.trans (Turn.of_below b3))
                have y3 := b3.size
                have X_3 := hide (X_2.out.next b3)
                have A_3 := hide (A_2.out.next b3)
                have OP_3 := hide (OP_2.out.next b3)
                clear X_2 A_2 OP_2
                clear b3
                have cX0_3 := (X_3.out.2 0 _ rfl).1
                have cX2_3 := (X_3.out.2 2 _ rfl).1
                go_wp2_with fail
                refine (HD.out _ (KB.out _ K3.out)).mono ?_
                rintro e w4 ⟨rfl, b4⟩
                clear cX0_3 cX2_3
                have K4 := hide (K3.out.trans (Turn.of_below b4))
                have y4 := b4.size
                have X_4 := hide (X_3.out.next b4)
                have A_4 := hide (A_3.out.next b4)
                have OP_4 := hide (OP_3.out.next b4)
                clear X_3 A_3 OP_3
                clear b4
                go_wp2_with fail
                refine (HQ.out _).mono ?_
                rintro e w5 ⟨⟨p, rfl, ho⟩, b5⟩
                have K5 := hide (K4.out.trans (Turn.of_below b5))
                have y5 := b5.size
                have X_5 := hide (X_4.out.next b5)
                have A_5 := hide (A_4.out.next b5)
                have OP_5 := hide (OP_4.out.next b5)
                clear X_4 A_4 OP_4
                obtain ⟨g1, hg3, hg4, hO⟩ := own_of_ownS ho
                obtain ⟨a1, q1, rfl, _⟩ := hO.rows 1 (fun _ => rfl)
                have OQ_5 := hide hO
                clear ho hO
                clear b5
                obtain ⟨cA1_5, fA1_5⟩ := A_5.out.2 1 _ rfl
                obtain ⟨w6, hw6⟩ : ∃ w', (w5.setCell ⟨N, 1, none⟩ (.slice a1 ql.length q1)) = w' := ⟨_, rfl⟩
                have y6 : w6.heap.size = w5.heap.size := by rw [← hw6]; simp
                have K6 := hide (show Turn (fun y => y = N) W w6 by rw [← hw6]; exact (K5.out).trans (Turn.set _ ⟨N, 1, none⟩ _ rfl))
                have X_6 := hide (show BoxV w6 (W.heap.size) _ by rw [← hw6]; exact (X_5.out).other ⟨N, 1, none⟩ (.slice a1 ql.length q1) (by dsimp only; omega))
                have A_6 := hide (show BoxV w6 (N) [.slice a0 pl.length q0, .slice a1 ql.length q1, .bool de, .bool ov, e4, .int .i64 co] by rw [← hw6]; exact (A_5.out).set 1 (by simp) (.slice a1 ql.length q1))
                have OP_6 := hide (show Own w6 _ _ _ by rw [← hw6]; exact (OP_5.out).setCell ⟨N, 1, none⟩ (.slice a1 ql.length q1) (fun hh => by have h1 := hh.1; have h2 := hh.2; simp only at h1 h2; omega))
                have OQ_6 := hide (show Own w6 _ _ _ by rw [← hw6]; exact (OQ_5.out).setCell ⟨N, 1, none⟩ (.slice a1 ql.length q1) (fun hh => by have h1 := hh.1; have h2 := hh.2; simp only at h1 h2; omega))
                clear X_5 A_5 OP_5 OQ_5
                have cX2_6 := (X_6.out.2 2 _ rfl).1
                go_wp2_with fail
                refine (HF.out _ (KB.out _ K6.out)).mono ?_
                rintro e w7 ⟨rfl, b7⟩
                clear cA1_5 fA1_5 hw6 cX2_6
                have K7 := hide (K6.out.trans (Turn.of_below b7))
                have y7 := b7.size
                have X_7 := hide (X_6.out.next b7)
                have A_7 := hide (A_6.out.next b7)
                have OP_7 := hide (OP_6.out.next b7)
                have OQ_7 := hide (OQ_6.out.next b7)
                clear X_6 A_6 OP_6 OQ_6
                clear b7
                go_wp2_with fail
                refine (HI.out _).mono ?_
                rintro e w8 ⟨⟨lv, rfl, hv⟩, b8⟩
                have K8 := hide (K7.out.trans (Turn.of_below b8))
                have y8 := b8.size
                have X_8 := hide (X_7.out.next b8)
                have A_8 := hide (A_7.out.next b8)
                have OP_8 := hide (OP_7.out.next b8)
                have OQ_8 := hide (OQ_7.out.next b8)
                clear X_7 A_7 OP_7 OQ_7
                have V_8 := hide hv
                clear hv
                clear b8
                have cX0_8 := (X_8.out.2 0 _ rfl).1
                have cX1_8 := (X_8.out.2 1 _ rfl).1
                have cX2_8 := (X_8.out.2 2 _ rfl).1
                have cX3_8 := (X_8.out.2 3 _ rfl).1
                go_wp2_with fail
                refine (HE.out _ (KB.out _ K8.out)).mono ?_
                rintro e w9 ⟨rfl, b9⟩
                clear cX0_8 cX1_8 cX2_8 cX3_8
                have K9 := hide (K8.out.trans (Turn.of_below b9))
                have y9 := b9.size
                have X_9 := hide (X_8.out.next b9)
                have A_9 := hide (A_8.out.next b9)
                have OP_9 := hide (OP_8.out.next b9)
                have OQ_9 := hide (OQ_8.out.next b9)
                clear X_8 A_8 OP_8 OQ_8
                have V_9 := hide (V_8.out.atI b9)
                clear V_8
                clear b9
                go_wp2
                go_ret
                exact ⟨⟨rfl, _, _, _, g0, g0 + 1, g1, (g1 + 1), m4, (m4 + 1), A_9.out, OP_9.out, OQ_9.out, (HV4.out _ (by omega)), by omega, by omega, by omega, by omega⟩, K9.out⟩
              · obtain rfl : 0 = fo := (HFO.out.trans (by first | rfl | (simp [firstI, cwI]; done))).symm
                obtain rfl : ql = tlv := (HTL.out.trans (by first | rfl | (simp; done) | (have hb : (b0 || b1) = false := by {cases hh : (b0 || b1) with | false => rfl | true => exact absurd (hfk hh) (by decide)}; simp [hb]))).symm
                obtain rfl : tk = tkv := (HTV.out.trans (by first | rfl | (simp; done))).symm
                clear HFO HTV HTL
                have cX1_0 := (X_0.out.2 1 _ rfl).1
                go_enter Tryz.func23, Tryz.ntmps23
                go_wp2_with fail
                refine (HP.out _).mono ?_
                rintro e w1 ⟨⟨p, rfl, ho⟩, b1⟩
                clear cX1_0 hw0
                have K1 := hide (K0.out.trans (Turn.of_below b1))
                have y1 := b1.size
                have X_1 := hide (X_0.out.next b1)
                have A_1 := hide (A_0.out.next b1)
                clear X_0 A_0
                obtain ⟨g0, hg1, hg2, hO⟩ := own_of_ownS ho
                obtain ⟨a0, q0, rfl, _⟩ := hO.rows 1 (fun _ => rfl)
                have OP_1 := hide hO
                clear ho hO
                clear b1
                obtain ⟨cA0_1, fA0_1⟩ := A_1.out.2 0 _ rfl
                obtain ⟨w2, hw2⟩ : ∃ w', (w1.setCell ⟨N, 0, none⟩ (.slice a0 pl.length q0)) = w' := ⟨_, rfl⟩
                have y2 : w2.heap.size = w1.heap.size := by rw [← hw2]; simp
                have K2 := hide (show Turn (fun y => y = N) W w2 by rw [← hw2]; exact (K1.out).trans (Turn.set _ ⟨N, 0, none⟩ _ rfl))
                have X_2 := hide (show BoxV w2 (W.heap.size) _ by rw [← hw2]; exact (X_1.out).other ⟨N, 0, none⟩ (.slice a0 pl.length q0) (by dsimp only; omega))
                have A_2 := hide (show BoxV w2 (N) [.slice a0 pl.length q0, e1, .bool de, .bool ov, e4, .int .i64 co] by rw [← hw2]; exact (A_1.out).set 0 (by simp) (.slice a0 pl.length q0))
                have OP_2 := hide (show Own w2 _ _ _ by rw [← hw2]; exact (OP_1.out).setCell ⟨N, 0, none⟩ (.slice a0 pl.length q0) (fun hh => by have h1 := hh.1; have h2 := hh.2; simp only at h1 h2; omega))
                clear X_1 A_1 OP_1
                have cX0_2 := (X_2.out.2 0 _ rfl).1
                go_wp2_with fail
                refine (HC.out _).mono ?_
                rintro e w3 ⟨rfl, b3⟩
                clear cA0_1 fA0_1 hw2 cX0_2
                have K3 := hide (K2.out.trans (Turn.of_below b3))
                have y3 := b3.size
                have X_3 := hide (X_2.out.next b3)
                have A_3 := hide (A_2.out.next b3)
                have OP_3 := hide (OP_2.out.next b3)
                clear X_2 A_2 OP_2
                clear b3
                have cX0_3 := (X_3.out.2 0 _ rfl).1
                have cX2_3 := (X_3.out.2 2 _ rfl).1
                go_wp2_with fail
                refine (HD.out _ (KB.out _ K3.out)).mono ?_
                rintro e w4 ⟨rfl, b4⟩
                clear cX0_3 cX2_3
                have K4 := hide (K3.out.trans (Turn.of_below b4))
                have y4 := b4.size
                have X_4 := hide (X_3.out.next b4)
                have A_4 := hide (A_3.out.next b4)
                have OP_4 := hide (OP_3.out.next b4)
                clear X_3 A_3 OP_3
                clear b4
                go_wp2_with fail
                refine (HQ.out _).mono ?_
                rintro e w5 ⟨⟨p, rfl, ho⟩, b5⟩
                have K5 := hide (K4.out.trans (Turn.of_below b5))
                have y5 := b5.size
                have X_5 := hide (X_4.out.next b5)
                have A_5 := hide (A_4.out.next b5)
                have OP_5 := hide (OP_4.out.next b5)
                clear X_4 A_4 OP_4
                obtain ⟨g1, hg3, hg4, hO⟩ := own_of_ownS ho
                obtain ⟨a1, q1, rfl, _⟩ := hO.rows 1 (fun _ => rfl)
                have OQ_5 := hide hO
                clear ho hO
                clear b5
                obtain ⟨cA1_5, fA1_5⟩ := A_5.out.2 1 _ rfl
                obtain ⟨w6, hw6⟩ : ∃ w', (w5.setCell ⟨N, 1, none⟩ (.slice a1 ql.length q1)) = w' := ⟨_, rfl⟩
                have y6 : w6.heap.size = w5.heap.size := by rw [← hw6]; simp
                have K6 := hide (show Turn (fun y => y = N) W w6 by rw [← hw6]; exact (K5.out).trans (Turn.set _ ⟨N, 1, none⟩ _ rfl))
                have X_6 := hide (show BoxV w6 (W.heap.size) _ by rw [← hw6]; exact (X_5.out).other ⟨N, 1, none⟩ (.slice a1 ql.length q1) (by dsimp only; omega))
                have A_6 := hide (show BoxV w6 (N) [.slice a0 pl.length q0, .slice a1 ql.length q1, .bool de, .bool ov, e4, .int .i64 co] by rw [← hw6]; exact (A_5.out).set 1 (by simp) (.slice a1 ql.length q1))
                have OP_6 := hide (show Own w6 _ _ _ by rw [← hw6]; exact (OP_5.out).setCell ⟨N, 1, none⟩ (.slice a1 ql.length q1) (fun hh => by have h1 := hh.1; have h2 := hh.2; simp only at h1 h2; omega))
                have OQ_6 := hide (show Own w6 _ _ _ by rw [← hw6]; exact (OQ_5.out).setCell ⟨N, 1, none⟩ (.slice a1 ql.length q1) (fun hh => by have h1 := hh.1; have h2 := hh.2; simp only at h1 h2; omega))
                clear X_5 A_5 OP_5 OQ_5
                have cX2_6 := (X_6.out.2 2 _ rfl).1
                go_wp2_with fail
                refine (HF.out _ (KB.out _ K6.out)).mono ?_
                rintro e w7 ⟨rfl, b7⟩
                clear cA1_5 fA1_5 hw6 cX2_6
                have K7 := hide (K6.out.trans (Turn.of_below b7))
                have y7 := b7.size
                have X_7 := hide (X_6.out.next b7)
                have A_7 := hide (A_6.out.next b7)
                have OP_7 := hide (OP_6.out.next b7)
                have OQ_7 := hide (OQ_6.out.next b7)
                clear X_6 A_6 OP_6 OQ_6
                clear b7
                go_wp2_with fail
                refine (HI.out _).mono ?_
                rintro e w8 ⟨⟨lv, rfl, hv⟩, b8⟩
                have K8 := hide (K7.out.trans (Turn.of_below b8))
                have y8 := b8.size
                have X_8 := hide (X_7.out.next b8)
                have A_8 := hide (A_7.out.next b8)
                have OP_8 := hide (OP_7.out.next b8)
                have OQ_8 := hide (OQ_7.out.next b8)
                clear X_7 A_7 OP_7 OQ_7
                have V_8 := hide hv
                clear hv
                clear b8
                have cX0_8 := (X_8.out.2 0 _ rfl).1
                have cX1_8 := (X_8.out.2 1 _ rfl).1
                have cX2_8 := (X_8.out.2 2 _ rfl).1
                have cX3_8 := (X_8.out.2 3 _ rfl).1
                go_wp2_with fail
                refine (HE.out _ (KB.out _ K8.out)).mono ?_
                rintro e w9 ⟨rfl, b9⟩
                clear cX0_8 cX1_8 cX2_8 cX3_8
                have K9 := hide (K8.out.trans (Turn.of_below b9))
                have y9 := b9.size
                have X_9 := hide (X_8.out.next b9)
                have A_9 := hide (A_8.out.next b9)
                have OP_9 := hide (OP_8.out.next b9)
                have OQ_9 := hide (OQ_8.out.next b9)
                clear X_8 A_8 OP_8 OQ_8
                have V_9 := hide (V_8.out.atI b9)
                clear V_8
                clear b9
                go_wp2_with fail
                refine (HS.out _ lv V_9.out).mono ?_
                rintro e w10 ⟨⟨tv, rfl, ho⟩, b10⟩
                have K10 := hide (K9.out.trans (Turn.of_below b10))
                have y10 := b10.size
                have X_10 := hide (X_9.out.next b10)
                have A_10 := hide (A_9.out.next b10)
                have OP_10 := hide (OP_9.out.next b10)
                have OQ_10 := hide (OQ_9.out.next b10)
                clear X_9 A_9 OP_9 OQ_9
                obtain ⟨a4, q4, rfl, _⟩ := ho.rows 1 (fun _ => rfl)
                have OT_10 := hide ho
                clear ho
                clear b10
                obtain ⟨cA4_10, fA4_10⟩ := A_10.out.2 4 _ rfl
                obtain ⟨w11, hw11⟩ : ∃ w', (w10.setCell ⟨N, 4, none⟩ (.slice a4 tk.length q4)) = w' := ⟨_, rfl⟩
                have y11 : w11.heap.size = w10.heap.size := by rw [← hw11]; simp
                have K11 := hide (show Turn (fun y => y = N) W w11 by rw [← hw11]; exact (K10.out).trans (Turn.set _ ⟨N, 4, none⟩ _ rfl))
                have X_11 := hide (show BoxV w11 (W.heap.size) _ by rw [← hw11]; exact (X_10.out).other ⟨N, 4, none⟩ (.slice a4 tk.length q4) (by dsimp only; omega))
                have A_11 := hide (show BoxV w11 (N) [.slice a0 pl.length q0, .slice a1 ql.length q1, .bool de, .bool ov, .slice a4 tk.length q4, .int .i64 co] by rw [← hw11]; exact (A_10.out).set 4 (by simp) (.slice a4 tk.length q4))
                have OP_11 := hide (show Own w11 _ _ _ by rw [← hw11]; exact (OP_10.out).setCell ⟨N, 4, none⟩ (.slice a4 tk.length q4) (fun hh => by have h1 := hh.1; have h2 := hh.2; simp only at h1 h2; omega))
                have OQ_11 := hide (show Own w11 _ _ _ by rw [← hw11]; exact (OQ_10.out).setCell ⟨N, 4, none⟩ (.slice a4 tk.length q4) (fun hh => by have h1 := hh.1; have h2 := hh.2; simp only at h1 h2; omega))
                have OT_11 := hide (show Own w11 _ _ _ by rw [← hw11]; exact (OT_10.out).setCell ⟨N, 4, none⟩ (.slice a4 tk.length q4) (fun hh => by have h1 := hh.1; have h2 := hh.2; simp only at h1 h2; omega))
                clear X_10 A_10 OP_10 OQ_10 OT_10
                go_wp2
                go_ret
                exact ⟨⟨rfl, _, _, _, g0, g0 + 1, g1, (g1 + 1), w9.heap.size, w10.heap.size, A_11.out, OP_11.out, OQ_11.out, OT_11.out, by omega, by omega, by omega, by omega⟩, K11.out⟩
      cases b1
      rotate_left
      · cases qb
        · obtain rfl : 400 = fo := (HFO.out.trans (by first | rfl | (simp [firstI, cwI]; done))).symm
          obtain rfl : ql = tlv := (HTL.out.trans (by first | rfl | (simp; done) | (have hb : (b0 || b1) = false := by {cases hh : (b0 || b1) with | false => rfl | true => exact absurd (hfk hh) (by decide)}; simp [hb]))).symm
          obtain rfl : [] = tkv := (HTV.out.trans (by first | rfl | (simp; done))).symm
          clear HFO HTV HTL
          have cX1_0 := (X_0.out.2 1 _ rfl).1
          go_enter Tryz.func23, Tryz.ntmps23
          go_wp2_with fail
          refine (HP.out _).mono ?_
          rintro e w1 ⟨⟨p, rfl, ho⟩, b1⟩
          clear cX1_0 hw0
          have K1 := hide (K0.out.trans (Turn.of_below b1))
          have y1 := b1.size
          have X_1 := hide (X_0.out.next b1)
          have A_1 := hide (A_0.out.next b1)
          clear X_0 A_0
          obtain ⟨g0, hg1, hg2, hO⟩ := own_of_ownS ho
          obtain ⟨a0, q0, rfl, _⟩ := hO.rows 1 (fun _ => rfl)
          have OP_1 := hide hO
          clear ho hO
          clear b1
          obtain ⟨cA0_1, fA0_1⟩ := A_1.out.2 0 _ rfl
          obtain ⟨w2, hw2⟩ : ∃ w', (w1.setCell ⟨N, 0, none⟩ (.slice a0 pl.length q0)) = w' := ⟨_, rfl⟩
          have y2 : w2.heap.size = w1.heap.size := by rw [← hw2]; simp
          have K2 := hide (show Turn (fun y => y = N) W w2 by rw [← hw2]; exact (K1.out).trans (Turn.set _ ⟨N, 0, none⟩ _ rfl))
          have X_2 := hide (show BoxV w2 (W.heap.size) _ by rw [← hw2]; exact (X_1.out).other ⟨N, 0, none⟩ (.slice a0 pl.length q0) (by dsimp only; omega))
          have A_2 := hide (show BoxV w2 (N) [.slice a0 pl.length q0, e1, .bool de, .bool ov, e4, .int .i64 co] by rw [← hw2]; exact (A_1.out).set 0 (by simp) (.slice a0 pl.length q0))
          have OP_2 := hide (show Own w2 _ _ _ by rw [← hw2]; exact (OP_1.out).setCell ⟨N, 0, none⟩ (.slice a0 pl.length q0) (fun hh => by have h1 := hh.1; have h2 := hh.2; simp only at h1 h2; omega))
          clear X_1 A_1 OP_1
          have cX0_2 := (X_2.out.2 0 _ rfl).1
          go_wp2_with fail
          refine (HC.out _).mono ?_
          rintro e w3 ⟨rfl, b3⟩
          clear cA0_1 fA0_1 hw2 cX0_2
          have K3 := hide (K2.out.trans (Turn.of_below b3))
          have y3 := b3.size
          have X_3 := hide (X_2.out.next b3)
          have A_3 := hide (A_2.out.next b3)
          have OP_3 := hide (OP_2.out.next b3)
          clear X_2 A_2 OP_2
          clear b3
          have cX0_3 := (X_3.out.2 0 _ rfl).1
          have cX2_3 := (X_3.out.2 2 _ rfl).1
          go_wp2_with fail
          refine (HD.out _ (KB.out _ K3.out)).mono ?_
          rintro e w4 ⟨rfl, b4⟩
          clear cX0_3 cX2_3
          have K4 := hide (K3.out.trans (Turn.of_below b4))
          have y4 := b4.size
          have X_4 := hide (X_3.out.next b4)
          have A_4 := hide (A_3.out.next b4)
          have OP_4 := hide (OP_3.out.next b4)
          clear X_3 A_3 OP_3
          clear b4
          go_wp2_with fail
          refine (HQ.out _).mono ?_
          rintro e w5 ⟨⟨p, rfl, ho⟩, b5⟩
          have K5 := hide (K4.out.trans (Turn.of_below b5))
          have y5 := b5.size
          have X_5 := hide (X_4.out.next b5)
          have A_5 := hide (A_4.out.next b5)
          have OP_5 := hide (OP_4.out.next b5)
          clear X_4 A_4 OP_4
          obtain ⟨g1, hg3, hg4, hO⟩ := own_of_ownS ho
          obtain ⟨a1, q1, rfl, _⟩ := hO.rows 1 (fun _ => rfl)
          have OQ_5 := hide hO
          clear ho hO
          clear b5
          obtain ⟨cA1_5, fA1_5⟩ := A_5.out.2 1 _ rfl
          obtain ⟨w6, hw6⟩ : ∃ w', (w5.setCell ⟨N, 1, none⟩ (.slice a1 ql.length q1)) = w' := ⟨_, rfl⟩
          have y6 : w6.heap.size = w5.heap.size := by rw [← hw6]; simp
          have K6 := hide (show Turn (fun y => y = N) W w6 by rw [← hw6]; exact (K5.out).trans (Turn.set _ ⟨N, 1, none⟩ _ rfl))
          have X_6 := hide (show BoxV w6 (W.heap.size) _ by rw [← hw6]; exact (X_5.out).other ⟨N, 1, none⟩ (.slice a1 ql.length q1) (by dsimp only; omega))
          have A_6 := hide (show BoxV w6 (N) [.slice a0 pl.length q0, .slice a1 ql.length q1, .bool de, .bool ov, e4, .int .i64 co] by rw [← hw6]; exact (A_5.out).set 1 (by simp) (.slice a1 ql.length q1))
          have OP_6 := hide (show Own w6 _ _ _ by rw [← hw6]; exact (OP_5.out).setCell ⟨N, 1, none⟩ (.slice a1 ql.length q1) (fun hh => by have h1 := hh.1; have h2 := hh.2; simp only at h1 h2; omega))
          have OQ_6 := hide (show Own w6 _ _ _ by rw [← hw6]; exact (OQ_5.out).setCell ⟨N, 1, none⟩ (.slice a1 ql.length q1) (fun hh => by have h1 := hh.1; have h2 := hh.2; simp only at h1 h2; omega))
          clear X_5 A_5 OP_5 OQ_5
          go_wp2
          go_ret
          exact ⟨⟨rfl, _, _, _, g0, g0 + 1, g1, (g1 + 1), m4, (m4 + 1), A_6.out, OP_6.out, OQ_6.out, (HV4.out _ (by omega)), by omega, by omega, by omega, by omega⟩, K6.out⟩
        · cases dz
          · obtain rfl : 400 = fo := (HFO.out.trans (by first | rfl | (simp [firstI, cwI]; done))).symm
            obtain rfl : ql = tlv := (HTL.out.trans (by first | rfl | (simp; done) | (have hb : (b0 || b1) = false := by {cases hh : (b0 || b1) with | false => rfl | true => exact absurd (hfk hh) (by decide)}; simp [hb]))).symm
            obtain rfl : [] = tkv := (HTV.out.trans (by first | rfl | (simp; done))).symm
            clear HFO HTV HTL
            have cX1_0 := (X_0.out.2 1 _ rfl).1
            go_enter Tryz.func23, Tryz.ntmps23
            go_wp2_with fail
            refine (HP.out _).mono ?_
            rintro e w1 ⟨⟨p, rfl, ho⟩, b1⟩
            clear cX1_0 hw0
            have K1 := hide (K0.out.trans (Turn.of_below b1))
            have y1 := b1.size
            have X_1 := hide (X_0.out.next b1)
            have A_1 := hide (A_0.out.next b1)
            clear X_0 A_0
            obtain ⟨g0, hg1, hg2, hO⟩ := own_of_ownS ho
            obtain ⟨a0, q0, rfl, _⟩ := hO.rows 1 (fun _ => rfl)
            have OP_1 := hide hO
            clear ho hO
            clear b1
            obtain ⟨cA0_1, fA0_1⟩ := A_1.out.2 0 _ rfl
            obtain ⟨w2, hw2⟩ : ∃ w', (w1.setCell ⟨N, 0, none⟩ (.slice a0 pl.length q0)) = w' := ⟨_, rfl⟩
            have y2 : w2.heap.size = w1.heap.size := by rw [← hw2]; simp
            have K2 := hide (show Turn (fun y => y = N) W w2 by rw [← hw2]; exact (K1.out).trans (Turn.set _ ⟨N, 0, none⟩ _ rfl))
            have X_2 := hide (show BoxV w2 (W.heap.size) _ by rw [← hw2]; exact (X_1.out).other ⟨N, 0, none⟩ (.slice a0 pl.length q0) (by dsimp only; omega))
            have A_2 := hide (show BoxV w2 (N) [.slice a0 pl.length q0, e1, .bool de, .bool ov, e4, .int .i64 co] by rw [← hw2]; exact (A_1.out).set 0 (by simp) (.slice a0 pl.length q0))
            have OP_2 := hide (show Own w2 _ _ _ by rw [← hw2]; exact (OP_1.out).setCell ⟨N, 0, none⟩ (.slice a0 pl.length q0) (fun hh => by have h1 := hh.1; have h2 := hh.2; simp only at h1 h2; omega))
            clear X_1 A_1 OP_1
            have cX0_2 := (X_2.out.2 0 _ rfl).1
            go_wp2_with fail
            refine (HC.out _).mono ?_
            rintro e w3 ⟨rfl, b3⟩
            clear cA0_1 fA0_1 hw2 cX0_2
            have K3 := hide (K2.out.trans (Turn.of_below b3))
            have y3 := b3.size
            have X_3 := hide (X_2.out.next b3)
            have A_3 := hide (A_2.out.next b3)
            have OP_3 := hide (OP_2.out.next b3)
            clear X_2 A_2 OP_2
            clear b3
            have cX0_3 := (X_3.out.2 0 _ rfl).1
            have cX2_3 := (X_3.out.2 2 _ rfl).1
            go_wp2_with fail
            refine (HD.out _ (KB.out _ K3.out)).mono ?_
            rintro e w4 ⟨rfl, b4⟩
            clear cX0_3 cX2_3
            have K4 := hide (K3.out.trans (Turn.of_below b4))
            have y4 := b4.size
            have X_4 := hide (X_3.out.next b4)
            have A_4 := hide (A_3.out.next b4)
            have OP_4 := hide (OP_3.out.next b4)
            clear X_3 A_3 OP_3
            clear b4
            go_wp2_with fail
            refine (HQ.out _).mono ?_
            rintro e w5 ⟨⟨p, rfl, ho⟩, b5⟩
            have K5 := hide (K4.out.trans (Turn.of_below b5))
            have y5 := b5.size
            have X_5 := hide (X_4.out.next b5)
            have A_5 := hide (A_4.out.next b5)
            have OP_5 := hide (OP_4.out.next b5)
            clear X_4 A_4 OP_4
            obtain ⟨g1, hg3, hg4, hO⟩ := own_of_ownS ho
            obtain ⟨a1, q1, rfl, _⟩ := hO.rows 1 (fun _ => rfl)
            have OQ_5 := hide hO
            clear ho hO
            clear b5
            obtain ⟨cA1_5, fA1_5⟩ := A_5.out.2 1 _ rfl
            obtain ⟨w6, hw6⟩ : ∃ w', (w5.setCell ⟨N, 1, none⟩ (.slice a1 ql.length q1)) = w' := ⟨_, rfl⟩
            have y6 : w6.heap.size = w5.heap.size := by rw [← hw6]; simp
            have K6 := hide (show Turn (fun y => y = N) W w6 by rw [← hw6]; exact (K5.out).trans (Turn.set _ ⟨N, 1, none⟩ _ rfl))
            have X_6 := hide (show BoxV w6 (W.heap.size) _ by rw [← hw6]; exact (X_5.out).other ⟨N, 1, none⟩ (.slice a1 ql.length q1) (by dsimp only; omega))
            have A_6 := hide (show BoxV w6 (N) [.slice a0 pl.length q0, .slice a1 ql.length q1, .bool de, .bool ov, e4, .int .i64 co] by rw [← hw6]; exact (A_5.out).set 1 (by simp) (.slice a1 ql.length q1))
            have OP_6 := hide (show Own w6 _ _ _ by rw [← hw6]; exact (OP_5.out).setCell ⟨N, 1, none⟩ (.slice a1 ql.length q1) (fun hh => by have h1 := hh.1; have h2 := hh.2; simp only at h1 h2; omega))
            have OQ_6 := hide (show Own w6 _ _ _ by rw [← hw6]; exact (OQ_5.out).setCell ⟨N, 1, none⟩ (.slice a1 ql.length q1) (fun hh => by have h1 := hh.1; have h2 := hh.2; simp only at h1 h2; omega))
            clear X_5 A_5 OP_5 OQ_5
            have cX2_6 := (X_6.out.2 2 _ rfl).1
            go_wp2_with fail
            refine (HF.out _ (KB.out _ K6.out)).mono ?_
            rintro e w7 ⟨rfl, b7⟩
            clear cA1_5 fA1_5 hw6 cX2_6
            have K7 := hide (K6.out.trans (Turn.of_below b7))
            have y7 := b7.size
            have X_7 := hide (X_6.out.next b7)
            have A_7 := hide (A_6.out.next b7)
            have OP_7 := hide (OP_6.out.next b7)
            have OQ_7 := hide (OQ_6.out.next b7)
            clear X_6 A_6 OP_6 OQ_6
            clear b7
            go_wp2_with fail
            refine (HI.out _).mono ?_
            rintro e w8 ⟨⟨lv, rfl, hv⟩, b8⟩
            have K8 := hide (K7.out.trans (Turn.of_below b8))
            have y8 := b8.size
            have X_8 := hide (X_7.out.next b8)
            have A_8 := hide (A_7.out.next b8)
            have OP_8 := hide (OP_7.out.next b8)
            have OQ_8 := hide (OQ_7.out.next b8)
            clear X_7 A_7 OP_7 OQ_7
            have V_8 := hide hv
            clear hv
            clear b8
            have cX0_8 := (X_8.out.2 0 _ rfl).1
            have cX1_8 := (X_8.out.2 1 _ rfl).1
            have cX2_8 := (X_8.out.2 2 _ rfl).1
            have cX3_8 := (X_8.out.2 3 _ rfl).1
            go_wp2_with fail
            refine (HE.out _ (KB.out _ K8.out)).mono ?_
            rintro e w9 ⟨rfl, b9⟩
            clear cX0_8 cX1_8 cX2_8 cX3_8
            have K9 := hide (K8.out.trans (Turn.of_below b9))
            have y9 := b9.size
            have X_9 := hide (X_8.out.next b9)
            have A_9 := hide (A_8.out.next b9)
            have OP_9 := hide (OP_8.out.next b9)
            have OQ_9 := hide (OQ_8.out.next b9)
            clear X_8 A_8 OP_8 OQ_8
            have V_9 := hide (V_8.out.atI b9)
            clear V_8
            clear b9
            go_wp2
            go_ret
            exact ⟨⟨rfl, _, _, _, g0, g0 + 1, g1, (g1 + 1), m4, (m4 + 1), A_9.out, OP_9.out, OQ_9.out, (HV4.out _ (by omega)), by omega, by omega, by omega, by omega⟩, K9.out⟩
          · cases it
            · have htk : tk = [] := HTN.out (by trivial)
              subst htk
              obtain rfl : 0 = fo := (HFO.out.trans (by first | rfl | (simp [firstI, cwI]; done))).symm
              obtain rfl : ql = tlv := (HTL.out.trans (by first | rfl | (simp; done) | (have hb : (b0 || b1) = false := by {cases hh : (b0 || b1) with | false => rfl | true => exact absurd (hfk hh) (by decide)}; simp [hb]))).symm
              obtain rfl : [] = tkv := (HTV.out.trans (by first | rfl | (simp; done))).symm
              clear HFO HTV HTL
              have cX1_0 := (X_0.out.2 1 _ rfl).1
              go_enter Tryz.func23, Tryz.ntmps23
              go_wp2_with fail
              refine (HP.out _).mono ?_
              rintro e w1 ⟨⟨p, rfl, ho⟩, b1⟩
              clear cX1_0 hw0
              have K1 := hide (K0.out.trans (Turn.of_below b1))
              have y1 := b1.size
              have X_1 := hide (X_0.out.next b1)
              have A_1 := hide (A_0.out.next b1)
              clear X_0 A_0
              obtain ⟨g0, hg1, hg2, hO⟩ := own_of_ownS ho
              obtain ⟨a0, q0, rfl, _⟩ := hO.rows 1 (fun _ => rfl)
              have OP_1 := hide hO
              clear ho hO
              clear b1
              obtain ⟨cA0_1, fA0_1⟩ := A_1.out.2 0 _ rfl
              obtain ⟨w2, hw2⟩ : ∃ w', (w1.setCell ⟨N, 0, none⟩ (.slice a0 pl.length q0)) = w' := ⟨_, rfl⟩
              have y2 : w2.heap.size = w1.heap.size := by rw [← hw2]; simp
              have K2 := hide (show Turn (fun y => y = N) W w2 by rw [← hw2]; exact (K1.out).trans (Turn.set _ ⟨N, 0, none⟩ _ rfl))
              have X_2 := hide (show BoxV w2 (W.heap.size) _ by rw [← hw2]; exact (X_1.out).other ⟨N, 0, none⟩ (.slice a0 pl.length q0) (by dsimp only; omega))
              have A_2 := hide (show BoxV w2 (N) [.slice a0 pl.length q0, e1, .bool de, .bool ov, e4, .int .i64 co] by rw [← hw2]; exact (A_1.out).set 0 (by simp) (.slice a0 pl.length q0))
              have OP_2 := hide (show Own w2 _ _ _ by rw [← hw2]; exact (OP_1.out).setCell ⟨N, 0, none⟩ (.slice a0 pl.length q0) (fun hh => by have h1 := hh.1; have h2 := hh.2; simp only at h1 h2; omega))
              clear X_1 A_1 OP_1
              have cX0_2 := (X_2.out.2 0 _ rfl).1
              go_wp2_with fail
              refine (HC.out _).mono ?_
              rintro e w3 ⟨rfl, b3⟩
              clear cA0_1 fA0_1 hw2 cX0_2
              have K3 := hide (K2.out.trans (Turn.of_below b3))
              have y3 := b3.size
              have X_3 := hide (X_2.out.next b3)
              have A_3 := hide (A_2.out.next b3)
              have OP_3 := hide (OP_2.out.next b3)
              clear X_2 A_2 OP_2
              clear b3
              have cX0_3 := (X_3.out.2 0 _ rfl).1
              have cX2_3 := (X_3.out.2 2 _ rfl).1
              go_wp2_with fail
              refine (HD.out _ (KB.out _ K3.out)).mono ?_
              rintro e w4 ⟨rfl, b4⟩
              clear cX0_3 cX2_3
              have K4 := hide (K3.out.trans (Turn.of_below b4))
              have y4 := b4.size
              have X_4 := hide (X_3.out.next b4)
              have A_4 := hide (A_3.out.next b4)
              have OP_4 := hide (OP_3.out.next b4)
              clear X_3 A_3 OP_3
              clear b4
              go_wp2_with fail
              refine (HQ.out _).mono ?_
              rintro e w5 ⟨⟨p, rfl, ho⟩, b5⟩
              have K5 := hide (K4.out.trans (Turn.of_below b5))
              have y5 := b5.size
              have X_5 := hide (X_4.out.next b5)
              have A_5 := hide (A_4.out.next b5)
              have OP_5 := hide (OP_4.out.next b5)
              clear X_4 A_4 OP_4
              obtain ⟨g1, hg3, hg4, hO⟩ := own_of_ownS ho
              obtain ⟨a1, q1, rfl, _⟩ := hO.rows 1 (fun _ => rfl)
              have OQ_5 := hide hO
              clear ho hO
              clear b5
              obtain ⟨cA1_5, fA1_5⟩ := A_5.out.2 1 _ rfl
              obtain ⟨w6, hw6⟩ : ∃ w', (w5.setCell ⟨N, 1, none⟩ (.slice a1 ql.length q1)) = w' := ⟨_, rfl⟩
              have y6 : w6.heap.size = w5.heap.size := by rw [← hw6]; simp
              have K6 := hide (show Turn (fun y => y = N) W w6 by rw [← hw6]; exact (K5.out).trans (Turn.set _ ⟨N, 1, none⟩ _ rfl))
              have X_6 := hide (show BoxV w6 (W.heap.size) _ by rw [← hw6]; exact (X_5.out).other ⟨N, 1, none⟩ (.slice a1 ql.length q1) (by dsimp only; omega))
              have A_6 := hide (show BoxV w6 (N) [.slice a0 pl.length q0, .slice a1 ql.length q1, .bool de, .bool ov, e4, .int .i64 co] by rw [← hw6]; exact (A_5.out).set 1 (by simp) (.slice a1 ql.length q1))
              have OP_6 := hide (show Own w6 _ _ _ by rw [← hw6]; exact (OP_5.out).setCell ⟨N, 1, none⟩ (.slice a1 ql.length q1) (fun hh => by have h1 := hh.1; have h2 := hh.2; simp only at h1 h2; omega))
              have OQ_6 := hide (show Own w6 _ _ _ by rw [← hw6]; exact (OQ_5.out).setCell ⟨N, 1, none⟩ (.slice a1 ql.length q1) (fun hh => by have h1 := hh.1; have h2 := hh.2; simp only at h1 h2; omega))
              clear X_5 A_5 OP_5 OQ_5
              have cX2_6 := (X_6.out.2 2 _ rfl).1
              go_wp2_with fail
              refine (HF.out _ (KB.out _ K6.out)).mono ?_
              rintro e w7 ⟨rfl, b7⟩
              clear cA1_5 fA1_5 hw6 cX2_6
              have K7 := hide (K6.out.trans (Turn.of_below b7))
              have y7 := b7.size
              have X_7 := hide (X_6.out.next b7)
              have A_7 := hide (A_6.out.next b7)
              have OP_7 := hide (OP_6.out.next b7)
              have OQ_7 := hide (OQ_6.out.next b7)
              clear X_6 A_6 OP_6 OQ_6
              clear b7
              go_wp2_with fail
              refine (HI.out _).mono ?_
              rintro e w8 ⟨⟨lv, rfl, hv⟩, b8⟩
              have K8 := hide (K7.out.trans (Turn.of_below b8))
              have y8 := b8.size
              have X_8 := hide (X_7.out.next b8)
              have A_8 := hide (A_7.out.next b8)
              have OP_8 := hide (OP_7.out.next b8)
              have OQ_8 := hide (OQ_7.out.next b8)
              clear X_7 A_7 OP_7 OQ_7
              have V_8 := hide hv
              clear hv
              clear b8
              have cX0_8 := (X_8.out.2 0 _ rfl).1
              have cX1_8 := (X_8.out.2 1 _ rfl).1
              have cX2_8 := (X_8.out.2 2 _ rfl).1
              have cX3_8 := (X_8.out.2 3 _ rfl).1
              go_wp2_with fail
              refine (HE.out _ (KB.out _ K8.out)).mono ?_
              rintro e w9 ⟨rfl, b9⟩
              clear cX0_8 cX1_8 cX2_8 cX3_8
              have K9 := hide (K8.out.trans (Turn.of_below b9))
              have y9 := b9.size
              have X_9 := hide (X_8.out.next b9)
              have A_9 := hide (A_8.out.next b9)
              have OP_9 := hide (OP_8.out.next b9)
              have OQ_9 := hide (OQ_8.out.next b9)
              clear X_8 A_8 OP_8 OQ_8
              have V_9 := hide (V_8.out.atI b9)
              clear V_8
              clear b9
              go_wp2
              go_ret
              exact ⟨⟨rfl, _, _, _, g0, g0 + 1, g1, (g1 + 1), m4, (m4 + 1), A_9.out, OP_9.out, OQ_9.out, (HV4.out _ (by omega)), by omega, by omega, by omega, by omega⟩, K9.out⟩
            · cases iq
              · obtain rfl : 400 = fo := (HFO.out.trans (by first | rfl | (simp [firstI, cwI]; done))).symm
                obtain rfl : ql = tlv := (HTL.out.trans (by first | rfl | (simp; done) | (have hb : (b0 || b1) = false := by {cases hh : (b0 || b1) with | false => rfl | true => exact absurd (hfk hh) (by decide)}; simp [hb]))).symm
                obtain rfl : [] = tkv := (HTV.out.trans (by first | rfl | (simp; done))).symm
                clear HFO HTV HTL
                have cX1_0 := (X_0.out.2 1 _ rfl).1
                go_enter Tryz.func23, Tryz.ntmps23
                go_wp2_with fail
                refine (HP.out _).mono ?_
                rintro e w1 ⟨⟨p, rfl, ho⟩, b1⟩
                clear cX1_0 hw0
                have K1 := hide (K0.out.trans (Turn.of_below b1))
                have y1 := b1.size
                have X_1 := hide (X_0.out.next b1)
                have A_1 := hide (A_0.out.next b1)
                clear X_0 A_0
                obtain ⟨g0, hg1, hg2, hO⟩ := own_of_ownS ho
                obtain ⟨a0, q0, rfl, _⟩ := hO.rows 1 (fun _ => rfl)
                have OP_1 := hide hO
                clear ho hO
                clear b1
                obtain ⟨cA0_1, fA0_1⟩ := A_1.out.2 0 _ rfl
                obtain ⟨w2, hw2⟩ : ∃ w', (w1.setCell ⟨N, 0, none⟩ (.slice a0 pl.length q0)) = w' := ⟨_, rfl⟩
                have y2 : w2.heap.size = w1.heap.size := by rw [← hw2]; simp
                have K2 := hide (show Turn (fun y => y = N) W w2 by rw [← hw2]; exact (K1.out).trans (Turn.set _ ⟨N, 0, none⟩ _ rfl))
                have X_2 := hide (show BoxV w2 (W.heap.size) _ by rw [← hw2]; exact (X_1.out).other ⟨N, 0, none⟩ (.slice a0 pl.length q0) (by dsimp only; omega))
                have A_2 := hide (show BoxV w2 (N) [.slice a0 pl.length q0, e1, .bool de, .bool ov, e4, .int .i64 co] by rw [← hw2]; exact (A_1.out).set 0 (by simp) (.slice a0 pl.length q0))
                have OP_2 := hide (show Own w2 _ _ _ by rw [← hw2]; exact (OP_1.out).setCell ⟨N, 0, none⟩ (.slice a0 pl.length q0) (fun hh => by have h1 := hh.1; have h2 := hh.2; simp only at h1 h2; omega))
                clear X_1 A_1 OP_1
                have cX0_2 := (X_2.out.2 0 _ rfl).1
                go_wp2_with fail
                refine (HC.out _).mono ?_
                rintro e w3 ⟨rfl, b3⟩
                clear cA0_1 fA0_1 hw2 cX0_2
                have K3 := hide (K2.out.trans (Turn.of_below b3))
                have y3 := b3.size
                have X_3 := hide (X_2.out.next b3)
                have A_3 := hide (A_2.out.next b3)
                have OP_3 := hide (OP_2.out.next b3)
                clear X_2 A_2 OP_2
                clear b3
                have cX0_3 := (X_3.out.2 0 _ rfl).1
                have cX2_3 := (X_3.out.2 2 _ rfl).1
                go_wp2_with fail
                refine (HD.out _ (KB.out _ K3.out)).mono ?_
                rintro e w4 ⟨rfl, b4⟩
                clear cX0_3 cX2_3
                have K4 := hide (K3.out.trans (Turn.of_below b4))
                have y4 := b4.size
                have X_4 := hide (X_3.out.next b4)
                have A_4 := hide (A_3.out.next b4)
                have OP_4 := hide (OP_3.out.next b4)
                clear X_3 A_3 OP_3
                clear b4
                go_wp2_with fail
                refine (HQ.out _).mono ?_
                rintro e w5 ⟨⟨p, rfl, ho⟩, b5⟩
                have K5 := hide (K4.out.trans (Turn.of_below b5))
                have y5 := b5.size
                have X_5 := hide (X_4.out.next b5)
                have A_5 := hide (A_4.out.next b5)
                have OP_5 := hide (OP_4.out.next b5)
                clear X_4 A_4 OP_4
                obtain ⟨g1, hg3, hg4, hO⟩ := own_of_ownS ho
                obtain ⟨a1, q1, rfl, _⟩ := hO.rows 1 (fun _ => rfl)
                have OQ_5 := hide hO
                clear ho hO
                clear b5
                obtain ⟨cA1_5, fA1_5⟩ := A_5.out.2 1 _ rfl
                obtain ⟨w6, hw6⟩ : ∃ w', (w5.setCell ⟨N, 1, none⟩ (.slice a1 ql.length q1)) = w' := ⟨_, rfl⟩
                have y6 : w6.heap.size = w5.heap.size := by rw [← hw6]; simp
                have K6 := hide (show Turn (fun y => y = N) W w6 by rw [← hw6]; exact (K5.out).trans (Turn.set _ ⟨N, 1, none⟩ _ rfl))
                have X_6 := hide (show BoxV w6 (W.heap.size) _ by rw [← hw6]; exact (X_5.out).other ⟨N, 1, none⟩ (.slice a1 ql.length q1) (by dsimp only; omega))
                have A_6 := hide (show BoxV w6 (N) [.slice a0 pl.length q0, .slice a1 ql.length q1, .bool de, .bool ov, e4, .int .i64 co] by rw [← hw6]; exact (A_5.out).set 1 (by simp) (.slice a1 ql.length q1))
                have OP_6 := hide (show Own w6 _ _ _ by rw [← hw6]; exact (OP_5.out).setCell ⟨N, 1, none⟩ (.slice a1 ql.length q1) (fun hh => by have h1 := hh.1; have h2 := hh.2; simp only at h1 h2; omega))
                have OQ_6 := hide (show Own w6 _ _ _ by rw [← hw6]; exact (OQ_5.out).setCell ⟨N, 1, none⟩ (.slice a1 ql.length q1) (fun hh => by have h1 := hh.1; have h2 := hh.2; simp only at h1 h2; omega))
                clear X_5 A_5 OP_5 OQ_5
                have cX2_6 := (X_6.out.2 2 _ rfl).1
                go_wp2_with fail
                refine (HF.out _ (KB.out _ K6.out)).mono ?_
                rintro e w7 ⟨rfl, b7⟩
                clear cA1_5 fA1_5 hw6 cX2_6
                have K7 := hide (K6.out.trans (Turn.of_below b7))
                have y7 := b7.size
                have X_7 := hide (X_6.out.next b7)
                have A_7 := hide (A_6.out.next b7)
                have OP_7 := hide (OP_6.out.next b7)
                have OQ_7 := hide (OQ_6.out.next b7)
                clear X_6 A_6 OP_6 OQ_6
                clear b7
                go_wp2_with fail
                refine (HI.out _).mono ?_
                rintro e w8 ⟨⟨lv, rfl, hv⟩, b8⟩
                have K8 := hide (K7.out.trans (Turn.of_below b8))
                have y8 := b8.size
                have X_8 := hide (X_7.out.next b8)
                have A_8 := hide (A_7.out.next b8)
                have OP_8 := hide (OP_7.out.next b8)
                have OQ_8 := hide (OQ_7.out.next b8)
                clear X_7 A_7 OP_7 OQ_7
                have V_8 := hide hv
                clear hv
                clear b8
                have cX0_8 := (X_8.out.2 0 _ rfl).1
                have cX1_8 := (X_8.out.2 1 _ rfl).1
                have cX2_8 := (X_8.out.2 2 _ rfl).1
                have cX3_8 := (X_8.out.2 3 _ rfl).1
                go_wp2_with fail
                refine (HE.out _ (KB.out _ K8.out)).mono ?_
                rintro e w9 ⟨rfl, b9⟩
                clear cX0_8 cX1_8 cX2_8 cX3_8
                have K9 := hide (K8.out.trans (Turn.of_below b9))
                have y9 := b9.size
                have X_9 := hide (X_8.out.next b9)
                have A_9 := hide (A_8.out.next b9)
                have OP_9 := hide (OP_8.out.next b9)
                have OQ_9 := hide (OQ_8.out.next b9)
                clear X_8 A_8 OP_8 OQ_8
                have V_9 := hide (V_8.out.atI b9)
                clear V_8
                clear b9
                go_wp2
                go_ret
                exact ⟨⟨rfl, _, _, _, g0, g0 + 1, g1, (g1 + 1), m4, (m4 + 1), A_9.out, OP_9.out, OQ_9.out, (HV4.out _ (by omega)), by omega, by omega, by omega, by omega⟩, K9.out⟩
              · obtain rfl : 0 = fo := (HFO.out.trans (by first | rfl | (simp [firstI, cwI]; done))).symm
                obtain rfl : ql = tlv := (HTL.out.trans (by first | rfl | (simp; done) | (have hb : (b0 || b1) = false := by {cases hh : (b0 || b1) with | false => rfl | true => exact absurd (hfk hh) (by decide)}; simp [hb]))).symm
                obtain rfl : tk = tkv := (HTV.out.trans (by first | rfl | (simp; done))).symm
                clear HFO HTV HTL
                have cX1_0 := (X_0.out.2 1 _ rfl).1
                go_enter Tryz.func23, Tryz.ntmps23
                go_wp2_with fail
                refine (HP.out _).mono ?_
                rintro e w1 ⟨⟨p, rfl, ho⟩, b1⟩
                clear cX1_0 hw0
                have K1 := hide (K0.out.trans (Turn.of_below b1))
                have y1 := b1.size
                have X_1 := hide (X_0.out.next b1)
                have A_1 := hide (A_0.out.next b1)
                clear X_0 A_0
                obtain ⟨g0, hg1, hg2, hO⟩ := own_of_ownS ho
                obtain ⟨a0, q0, rfl, _⟩ := hO.rows 1 (fun _ => rfl)
                have OP_1 := hide hO
                clear ho hO
                clear b1
                obtain ⟨cA0_1, fA0_1⟩ := A_1.out.2 0 _ rfl
                obtain ⟨w2, hw2⟩ : ∃ w', (w1.setCell ⟨N, 0, none⟩ (.slice a0 pl.length q0)) = w' := ⟨_, rfl⟩
                have y2 : w2.heap.size = w1.heap.size := by rw [← hw2]; simp
                have K2 := hide (show Turn (fun y => y = N) W w2 by rw [← hw2]; exact (K1.out).trans (Turn.set _ ⟨N, 0, none⟩ _ rfl))
                have X_2 := hide (show BoxV w2 (W.heap.size) _ by rw [← hw2]; exact (X_1.out).other ⟨N, 0, none⟩ (.slice a0 pl.length q0) (by dsimp only; omega))
                have A_2 := hide (show BoxV w2 (N) [.slice a0 pl.length q0, e1, .bool de, .bool ov, e4, .int .i64 co] by rw [← hw2]; exact (A_1.out).set 0 (by simp) (.slice a0 pl.length q0))
                have OP_2 := hide (show Own w2 _ _ _ by rw [← hw2]; exact (OP_1.out).setCell ⟨N, 0, none⟩ (.slice a0 pl.length q0) (fun hh => by have h1 := hh.1; have h2 := hh.2; simp only at h1 h2; omega))
                clear X_1 A_1 OP_1
                have cX0_2 := (X_2.out.2 0 _ rfl).1
                go_wp2_with fail
                refine (HC.out _).mono ?_
                rintro e w3 ⟨rfl, b3⟩
                clear cA0_1 fA0_1 hw2 cX0_2
                have K3 := hide (K2.out.trans (Turn.of_below b3))
                have y3 := b3.size
                have X_3 := hide (X_2.out.next b3)
                have A_3 := hide (A_2.out.next b3)
                have OP_3 := hide (OP_2.out.next b3)
                clear X_2 A_2 OP_2
                clear b3
                have cX0_3 := (X_3.out.2 0 _ rfl).1
                have cX2_3 := (X_3.out.2 2 _ rfl).1
                go_wp2_with fail
                refine (HD.out _ (KB.out _ K3.out)).mono ?_
                rintro e w4 ⟨rfl, b4⟩
                clear cX0_3 cX2_3
                have K4 := hide (K3.out.trans (Turn.of_below b4))
                have y4 := b4.size
                have X_4 := hide (X_3.out.next b4)
                have A_4 := hide (A_3.out.next b4)
                have OP_4 := hide (OP_3.out.next b4)
                clear X_3 A_3 OP_3
                clear b4
                go_wp2_with fail
                refine (HQ.out _).mono ?_
                rintro e w5 ⟨⟨p, rfl, ho⟩, b5⟩
                have K5 := hide (K4.out.trans (Turn.of_below b5))
                have y5 := b5.size
                have X_5 := hide (X_4.out.next b5)
                have A_5 := hide (A_4.out.next b5)
                have OP_5 := hide (OP_4.out.next b5)
                clear X_4 A_4 OP_4
                obtain ⟨g1, hg3, hg4, hO⟩ := own_of_ownS ho
                obtain ⟨a1, q1, rfl, _⟩ := hO.rows 1 (fun _ => rfl)
                have OQ_5 := hide hO
                clear ho hO
                clear b5
                obtain ⟨cA1_5, fA1_5⟩ := A_5.out.2 1 _ rfl
                obtain ⟨w6, hw6⟩ : ∃ w', (w5.setCell ⟨N, 1, none⟩ (.slice a1 ql.length q1)) = w' := ⟨_, rfl⟩
                have y6 : w6.heap.size = w5.heap.size := by rw [← hw6]; simp
                have K6 := hide (show Turn (fun y => y = N) W w6 by rw [← hw6]; exact (K5.out).trans (Turn.set _ ⟨N, 1, none⟩ _ rfl))
                have X_6 := hide (show BoxV w6 (W.heap.size) _ by rw [← hw6]; exact (X_5.out).other ⟨N, 1, none⟩ (.slice a1 ql.length q1) (by dsimp only; omega))
                have A_6 := hide (show BoxV w6 (N) [.slice a0 pl.length q0, .slice a1 ql.length q1, .bool de, .bool ov, e4, .int .i64 co] by rw [← hw6]; exact (A_5.out).set 1 (by simp) (.slice a1 ql.length q1))
                have OP_6 := hide (show Own w6 _ _ _ by rw [← hw6]; exact (OP_5.out).setCell ⟨N, 1, none⟩ (.slice a1 ql.length q1) (fun hh => by have h1 := hh.1; have h2 := hh.2; simp only at h1 h2; omega))
                have OQ_6 := hide (show Own w6 _ _ _ by rw [← hw6]; exact (OQ_5.out).setCell ⟨N, 1, none⟩ (.slice a1 ql.length q1) (fun hh => by have h1 := hh.1; have h2 := hh.2; simp only at h1 h2; omega))
                clear X_5 A_5 OP_5 OQ_5
                have cX2_6 := (X_6.out.2 2 _ rfl).1
                go_wp2_with fail
                refine (HF.out _ (KB.out _ K6.out)).mono ?_
                rintro e w7 ⟨rfl, b7⟩
                clear cA1_5 fA1_5 hw6 cX2_6
                have K7 := hide (K6.out.trans (Turn.of_below b7))
                have y7 := b7.size
                have X_7 := hide (X_6.out.next b7)
                have A_7 := hide (A_6.out.next b7)
                have OP_7 := hide (OP_6.out.next b7)
                have OQ_7 := hide (OQ_6.out.next b7)
                clear X_6 A_6 OP_6 OQ_6
                clear b7
                go_wp2_with fail
                refine (HI.out _).mono ?_
                rintro e w8 ⟨⟨lv, rfl, hv⟩, b8⟩
                have K8 := hide (K7.out.trans (Turn.of_below b8))
                have y8 := b8.size
                have X_8 := hide (X_7.out.next b8)
                have A_8 := hide (A_7.out.next b8)
                have OP_8 := hide (OP_7.out.next b8)
                have OQ_8 := hide (OQ_7.out.next b8)
                clear X_7 A_7 OP_7 OQ_7
                have V_8 := hide hv
                clear hv
                clear b8
                have cX0_8 := (X_8.out.2 0 _ rfl).1
                have cX1_8 := (X_8.out.2 1 _ rfl).1
                have cX2_8 := (X_8.out.2 2 _ rfl).1
                have cX3_8 := (X_8.out.2 3 _ rfl).1
                go_wp2_with fail
                refine (HE.out _ (KB.out _ K8.out)).mono ?_
                rintro e w9 ⟨rfl, b9⟩
                clear cX0_8 cX1_8 cX2_8 cX3_8
                have K9 := hide (K8.out.trans (Turn.of_below b9))
                have y9 := b9.size
                have X_9 := hide (X_8.out.next b9)
                have A_9 := hide (A_8.out.next b9)
                have OP_9 := hide (OP_8.out.next b9)
                have OQ_9 := hide (OQ_8.out.next b9)
                clear X_8 A_8 OP_8 OQ_8
                have V_9 := hide (V_8.out.atI b9)
                clear V_8
                clear b9
                go_wp2_with fail
                refine (HS.out _ lv V_9.out).mono ?_
                rintro e w10 ⟨⟨tv, rfl, ho⟩, b10⟩
                have K10 := hide (K9.out.trans (Turn.of_below b10))
                have y10 := b10.size
                have X_10 := hide (X_9.out.next b10)
                have A_10 := hide (A_9.out.next b10)
                have OP_10 := hide (OP_9.out.next b10)
                have OQ_10 := hide (OQ_9.out.next b10)
                clear X_9 A_9 OP_9 OQ_9
                obtain ⟨a4, q4, rfl, _⟩ := ho.rows 1 (fun _ => rfl)
                have OT_10 := hide ho
                clear ho
                clear b10
                obtain ⟨cA4_10, fA4_10⟩ := A_10.out.2 4 _ rfl
                obtain ⟨w11, hw11⟩ : ∃ w', (w10.setCell ⟨N, 4, none⟩ (.slice a4 tk.length q4)) = w' := ⟨_, rfl⟩
                have y11 : w11.heap.size = w10.heap.size := by rw [← hw11]; simp
                have K11 := hide (show Turn (fun y => y = N) W w11 by rw [← hw11]; exact (K10.out).trans (Turn.set _ ⟨N, 4, none⟩ _ rfl))
                have X_11 := hide (show BoxV w11 (W.heap.size) _ by rw [← hw11]; exact (X_10.out).other ⟨N, 4, none⟩ (.slice a4 tk.length q4) (by dsimp only; omega))
                have A_11 := hide (show BoxV w11 (N) [.slice a0 pl.length q0, .slice a1 ql.length q1, .bool de, .bool ov, .slice a4 tk.length q4, .int .i64 co] by rw [← hw11]; exact (A_10.out).set 4 (by simp) (.slice a4 tk.length q4))
                have OP_11 := hide (show Own w11 _ _ _ by rw [← hw11]; exact (OP_10.out).setCell ⟨N, 4, none⟩ (.slice a4 tk.length q4) (fun hh => by have h1 := hh.1; have h2 := hh.2; simp only at h1 h2; omega))
                have OQ_11 := hide (show Own w11 _ _ _ by rw [← hw11]; exact (OQ_10.out).setCell ⟨N, 4, none⟩ (.slice a4 tk.length q4) (fun hh => by have h1 := hh.1; have h2 := hh.2; simp only at h1 h2; omega))
                have OT_11 := hide (show Own w11 _ _ _ by rw [← hw11]; exact (OT_10.out).setCell ⟨N, 4, none⟩ (.slice a4 tk.length q4) (fun hh => by have h1 := hh.1; have h2 := hh.2; simp only at h1 h2; omega))
                clear X_10 A_10 OP_10 OQ_10 OT_10
                go_wp2
                go_ret
                exact ⟨⟨rfl, _, _, _, g0, g0 + 1, g1, (g1 + 1), w9.heap.size, w10.heap.size, A_11.out, OP_11.out, OQ_11.out, OT_11.out, by omega, by omega, by omega, by omega⟩, K11.out⟩
      cases dz
      · obtain rfl : 400 = fo := (HFO.out.trans (by first | rfl | (simp [firstI, cwI]; done))).symm
        obtain rfl : [] = tlv := (HTL.out.trans (by first | rfl | (simp; done) | (have hb : (b0 || b1) = false := by {cases hh : (b0 || b1) with | false => rfl | true => exact absurd (hfk hh) (by decide)}; simp [hb]))).symm
        obtain rfl : [] = tkv := (HTV.out.trans (by first | rfl | (simp; done))).symm
        clear HFO HTV HTL
        have cX1_0 := (X_0.out.2 1 _ rfl).1
        go_enter Tryz.func23, Tryz.ntmps23
        go_wp2_with fail
        refine (HP.out _).mono ?_
        rintro e w1 ⟨⟨p, rfl, ho⟩, b1⟩
        clear cX1_0 hw0
        have K1 := hide (K0.out.trans (Turn.of_below b1))
        have y1 := b1.size
        have X_1 := hide (X_0.out.next b1)
        have A_1 := hide (A_0.out.next b1)
        clear X_0 A_0
        obtain ⟨g0, hg1, hg2, hO⟩ := own_of_ownS ho
        obtain ⟨a0, q0, rfl, _⟩ := hO.rows 1 (fun _ => rfl)
        have OP_1 := hide hO
        clear ho hO
        clear b1
        obtain ⟨cA0_1, fA0_1⟩ := A_1.out.2 0 _ rfl
        obtain ⟨w2, hw2⟩ : ∃ w', (w1.setCell ⟨N, 0, none⟩ (.slice a0 pl.length q0)) = w' := ⟨_, rfl⟩
        have y2 : w2.heap.size = w1.heap.size := by rw [← hw2]; simp
        have K2 := hide (show Turn (fun y => y = N) W w2 by rw [← hw2]; exact (K1.out).trans (Turn.set _ ⟨N, 0, none⟩ _ rfl))
        have X_2 := hide (show BoxV w2 (W.heap.size) _ by rw [← hw2]; exact (X_1.out).other ⟨N, 0, none⟩ (.slice a0 pl.length q0) (by dsimp only; omega))
        have A_2 := hide (show BoxV w2 (N) [.slice a0 pl.length q0, e1, .bool de, .bool ov, e4, .int .i64 co] by rw [← hw2]; exact (A_1.out).set 0 (by simp) (.slice a0 pl.length q0))
        have OP_2 := hide (show Own w2 _ _ _ by rw [← hw2]; exact (OP_1.out).setCell ⟨N, 0, none⟩ (.slice a0 pl.length q0) (fun hh => by have h1 := hh.1; have h2 := hh.2; simp only at h1 h2; omega))
        clear X_1 A_1 OP_1
        have cX0_2 := (X_2.out.2 0 _ rfl).1
        go_wp2_with fail
        refine (HC.out _).mono ?_
        rintro e w3 ⟨rfl, b3⟩
        clear cA0_1 fA0_1 hw2 cX0_2
        have K3 := hide (K2.out.trans (Turn.of_below b3))
        have y3 := b3.size
        have X_3 := hide (X_2.out.next b3)
        have A_3 := hide (A_2.out.next b3)
        have OP_3 := hide (OP_2.out.next b3)
        clear X_2 A_2 OP_2
        clear b3
        have cX0_3 := (X_3.out.2 0 _ rfl).1
        have cX2_3 := (X_3.out.2 2 _ rfl).1
        go_wp2_with fail
        refine (HF.out _ (KB.out _ K3.out)).mono ?_
        rintro e w4 ⟨rfl, b4⟩
        clear cX0_3 cX2_3
        have K4 := hide (K3.out.trans (Turn.of_below b4))
        have y4 := b4.size
        have X_4 := hide (X_3.out.next b4)
        have A_4 := hide (A_3.out.next b4)
        have OP_4 := hide (OP_3.out.next b4)
        clear X_3 A_3 OP_3
        clear b4
        go_wp2_with fail
        refine (HI.out _).mono ?_
        rintro e w5 ⟨⟨lv, rfl, hv⟩, b5⟩
        have K5 := hide (K4.out.trans (Turn.of_below b5))
        have y5 := b5.size
        have X_5 := hide (X_4.out.next b5)
        have A_5 := hide (A_4.out.next b5)
        have OP_5 := hide (OP_4.out.next b5)
        clear X_4 A_4 OP_4
        have V_5 := hide hv
        clear hv
        clear b5
        have cX0_5 := (X_5.out.2 0 _ rfl).1
        have cX1_5 := (X_5.out.2 1 _ rfl).1
        have cX2_5 := (X_5.out.2 2 _ rfl).1
        have cX3_5 := (X_5.out.2 3 _ rfl).1
        go_wp2_with fail
        refine (HE.out _ (KB.out _ K5.out)).mono ?_
        rintro e w6 ⟨rfl, b6⟩
        clear cX0_5 cX1_5 cX2_5 cX3_5
        have K6 := hide (K5.out.trans (Turn.of_below b6))
        have y6 := b6.size
        have X_6 := hide (X_5.out.next b6)
        have A_6 := hide (A_5.out.next b6)
        have OP_6 := hide (OP_5.out.next b6)
        clear X_5 A_5 OP_5
        have V_6 := hide (V_5.out.atI b6)
        clear V_5
        clear b6
        go_wp2
        go_ret
        exact ⟨⟨rfl, _, _, _, g0, g0 + 1, m1, (m1 + 1), m4, (m4 + 1), A_6.out, OP_6.out, (HV1.out _ (by omega)), (HV4.out _ (by omega)), by omega, by omega, by omega, by omega⟩, K6.out⟩
      · cases it
        · have htk : tk = [] := HTN.out (by trivial)
          subst htk
          obtain rfl : 0 = fo := (HFO.out.trans (by first | rfl | (simp [firstI, cwI]; done))).symm
          obtain rfl : [] = tlv := (HTL.out.trans (by first | rfl | (simp; done) | (have hb : (b0 || b1) = false := by {cases hh : (b0 || b1) with | false => rfl | true => exact absurd (hfk hh) (by decide)}; simp [hb]))).symm
          obtain rfl : [] = tkv := (HTV.out.trans (by first | rfl | (simp; done))).symm
          clear HFO HTV HTL
          have cX1_0 := (X_0.out.2 1 _ rfl).1
          go_enter Tryz.func23, Tryz.ntmps23
          go_wp2_with fail
          refine (HP.out _).mono ?_
          rintro e w1 ⟨⟨p, rfl, ho⟩, b1⟩
          clear cX1_0 hw0
          have K1 := hide (K0.out.trans (Turn.of_below b1))
          have y1 := b1.size
          have X_1 := hide (X_0.out.next b1)
          have A_1 := hide (A_0.out.next b1)
          clear X_0 A_0
          obtain ⟨g0, hg1, hg2, hO⟩ := own_of_ownS ho
          obtain ⟨a0, q0, rfl, _⟩ := hO.rows 1 (fun _ => rfl)
          have OP_1 := hide hO
          clear ho hO
          clear b1
          obtain ⟨cA0_1, fA0_1⟩ := A_1.out.2 0 _ rfl
          obtain ⟨w2, hw2⟩ : ∃ w', (w1.setCell ⟨N, 0, none⟩ (.slice a0 pl.length q0)) = w' := ⟨_, rfl⟩
          have y2 : w2.heap.size = w1.heap.size := by rw [← hw2]; simp
          have K2 := hide (show Turn (fun y => y = N) W w2 by rw [← hw2]; exact (K1.out).trans (Turn.set _ ⟨N, 0, none⟩ _ rfl))
          have X_2 := hide (show BoxV w2 (W.heap.size) _ by rw [← hw2]; exact (X_1.out).other ⟨N, 0, none⟩ (.slice a0 pl.length q0) (by dsimp only; omega))
          have A_2 := hide (show BoxV w2 (N) [.slice a0 pl.length q0, e1, .bool de, .bool ov, e4, .int .i64 co] by rw [← hw2]; exact (A_1.out).set 0 (by simp) (.slice a0 pl.length q0))
          have OP_2 := hide (show Own w2 _ _ _ by rw [← hw2]; exact (OP_1.out).setCell ⟨N, 0, none⟩ (.slice a0 pl.length q0) (fun hh => by have h1 := hh.1; have h2 := hh.2; simp only at h1 h2; omega))
          clear X_1 A_1 OP_1
          have cX0_2 := (X_2.out.2 0 _ rfl).1
          go_wp2_with fail
          refine (HC.out _).mono ?_
          rintro e w3 ⟨rfl, b3⟩
          clear cA0_1 fA0_1 hw2 cX0_2
          have K3 := hide (K2.out.trans (Turn.of_below b3))
          have y3 := b3.size
          have X_3 := hide (X_2.out.next b3)
          have A_3 := hide (A_2.out.next b3)
          have OP_3 := hide (OP_2.out.next b3)
          clear X_2 A_2 OP_2
          clear b3
          have cX0_3 := (X_3.out.2 0 _ rfl).1
          have cX2_3 := (X_3.out.2 2 _ rfl).1
          go_wp2_with fail
          refine (HF.out _ (KB.out _ K3.out)).mono ?_
          rintro e w4 ⟨rfl, b4⟩
          clear cX0_3 cX2_3
          have K4 := hide (K3.out.trans (Turn.of_below b4))
          have y4 := b4.size
          have X_4 := hide (X_3.out.next b4)
          have A_4 := hide (A_3.out.next b4)
          have OP_4 := hide (OP_3.out.next b4)
          clear X_3 A_3 OP_3
          clear b4
          go_wp2_with fail
          refine (HI.out _).mono ?_
          rintro e w5 ⟨⟨lv, rfl, hv⟩, b5⟩
          have K5 := hide (K4.out.trans (Turn.of_below b5))
          have y5 := b5.size
          have X_5 := hide (X_4.out.next b5)
          have A_5 := hide (A_4.out.next b5)
          have OP_5 := hide (OP_4.out.next b5)
          clear X_4 A_4 OP_4
          have V_5 := hide hv
          clear hv
          clear b5
          have cX0_5 := (X_5.out.2 0 _ rfl).1
          have cX1_5 := (X_5.out.2 1 _ rfl).1
          have cX2_5 := (X_5.out.2 2 _ rfl).1
          have cX3_5 := (X_5.out.2 3 _ rfl).1
          go_wp2_with fail
          refine (HE.out _ (KB.out _ K5.out)).mono ?_
          rintro e w6 ⟨rfl, b6⟩
          clear cX0_5 cX1_5 cX2_5 cX3_5
          have K6 := hide (K5.out.trans (Turn.of_below b6))
          have y6 := b6.size
          have X_6 := hide (X_5.out.next b6)
          have A_6 := hide (A_5.out.next b6)
          have OP_6 := hide (OP_5.out.next b6)
          clear X_5 A_5 OP_5
          have V_6 := hide (V_5.out.atI b6)
          clear V_5
          clear b6
          go_wp2
          go_ret
          exact ⟨⟨rfl, _, _, _, g0, g0 + 1, m1, (m1 + 1), m4, (m4 + 1), A_6.out, OP_6.out, (HV1.out _ (by omega)), (HV4.out _ (by omega)), by omega, by omega, by omega, by omega⟩, K6.out⟩
        · cases iq
          · obtain rfl : 400 = fo := (HFO.out.trans (by first | rfl | (simp [firstI, cwI]; done))).symm
            obtain rfl : [] = tlv := (HTL.out.trans (by first | rfl | (simp; done) | (have hb : (b0 || b1) = false := by {cases hh : (b0 || b1) with | false => rfl | true => exact absurd (hfk hh) (by decide)}; simp [hb]))).symm
            obtain rfl : [] = tkv := (HTV.out.trans (by first | rfl | (simp; done))).symm
            clear HFO HTV HTL
            have cX1_0 := (X_0.out.2 1 _ rfl).1
            go_enter Tryz.func23, Tryz.ntmps23
            go_wp2_with fail
            refine (HP.out _).mono ?_
            rintro e w1 ⟨⟨p, rfl, ho⟩, b1⟩
            clear cX1_0 hw0
            have K1 := hide (K0.out.trans (Turn.of_below b1))
            have y1 := b1.size
            have X_1 := hide (X_0.out.next b1)
            have A_1 := hide (A_0.out.next b1)
            clear X_0 A_0
            obtain ⟨g0, hg1, hg2, hO⟩ := own_of_ownS ho
            obtain ⟨a0, q0, rfl, _⟩ := hO.rows 1 (fun _ => rfl)
            have OP_1 := hide hO
            clear ho hO
            clear b1
            obtain ⟨cA0_1, fA0_1⟩ := A_1.out.2 0 _ rfl
            obtain ⟨w2, hw2⟩ : ∃ w', (w1.setCell ⟨N, 0, none⟩ (.slice a0 pl.length q0)) = w' := ⟨_, rfl⟩
            have y2 : w2.heap.size = w1.heap.size := by rw [← hw2]; simp
            have K2 := hide (show Turn (fun y => y = N) W w2 by rw [← hw2]; exact (K1.out).trans (Turn.set _ ⟨N, 0, none⟩ _ rfl))
            have X_2 := hide (show BoxV w2 (W.heap.size) _ by rw [← hw2]; exact (X_1.out).other ⟨N, 0, none⟩ (.slice a0 pl.length q0) (by dsimp only; omega))
            have A_2 := hide (show BoxV w2 (N) [.slice a0 pl.length q0, e1, .bool de, .bool ov, e4, .int .i64 co] by rw [← hw2]; exact (A_1.out).set 0 (by simp) (.slice a0 pl.length q0))
            have OP_2 := hide (show Own w2 _ _ _ by rw [← hw2]; exact (OP_1.out).setCell ⟨N, 0, none⟩ (.slice a0 pl.length q0) (fun hh => by have h1 := hh.1; have h2 := hh.2; simp only at h1 h2; omega))
            clear X_1 A_1 OP_1
            have cX0_2 := (X_2.out.2 0 _ rfl).1
            go_wp2_with fail
            refine (HC.out _).mono ?_
            rintro e w3 ⟨rfl, b3⟩
            clear cA0_1 fA0_1 hw2 cX0_2
            have K3 := hide (K2.out.trans (Turn.of_below b3))
            have y3 := b3.size
            have X_3 := hide (X_2.out.next b3)
            have A_3 := hide (A_2.out.next b3)
            have OP_3 := hide (OP_2.out.next b3)
            clear X_2 A_2 OP_2
            clear b3
            have cX0_3 := (X_3.out.2 0 _ rfl).1
            have cX2_3 := (X_3.out.2 2 _ rfl).1
            go_wp2_with fail
            refine (HF.out _ (KB.out _ K3.out)).mono ?_
            rintro e w4 ⟨rfl, b4⟩
            clear cX0_3 cX2_3
            have K4 := hide (K3.out.trans (Turn.of_below b4))
            have y4 := b4.size
            have X_4 := hide (X_3.out.next b4)
            have A_4 := hide (A_3.out.next b4)
            have OP_4 := hide (OP_3.out.next b4)
            clear X_3 A_3 OP_3
            clear b4
            go_wp2_with fail
            refine (HI.out _).mono ?_
            rintro e w5 ⟨⟨lv, rfl, hv⟩, b5⟩
            have K5 := hide (K4.out.trans (Turn.of_below b5))
            have y5 := b5.size
            have X_5 := hide (X_4.out.next b5)
            have A_5 := hide (A_4.out.next b5)
            have OP_5 := hide (OP_4.out.next b5)
            clear X_4 A_4 OP_4
            have V_5 := hide hv
            clear hv
            clear b5
            have cX0_5 := (X_5.out.2 0 _ rfl).1
            have cX1_5 := (X_5.out.2 1 _ rfl).1
            have cX2_5 := (X_5.out.2 2 _ rfl).1
            have cX3_5 := (X_5.out.2 3 _ rfl).1
            go_wp2_with fail
            refine (HE.out _ (KB.out _ K5.out)).mono ?_
            rintro e w6 ⟨rfl, b6⟩
            clear cX0_5 cX1_5 cX2_5 cX3_5
            have K6 := hide (K5.out.trans (Turn.of_below b6))
            have y6 := b6.size
            have X_6 := hide (X_5.out.next b6)
            have A_6 := hide (A_5.out.next b6)
            have OP_6 := hide (OP_5.out.next b6)
            clear X_5 A_5 OP_5
            have V_6 := hide (V_5.out.atI b6)
            clear V_5
            clear b6
            go_wp2
            go_ret
            exact ⟨⟨rfl, _, _, _, g0, g0 + 1, m1, (m1 + 1), m4, (m4 + 1), A_6.out, OP_6.out, (HV1.out _ (by omega)), (HV4.out _ (by omega)), by omega, by omega, by omega, by omega⟩, K6.out⟩
          · obtain rfl : 0 = fo := (HFO.out.trans (by first | rfl | (simp [firstI, cwI]; done))).symm
            obtain rfl : [] = tlv := (HTL.out.trans (by first | rfl | (simp; done) | (have hb : (b0 || b1) = false := by {cases hh : (b0 || b1) with | false => rfl | true => exact absurd (hfk hh) (by decide)}; simp [hb]))).symm
            obtain rfl : tk = tkv := (HTV.out.trans (by first | rfl | (simp; done))).symm
            clear HFO HTV HTL
            have cX1_0 := (X_0.out.2 1 _ rfl).1
            go_enter Tryz.func23, Tryz.ntmps23
            go_wp2_with fail
            refine (HP.out _).mono ?_
            rintro e w1 ⟨⟨p, rfl, ho⟩, b1⟩
            clear cX1_0 hw0
            have K1 := hide (K0.out.trans (Turn.of_below b1))
            have y1 := b1.size
            have X_1 := hide (X_0.out.next b1)
            have A_1 := hide (A_0.out.next b1)
            clear X_0 A_0
            obtain ⟨g0, hg1, hg2, hO⟩ := own_of_ownS ho
            obtain ⟨a0, q0, rfl, _⟩ := hO.rows 1 (fun _ => rfl)
            have OP_1 := hide hO
            clear ho hO
            clear b1
            obtain ⟨cA0_1, fA0_1⟩ := A_1.out.2 0 _ rfl
            obtain ⟨w2, hw2⟩ : ∃ w', (w1.setCell ⟨N, 0, none⟩ (.slice a0 pl.length q0)) = w' := ⟨_, rfl⟩
            have y2 : w2.heap.size = w1.heap.size := by rw [← hw2]; simp
            have K2 := hide (show Turn (fun y => y = N) W w2 by rw [← hw2]; exact (K1.out).trans (Turn.set _ ⟨N, 0, none⟩ _ rfl))
            have X_2 := hide (show BoxV w2 (W.heap.size) _ by rw [← hw2]; exact (X_1.out).other ⟨N, 0, none⟩ (.slice a0 pl.length q0) (by dsimp only; omega))
            have A_2 := hide (show BoxV w2 (N) [.slice a0 pl.length q0, e1, .bool de, .bool ov, e4, .int .i64 co] by rw [← hw2]; exact (A_1.out).set 0 (by simp) (.slice a0 pl.length q0))
            have OP_2 := hide (show Own w2 _ _ _ by rw [← hw2]; exact (OP_1.out).setCell ⟨N, 0, none⟩ (.slice a0 pl.length q0) (fun hh => by have h1 := hh.1; have h2 := hh.2; simp only at h1 h2; omega))
            clear X_1 A_1 OP_1
            have cX0_2 := (X_2.out.2 0 _ rfl).1
            go_wp2_with fail
            refine (HC.out _).mono ?_
            rintro e w3 ⟨rfl, b3⟩
            clear cA0_1 fA0_1 hw2 cX0_2
            have K3 := hide (K2.out.trans (Turn.of_below b3))
            have y3 := b3.size
            have X_3 := hide (X_2.out.next b3)
            have A_3 := hide (A_2.out.next b3)
            have OP_3 := hide (OP_2.out.next b3)
            clear X_2 A_2 OP_2
            clear b3
            have cX0_3 := (X_3.out.2 0 _ rfl).1
            have cX2_3 := (X_3.out.2 2 _ rfl).1
            go_wp2_with fail
            refine (HF.out _ (KB.out _ K3.out)).mono ?_
            rintro e w4 ⟨rfl, b4⟩
            clear cX0_3 cX2_3
            have K4 := hide (K3.out.trans (Turn.of_below b4))
            have y4 := b4.size
            have X_4 := hide (X_3.out.next b4)
            have A_4 := hide (A_3.out.next b4)
            have OP_4 := hide (OP_3.out.next b4)
            clear X_3 A_3 OP_3
            clear b4
            go_wp2_with fail
            refine (HI.out _).mono ?_
            rintro e w5 ⟨⟨lv, rfl, hv⟩, b5⟩
            have K5 := hide (K4.out.trans (Turn.of_below b5))
            have y5 := b5.size
            have X_5 := hide (X_4.out.next b5)
            have A_5 := hide (A_4.out.next b5)
            have OP_5 := hide (OP_4.out.next b5)
            clear X_4 A_4 OP_4
            have V_5 := hide hv
            clear hv
            clear b5
            have cX0_5 := (X_5.out.2 0 _ rfl).1
            have cX1_5 := (X_5.out.2 1 _ rfl).1
            have cX2_5 := (X_5.out.2 2 _ rfl).1
            have cX3_5 := (X_5.out.2 3 _ rfl).1
            go_wp2_with fail
            refine (HE.out _ (KB.out _ K5.out)).mono ?_
            rintro e w6 ⟨rfl, b6⟩
            clear cX0_5 cX1_5 cX2_5 cX3_5
            have K6 := hide (K5.out.trans (Turn.of_below b6))
            have y6 := b6.size
            have X_6 := hide (X_5.out.next b6)
            have A_6 := hide (A_5.out.next b6)
            have OP_6 := hide (OP_5.out.next b6)
            clear X_5 A_5 OP_5
            have V_6 := hide (V_5.out.atI b6)
            clear V_5
            clear b6
            go_wp2_with fail
            refine (HS.out _ lv V_6.out).mono ?_
            rintro e w7 ⟨⟨tv, rfl, ho⟩, b7⟩
            have K7 := hide (K6.out.trans (Turn.of_below b7))
            have y7 := b7.size
            have X_7 := hide (X_6.out.next b7)
            have A_7 := hide (A_6.out.next b7)
            have OP_7 := hide (OP_6.out.next b7)
            clear X_6 A_6 OP_6
            obtain ⟨a4, q4, rfl, _⟩ := ho.rows 1 (fun _ => rfl)
            have OT_7 := hide ho
            clear ho
            clear b7
            obtain ⟨cA4_7, fA4_7⟩ := A_7.out.2 4 _ rfl
            obtain ⟨w8, hw8⟩ : ∃ w', (w7.setCell ⟨N, 4, none⟩ (.slice a4 tk.length q4)) = w' := ⟨_, rfl⟩
            have y8 : w8.heap.size = w7.heap.size := by rw [← hw8]; simp
            have K8 := hide (show Turn (fun y => y = N) W w8 by rw [← hw8]; exact (K7.out).trans (Turn.set _ ⟨N, 4, none⟩ _ rfl))
            have X_8 := hide (show BoxV w8 (W.heap.size) _ by rw [← hw8]; exact (X_7.out).other ⟨N, 4, none⟩ (.slice a4 tk.length q4) (by dsimp only; omega))
            have A_8 := hide (show BoxV w8 (N) [.slice a0 pl.length q0, e1, .bool de, .bool ov, .slice a4 tk.length q4, .int .i64 co] by rw [← hw8]; exact (A_7.out).set 4 (by simp) (.slice a4 tk.length q4))
            have OP_8 := hide (show Own w8 _ _ _ by rw [← hw8]; exact (OP_7.out).setCell ⟨N, 4, none⟩ (.slice a4 tk.length q4) (fun hh => by have h1 := hh.1; have h2 := hh.2; simp only at h1 h2; omega))
            have OT_8 := hide (show Own w8 _ _ _ by rw [← hw8]; exact (OT_7.out).setCell ⟨N, 4, none⟩ (.slice a4 tk.length q4) (fun hh => by have h1 := hh.1; have h2 := hh.2; simp only at h1 h2; omega))
            clear X_7 A_7 OP_7 OT_7
            go_wp2
            go_ret
            exact ⟨⟨rfl, _, _, _, g0, g0 + 1, m1, (m1 + 1), w6.heap.size, w7.heap.size, A_8.out, OP_8.out, (HV1.out _ (by omega)), OT_8.out, by omega, by omega, by omega, by omega⟩, K8.out⟩
end Go.Proofs.YtfhcniifennfbaaGreatDoor
