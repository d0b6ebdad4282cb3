/-
  What is read of a request, and its code: spec.l16Depth, l16Form, l16When and AskOf.
-/
import Derived.Test.YtfhcniifennfbaaGreatDoorSpecLower
import Derived.Test.YtfhcniifennfbaaGreatDoorUnq
import Derived.Test.YtfhcniifennfbaaGreatDoorSpecParsePath
import Derived.Test.YtfhcniifennfbaaGreatDoorIntsV
import Derived.Test.YtfhcniifennfbaaGreatDoorGenLock
import Derived.Test.YtfhcniifennfbaaGreatDoorSvIn
import Derived.Test.YtfhcniifennfbaaGreatDoorSpecMayT
import Derived.Test.YtfhcniifennfbaaGreatDoorSpecMayC
import Derived.Test.YtfhcniifennfbaaGreatDoorLooksI
import Derived.Test.YtfhcniifennfbaaGreatDoorAskI
namespace Go.Proofs.YtfhcniifennfbaaGreatDoor
open Go.RowKit M
set_option linter.unusedVariables false

theorem View.atB {w w' : World} {B : Nat} {v : Value} {x : Lf} (h : View w B v x) (hb : Below B w w') (hz : B ≤ w.heap.size) : View w' w'.heap.size v x := (h.stays hb (Nat.le_refl _)).mono (Nat.le_trans hz hb.size)
theorem specHead_gen (hs : List Hd) (n : ByteArray) (h : Value) (W : World) (hh : View W W.heap.size h (.l (hs.map dHd))) :
    Calls Tryz.prog 21 #[h, .string n] W fun e w' => e = .returned (.tuple #[.string (hdOf hs n).1, .bool (hdOf hs n).2]) ∧ Below W.heap.size W w' := by
  obtain ⟨a, cap, rfl, k1, k2, k3, k4⟩ := hds_of_view hh
  exact (specHeadOf_any a hs cap W.heap.size n W k4 (Nat.le_trans k1 k2)).mono fun e w2 q => ⟨q.1, by rw [q.2]; exact Below.refl _ _⟩
def otherMs : List ByteArray := [mGET, mHEAD, mOPTIONS, mPROPFIND]
theorem known_has (m : ByteArray) : knownB m = (chB m || hasB otherMs m) := by
  have e : ∀ a b : ByteArray, decide (a = b) = decide (b = a) := fun a b => by
    by_cases h : a = b
    · rw [h]
    · rw [decide_eq_false h, decide_eq_false (fun e => h e.symm)]
  unfold knownB hasB otherMs
  simp only [List.any_cons, List.any_nil, Bool.or_false]
  rw [e m mGET, e m mHEAD, e m mOPTIONS, e m mPROPFIND]

set_option maxRecDepth 100000 in
set_option maxHeartbeats 2000000 in
theorem specDep_gen (r : Rq) (h : Value) (W : World) (hh : View W W.heap.size h (.l (r.hs.map dHd))) (hr : szR (dRq r) ≤ 1048576) :
    Calls Tryz.prog 52 #[.agg #[.string r.m, .string r.p, h, .string r.b]] W fun e w' => e = .returned (.bool (depOkB r.m (depI r.hs 2))) ∧ Below W.heap.size W w' := by
  have K0 := hide (show Below W.heap.size W (W.alloc (Obj.cells #[.string r.m, .string r.p, h, .string r.b] 43)) from (Below.refl _ _).alloc (Nat.le_refl _) _)
  have y0 : (W.alloc (Obj.cells #[.string r.m, .string r.p, h, .string r.b] 43)).heap.size = W.heap.size + 1 := by simp
  have X_0 := hide (BoxV.made W [.string r.m, .string r.p, h, .string r.b] 43)
  have HD := hide (fun W' (hb : Below W.heap.size W W') => specDepth_gen r 2 h W' (hh.atI hb) hr)
  have hd := depI_cases r.hs 2
  unfold depOkB
  generalize depI r.hs 2 = d at *
  have f0 := eq_MOVE r.m
  have f1 := eq_DELETE r.m
  have f2 := eq_PROPFIND r.m
  have n0 := ne_MOVE r.m
  have n1 := ne_DELETE r.m
  generalize decide (r.m = mMOVE) = b0 at *
  generalize decide (r.m = mDELETE) = b1 at *
  generalize decide (r.m = mPROPFIND) = b2 at *
  clear hh hr
  rcases hd with rfl | rfl | rfl | rfl
  · have cX0_0 := (X_0.out.2 0 _ rfl).1
    have cX1_0 := (X_0.out.2 1 _ rfl).1
    have cX2_0 := (X_0.out.2 2 _ rfl).1
    have cX3_0 := (X_0.out.2 3 _ rfl).1
    go_enter Tryz.func52, Tryz.ntmps52
    go_wp2_with fail
    refine (HD.out _ K0.out).mono ?_
    rintro e w1 ⟨rfl, b1⟩
    clear cX0_0 cX1_0 cX2_0 cX3_0
    have K1 := hide (K0.out.trans (b1.mono K0.out.size))
    have y1 := b1.size
    have X_1 := hide (X_0.out.next b1)
    clear X_0
    clear b1
    go_wp2
    go_ret
    exact ⟨rfl, K1.out⟩
  · cases b0
    · cases b1
      · have cX0_0 := (X_0.out.2 0 _ rfl).1
        have cX1_0 := (X_0.out.2 1 _ rfl).1
        have cX2_0 := (X_0.out.2 2 _ rfl).1
        have cX3_0 := (X_0.out.2 3 _ rfl).1
        go_enter Tryz.func52, Tryz.ntmps52
        go_wp2_with fail
        refine (HD.out _ K0.out).mono ?_
        rintro e w1 ⟨rfl, b1⟩
        clear cX0_0 cX1_0 cX2_0 cX3_0
        have K1 := hide (K0.out.trans (b1.mono K0.out.size))
        have y1 := b1.size
        have X_1 := hide (X_0.out.next b1)
        clear X_0
        clear b1
        have cX0_1 := (X_1.out.2 0 _ rfl).1
        go_wp2
        go_ret
        exact ⟨rfl, K1.out⟩
      · have cX0_0 := (X_0.out.2 0 _ rfl).1
        have cX1_0 := (X_0.out.2 1 _ rfl).1
        have cX2_0 := (X_0.out.2 2 _ rfl).1
        have cX3_0 := (X_0.out.2 3 _ rfl).1
        go_enter Tryz.func52, Tryz.ntmps52
        go_wp2_with fail
        refine (HD.out _ K0.out).mono ?_
        rintro e w1 ⟨rfl, b1⟩
        clear cX0_0 cX1_0 cX2_0 cX3_0
        have K1 := hide (K0.out.trans (b1.mono K0.out.size))
        have y1 := b1.size
        have X_1 := hide (X_0.out.next b1)
        clear X_0
        clear b1
        have cX0_1 := (X_1.out.2 0 _ rfl).1
        go_wp2
        go_ret
        exact ⟨rfl, K1.out⟩
    · rw [show (if (0 : Int) = 0 then (!true && !b1) else if (0 : Int) = 1 then b2 else decide ((0 : Int) = 2)) = false by cases b1 <;> rfl]
      have cX0_0 := (X_0.out.2 0 _ rfl).1
      have cX1_0 := (X_0.out.2 1 _ rfl).1
      have cX2_0 := (X_0.out.2 2 _ rfl).1
      have cX3_0 := (X_0.out.2 3 _ rfl).1
      go_enter Tryz.func52, Tryz.ntmps52
      go_wp2_with fail
      refine (HD.out _ K0.out).mono ?_
      rintro e w1 ⟨rfl, b1⟩
      clear cX0_0 cX1_0 cX2_0 cX3_0
      have K1 := hide (K0.out.trans (b1.mono K0.out.size))
      have y1 := b1.size
      have X_1 := hide (X_0.out.next b1)
      clear X_0
      clear b1
      have cX0_1 := (X_1.out.2 0 _ rfl).1
      go_wp2
      go_ret
      exact ⟨rfl, K1.out⟩
  · cases b2
    · have cX0_0 := (X_0.out.2 0 _ rfl).1
      have cX1_0 := (X_0.out.2 1 _ rfl).1
      have cX2_0 := (X_0.out.2 2 _ rfl).1
      have cX3_0 := (X_0.out.2 3 _ rfl).1
      go_enter Tryz.func52, Tryz.ntmps52
      go_wp2_with fail
      refine (HD.out _ K0.out).mono ?_
      rintro e w1 ⟨rfl, b1⟩
      clear cX0_0 cX1_0 cX2_0 cX3_0
      have K1 := hide (K0.out.trans (b1.mono K0.out.size))
      have y1 := b1.size
      have X_1 := hide (X_0.out.next b1)
      clear X_0
      clear b1
      have cX0_1 := (X_1.out.2 0 _ rfl).1
      go_wp2
      go_ret
      exact ⟨rfl, K1.out⟩
    · have cX0_0 := (X_0.out.2 0 _ rfl).1
      have cX1_0 := (X_0.out.2 1 _ rfl).1
      have cX2_0 := (X_0.out.2 2 _ rfl).1
      have cX3_0 := (X_0.out.2 3 _ rfl).1
      go_enter Tryz.func52, Tryz.ntmps52
      go_wp2_with fail
      refine (HD.out _ K0.out).mono ?_
      rintro e w1 ⟨rfl, b1⟩
      clear cX0_0 cX1_0 cX2_0 cX3_0
      have K1 := hide (K0.out.trans (b1.mono K0.out.size))
      have y1 := b1.size
      have X_1 := hide (X_0.out.next b1)
      clear X_0
      clear b1
      have cX0_1 := (X_1.out.2 0 _ rfl).1
      go_wp2
      go_ret
      exact ⟨rfl, K1.out⟩
  · have cX0_0 := (X_0.out.2 0 _ rfl).1
    have cX1_0 := (X_0.out.2 1 _ rfl).1
    have cX2_0 := (X_0.out.2 2 _ rfl).1
    have cX3_0 := (X_0.out.2 3 _ rfl).1
    go_enter Tryz.func52, Tryz.ntmps52
    go_wp2_with fail
    refine (HD.out _ K0.out).mono ?_
    rintro e w1 ⟨rfl, b1⟩
    clear cX0_0 cX1_0 cX2_0 cX3_0
    have K1 := hide (K0.out.trans (b1.mono K0.out.size))
    have y1 := b1.size
    have X_1 := hide (X_0.out.next b1)
    clear X_0
    clear b1
    go_wp2
    go_ret
    exact ⟨rfl, K1.out⟩

set_option maxRecDepth 100000 in
set_option maxHeartbeats 8000000 in
theorem specWhen_gen (x : Sv) (r : Rq) (p : List ByteArray) (u0 u1 u4 u5 h q : Value) (W : World) (hh : View W W.heap.size h (.l (r.hs.map dHd))) (hr : szR (dRq r) ≤ 1048576) (h0 : View W W.heap.size u0 (.l (x.t.map dRs))) (h1 : View W W.heap.size u1 (.l (x.l.map dLk))) (h4 : View W W.heap.size u4 (.l (x.dr.map dI))) (h5 : View W W.heap.size u5 (.l (x.us.map dI))) (hsz : szR (dSv x) ≤ 1048576) (ok : okR (dSv x)) (hq : View W W.heap.size q (.l (p.map dS))) :
    Calls Tryz.prog 24 #[.agg #[u0, u1, .int .i64 x.now, .int .i64 x.ver, u4, u5], .agg #[.string r.m, .string r.p, h, .string r.b], q] W fun e w' => e = .returned (.int .i64 (whenI x r p)) ∧ Below W.heap.size W w' := by
  have HT := hide (fun W' (hb : Below W.heap.size W W') => specTagAt_gen x p u0 u1 u4 u5 q W' (h0.atI hb) (h1.atI hb) (h4.atI hb) (h5.atI hb) (hq.atI hb) hsz ok)
  have HA := hide (fun W' (hb : Below W.heap.size W W') => specHead_gen r.hs ifN h W' (hh.atI hb))
  have HB := hide (fun W' (hb : Below W.heap.size W W') => specHead_gen r.hs matchN h W' (hh.atI hb))
  have HC := hide (fun W' (hb : Below W.heap.size W W') => specHead_gen r.hs noneN h W' (hh.atI hb))
  have HI := hide (fun W' => specParseIf_gen (ifV r).1 W' (Nat.le_trans (head_size ifN (req_sz hr)) (by decide)))
  have HK := hide (fun W' (hb : Below W.heap.size W W') => specTokens_gen x.l p u1 q W' (h1.atI hb) (hq.atI hb) (sv_small hsz).l)
  have htl : (tokL x.l p).length ≤ 1048576 := by
    unfold tokL
    rw [List.length_map]
    exact Nat.le_trans (List.length_filter_le _ _) (sv_small hsz).llen
  have HE := hide (fun W' (a b : Value) (hv : View W' W'.heap.size a (.l ((ifLs (ifV r).1).map dCs))) (hq : View W' W'.heap.size b (.l ((tokL x.l p).map dI))) => specEval_gen (ifLs (ifV r).1) (tokL x.l p) (tagAtT x p) a b W' hv hq (if_small _) htl)
  have HM := hide (fun W' => specMatchOk_any (hdOf r.hs matchN).1 (tagAtT x p) (tagAtB x p) W' (head_size matchN (req_sz hr)))
  have HN := hide (fun W' => specNoneOk_any (hdOf r.hs noneN).1 (tagAtT x p) (tagAtB x p) W' (head_size noneN (req_sz hr)))
  unfold whenI cIf cMat cNon
  have hif : hdOf r.hs ifN = ifV r := rfl
  rw [hif] at HA
  have f0 := eq_GET r.m
  have f1 := eq_HEAD r.m
  generalize decide (r.m = mGET) = b0 at *
  generalize decide (r.m = mHEAD) = b1 at *
  obtain ⟨cc, hcc⟩ : ∃ cc : Int, (if (b0 || b1) = true then 304 else 412) = cc := ⟨_, rfl⟩
  rw [hcc]
  have HCC := hide hcc.symm
  clear hcc
  generalize evalI (ifLs (ifV r).1) (tokL x.l p) (tagAtT x p) = z1 at *
  generalize ifLs (ifV r).1 = ls at *
  generalize (ifL (ifV r).1.data.toList).isSome = iq at *
  generalize (ifV r).1 = v1 at *
  generalize (ifV r).2 = t1 at *
  generalize (tagAtB x p && namB (hdOf r.hs matchN).1.data.toList (tagAtT x p)) = z2 at *
  generalize (!tagAtB x p || !namB (hdOf r.hs noneN).1.data.toList (tagAtT x p)) = z3 at *
  generalize (hdOf r.hs matchN).1 = v2 at *
  generalize (hdOf r.hs matchN).2 = t2 at *
  generalize (hdOf r.hs noneN).1 = v3 at *
  generalize (hdOf r.hs noneN).2 = t3 at *
  generalize tagAtT x p = tt at *
  generalize tagAtB x p = tb at *
  unfold ifN at HA
  unfold matchN at HB
  unfold noneN at HC
  have KA := hide (show Below W.heap.size W (W.alloc (Obj.cells #[u0, u1, .int .i64 x.now, .int .i64 x.ver, u4, u5] 39)) from (Below.refl _ _).alloc (Nat.le_refl _) _)
  obtain ⟨w0, hw0⟩ : ∃ w', (W.alloc (Obj.cells #[u0, u1, .int .i64 x.now, .int .i64 x.ver, u4, u5] 39)).alloc (Obj.cells #[.string r.m, .string r.p, h, .string r.b] 43) = w' := ⟨_, rfl⟩
  have K0 := hide (show Below W.heap.size W w0 by rw [← hw0]; exact KA.out.alloc (by simp) _)
  have y0 : w0.heap.size = W.heap.size + 2 := by rw [← hw0]; simp
  have S_0 := hide (show BoxV w0 W.heap.size [u0, u1, .int .i64 x.now, .int .i64 x.ver, u4, u5] by rw [← hw0]; exact (BoxV.made W [u0, u1, .int .i64 x.now, .int .i64 x.ver, u4, u5] 39).alloc _)
  have X_0 := hide (show BoxV w0 (W.heap.size + 1) [.string r.m, .string r.p, h, .string r.b] by rw [← hw0]; have h := BoxV.made (W.alloc (Obj.cells #[u0, u1, .int .i64 x.now, .int .i64 x.ver, u4, u5] 39)) [.string r.m, .string r.p, h, .string r.b] 43; simpa using h)
  clear KA hh hr h0 h1 h4 h5 hsz ok hq htl hif
  cases t1
  · cases t2
    · cases t3
      · have cS0_0 := (S_0.out.2 0 _ rfl).1
        have cS1_0 := (S_0.out.2 1 _ rfl).1
        have cS2_0 := (S_0.out.2 2 _ rfl).1
        have cS3_0 := (S_0.out.2 3 _ rfl).1
        have cS4_0 := (S_0.out.2 4 _ rfl).1
        have cS5_0 := (S_0.out.2 5 _ rfl).1
        go_enter Tryz.func24, Tryz.ntmps24
        go_wp2_with fail
        refine (HT.out _ K0.out).mono ?_
        rintro e w1 ⟨rfl, b1⟩
        clear cS0_0 cS1_0 cS2_0 cS3_0 cS4_0 cS5_0 hw0
        have K1 := hide (K0.out.trans (b1.mono K0.out.size))
        have y1 := b1.size
        have S_1 := hide (S_0.out.next b1)
        have X_1 := hide (X_0.out.next b1)
        clear S_0 X_0
        clear b1
        have cX2_1 := (X_1.out.2 2 _ rfl).1
        go_wp2_with fail
        refine (HA.out _ K1.out).mono ?_
        rintro e w2 ⟨rfl, b2⟩
        clear cX2_1
        have K2 := hide (K1.out.trans (b2.mono K1.out.size))
        have y2 := b2.size
        have S_2 := hide (S_1.out.next b2)
        have X_2 := hide (X_1.out.next b2)
        clear S_1 X_1
        clear b2
        have cX2_2 := (X_2.out.2 2 _ rfl).1
        go_wp2_with fail
        refine (HB.out _ K2.out).mono ?_
        rintro e w3 ⟨rfl, b3⟩
        clear cX2_2
        have K3 := hide (K2.out.trans (b3.mono K2.out.size))
        have y3 := b3.size
        have S_3 := hide (S_2.out.next b3)
        have X_3 := hide (X_2.out.next b3)
        clear S_2 X_2
        clear b3
        have cX2_3 := (X_3.out.2 2 _ rfl).1
        go_wp2_with fail
        refine (HC.out _ K3.out).mono ?_
        rintro e w4 ⟨rfl, b4⟩
        clear cX2_3
        have K4 := hide (K3.out.trans (b4.mono K3.out.size))
        have y4 := b4.size
        have S_4 := hide (S_3.out.next b4)
        have X_4 := hide (X_3.out.next b4)
        clear S_3 X_3
        clear b4
        go_wp2
        go_ret
        exact ⟨rfl, K4.out⟩
      · cases z3
        · cases b0
          · cases b1
            · have hcc : cc = 412 := by have h := HCC.out; simpa using h
              subst hcc
              clear HCC
              have cS0_0 := (S_0.out.2 0 _ rfl).1
              have cS1_0 := (S_0.out.2 1 _ rfl).1
              have cS2_0 := (S_0.out.2 2 _ rfl).1
              have cS3_0 := (S_0.out.2 3 _ rfl).1
              have cS4_0 := (S_0.out.2 4 _ rfl).1
              have cS5_0 := (S_0.out.2 5 _ rfl).1
              go_enter Tryz.func24, Tryz.ntmps24
              go_wp2_with fail
              refine (HT.out _ K0.out).mono ?_
              rintro e w1 ⟨rfl, b1⟩
              clear cS0_0 cS1_0 cS2_0 cS3_0 cS4_0 cS5_0 hw0
              have K1 := hide (K0.out.trans (b1.mono K0.out.size))
              have y1 := b1.size
              have S_1 := hide (S_0.out.next b1)
              have X_1 := hide (X_0.out.next b1)
              clear S_0 X_0
              clear b1
              have cX2_1 := (X_1.out.2 2 _ rfl).1
              go_wp2_with fail
              refine (HA.out _ K1.out).mono ?_
              rintro e w2 ⟨rfl, b2⟩
              clear cX2_1
              have K2 := hide (K1.out.trans (b2.mono K1.out.size))
              have y2 := b2.size
              have S_2 := hide (S_1.out.next b2)
              have X_2 := hide (X_1.out.next b2)
              clear S_1 X_1
              clear b2
              have cX2_2 := (X_2.out.2 2 _ rfl).1
              go_wp2_with fail
              refine (HB.out _ K2.out).mono ?_
              rintro e w3 ⟨rfl, b3⟩
              clear cX2_2
              have K3 := hide (K2.out.trans (b3.mono K2.out.size))
              have y3 := b3.size
              have S_3 := hide (S_2.out.next b3)
              have X_3 := hide (X_2.out.next b3)
              clear S_2 X_2
              clear b3
              have cX2_3 := (X_3.out.2 2 _ rfl).1
              go_wp2_with fail
              refine (HC.out _ K3.out).mono ?_
              rintro e w4 ⟨rfl, b4⟩
              clear cX2_3
              have K4 := hide (K3.out.trans (b4.mono K3.out.size))
              have y4 := b4.size
              have S_4 := hide (S_3.out.next b4)
              have X_4 := hide (X_3.out.next b4)
              clear S_3 X_3
              clear b4
              go_wp2_with fail
              refine (HN.out _).mono ?_
              rintro e w5 ⟨rfl, b5⟩
              have K5 := hide (K4.out.trans (b5.mono K4.out.size))
              have y5 := b5.size
              have S_5 := hide (S_4.out.next b5)
              have X_5 := hide (X_4.out.next b5)
              clear S_4 X_4
              clear b5
              have cX0_5 := (X_5.out.2 0 _ rfl).1
              go_wp2
              go_ret
              exact ⟨rfl, K5.out⟩
            · have hcc : cc = 304 := by have h := HCC.out; simpa using h
              subst hcc
              clear HCC
              have cS0_0 := (S_0.out.2 0 _ rfl).1
              have cS1_0 := (S_0.out.2 1 _ rfl).1
              have cS2_0 := (S_0.out.2 2 _ rfl).1
              have cS3_0 := (S_0.out.2 3 _ rfl).1
              have cS4_0 := (S_0.out.2 4 _ rfl).1
              have cS5_0 := (S_0.out.2 5 _ rfl).1
              go_enter Tryz.func24, Tryz.ntmps24
              go_wp2_with fail
              refine (HT.out _ K0.out).mono ?_
              rintro e w1 ⟨rfl, b1⟩
              clear cS0_0 cS1_0 cS2_0 cS3_0 cS4_0 cS5_0 hw0
              have K1 := hide (K0.out.trans (b1.mono K0.out.size))
              have y1 := b1.size
              have S_1 := hide (S_0.out.next b1)
              have X_1 := hide (X_0.out.next b1)
              clear S_0 X_0
              clear b1
              have cX2_1 := (X_1.out.2 2 _ rfl).1
              go_wp2_with fail
              refine (HA.out _ K1.out).mono ?_
              rintro e w2 ⟨rfl, b2⟩
              clear cX2_1
              have K2 := hide (K1.out.trans (b2.mono K1.out.size))
              have y2 := b2.size
              have S_2 := hide (S_1.out.next b2)
              have X_2 := hide (X_1.out.next b2)
              clear S_1 X_1
              clear b2
              have cX2_2 := (X_2.out.2 2 _ rfl).1
              go_wp2_with fail
              refine (HB.out _ K2.out).mono ?_
              rintro e w3 ⟨rfl, b3⟩
              clear cX2_2
              have K3 := hide (K2.out.trans (b3.mono K2.out.size))
              have y3 := b3.size
              have S_3 := hide (S_2.out.next b3)
              have X_3 := hide (X_2.out.next b3)
              clear S_2 X_2
              clear b3
              have cX2_3 := (X_3.out.2 2 _ rfl).1
              go_wp2_with fail
              refine (HC.out _ K3.out).mono ?_
              rintro e w4 ⟨rfl, b4⟩
              clear cX2_3
              have K4 := hide (K3.out.trans (b4.mono K3.out.size))
              have y4 := b4.size
              have S_4 := hide (S_3.out.next b4)
              have X_4 := hide (X_3.out.next b4)
              clear S_3 X_3
              clear b4
              go_wp2_with fail
              refine (HN.out _).mono ?_
              rintro e w5 ⟨rfl, b5⟩
              have K5 := hide (K4.out.trans (b5.mono K4.out.size))
              have y5 := b5.size
              have S_5 := hide (S_4.out.next b5)
              have X_5 := hide (X_4.out.next b5)
              clear S_4 X_4
              clear b5
              have cX0_5 := (X_5.out.2 0 _ rfl).1
              go_wp2
              go_ret
              exact ⟨rfl, K5.out⟩
          · have hcc : cc = 304 := by have h := HCC.out; simpa using h
            subst hcc
            clear HCC
            have cS0_0 := (S_0.out.2 0 _ rfl).1
            have cS1_0 := (S_0.out.2 1 _ rfl).1
            have cS2_0 := (S_0.out.2 2 _ rfl).1
            have cS3_0 := (S_0.out.2 3 _ rfl).1
            have cS4_0 := (S_0.out.2 4 _ rfl).1
            have cS5_0 := (S_0.out.2 5 _ rfl).1
            go_enter Tryz.func24, Tryz.ntmps24
            go_wp2_with fail
            refine (HT.out _ K0.out).mono ?_
            rintro e w1 ⟨rfl, b1⟩
            clear cS0_0 cS1_0 cS2_0 cS3_0 cS4_0 cS5_0 hw0
            have K1 := hide (K0.out.trans (b1.mono K0.out.size))
            have y1 := b1.size
            have S_1 := hide (S_0.out.next b1)
            have X_1 := hide (X_0.out.next b1)
            clear S_0 X_0
            clear b1
            have cX2_1 := (X_1.out.2 2 _ rfl).1
            go_wp2_with fail
            refine (HA.out _ K1.out).mono ?_
            rintro e w2 ⟨rfl, b2⟩
            clear cX2_1
            have K2 := hide (K1.out.trans (b2.mono K1.out.size))
            have y2 := b2.size
            have S_2 := hide (S_1.out.next b2)
            have X_2 := hide (X_1.out.next b2)
            clear S_1 X_1
            clear b2
            have cX2_2 := (X_2.out.2 2 _ rfl).1
            go_wp2_with fail
            refine (HB.out _ K2.out).mono ?_
            rintro e w3 ⟨rfl, b3⟩
            clear cX2_2
            have K3 := hide (K2.out.trans (b3.mono K2.out.size))
            have y3 := b3.size
            have S_3 := hide (S_2.out.next b3)
            have X_3 := hide (X_2.out.next b3)
            clear S_2 X_2
            clear b3
            have cX2_3 := (X_3.out.2 2 _ rfl).1
            go_wp2_with fail
            refine (HC.out _ K3.out).mono ?_
            rintro e w4 ⟨rfl, b4⟩
            clear cX2_3
            have K4 := hide (K3.out.trans (b4.mono K3.out.size))
            have y4 := b4.size
            have S_4 := hide (S_3.out.next b4)
            have X_4 := hide (X_3.out.next b4)
            clear S_3 X_3
            clear b4
            go_wp2_with fail
            refine (HN.out _).mono ?_
            rintro e w5 ⟨rfl, b5⟩
            have K5 := hide (K4.out.trans (b5.mono K4.out.size))
            have y5 := b5.size
            have S_5 := hide (S_4.out.next b5)
            have X_5 := hide (X_4.out.next b5)
            clear S_4 X_4
            clear b5
            have cX0_5 := (X_5.out.2 0 _ rfl).1
            go_wp2
            go_ret
            exact ⟨rfl, K5.out⟩
        · have cS0_0 := (S_0.out.2 0 _ rfl).1
          have cS1_0 := (S_0.out.2 1 _ rfl).1
          have cS2_0 := (S_0.out.2 2 _ rfl).1
          have cS3_0 := (S_0.out.2 3 _ rfl).1
          have cS4_0 := (S_0.out.2 4 _ rfl).1
          have cS5_0 := (S_0.out.2 5 _ rfl).1
          go_enter Tryz.func24, Tryz.ntmps24
          go_wp2_with fail
          refine (HT.out _ K0.out).mono ?_
          rintro e w1 ⟨rfl, b1⟩
          clear cS0_0 cS1_0 cS2_0 cS3_0 cS4_0 cS5_0 hw0
          have K1 := hide (K0.out.trans (b1.mono K0.out.size))
          have y1 := b1.size
          have S_1 := hide (S_0.out.next b1)
          have X_1 := hide (X_0.out.next b1)
          clear S_0 X_0
          clear b1
          have cX2_1 := (X_1.out.2 2 _ rfl).1
          go_wp2_with fail
          refine (HA.out _ K1.out).mono ?_
          rintro e w2 ⟨rfl, b2⟩
          clear cX2_1
          have K2 := hide (K1.out.trans (b2.mono K1.out.size))
          have y2 := b2.size
          have S_2 := hide (S_1.out.next b2)
          have X_2 := hide (X_1.out.next b2)
          clear S_1 X_1
          clear b2
          have cX2_2 := (X_2.out.2 2 _ rfl).1
          go_wp2_with fail
          refine (HB.out _ K2.out).mono ?_
          rintro e w3 ⟨rfl, b3⟩
          clear cX2_2
          have K3 := hide (K2.out.trans (b3.mono K2.out.size))
          have y3 := b3.size
          have S_3 := hide (S_2.out.next b3)
          have X_3 := hide (X_2.out.next b3)
          clear S_2 X_2
          clear b3
          have cX2_3 := (X_3.out.2 2 _ rfl).1
          go_wp2_with fail
          refine (HC.out _ K3.out).mono ?_
          rintro e w4 ⟨rfl, b4⟩
          clear cX2_3
          have K4 := hide (K3.out.trans (b4.mono K3.out.size))
          have y4 := b4.size
          have S_4 := hide (S_3.out.next b4)
          have X_4 := hide (X_3.out.next b4)
          clear S_3 X_3
          clear b4
          go_wp2_with fail
          refine (HN.out _).mono ?_
          rintro e w5 ⟨rfl, b5⟩
          have K5 := hide (K4.out.trans (b5.mono K4.out.size))
          have y5 := b5.size
          have S_5 := hide (S_4.out.next b5)
          have X_5 := hide (X_4.out.next b5)
          clear S_4 X_4
          clear b5
          go_wp2
          go_ret
          exact ⟨rfl, K5.out⟩
    · cases z2
      · have cS0_0 := (S_0.out.2 0 _ rfl).1
        have cS1_0 := (S_0.out.2 1 _ rfl).1
        have cS2_0 := (S_0.out.2 2 _ rfl).1
        have cS3_0 := (S_0.out.2 3 _ rfl).1
        have cS4_0 := (S_0.out.2 4 _ rfl).1
        have cS5_0 := (S_0.out.2 5 _ rfl).1
        go_enter Tryz.func24, Tryz.ntmps24
        go_wp2_with fail
        refine (HT.out _ K0.out).mono ?_
        rintro e w1 ⟨rfl, b1⟩
        clear cS0_0 cS1_0 cS2_0 cS3_0 cS4_0 cS5_0 hw0
        have K1 := hide (K0.out.trans (b1.mono K0.out.size))
        have y1 := b1.size
        have S_1 := hide (S_0.out.next b1)
        have X_1 := hide (X_0.out.next b1)
        clear S_0 X_0
        clear b1
        have cX2_1 := (X_1.out.2 2 _ rfl).1
        go_wp2_with fail
        refine (HA.out _ K1.out).mono ?_
        rintro e w2 ⟨rfl, b2⟩
        clear cX2_1
        have K2 := hide (K1.out.trans (b2.mono K1.out.size))
        have y2 := b2.size
        have S_2 := hide (S_1.out.next b2)
        have X_2 := hide (X_1.out.next b2)
        clear S_1 X_1
        clear b2
        have cX2_2 := (X_2.out.2 2 _ rfl).1
        go_wp2_with fail
        refine (HB.out _ K2.out).mono ?_
        rintro e w3 ⟨rfl, b3⟩
        clear cX2_2
        have K3 := hide (K2.out.trans (b3.mono K2.out.size))
        have y3 := b3.size
        have S_3 := hide (S_2.out.next b3)
        have X_3 := hide (X_2.out.next b3)
        clear S_2 X_2
        clear b3
        go_wp2_with fail
        refine (HM.out _).mono ?_
        rintro e w4 ⟨rfl, b4⟩
        have K4 := hide (K3.out.trans (b4.mono K3.out.size))
        have y4 := b4.size
        have S_4 := hide (S_3.out.next b4)
        have X_4 := hide (X_3.out.next b4)
        clear S_3 X_3
        clear b4
        go_wp2
        go_ret
        exact ⟨rfl, K4.out⟩
      · cases t3
        · have cS0_0 := (S_0.out.2 0 _ rfl).1
          have cS1_0 := (S_0.out.2 1 _ rfl).1
          have cS2_0 := (S_0.out.2 2 _ rfl).1
          have cS3_0 := (S_0.out.2 3 _ rfl).1
          have cS4_0 := (S_0.out.2 4 _ rfl).1
          have cS5_0 := (S_0.out.2 5 _ rfl).1
          go_enter Tryz.func24, Tryz.ntmps24
          go_wp2_with fail
          refine (HT.out _ K0.out).mono ?_
          rintro e w1 ⟨rfl, b1⟩
          clear cS0_0 cS1_0 cS2_0 cS3_0 cS4_0 cS5_0 hw0
          have K1 := hide (K0.out.trans (b1.mono K0.out.size))
          have y1 := b1.size
          have S_1 := hide (S_0.out.next b1)
          have X_1 := hide (X_0.out.next b1)
          clear S_0 X_0
          clear b1
          have cX2_1 := (X_1.out.2 2 _ rfl).1
          go_wp2_with fail
          refine (HA.out _ K1.out).mono ?_
          rintro e w2 ⟨rfl, b2⟩
          clear cX2_1
          have K2 := hide (K1.out.trans (b2.mono K1.out.size))
          have y2 := b2.size
          have S_2 := hide (S_1.out.next b2)
          have X_2 := hide (X_1.out.next b2)
          clear S_1 X_1
          clear b2
          have cX2_2 := (X_2.out.2 2 _ rfl).1
          go_wp2_with fail
          refine (HB.out _ K2.out).mono ?_
          rintro e w3 ⟨rfl, b3⟩
          clear cX2_2
          have K3 := hide (K2.out.trans (b3.mono K2.out.size))
          have y3 := b3.size
          have S_3 := hide (S_2.out.next b3)
          have X_3 := hide (X_2.out.next b3)
          clear S_2 X_2
          clear b3
          go_wp2_with fail
          refine (HM.out _).mono ?_
          rintro e w4 ⟨rfl, b4⟩
          have K4 := hide (K3.out.trans (b4.mono K3.out.size))
          have y4 := b4.size
          have S_4 := hide (S_3.out.next b4)
          have X_4 := hide (X_3.out.next b4)
          clear S_3 X_3
          clear b4
          have cX2_4 := (X_4.out.2 2 _ rfl).1
          go_wp2_with fail
          refine (HC.out _ K4.out).mono ?_
          rintro e w5 ⟨rfl, b5⟩
          clear cX2_4
          have K5 := hide (K4.out.trans (b5.mono K4.out.size))
          have y5 := b5.size
          have S_5 := hide (S_4.out.next b5)
          have X_5 := hide (X_4.out.next b5)
          clear S_4 X_4
          clear b5
          go_wp2
          go_ret
          exact ⟨rfl, K5.out⟩
        · cases z3
          · cases b0
            · cases b1
              · have hcc : cc = 412 := by have h := HCC.out; simpa using h
                subst hcc
                clear HCC
                have cS0_0 := (S_0.out.2 0 _ rfl).1
                have cS1_0 := (S_0.out.2 1 _ rfl).1
                have cS2_0 := (S_0.out.2 2 _ rfl).1
                have cS3_0 := (S_0.out.2 3 _ rfl).1
                have cS4_0 := (S_0.out.2 4 _ rfl).1
                have cS5_0 := (S_0.out.2 5 _ rfl).1
                go_enter Tryz.func24, Tryz.ntmps24
                go_wp2_with fail
                refine (HT.out _ K0.out).mono ?_
                rintro e w1 ⟨rfl, b1⟩
                clear cS0_0 cS1_0 cS2_0 cS3_0 cS4_0 cS5_0 hw0
                have K1 := hide (K0.out.trans (b1.mono K0.out.size))
                have y1 := b1.size
                have S_1 := hide (S_0.out.next b1)
                have X_1 := hide (X_0.out.next b1)
                clear S_0 X_0
                clear b1
                have cX2_1 := (X_1.out.2 2 _ rfl).1
                go_wp2_with fail
                refine (HA.out _ K1.out).mono ?_
                rintro e w2 ⟨rfl, b2⟩
                clear cX2_1
                have K2 := hide (K1.out.trans (b2.mono K1.out.size))
                have y2 := b2.size
                have S_2 := hide (S_1.out.next b2)
                have X_2 := hide (X_1.out.next b2)
                clear S_1 X_1
                clear b2
                have cX2_2 := (X_2.out.2 2 _ rfl).1
                go_wp2_with fail
                refine (HB.out _ K2.out).mono ?_
                rintro e w3 ⟨rfl, b3⟩
                clear cX2_2
                have K3 := hide (K2.out.trans (b3.mono K2.out.size))
                have y3 := b3.size
                have S_3 := hide (S_2.out.next b3)
                have X_3 := hide (X_2.out.next b3)
                clear S_2 X_2
                clear b3
                go_wp2_with fail
                refine (HM.out _).mono ?_
                rintro e w4 ⟨rfl, b4⟩
                have K4 := hide (K3.out.trans (b4.mono K3.out.size))
                have y4 := b4.size
                have S_4 := hide (S_3.out.next b4)
                have X_4 := hide (X_3.out.next b4)
                clear S_3 X_3
                clear b4
                have cX2_4 := (X_4.out.2 2 _ rfl).1
                go_wp2_with fail
                refine (HC.out _ K4.out).mono ?_
                rintro e w5 ⟨rfl, b5⟩
                clear cX2_4
                have K5 := hide (K4.out.trans (b5.mono K4.out.size))
                have y5 := b5.size
                have S_5 := hide (S_4.out.next b5)
                have X_5 := hide (X_4.out.next b5)
                clear S_4 X_4
                clear b5
                go_wp2_with fail
                refine (HN.out _).mono ?_
                rintro e w6 ⟨rfl, b6⟩
                have K6 := hide (K5.out.trans (b6.mono K5.out.size))
                have y6 := b6.size
                have S_6 := hide (S_5.out.next b6)
                have X_6 := hide (X_5.out.next b6)
                clear S_5 X_5
                clear b6
                have cX0_6 := (X_6.out.2 0 _ rfl).1
                go_wp2
                go_ret
                exact ⟨rfl, K6.out⟩
              · have hcc : cc = 304 := by have h := HCC.out; simpa using h
                subst hcc
                clear HCC
                have cS0_0 := (S_0.out.2 0 _ rfl).1
                have cS1_0 := (S_0.out.2 1 _ rfl).1
                have cS2_0 := (S_0.out.2 2 _ rfl).1
                have cS3_0 := (S_0.out.2 3 _ rfl).1
                have cS4_0 := (S_0.out.2 4 _ rfl).1
                have cS5_0 := (S_0.out.2 5 _ rfl).1
                go_enter Tryz.func24, Tryz.ntmps24
                go_wp2_with fail
                refine (HT.out _ K0.out).mono ?_
                rintro e w1 ⟨rfl, b1⟩
                clear cS0_0 cS1_0 cS2_0 cS3_0 cS4_0 cS5_0 hw0
                have K1 := hide (K0.out.trans (b1.mono K0.out.size))
                have y1 := b1.size
                have S_1 := hide (S_0.out.next b1)
                have X_1 := hide (X_0.out.next b1)
                clear S_0 X_0
                clear b1
                have cX2_1 := (X_1.out.2 2 _ rfl).1
                go_wp2_with fail
                refine (HA.out _ K1.out).mono ?_
                rintro e w2 ⟨rfl, b2⟩
                clear cX2_1
                have K2 := hide (K1.out.trans (b2.mono K1.out.size))
                have y2 := b2.size
                have S_2 := hide (S_1.out.next b2)
                have X_2 := hide (X_1.out.next b2)
                clear S_1 X_1
                clear b2
                have cX2_2 := (X_2.out.2 2 _ rfl).1
                go_wp2_with fail
                refine (HB.out _ K2.out).mono ?_
                rintro e w3 ⟨rfl, b3⟩
                clear cX2_2
                have K3 := hide (K2.out.trans (b3.mono K2.out.size))
                have y3 := b3.size
                have S_3 := hide (S_2.out.next b3)
                have X_3 := hide (X_2.out.next b3)
                clear S_2 X_2
                clear b3
                go_wp2_with fail
                refine (HM.out _).mono ?_
                rintro e w4 ⟨rfl, b4⟩
                have K4 := hide (K3.out.trans (b4.mono K3.out.size))
                have y4 := b4.size
                have S_4 := hide (S_3.out.next b4)
                have X_4 := hide (X_3.out.next b4)
                clear S_3 X_3
                clear b4
                have cX2_4 := (X_4.out.2 2 _ rfl).1
                go_wp2_with fail
                refine (HC.out _ K4.out).mono ?_
                rintro e w5 ⟨rfl, b5⟩
                clear cX2_4
                have K5 := hide (K4.out.trans (b5.mono K4.out.size))
                have y5 := b5.size
                have S_5 := hide (S_4.out.next b5)
                have X_5 := hide (X_4.out.next b5)
                clear S_4 X_4
                clear b5
                go_wp2_with fail
                refine (HN.out _).mono ?_
                rintro e w6 ⟨rfl, b6⟩
                have K6 := hide (K5.out.trans (b6.mono K5.out.size))
                have y6 := b6.size
                have S_6 := hide (S_5.out.next b6)
                have X_6 := hide (X_5.out.next b6)
                clear S_5 X_5
                clear b6
                have cX0_6 := (X_6.out.2 0 _ rfl).1
                go_wp2
                go_ret
                exact ⟨rfl, K6.out⟩
            · have hcc : cc = 304 := by have h := HCC.out; simpa using h
              subst hcc
              clear HCC
              have cS0_0 := (S_0.out.2 0 _ rfl).1
              have cS1_0 := (S_0.out.2 1 _ rfl).1
              have cS2_0 := (S_0.out.2 2 _ rfl).1
              have cS3_0 := (S_0.out.2 3 _ rfl).1
              have cS4_0 := (S_0.out.2 4 _ rfl).1
              have cS5_0 := (S_0.out.2 5 _ rfl).1
              go_enter Tryz.func24, Tryz.ntmps24
              go_wp2_with fail
              refine (HT.out _ K0.out).mono ?_
              rintro e w1 ⟨rfl, b1⟩
              clear cS0_0 cS1_0 cS2_0 cS3_0 cS4_0 cS5_0 hw0
              have K1 := hide (K0.out.trans (b1.mono K0.out.size))
              have y1 := b1.size
              have S_1 := hide (S_0.out.next b1)
              have X_1 := hide (X_0.out.next b1)
              clear S_0 X_0
              clear b1
              have cX2_1 := (X_1.out.2 2 _ rfl).1
              go_wp2_with fail
              refine (HA.out _ K1.out).mono ?_
              rintro e w2 ⟨rfl, b2⟩
              clear cX2_1
              have K2 := hide (K1.out.trans (b2.mono K1.out.size))
              have y2 := b2.size
              have S_2 := hide (S_1.out.next b2)
              have X_2 := hide (X_1.out.next b2)
              clear S_1 X_1
              clear b2
              have cX2_2 := (X_2.out.2 2 _ rfl).1
              go_wp2_with fail
              refine (HB.out _ K2.out).mono ?_
              rintro e w3 ⟨rfl, b3⟩
              clear cX2_2
              have K3 := hide (K2.out.trans (b3.mono K2.out.size))
              have y3 := b3.size
              have S_3 := hide (S_2.out.next b3)
              have X_3 := hide (X_2.out.next b3)
              clear S_2 X_2
              clear b3
              go_wp2_with fail
              refine (HM.out _).mono ?_
              rintro e w4 ⟨rfl, b4⟩
              have K4 := hide (K3.out.trans (b4.mono K3.out.size))
              have y4 := b4.size
              have S_4 := hide (S_3.out.next b4)
              have X_4 := hide (X_3.out.next b4)
              clear S_3 X_3
              clear b4
              have cX2_4 := (X_4.out.2 2 _ rfl).1
              go_wp2_with fail
              refine (HC.out _ K4.out).mono ?_
              rintro e w5 ⟨rfl, b5⟩
              clear cX2_4
              have K5 := hide (K4.out.trans (b5.mono K4.out.size))
              have y5 := b5.size
              have S_5 := hide (S_4.out.next b5)
              have X_5 := hide (X_4.out.next b5)
              clear S_4 X_4
              clear b5
              go_wp2_with fail
              refine (HN.out _).mono ?_
              rintro e w6 ⟨rfl, b6⟩
              have K6 := hide (K5.out.trans (b6.mono K5.out.size))
              have y6 := b6.size
              have S_6 := hide (S_5.out.next b6)
              have X_6 := hide (X_5.out.next b6)
              clear S_5 X_5
              clear b6
              have cX0_6 := (X_6.out.2 0 _ rfl).1
              go_wp2
              go_ret
              exact ⟨rfl, K6.out⟩
          · have cS0_0 := (S_0.out.2 0 _ rfl).1
            have cS1_0 := (S_0.out.2 1 _ rfl).1
            have cS2_0 := (S_0.out.2 2 _ rfl).1
            have cS3_0 := (S_0.out.2 3 _ rfl).1
            have cS4_0 := (S_0.out.2 4 _ rfl).1
            have cS5_0 := (S_0.out.2 5 _ rfl).1
            go_enter Tryz.func24, Tryz.ntmps24
            go_wp2_with fail
            refine (HT.out _ K0.out).mono ?_
            rintro e w1 ⟨rfl, b1⟩
            clear cS0_0 cS1_0 cS2_0 cS3_0 cS4_0 cS5_0 hw0
            have K1 := hide (K0.out.trans (b1.mono K0.out.size))
            have y1 := b1.size
            have S_1 := hide (S_0.out.next b1)
            have X_1 := hide (X_0.out.next b1)
            clear S_0 X_0
            clear b1
            have cX2_1 := (X_1.out.2 2 _ rfl).1
            go_wp2_with fail
            refine (HA.out _ K1.out).mono ?_
            rintro e w2 ⟨rfl, b2⟩
            clear cX2_1
            have K2 := hide (K1.out.trans (b2.mono K1.out.size))
            have y2 := b2.size
            have S_2 := hide (S_1.out.next b2)
            have X_2 := hide (X_1.out.next b2)
            clear S_1 X_1
            clear b2
            have cX2_2 := (X_2.out.2 2 _ rfl).1
            go_wp2_with fail
            refine (HB.out _ K2.out).mono ?_
            rintro e w3 ⟨rfl, b3⟩
            clear cX2_2
            have K3 := hide (K2.out.trans (b3.mono K2.out.size))
            have y3 := b3.size
            have S_3 := hide (S_2.out.next b3)
            have X_3 := hide (X_2.out.next b3)
            clear S_2 X_2
            clear b3
            go_wp2_with fail
            refine (HM.out _).mono ?_
            rintro e w4 ⟨rfl, b4⟩
            have K4 := hide (K3.out.trans (b4.mono K3.out.size))
            have y4 := b4.size
            have S_4 := hide (S_3.out.next b4)
            have X_4 := hide (X_3.out.next b4)
            clear S_3 X_3
            clear b4
            have cX2_4 := (X_4.out.2 2 _ rfl).1
            go_wp2_with fail
            refine (HC.out _ K4.out).mono ?_
            rintro e w5 ⟨rfl, b5⟩
            clear cX2_4
            have K5 := hide (K4.out.trans (b5.mono K4.out.size))
            have y5 := b5.size
            have S_5 := hide (S_4.out.next b5)
            have X_5 := hide (X_4.out.next b5)
            clear S_4 X_4
            clear b5
            go_wp2_with fail
            refine (HN.out _).mono ?_
            rintro e w6 ⟨rfl, b6⟩
            have K6 := hide (K5.out.trans (b6.mono K5.out.size))
            have y6 := b6.size
            have S_6 := hide (S_5.out.next b6)
            have X_6 := hide (X_5.out.next b6)
            clear S_5 X_5
            clear b6
            go_wp2
            go_ret
            exact ⟨rfl, K6.out⟩
  · cases z1
    · have cS0_0 := (S_0.out.2 0 _ rfl).1
      have cS1_0 := (S_0.out.2 1 _ rfl).1
      have cS2_0 := (S_0.out.2 2 _ rfl).1
      have cS3_0 := (S_0.out.2 3 _ rfl).1
      have cS4_0 := (S_0.out.2 4 _ rfl).1
      have cS5_0 := (S_0.out.2 5 _ rfl).1
      go_enter Tryz.func24, Tryz.ntmps24
      go_wp2_with fail
      refine (HT.out _ K0.out).mono ?_
      rintro e w1 ⟨rfl, b1⟩
      clear cS0_0 cS1_0 cS2_0 cS3_0 cS4_0 cS5_0 hw0
      have K1 := hide (K0.out.trans (b1.mono K0.out.size))
      have y1 := b1.size
      have S_1 := hide (S_0.out.next b1)
      have X_1 := hide (X_0.out.next b1)
      clear S_0 X_0
      clear b1
      have cX2_1 := (X_1.out.2 2 _ rfl).1
      go_wp2_with fail
      refine (HA.out _ K1.out).mono ?_
      rintro e w2 ⟨rfl, b2⟩
      clear cX2_1
      have K2 := hide (K1.out.trans (b2.mono K1.out.size))
      have y2 := b2.size
      have S_2 := hide (S_1.out.next b2)
      have X_2 := hide (X_1.out.next b2)
      clear S_1 X_1
      clear b2
      go_wp2_with fail
      refine (HI.out _).mono ?_
      rintro e w3 ⟨⟨lv, rfl, hv⟩, b3⟩
      have K3 := hide (K2.out.trans (b3.mono K2.out.size))
      have y3 := b3.size
      have S_3 := hide (S_2.out.next b3)
      have X_3 := hide (X_2.out.next b3)
      clear S_2 X_2
      have V_3 := hide hv
      clear hv
      clear b3
      have cS1_3 := (S_3.out.2 1 _ rfl).1
      go_wp2_with fail
      refine (HK.out _ K3.out).mono ?_
      rintro e w4 ⟨⟨tv, rfl, hv⟩, b4⟩
      clear cS1_3
      have K4 := hide (K3.out.trans (b4.mono K3.out.size))
      have y4 := b4.size
      have S_4 := hide (S_3.out.next b4)
      have X_4 := hide (X_3.out.next b4)
      clear S_3 X_3
      have V_4 := hide (V_3.out.atI b4)
      have U_4 := hide hv
      clear V_3 hv
      clear b4
      go_wp2_with fail
      refine (HE.out _ lv tv V_4.out U_4.out).mono ?_
      rintro e w5 ⟨rfl, b5⟩
      have K5 := hide (K4.out.trans (b5.mono K4.out.size))
      have y5 := b5.size
      have S_5 := hide (S_4.out.next b5)
      have X_5 := hide (X_4.out.next b5)
      clear S_4 X_4
      clear V_4 U_4
      clear b5
      go_wp2
      go_ret
      exact ⟨rfl, K5.out⟩
    · cases t2
      · cases t3
        · have cS0_0 := (S_0.out.2 0 _ rfl).1
          have cS1_0 := (S_0.out.2 1 _ rfl).1
          have cS2_0 := (S_0.out.2 2 _ rfl).1
          have cS3_0 := (S_0.out.2 3 _ rfl).1
          have cS4_0 := (S_0.out.2 4 _ rfl).1
          have cS5_0 := (S_0.out.2 5 _ rfl).1
          go_enter Tryz.func24, Tryz.ntmps24
          go_wp2_with fail
          refine (HT.out _ K0.out).mono ?_
          rintro e w1 ⟨rfl, b1⟩
          clear cS0_0 cS1_0 cS2_0 cS3_0 cS4_0 cS5_0 hw0
          have K1 := hide (K0.out.trans (b1.mono K0.out.size))
          have y1 := b1.size
          have S_1 := hide (S_0.out.next b1)
          have X_1 := hide (X_0.out.next b1)
          clear S_0 X_0
          clear b1
          have cX2_1 := (X_1.out.2 2 _ rfl).1
          go_wp2_with fail
          refine (HA.out _ K1.out).mono ?_
          rintro e w2 ⟨rfl, b2⟩
          clear cX2_1
          have K2 := hide (K1.out.trans (b2.mono K1.out.size))
          have y2 := b2.size
          have S_2 := hide (S_1.out.next b2)
          have X_2 := hide (X_1.out.next b2)
          clear S_1 X_1
          clear b2
          go_wp2_with fail
          refine (HI.out _).mono ?_
          rintro e w3 ⟨⟨lv, rfl, hv⟩, b3⟩
          have K3 := hide (K2.out.trans (b3.mono K2.out.size))
          have y3 := b3.size
          have S_3 := hide (S_2.out.next b3)
          have X_3 := hide (X_2.out.next b3)
          clear S_2 X_2
          have V_3 := hide hv
          clear hv
          clear b3
          have cS1_3 := (S_3.out.2 1 _ rfl).1
          go_wp2_with fail
          refine (HK.out _ K3.out).mono ?_
          rintro e w4 ⟨⟨tv, rfl, hv⟩, b4⟩
          clear cS1_3
          have K4 := hide (K3.out.trans (b4.mono K3.out.size))
          have y4 := b4.size
          have S_4 := hide (S_3.out.next b4)
          have X_4 := hide (X_3.out.next b4)
          clear S_3 X_3
          have V_4 := hide (V_3.out.atI b4)
          have U_4 := hide hv
          clear V_3 hv
          clear b4
          go_wp2_with fail
          refine (HE.out _ lv tv V_4.out U_4.out).mono ?_
          rintro e w5 ⟨rfl, b5⟩
          have K5 := hide (K4.out.trans (b5.mono K4.out.size))
          have y5 := b5.size
          have S_5 := hide (S_4.out.next b5)
          have X_5 := hide (X_4.out.next b5)
          clear S_4 X_4
          clear V_4 U_4
          clear b5
          have cX2_5 := (X_5.out.2 2 _ rfl).1
          go_wp2_with fail
          refine (HB.out _ K5.out).mono ?_
          rintro e w6 ⟨rfl, b6⟩
          clear cX2_5
          have K6 := hide (K5.out.trans (b6.mono K5.out.size))
          have y6 := b6.size
          have S_6 := hide (S_5.out.next b6)
          have X_6 := hide (X_5.out.next b6)
          clear S_5 X_5
          clear b6
          have cX2_6 := (X_6.out.2 2 _ rfl).1
          go_wp2_with fail
          refine (HC.out _ K6.out).mono ?_
          rintro e w7 ⟨rfl, b7⟩
          clear cX2_6
          have K7 := hide (K6.out.trans (b7.mono K6.out.size))
          have y7 := b7.size
          have S_7 := hide (S_6.out.next b7)
          have X_7 := hide (X_6.out.next b7)
          clear S_6 X_6
          clear b7
          go_wp2
          go_ret
          exact ⟨rfl, K7.out⟩
        · cases z3
          · cases b0
            · cases b1
              · have hcc : cc = 412 := by have h := HCC.out; simpa using h
                subst hcc
                clear HCC
                have cS0_0 := (S_0.out.2 0 _ rfl).1
                have cS1_0 := (S_0.out.2 1 _ rfl).1
                have cS2_0 := (S_0.out.2 2 _ rfl).1
                have cS3_0 := (S_0.out.2 3 _ rfl).1
                have cS4_0 := (S_0.out.2 4 _ rfl).1
                have cS5_0 := (S_0.out.2 5 _ rfl).1
                go_enter Tryz.func24, Tryz.ntmps24
                go_wp2_with fail
                refine (HT.out _ K0.out).mono ?_
                rintro e w1 ⟨rfl, b1⟩
                clear cS0_0 cS1_0 cS2_0 cS3_0 cS4_0 cS5_0 hw0
                have K1 := hide (K0.out.trans (b1.mono K0.out.size))
                have y1 := b1.size
                have S_1 := hide (S_0.out.next b1)
                have X_1 := hide (X_0.out.next b1)
                clear S_0 X_0
                clear b1
                have cX2_1 := (X_1.out.2 2 _ rfl).1
                go_wp2_with fail
                refine (HA.out _ K1.out).mono ?_
                rintro e w2 ⟨rfl, b2⟩
                clear cX2_1
                have K2 := hide (K1.out.trans (b2.mono K1.out.size))
                have y2 := b2.size
                have S_2 := hide (S_1.out.next b2)
                have X_2 := hide (X_1.out.next b2)
                clear S_1 X_1
                clear b2
                go_wp2_with fail
                refine (HI.out _).mono ?_
                rintro e w3 ⟨⟨lv, rfl, hv⟩, b3⟩
                have K3 := hide (K2.out.trans (b3.mono K2.out.size))
                have y3 := b3.size
                have S_3 := hide (S_2.out.next b3)
                have X_3 := hide (X_2.out.next b3)
                clear S_2 X_2
                have V_3 := hide hv
                clear hv
                clear b3
                have cS1_3 := (S_3.out.2 1 _ rfl).1
                go_wp2_with fail
                refine (HK.out _ K3.out).mono ?_
                rintro e w4 ⟨⟨tv, rfl, hv⟩, b4⟩
                clear cS1_3
                have K4 := hide (K3.out.trans (b4.mono K3.out.size))
                have y4 := b4.size
                have S_4 := hide (S_3.out.next b4)
                have X_4 := hide (X_3.out.next b4)
                clear S_3 X_3
                have V_4 := hide (V_3.out.atI b4)
                have U_4 := hide hv
                clear V_3 hv
                clear b4
                go_wp2_with fail
                refine (HE.out _ lv tv V_4.out U_4.out).mono ?_
                rintro e w5 ⟨rfl, b5⟩
                have K5 := hide (K4.out.trans (b5.mono K4.out.size))
                have y5 := b5.size
                have S_5 := hide (S_4.out.next b5)
                have X_5 := hide (X_4.out.next b5)
                clear S_4 X_4
                clear V_4 U_4
                clear b5
                have cX2_5 := (X_5.out.2 2 _ rfl).1
                go_wp2_with fail
                refine (HB.out _ K5.out).mono ?_
                rintro e w6 ⟨rfl, b6⟩
                clear cX2_5
                have K6 := hide (K5.out.trans (b6.mono K5.out.size))
                have y6 := b6.size
                have S_6 := hide (S_5.out.next b6)
                have X_6 := hide (X_5.out.next b6)
                clear S_5 X_5
                clear b6
                have cX2_6 := (X_6.out.2 2 _ rfl).1
                go_wp2_with fail
                refine (HC.out _ K6.out).mono ?_
                rintro e w7 ⟨rfl, b7⟩
                clear cX2_6
                have K7 := hide (K6.out.trans (b7.mono K6.out.size))
                have y7 := b7.size
                have S_7 := hide (S_6.out.next b7)
                have X_7 := hide (X_6.out.next b7)
                clear S_6 X_6
                clear b7
                go_wp2_with fail
                refine (HN.out _).mono ?_
                rintro e w8 ⟨rfl, b8⟩
                have K8 := hide (K7.out.trans (b8.mono K7.out.size))
                have y8 := b8.size
                have S_8 := hide (S_7.out.next b8)
                have X_8 := hide (X_7.out.next b8)
                clear S_7 X_7
                clear b8
                have cX0_8 := (X_8.out.2 0 _ rfl).1
                go_wp2
                go_ret
                exact ⟨rfl, K8.out⟩
              · have hcc : cc = 304 := by have h := HCC.out; simpa using h
                subst hcc
                clear HCC
                have cS0_0 := (S_0.out.2 0 _ rfl).1
                have cS1_0 := (S_0.out.2 1 _ rfl).1
                have cS2_0 := (S_0.out.2 2 _ rfl).1
                have cS3_0 := (S_0.out.2 3 _ rfl).1
                have cS4_0 := (S_0.out.2 4 _ rfl).1
                have cS5_0 := (S_0.out.2 5 _ rfl).1
                go_enter Tryz.func24, Tryz.ntmps24
                go_wp2_with fail
                refine (HT.out _ K0.out).mono ?_
                rintro e w1 ⟨rfl, b1⟩
                clear cS0_0 cS1_0 cS2_0 cS3_0 cS4_0 cS5_0 hw0
                have K1 := hide (K0.out.trans (b1.mono K0.out.size))
                have y1 := b1.size
                have S_1 := hide (S_0.out.next b1)
                have X_1 := hide (X_0.out.next b1)
                clear S_0 X_0
                clear b1
                have cX2_1 := (X_1.out.2 2 _ rfl).1
                go_wp2_with fail
                refine (HA.out _ K1.out).mono ?_
                rintro e w2 ⟨rfl, b2⟩
                clear cX2_1
                have K2 := hide (K1.out.trans (b2.mono K1.out.size))
                have y2 := b2.size
                have S_2 := hide (S_1.out.next b2)
                have X_2 := hide (X_1.out.next b2)
                clear S_1 X_1
                clear b2
                go_wp2_with fail
                refine (HI.out _).mono ?_
                rintro e w3 ⟨⟨lv, rfl, hv⟩, b3⟩
                have K3 := hide (K2.out.trans (b3.mono K2.out.size))
                have y3 := b3.size
                have S_3 := hide (S_2.out.next b3)
                have X_3 := hide (X_2.out.next b3)
                clear S_2 X_2
                have V_3 := hide hv
                clear hv
                clear b3
                have cS1_3 := (S_3.out.2 1 _ rfl).1
                go_wp2_with fail
                refine (HK.out _ K3.out).mono ?_
                rintro e w4 ⟨⟨tv, rfl, hv⟩, b4⟩
                clear cS1_3
                have K4 := hide (K3.out.trans (b4.mono K3.out.size))
                have y4 := b4.size
                have S_4 := hide (S_3.out.next b4)
                have X_4 := hide (X_3.out.next b4)
                clear S_3 X_3
                have V_4 := hide (V_3.out.atI b4)
                have U_4 := hide hv
                clear V_3 hv
                clear b4
                go_wp2_with fail
                refine (HE.out _ lv tv V_4.out U_4.out).mono ?_
                rintro e w5 ⟨rfl, b5⟩
                have K5 := hide (K4.out.trans (b5.mono K4.out.size))
                have y5 := b5.size
                have S_5 := hide (S_4.out.next b5)
                have X_5 := hide (X_4.out.next b5)
                clear S_4 X_4
                clear V_4 U_4
                clear b5
                have cX2_5 := (X_5.out.2 2 _ rfl).1
                go_wp2_with fail
                refine (HB.out _ K5.out).mono ?_
                rintro e w6 ⟨rfl, b6⟩
                clear cX2_5
                have K6 := hide (K5.out.trans (b6.mono K5.out.size))
                have y6 := b6.size
                have S_6 := hide (S_5.out.next b6)
                have X_6 := hide (X_5.out.next b6)
                clear S_5 X_5
                clear b6
                have cX2_6 := (X_6.out.2 2 _ rfl).1
                go_wp2_with fail
                refine (HC.out _ K6.out).mono ?_
                rintro e w7 ⟨rfl, b7⟩
                clear cX2_6
                have K7 := hide (K6.out.trans (b7.mono K6.out.size))
                have y7 := b7.size
                have S_7 := hide (S_6.out.next b7)
                have X_7 := hide (X_6.out.next b7)
                clear S_6 X_6
                clear b7
                go_wp2_with fail
                refine (HN.out _).mono ?_
                rintro e w8 ⟨rfl, b8⟩
                have K8 := hide (K7.out.trans (b8.mono K7.out.size))
                have y8 := b8.size
                have S_8 := hide (S_7.out.next b8)
                have X_8 := hide (X_7.out.next b8)
                clear S_7 X_7
                clear b8
                have cX0_8 := (X_8.out.2 0 _ rfl).1
                go_wp2
                go_ret
                exact ⟨rfl, K8.out⟩
            · have hcc : cc = 304 := by have h := HCC.out; simpa using h
              subst hcc
              clear HCC
              have cS0_0 := (S_0.out.2 0 _ rfl).1
              have cS1_0 := (S_0.out.2 1 _ rfl).1
              have cS2_0 := (S_0.out.2 2 _ rfl).1
              have cS3_0 := (S_0.out.2 3 _ rfl).1
              have cS4_0 := (S_0.out.2 4 _ rfl).1
              have cS5_0 := (S_0.out.2 5 _ rfl).1
              go_enter Tryz.func24, Tryz.ntmps24
              go_wp2_with fail
              refine (HT.out _ K0.out).mono ?_
              rintro e w1 ⟨rfl, b1⟩
              clear cS0_0 cS1_0 cS2_0 cS3_0 cS4_0 cS5_0 hw0
              have K1 := hide (K0.out.trans (b1.mono K0.out.size))
              have y1 := b1.size
              have S_1 := hide (S_0.out.next b1)
              have X_1 := hide (X_0.out.next b1)
              clear S_0 X_0
              clear b1
              have cX2_1 := (X_1.out.2 2 _ rfl).1
              go_wp2_with fail
              refine (HA.out _ K1.out).mono ?_
              rintro e w2 ⟨rfl, b2⟩
              clear cX2_1
              have K2 := hide (K1.out.trans (b2.mono K1.out.size))
              have y2 := b2.size
              have S_2 := hide (S_1.out.next b2)
              have X_2 := hide (X_1.out.next b2)
              clear S_1 X_1
              clear b2
              go_wp2_with fail
              refine (HI.out _).mono ?_
              rintro e w3 ⟨⟨lv, rfl, hv⟩, b3⟩
              have K3 := hide (K2.out.trans (b3.mono K2.out.size))
              have y3 := b3.size
              have S_3 := hide (S_2.out.next b3)
              have X_3 := hide (X_2.out.next b3)
              clear S_2 X_2
              have V_3 := hide hv
              clear hv
              clear b3
              have cS1_3 := (S_3.out.2 1 _ rfl).1
              go_wp2_with fail
              refine (HK.out _ K3.out).mono ?_
              rintro e w4 ⟨⟨tv, rfl, hv⟩, b4⟩
              clear cS1_3
              have K4 := hide (K3.out.trans (b4.mono K3.out.size))
              have y4 := b4.size
              have S_4 := hide (S_3.out.next b4)
              have X_4 := hide (X_3.out.next b4)
              clear S_3 X_3
              have V_4 := hide (V_3.out.atI b4)
              have U_4 := hide hv
              clear V_3 hv
              clear b4
              go_wp2_with fail
              refine (HE.out _ lv tv V_4.out U_4.out).mono ?_
              rintro e w5 ⟨rfl, b5⟩
              have K5 := hide (K4.out.trans (b5.mono K4.out.size))
              have y5 := b5.size
              have S_5 := hide (S_4.out.next b5)
              have X_5 := hide (X_4.out.next b5)
              clear S_4 X_4
              clear V_4 U_4
              clear b5
              have cX2_5 := (X_5.out.2 2 _ rfl).1
              go_wp2_with fail
              refine (HB.out _ K5.out).mono ?_
              rintro e w6 ⟨rfl, b6⟩
              clear cX2_5
              have K6 := hide (K5.out.trans (b6.mono K5.out.size))
              have y6 := b6.size
              have S_6 := hide (S_5.out.next b6)
              have X_6 := hide (X_5.out.next b6)
              clear S_5 X_5
              clear b6
              have cX2_6 := (X_6.out.2 2 _ rfl).1
              go_wp2_with fail
              refine (HC.out _ K6.out).mono ?_
              rintro e w7 ⟨rfl, b7⟩
              clear cX2_6
              have K7 := hide (K6.out.trans (b7.mono K6.out.size))
              have y7 := b7.size
              have S_7 := hide (S_6.out.next b7)
              have X_7 := hide (X_6.out.next b7)
              clear S_6 X_6
              clear b7
              go_wp2_with fail
              refine (HN.out _).mono ?_
              rintro e w8 ⟨rfl, b8⟩
              have K8 := hide (K7.out.trans (b8.mono K7.out.size))
              have y8 := b8.size
              have S_8 := hide (S_7.out.next b8)
              have X_8 := hide (X_7.out.next b8)
              clear S_7 X_7
              clear b8
              have cX0_8 := (X_8.out.2 0 _ rfl).1
              go_wp2
              go_ret
              exact ⟨rfl, K8.out⟩
          · have cS0_0 := (S_0.out.2 0 _ rfl).1
            have cS1_0 := (S_0.out.2 1 _ rfl).1
            have cS2_0 := (S_0.out.2 2 _ rfl).1
            have cS3_0 := (S_0.out.2 3 _ rfl).1
            have cS4_0 := (S_0.out.2 4 _ rfl).1
            have cS5_0 := (S_0.out.2 5 _ rfl).1
            go_enter Tryz.func24, Tryz.ntmps24
            go_wp2_with fail
            refine (HT.out _ K0.out).mono ?_
            rintro e w1 ⟨rfl, b1⟩
            clear cS0_0 cS1_0 cS2_0 cS3_0 cS4_0 cS5_0 hw0
            have K1 := hide (K0.out.trans (b1.mono K0.out.size))
            have y1 := b1.size
            have S_1 := hide (S_0.out.next b1)
            have X_1 := hide (X_0.out.next b1)
            clear S_0 X_0
            clear b1
            have cX2_1 := (X_1.out.2 2 _ rfl).1
            go_wp2_with fail
            refine (HA.out _ K1.out).mono ?_
            rintro e w2 ⟨rfl, b2⟩
            clear cX2_1
            have K2 := hide (K1.out.trans (b2.mono K1.out.size))
            have y2 := b2.size
            have S_2 := hide (S_1.out.next b2)
            have X_2 := hide (X_1.out.next b2)
            clear S_1 X_1
            clear b2
            go_wp2_with fail
            refine (HI.out _).mono ?_
            rintro e w3 ⟨⟨lv, rfl, hv⟩, b3⟩
            have K3 := hide (K2.out.trans (b3.mono K2.out.size))
            have y3 := b3.size
            have S_3 := hide (S_2.out.next b3)
            have X_3 := hide (X_2.out.next b3)
            clear S_2 X_2
            have V_3 := hide hv
            clear hv
            clear b3
            have cS1_3 := (S_3.out.2 1 _ rfl).1
            go_wp2_with fail
            refine (HK.out _ K3.out).mono ?_
            rintro e w4 ⟨⟨tv, rfl, hv⟩, b4⟩
            clear cS1_3
            have K4 := hide (K3.out.trans (b4.mono K3.out.size))
            have y4 := b4.size
            have S_4 := hide (S_3.out.next b4)
            have X_4 := hide (X_3.out.next b4)
            clear S_3 X_3
            have V_4 := hide (V_3.out.atI b4)
            have U_4 := hide hv
            clear V_3 hv
            clear b4
            go_wp2_with fail
            refine (HE.out _ lv tv V_4.out U_4.out).mono ?_
            rintro e w5 ⟨rfl, b5⟩
            have K5 := hide (K4.out.trans (b5.mono K4.out.size))
            have y5 := b5.size
            have S_5 := hide (S_4.out.next b5)
            have X_5 := hide (X_4.out.next b5)
            clear S_4 X_4
            clear V_4 U_4
            clear b5
            have cX2_5 := (X_5.out.2 2 _ rfl).1
            go_wp2_with fail
            refine (HB.out _ K5.out).mono ?_
            rintro e w6 ⟨rfl, b6⟩
            clear cX2_5
            have K6 := hide (K5.out.trans (b6.mono K5.out.size))
            have y6 := b6.size
            have S_6 := hide (S_5.out.next b6)
            have X_6 := hide (X_5.out.next b6)
            clear S_5 X_5
            clear b6
            have cX2_6 := (X_6.out.2 2 _ rfl).1
            go_wp2_with fail
            refine (HC.out _ K6.out).mono ?_
            rintro e w7 ⟨rfl, b7⟩
            clear cX2_6
            have K7 := hide (K6.out.trans (b7.mono K6.out.size))
            have y7 := b7.size
            have S_7 := hide (S_6.out.next b7)
            have X_7 := hide (X_6.out.next b7)
            clear S_6 X_6
            clear b7
            go_wp2_with fail
            refine (HN.out _).mono ?_
            rintro e w8 ⟨rfl, b8⟩
            have K8 := hide (K7.out.trans (b8.mono K7.out.size))
            have y8 := b8.size
            have S_8 := hide (S_7.out.next b8)
            have X_8 := hide (X_7.out.next b8)
            clear S_7 X_7
            clear b8
            go_wp2
            go_ret
            exact ⟨rfl, K8.out⟩
      · cases z2
        · have cS0_0 := (S_0.out.2 0 _ rfl).1
          have cS1_0 := (S_0.out.2 1 _ rfl).1
          have cS2_0 := (S_0.out.2 2 _ rfl).1
          have cS3_0 := (S_0.out.2 3 _ rfl).1
          have cS4_0 := (S_0.out.2 4 _ rfl).1
          have cS5_0 := (S_0.out.2 5 _ rfl).1
          go_enter Tryz.func24, Tryz.ntmps24
          go_wp2_with fail
          refine (HT.out _ K0.out).mono ?_
          rintro e w1 ⟨rfl, b1⟩
          clear cS0_0 cS1_0 cS2_0 cS3_0 cS4_0 cS5_0 hw0
          have K1 := hide (K0.out.trans (b1.mono K0.out.size))
          have y1 := b1.size
          have S_1 := hide (S_0.out.next b1)
          have X_1 := hide (X_0.out.next b1)
          clear S_0 X_0
          clear b1
          have cX2_1 := (X_1.out.2 2 _ rfl).1
          go_wp2_with fail
          refine (HA.out _ K1.out).mono ?_
          rintro e w2 ⟨rfl, b2⟩
          clear cX2_1
          have K2 := hide (K1.out.trans (b2.mono K1.out.size))
          have y2 := b2.size
          have S_2 := hide (S_1.out.next b2)
          have X_2 := hide (X_1.out.next b2)
          clear S_1 X_1
          clear b2
          go_wp2_with fail
          refine (HI.out _).mono ?_
          rintro e w3 ⟨⟨lv, rfl, hv⟩, b3⟩
          have K3 := hide (K2.out.trans (b3.mono K2.out.size))
          have y3 := b3.size
          have S_3 := hide (S_2.out.next b3)
          have X_3 := hide (X_2.out.next b3)
          clear S_2 X_2
          have V_3 := hide hv
          clear hv
          clear b3
          have cS1_3 := (S_3.out.2 1 _ rfl).1
          go_wp2_with fail
          refine (HK.out _ K3.out).mono ?_
          rintro e w4 ⟨⟨tv, rfl, hv⟩, b4⟩
          clear cS1_3
          have K4 := hide (K3.out.trans (b4.mono K3.out.size))
          have y4 := b4.size
          have S_4 := hide (S_3.out.next b4)
          have X_4 := hide (X_3.out.next b4)
          clear S_3 X_3
          have V_4 := hide (V_3.out.atI b4)
          have U_4 := hide hv
          clear V_3 hv
          clear b4
          go_wp2_with fail
          refine (HE.out _ lv tv V_4.out U_4.out).mono ?_
          rintro e w5 ⟨rfl, b5⟩
          have K5 := hide (K4.out.trans (b5.mono K4.out.size))
          have y5 := b5.size
          have S_5 := hide (S_4.out.next b5)
          have X_5 := hide (X_4.out.next b5)
          clear S_4 X_4
          clear V_4 U_4
          clear b5
          have cX2_5 := (X_5.out.2 2 _ rfl).1
          go_wp2_with fail
          refine (HB.out _ K5.out).mono ?_
          rintro e w6 ⟨rfl, b6⟩
          clear cX2_5
          have K6 := hide (K5.out.trans (b6.mono K5.out.size))
          have y6 := b6.size
          have S_6 := hide (S_5.out.next b6)
          have X_6 := hide (X_5.out.next b6)
          clear S_5 X_5
          clear b6
          go_wp2_with fail
          refine (HM.out _).mono ?_
          rintro e w7 ⟨rfl, b7⟩
          have K7 := hide (K6.out.trans (b7.mono K6.out.size))
          have y7 := b7.size
          have S_7 := hide (S_6.out.next b7)
          have X_7 := hide (X_6.out.next b7)
          clear S_6 X_6
          clear b7
          go_wp2
          go_ret
          exact ⟨rfl, K7.out⟩
        · cases t3
          · have cS0_0 := (S_0.out.2 0 _ rfl).1
            have cS1_0 := (S_0.out.2 1 _ rfl).1
            have cS2_0 := (S_0.out.2 2 _ rfl).1
            have cS3_0 := (S_0.out.2 3 _ rfl).1
            have cS4_0 := (S_0.out.2 4 _ rfl).1
            have cS5_0 := (S_0.out.2 5 _ rfl).1
            go_enter Tryz.func24, Tryz.ntmps24
            go_wp2_with fail
            refine (HT.out _ K0.out).mono ?_
            rintro e w1 ⟨rfl, b1⟩
            clear cS0_0 cS1_0 cS2_0 cS3_0 cS4_0 cS5_0 hw0
            have K1 := hide (K0.out.trans (b1.mono K0.out.size))
            have y1 := b1.size
            have S_1 := hide (S_0.out.next b1)
            have X_1 := hide (X_0.out.next b1)
            clear S_0 X_0
            clear b1
            have cX2_1 := (X_1.out.2 2 _ rfl).1
            go_wp2_with fail
            refine (HA.out _ K1.out).mono ?_
            rintro e w2 ⟨rfl, b2⟩
            clear cX2_1
            have K2 := hide (K1.out.trans (b2.mono K1.out.size))
            have y2 := b2.size
            have S_2 := hide (S_1.out.next b2)
            have X_2 := hide (X_1.out.next b2)
            clear S_1 X_1
            clear b2
            go_wp2_with fail
            refine (HI.out _).mono ?_
            rintro e w3 ⟨⟨lv, rfl, hv⟩, b3⟩
            have K3 := hide (K2.out.trans (b3.mono K2.out.size))
            have y3 := b3.size
            have S_3 := hide (S_2.out.next b3)
            have X_3 := hide (X_2.out.next b3)
            clear S_2 X_2
            have V_3 := hide hv
            clear hv
            clear b3
            have cS1_3 := (S_3.out.2 1 _ rfl).1
            go_wp2_with fail
            refine (HK.out _ K3.out).mono ?_
            rintro e w4 ⟨⟨tv, rfl, hv⟩, b4⟩
            clear cS1_3
            have K4 := hide (K3.out.trans (b4.mono K3.out.size))
            have y4 := b4.size
            have S_4 := hide (S_3.out.next b4)
            have X_4 := hide (X_3.out.next b4)
            clear S_3 X_3
            have V_4 := hide (V_3.out.atI b4)
            have U_4 := hide hv
            clear V_3 hv
            clear b4
            go_wp2_with fail
            refine (HE.out _ lv tv V_4.out U_4.out).mono ?_
            rintro e w5 ⟨rfl, b5⟩
            have K5 := hide (K4.out.trans (b5.mono K4.out.size))
            have y5 := b5.size
            have S_5 := hide (S_4.out.next b5)
            have X_5 := hide (X_4.out.next b5)
            clear S_4 X_4
            clear V_4 U_4
            clear b5
            have cX2_5 := (X_5.out.2 2 _ rfl).1
            go_wp2_with fail
            refine (HB.out _ K5.out).mono ?_
            rintro e w6 ⟨rfl, b6⟩
            clear cX2_5
            have K6 := hide (K5.out.trans (b6.mono K5.out.size))
            have y6 := b6.size
            have S_6 := hide (S_5.out.next b6)
            have X_6 := hide (X_5.out.next b6)
            clear S_5 X_5
            clear b6
            go_wp2_with fail
            refine (HM.out _).mono ?_
            rintro e w7 ⟨rfl, b7⟩
            have K7 := hide (K6.out.trans (b7.mono K6.out.size))
            have y7 := b7.size
            have S_7 := hide (S_6.out.next b7)
            have X_7 := hide (X_6.out.next b7)
            clear S_6 X_6
            clear b7
            have cX2_7 := (X_7.out.2 2 _ rfl).1
            go_wp2_with fail
            refine (HC.out _ K7.out).mono ?_
            rintro e w8 ⟨rfl, b8⟩
            clear cX2_7
            have K8 := hide (K7.out.trans (b8.mono K7.out.size))
            have y8 := b8.size
            have S_8 := hide (S_7.out.next b8)
            have X_8 := hide (X_7.out.next b8)
            clear S_7 X_7
            clear b8
            go_wp2
            go_ret
            exact ⟨rfl, K8.out⟩
          · cases z3
            · cases b0
              · cases b1
                · have hcc : cc = 412 := by have h := HCC.out; simpa using h
                  subst hcc
                  clear HCC
                  have cS0_0 := (S_0.out.2 0 _ rfl).1
                  have cS1_0 := (S_0.out.2 1 _ rfl).1
                  have cS2_0 := (S_0.out.2 2 _ rfl).1
                  have cS3_0 := (S_0.out.2 3 _ rfl).1
                  have cS4_0 := (S_0.out.2 4 _ rfl).1
                  have cS5_0 := (S_0.out.2 5 _ rfl).1
                  go_enter Tryz.func24, Tryz.ntmps24
                  go_wp2_with fail
                  refine (HT.out _ K0.out).mono ?_
                  rintro e w1 ⟨rfl, b1⟩
                  clear cS0_0 cS1_0 cS2_0 cS3_0 cS4_0 cS5_0 hw0
                  have K1 := hide (K0.out.trans (b1.mono K0.out.size))
                  have y1 := b1.size
                  have S_1 := hide (S_0.out.next b1)
                  have X_1 := hide (X_0.out.next b1)
                  clear S_0 X_0
                  clear b1
                  have cX2_1 := (X_1.out.2 2 _ rfl).1
                  go_wp2_with fail
                  refine (HA.out _ K1.out).mono ?_
                  rintro e w2 ⟨rfl, b2⟩
                  clear cX2_1
                  have K2 := hide (K1.out.trans (b2.mono K1.out.size))
                  have y2 := b2.size
                  have S_2 := hide (S_1.out.next b2)
                  have X_2 := hide (X_1.out.next b2)
                  clear S_1 X_1
                  clear b2
                  go_wp2_with fail
                  refine (HI.out _).mono ?_
                  rintro e w3 ⟨⟨lv, rfl, hv⟩, b3⟩
                  have K3 := hide (K2.out.trans (b3.mono K2.out.size))
                  have y3 := b3.size
                  have S_3 := hide (S_2.out.next b3)
                  have X_3 := hide (X_2.out.next b3)
                  clear S_2 X_2
                  have V_3 := hide hv
                  clear hv
                  clear b3
                  have cS1_3 := (S_3.out.2 1 _ rfl).1
                  go_wp2_with fail
                  refine (HK.out _ K3.out).mono ?_
                  rintro e w4 ⟨⟨tv, rfl, hv⟩, b4⟩
                  clear cS1_3
                  have K4 := hide (K3.out.trans (b4.mono K3.out.size))
                  have y4 := b4.size
                  have S_4 := hide (S_3.out.next b4)
                  have X_4 := hide (X_3.out.next b4)
                  clear S_3 X_3
                  have V_4 := hide (V_3.out.atI b4)
                  have U_4 := hide hv
                  clear V_3 hv
                  clear b4
                  go_wp2_with fail
                  refine (HE.out _ lv tv V_4.out U_4.out).mono ?_
                  rintro e w5 ⟨rfl, b5⟩
                  have K5 := hide (K4.out.trans (b5.mono K4.out.size))
                  have y5 := b5.size
                  have S_5 := hide (S_4.out.next b5)
                  have X_5 := hide (X_4.out.next b5)
                  clear S_4 X_4
                  clear V_4 U_4
                  clear b5
                  have cX2_5 := (X_5.out.2 2 _ rfl).1
                  go_wp2_with fail
                  refine (HB.out _ K5.out).mono ?_
                  rintro e w6 ⟨rfl, b6⟩
                  clear cX2_5
                  have K6 := hide (K5.out.trans (b6.mono K5.out.size))
                  have y6 := b6.size
                  have S_6 := hide (S_5.out.next b6)
                  have X_6 := hide (X_5.out.next b6)
                  clear S_5 X_5
                  clear b6
                  go_wp2_with fail
                  refine (HM.out _).mono ?_
                  rintro e w7 ⟨rfl, b7⟩
                  have K7 := hide (K6.out.trans (b7.mono K6.out.size))
                  have y7 := b7.size
                  have S_7 := hide (S_6.out.next b7)
                  have X_7 := hide (X_6.out.next b7)
                  clear S_6 X_6
                  clear b7
                  have cX2_7 := (X_7.out.2 2 _ rfl).1
                  go_wp2_with fail
                  refine (HC.out _ K7.out).mono ?_
                  rintro e w8 ⟨rfl, b8⟩
                  clear cX2_7
                  have K8 := hide (K7.out.trans (b8.mono K7.out.size))
                  have y8 := b8.size
                  have S_8 := hide (S_7.out.next b8)
                  have X_8 := hide (X_7.out.next b8)
                  clear S_7 X_7
                  clear b8
                  go_wp2_with fail
                  refine (HN.out _).mono ?_
                  rintro e w9 ⟨rfl, b9⟩
                  have K9 := hide (K8.out.trans (b9.mono K8.out.size))
                  have y9 := b9.size
                  have S_9 := hide (S_8.out.next b9)
                  have X_9 := hide (X_8.out.next b9)
                  clear S_8 X_8
                  clear b9
                  have cX0_9 := (X_9.out.2 0 _ rfl).1
                  go_wp2
                  go_ret
                  exact ⟨rfl, K9.out⟩
                · have hcc : cc = 304 := by have h := HCC.out; simpa using h
                  subst hcc
                  clear HCC
                  have cS0_0 := (S_0.out.2 0 _ rfl).1
                  have cS1_0 := (S_0.out.2 1 _ rfl).1
                  have cS2_0 := (S_0.out.2 2 _ rfl).1
                  have cS3_0 := (S_0.out.2 3 _ rfl).1
                  have cS4_0 := (S_0.out.2 4 _ rfl).1
                  have cS5_0 := (S_0.out.2 5 _ rfl).1
                  go_enter Tryz.func24, Tryz.ntmps24
                  go_wp2_with fail
                  refine (HT.out _ K0.out).mono ?_
                  rintro e w1 ⟨rfl, b1⟩
                  clear cS0_0 cS1_0 cS2_0 cS3_0 cS4_0 cS5_0 hw0
                  have K1 := hide (K0.out.trans (b1.mono K0.out.size))
                  have y1 := b1.size
                  have S_1 := hide (S_0.out.next b1)
                  have X_1 := hide (X_0.out.next b1)
                  clear S_0 X_0
                  clear b1
                  have cX2_1 := (X_1.out.2 2 _ rfl).1
                  go_wp2_with fail
                  refine (HA.out _ K1.out).mono ?_
                  rintro e w2 ⟨rfl, b2⟩
                  clear cX2_1
                  have K2 := hide (K1.out.trans (b2.mono K1.out.size))
                  have y2 := b2.size
                  have S_2 := hide (S_1.out.next b2)
                  have X_2 := hide (X_1.out.next b2)
                  clear S_1 X_1
                  clear b2
                  go_wp2_with fail
                  refine (HI.out _).mono ?_
                  rintro e w3 ⟨⟨lv, rfl, hv⟩, b3⟩
                  have K3 := hide (K2.out.trans (b3.mono K2.out.size))
                  have y3 := b3.size
                  have S_3 := hide (S_2.out.next b3)
                  have X_3 := hide (X_2.out.next b3)
                  clear S_2 X_2
                  have V_3 := hide hv
                  clear hv
                  clear b3
                  have cS1_3 := (S_3.out.2 1 _ rfl).1
                  go_wp2_with fail
                  refine (HK.out _ K3.out).mono ?_
                  rintro e w4 ⟨⟨tv, rfl, hv⟩, b4⟩
                  clear cS1_3
                  have K4 := hide (K3.out.trans (b4.mono K3.out.size))
                  have y4 := b4.size
                  have S_4 := hide (S_3.out.next b4)
                  have X_4 := hide (X_3.out.next b4)
                  clear S_3 X_3
                  have V_4 := hide (V_3.out.atI b4)
                  have U_4 := hide hv
                  clear V_3 hv
                  clear b4
                  go_wp2_with fail
                  refine (HE.out _ lv tv V_4.out U_4.out).mono ?_
                  rintro e w5 ⟨rfl, b5⟩
                  have K5 := hide (K4.out.trans (b5.mono K4.out.size))
                  have y5 := b5.size
                  have S_5 := hide (S_4.out.next b5)
                  have X_5 := hide (X_4.out.next b5)
                  clear S_4 X_4
                  clear V_4 U_4
                  clear b5
                  have cX2_5 := (X_5.out.2 2 _ rfl).1
                  go_wp2_with fail
                  refine (HB.out _ K5.out).mono ?_
                  rintro e w6 ⟨rfl, b6⟩
                  clear cX2_5
                  have K6 := hide (K5.out.trans (b6.mono K5.out.size))
                  have y6 := b6.size
                  have S_6 := hide (S_5.out.next b6)
                  have X_6 := hide (X_5.out.next b6)
                  clear S_5 X_5
                  clear b6
                  go_wp2_with fail
                  refine (HM.out _).mono ?_
                  rintro e w7 ⟨rfl, b7⟩
                  have K7 := hide (K6.out.trans (b7.mono K6.out.size))
                  have y7 := b7.size
                  have S_7 := hide (S_6.out.next b7)
                  have X_7 := hide (X_6.out.next b7)
                  clear S_6 X_6
                  clear b7
                  have cX2_7 := (X_7.out.2 2 _ rfl).1
                  go_wp2_with fail
                  refine (HC.out _ K7.out).mono ?_
                  rintro e w8 ⟨rfl, b8⟩
                  clear cX2_7
                  have K8 := hide (K7.out.trans (b8.mono K7.out.size))
                  have y8 := b8.size
                  have S_8 := hide (S_7.out.next b8)
                  have X_8 := hide (X_7.out.next b8)
                  clear S_7 X_7
                  clear b8
                  go_wp2_with fail
                  refine (HN.out _).mono ?_
                  rintro e w9 ⟨rfl, b9⟩
                  have K9 := hide (K8.out.trans (b9.mono K8.out.size))
                  have y9 := b9.size
                  have S_9 := hide (S_8.out.next b9)
                  have X_9 := hide (X_8.out.next b9)
                  clear S_8 X_8
                  clear b9
                  have cX0_9 := (X_9.out.2 0 _ rfl).1
                  go_wp2
                  go_ret
                  exact ⟨rfl, K9.out⟩
              · have hcc : cc = 304 := by have h := HCC.out; simpa using h
                subst hcc
                clear HCC
                have cS0_0 := (S_0.out.2 0 _ rfl).1
                have cS1_0 := (S_0.out.2 1 _ rfl).1
                have cS2_0 := (S_0.out.2 2 _ rfl).1
                have cS3_0 := (S_0.out.2 3 _ rfl).1
                have cS4_0 := (S_0.out.2 4 _ rfl).1
                have cS5_0 := (S_0.out.2 5 _ rfl).1
                go_enter Tryz.func24, Tryz.ntmps24
                go_wp2_with fail
                refine (HT.out _ K0.out).mono ?_
                rintro e w1 ⟨rfl, b1⟩
                clear cS0_0 cS1_0 cS2_0 cS3_0 cS4_0 cS5_0 hw0
                have K1 := hide (K0.out.trans (b1.mono K0.out.size))
                have y1 := b1.size
                have S_1 := hide (S_0.out.next b1)
                have X_1 := hide (X_0.out.next b1)
                clear S_0 X_0
                clear b1
                have cX2_1 := (X_1.out.2 2 _ rfl).1
                go_wp2_with fail
                refine (HA.out _ K1.out).mono ?_
                rintro e w2 ⟨rfl, b2⟩
                clear cX2_1
                have K2 := hide (K1.out.trans (b2.mono K1.out.size))
                have y2 := b2.size
                have S_2 := hide (S_1.out.next b2)
                have X_2 := hide (X_1.out.next b2)
                clear S_1 X_1
                clear b2
                go_wp2_with fail
                refine (HI.out _).mono ?_
                rintro e w3 ⟨⟨lv, rfl, hv⟩, b3⟩
                have K3 := hide (K2.out.trans (b3.mono K2.out.size))
                have y3 := b3.size
                have S_3 := hide (S_2.out.next b3)
                have X_3 := hide (X_2.out.next b3)
                clear S_2 X_2
                have V_3 := hide hv
                clear hv
                clear b3
                have cS1_3 := (S_3.out.2 1 _ rfl).1
                go_wp2_with fail
                refine (HK.out _ K3.out).mono ?_
                rintro e w4 ⟨⟨tv, rfl, hv⟩, b4⟩
                clear cS1_3
                have K4 := hide (K3.out.trans (b4.mono K3.out.size))
                have y4 := b4.size
                have S_4 := hide (S_3.out.next b4)
                have X_4 := hide (X_3.out.next b4)
                clear S_3 X_3
                have V_4 := hide (V_3.out.atI b4)
                have U_4 := hide hv
                clear V_3 hv
                clear b4
                go_wp2_with fail
                refine (HE.out _ lv tv V_4.out U_4.out).mono ?_
                rintro e w5 ⟨rfl, b5⟩
                have K5 := hide (K4.out.trans (b5.mono K4.out.size))
                have y5 := b5.size
                have S_5 := hide (S_4.out.next b5)
                have X_5 := hide (X_4.out.next b5)
                clear S_4 X_4
                clear V_4 U_4
                clear b5
                have cX2_5 := (X_5.out.2 2 _ rfl).1
                go_wp2_with fail
                refine (HB.out _ K5.out).mono ?_
                rintro e w6 ⟨rfl, b6⟩
                clear cX2_5
                have K6 := hide (K5.out.trans (b6.mono K5.out.size))
                have y6 := b6.size
                have S_6 := hide (S_5.out.next b6)
                have X_6 := hide (X_5.out.next b6)
                clear S_5 X_5
                clear b6
                go_wp2_with fail
                refine (HM.out _).mono ?_
                rintro e w7 ⟨rfl, b7⟩
                have K7 := hide (K6.out.trans (b7.mono K6.out.size))
                have y7 := b7.size
                have S_7 := hide (S_6.out.next b7)
                have X_7 := hide (X_6.out.next b7)
                clear S_6 X_6
                clear b7
                have cX2_7 := (X_7.out.2 2 _ rfl).1
                go_wp2_with fail
                refine (HC.out _ K7.out).mono ?_
                rintro e w8 ⟨rfl, b8⟩
                clear cX2_7
                have K8 := hide (K7.out.trans (b8.mono K7.out.size))
                have y8 := b8.size
                have S_8 := hide (S_7.out.next b8)
                have X_8 := hide (X_7.out.next b8)
                clear S_7 X_7
                clear b8
                go_wp2_with fail
                refine (HN.out _).mono ?_
                rintro e w9 ⟨rfl, b9⟩
                have K9 := hide (K8.out.trans (b9.mono K8.out.size))
                have y9 := b9.size
                have S_9 := hide (S_8.out.next b9)
                have X_9 := hide (X_8.out.next b9)
                clear S_8 X_8
                clear b9
                have cX0_9 := (X_9.out.2 0 _ rfl).1
                go_wp2
                go_ret
                exact ⟨rfl, K9.out⟩
            · have cS0_0 := (S_0.out.2 0 _ rfl).1
              have cS1_0 := (S_0.out.2 1 _ rfl).1
              have cS2_0 := (S_0.out.2 2 _ rfl).1
              have cS3_0 := (S_0.out.2 3 _ rfl).1
              have cS4_0 := (S_0.out.2 4 _ rfl).1
              have cS5_0 := (S_0.out.2 5 _ rfl).1
              go_enter Tryz.func24, Tryz.ntmps24
              go_wp2_with fail
              refine (HT.out _ K0.out).mono ?_
              rintro e w1 ⟨rfl, b1⟩
              clear cS0_0 cS1_0 cS2_0 cS3_0 cS4_0 cS5_0 hw0
              have K1 := hide (K0.out.trans (b1.mono K0.out.size))
              have y1 := b1.size
              have S_1 := hide (S_0.out.next b1)
              have X_1 := hide (X_0.out.next b1)
              clear S_0 X_0
              clear b1
              have cX2_1 := (X_1.out.2 2 _ rfl).1
              go_wp2_with fail
              refine (HA.out _ K1.out).mono ?_
              rintro e w2 ⟨rfl, b2⟩
              clear cX2_1
              have K2 := hide (K1.out.trans (b2.mono K1.out.size))
              have y2 := b2.size
              have S_2 := hide (S_1.out.next b2)
              have X_2 := hide (X_1.out.next b2)
              clear S_1 X_1
              clear b2
              go_wp2_with fail
              refine (HI.out _).mono ?_
              rintro e w3 ⟨⟨lv, rfl, hv⟩, b3⟩
              have K3 := hide (K2.out.trans (b3.mono K2.out.size))
              have y3 := b3.size
              have S_3 := hide (S_2.out.next b3)
              have X_3 := hide (X_2.out.next b3)
              clear S_2 X_2
              have V_3 := hide hv
              clear hv
              clear b3
              have cS1_3 := (S_3.out.2 1 _ rfl).1
              go_wp2_with fail
              refine (HK.out _ K3.out).mono ?_
              rintro e w4 ⟨⟨tv, rfl, hv⟩, b4⟩
              clear cS1_3
              have K4 := hide (K3.out.trans (b4.mono K3.out.size))
              have y4 := b4.size
              have S_4 := hide (S_3.out.next b4)
              have X_4 := hide (X_3.out.next b4)
              clear S_3 X_3
              have V_4 := hide (V_3.out.atI b4)
              have U_4 := hide hv
              clear V_3 hv
              clear b4
              go_wp2_with fail
              refine (HE.out _ lv tv V_4.out U_4.out).mono ?_
              rintro e w5 ⟨rfl, b5⟩
              have K5 := hide (K4.out.trans (b5.mono K4.out.size))
              have y5 := b5.size
              have S_5 := hide (S_4.out.next b5)
              have X_5 := hide (X_4.out.next b5)
              clear S_4 X_4
              clear V_4 U_4
              clear b5
              have cX2_5 := (X_5.out.2 2 _ rfl).1
              go_wp2_with fail
              refine (HB.out _ K5.out).mono ?_
              rintro e w6 ⟨rfl, b6⟩
              clear cX2_5
              have K6 := hide (K5.out.trans (b6.mono K5.out.size))
              have y6 := b6.size
              have S_6 := hide (S_5.out.next b6)
              have X_6 := hide (X_5.out.next b6)
              clear S_5 X_5
              clear b6
              go_wp2_with fail
              refine (HM.out _).mono ?_
              rintro e w7 ⟨rfl, b7⟩
              have K7 := hide (K6.out.trans (b7.mono K6.out.size))
              have y7 := b7.size
              have S_7 := hide (S_6.out.next b7)
              have X_7 := hide (X_6.out.next b7)
              clear S_6 X_6
              clear b7
              have cX2_7 := (X_7.out.2 2 _ rfl).1
              go_wp2_with fail
              refine (HC.out _ K7.out).mono ?_
              rintro e w8 ⟨rfl, b8⟩
              clear cX2_7
              have K8 := hide (K7.out.trans (b8.mono K7.out.size))
              have y8 := b8.size
              have S_8 := hide (S_7.out.next b8)
              have X_8 := hide (X_7.out.next b8)
              clear S_7 X_7
              clear b8
              go_wp2_with fail
              refine (HN.out _).mono ?_
              rintro e w9 ⟨rfl, b9⟩
              have K9 := hide (K8.out.trans (b9.mono K8.out.size))
              have y9 := b9.size
              have S_9 := hide (S_8.out.next b9)
              have X_9 := hide (X_8.out.next b9)
              clear S_8 X_8
              clear b9
              go_wp2
              go_ret
              exact ⟨rfl, K9.out⟩
end Go.Proofs.YtfhcniifennfbaaGreatDoor
