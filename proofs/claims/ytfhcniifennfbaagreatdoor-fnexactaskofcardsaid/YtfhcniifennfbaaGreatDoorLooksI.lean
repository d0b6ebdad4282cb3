/-
  What is looked at ahead of all: impl.codeWhere, isFar, isMethod, toOf, ifOf and the nine looks.
-/
import Derived.Test.YtfhcniifennfbaaGreatDoorSpecLower
import Derived.Test.YtfhcniifennfbaaGreatDoorUnq
import Derived.Test.YtfhcniifennfbaaGreatDoorParsePath
import Derived.Test.YtfhcniifennfbaaGreatDoorIntsV
import Derived.Test.YtfhcniifennfbaaGreatDoorGenLock
import Derived.Test.YtfhcniifennfbaaGreatDoorSvIn
import Derived.Test.YtfhcniifennfbaaGreatDoorReachV
import Derived.Test.YtfhcniifennfbaaGreatDoorSpecMayT
import Derived.Test.YtfhcniifennfbaaGreatDoorMayCG
namespace Go.Proofs.YtfhcniifennfbaaGreatDoor
open Go.RowKit M
set_option linter.unusedVariables false

theorem codeWhere_any (b : Bool) (c : Int) (W : World) : Calls Tryz.prog 132 #[.bool b, .int .i64 c] W fun e w' => e = .returned (.int .i64 (cwI b c)) ∧ Below W.heap.size W w' := by
  cases b
  · go_enter Tryz.func132, Tryz.ntmps132
    go_wp2
    go_ret
    exact ⟨rfl, Below.refl _ _⟩
  · go_enter Tryz.func132, Tryz.ntmps132
    go_wp2
    go_ret
    exact ⟨rfl, Below.refl _ _⟩
set_option maxHeartbeats 2000000 in
theorem isFar_any (m : ByteArray) (W : World) : Calls Tryz.prog 69 #[.string m] W fun e w' => e = .returned (.bool (farB m)) ∧ Below W.heap.size W w' := by
  have f0 := eq_COPY m
  have f1 := eq_MOVE m
  unfold farB
  generalize decide (m = mCOPY) = b0 at *
  generalize decide (m = mMOVE) = b1 at *
  cases b0
  · go_enter Tryz.func69, Tryz.ntmps69
    go_wp2
    go_ret
    exact ⟨rfl, Below.refl _ _⟩
  · go_enter Tryz.func69, Tryz.ntmps69
    go_wp2
    go_ret
    exact ⟨rfl, Below.refl _ _⟩
set_option maxHeartbeats 4000000 in
theorem isMethod_any (m : ByteArray) (W : World) : Calls Tryz.prog 133 #[.string m] W fun e w' => e = .returned (.bool (knownB m)) ∧ Below W.heap.size W w' := by
  have f0 := eq_GET m
  have f1 := eq_HEAD m
  have f2 := eq_OPTIONS m
  have f3 := eq_PROPFIND m
  have HC := hide (changes_any m W)
  have hk : knownB m = (decide (m = mGET) || (decide (m = mHEAD) || (decide (m = mOPTIONS) || (decide (m = mPROPFIND) || chB m)))) := by
    unfold knownB
    cases chB m <;> cases decide (m = mGET) <;> cases decide (m = mHEAD) <;> cases decide (m = mOPTIONS) <;> cases decide (m = mPROPFIND) <;> rfl
  rw [hk]
  clear hk
  generalize chB m = c at *
  generalize decide (m = mGET) = b0 at *
  generalize decide (m = mHEAD) = b1 at *
  generalize decide (m = mOPTIONS) = b2 at *
  generalize decide (m = mPROPFIND) = b3 at *
  cases b0
  rotate_left
  · go_enter Tryz.func133, Tryz.ntmps133
    go_wp2
    go_ret
    exact ⟨rfl, Below.refl _ _⟩
  cases b1
  rotate_left
  · go_enter Tryz.func133, Tryz.ntmps133
    go_wp2
    go_ret
    exact ⟨rfl, Below.refl _ _⟩
  cases b2
  rotate_left
  · go_enter Tryz.func133, Tryz.ntmps133
    go_wp2
    go_ret
    exact ⟨rfl, Below.refl _ _⟩
  cases b3
  rotate_left
  · go_enter Tryz.func133, Tryz.ntmps133
    go_wp2
    go_ret
    exact ⟨rfl, Below.refl _ _⟩
  go_enter Tryz.func133, Tryz.ntmps133
  go_wp2_with fail
  refine HC.out.mono ?_
  rintro e w1 ⟨rfl, b1⟩
  have K1 := hide b1
  clear b1
  go_wp2
  go_ret
  exact ⟨rfl, K1.out⟩

/-- A head of a request. -/
theorem head_gen (hs : List Hd) (n : ByteArray) (h : Value) (W : World) (hh : View W W.heap.size h (.l (hs.map dHd))) (hr : szRs (hs.map dHd) ≤ 1048576) :
    Calls Tryz.prog 64 #[h, .string n] W fun e w' => e = .returned (.tuple #[.string (hdOf hs n).1, .bool (hdOf hs n).2]) ∧ Below W.heap.size W w' := by
  obtain ⟨a, cap, rfl, k1, k2, k3, k4⟩ := hds_of_view hh
  exact headOf_any a hs cap W.heap.size n W k4 (Nat.le_refl _) (Nat.le_trans k1 k2) (fun x hx => Nat.le_trans (hds_szv hr x hx) (by decide))
theorem head_size {hs : List Hd} (n : ByteArray) (hr : szRs (hs.map dHd) ≤ 1048576) : (hdOf hs n).1.size ≤ 1048576 := hdOf_size (hds_size hr) n
theorem req_p {r : Rq} (h : szR (dRq r) ≤ 1048576) : r.p.size ≤ 1048576 := by
  have e : szR (dRq r) = r.m.size + r.p.size + szRs (r.hs.map dHd) + r.b.size := by
    simp [dRq, szR, szF, szV]; try omega
  omega

set_option maxRecDepth 100000 in
set_option maxHeartbeats 2000000 in
theorem toOf_gen (r : Rq) (h : Value) (W : World) (hh : View W W.heap.size h (.l (r.hs.map dHd))) (hr : szR (dRq r) ≤ 1048576) :
    Calls Tryz.prog 70 #[.agg #[.string r.m, .string r.p, h, .string r.b]] W fun e w' => (∃ v, e = .returned (.tuple #[v, .bool (dstV r).2]) ∧ OwnS w' W.heap.size v (dstV r).1) ∧ Below W.heap.size W w' := by
  have K0 := hide (show Below W.heap.size W (W.alloc (Obj.cells #[.string r.m, .string r.p, h, .string r.b] 43)) from (Below.refl _ _).alloc (Nat.le_refl _) _)
  have X0 := hide (BoxV.made W [.string r.m, .string r.p, h, .string r.b] 43)
  have HH := hide (fun W' (hb : Below W.heap.size W W') => head_gen r.hs destN h W' (hh.atI hb) (req_sz hr))
  have HS := hide (head_size destN (req_sz hr))
  unfold dstV
  generalize (hdOf r.hs destN).1 = v at *
  generalize (hdOf r.hs destN).2 = b at *
  have HP := hide (fun W' => parsePath_any v W' HS.out)
  have c2 := (X0.out.2 2 _ rfl).1
  clear hh hr
  unfold destN at HH
  go_enter Tryz.func70, Tryz.ntmps70
  go_wp2_with fail
  refine (HH.out _ K0.out).mono ?_
  rintro e w1 ⟨rfl, b1⟩
  have K1 := hide (K0.out.trans (b1.mono K0.out.size))
  clear b1 c2
  go_wp2_with fail
  refine (HP.out _).mono ?_
  rintro e w2 ⟨⟨p, rfl, ho⟩, b2⟩
  have K2 := hide (K1.out.trans (b2.mono K1.out.size))
  have HO := hide (show OwnS w2 W.heap.size p _ from by
    obtain ⟨g, cap, e1, e2, e3, e4, e5, e6⟩ := ho
    exact ⟨g, cap, e1, e2, e3, Nat.le_trans K1.out.size e4, e5, e6⟩)
  clear b2 ho
  go_wp2
  go_ret2
  exact ⟨⟨_, rfl, HO.out⟩, K2.out⟩

set_option maxRecDepth 100000 in
set_option maxHeartbeats 2000000 in
theorem ifOf_gen (r : Rq) (h : Value) (W : World) (hh : View W W.heap.size h (.l (r.hs.map dHd))) (hr : szR (dRq r) ≤ 1048576) :
    Calls Tryz.prog 65 #[.agg #[.string r.m, .string r.p, h, .string r.b]] W fun e w' => (∃ v, e = .returned (.tuple #[v, .bool (ifV r).2, .bool (ifOkB r)]) ∧ View w' w'.heap.size v (.l ((ifLs (ifV r).1).map dCs))) ∧ Below W.heap.size W w' := by
  have K0 := hide (show Below W.heap.size W (W.alloc (Obj.cells #[.string r.m, .string r.p, h, .string r.b] 43)) from (Below.refl _ _).alloc (Nat.le_refl _) _)
  have X0 := hide (BoxV.made W [.string r.m, .string r.p, h, .string r.b] 43)
  have HH := hide (fun W' (hb : Below W.heap.size W W') => head_gen r.hs ifN h W' (hh.atI hb) (req_sz hr))
  have HS := hide (head_size ifN (req_sz hr))
  unfold ifOkB ifV
  generalize (hdOf r.hs ifN).1 = v at *
  generalize (hdOf r.hs ifN).2 = b at *
  have HP := hide (fun W' => parseIf_gen v W' HS.out)
  generalize ifLs v = ls at *
  generalize (ifL v.data.toList).isSome = q at *
  have c2 := (X0.out.2 2 _ rfl).1
  clear hh hr
  unfold ifN at HH
  go_enter Tryz.func65, Tryz.ntmps65
  go_wp2_with fail
  refine (HH.out _ K0.out).mono ?_
  rintro e w1 ⟨rfl, b1⟩
  have K1 := hide (K0.out.trans (b1.mono K0.out.size))
  clear b1 c2
  go_wp2_with fail
  refine (HP.out _).mono ?_
  rintro e w2 ⟨⟨p, rfl, ho⟩, b2⟩
  have K2 := hide (K1.out.trans (b2.mono K1.out.size))
  have HO := hide (ho.vw (B := w2.heap.size) (Nat.le_refl _))
  clear b2 ho
  go_wp2
  refine bodyPost_ret (v := .tuple #[p, .bool b, .bool q]) (by simp [results, Tryz.results65, go_sem]) rfl ⟨⟨_, rfl, HO.out⟩, K2.out⟩

set_option maxRecDepth 100000 in
set_option maxHeartbeats 4000000 in
theorem lookAtPath_gen (x : Sv) (r : Rq) (a : Ak) (u0 u1 u4 u5 h p0 p1 p4 : Value) (W : World) (hr : szR (dRq r) ≤ 1048576) :
    Calls Tryz.prog 102 #[.agg #[u0, u1, .int .i64 x.now, .int .i64 x.ver, u4, u5, .string r.m, .string r.p, h, .string r.b, p0, p1, .bool a.de, .bool a.ov, p4, .int .i64 a.co]] W fun e w' => e = .returned (.int .i64 (cPath r)) ∧ Below W.heap.size W w' := by
  have K0 := hide (show Below W.heap.size W (W.alloc (Obj.cells #[u0, u1, .int .i64 x.now, .int .i64 x.ver, u4, u5, .string r.m, .string r.p, h, .string r.b, p0, p1, .bool a.de, .bool a.ov, p4, .int .i64 a.co] 69)) from (Below.refl _ _).alloc (Nat.le_refl _) _)
  have X0 := hide (BoxV.made W [u0, u1, .int .i64 x.now, .int .i64 x.ver, u4, u5, .string r.m, .string r.p, h, .string r.b, p0, p1, .bool a.de, .bool a.ov, p4, .int .i64 a.co] 69)
  have HP := hide (fun W' => parsePath_any r.p W' (req_p hr))
  unfold cPath pthV
  generalize parseP r.p.data.toList = pp at *
  clear hr
  go_enter Tryz.func102, Tryz.ntmps102
  have c7 := (X0.out.2 7 _ rfl).1
  go_wp2_with fail
  refine (HP.out _).mono ?_
  rintro e w1 ⟨⟨p, rfl, _⟩, b1⟩
  have K1 := hide (K0.out.trans (b1.mono K0.out.size))
  have X1 := hide (X0.out.next b1)
  clear b1 X0 c7
  go_wp2_with fail
  refine (codeWhere_any (!pp.2) 400 _).mono ?_
  rintro e w2 ⟨rfl, b2⟩
  have K2 := hide (K1.out.trans (b2.mono K1.out.size))
  have X2 := hide (X1.out.next b2)
  clear b2 X1
  go_wp2
  go_ret
  exact ⟨rfl, K2.out⟩

set_option maxRecDepth 100000 in
set_option maxHeartbeats 4000000 in
theorem lookAtMethod_gen (x : Sv) (r : Rq) (a : Ak) (u0 u1 u4 u5 h p0 p1 p4 : Value) (W : World)  :
    Calls Tryz.prog 103 #[.agg #[u0, u1, .int .i64 x.now, .int .i64 x.ver, u4, u5, .string r.m, .string r.p, h, .string r.b, p0, p1, .bool a.de, .bool a.ov, p4, .int .i64 a.co]] W fun e w' => e = .returned (.int .i64 (cMeth r)) ∧ Below W.heap.size W w' := by
  have K0 := hide (show Below W.heap.size W (W.alloc (Obj.cells #[u0, u1, .int .i64 x.now, .int .i64 x.ver, u4, u5, .string r.m, .string r.p, h, .string r.b, p0, p1, .bool a.de, .bool a.ov, p4, .int .i64 a.co] 69)) from (Below.refl _ _).alloc (Nat.le_refl _) _)
  have X0 := hide (BoxV.made W [u0, u1, .int .i64 x.now, .int .i64 x.ver, u4, u5, .string r.m, .string r.p, h, .string r.b, p0, p1, .bool a.de, .bool a.ov, p4, .int .i64 a.co] 69)
  unfold cMeth
  go_enter Tryz.func103, Tryz.ntmps103
  have c6 := (X0.out.2 6 _ rfl).1
  go_wp2_with fail
  refine (isMethod_any r.m _).mono ?_
  rintro e w1 ⟨rfl, b1⟩
  have K1 := hide (K0.out.trans (b1.mono K0.out.size))
  have X1 := hide (X0.out.next b1)
  clear b1 X0 c6
  go_wp2_with fail
  refine (codeWhere_any (!knownB r.m) 501 _).mono ?_
  rintro e w2 ⟨rfl, b2⟩
  have K2 := hide (K1.out.trans (b2.mono K1.out.size))
  have X2 := hide (X1.out.next b2)
  clear b2 X1
  go_wp2
  go_ret
  exact ⟨rfl, K2.out⟩

set_option maxRecDepth 100000 in
set_option maxHeartbeats 4000000 in
theorem lookAtTo_gen (x : Sv) (r : Rq) (a : Ak) (u0 u1 u4 u5 h p0 p1 p4 : Value) (W : World) (hh : View W W.heap.size h (.l (r.hs.map dHd))) (hr : szR (dRq r) ≤ 1048576) :
    Calls Tryz.prog 104 #[.agg #[u0, u1, .int .i64 x.now, .int .i64 x.ver, u4, u5, .string r.m, .string r.p, h, .string r.b, p0, p1, .bool a.de, .bool a.ov, p4, .int .i64 a.co]] W fun e w' => e = .returned (.int .i64 (cTo r)) ∧ Below W.heap.size W w' := by
  have K0 := hide (show Below W.heap.size W (W.alloc (Obj.cells #[u0, u1, .int .i64 x.now, .int .i64 x.ver, u4, u5, .string r.m, .string r.p, h, .string r.b, p0, p1, .bool a.de, .bool a.ov, p4, .int .i64 a.co] 69)) from (Below.refl _ _).alloc (Nat.le_refl _) _)
  have X0 := hide (BoxV.made W [u0, u1, .int .i64 x.now, .int .i64 x.ver, u4, u5, .string r.m, .string r.p, h, .string r.b, p0, p1, .bool a.de, .bool a.ov, p4, .int .i64 a.co] 69)
  have HT := hide (fun W' (hb : Below W.heap.size W W') => toOf_gen r h W' (hh.atI hb) hr)
  have HF := hide (fun W' => isFar_any r.m W')
  unfold cTo
  generalize dstV r = dd at *
  generalize farB r.m = fb at *
  clear hh hr
  cases fb
  · go_enter Tryz.func104, Tryz.ntmps104
    have c6 := (X0.out.2 6 _ rfl).1
    have c7 := (X0.out.2 7 _ rfl).1
    have c8 := (X0.out.2 8 _ rfl).1
    have c9 := (X0.out.2 9 _ rfl).1
    go_wp2_with fail
    refine (HT.out _ K0.out).mono ?_
    rintro e w1 ⟨⟨p, rfl, _⟩, b1⟩
    have K1 := hide (K0.out.trans (b1.mono K0.out.size))
    have X1 := hide (X0.out.next b1)
    clear b1 X0 c6 c7 c8 c9
    have c6 := (X1.out.2 6 _ rfl).1
    go_wp2_with fail
    refine (HF.out _).mono ?_
    rintro e w2 ⟨rfl, b2⟩
    have K2 := hide (K1.out.trans (b2.mono K1.out.size))
    have X2 := hide (X1.out.next b2)
    clear b2 X1 c6
    go_wp2_with fail
    refine (codeWhere_any false 400 _).mono ?_
    rintro e w3 ⟨rfl, b3⟩
    have K3 := hide (K2.out.trans (b3.mono K2.out.size))
    have X3 := hide (X2.out.next b3)
    clear b3 X2
    go_wp2
    go_ret
    exact ⟨rfl, K3.out⟩
  · go_enter Tryz.func104, Tryz.ntmps104
    have c6 := (X0.out.2 6 _ rfl).1
    have c7 := (X0.out.2 7 _ rfl).1
    have c8 := (X0.out.2 8 _ rfl).1
    have c9 := (X0.out.2 9 _ rfl).1
    go_wp2_with fail
    refine (HT.out _ K0.out).mono ?_
    rintro e w1 ⟨⟨p, rfl, _⟩, b1⟩
    have K1 := hide (K0.out.trans (b1.mono K0.out.size))
    have X1 := hide (X0.out.next b1)
    clear b1 X0 c6 c7 c8 c9
    have c6 := (X1.out.2 6 _ rfl).1
    go_wp2_with fail
    refine (HF.out _).mono ?_
    rintro e w2 ⟨rfl, b2⟩
    have K2 := hide (K1.out.trans (b2.mono K1.out.size))
    have X2 := hide (X1.out.next b2)
    clear b2 X1 c6
    go_wp2_with fail
    refine (codeWhere_any (!dd.2) 400 _).mono ?_
    rintro e w3 ⟨rfl, b3⟩
    have K3 := hide (K2.out.trans (b3.mono K2.out.size))
    have X3 := hide (X2.out.next b3)
    clear b3 X2
    go_wp2
    go_ret
    exact ⟨rfl, K3.out⟩

theorem depI_cases (hs : List Hd) (m : Int) (hm : m = 2 := by rfl) : depI hs m = -1 ∨ depI hs m = 0 ∨ depI hs m = 1 ∨ depI hs m = 2 := by
  unfold depI depV
  split
  · split
    · exact .inr (.inl rfl)
    · split
      · exact .inr (.inr (.inl rfl))
      · split
        · exact .inr (.inr (.inr rfl))
        · exact .inl rfl
  · exact .inr (.inr (.inr hm))

set_option maxRecDepth 100000 in
set_option maxHeartbeats 4000000 in
theorem lookAtDepth_gen (x : Sv) (r : Rq) (a : Ak) (u0 u1 u4 u5 h p0 p1 p4 : Value) (W : World) (hh : View W W.heap.size h (.l (r.hs.map dHd))) (hr : szR (dRq r) ≤ 1048576) :
    Calls Tryz.prog 105 #[.agg #[u0, u1, .int .i64 x.now, .int .i64 x.ver, u4, u5, .string r.m, .string r.p, h, .string r.b, p0, p1, .bool a.de, .bool a.ov, p4, .int .i64 a.co]] W fun e w' => e = .returned (.int .i64 (cDep r)) ∧ Below W.heap.size W w' := by
  have K0 := hide (show Below W.heap.size W (W.alloc (Obj.cells #[u0, u1, .int .i64 x.now, .int .i64 x.ver, u4, u5, .string r.m, .string r.p, h, .string r.b, p0, p1, .bool a.de, .bool a.ov, p4, .int .i64 a.co] 69)) from (Below.refl _ _).alloc (Nat.le_refl _) _)
  have X0 := hide (BoxV.made W [u0, u1, .int .i64 x.now, .int .i64 x.ver, u4, u5, .string r.m, .string r.p, h, .string r.b, p0, p1, .bool a.de, .bool a.ov, p4, .int .i64 a.co] 69)
  have HD := hide (fun W' (hb : Below W.heap.size W W') => depth_gen r 2 h W' (hh.atI hb) hr)
  have hd := depI_cases r.hs 2
  unfold cDep depOkB
  generalize depI r.hs 2 = d at *
  have f0 := eq_MOVE r.m
  have f1 := eq_DELETE r.m
  have f2 := ne_PROPFIND r.m
  have f3 := eq_PROPFIND r.m
  generalize decide (r.m = mMOVE) = b0 at *
  generalize decide (r.m = mDELETE) = b1 at *
  generalize decide (r.m = mPROPFIND) = b2 at *
  clear hh hr
  rcases hd with rfl | rfl | rfl | rfl
  · go_enter Tryz.func105, Tryz.ntmps105
    have c6 := (X0.out.2 6 _ rfl).1
    have c7 := (X0.out.2 7 _ rfl).1
    have c8 := (X0.out.2 8 _ rfl).1
    have c9 := (X0.out.2 9 _ rfl).1
    go_wp2_with fail
    refine (HD.out _ K0.out).mono ?_
    rintro e w1 ⟨rfl, b1⟩
    have K1 := hide (K0.out.trans (b1.mono K0.out.size))
    have X1 := hide (X0.out.next b1)
    clear b1 X0 c6 c7 c8 c9
    go_wp2_with fail
    refine (codeWhere_any true 400 _).mono ?_
    rintro e w2 ⟨rfl, b2⟩
    have K2 := hide (K1.out.trans (b2.mono K1.out.size))
    have X2 := hide (X1.out.next b2)
    clear b2 X1
    go_wp2
    go_ret
    exact ⟨rfl, K2.out⟩
  · cases b0
    · rw [show (!(if (0 : Int) = 0 then (!false && !b1) else if (0 : Int) = 1 then b2 else decide ((0 : Int) = 2))) = b1 by cases b1 <;> rfl]
      go_enter Tryz.func105, Tryz.ntmps105
      have c6 := (X0.out.2 6 _ rfl).1
      have c7 := (X0.out.2 7 _ rfl).1
      have c8 := (X0.out.2 8 _ rfl).1
      have c9 := (X0.out.2 9 _ rfl).1
      go_wp2_with fail
      refine (HD.out _ K0.out).mono ?_
      rintro e w1 ⟨rfl, b1⟩
      have K1 := hide (K0.out.trans (b1.mono K0.out.size))
      have X1 := hide (X0.out.next b1)
      clear b1 X0 c6 c7 c8 c9
      have c6 := (X1.out.2 6 _ rfl).1
      go_wp2_with fail
      refine (codeWhere_any b1 400 _).mono ?_
      rintro e w2 ⟨rfl, b2⟩
      have K2 := hide (K1.out.trans (b2.mono K1.out.size))
      have X2 := hide (X1.out.next b2)
      clear b2 X1 c6
      go_wp2
      go_ret
      exact ⟨rfl, K2.out⟩
    · rw [show (!(if (0 : Int) = 0 then (!true && !b1) else if (0 : Int) = 1 then b2 else decide ((0 : Int) = 2))) = true by cases b1 <;> rfl]
      go_enter Tryz.func105, Tryz.ntmps105
      have c6 := (X0.out.2 6 _ rfl).1
      have c7 := (X0.out.2 7 _ rfl).1
      have c8 := (X0.out.2 8 _ rfl).1
      have c9 := (X0.out.2 9 _ rfl).1
      go_wp2_with fail
      refine (HD.out _ K0.out).mono ?_
      rintro e w1 ⟨rfl, b1⟩
      have K1 := hide (K0.out.trans (b1.mono K0.out.size))
      have X1 := hide (X0.out.next b1)
      clear b1 X0 c6 c7 c8 c9
      have c6 := (X1.out.2 6 _ rfl).1
      go_wp2_with fail
      refine (codeWhere_any true 400 _).mono ?_
      rintro e w2 ⟨rfl, b2⟩
      have K2 := hide (K1.out.trans (b2.mono K1.out.size))
      have X2 := hide (X1.out.next b2)
      clear b2 X1 c6
      go_wp2
      go_ret
      exact ⟨rfl, K2.out⟩
  · cases b2
    · rw [show (!(if (1 : Int) = 0 then (!b0 && !b1) else if (1 : Int) = 1 then false else decide ((1 : Int) = 2))) = true by rfl]
      go_enter Tryz.func105, Tryz.ntmps105
      have c6 := (X0.out.2 6 _ rfl).1
      have c7 := (X0.out.2 7 _ rfl).1
      have c8 := (X0.out.2 8 _ rfl).1
      have c9 := (X0.out.2 9 _ rfl).1
      go_wp2_with fail
      refine (HD.out _ K0.out).mono ?_
      rintro e w1 ⟨rfl, b1⟩
      have K1 := hide (K0.out.trans (b1.mono K0.out.size))
      have X1 := hide (X0.out.next b1)
      clear b1 X0 c6 c7 c8 c9
      have c6 := (X1.out.2 6 _ rfl).1
      go_wp2_with fail
      refine (codeWhere_any true 400 _).mono ?_
      rintro e w2 ⟨rfl, b2⟩
      have K2 := hide (K1.out.trans (b2.mono K1.out.size))
      have X2 := hide (X1.out.next b2)
      clear b2 X1 c6
      go_wp2
      go_ret
      exact ⟨rfl, K2.out⟩
    · rw [show (!(if (1 : Int) = 0 then (!b0 && !b1) else if (1 : Int) = 1 then true else decide ((1 : Int) = 2))) = false by rfl]
      go_enter Tryz.func105, Tryz.ntmps105
      have c6 := (X0.out.2 6 _ rfl).1
      have c7 := (X0.out.2 7 _ rfl).1
      have c8 := (X0.out.2 8 _ rfl).1
      have c9 := (X0.out.2 9 _ rfl).1
      go_wp2_with fail
      refine (HD.out _ K0.out).mono ?_
      rintro e w1 ⟨rfl, b1⟩
      have K1 := hide (K0.out.trans (b1.mono K0.out.size))
      have X1 := hide (X0.out.next b1)
      clear b1 X0 c6 c7 c8 c9
      have c6 := (X1.out.2 6 _ rfl).1
      go_wp2_with fail
      refine (codeWhere_any false 400 _).mono ?_
      rintro e w2 ⟨rfl, b2⟩
      have K2 := hide (K1.out.trans (b2.mono K1.out.size))
      have X2 := hide (X1.out.next b2)
      clear b2 X1 c6
      go_wp2
      go_ret
      exact ⟨rfl, K2.out⟩
  · rw [show (!(if (2 : Int) = 0 then (!b0 && !b1) else if (2 : Int) = 1 then b2 else decide ((2 : Int) = 2))) = false by rfl]
    go_enter Tryz.func105, Tryz.ntmps105
    have c6 := (X0.out.2 6 _ rfl).1
    have c7 := (X0.out.2 7 _ rfl).1
    have c8 := (X0.out.2 8 _ rfl).1
    have c9 := (X0.out.2 9 _ rfl).1
    go_wp2_with fail
    refine (HD.out _ K0.out).mono ?_
    rintro e w1 ⟨rfl, b1⟩
    have K1 := hide (K0.out.trans (b1.mono K0.out.size))
    have X1 := hide (X0.out.next b1)
    clear b1 X0 c6 c7 c8 c9
    go_wp2_with fail
    refine (codeWhere_any false 400 _).mono ?_
    rintro e w2 ⟨rfl, b2⟩
    have K2 := hide (K1.out.trans (b2.mono K1.out.size))
    have X2 := hide (X1.out.next b2)
    clear b2 X1
    go_wp2
    go_ret
    exact ⟨rfl, K2.out⟩

set_option maxRecDepth 100000 in
set_option maxHeartbeats 4000000 in
theorem lookAtIfForm_gen (x : Sv) (r : Rq) (a : Ak) (u0 u1 u4 u5 h p0 p1 p4 : Value) (W : World) (hh : View W W.heap.size h (.l (r.hs.map dHd))) (hr : szR (dRq r) ≤ 1048576) :
    Calls Tryz.prog 106 #[.agg #[u0, u1, .int .i64 x.now, .int .i64 x.ver, u4, u5, .string r.m, .string r.p, h, .string r.b, p0, p1, .bool a.de, .bool a.ov, p4, .int .i64 a.co]] W fun e w' => e = .returned (.int .i64 (cIfF r)) ∧ Below W.heap.size W w' := by
  have K0 := hide (show Below W.heap.size W (W.alloc (Obj.cells #[u0, u1, .int .i64 x.now, .int .i64 x.ver, u4, u5, .string r.m, .string r.p, h, .string r.b, p0, p1, .bool a.de, .bool a.ov, p4, .int .i64 a.co] 69)) from (Below.refl _ _).alloc (Nat.le_refl _) _)
  have X0 := hide (BoxV.made W [u0, u1, .int .i64 x.now, .int .i64 x.ver, u4, u5, .string r.m, .string r.p, h, .string r.b, p0, p1, .bool a.de, .bool a.ov, p4, .int .i64 a.co] 69)
  have HI := hide (fun W' (hb : Below W.heap.size W W') => ifOf_gen r h W' (hh.atI hb) hr)
  unfold cIfF
  generalize ifOkB r = q at *
  generalize (ifV r).2 = told at *
  clear hh hr
  cases told
  · go_enter Tryz.func106, Tryz.ntmps106
    have c6 := (X0.out.2 6 _ rfl).1
    have c7 := (X0.out.2 7 _ rfl).1
    have c8 := (X0.out.2 8 _ rfl).1
    have c9 := (X0.out.2 9 _ rfl).1
    go_wp2_with fail
    refine (HI.out _ K0.out).mono ?_
    rintro e w1 ⟨⟨p, rfl, _⟩, b1⟩
    have K1 := hide (K0.out.trans (b1.mono K0.out.size))
    have X1 := hide (X0.out.next b1)
    clear b1 X0 c6 c7 c8 c9
    go_wp2_with fail
    refine (codeWhere_any false 400 _).mono ?_
    rintro e w2 ⟨rfl, b2⟩
    have K2 := hide (K1.out.trans (b2.mono K1.out.size))
    have X2 := hide (X1.out.next b2)
    clear b2 X1
    go_wp2
    go_ret
    exact ⟨rfl, K2.out⟩
  · go_enter Tryz.func106, Tryz.ntmps106
    have c6 := (X0.out.2 6 _ rfl).1
    have c7 := (X0.out.2 7 _ rfl).1
    have c8 := (X0.out.2 8 _ rfl).1
    have c9 := (X0.out.2 9 _ rfl).1
    go_wp2_with fail
    refine (HI.out _ K0.out).mono ?_
    rintro e w1 ⟨⟨p, rfl, _⟩, b1⟩
    have K1 := hide (K0.out.trans (b1.mono K0.out.size))
    have X1 := hide (X0.out.next b1)
    clear b1 X0 c6 c7 c8 c9
    go_wp2_with fail
    refine (codeWhere_any (!q) 400 _).mono ?_
    rintro e w2 ⟨rfl, b2⟩
    have K2 := hide (K1.out.trans (b2.mono K1.out.size))
    have X2 := hide (X1.out.next b2)
    clear b2 X1
    go_wp2
    go_ret
    exact ⟨rfl, K2.out⟩

set_option maxRecDepth 100000 in
set_option maxHeartbeats 4000000 in
theorem lookAtIf_gen (x : Sv) (r : Rq) (a : Ak) (u0 u1 u4 u5 h p0 p1 p4 : Value) (W : World) (hh : View W W.heap.size h (.l (r.hs.map dHd))) (hr : szR (dRq r) ≤ 1048576) (h0 : View W W.heap.size u0 (.l (x.t.map dRs))) (h1 : View W W.heap.size u1 (.l (x.l.map dLk))) (h4 : View W W.heap.size u4 (.l (x.dr.map dI))) (h5 : View W W.heap.size u5 (.l (x.us.map dI))) (hsz : szR (dSv x) ≤ 1048576) (ok : okR (dSv x)) (k0 : View W W.heap.size p0 (.l (a.pa.map dS))) (hal : a.pa.length ≤ 1048576) (hp : PowTab W) :
    Calls Tryz.prog 107 #[.agg #[u0, u1, .int .i64 x.now, .int .i64 x.ver, u4, u5, .string r.m, .string r.p, h, .string r.b, p0, p1, .bool a.de, .bool a.ov, p4, .int .i64 a.co]] W fun e w' => e = .returned (.int .i64 (cIf x r a.pa)) ∧ Below W.heap.size W w' := by
  have K0 := hide (show Below W.heap.size W (W.alloc (Obj.cells #[u0, u1, .int .i64 x.now, .int .i64 x.ver, u4, u5, .string r.m, .string r.p, h, .string r.b, p0, p1, .bool a.de, .bool a.ov, p4, .int .i64 a.co] 69)) from (Below.refl _ _).alloc (Nat.le_refl _) _)
  have X0 := hide (BoxV.made W [u0, u1, .int .i64 x.now, .int .i64 x.ver, u4, u5, .string r.m, .string r.p, h, .string r.b, p0, p1, .bool a.de, .bool a.ov, p4, .int .i64 a.co] 69)
  have HI := hide (fun W' (hb : Below W.heap.size W W') => ifOf_gen r h W' (hh.atI hb) hr)
  have HT := hide (fun W' (hb : Below W.heap.size W W') => tagAt_gen x a.pa u0 u1 u4 u5 p0 W' (h0.atI hb) (h1.atI hb) (h4.atI hb) (h5.atI hb) (k0.atI hb) hsz ok (hp.below hb))
  have HK := hide (fun W' (hb : Below W.heap.size W W') => tokens_gen x.l a.pa u1 p0 W' (h1.atI hb) (k0.atI hb) (sv_small hsz).l)
  have HK := hide (fun W' (hb : Below W.heap.size W W') => (HK.out W' hb).mono (fun e w2 q => (⟨by obtain ⟨⟨v, e1, e2⟩, _⟩ := q; exact ⟨v, e1, e2.vw (Nat.le_refl _)⟩, q.2⟩ : (∃ v : Value, e = .returned v ∧ View w2 w2.heap.size v (.l ((tokL x.l a.pa).map dI))) ∧ Below W'.heap.size W' w2)))
  have htl : (tokL x.l a.pa).length ≤ 1048576 := by
    unfold tokL
    rw [List.length_map]
    exact Nat.le_trans (List.length_filter_le _ _) (sv_small hsz).llen
  have HE := hide (fun W' (p q : Value) (hv : View W' W'.heap.size p (.l ((ifLs (ifV r).1).map dCs))) (hq : View W' W'.heap.size q (.l ((tokL x.l a.pa).map dI))) => eval_gen (ifLs (ifV r).1) (tokL x.l a.pa) (tagAtT x a.pa) p q W' hv hq (if_small _) htl)
  unfold cIf
  generalize evalI (ifLs (ifV r).1) (tokL x.l a.pa) (tagAtT x a.pa) = z at *
  generalize tagAtT x a.pa = tt at *
  generalize tagAtB x a.pa = tb at *
  generalize ifOkB r = q9 at *
  generalize (ifV r).2 = told at *
  clear hh hr h0 h1 h4 h5 k0 hsz ok hp
  cases told
  · go_enter Tryz.func107, Tryz.ntmps107
    have c6 := (X0.out.2 6 _ rfl).1
    have c7 := (X0.out.2 7 _ rfl).1
    have c8 := (X0.out.2 8 _ rfl).1
    have c9 := (X0.out.2 9 _ rfl).1
    go_wp2_with fail
    refine (HI.out _ K0.out).mono ?_
    rintro e w1 ⟨⟨p, rfl, hv⟩, b1⟩
    have K1 := hide (K0.out.trans (b1.mono K0.out.size))
    have X1 := hide (X0.out.next b1)
    have V1 := hide hv
    clear hv
    clear b1 X0 c6 c7 c8 c9
    have c0 := (X1.out.2 0 _ rfl).1
    have c1 := (X1.out.2 1 _ rfl).1
    have c2 := (X1.out.2 2 _ rfl).1
    have c3 := (X1.out.2 3 _ rfl).1
    have c4 := (X1.out.2 4 _ rfl).1
    have c5 := (X1.out.2 5 _ rfl).1
    have c10 := (X1.out.2 10 _ rfl).1
    go_wp2_with fail
    refine (HT.out _ K1.out).mono ?_
    rintro e w2 ⟨rfl, b2⟩
    have K2 := hide (K1.out.trans (b2.mono K1.out.size))
    have X2 := hide (X1.out.next b2)
    have V2 := hide (V1.out.atI b2)
    clear V1
    clear b2 X1 c0 c1 c2 c3 c4 c5 c10
    go_wp2_with fail
    refine (codeWhere_any false 412 _).mono ?_
    rintro e w3 ⟨rfl, b3⟩
    have K3 := hide (K2.out.trans (b3.mono K2.out.size))
    have X3 := hide (X2.out.next b3)
    clear b3 X2
    go_wp2
    go_ret
    exact ⟨rfl, K3.out⟩
  · go_enter Tryz.func107, Tryz.ntmps107
    have c6 := (X0.out.2 6 _ rfl).1
    have c7 := (X0.out.2 7 _ rfl).1
    have c8 := (X0.out.2 8 _ rfl).1
    have c9 := (X0.out.2 9 _ rfl).1
    go_wp2_with fail
    refine (HI.out _ K0.out).mono ?_
    rintro e w1 ⟨⟨p, rfl, hv⟩, b1⟩
    have K1 := hide (K0.out.trans (b1.mono K0.out.size))
    have X1 := hide (X0.out.next b1)
    have V1 := hide hv
    clear hv
    clear b1 X0 c6 c7 c8 c9
    have c0 := (X1.out.2 0 _ rfl).1
    have c1 := (X1.out.2 1 _ rfl).1
    have c2 := (X1.out.2 2 _ rfl).1
    have c3 := (X1.out.2 3 _ rfl).1
    have c4 := (X1.out.2 4 _ rfl).1
    have c5 := (X1.out.2 5 _ rfl).1
    have c10 := (X1.out.2 10 _ rfl).1
    go_wp2_with fail
    refine (HT.out _ K1.out).mono ?_
    rintro e w2 ⟨rfl, b2⟩
    have K2 := hide (K1.out.trans (b2.mono K1.out.size))
    have X2 := hide (X1.out.next b2)
    have V2 := hide (V1.out.atI b2)
    clear V1
    clear b2 X1 c0 c1 c2 c3 c4 c5 c10
    have c1 := (X2.out.2 1 _ rfl).1
    have c10 := (X2.out.2 10 _ rfl).1
    go_wp2_with fail
    refine (HK.out _ K2.out).mono ?_
    rintro e w3 ⟨⟨q, rfl, hv⟩, b3⟩
    have K3 := hide (K2.out.trans (b3.mono K2.out.size))
    have X3 := hide (X2.out.next b3)
    have V3 := hide (V2.out.atI b3)
    have U3 := hide hv
    clear V2 hv
    clear b3 X2 c1 c10
    go_wp2_with fail
    refine (HE.out _ p q V3.out U3.out).mono ?_
    rintro e w4 ⟨rfl, b4⟩
    have K4 := hide (K3.out.trans (b4.mono K3.out.size))
    have X4 := hide (X3.out.next b4)
    clear b4 X3
    go_wp2_with fail
    refine (codeWhere_any (!z) 412 _).mono ?_
    rintro e w5 ⟨rfl, b5⟩
    have K5 := hide (K4.out.trans (b5.mono K4.out.size))
    have X5 := hide (X4.out.next b5)
    clear b5 X4
    go_wp2
    go_ret
    exact ⟨rfl, K5.out⟩

set_option maxRecDepth 100000 in
set_option maxHeartbeats 4000000 in
theorem lookAtMatch_gen (x : Sv) (r : Rq) (a : Ak) (u0 u1 u4 u5 h p0 p1 p4 : Value) (W : World) (hh : View W W.heap.size h (.l (r.hs.map dHd))) (hr : szR (dRq r) ≤ 1048576) (h0 : View W W.heap.size u0 (.l (x.t.map dRs))) (h1 : View W W.heap.size u1 (.l (x.l.map dLk))) (h4 : View W W.heap.size u4 (.l (x.dr.map dI))) (h5 : View W W.heap.size u5 (.l (x.us.map dI))) (hsz : szR (dSv x) ≤ 1048576) (ok : okR (dSv x)) (k0 : View W W.heap.size p0 (.l (a.pa.map dS))) (hal : a.pa.length ≤ 1048576) (hp : PowTab W) :
    Calls Tryz.prog 108 #[.agg #[u0, u1, .int .i64 x.now, .int .i64 x.ver, u4, u5, .string r.m, .string r.p, h, .string r.b, p0, p1, .bool a.de, .bool a.ov, p4, .int .i64 a.co]] W fun e w' => e = .returned (.int .i64 (cMat x r a.pa)) ∧ Below W.heap.size W w' := by
  have K0 := hide (show Below W.heap.size W (W.alloc (Obj.cells #[u0, u1, .int .i64 x.now, .int .i64 x.ver, u4, u5, .string r.m, .string r.p, h, .string r.b, p0, p1, .bool a.de, .bool a.ov, p4, .int .i64 a.co] 69)) from (Below.refl _ _).alloc (Nat.le_refl _) _)
  have X0 := hide (BoxV.made W [u0, u1, .int .i64 x.now, .int .i64 x.ver, u4, u5, .string r.m, .string r.p, h, .string r.b, p0, p1, .bool a.de, .bool a.ov, p4, .int .i64 a.co] 69)
  have HH := hide (fun W' (hb : Below W.heap.size W W') => head_gen r.hs matchN h W' (hh.atI hb) (req_sz hr))
  have HS := hide (head_size matchN (req_sz hr))
  have HT := hide (fun W' (hb : Below W.heap.size W W') => tagAt_gen x a.pa u0 u1 u4 u5 p0 W' (h0.atI hb) (h1.atI hb) (h4.atI hb) (h5.atI hb) (k0.atI hb) hsz ok (hp.below hb))
  unfold cMat
  generalize tagAtT x a.pa = tt at *
  generalize tagAtB x a.pa = tb at *
  generalize (hdOf r.hs matchN).1 = v at *
  generalize (hdOf r.hs matchN).2 = told at *
  have HM := hide (fun W' => matchOk_any v tt tb W' HS.out)
  generalize namB v.data.toList tt = nb at *
  generalize (tb && nb) = z at HM ⊢
  unfold matchN at HH
  clear hh hr h0 h1 h4 h5 k0 hsz ok hp
  cases told
  · go_enter Tryz.func108, Tryz.ntmps108
    have c8 := (X0.out.2 8 _ rfl).1
    go_wp2_with fail
    refine (HH.out _ K0.out).mono ?_
    rintro e w1 ⟨rfl, b1⟩
    have K1 := hide (K0.out.trans (b1.mono K0.out.size))
    have X1 := hide (X0.out.next b1)
    clear b1 X0 c8
    have c0 := (X1.out.2 0 _ rfl).1
    have c1 := (X1.out.2 1 _ rfl).1
    have c2 := (X1.out.2 2 _ rfl).1
    have c3 := (X1.out.2 3 _ rfl).1
    have c4 := (X1.out.2 4 _ rfl).1
    have c5 := (X1.out.2 5 _ rfl).1
    have c10 := (X1.out.2 10 _ rfl).1
    go_wp2_with fail
    refine (HT.out _ K1.out).mono ?_
    rintro e w2 ⟨rfl, b2⟩
    have K2 := hide (K1.out.trans (b2.mono K1.out.size))
    have X2 := hide (X1.out.next b2)
    clear b2 X1 c0 c1 c2 c3 c4 c5 c10
    go_wp2_with fail
    refine (codeWhere_any false 412 _).mono ?_
    rintro e w3 ⟨rfl, b3⟩
    have K3 := hide (K2.out.trans (b3.mono K2.out.size))
    have X3 := hide (X2.out.next b3)
    clear b3 X2
    go_wp2
    go_ret
    exact ⟨rfl, K3.out⟩
  · go_enter Tryz.func108, Tryz.ntmps108
    have c8 := (X0.out.2 8 _ rfl).1
    go_wp2_with fail
    refine (HH.out _ K0.out).mono ?_
    rintro e w1 ⟨rfl, b1⟩
    have K1 := hide (K0.out.trans (b1.mono K0.out.size))
    have X1 := hide (X0.out.next b1)
    clear b1 X0 c8
    have c0 := (X1.out.2 0 _ rfl).1
    have c1 := (X1.out.2 1 _ rfl).1
    have c2 := (X1.out.2 2 _ rfl).1
    have c3 := (X1.out.2 3 _ rfl).1
    have c4 := (X1.out.2 4 _ rfl).1
    have c5 := (X1.out.2 5 _ rfl).1
    have c10 := (X1.out.2 10 _ rfl).1
    go_wp2_with fail
    refine (HT.out _ K1.out).mono ?_
    rintro e w2 ⟨rfl, b2⟩
    have K2 := hide (K1.out.trans (b2.mono K1.out.size))
    have X2 := hide (X1.out.next b2)
    clear b2 X1 c0 c1 c2 c3 c4 c5 c10
    go_wp2_with fail
    refine (HM.out _).mono ?_
    rintro e w3 ⟨rfl, b3⟩
    have K3 := hide (K2.out.trans (b3.mono K2.out.size))
    have X3 := hide (X2.out.next b3)
    clear b3 X2
    go_wp2_with fail
    refine (codeWhere_any (!z) 412 _).mono ?_
    rintro e w4 ⟨rfl, b4⟩
    have K4 := hide (K3.out.trans (b4.mono K3.out.size))
    have X4 := hide (X3.out.next b4)
    clear b4 X3
    go_wp2
    go_ret
    exact ⟨rfl, K4.out⟩

set_option maxRecDepth 100000 in
set_option maxHeartbeats 4000000 in
theorem lookAtNone_gen (x : Sv) (r : Rq) (a : Ak) (u0 u1 u4 u5 h p0 p1 p4 : Value) (W : World) (hh : View W W.heap.size h (.l (r.hs.map dHd))) (hr : szR (dRq r) ≤ 1048576) (h0 : View W W.heap.size u0 (.l (x.t.map dRs))) (h1 : View W W.heap.size u1 (.l (x.l.map dLk))) (h4 : View W W.heap.size u4 (.l (x.dr.map dI))) (h5 : View W W.heap.size u5 (.l (x.us.map dI))) (hsz : szR (dSv x) ≤ 1048576) (ok : okR (dSv x)) (k0 : View W W.heap.size p0 (.l (a.pa.map dS))) (hal : a.pa.length ≤ 1048576) (hp : PowTab W) :
    Calls Tryz.prog 109 #[.agg #[u0, u1, .int .i64 x.now, .int .i64 x.ver, u4, u5, .string r.m, .string r.p, h, .string r.b, p0, p1, .bool a.de, .bool a.ov, p4, .int .i64 a.co]] W fun e w' => e = .returned (.int .i64 (cNon x r a.pa)) ∧ Below W.heap.size W w' := by
  have K0 := hide (show Below W.heap.size W (W.alloc (Obj.cells #[u0, u1, .int .i64 x.now, .int .i64 x.ver, u4, u5, .string r.m, .string r.p, h, .string r.b, p0, p1, .bool a.de, .bool a.ov, p4, .int .i64 a.co] 69)) from (Below.refl _ _).alloc (Nat.le_refl _) _)
  have X0 := hide (BoxV.made W [u0, u1, .int .i64 x.now, .int .i64 x.ver, u4, u5, .string r.m, .string r.p, h, .string r.b, p0, p1, .bool a.de, .bool a.ov, p4, .int .i64 a.co] 69)
  have HH := hide (fun W' (hb : Below W.heap.size W W') => head_gen r.hs noneN h W' (hh.atI hb) (req_sz hr))
  have HS := hide (head_size noneN (req_sz hr))
  have HT := hide (fun W' (hb : Below W.heap.size W W') => tagAt_gen x a.pa u0 u1 u4 u5 p0 W' (h0.atI hb) (h1.atI hb) (h4.atI hb) (h5.atI hb) (k0.atI hb) hsz ok (hp.below hb))
  unfold cNon
  generalize tagAtT x a.pa = tt at *
  generalize tagAtB x a.pa = tb at *
  generalize (hdOf r.hs noneN).1 = v at *
  generalize (hdOf r.hs noneN).2 = told at *
  have HM := hide (fun W' => noneOk_any v tt tb W' HS.out)
  generalize namB v.data.toList tt = nb at *
  generalize (!tb || !nb) = z at HM ⊢
  unfold noneN at HH
  have f0 := eq_GET r.m
  have f1 := eq_HEAD r.m
  generalize decide (r.m = mGET) = b0 at *
  generalize decide (r.m = mHEAD) = b1 at *
  clear hh hr h0 h1 h4 h5 k0 hsz ok hp
  cases b0
  · cases b1
    · cases told
      · go_enter Tryz.func109, Tryz.ntmps109
        have c8 := (X0.out.2 8 _ rfl).1
        go_wp2_with fail
        refine (HH.out _ K0.out).mono ?_
        rintro e w1 ⟨rfl, b1⟩
        have K1 := hide (K0.out.trans (b1.mono K0.out.size))
        have X1 := hide (X0.out.next b1)
        clear b1 X0 c8
        have c0 := (X1.out.2 0 _ rfl).1
        have c1 := (X1.out.2 1 _ rfl).1
        have c2 := (X1.out.2 2 _ rfl).1
        have c3 := (X1.out.2 3 _ rfl).1
        have c4 := (X1.out.2 4 _ rfl).1
        have c5 := (X1.out.2 5 _ rfl).1
        have c10 := (X1.out.2 10 _ rfl).1
        go_wp2_with fail
        refine (HT.out _ K1.out).mono ?_
        rintro e w2 ⟨rfl, b2⟩
        have K2 := hide (K1.out.trans (b2.mono K1.out.size))
        have X2 := hide (X1.out.next b2)
        clear b2 X1 c0 c1 c2 c3 c4 c5 c10
        have c6 := (X2.out.2 6 _ rfl).1
        go_wp2_with fail
        refine (codeWhere_any false 412 _).mono ?_
        rintro e w3 ⟨rfl, b3⟩
        have K3 := hide (K2.out.trans (b3.mono K2.out.size))
        have X3 := hide (X2.out.next b3)
        clear b3 X2 c6
        go_wp2
        go_ret
        exact ⟨rfl, K3.out⟩
      · go_enter Tryz.func109, Tryz.ntmps109
        have c8 := (X0.out.2 8 _ rfl).1
        go_wp2_with fail
        refine (HH.out _ K0.out).mono ?_
        rintro e w1 ⟨rfl, b1⟩
        have K1 := hide (K0.out.trans (b1.mono K0.out.size))
        have X1 := hide (X0.out.next b1)
        clear b1 X0 c8
        have c0 := (X1.out.2 0 _ rfl).1
        have c1 := (X1.out.2 1 _ rfl).1
        have c2 := (X1.out.2 2 _ rfl).1
        have c3 := (X1.out.2 3 _ rfl).1
        have c4 := (X1.out.2 4 _ rfl).1
        have c5 := (X1.out.2 5 _ rfl).1
        have c10 := (X1.out.2 10 _ rfl).1
        go_wp2_with fail
        refine (HT.out _ K1.out).mono ?_
        rintro e w2 ⟨rfl, b2⟩
        have K2 := hide (K1.out.trans (b2.mono K1.out.size))
        have X2 := hide (X1.out.next b2)
        clear b2 X1 c0 c1 c2 c3 c4 c5 c10
        have c6 := (X2.out.2 6 _ rfl).1
        go_wp2_with fail
        refine (HM.out _).mono ?_
        rintro e w3 ⟨rfl, b3⟩
        have K3 := hide (K2.out.trans (b3.mono K2.out.size))
        have X3 := hide (X2.out.next b3)
        clear b3 X2 c6
        go_wp2_with fail
        refine (codeWhere_any (!z) 412 _).mono ?_
        rintro e w4 ⟨rfl, b4⟩
        have K4 := hide (K3.out.trans (b4.mono K3.out.size))
        have X4 := hide (X3.out.next b4)
        clear b4 X3
        go_wp2
        go_ret
        exact ⟨rfl, K4.out⟩
    · cases told
      · go_enter Tryz.func109, Tryz.ntmps109
        have c8 := (X0.out.2 8 _ rfl).1
        go_wp2_with fail
        refine (HH.out _ K0.out).mono ?_
        rintro e w1 ⟨rfl, b1⟩
        have K1 := hide (K0.out.trans (b1.mono K0.out.size))
        have X1 := hide (X0.out.next b1)
        clear b1 X0 c8
        have c0 := (X1.out.2 0 _ rfl).1
        have c1 := (X1.out.2 1 _ rfl).1
        have c2 := (X1.out.2 2 _ rfl).1
        have c3 := (X1.out.2 3 _ rfl).1
        have c4 := (X1.out.2 4 _ rfl).1
        have c5 := (X1.out.2 5 _ rfl).1
        have c10 := (X1.out.2 10 _ rfl).1
        go_wp2_with fail
        refine (HT.out _ K1.out).mono ?_
        rintro e w2 ⟨rfl, b2⟩
        have K2 := hide (K1.out.trans (b2.mono K1.out.size))
        have X2 := hide (X1.out.next b2)
        clear b2 X1 c0 c1 c2 c3 c4 c5 c10
        have c6 := (X2.out.2 6 _ rfl).1
        go_wp2_with fail
        refine (codeWhere_any false 304 _).mono ?_
        rintro e w3 ⟨rfl, b3⟩
        have K3 := hide (K2.out.trans (b3.mono K2.out.size))
        have X3 := hide (X2.out.next b3)
        clear b3 X2 c6
        go_wp2
        go_ret
        exact ⟨rfl, K3.out⟩
      · go_enter Tryz.func109, Tryz.ntmps109
        have c8 := (X0.out.2 8 _ rfl).1
        go_wp2_with fail
        refine (HH.out _ K0.out).mono ?_
        rintro e w1 ⟨rfl, b1⟩
        have K1 := hide (K0.out.trans (b1.mono K0.out.size))
        have X1 := hide (X0.out.next b1)
        clear b1 X0 c8
        have c0 := (X1.out.2 0 _ rfl).1
        have c1 := (X1.out.2 1 _ rfl).1
        have c2 := (X1.out.2 2 _ rfl).1
        have c3 := (X1.out.2 3 _ rfl).1
        have c4 := (X1.out.2 4 _ rfl).1
        have c5 := (X1.out.2 5 _ rfl).1
        have c10 := (X1.out.2 10 _ rfl).1
        go_wp2_with fail
        refine (HT.out _ K1.out).mono ?_
        rintro e w2 ⟨rfl, b2⟩
        have K2 := hide (K1.out.trans (b2.mono K1.out.size))
        have X2 := hide (X1.out.next b2)
        clear b2 X1 c0 c1 c2 c3 c4 c5 c10
        have c6 := (X2.out.2 6 _ rfl).1
        go_wp2_with fail
        refine (HM.out _).mono ?_
        rintro e w3 ⟨rfl, b3⟩
        have K3 := hide (K2.out.trans (b3.mono K2.out.size))
        have X3 := hide (X2.out.next b3)
        clear b3 X2 c6
        go_wp2_with fail
        refine (codeWhere_any (!z) 304 _).mono ?_
        rintro e w4 ⟨rfl, b4⟩
        have K4 := hide (K3.out.trans (b4.mono K3.out.size))
        have X4 := hide (X3.out.next b4)
        clear b4 X3
        go_wp2
        go_ret
        exact ⟨rfl, K4.out⟩
  · cases told
    · go_enter Tryz.func109, Tryz.ntmps109
      have c8 := (X0.out.2 8 _ rfl).1
      go_wp2_with fail
      refine (HH.out _ K0.out).mono ?_
      rintro e w1 ⟨rfl, b1⟩
      have K1 := hide (K0.out.trans (b1.mono K0.out.size))
      have X1 := hide (X0.out.next b1)
      clear b1 X0 c8
      have c0 := (X1.out.2 0 _ rfl).1
      have c1 := (X1.out.2 1 _ rfl).1
      have c2 := (X1.out.2 2 _ rfl).1
      have c3 := (X1.out.2 3 _ rfl).1
      have c4 := (X1.out.2 4 _ rfl).1
      have c5 := (X1.out.2 5 _ rfl).1
      have c10 := (X1.out.2 10 _ rfl).1
      go_wp2_with fail
      refine (HT.out _ K1.out).mono ?_
      rintro e w2 ⟨rfl, b2⟩
      have K2 := hide (K1.out.trans (b2.mono K1.out.size))
      have X2 := hide (X1.out.next b2)
      clear b2 X1 c0 c1 c2 c3 c4 c5 c10
      have c6 := (X2.out.2 6 _ rfl).1
      go_wp2_with fail
      refine (codeWhere_any false 304 _).mono ?_
      rintro e w3 ⟨rfl, b3⟩
      have K3 := hide (K2.out.trans (b3.mono K2.out.size))
      have X3 := hide (X2.out.next b3)
      clear b3 X2 c6
      go_wp2
      go_ret
      exact ⟨rfl, K3.out⟩
    · go_enter Tryz.func109, Tryz.ntmps109
      have c8 := (X0.out.2 8 _ rfl).1
      go_wp2_with fail
      refine (HH.out _ K0.out).mono ?_
      rintro e w1 ⟨rfl, b1⟩
      have K1 := hide (K0.out.trans (b1.mono K0.out.size))
      have X1 := hide (X0.out.next b1)
      clear b1 X0 c8
      have c0 := (X1.out.2 0 _ rfl).1
      have c1 := (X1.out.2 1 _ rfl).1
      have c2 := (X1.out.2 2 _ rfl).1
      have c3 := (X1.out.2 3 _ rfl).1
      have c4 := (X1.out.2 4 _ rfl).1
      have c5 := (X1.out.2 5 _ rfl).1
      have c10 := (X1.out.2 10 _ rfl).1
      go_wp2_with fail
      refine (HT.out _ K1.out).mono ?_
      rintro e w2 ⟨rfl, b2⟩
      have K2 := hide (K1.out.trans (b2.mono K1.out.size))
      have X2 := hide (X1.out.next b2)
      clear b2 X1 c0 c1 c2 c3 c4 c5 c10
      have c6 := (X2.out.2 6 _ rfl).1
      go_wp2_with fail
      refine (HM.out _).mono ?_
      rintro e w3 ⟨rfl, b3⟩
      have K3 := hide (K2.out.trans (b3.mono K2.out.size))
      have X3 := hide (X2.out.next b3)
      clear b3 X2 c6
      go_wp2_with fail
      refine (codeWhere_any (!z) 304 _).mono ?_
      rintro e w4 ⟨rfl, b4⟩
      have K4 := hide (K3.out.trans (b4.mono K3.out.size))
      have X4 := hide (X3.out.next b4)
      clear b4 X3
      go_wp2
      go_ret
      exact ⟨rfl, K4.out⟩

set_option maxRecDepth 100000 in
set_option maxHeartbeats 4000000 in
theorem lookAtLocks_gen (x : Sv) (r : Rq) (a : Ak) (u0 u1 u4 u5 h p0 p1 p4 : Value) (W : World) (h0 : View W W.heap.size u0 (.l (x.t.map dRs))) (h1 : View W W.heap.size u1 (.l (x.l.map dLk))) (h4 : View W W.heap.size u4 (.l (x.dr.map dI))) (h5 : View W W.heap.size u5 (.l (x.us.map dI))) (hsz : szR (dSv x) ≤ 1048576) (ok : okR (dSv x)) (k0 : View W W.heap.size p0 (.l (a.pa.map dS))) (k1 : View W W.heap.size p1 (.l (a.to.map dS))) (k4 : View W W.heap.size p4 (.l (a.tk.map dI))) (hpl : a.pa.length ≤ 1048576) (hps : ∀ s ∈ a.pa, s.size ≤ 281474976710656) (hto : a.to.length ≤ 1048576) (hts : ∀ s ∈ a.to, s.size ≤ 281474976710656) (htl : a.tk.length ≤ 1048576) :
    Calls Tryz.prog 110 #[.agg #[u0, u1, .int .i64 x.now, .int .i64 x.ver, u4, u5, .string r.m, .string r.p, h, .string r.b, p0, p1, .bool a.de, .bool a.ov, p4, .int .i64 a.co]] W fun e w' => e = .returned (.int .i64 (cLck x r a.pa a.to a.tk)) ∧ Below W.heap.size W w' := by
  have K0 := hide (show Below W.heap.size W (W.alloc (Obj.cells #[u0, u1, .int .i64 x.now, .int .i64 x.ver, u4, u5, .string r.m, .string r.p, h, .string r.b, p0, p1, .bool a.de, .bool a.ov, p4, .int .i64 a.co] 69)) from (Below.refl _ _).alloc (Nat.le_refl _) _)
  have X0 := hide (BoxV.made W [u0, u1, .int .i64 x.now, .int .i64 x.ver, u4, u5, .string r.m, .string r.p, h, .string r.b, p0, p1, .bool a.de, .bool a.ov, p4, .int .i64 a.co] 69)
  have HC := hide (fun W' (hb : Below W.heap.size W W') => mayC_gen x r.m a u0 u1 u4 u5 p0 p1 p4 W' (h0.atI hb) (h1.atI hb) (h4.atI hb) (h5.atI hb) (k0.atI hb) (k1.atI hb) (k4.atI hb) hsz hpl hps hto hts htl)
  unfold cLck
  generalize chgB x r.m a.pa a.to a.tk = cb at *
  clear h0 h1 h4 h5 k0 k1 k4 hsz ok
  go_enter Tryz.func110, Tryz.ntmps110
  have c0 := (X0.out.2 0 _ rfl).1
  have c1 := (X0.out.2 1 _ rfl).1
  have c2 := (X0.out.2 2 _ rfl).1
  have c3 := (X0.out.2 3 _ rfl).1
  have c4 := (X0.out.2 4 _ rfl).1
  have c5 := (X0.out.2 5 _ rfl).1
  have c6 := (X0.out.2 6 _ rfl).1
  have c10 := (X0.out.2 10 _ rfl).1
  have c11 := (X0.out.2 11 _ rfl).1
  have c12 := (X0.out.2 12 _ rfl).1
  have c13 := (X0.out.2 13 _ rfl).1
  have c14 := (X0.out.2 14 _ rfl).1
  have c15 := (X0.out.2 15 _ rfl).1
  go_wp2_with fail
  refine (HC.out _ K0.out).mono ?_
  rintro e w1 ⟨rfl, b1⟩
  have K1 := hide (K0.out.trans (b1.mono K0.out.size))
  have X1 := hide (X0.out.next b1)
  clear b1 X0 c0 c1 c2 c3 c4 c5 c6 c10 c11 c12 c13 c14 c15
  go_wp2_with fail
  refine (codeWhere_any (!cb) 423 _).mono ?_
  rintro e w2 ⟨rfl, b2⟩
  have K2 := hide (K1.out.trans (b2.mono K1.out.size))
  have X2 := hide (X1.out.next b2)
  clear b2 X1
  go_wp2
  go_ret
  exact ⟨rfl, K2.out⟩
end Go.Proofs.YtfhcniifennfbaaGreatDoor
