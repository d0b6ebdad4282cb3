/-
  What impl.SrvOk does, as a whole.
-/
import Derived.Test.YtcgljeagjchobaaGreatGenPick
import Derived.Test.YtcgljeagjchobaaGreatSrvOkI
namespace Go.Proofs.YtcgljeagjchobaaGreat
open Go.RowKit M
set_option linter.unusedVariables false

set_option maxRecDepth 100000 in
set_option maxHeartbeats 4000000 in
theorem srvOk_any (x : Sv) (ta : Option Addr) (tc : Nat) (la : Option Addr) (lc : Nat) (da : Option Addr) (dc : Nat) (ua : Option Addr) (uc B : Nat) (w : World) (h : SvIn w B x ta tc la lc da dc ua uc) (hB : B ≤ w.heap.size) (hs : SvSmall x) :
    Calls Tryz.prog 9 #[.agg #[.slice ta x.t.length tc, .slice la x.l.length lc, .int .i64 x.now, .int .i64 x.ver, .slice da x.dr.length dc, .slice ua x.us.length uc]] w fun e w' => e = .returned (.bool (srvB x)) ∧ Below w.heap.size w w' := by
  have K0 := hide (show Below w.heap.size w (w.alloc (Obj.cells #[.slice ta x.t.length tc, .slice la x.l.length lc, .int .i64 x.now, .int .i64 x.ver, .slice da x.dr.length dc, .slice ua x.us.length uc] 32)) from (Below.refl _ _).alloc (Nat.le_refl _) _)
  have X0 := hide (BoxV.made w [.slice ta x.t.length tc, .slice la x.l.length lc, .int .i64 x.now, .int .i64 x.ver, .slice da x.dr.length dc, .slice ua x.us.length uc] 32)
  have hul := hs.u
  have hdl := hs.d
  have HT := hide (fun W (hb : Below w.heap.size w W) => treeOk_any ta x.t tc B W (h.th.below hb hB) (Nat.le_trans hB hb.size) hs.tshort (Nat.le_trans h.tl.1 h.tl.2.1))
  have HV := hide (fun W (hb : Below w.heap.size w W) => versBelow_any ta x.t tc B x.ver W (h.th.below hb hB) (Nat.le_trans hB hb.size) (Nat.le_trans hs.tlen (by decide)))
  have HL := hide (fun W (hb : Below w.heap.size w W) => locksOk_any la x.l lc B W (h.lh.below hb hB) (Nat.le_trans hB hb.size) hs.lshort h.ll.1 h.ll.2.1)
  have HD := hide (fun W (hb : Below w.heap.size w W) => tokensUsed_any la x.l lc B ua x.us uc B W (h.lh.below hb hB) (Nat.le_trans hB hb.size) (Nat.le_trans hs.llen (by decide)) (h.uh.below hb hB) (Nat.le_trans hB hb.size) hs.u)
  have HN := hide (fun W => timeOk_any x.now W)
  have HX := hide (fun W => nextVerOk_any x.ver W)
  have HU := hide (fun W (hb : Below w.heap.size w W) => usedOk_any ua x.us uc B W (h.uh.below hb hB) (Nat.le_trans hB hb.size) (Nat.le_trans hs.u (by decide)))
  have HE := hide (show srvB x = _ from rfl)
  unfold srvB
  generalize treeB x.t = z1 at *
  generalize versB x.t x.ver = z2 at *
  generalize locksB x.l = z3 at *
  generalize drewB x.l x.us = z4 at *
  generalize inB x.now 0 9999999 = z5 at *
  generalize inB x.ver 1 100000 = z6 at *
  generalize usedB x.us = z8 at *
  obtain ⟨z7, hz7⟩ : ∃ z, decide (x.dr.length ≤ 20) = z := ⟨_, rfl⟩
  rw [hz7]
  have HZ7 := hide hz7
  clear hz7
  clear h hs HE
  go_enter Tryz.func9, Tryz.ntmps9
  go_wp2_with fail
  refine (HT.out _ K0.out).mono ?_
  rintro e w1 ⟨rfl, b1⟩
  have K1 := hide (K0.out.trans (b1.mono K0.out.size))
  have X1 := hide (X0.out.next b1)
  clear b1 K0 X0 HT
  cases z1
  · go_wp2
    go_ret
    exact ⟨by simp, K1.out⟩
  have c0 := (X1.out.2 0 _ rfl).1
  have c3 := (X1.out.2 3 _ rfl).1
  go_wp2_with fail
  refine (HV.out _ K1.out).mono ?_
  rintro e w2 ⟨rfl, b2⟩
  have K2 := hide (K1.out.trans (b2.mono K1.out.size))
  have X2 := hide (X1.out.next b2)
  clear b2 K1 X1 HV c0 c3
  cases z2
  · go_wp2
    go_ret
    exact ⟨by simp, K2.out⟩
  have c1 := (X2.out.2 1 _ rfl).1
  go_wp2_with fail
  refine (HL.out _ K2.out).mono ?_
  rintro e w3 ⟨rfl, b3⟩
  have K3 := hide (K2.out.trans (b3.mono K2.out.size))
  have X3 := hide (X2.out.next b3)
  clear b3 K2 X2 HL c1
  cases z3
  · go_wp2
    go_ret
    exact ⟨by simp, K3.out⟩
  have c1 := (X3.out.2 1 _ rfl).1
  have c5 := (X3.out.2 5 _ rfl).1
  go_wp2_with fail
  refine (HD.out _ K3.out).mono ?_
  rintro e w4 ⟨rfl, b4⟩
  have K4 := hide (K3.out.trans (b4.mono K3.out.size))
  have X4 := hide (X3.out.next b4)
  clear b4 K3 X3 HD c1 c5
  cases z4
  · go_wp2
    go_ret
    exact ⟨by simp, K4.out⟩
  have c2 := (X4.out.2 2 _ rfl).1
  go_wp2_with fail
  refine (HN.out _).mono ?_
  rintro e w5 ⟨rfl, hw5⟩
  have K5 := hide (show Below w.heap.size w w5 by rw [hw5]; exact K4.out)
  have X5 := hide (show BoxV w5 w.heap.size [.slice ta x.t.length tc, .slice la x.l.length lc, .int .i64 x.now, .int .i64 x.ver, .slice da x.dr.length dc, .slice ua x.us.length uc] by rw [hw5]; exact X4.out)
  clear hw5 K4 X4 HN c2
  cases z5
  · go_wp2
    go_ret
    exact ⟨by simp, K5.out⟩
  have c3 := (X5.out.2 3 _ rfl).1
  go_wp2_with fail
  refine (HX.out _).mono ?_
  rintro e w6 ⟨rfl, hw6⟩
  have K6 := hide (show Below w.heap.size w w6 by rw [hw6]; exact K5.out)
  have X6 := hide (show BoxV w6 w.heap.size [.slice ta x.t.length tc, .slice la x.l.length lc, .int .i64 x.now, .int .i64 x.ver, .slice da x.dr.length dc, .slice ua x.us.length uc] by rw [hw6]; exact X5.out)
  clear hw6 K5 X5 HX c3
  cases z6
  · go_wp2
    go_ret
    exact ⟨by simp, K6.out⟩
  have c4 := (X6.out.2 4 _ rfl).1
  have c5 := (X6.out.2 5 _ rfl).1
  cases z7
  · have hd2 : ¬ ((x.dr.length : Int) ≤ 20) := by have := of_decide_eq_false HZ7.out; omega
    go_wp2
    go_ret
    exact ⟨by simp, K6.out⟩
  have hd2 : (x.dr.length : Int) ≤ 20 := by have := of_decide_eq_true HZ7.out; omega
  go_wp2_with fail
  refine (HU.out _ K6.out).mono ?_
  rintro e w7 ⟨rfl, b7⟩
  have K7 := hide (K6.out.trans (b7.mono K6.out.size))
  have X7 := hide (X6.out.next b7)
  clear b7 K6 X6 HU c4 c5
  go_wp2
  go_ret
  exact ⟨by simp, K7.out⟩
end Go.Proofs.YtcgljeagjchobaaGreat
