/-
  SameSrv on both sides.
-/
import Derived.Test.YtcgljeagjchobaaSvIn
import Derived.Test.YtcgljeagjchobaaStrEq
import Derived.Test.YtcgljeagjchobaaSpecSameRs
namespace Go.Proofs.Ytcgljeagjchobaa
open Go.RowKit M
set_option linter.unusedVariables false

def sameSvB (x y : Sv) : Bool := decide (x.t = y.t) && decide (x.l = y.l) && (x.now == y.now) && (x.ver == y.ver) && decide (x.dr = y.dr) && decide (x.us = y.us)

set_option maxRecDepth 100000 in
set_option maxHeartbeats 8000000 in
theorem sameSrv_any (x y : Sv) (ta tb la lb da db ua ub : Option Addr) (ca0 ca1 ca4 ca5 cb0 cb1 cb4 cb5 B C : Nat) (w : World) (h : SvIn w B x ta ca0 la ca1 da ca4 ua ca5) (h' : SvIn w C y tb cb0 lb cb1 db cb4 ub cb5) (hB : B ≤ w.heap.size) (hC : C ≤ w.heap.size) (hs : SvSmall x) (hs' : SvSmall y) :
    Calls Try.prog 13 #[.agg #[.slice ta x.t.length ca0, .slice la x.l.length ca1, .int .i64 x.now, .int .i64 x.ver, .slice da x.dr.length ca4, .slice ua x.us.length ca5], .agg #[.slice tb y.t.length cb0, .slice lb y.l.length cb1, .int .i64 y.now, .int .i64 y.ver, .slice db y.dr.length cb4, .slice ub y.us.length cb5]] w fun e w' => e = .returned (.bool (sameSvB x y)) ∧ Below w.heap.size w w' := by
  unfold sameSvB
  have K0 := hide (show Below w.heap.size w ((w.alloc (Obj.cells #[.slice ta x.t.length ca0, .slice la x.l.length ca1, .int .i64 x.now, .int .i64 x.ver, .slice da x.dr.length ca4, .slice ua x.us.length ca5] 26)).alloc (Obj.cells #[.slice tb y.t.length cb0, .slice lb y.l.length cb1, .int .i64 y.now, .int .i64 y.ver, .slice db y.dr.length cb4, .slice ub y.us.length cb5] 26)) from ((Below.refl _ _).alloc (Nat.le_refl _) _).alloc (by simp) _)
  have A0 := hide (show BoxV ((w.alloc (Obj.cells #[.slice ta x.t.length ca0, .slice la x.l.length ca1, .int .i64 x.now, .int .i64 x.ver, .slice da x.dr.length ca4, .slice ua x.us.length ca5] 26)).alloc (Obj.cells #[.slice tb y.t.length cb0, .slice lb y.l.length cb1, .int .i64 y.now, .int .i64 y.ver, .slice db y.dr.length cb4, .slice ub y.us.length cb5] 26)) w.heap.size [.slice ta x.t.length ca0, .slice la x.l.length ca1, .int .i64 x.now, .int .i64 x.ver, .slice da x.dr.length ca4, .slice ua x.us.length ca5] from (BoxV.made w [.slice ta x.t.length ca0, .slice la x.l.length ca1, .int .i64 x.now, .int .i64 x.ver, .slice da x.dr.length ca4, .slice ua x.us.length ca5] 26).alloc _)
  have B0 := hide (show BoxV ((w.alloc (Obj.cells #[.slice ta x.t.length ca0, .slice la x.l.length ca1, .int .i64 x.now, .int .i64 x.ver, .slice da x.dr.length ca4, .slice ua x.us.length ca5] 26)).alloc (Obj.cells #[.slice tb y.t.length cb0, .slice lb y.l.length cb1, .int .i64 y.now, .int .i64 y.ver, .slice db y.dr.length cb4, .slice ub y.us.length cb5] 26)) (w.heap.size + 1) [.slice tb y.t.length cb0, .slice lb y.l.length cb1, .int .i64 y.now, .int .i64 y.ver, .slice db y.dr.length cb4, .slice ub y.us.length cb5] by have h := BoxV.made (w.alloc (Obj.cells #[.slice ta x.t.length ca0, .slice la x.l.length ca1, .int .i64 x.now, .int .i64 x.ver, .slice da x.dr.length ca4, .slice ua x.us.length ca5] 26)) [.slice tb y.t.length cb0, .slice lb y.l.length cb1, .int .i64 y.now, .int .i64 y.ver, .slice db y.dr.length cb4, .slice ub y.us.length cb5] 26; simpa using h)
  have hm : ∀ n : Nat, n ≤ 1048576 → n ≤ maxLen := fun n hn => by unfold maxLen; omega
  have HT := hide (fun W (hb : Below w.heap.size w W) => equalRess_any ta tb x.t y.t ca0 cb0 B C W (h.th.below hb hB) (h'.th.below hb hC) (Nat.le_trans hB hb.size) (Nat.le_trans hC hb.size) (hm _ hs.tlen) (hm _ hs'.tlen))
  have HL := hide (fun W (hb : Below w.heap.size w W) => equalLocks_any la lb x.l y.l ca1 cb1 B C W (h.lh.below hb hB) (h'.lh.below hb hC) (Nat.le_trans hB hb.size) (Nat.le_trans hC hb.size) (hm _ hs.llen) (hm _ hs'.llen))
  have HD := hide (fun W (hb : Below w.heap.size w W) => (slicesEqualI_any da db x.dr y.dr ca4 cb4 B C W (h.dh.below hb hB) (h'.dh.below hb hC) (hm _ hs.d) (hm _ hs'.d)).mono (fun e w2 (q : _ ∧ _) => (⟨q.1, q.2 W.heap.size⟩ : _ ∧ Below W.heap.size W w2)))
  have HU := hide (fun W (hb : Below w.heap.size w W) => (slicesEqualI_any ua ub x.us y.us ca5 cb5 B C W (h.uh.below hb hB) (h'.uh.below hb hC) (hm _ hs.u) (hm _ hs'.u)).mono (fun e w2 (q : _ ∧ _) => (⟨q.1, q.2 W.heap.size⟩ : _ ∧ Below W.heap.size W w2)))
  clear h h' hs hs'
  obtain ⟨z0, hz0⟩ : ∃ z : Bool, decide (x.t = y.t) = z := ⟨_, rfl⟩
  rw [hz0] at HT
  obtain ⟨z1, hz1⟩ : ∃ z : Bool, decide (x.l = y.l) = z := ⟨_, rfl⟩
  rw [hz1] at HL
  obtain ⟨z2, hz2⟩ : ∃ z : Bool, (x.now == y.now) = z := ⟨_, rfl⟩
  obtain ⟨z3, hz3⟩ : ∃ z : Bool, (x.ver == y.ver) = z := ⟨_, rfl⟩
  obtain ⟨z4, hz4⟩ : ∃ z : Bool, decide (x.dr = y.dr) = z := ⟨_, rfl⟩
  rw [hz4] at HD
  obtain ⟨z5, hz5⟩ : ∃ z : Bool, decide (x.us = y.us) = z := ⟨_, rfl⟩
  rw [hz5] at HU
  rw [hz0, hz1, hz2, hz3, hz4, hz5]
  cases z0
  · clear hz0 hz1 hz2 hz3 hz4 hz5 HL HD HU
    go_enter Try.func13, Try.ntmps13
    have c0 := (A0.out.2 0 _ rfl).1
    have d0 := (B0.out.2 0 _ rfl).1
    have c1 := (A0.out.2 1 _ rfl).1
    have d1 := (B0.out.2 1 _ rfl).1
    have c2 := (A0.out.2 2 _ rfl).1
    have d2 := (B0.out.2 2 _ rfl).1
    have c3 := (A0.out.2 3 _ rfl).1
    have d3 := (B0.out.2 3 _ rfl).1
    have c4 := (A0.out.2 4 _ rfl).1
    have d4 := (B0.out.2 4 _ rfl).1
    have c5 := (A0.out.2 5 _ rfl).1
    have d5 := (B0.out.2 5 _ rfl).1
    go_wp2_with fail
    refine (HT.out _ K0.out).mono ?_
    rintro e w1 ⟨rfl, b1⟩
    clear c0 d0 c1 d1 c2 d2 c3 d3 c4 d4 c5 d5
    have K1 := hide (K0.out.trans (b1.mono K0.out.size))
    have A1 := hide (A0.out.next b1)
    have B1 := hide (B0.out.next b1)
    clear b1 K0 A0 B0
    have c0 := (A1.out.2 0 _ rfl).1
    have d0 := (B1.out.2 0 _ rfl).1
    have c1 := (A1.out.2 1 _ rfl).1
    have d1 := (B1.out.2 1 _ rfl).1
    have c2 := (A1.out.2 2 _ rfl).1
    have d2 := (B1.out.2 2 _ rfl).1
    have c3 := (A1.out.2 3 _ rfl).1
    have d3 := (B1.out.2 3 _ rfl).1
    have c4 := (A1.out.2 4 _ rfl).1
    have d4 := (B1.out.2 4 _ rfl).1
    have c5 := (A1.out.2 5 _ rfl).1
    have d5 := (B1.out.2 5 _ rfl).1
    go_wp2
    go_ret
    exact ⟨ret_bool (by simp), K1.out⟩
  cases z1
  · clear hz0 hz1 hz2 hz3 hz4 hz5 HD HU
    go_enter Try.func13, Try.ntmps13
    have c0 := (A0.out.2 0 _ rfl).1
    have d0 := (B0.out.2 0 _ rfl).1
    have c1 := (A0.out.2 1 _ rfl).1
    have d1 := (B0.out.2 1 _ rfl).1
    have c2 := (A0.out.2 2 _ rfl).1
    have d2 := (B0.out.2 2 _ rfl).1
    have c3 := (A0.out.2 3 _ rfl).1
    have d3 := (B0.out.2 3 _ rfl).1
    have c4 := (A0.out.2 4 _ rfl).1
    have d4 := (B0.out.2 4 _ rfl).1
    have c5 := (A0.out.2 5 _ rfl).1
    have d5 := (B0.out.2 5 _ rfl).1
    go_wp2_with fail
    refine (HT.out _ K0.out).mono ?_
    rintro e w1 ⟨rfl, b1⟩
    clear c0 d0 c1 d1 c2 d2 c3 d3 c4 d4 c5 d5
    have K1 := hide (K0.out.trans (b1.mono K0.out.size))
    have A1 := hide (A0.out.next b1)
    have B1 := hide (B0.out.next b1)
    clear b1 K0 A0 B0
    have c0 := (A1.out.2 0 _ rfl).1
    have d0 := (B1.out.2 0 _ rfl).1
    have c1 := (A1.out.2 1 _ rfl).1
    have d1 := (B1.out.2 1 _ rfl).1
    have c2 := (A1.out.2 2 _ rfl).1
    have d2 := (B1.out.2 2 _ rfl).1
    have c3 := (A1.out.2 3 _ rfl).1
    have d3 := (B1.out.2 3 _ rfl).1
    have c4 := (A1.out.2 4 _ rfl).1
    have d4 := (B1.out.2 4 _ rfl).1
    have c5 := (A1.out.2 5 _ rfl).1
    have d5 := (B1.out.2 5 _ rfl).1
    go_wp2_with fail
    refine (HL.out _ K1.out).mono ?_
    rintro e w2 ⟨rfl, b2⟩
    clear c0 d0 c1 d1 c2 d2 c3 d3 c4 d4 c5 d5
    have K2 := hide (K1.out.trans (b2.mono K1.out.size))
    have A2 := hide (A1.out.next b2)
    have B2 := hide (B1.out.next b2)
    clear b2 K1 A1 B1
    have c0 := (A2.out.2 0 _ rfl).1
    have d0 := (B2.out.2 0 _ rfl).1
    have c1 := (A2.out.2 1 _ rfl).1
    have d1 := (B2.out.2 1 _ rfl).1
    have c2 := (A2.out.2 2 _ rfl).1
    have d2 := (B2.out.2 2 _ rfl).1
    have c3 := (A2.out.2 3 _ rfl).1
    have d3 := (B2.out.2 3 _ rfl).1
    have c4 := (A2.out.2 4 _ rfl).1
    have d4 := (B2.out.2 4 _ rfl).1
    have c5 := (A2.out.2 5 _ rfl).1
    have d5 := (B2.out.2 5 _ rfl).1
    go_wp2
    go_ret
    exact ⟨ret_bool (by simp), K2.out⟩
  cases z2
  · clear hz0 hz1 hz3 hz4 hz5 HD HU
    go_enter Try.func13, Try.ntmps13
    have c0 := (A0.out.2 0 _ rfl).1
    have d0 := (B0.out.2 0 _ rfl).1
    have c1 := (A0.out.2 1 _ rfl).1
    have d1 := (B0.out.2 1 _ rfl).1
    have c2 := (A0.out.2 2 _ rfl).1
    have d2 := (B0.out.2 2 _ rfl).1
    have c3 := (A0.out.2 3 _ rfl).1
    have d3 := (B0.out.2 3 _ rfl).1
    have c4 := (A0.out.2 4 _ rfl).1
    have d4 := (B0.out.2 4 _ rfl).1
    have c5 := (A0.out.2 5 _ rfl).1
    have d5 := (B0.out.2 5 _ rfl).1
    go_wp2_with fail
    refine (HT.out _ K0.out).mono ?_
    rintro e w1 ⟨rfl, b1⟩
    clear c0 d0 c1 d1 c2 d2 c3 d3 c4 d4 c5 d5
    have K1 := hide (K0.out.trans (b1.mono K0.out.size))
    have A1 := hide (A0.out.next b1)
    have B1 := hide (B0.out.next b1)
    clear b1 K0 A0 B0
    have c0 := (A1.out.2 0 _ rfl).1
    have d0 := (B1.out.2 0 _ rfl).1
    have c1 := (A1.out.2 1 _ rfl).1
    have d1 := (B1.out.2 1 _ rfl).1
    have c2 := (A1.out.2 2 _ rfl).1
    have d2 := (B1.out.2 2 _ rfl).1
    have c3 := (A1.out.2 3 _ rfl).1
    have d3 := (B1.out.2 3 _ rfl).1
    have c4 := (A1.out.2 4 _ rfl).1
    have d4 := (B1.out.2 4 _ rfl).1
    have c5 := (A1.out.2 5 _ rfl).1
    have d5 := (B1.out.2 5 _ rfl).1
    go_wp2_with fail
    refine (HL.out _ K1.out).mono ?_
    rintro e w2 ⟨rfl, b2⟩
    clear c0 d0 c1 d1 c2 d2 c3 d3 c4 d4 c5 d5
    have K2 := hide (K1.out.trans (b2.mono K1.out.size))
    have A2 := hide (A1.out.next b2)
    have B2 := hide (B1.out.next b2)
    clear b2 K1 A1 B1
    have c0 := (A2.out.2 0 _ rfl).1
    have d0 := (B2.out.2 0 _ rfl).1
    have c1 := (A2.out.2 1 _ rfl).1
    have d1 := (B2.out.2 1 _ rfl).1
    have c2 := (A2.out.2 2 _ rfl).1
    have d2 := (B2.out.2 2 _ rfl).1
    have c3 := (A2.out.2 3 _ rfl).1
    have d3 := (B2.out.2 3 _ rfl).1
    have c4 := (A2.out.2 4 _ rfl).1
    have d4 := (B2.out.2 4 _ rfl).1
    have c5 := (A2.out.2 5 _ rfl).1
    have d5 := (B2.out.2 5 _ rfl).1
    go_wp2
    go_ret
    exact ⟨ret_bool (by simp), K2.out⟩
  cases z3
  · clear hz0 hz1 hz4 hz5 HD HU
    go_enter Try.func13, Try.ntmps13
    have c0 := (A0.out.2 0 _ rfl).1
    have d0 := (B0.out.2 0 _ rfl).1
    have c1 := (A0.out.2 1 _ rfl).1
    have d1 := (B0.out.2 1 _ rfl).1
    have c2 := (A0.out.2 2 _ rfl).1
    have d2 := (B0.out.2 2 _ rfl).1
    have c3 := (A0.out.2 3 _ rfl).1
    have d3 := (B0.out.2 3 _ rfl).1
    have c4 := (A0.out.2 4 _ rfl).1
    have d4 := (B0.out.2 4 _ rfl).1
    have c5 := (A0.out.2 5 _ rfl).1
    have d5 := (B0.out.2 5 _ rfl).1
    go_wp2_with fail
    refine (HT.out _ K0.out).mono ?_
    rintro e w1 ⟨rfl, b1⟩
    clear c0 d0 c1 d1 c2 d2 c3 d3 c4 d4 c5 d5
    have K1 := hide (K0.out.trans (b1.mono K0.out.size))
    have A1 := hide (A0.out.next b1)
    have B1 := hide (B0.out.next b1)
    clear b1 K0 A0 B0
    have c0 := (A1.out.2 0 _ rfl).1
    have d0 := (B1.out.2 0 _ rfl).1
    have c1 := (A1.out.2 1 _ rfl).1
    have d1 := (B1.out.2 1 _ rfl).1
    have c2 := (A1.out.2 2 _ rfl).1
    have d2 := (B1.out.2 2 _ rfl).1
    have c3 := (A1.out.2 3 _ rfl).1
    have d3 := (B1.out.2 3 _ rfl).1
    have c4 := (A1.out.2 4 _ rfl).1
    have d4 := (B1.out.2 4 _ rfl).1
    have c5 := (A1.out.2 5 _ rfl).1
    have d5 := (B1.out.2 5 _ rfl).1
    go_wp2_with fail
    refine (HL.out _ K1.out).mono ?_
    rintro e w2 ⟨rfl, b2⟩
    clear c0 d0 c1 d1 c2 d2 c3 d3 c4 d4 c5 d5
    have K2 := hide (K1.out.trans (b2.mono K1.out.size))
    have A2 := hide (A1.out.next b2)
    have B2 := hide (B1.out.next b2)
    clear b2 K1 A1 B1
    have c0 := (A2.out.2 0 _ rfl).1
    have d0 := (B2.out.2 0 _ rfl).1
    have c1 := (A2.out.2 1 _ rfl).1
    have d1 := (B2.out.2 1 _ rfl).1
    have c2 := (A2.out.2 2 _ rfl).1
    have d2 := (B2.out.2 2 _ rfl).1
    have c3 := (A2.out.2 3 _ rfl).1
    have d3 := (B2.out.2 3 _ rfl).1
    have c4 := (A2.out.2 4 _ rfl).1
    have d4 := (B2.out.2 4 _ rfl).1
    have c5 := (A2.out.2 5 _ rfl).1
    have d5 := (B2.out.2 5 _ rfl).1
    go_wp2
    go_ret
    exact ⟨ret_bool (by simp), K2.out⟩
  cases z4
  · clear hz0 hz1 hz4 hz5 HU
    go_enter Try.func13, Try.ntmps13
    have c0 := (A0.out.2 0 _ rfl).1
    have d0 := (B0.out.2 0 _ rfl).1
    have c1 := (A0.out.2 1 _ rfl).1
    have d1 := (B0.out.2 1 _ rfl).1
    have c2 := (A0.out.2 2 _ rfl).1
    have d2 := (B0.out.2 2 _ rfl).1
    have c3 := (A0.out.2 3 _ rfl).1
    have d3 := (B0.out.2 3 _ rfl).1
    have c4 := (A0.out.2 4 _ rfl).1
    have d4 := (B0.out.2 4 _ rfl).1
    have c5 := (A0.out.2 5 _ rfl).1
    have d5 := (B0.out.2 5 _ rfl).1
    go_wp2_with fail
    refine (HT.out _ K0.out).mono ?_
    rintro e w1 ⟨rfl, b1⟩
    clear c0 d0 c1 d1 c2 d2 c3 d3 c4 d4 c5 d5
    have K1 := hide (K0.out.trans (b1.mono K0.out.size))
    have A1 := hide (A0.out.next b1)
    have B1 := hide (B0.out.next b1)
    clear b1 K0 A0 B0
    have c0 := (A1.out.2 0 _ rfl).1
    have d0 := (B1.out.2 0 _ rfl).1
    have c1 := (A1.out.2 1 _ rfl).1
    have d1 := (B1.out.2 1 _ rfl).1
    have c2 := (A1.out.2 2 _ rfl).1
    have d2 := (B1.out.2 2 _ rfl).1
    have c3 := (A1.out.2 3 _ rfl).1
    have d3 := (B1.out.2 3 _ rfl).1
    have c4 := (A1.out.2 4 _ rfl).1
    have d4 := (B1.out.2 4 _ rfl).1
    have c5 := (A1.out.2 5 _ rfl).1
    have d5 := (B1.out.2 5 _ rfl).1
    go_wp2_with fail
    refine (HL.out _ K1.out).mono ?_
    rintro e w2 ⟨rfl, b2⟩
    clear c0 d0 c1 d1 c2 d2 c3 d3 c4 d4 c5 d5
    have K2 := hide (K1.out.trans (b2.mono K1.out.size))
    have A2 := hide (A1.out.next b2)
    have B2 := hide (B1.out.next b2)
    clear b2 K1 A1 B1
    have c0 := (A2.out.2 0 _ rfl).1
    have d0 := (B2.out.2 0 _ rfl).1
    have c1 := (A2.out.2 1 _ rfl).1
    have d1 := (B2.out.2 1 _ rfl).1
    have c2 := (A2.out.2 2 _ rfl).1
    have d2 := (B2.out.2 2 _ rfl).1
    have c3 := (A2.out.2 3 _ rfl).1
    have d3 := (B2.out.2 3 _ rfl).1
    have c4 := (A2.out.2 4 _ rfl).1
    have d4 := (B2.out.2 4 _ rfl).1
    have c5 := (A2.out.2 5 _ rfl).1
    have d5 := (B2.out.2 5 _ rfl).1
    go_wp2_with fail
    refine (HD.out _ K2.out).mono ?_
    rintro e w3 ⟨rfl, b3⟩
    clear c0 d0 c1 d1 c2 d2 c3 d3 c4 d4 c5 d5
    have K3 := hide (K2.out.trans (b3.mono K2.out.size))
    have A3 := hide (A2.out.next b3)
    have B3 := hide (B2.out.next b3)
    clear b3 K2 A2 B2
    have c0 := (A3.out.2 0 _ rfl).1
    have d0 := (B3.out.2 0 _ rfl).1
    have c1 := (A3.out.2 1 _ rfl).1
    have d1 := (B3.out.2 1 _ rfl).1
    have c2 := (A3.out.2 2 _ rfl).1
    have d2 := (B3.out.2 2 _ rfl).1
    have c3 := (A3.out.2 3 _ rfl).1
    have d3 := (B3.out.2 3 _ rfl).1
    have c4 := (A3.out.2 4 _ rfl).1
    have d4 := (B3.out.2 4 _ rfl).1
    have c5 := (A3.out.2 5 _ rfl).1
    have d5 := (B3.out.2 5 _ rfl).1
    go_wp2
    go_ret
    exact ⟨ret_bool (by simp), K3.out⟩
  cases z5
  · clear hz0 hz1 hz4 hz5
    go_enter Try.func13, Try.ntmps13
    have c0 := (A0.out.2 0 _ rfl).1
    have d0 := (B0.out.2 0 _ rfl).1
    have c1 := (A0.out.2 1 _ rfl).1
    have d1 := (B0.out.2 1 _ rfl).1
    have c2 := (A0.out.2 2 _ rfl).1
    have d2 := (B0.out.2 2 _ rfl).1
    have c3 := (A0.out.2 3 _ rfl).1
    have d3 := (B0.out.2 3 _ rfl).1
    have c4 := (A0.out.2 4 _ rfl).1
    have d4 := (B0.out.2 4 _ rfl).1
    have c5 := (A0.out.2 5 _ rfl).1
    have d5 := (B0.out.2 5 _ rfl).1
    go_wp2_with fail
    refine (HT.out _ K0.out).mono ?_
    rintro e w1 ⟨rfl, b1⟩
    clear c0 d0 c1 d1 c2 d2 c3 d3 c4 d4 c5 d5
    have K1 := hide (K0.out.trans (b1.mono K0.out.size))
    have A1 := hide (A0.out.next b1)
    have B1 := hide (B0.out.next b1)
    clear b1 K0 A0 B0
    have c0 := (A1.out.2 0 _ rfl).1
    have d0 := (B1.out.2 0 _ rfl).1
    have c1 := (A1.out.2 1 _ rfl).1
    have d1 := (B1.out.2 1 _ rfl).1
    have c2 := (A1.out.2 2 _ rfl).1
    have d2 := (B1.out.2 2 _ rfl).1
    have c3 := (A1.out.2 3 _ rfl).1
    have d3 := (B1.out.2 3 _ rfl).1
    have c4 := (A1.out.2 4 _ rfl).1
    have d4 := (B1.out.2 4 _ rfl).1
    have c5 := (A1.out.2 5 _ rfl).1
    have d5 := (B1.out.2 5 _ rfl).1
    go_wp2_with fail
    refine (HL.out _ K1.out).mono ?_
    rintro e w2 ⟨rfl, b2⟩
    clear c0 d0 c1 d1 c2 d2 c3 d3 c4 d4 c5 d5
    have K2 := hide (K1.out.trans (b2.mono K1.out.size))
    have A2 := hide (A1.out.next b2)
    have B2 := hide (B1.out.next b2)
    clear b2 K1 A1 B1
    have c0 := (A2.out.2 0 _ rfl).1
    have d0 := (B2.out.2 0 _ rfl).1
    have c1 := (A2.out.2 1 _ rfl).1
    have d1 := (B2.out.2 1 _ rfl).1
    have c2 := (A2.out.2 2 _ rfl).1
    have d2 := (B2.out.2 2 _ rfl).1
    have c3 := (A2.out.2 3 _ rfl).1
    have d3 := (B2.out.2 3 _ rfl).1
    have c4 := (A2.out.2 4 _ rfl).1
    have d4 := (B2.out.2 4 _ rfl).1
    have c5 := (A2.out.2 5 _ rfl).1
    have d5 := (B2.out.2 5 _ rfl).1
    go_wp2_with fail
    refine (HD.out _ K2.out).mono ?_
    rintro e w3 ⟨rfl, b3⟩
    clear c0 d0 c1 d1 c2 d2 c3 d3 c4 d4 c5 d5
    have K3 := hide (K2.out.trans (b3.mono K2.out.size))
    have A3 := hide (A2.out.next b3)
    have B3 := hide (B2.out.next b3)
    clear b3 K2 A2 B2
    have c0 := (A3.out.2 0 _ rfl).1
    have d0 := (B3.out.2 0 _ rfl).1
    have c1 := (A3.out.2 1 _ rfl).1
    have d1 := (B3.out.2 1 _ rfl).1
    have c2 := (A3.out.2 2 _ rfl).1
    have d2 := (B3.out.2 2 _ rfl).1
    have c3 := (A3.out.2 3 _ rfl).1
    have d3 := (B3.out.2 3 _ rfl).1
    have c4 := (A3.out.2 4 _ rfl).1
    have d4 := (B3.out.2 4 _ rfl).1
    have c5 := (A3.out.2 5 _ rfl).1
    have d5 := (B3.out.2 5 _ rfl).1
    go_wp2_with fail
    refine (HU.out _ K3.out).mono ?_
    rintro e w4 ⟨rfl, b4⟩
    clear c0 d0 c1 d1 c2 d2 c3 d3 c4 d4 c5 d5
    have K4 := hide (K3.out.trans (b4.mono K3.out.size))
    have A4 := hide (A3.out.next b4)
    have B4 := hide (B3.out.next b4)
    clear b4 K3 A3 B3
    have c0 := (A4.out.2 0 _ rfl).1
    have d0 := (B4.out.2 0 _ rfl).1
    have c1 := (A4.out.2 1 _ rfl).1
    have d1 := (B4.out.2 1 _ rfl).1
    have c2 := (A4.out.2 2 _ rfl).1
    have d2 := (B4.out.2 2 _ rfl).1
    have c3 := (A4.out.2 3 _ rfl).1
    have d3 := (B4.out.2 3 _ rfl).1
    have c4 := (A4.out.2 4 _ rfl).1
    have d4 := (B4.out.2 4 _ rfl).1
    have c5 := (A4.out.2 5 _ rfl).1
    have d5 := (B4.out.2 5 _ rfl).1
    go_wp2
    go_ret
    exact ⟨ret_bool (by simp), K4.out⟩
  clear hz0 hz1 hz4 hz5
  go_enter Try.func13, Try.ntmps13
  have c0 := (A0.out.2 0 _ rfl).1
  have d0 := (B0.out.2 0 _ rfl).1
  have c1 := (A0.out.2 1 _ rfl).1
  have d1 := (B0.out.2 1 _ rfl).1
  have c2 := (A0.out.2 2 _ rfl).1
  have d2 := (B0.out.2 2 _ rfl).1
  have c3 := (A0.out.2 3 _ rfl).1
  have d3 := (B0.out.2 3 _ rfl).1
  have c4 := (A0.out.2 4 _ rfl).1
  have d4 := (B0.out.2 4 _ rfl).1
  have c5 := (A0.out.2 5 _ rfl).1
  have d5 := (B0.out.2 5 _ rfl).1
  go_wp2_with fail
  refine (HT.out _ K0.out).mono ?_
  rintro e w1 ⟨rfl, b1⟩
  clear c0 d0 c1 d1 c2 d2 c3 d3 c4 d4 c5 d5
  have K1 := hide (K0.out.trans (b1.mono K0.out.size))
  have A1 := hide (A0.out.next b1)
  have B1 := hide (B0.out.next b1)
  clear b1 K0 A0 B0
  have c0 := (A1.out.2 0 _ rfl).1
  have d0 := (B1.out.2 0 _ rfl).1
  have c1 := (A1.out.2 1 _ rfl).1
  have d1 := (B1.out.2 1 _ rfl).1
  have c2 := (A1.out.2 2 _ rfl).1
  have d2 := (B1.out.2 2 _ rfl).1
  have c3 := (A1.out.2 3 _ rfl).1
  have d3 := (B1.out.2 3 _ rfl).1
  have c4 := (A1.out.2 4 _ rfl).1
  have d4 := (B1.out.2 4 _ rfl).1
  have c5 := (A1.out.2 5 _ rfl).1
  have d5 := (B1.out.2 5 _ rfl).1
  go_wp2_with fail
  refine (HL.out _ K1.out).mono ?_
  rintro e w2 ⟨rfl, b2⟩
  clear c0 d0 c1 d1 c2 d2 c3 d3 c4 d4 c5 d5
  have K2 := hide (K1.out.trans (b2.mono K1.out.size))
  have A2 := hide (A1.out.next b2)
  have B2 := hide (B1.out.next b2)
  clear b2 K1 A1 B1
  have c0 := (A2.out.2 0 _ rfl).1
  have d0 := (B2.out.2 0 _ rfl).1
  have c1 := (A2.out.2 1 _ rfl).1
  have d1 := (B2.out.2 1 _ rfl).1
  have c2 := (A2.out.2 2 _ rfl).1
  have d2 := (B2.out.2 2 _ rfl).1
  have c3 := (A2.out.2 3 _ rfl).1
  have d3 := (B2.out.2 3 _ rfl).1
  have c4 := (A2.out.2 4 _ rfl).1
  have d4 := (B2.out.2 4 _ rfl).1
  have c5 := (A2.out.2 5 _ rfl).1
  have d5 := (B2.out.2 5 _ rfl).1
  go_wp2_with fail
  refine (HD.out _ K2.out).mono ?_
  rintro e w3 ⟨rfl, b3⟩
  clear c0 d0 c1 d1 c2 d2 c3 d3 c4 d4 c5 d5
  have K3 := hide (K2.out.trans (b3.mono K2.out.size))
  have A3 := hide (A2.out.next b3)
  have B3 := hide (B2.out.next b3)
  clear b3 K2 A2 B2
  have c0 := (A3.out.2 0 _ rfl).1
  have d0 := (B3.out.2 0 _ rfl).1
  have c1 := (A3.out.2 1 _ rfl).1
  have d1 := (B3.out.2 1 _ rfl).1
  have c2 := (A3.out.2 2 _ rfl).1
  have d2 := (B3.out.2 2 _ rfl).1
  have c3 := (A3.out.2 3 _ rfl).1
  have d3 := (B3.out.2 3 _ rfl).1
  have c4 := (A3.out.2 4 _ rfl).1
  have d4 := (B3.out.2 4 _ rfl).1
  have c5 := (A3.out.2 5 _ rfl).1
  have d5 := (B3.out.2 5 _ rfl).1
  go_wp2_with fail
  refine (HU.out _ K3.out).mono ?_
  rintro e w4 ⟨rfl, b4⟩
  clear c0 d0 c1 d1 c2 d2 c3 d3 c4 d4 c5 d5
  have K4 := hide (K3.out.trans (b4.mono K3.out.size))
  have A4 := hide (A3.out.next b4)
  have B4 := hide (B3.out.next b4)
  clear b4 K3 A3 B3
  have c0 := (A4.out.2 0 _ rfl).1
  have d0 := (B4.out.2 0 _ rfl).1
  have c1 := (A4.out.2 1 _ rfl).1
  have d1 := (B4.out.2 1 _ rfl).1
  have c2 := (A4.out.2 2 _ rfl).1
  have d2 := (B4.out.2 2 _ rfl).1
  have c3 := (A4.out.2 3 _ rfl).1
  have d3 := (B4.out.2 3 _ rfl).1
  have c4 := (A4.out.2 4 _ rfl).1
  have d4 := (B4.out.2 4 _ rfl).1
  have c5 := (A4.out.2 5 _ rfl).1
  have d5 := (B4.out.2 5 _ rfl).1
  go_wp2
  go_ret
  exact ⟨ret_bool (by simp), K4.out⟩

set_option maxRecDepth 100000 in
set_option maxHeartbeats 8000000 in
theorem specSameSrv_any (x y : Sv) (ta tb la lb da db ua ub : Option Addr) (ca0 ca1 ca4 ca5 cb0 cb1 cb4 cb5 B C : Nat) (w : World) (h : SvIn w B x ta ca0 la ca1 da ca4 ua ca5) (h' : SvIn w C y tb cb0 lb cb1 db cb4 ub cb5) (hB : B ≤ w.heap.size) (hC : C ≤ w.heap.size) (hs : SvSmall x) (hs' : SvSmall y) :
    Calls Try.prog 11 #[.agg #[.slice ta x.t.length ca0, .slice la x.l.length ca1, .int .i64 x.now, .int .i64 x.ver, .slice da x.dr.length ca4, .slice ua x.us.length ca5], .agg #[.slice tb y.t.length cb0, .slice lb y.l.length cb1, .int .i64 y.now, .int .i64 y.ver, .slice db y.dr.length cb4, .slice ub y.us.length cb5]] w fun e w' => e = .returned (.bool (sameSvB x y)) ∧ Below w.heap.size w w' := by
  unfold sameSvB
  have K0 := hide (show Below w.heap.size w ((w.alloc (Obj.cells #[.slice ta x.t.length ca0, .slice la x.l.length ca1, .int .i64 x.now, .int .i64 x.ver, .slice da x.dr.length ca4, .slice ua x.us.length ca5] 26)).alloc (Obj.cells #[.slice tb y.t.length cb0, .slice lb y.l.length cb1, .int .i64 y.now, .int .i64 y.ver, .slice db y.dr.length cb4, .slice ub y.us.length cb5] 26)) from ((Below.refl _ _).alloc (Nat.le_refl _) _).alloc (by simp) _)
  have A0 := hide (show BoxV ((w.alloc (Obj.cells #[.slice ta x.t.length ca0, .slice la x.l.length ca1, .int .i64 x.now, .int .i64 x.ver, .slice da x.dr.length ca4, .slice ua x.us.length ca5] 26)).alloc (Obj.cells #[.slice tb y.t.length cb0, .slice lb y.l.length cb1, .int .i64 y.now, .int .i64 y.ver, .slice db y.dr.length cb4, .slice ub y.us.length cb5] 26)) w.heap.size [.slice ta x.t.length ca0, .slice la x.l.length ca1, .int .i64 x.now, .int .i64 x.ver, .slice da x.dr.length ca4, .slice ua x.us.length ca5] from (BoxV.made w [.slice ta x.t.length ca0, .slice la x.l.length ca1, .int .i64 x.now, .int .i64 x.ver, .slice da x.dr.length ca4, .slice ua x.us.length ca5] 26).alloc _)
  have B0 := hide (show BoxV ((w.alloc (Obj.cells #[.slice ta x.t.length ca0, .slice la x.l.length ca1, .int .i64 x.now, .int .i64 x.ver, .slice da x.dr.length ca4, .slice ua x.us.length ca5] 26)).alloc (Obj.cells #[.slice tb y.t.length cb0, .slice lb y.l.length cb1, .int .i64 y.now, .int .i64 y.ver, .slice db y.dr.length cb4, .slice ub y.us.length cb5] 26)) (w.heap.size + 1) [.slice tb y.t.length cb0, .slice lb y.l.length cb1, .int .i64 y.now, .int .i64 y.ver, .slice db y.dr.length cb4, .slice ub y.us.length cb5] by have h := BoxV.made (w.alloc (Obj.cells #[.slice ta x.t.length ca0, .slice la x.l.length ca1, .int .i64 x.now, .int .i64 x.ver, .slice da x.dr.length ca4, .slice ua x.us.length ca5] 26)) [.slice tb y.t.length cb0, .slice lb y.l.length cb1, .int .i64 y.now, .int .i64 y.ver, .slice db y.dr.length cb4, .slice ub y.us.length cb5] 26; simpa using h)
  have hm : ∀ n : Nat, n ≤ 1048576 → n ≤ maxLen := fun n hn => by unfold maxLen; omega
  have HT := hide (fun W (hb : Below w.heap.size w W) => specSameTree_any ta tb x.t y.t ca0 cb0 B C W (h.th.below hb hB) (h'.th.below hb hC) (Nat.le_trans hB hb.size) (Nat.le_trans hC hb.size) (hm _ hs.tlen) (hm _ hs'.tlen))
  have HL := hide (fun W (hb : Below w.heap.size w W) => specSameLocks_any la lb x.l y.l ca1 cb1 B C W (h.lh.below hb hB) (h'.lh.below hb hC) (Nat.le_trans hB hb.size) (Nat.le_trans hC hb.size) (hm _ hs.llen) (hm _ hs'.llen))
  have HD := hide (fun W (hb : Below w.heap.size w W) => (specSameInts_any da db x.dr y.dr ca4 cb4 B C W (h.dh.below hb hB) (h'.dh.below hb hC) (hm _ hs.d) (hm _ hs'.d)).mono (fun e w2 (q : _ ∧ _) => (⟨q.1, q.2 W.heap.size⟩ : _ ∧ Below W.heap.size W w2)))
  have HU := hide (fun W (hb : Below w.heap.size w W) => (specSameInts_any ua ub x.us y.us ca5 cb5 B C W (h.uh.below hb hB) (h'.uh.below hb hC) (hm _ hs.u) (hm _ hs'.u)).mono (fun e w2 (q : _ ∧ _) => (⟨q.1, q.2 W.heap.size⟩ : _ ∧ Below W.heap.size W w2)))
  clear h h' hs hs'
  obtain ⟨z0, hz0⟩ : ∃ z : Bool, decide (x.t = y.t) = z := ⟨_, rfl⟩
  rw [hz0] at HT
  obtain ⟨z1, hz1⟩ : ∃ z : Bool, decide (x.l = y.l) = z := ⟨_, rfl⟩
  rw [hz1] at HL
  obtain ⟨z2, hz2⟩ : ∃ z : Bool, (x.now == y.now) = z := ⟨_, rfl⟩
  obtain ⟨z3, hz3⟩ : ∃ z : Bool, (x.ver == y.ver) = z := ⟨_, rfl⟩
  obtain ⟨z4, hz4⟩ : ∃ z : Bool, decide (x.dr = y.dr) = z := ⟨_, rfl⟩
  rw [hz4] at HD
  obtain ⟨z5, hz5⟩ : ∃ z : Bool, decide (x.us = y.us) = z := ⟨_, rfl⟩
  rw [hz5] at HU
  rw [hz0, hz1, hz2, hz3, hz4, hz5]
  cases z0
  · clear hz0 hz1 hz2 hz3 hz4 hz5 HL HD HU
    go_enter Try.func11, Try.ntmps11
    have c0 := (A0.out.2 0 _ rfl).1
    have d0 := (B0.out.2 0 _ rfl).1
    have c1 := (A0.out.2 1 _ rfl).1
    have d1 := (B0.out.2 1 _ rfl).1
    have c2 := (A0.out.2 2 _ rfl).1
    have d2 := (B0.out.2 2 _ rfl).1
    have c3 := (A0.out.2 3 _ rfl).1
    have d3 := (B0.out.2 3 _ rfl).1
    have c4 := (A0.out.2 4 _ rfl).1
    have d4 := (B0.out.2 4 _ rfl).1
    have c5 := (A0.out.2 5 _ rfl).1
    have d5 := (B0.out.2 5 _ rfl).1
    go_wp2_with fail
    refine (HT.out _ K0.out).mono ?_
    rintro e w1 ⟨rfl, b1⟩
    clear c0 d0 c1 d1 c2 d2 c3 d3 c4 d4 c5 d5
    have K1 := hide (K0.out.trans (b1.mono K0.out.size))
    have A1 := hide (A0.out.next b1)
    have B1 := hide (B0.out.next b1)
    clear b1 K0 A0 B0
    have c0 := (A1.out.2 0 _ rfl).1
    have d0 := (B1.out.2 0 _ rfl).1
    have c1 := (A1.out.2 1 _ rfl).1
    have d1 := (B1.out.2 1 _ rfl).1
    have c2 := (A1.out.2 2 _ rfl).1
    have d2 := (B1.out.2 2 _ rfl).1
    have c3 := (A1.out.2 3 _ rfl).1
    have d3 := (B1.out.2 3 _ rfl).1
    have c4 := (A1.out.2 4 _ rfl).1
    have d4 := (B1.out.2 4 _ rfl).1
    have c5 := (A1.out.2 5 _ rfl).1
    have d5 := (B1.out.2 5 _ rfl).1
    go_wp2
    go_ret
    exact ⟨ret_bool (by simp), K1.out⟩
  cases z1
  · clear hz0 hz1 hz2 hz3 hz4 hz5 HD HU
    go_enter Try.func11, Try.ntmps11
    have c0 := (A0.out.2 0 _ rfl).1
    have d0 := (B0.out.2 0 _ rfl).1
    have c1 := (A0.out.2 1 _ rfl).1
    have d1 := (B0.out.2 1 _ rfl).1
    have c2 := (A0.out.2 2 _ rfl).1
    have d2 := (B0.out.2 2 _ rfl).1
    have c3 := (A0.out.2 3 _ rfl).1
    have d3 := (B0.out.2 3 _ rfl).1
    have c4 := (A0.out.2 4 _ rfl).1
    have d4 := (B0.out.2 4 _ rfl).1
    have c5 := (A0.out.2 5 _ rfl).1
    have d5 := (B0.out.2 5 _ rfl).1
    go_wp2_with fail
    refine (HT.out _ K0.out).mono ?_
    rintro e w1 ⟨rfl, b1⟩
    clear c0 d0 c1 d1 c2 d2 c3 d3 c4 d4 c5 d5
    have K1 := hide (K0.out.trans (b1.mono K0.out.size))
    have A1 := hide (A0.out.next b1)
    have B1 := hide (B0.out.next b1)
    clear b1 K0 A0 B0
    have c0 := (A1.out.2 0 _ rfl).1
    have d0 := (B1.out.2 0 _ rfl).1
    have c1 := (A1.out.2 1 _ rfl).1
    have d1 := (B1.out.2 1 _ rfl).1
    have c2 := (A1.out.2 2 _ rfl).1
    have d2 := (B1.out.2 2 _ rfl).1
    have c3 := (A1.out.2 3 _ rfl).1
    have d3 := (B1.out.2 3 _ rfl).1
    have c4 := (A1.out.2 4 _ rfl).1
    have d4 := (B1.out.2 4 _ rfl).1
    have c5 := (A1.out.2 5 _ rfl).1
    have d5 := (B1.out.2 5 _ rfl).1
    go_wp2_with fail
    refine (HL.out _ K1.out).mono ?_
    rintro e w2 ⟨rfl, b2⟩
    clear c0 d0 c1 d1 c2 d2 c3 d3 c4 d4 c5 d5
    have K2 := hide (K1.out.trans (b2.mono K1.out.size))
    have A2 := hide (A1.out.next b2)
    have B2 := hide (B1.out.next b2)
    clear b2 K1 A1 B1
    have c0 := (A2.out.2 0 _ rfl).1
    have d0 := (B2.out.2 0 _ rfl).1
    have c1 := (A2.out.2 1 _ rfl).1
    have d1 := (B2.out.2 1 _ rfl).1
    have c2 := (A2.out.2 2 _ rfl).1
    have d2 := (B2.out.2 2 _ rfl).1
    have c3 := (A2.out.2 3 _ rfl).1
    have d3 := (B2.out.2 3 _ rfl).1
    have c4 := (A2.out.2 4 _ rfl).1
    have d4 := (B2.out.2 4 _ rfl).1
    have c5 := (A2.out.2 5 _ rfl).1
    have d5 := (B2.out.2 5 _ rfl).1
    go_wp2
    go_ret
    exact ⟨ret_bool (by simp), K2.out⟩
  cases z2
  · clear hz0 hz1 hz3 hz4 hz5 HD HU
    go_enter Try.func11, Try.ntmps11
    have c0 := (A0.out.2 0 _ rfl).1
    have d0 := (B0.out.2 0 _ rfl).1
    have c1 := (A0.out.2 1 _ rfl).1
    have d1 := (B0.out.2 1 _ rfl).1
    have c2 := (A0.out.2 2 _ rfl).1
    have d2 := (B0.out.2 2 _ rfl).1
    have c3 := (A0.out.2 3 _ rfl).1
    have d3 := (B0.out.2 3 _ rfl).1
    have c4 := (A0.out.2 4 _ rfl).1
    have d4 := (B0.out.2 4 _ rfl).1
    have c5 := (A0.out.2 5 _ rfl).1
    have d5 := (B0.out.2 5 _ rfl).1
    go_wp2_with fail
    refine (HT.out _ K0.out).mono ?_
    rintro e w1 ⟨rfl, b1⟩
    clear c0 d0 c1 d1 c2 d2 c3 d3 c4 d4 c5 d5
    have K1 := hide (K0.out.trans (b1.mono K0.out.size))
    have A1 := hide (A0.out.next b1)
    have B1 := hide (B0.out.next b1)
    clear b1 K0 A0 B0
    have c0 := (A1.out.2 0 _ rfl).1
    have d0 := (B1.out.2 0 _ rfl).1
    have c1 := (A1.out.2 1 _ rfl).1
    have d1 := (B1.out.2 1 _ rfl).1
    have c2 := (A1.out.2 2 _ rfl).1
    have d2 := (B1.out.2 2 _ rfl).1
    have c3 := (A1.out.2 3 _ rfl).1
    have d3 := (B1.out.2 3 _ rfl).1
    have c4 := (A1.out.2 4 _ rfl).1
    have d4 := (B1.out.2 4 _ rfl).1
    have c5 := (A1.out.2 5 _ rfl).1
    have d5 := (B1.out.2 5 _ rfl).1
    go_wp2_with fail
    refine (HL.out _ K1.out).mono ?_
    rintro e w2 ⟨rfl, b2⟩
    clear c0 d0 c1 d1 c2 d2 c3 d3 c4 d4 c5 d5
    have K2 := hide (K1.out.trans (b2.mono K1.out.size))
    have A2 := hide (A1.out.next b2)
    have B2 := hide (B1.out.next b2)
    clear b2 K1 A1 B1
    have c0 := (A2.out.2 0 _ rfl).1
    have d0 := (B2.out.2 0 _ rfl).1
    have c1 := (A2.out.2 1 _ rfl).1
    have d1 := (B2.out.2 1 _ rfl).1
    have c2 := (A2.out.2 2 _ rfl).1
    have d2 := (B2.out.2 2 _ rfl).1
    have c3 := (A2.out.2 3 _ rfl).1
    have d3 := (B2.out.2 3 _ rfl).1
    have c4 := (A2.out.2 4 _ rfl).1
    have d4 := (B2.out.2 4 _ rfl).1
    have c5 := (A2.out.2 5 _ rfl).1
    have d5 := (B2.out.2 5 _ rfl).1
    go_wp2
    go_ret
    exact ⟨ret_bool (by simp), K2.out⟩
  cases z3
  · clear hz0 hz1 hz4 hz5 HD HU
    go_enter Try.func11, Try.ntmps11
    have c0 := (A0.out.2 0 _ rfl).1
    have d0 := (B0.out.2 0 _ rfl).1
    have c1 := (A0.out.2 1 _ rfl).1
    have d1 := (B0.out.2 1 _ rfl).1
    have c2 := (A0.out.2 2 _ rfl).1
    have d2 := (B0.out.2 2 _ rfl).1
    have c3 := (A0.out.2 3 _ rfl).1
    have d3 := (B0.out.2 3 _ rfl).1
    have c4 := (A0.out.2 4 _ rfl).1
    have d4 := (B0.out.2 4 _ rfl).1
    have c5 := (A0.out.2 5 _ rfl).1
    have d5 := (B0.out.2 5 _ rfl).1
    go_wp2_with fail
    refine (HT.out _ K0.out).mono ?_
    rintro e w1 ⟨rfl, b1⟩
    clear c0 d0 c1 d1 c2 d2 c3 d3 c4 d4 c5 d5
    have K1 := hide (K0.out.trans (b1.mono K0.out.size))
    have A1 := hide (A0.out.next b1)
    have B1 := hide (B0.out.next b1)
    clear b1 K0 A0 B0
    have c0 := (A1.out.2 0 _ rfl).1
    have d0 := (B1.out.2 0 _ rfl).1
    have c1 := (A1.out.2 1 _ rfl).1
    have d1 := (B1.out.2 1 _ rfl).1
    have c2 := (A1.out.2 2 _ rfl).1
    have d2 := (B1.out.2 2 _ rfl).1
    have c3 := (A1.out.2 3 _ rfl).1
    have d3 := (B1.out.2 3 _ rfl).1
    have c4 := (A1.out.2 4 _ rfl).1
    have d4 := (B1.out.2 4 _ rfl).1
    have c5 := (A1.out.2 5 _ rfl).1
    have d5 := (B1.out.2 5 _ rfl).1
    go_wp2_with fail
    refine (HL.out _ K1.out).mono ?_
    rintro e w2 ⟨rfl, b2⟩
    clear c0 d0 c1 d1 c2 d2 c3 d3 c4 d4 c5 d5
    have K2 := hide (K1.out.trans (b2.mono K1.out.size))
    have A2 := hide (A1.out.next b2)
    have B2 := hide (B1.out.next b2)
    clear b2 K1 A1 B1
    have c0 := (A2.out.2 0 _ rfl).1
    have d0 := (B2.out.2 0 _ rfl).1
    have c1 := (A2.out.2 1 _ rfl).1
    have d1 := (B2.out.2 1 _ rfl).1
    have c2 := (A2.out.2 2 _ rfl).1
    have d2 := (B2.out.2 2 _ rfl).1
    have c3 := (A2.out.2 3 _ rfl).1
    have d3 := (B2.out.2 3 _ rfl).1
    have c4 := (A2.out.2 4 _ rfl).1
    have d4 := (B2.out.2 4 _ rfl).1
    have c5 := (A2.out.2 5 _ rfl).1
    have d5 := (B2.out.2 5 _ rfl).1
    go_wp2
    go_ret
    exact ⟨ret_bool (by simp), K2.out⟩
  cases z4
  · clear hz0 hz1 hz4 hz5 HU
    go_enter Try.func11, Try.ntmps11
    have c0 := (A0.out.2 0 _ rfl).1
    have d0 := (B0.out.2 0 _ rfl).1
    have c1 := (A0.out.2 1 _ rfl).1
    have d1 := (B0.out.2 1 _ rfl).1
    have c2 := (A0.out.2 2 _ rfl).1
    have d2 := (B0.out.2 2 _ rfl).1
    have c3 := (A0.out.2 3 _ rfl).1
    have d3 := (B0.out.2 3 _ rfl).1
    have c4 := (A0.out.2 4 _ rfl).1
    have d4 := (B0.out.2 4 _ rfl).1
    have c5 := (A0.out.2 5 _ rfl).1
    have d5 := (B0.out.2 5 _ rfl).1
    go_wp2_with fail
    refine (HT.out _ K0.out).mono ?_
    rintro e w1 ⟨rfl, b1⟩
    clear c0 d0 c1 d1 c2 d2 c3 d3 c4 d4 c5 d5
    have K1 := hide (K0.out.trans (b1.mono K0.out.size))
    have A1 := hide (A0.out.next b1)
    have B1 := hide (B0.out.next b1)
    clear b1 K0 A0 B0
    have c0 := (A1.out.2 0 _ rfl).1
    have d0 := (B1.out.2 0 _ rfl).1
    have c1 := (A1.out.2 1 _ rfl).1
    have d1 := (B1.out.2 1 _ rfl).1
    have c2 := (A1.out.2 2 _ rfl).1
    have d2 := (B1.out.2 2 _ rfl).1
    have c3 := (A1.out.2 3 _ rfl).1
    have d3 := (B1.out.2 3 _ rfl).1
    have c4 := (A1.out.2 4 _ rfl).1
    have d4 := (B1.out.2 4 _ rfl).1
    have c5 := (A1.out.2 5 _ rfl).1
    have d5 := (B1.out.2 5 _ rfl).1
    go_wp2_with fail
    refine (HL.out _ K1.out).mono ?_
    rintro e w2 ⟨rfl, b2⟩
    clear c0 d0 c1 d1 c2 d2 c3 d3 c4 d4 c5 d5
    have K2 := hide (K1.out.trans (b2.mono K1.out.size))
    have A2 := hide (A1.out.next b2)
    have B2 := hide (B1.out.next b2)
    clear b2 K1 A1 B1
    have c0 := (A2.out.2 0 _ rfl).1
    have d0 := (B2.out.2 0 _ rfl).1
    have c1 := (A2.out.2 1 _ rfl).1
    have d1 := (B2.out.2 1 _ rfl).1
    have c2 := (A2.out.2 2 _ rfl).1
    have d2 := (B2.out.2 2 _ rfl).1
    have c3 := (A2.out.2 3 _ rfl).1
    have d3 := (B2.out.2 3 _ rfl).1
    have c4 := (A2.out.2 4 _ rfl).1
    have d4 := (B2.out.2 4 _ rfl).1
    have c5 := (A2.out.2 5 _ rfl).1
    have d5 := (B2.out.2 5 _ rfl).1
    go_wp2_with fail
    refine (HD.out _ K2.out).mono ?_
    rintro e w3 ⟨rfl, b3⟩
    clear c0 d0 c1 d1 c2 d2 c3 d3 c4 d4 c5 d5
    have K3 := hide (K2.out.trans (b3.mono K2.out.size))
    have A3 := hide (A2.out.next b3)
    have B3 := hide (B2.out.next b3)
    clear b3 K2 A2 B2
    have c0 := (A3.out.2 0 _ rfl).1
    have d0 := (B3.out.2 0 _ rfl).1
    have c1 := (A3.out.2 1 _ rfl).1
    have d1 := (B3.out.2 1 _ rfl).1
    have c2 := (A3.out.2 2 _ rfl).1
    have d2 := (B3.out.2 2 _ rfl).1
    have c3 := (A3.out.2 3 _ rfl).1
    have d3 := (B3.out.2 3 _ rfl).1
    have c4 := (A3.out.2 4 _ rfl).1
    have d4 := (B3.out.2 4 _ rfl).1
    have c5 := (A3.out.2 5 _ rfl).1
    have d5 := (B3.out.2 5 _ rfl).1
    go_wp2
    go_ret
    exact ⟨ret_bool (by simp), K3.out⟩
  cases z5
  · clear hz0 hz1 hz4 hz5
    go_enter Try.func11, Try.ntmps11
    have c0 := (A0.out.2 0 _ rfl).1
    have d0 := (B0.out.2 0 _ rfl).1
    have c1 := (A0.out.2 1 _ rfl).1
    have d1 := (B0.out.2 1 _ rfl).1
    have c2 := (A0.out.2 2 _ rfl).1
    have d2 := (B0.out.2 2 _ rfl).1
    have c3 := (A0.out.2 3 _ rfl).1
    have d3 := (B0.out.2 3 _ rfl).1
    have c4 := (A0.out.2 4 _ rfl).1
    have d4 := (B0.out.2 4 _ rfl).1
    have c5 := (A0.out.2 5 _ rfl).1
    have d5 := (B0.out.2 5 _ rfl).1
    go_wp2_with fail
    refine (HT.out _ K0.out).mono ?_
    rintro e w1 ⟨rfl, b1⟩
    clear c0 d0 c1 d1 c2 d2 c3 d3 c4 d4 c5 d5
    have K1 := hide (K0.out.trans (b1.mono K0.out.size))
    have A1 := hide (A0.out.next b1)
    have B1 := hide (B0.out.next b1)
    clear b1 K0 A0 B0
    have c0 := (A1.out.2 0 _ rfl).1
    have d0 := (B1.out.2 0 _ rfl).1
    have c1 := (A1.out.2 1 _ rfl).1
    have d1 := (B1.out.2 1 _ rfl).1
    have c2 := (A1.out.2 2 _ rfl).1
    have d2 := (B1.out.2 2 _ rfl).1
    have c3 := (A1.out.2 3 _ rfl).1
    have d3 := (B1.out.2 3 _ rfl).1
    have c4 := (A1.out.2 4 _ rfl).1
    have d4 := (B1.out.2 4 _ rfl).1
    have c5 := (A1.out.2 5 _ rfl).1
    have d5 := (B1.out.2 5 _ rfl).1
    go_wp2_with fail
    refine (HL.out _ K1.out).mono ?_
    rintro e w2 ⟨rfl, b2⟩
    clear c0 d0 c1 d1 c2 d2 c3 d3 c4 d4 c5 d5
    have K2 := hide (K1.out.trans (b2.mono K1.out.size))
    have A2 := hide (A1.out.next b2)
    have B2 := hide (B1.out.next b2)
    clear b2 K1 A1 B1
    have c0 := (A2.out.2 0 _ rfl).1
    have d0 := (B2.out.2 0 _ rfl).1
    have c1 := (A2.out.2 1 _ rfl).1
    have d1 := (B2.out.2 1 _ rfl).1
    have c2 := (A2.out.2 2 _ rfl).1
    have d2 := (B2.out.2 2 _ rfl).1
    have c3 := (A2.out.2 3 _ rfl).1
    have d3 := (B2.out.2 3 _ rfl).1
    have c4 := (A2.out.2 4 _ rfl).1
    have d4 := (B2.out.2 4 _ rfl).1
    have c5 := (A2.out.2 5 _ rfl).1
    have d5 := (B2.out.2 5 _ rfl).1
    go_wp2_with fail
    refine (HD.out _ K2.out).mono ?_
    rintro e w3 ⟨rfl, b3⟩
    clear c0 d0 c1 d1 c2 d2 c3 d3 c4 d4 c5 d5
    have K3 := hide (K2.out.trans (b3.mono K2.out.size))
    have A3 := hide (A2.out.next b3)
    have B3 := hide (B2.out.next b3)
    clear b3 K2 A2 B2
    have c0 := (A3.out.2 0 _ rfl).1
    have d0 := (B3.out.2 0 _ rfl).1
    have c1 := (A3.out.2 1 _ rfl).1
    have d1 := (B3.out.2 1 _ rfl).1
    have c2 := (A3.out.2 2 _ rfl).1
    have d2 := (B3.out.2 2 _ rfl).1
    have c3 := (A3.out.2 3 _ rfl).1
    have d3 := (B3.out.2 3 _ rfl).1
    have c4 := (A3.out.2 4 _ rfl).1
    have d4 := (B3.out.2 4 _ rfl).1
    have c5 := (A3.out.2 5 _ rfl).1
    have d5 := (B3.out.2 5 _ rfl).1
    go_wp2_with fail
    refine (HU.out _ K3.out).mono ?_
    rintro e w4 ⟨rfl, b4⟩
    clear c0 d0 c1 d1 c2 d2 c3 d3 c4 d4 c5 d5
    have K4 := hide (K3.out.trans (b4.mono K3.out.size))
    have A4 := hide (A3.out.next b4)
    have B4 := hide (B3.out.next b4)
    clear b4 K3 A3 B3
    have c0 := (A4.out.2 0 _ rfl).1
    have d0 := (B4.out.2 0 _ rfl).1
    have c1 := (A4.out.2 1 _ rfl).1
    have d1 := (B4.out.2 1 _ rfl).1
    have c2 := (A4.out.2 2 _ rfl).1
    have d2 := (B4.out.2 2 _ rfl).1
    have c3 := (A4.out.2 3 _ rfl).1
    have d3 := (B4.out.2 3 _ rfl).1
    have c4 := (A4.out.2 4 _ rfl).1
    have d4 := (B4.out.2 4 _ rfl).1
    have c5 := (A4.out.2 5 _ rfl).1
    have d5 := (B4.out.2 5 _ rfl).1
    go_wp2
    go_ret
    exact ⟨ret_bool (by simp), K4.out⟩
  clear hz0 hz1 hz4 hz5
  go_enter Try.func11, Try.ntmps11
  have c0 := (A0.out.2 0 _ rfl).1
  have d0 := (B0.out.2 0 _ rfl).1
  have c1 := (A0.out.2 1 _ rfl).1
  have d1 := (B0.out.2 1 _ rfl).1
  have c2 := (A0.out.2 2 _ rfl).1
  have d2 := (B0.out.2 2 _ rfl).1
  have c3 := (A0.out.2 3 _ rfl).1
  have d3 := (B0.out.2 3 _ rfl).1
  have c4 := (A0.out.2 4 _ rfl).1
  have d4 := (B0.out.2 4 _ rfl).1
  have c5 := (A0.out.2 5 _ rfl).1
  have d5 := (B0.out.2 5 _ rfl).1
  go_wp2_with fail
  refine (HT.out _ K0.out).mono ?_
  rintro e w1 ⟨rfl, b1⟩
  clear c0 d0 c1 d1 c2 d2 c3 d3 c4 d4 c5 d5
  have K1 := hide (K0.out.trans (b1.mono K0.out.size))
  have A1 := hide (A0.out.next b1)
  have B1 := hide (B0.out.next b1)
  clear b1 K0 A0 B0
  have c0 := (A1.out.2 0 _ rfl).1
  have d0 := (B1.out.2 0 _ rfl).1
  have c1 := (A1.out.2 1 _ rfl).1
  have d1 := (B1.out.2 1 _ rfl).1
  have c2 := (A1.out.2 2 _ rfl).1
  have d2 := (B1.out.2 2 _ rfl).1
  have c3 := (A1.out.2 3 _ rfl).1
  have d3 := (B1.out.2 3 _ rfl).1
  have c4 := (A1.out.2 4 _ rfl).1
  have d4 := (B1.out.2 4 _ rfl).1
  have c5 := (A1.out.2 5 _ rfl).1
  have d5 := (B1.out.2 5 _ rfl).1
  go_wp2_with fail
  refine (HL.out _ K1.out).mono ?_
  rintro e w2 ⟨rfl, b2⟩
  clear c0 d0 c1 d1 c2 d2 c3 d3 c4 d4 c5 d5
  have K2 := hide (K1.out.trans (b2.mono K1.out.size))
  have A2 := hide (A1.out.next b2)
  have B2 := hide (B1.out.next b2)
  clear b2 K1 A1 B1
  have c0 := (A2.out.2 0 _ rfl).1
  have d0 := (B2.out.2 0 _ rfl).1
  have c1 := (A2.out.2 1 _ rfl).1
  have d1 := (B2.out.2 1 _ rfl).1
  have c2 := (A2.out.2 2 _ rfl).1
  have d2 := (B2.out.2 2 _ rfl).1
  have c3 := (A2.out.2 3 _ rfl).1
  have d3 := (B2.out.2 3 _ rfl).1
  have c4 := (A2.out.2 4 _ rfl).1
  have d4 := (B2.out.2 4 _ rfl).1
  have c5 := (A2.out.2 5 _ rfl).1
  have d5 := (B2.out.2 5 _ rfl).1
  go_wp2_with fail
  refine (HD.out _ K2.out).mono ?_
  rintro e w3 ⟨rfl, b3⟩
  clear c0 d0 c1 d1 c2 d2 c3 d3 c4 d4 c5 d5
  have K3 := hide (K2.out.trans (b3.mono K2.out.size))
  have A3 := hide (A2.out.next b3)
  have B3 := hide (B2.out.next b3)
  clear b3 K2 A2 B2
  have c0 := (A3.out.2 0 _ rfl).1
  have d0 := (B3.out.2 0 _ rfl).1
  have c1 := (A3.out.2 1 _ rfl).1
  have d1 := (B3.out.2 1 _ rfl).1
  have c2 := (A3.out.2 2 _ rfl).1
  have d2 := (B3.out.2 2 _ rfl).1
  have c3 := (A3.out.2 3 _ rfl).1
  have d3 := (B3.out.2 3 _ rfl).1
  have c4 := (A3.out.2 4 _ rfl).1
  have d4 := (B3.out.2 4 _ rfl).1
  have c5 := (A3.out.2 5 _ rfl).1
  have d5 := (B3.out.2 5 _ rfl).1
  go_wp2_with fail
  refine (HU.out _ K3.out).mono ?_
  rintro e w4 ⟨rfl, b4⟩
  clear c0 d0 c1 d1 c2 d2 c3 d3 c4 d4 c5 d5
  have K4 := hide (K3.out.trans (b4.mono K3.out.size))
  have A4 := hide (A3.out.next b4)
  have B4 := hide (B3.out.next b4)
  clear b4 K3 A3 B3
  have c0 := (A4.out.2 0 _ rfl).1
  have d0 := (B4.out.2 0 _ rfl).1
  have c1 := (A4.out.2 1 _ rfl).1
  have d1 := (B4.out.2 1 _ rfl).1
  have c2 := (A4.out.2 2 _ rfl).1
  have d2 := (B4.out.2 2 _ rfl).1
  have c3 := (A4.out.2 3 _ rfl).1
  have d3 := (B4.out.2 3 _ rfl).1
  have c4 := (A4.out.2 4 _ rfl).1
  have d4 := (B4.out.2 4 _ rfl).1
  have c5 := (A4.out.2 5 _ rfl).1
  have d5 := (B4.out.2 5 _ rfl).1
  go_wp2
  go_ret
  exact ⟨ret_bool (by simp), K4.out⟩

theorem specSameSrv_gen (x y : Sv) (u0 u1 u4 u5 v0 v1 v4 v5 : Value) (W : World) (h0 : View W W.heap.size u0 (.l (x.t.map dRs))) (h1 : View W W.heap.size u1 (.l (x.l.map dLk))) (h4 : View W W.heap.size u4 (.l (x.dr.map dI))) (h5 : View W W.heap.size u5 (.l (x.us.map dI))) (g0 : View W W.heap.size v0 (.l (y.t.map dRs))) (g1 : View W W.heap.size v1 (.l (y.l.map dLk))) (g4 : View W W.heap.size v4 (.l (y.dr.map dI))) (g5 : View W W.heap.size v5 (.l (y.us.map dI))) (hsz : szR (dSv x) ≤ 1048576) (hsz' : szR (dSv y) ≤ 1048576) :
    Calls Try.prog 11 #[.agg #[u0, u1, .int .i64 x.now, .int .i64 x.ver, u4, u5], .agg #[v0, v1, .int .i64 y.now, .int .i64 y.ver, v4, v5]] W fun e w' => e = .returned (.bool (sameSvB x y)) ∧ Below W.heap.size W w' := by
  obtain ⟨ta, tc, la, lc, da, dc, ua, uc, rfl, rfl, rfl, rfl, h⟩ := svIn_of_view h0 h1 h4 h5
  obtain ⟨tb, td, lb, ld, db, dd, ub, ud, rfl, rfl, rfl, rfl, g⟩ := svIn_of_view g0 g1 g4 g5
  exact specSameSrv_any x y ta tb la lb da db ua ub tc lc dc uc td ld dd ud W.heap.size W.heap.size W h g (Nat.le_refl _) (Nat.le_refl _) (sv_small hsz) (sv_small hsz')
theorem sameSrv_gen (x y : Sv) (u0 u1 u4 u5 v0 v1 v4 v5 : Value) (W : World) (h0 : View W W.heap.size u0 (.l (x.t.map dRs))) (h1 : View W W.heap.size u1 (.l (x.l.map dLk))) (h4 : View W W.heap.size u4 (.l (x.dr.map dI))) (h5 : View W W.heap.size u5 (.l (x.us.map dI))) (g0 : View W W.heap.size v0 (.l (y.t.map dRs))) (g1 : View W W.heap.size v1 (.l (y.l.map dLk))) (g4 : View W W.heap.size v4 (.l (y.dr.map dI))) (g5 : View W W.heap.size v5 (.l (y.us.map dI))) (hsz : szR (dSv x) ≤ 1048576) (hsz' : szR (dSv y) ≤ 1048576) :
    Calls Try.prog 13 #[.agg #[u0, u1, .int .i64 x.now, .int .i64 x.ver, u4, u5], .agg #[v0, v1, .int .i64 y.now, .int .i64 y.ver, v4, v5]] W fun e w' => e = .returned (.bool (sameSvB x y)) ∧ Below W.heap.size W w' := by
  obtain ⟨ta, tc, la, lc, da, dc, ua, uc, rfl, rfl, rfl, rfl, h⟩ := svIn_of_view h0 h1 h4 h5
  obtain ⟨tb, td, lb, ld, db, dd, ub, ud, rfl, rfl, rfl, rfl, g⟩ := svIn_of_view g0 g1 g4 g5
  exact sameSrv_any x y ta tb la lb da db ua ub tc lc dc uc td ld dd ud W.heap.size W.heap.size W h g (Nat.le_refl _) (Nat.le_refl _) (sv_small hsz) (sv_small hsz')
end Go.Proofs.Ytcgljeagjchobaa
