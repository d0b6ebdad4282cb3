/-
  A help of the laws, by program (tools/gen_help.py): Mk1 of Srv.
-/
import Derived.Test.YtcgljeagjchobaaRows
import Derived.Test.YtcgljeagjchobaaGenSrv
import Derived.Test.YtcgljeagjchobaaGenBox
import Derived.Test.YtcgljeagjchobaaGenMarkResS
import Derived.Test.YtcgljeagjchobaaGenMarkLockS
import Derived.Test.YtcgljeagjchobaaGenMarkIntS
import Derived.WalkKit
import Derived.WalkSpells
import Derived.WalkLawsBesides
import Derived.Deep.Light
import Derived.Deep.QuietTactic
import Derived.Deep.RegionHeld3
namespace Go.Proofs.Ytcgljeagjchobaa
open Go.RowKit M
set_option linter.unusedVariables false

set_option maxRecDepth 100000 in
set_option maxHeartbeats 4000000 in
theorem markSrv_gen (x : Sv) (u0 u1 u4 u5 : Value) (S0 S1 S4 S5 : Nat → Prop) (k0 : Nat) (w : World) (o0 : Own w u0 (.l (x.t.map dRs)) S0) (o1 : Own w u1 (.l (x.l.map dLk)) S1) (o4 : Own w u4 (.l (x.dr.map dI)) S4) (o5 : Own w u5 (.l (x.us.map dI)) S5) (z0 : ∀ y, S0 y → y < w.heap.size) (z1 : ∀ y, S1 y → y < w.heap.size) (z4 : ∀ y, S4 y → y < w.heap.size) (z5 : ∀ y, S5 y → y < w.heap.size) (d01 : ∀ y, S0 y → ¬ S1 y) (d04 : ∀ y, S0 y → ¬ S4 y) (d05 : ∀ y, S0 y → ¬ S5 y) (d14 : ∀ y, S1 y → ¬ S4 y) (d15 : ∀ y, S1 y → ¬ S5 y) (d45 : ∀ y, S4 y → ¬ S5 y) (hk1 : 1 ≤ k0) (hk : k0 + cntRs (x.t.map dRs) + cntRs (x.l.map dLk) + cntRs (x.dr.map dI) + cntRs (x.us.map dI) ≤ 90000000) :
    Calls Try.prog 8 #[.agg #[u0, u1, .int .i64 x.now, .int .i64 x.ver, u4, u5], .int .i64 k0] w fun e w' => e = .returned (.int .i64 ((k0 + cntRs (x.t.map dRs) + cntRs (x.l.map dLk) + cntRs (x.dr.map dI) + cntRs (x.us.map dI) : Nat) : Int)) ∧ Own w' u0 (mkF (k0) (.l (x.t.map dRs))) S0 ∧ Own w' u1 (mkF (k0 + cntRs (x.t.map dRs)) (.l (x.l.map dLk))) S1 ∧ Own w' u4 (mkF (k0 + cntRs (x.t.map dRs) + cntRs (x.l.map dLk)) (.l (x.dr.map dI))) S4 ∧ Own w' u5 (mkF (k0 + cntRs (x.t.map dRs) + cntRs (x.l.map dLk) + cntRs (x.dr.map dI)) (.l (x.us.map dI))) S5 ∧ Turn (fun y => S0 y ∨ S1 y ∨ S4 y ∨ S5 y) w w' := by
  have b0 := (Below.refl w.heap.size w).alloc (Nat.le_refl _) (Obj.cells #[u0, u1, .int .i64 x.now, .int .i64 x.ver, u4, u5] 26)
  have X0 := hide (BoxV.made w [u0, u1, .int .i64 x.now, .int .i64 x.ver, u4, u5] 26)
  have o0_0 := hide (o0.next b0)
  have o1_0 := hide (o1.next b0)
  have o4_0 := hide (o4.next b0)
  have o5_0 := hide (o5.next b0)
  have T0 := hide (show Turn (fun y => S0 y ∨ S1 y ∨ S4 y ∨ S5 y) w (w.alloc (Obj.cells #[u0, u1, .int .i64 x.now, .int .i64 x.ver, u4, u5] 26)) from Turn.of_below b0)
  clear b0 o0 o1 o4 o5
  have n0 : ¬ S0 w.heap.size := fun e => absurd (z0 _ e) (Nat.lt_irrefl _)
  have n1 : ¬ S1 w.heap.size := fun e => absurd (z1 _ e) (Nat.lt_irrefl _)
  have n4 : ¬ S4 w.heap.size := fun e => absurd (z4 _ e) (Nat.lt_irrefl _)
  have n5 : ¬ S5 w.heap.size := fun e => absurd (z5 _ e) (Nat.lt_irrefl _)
  obtain ⟨M1, hM1⟩ : ∃ M, k0 + cntRs (x.t.map dRs) = M := ⟨_, rfl⟩
  obtain ⟨M2, hM2⟩ : ∃ M, M1 + cntRs (x.l.map dLk) = M := ⟨_, rfl⟩
  obtain ⟨M3, hM3⟩ : ∃ M, M2 + cntRs (x.dr.map dI) = M := ⟨_, rfl⟩
  obtain ⟨M4, hM4⟩ : ∃ M, M3 + cntRs (x.us.map dI) = M := ⟨_, rfl⟩
  rw [hM1, hM2, hM3, hM4] at hk
  have hb : M1 ≤ 90000000 ∧ 1 ≤ M1 ∧ M2 ≤ 90000000 ∧ 1 ≤ M2 ∧ M3 ≤ 90000000 ∧ 1 ≤ M3 ∧ M4 ≤ 90000000 ∧ 1 ≤ M4 := by omega
  rw [hM1, hM2, hM3, hM4]
  have HM1 := hide hM1
  clear hM1
  have HM2 := hide hM2
  clear hM2
  have HM3 := hide hM3
  clear hM3
  have HM4 := hide hM4
  clear hM4
  go_enter Try.func8, Try.ntmps8
  have HQ := hide (markResS_gen (x.t) (k0) u0 S0 _ o0_0.out (by omega) (by have := HM1.out; omega))
  rw [HM1.out] at HQ
  go_wp2_with fail
  refine HQ.out.mono ?_
  rintro e w1 ⟨rfl, o, tt⟩
  have o0_1 := hide o
  have o1_1 := hide (o1_0.out.turn tt (fun y h1 h2 => d01 y h2 h1))
  have o4_1 := hide (o4_0.out.turn tt (fun y h1 h2 => d04 y h2 h1))
  have o5_1 := hide (o5_0.out.turn tt (fun y h1 h2 => d05 y h2 h1))
  have T1 := hide (T0.out.trans (tt.wide (fun y hy => .inl hy)))
  have X1 := hide (X0.out.turn tt n0)
  clear HQ tt o T0 X0 o0_0 o1_0 o4_0 o5_0
  have c1 := (X1.out.2 1 _ rfl).1
  have HQ := hide (markLockS_gen (x.l) (M1) u1 S1 _ o1_1.out (by omega) (by have := HM2.out; omega))
  rw [HM2.out] at HQ
  go_wp2_with fail
  refine HQ.out.mono ?_
  rintro e w2 ⟨rfl, o, tt⟩
  have o1_2 := hide o
  have o0_2 := hide (o0_1.out.turn tt (fun y h1 h2 => d01 y h1 h2))
  have o4_2 := hide (o4_1.out.turn tt (fun y h1 h2 => d14 y h2 h1))
  have o5_2 := hide (o5_1.out.turn tt (fun y h1 h2 => d15 y h2 h1))
  have T2 := hide (T1.out.trans (tt.wide (fun y hy => .inr (.inl hy))))
  have X2 := hide (X1.out.turn tt n1)
  clear HQ tt o T1 X1 o0_1 o1_1 o4_1 o5_1 c1
  have c4 := (X2.out.2 4 _ rfl).1
  have HQ := hide (markIntS_gen (x.dr) (M2) u4 S4 _ o4_2.out (by omega) (by have := HM3.out; omega))
  rw [HM3.out] at HQ
  go_wp2_with fail
  refine HQ.out.mono ?_
  rintro e w3 ⟨rfl, o, tt⟩
  have o4_3 := hide o
  have o0_3 := hide (o0_2.out.turn tt (fun y h1 h2 => d04 y h1 h2))
  have o1_3 := hide (o1_2.out.turn tt (fun y h1 h2 => d14 y h1 h2))
  have o5_3 := hide (o5_2.out.turn tt (fun y h1 h2 => d45 y h2 h1))
  have T3 := hide (T2.out.trans (tt.wide (fun y hy => .inr (.inr (.inl hy)))))
  have X3 := hide (X2.out.turn tt n4)
  clear HQ tt o T2 X2 o0_2 o1_2 o4_2 o5_2 c4
  have c5 := (X3.out.2 5 _ rfl).1
  have HQ := hide (markIntS_gen (x.us) (M3) u5 S5 _ o5_3.out (by omega) (by have := HM4.out; omega))
  rw [HM4.out] at HQ
  go_wp2_with fail
  refine HQ.out.mono ?_
  rintro e w4 ⟨rfl, o, tt⟩
  have o5_4 := hide o
  have o0_4 := hide (o0_3.out.turn tt (fun y h1 h2 => d05 y h1 h2))
  have o1_4 := hide (o1_3.out.turn tt (fun y h1 h2 => d15 y h1 h2))
  have o4_4 := hide (o4_3.out.turn tt (fun y h1 h2 => d45 y h1 h2))
  have T4 := hide (T3.out.trans (tt.wide (fun y hy => .inr (.inr (.inr (hy))))))
  have X4 := hide (X3.out.turn tt n5)
  clear HQ tt o T3 X3 o0_3 o1_3 o4_3 o5_3 c5
  go_wp2
  go_ret
  exact ⟨rfl, o0_4.out, o1_4.out, o4_4.out, o5_4.out, T4.out⟩
end Go.Proofs.Ytcgljeagjchobaa
