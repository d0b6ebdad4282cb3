/-
  A help of the laws, by program (tools/gen_help.py): Sz1 of Req.
-/
import Derived.Test.YtckhjemojopekaaRows
import Derived.Test.YtckhjemojopekaaGenLeaf
import Derived.Test.YtckhjemojopekaaGenBox
import Derived.Test.YtckhjemojopekaaGenReq
import Derived.Test.YtckhjemojopekaaGenSzzHeadS
import Derived.WalkKit
import Derived.WalkSpells
import Derived.WalkLawsBesides
import Derived.Deep.Light
import Derived.Deep.QuietTactic
import Derived.Deep.RegionHeld3
namespace Go.Proofs.Ytckhjemojopekaa
open Go.RowKit M
set_option linter.unusedVariables false

set_option maxRecDepth 100000 in
set_option maxHeartbeats 4000000 in
theorem szReq_gen (x : Rq) (u2 : Value) (left B : Nat) (w : World) (h2 : View w B u2 (.l (x.hs.map dHd))) (hB : B ≤ w.heap.size) (hok : okR (dRq x)) (hleft : left ≤ 1048576) :
    Calls Try.prog 5 #[.agg #[.string x.m, .string x.p, u2, .string x.b], .int .i64 left] w fun e w' => (∃ z : Int, e = .returned (.int .i64 z) ∧ (z < 0 ∨ ∃ m : Nat, z = m ∧ szR (dRq x) + m = left)) ∧ Below w.heap.size w w' := by
  have K0 := hide (show Below w.heap.size w (w.alloc (Obj.cells #[.string x.m, .string x.p, u2, .string x.b] 24)) from (Below.refl _ _).alloc (Nat.le_refl _) _)
  have X0 := hide (BoxV.made w [.string x.m, .string x.p, u2, .string x.b] 24)
  have hsum : szR (dRq x) = (x.m).size + (x.p).size + szRs (x.hs.map dHd) + (x.b).size := by simp [dRq, szR, szF, szV]; try omega
  have HS := hide hsum
  clear hsum
  have s0 : (x.m).size ≤ maxLen := okR_mem hok (.c (.string (x.m))) (by simp [dRq])
  have s1 : (x.p).size ≤ maxLen := okR_mem hok (.c (.string (x.p))) (by simp [dRq])
  have s2 : okF (.l (x.hs.map dHd)) := okR_mem hok _ (by simp [dRq])
  have s3 : (x.b).size ≤ maxLen := okR_mem hok (.c (.string (x.b))) (by simp [dRq])
  unfold maxLen at s0 s1 s3
  have S2 := hide s2
  clear s2
  clear hok
  go_enter Try.func5, Try.ntmps5
  by_cases q0 : left < (x.m).size
  · go_wp2
    go_ret
    exact ⟨⟨_, rfl, .inl (by omega)⟩, K0.out⟩
  obtain ⟨m0, hm0⟩ : ∃ m : Nat, (x.m).size + m = left := ⟨left - (x.m).size, by omega⟩
  have e0 : (left : Int) - ((x.m).size : Int) = (m0 : Int) := by omega
  have hn0 : m0 ≤ 1048576 := by omega
  have E0 := hide hm0
  clear hm0 q0
  by_cases q1 : m0 < (x.p).size
  · go_wp2
    go_ret
    exact ⟨⟨_, rfl, .inl (by omega)⟩, K0.out⟩
  obtain ⟨m1, hm1⟩ : ∃ m : Nat, (x.p).size + m = m0 := ⟨m0 - (x.p).size, by omega⟩
  have e1 : (m0 : Int) - ((x.p).size : Int) = (m1 : Int) := by omega
  have hn1 : m1 ≤ 1048576 := by omega
  have E1 := hide hm1
  clear hm1 q1
  have HQ := hide (szHeadS_gen (x.hs) u2 m1 B _ (h2.stays K0.out hB) (Nat.le_trans hB K0.out.size) S2.out hn1)
  go_wp2_with fail
  refine HQ.out.mono ?_
  rintro e w1 ⟨⟨z, rfl, hz⟩, b1⟩
  have K1 := hide (K0.out.trans (b1.mono K0.out.size))
  have X1 := hide (X0.out.next b1)
  clear HQ b1 K0 X0
  rcases hz with hz | ⟨m2, rfl, hm2⟩
  · go_wp2
    go_ret
    exact ⟨⟨_, rfl, .inl (by omega)⟩, K1.out⟩
  have hn2 : m2 ≤ 1048576 := by omega
  have E2 := hide hm2
  clear hm2
  have c3 := (X1.out.2 3 _ rfl).1
  by_cases q3 : m2 < (x.b).size
  · go_wp2
    go_ret
    exact ⟨⟨_, rfl, .inl (by omega)⟩, K1.out⟩
  obtain ⟨m3, hm3⟩ : ∃ m : Nat, (x.b).size + m = m2 := ⟨m2 - (x.b).size, by omega⟩
  have e3 : (m2 : Int) - ((x.b).size : Int) = (m3 : Int) := by omega
  have hn3 : m3 ≤ 1048576 := by omega
  have E3 := hide hm3
  clear hm3 q3
  go_wp2
  go_ret
  exact ⟨⟨_, rfl, .inr ⟨m3, rfl, by rw [HS.out]; have := E0.out; have := E1.out; have := E2.out; have := E3.out; omega⟩⟩, K1.out⟩
end Go.Proofs.Ytckhjemojopekaa
