/-
  What impl.LockOk and spec.LockOk do.
-/
import Derived.Test.YtackgogcpdbnlaaLocks
import Derived.Test.YtackgogcpdbnlaaSpecPathOk
import Derived.Test.YtackgogcpdbnlaaIn
namespace Go.Proofs.Ytackgogcpdbnlaa
open Go.RowKit M
set_option linter.unusedVariables false

set_option maxHeartbeats 400000 in
theorem tokenOk_any (x : Int) (w : World) :
    Calls Try.prog 62 #[.int .i64 x] w fun e w' => e = .returned (.bool (inB x 1 9999)) ∧ w' = w := by
  go_enter Try.func62, Try.ntmps62
  go_wp2
  all_goals
    go_ret
    refine ⟨ret_bool ?_, rfl⟩
    go_light
    unfold inB
    simp_all
    try omega

set_option maxHeartbeats 400000 in
theorem timeOk_any (x : Int) (w : World) :
    Calls Try.prog 64 #[.int .i64 x] w fun e w' => e = .returned (.bool (inB x 0 9999999)) ∧ w' = w := by
  go_enter Try.func64, Try.ntmps64
  go_wp2
  all_goals
    go_ret
    refine ⟨ret_bool ?_, rfl⟩
    go_light
    unfold inB
    simp_all
    try omega

theorem lockB_is (r : Lk) (z1 z2 z3 : Bool) (h1 : inB r.tk 1 9999 = z1) (h2 : pathB r.pa = z2) (h3 : inB r.un 0 9999999 = z3) : lockB r = (z1 && (z2 && z3)) := by
  unfold lockB; rw [h1, h2, h3]

set_option maxHeartbeats 1000000 in
theorem lockOk_any (r : Lk) (pa : Option Addr) (pc B : Nat) (w : World) (h : LkIn w B r pa pc) (hB : B ≤ w.heap.size) (hs : Short r.pa) :
    Calls Try.prog 26 #[.agg #[.int .i64 r.tk, .slice pa r.pa.length pc, .bool r.de, .bool r.sh, .int .i64 r.un]] w fun e w' => e = .returned (.bool (lockB r)) ∧ Below w.heap.size w w' := by
  have l1 := h.len
  have p1 := h.ph
  obtain ⟨z1, hz1⟩ : ∃ z, inB r.tk 1 9999 = z := ⟨_, rfl⟩
  obtain ⟨z2, hz2⟩ : ∃ z, pathB r.pa = z := ⟨_, rfl⟩
  obtain ⟨z3, hz3⟩ : ∃ z, inB r.un 0 9999999 = z := ⟨_, rfl⟩
  rw [lockB_is r z1 z2 z3 hz1 hz2 hz3]
  clear h
  obtain ⟨tk, ss, de, sh, un⟩ := r
  simp only at *
  have hb0 : Below w.heap.size w (w.alloc (Obj.cells #[.int .i64 tk, .slice pa ss.length pc, .bool de, .bool sh, .int .i64 un] 27)) := (Below.refl _ _).alloc (Nat.le_refl _) _
  have hT := fun W => tokenOk_any tk W
  have hU := fun W => timeOk_any un W
  have hP := pathOk_any pa ss pc _ ((p1.below hb0 hB).mono (Nat.le_trans hB hb0.size)) hs l1
  rw [hz1] at hT
  rw [hz3] at hU
  rw [hz2] at hP
  have HT := hide hT
  have HU := hide hU
  have HP := hide hP
  have HB0 := hide hb0
  clear hT hU hP hz1 hz2 hz3 hb0 p1
  cases z1
  · go_enter Try.func26, Try.ntmps26
    go_wp2_with fail
    refine (HT.out _).mono ?_
    rintro e w1 ⟨rfl, hw⟩
    obtain rfl := hw
    go_wp2
    go_ret
    exact ⟨rfl, HB0.out⟩
  · cases z2
    · go_enter Try.func26, Try.ntmps26
      go_wp2_with fail
      refine (HT.out _).mono ?_
      rintro e w1 ⟨rfl, hw⟩
      obtain rfl := hw
      go_wp2_with fail
      refine HP.out.mono ?_
      rintro e w2 ⟨rfl, hb2⟩
      have c2 := HB0.out.trans (hb2.mono HB0.out.size)
      go_wp2
      go_ret
      exact ⟨rfl, c2⟩
    · go_enter Try.func26, Try.ntmps26
      go_wp2_with fail
      refine (HT.out _).mono ?_
      rintro e w1 ⟨rfl, hw⟩
      obtain rfl := hw
      go_wp2_with fail
      refine HP.out.mono ?_
      rintro e w2 ⟨rfl, hb2⟩
      have c2 := HB0.out.trans (hb2.mono HB0.out.size)
      obtain ⟨hcl, _⟩ := bcellL hb2
      clear hb2
      go_wp2_with fail
      refine (HU.out _).mono ?_
      rintro e w3 ⟨rfl, hw⟩
      obtain rfl := hw.symm
      go_wp2
      go_ret
      exact ⟨rfl, c2⟩

set_option maxHeartbeats 1000000 in
theorem specLockOk_any (r : Lk) (pa : Option Addr) (pc B : Nat) (w : World) (h : LkIn w B r pa pc) (hB : B ≤ w.heap.size) (hs : Short r.pa) :
    Calls Try.prog 24 #[.agg #[.int .i64 r.tk, .slice pa r.pa.length pc, .bool r.de, .bool r.sh, .int .i64 r.un]] w fun e w' => e = .returned (.bool (lockB r)) ∧ Below w.heap.size w w' := by
  have l1 := h.len
  have p1 := h.ph
  obtain ⟨z1, hz1⟩ : ∃ z, inB r.tk 1 9999 = z := ⟨_, rfl⟩
  obtain ⟨z2, hz2⟩ : ∃ z, pathB r.pa = z := ⟨_, rfl⟩
  obtain ⟨z3, hz3⟩ : ∃ z, inB r.un 0 9999999 = z := ⟨_, rfl⟩
  rw [lockB_is r z1 z2 z3 hz1 hz2 hz3]
  clear h
  obtain ⟨tk, ss, de, sh, un⟩ := r
  simp only at *
  have hb0 : Below w.heap.size w (w.alloc (Obj.cells #[.int .i64 tk, .slice pa ss.length pc, .bool de, .bool sh, .int .i64 un] 27)) := (Below.refl _ _).alloc (Nat.le_refl _) _
  have hT := fun W => l1In_any tk 1 9999 W
  have hU := fun W => l1In_any un 0 9999999 W
  have hP := specPathOk_any pa ss pc B _ (p1.below hb0 hB) hs l1
  rw [hz1] at hT
  rw [hz3] at hU
  rw [hz2] at hP
  have HT := hide hT
  have HU := hide hU
  have HP := hide hP
  have HB0 := hide hb0
  clear hT hU hP hz1 hz2 hz3 hb0 p1
  cases z1
  · go_enter Try.func24, Try.ntmps24
    go_wp2_with fail
    refine (HT.out _).mono ?_
    rintro e w1 ⟨rfl, hw⟩
    obtain rfl := hw
    go_wp2
    go_ret
    exact ⟨rfl, HB0.out⟩
  · cases z2
    all_goals
      go_enter Try.func24, Try.ntmps24
      go_wp2_with fail
      refine (HT.out _).mono ?_
      rintro e w1 ⟨rfl, hw⟩
      obtain rfl := hw
      go_wp2_with fail
      refine HP.out.mono ?_
      rintro e w2 ⟨rfl, hw⟩
      obtain rfl := hw
    · go_wp2
      go_ret
      exact ⟨rfl, HB0.out⟩
    · go_wp2_with fail
      refine (HU.out _).mono ?_
      rintro e w3 ⟨rfl, hw⟩
      obtain rfl := hw
      go_wp2
      go_ret
      exact ⟨rfl, HB0.out⟩
end Go.Proofs.Ytackgogcpdbnlaa
