/-
  What the specification's ReqOk does.
-/
import Derived.Test.YtnoijfnpchihoabDoorHeadsOk
import Derived.Test.YtnoijfnpchihoabDoorSpecReq
namespace Go.Proofs.YtnoijfnpchihoabDoor
open Go.RowKit M
set_option linter.unusedVariables false

theorem reqB_m {r : Rq} (h : methB r.m = false) : reqB r = false := by simp [reqB, h]
theorem reqB_p {r : Rq} (h : targB r.p = false) : reqB r = false := by simp [reqB, h]
theorem reqB_h {r : Rq} (h : hdsB r.hs = false) : reqB r = false := by simp [reqB, h]
theorem reqB_b {r : Rq} (h1 : methB r.m = true) (h2 : targB r.p = true) (h3 : hdsB r.hs = true) : reqB r = decide ((r.b.size : Int) ≤ 200) := by
  by_cases e : r.b.size ≤ 200
  · have e2 : (r.b.size : Int) ≤ 200 := by omega
    simp [reqB, h1, h2, h3, e, e2]
  · have e2 : ¬ (r.b.size : Int) ≤ 200 := by omega
    simp [reqB, h1, h2, h3, e, e2]

set_option maxHeartbeats 1000000 in
theorem specReqOk_any (a : Option Addr) (r : Rq) (cap B : Nat) (w : World) (h : Hds w B a r.hs) (hB : B ≤ w.heap.size) (hsh : ShortR r) :
    Calls Tryd.prog 50 #[.agg #[.string r.m, .string r.p, .slice a r.hs.length cap, .string r.b]] w fun e w' => e = .returned (.bool (reqB r)) ∧ Below w.heap.size w w' := by
  obtain ⟨q1, q2, q3, q4, q5⟩ := hsh
  have HM : Hid (methB r.m = false → reqB r = false) := reqB_m
  have HP : Hid (targB r.p = false → reqB r = false) := reqB_p
  have HH : Hid (hdsB r.hs = false → reqB r = false) := reqB_h
  have HA : Hid (methB r.m = true → targB r.p = true → hdsB r.hs = true → reqB r = decide ((r.b.size : Int) ≤ 200)) := reqB_b
  obtain ⟨z, hz⟩ : ∃ z, reqB r = z := ⟨_, rfl⟩
  rw [hz] at HM HP HH HA ⊢
  clear hz
  obtain ⟨rm, rp, hs, rb⟩ := r
  simp only at *
  have q3' := q3
  unfold maxLen at q3'
  have hb0 : Below w.heap.size w (w.alloc (Obj.cells #[Value.string rm, Value.string rp, Value.slice a hs.length cap, Value.string rb] 31)) := (Below.refl _ _).alloc (Nat.le_refl _) _
  have HD := hide (h.below hb0 hB)
  clear h
  cases h1 : methB rm
  · have hz := HM.out h1
    subst hz
    go_enter Tryd.func50, Tryd.ntmps50
    go_wp2_with (go_at_call 70; refine (l3Method_any rm _ q1).mono ?_; rintro e w1 ⟨rfl, hw⟩; obtain rfl := hw.symm; rw [h1])
    go_ret
    exact ⟨rfl, hb0⟩
  · cases h2 : targB rp
    · have hz := HP.out h2
      subst hz
      go_enter Tryd.func50, Tryd.ntmps50
      go_wp2_with (first | (go_at_call 70; refine (l3Method_any rm _ q1).mono ?_; rintro e w1 ⟨rfl, hw⟩; obtain rfl := hw.symm; rw [h1]) | (go_at_call 71; refine (l3Target_any rp _ q2).mono ?_; rintro e w1 ⟨rfl, hw⟩; obtain rfl := hw.symm; rw [h2]))
      go_ret
      exact ⟨rfl, hb0⟩
    · cases h3 : hdsB hs
      · have hz := HH.out h3
        subst hz
        go_enter Tryd.func50, Tryd.ntmps50
        go_wp2_with (first | (go_at_call 70; refine (l3Method_any rm _ q1).mono ?_; rintro e w1 ⟨rfl, hw⟩; obtain rfl := hw.symm; rw [h1]) | (go_at_call 71; refine (l3Target_any rp _ q2).mono ?_; rintro e w1 ⟨rfl, hw⟩; obtain rfl := hw.symm; rw [h2]) | (go_at_call 59; refine (l3Heads_any a hs cap B _ HD.out q5 q4).mono ?_; rintro e w1 ⟨rfl, hw⟩; obtain rfl := hw.symm; rw [h3]))
        go_ret
        exact ⟨rfl, hb0⟩
      · have hz := HA.out h1 h2 h3
        subst hz
        go_enter Tryd.func50, Tryd.ntmps50
        go_wp2_with (first | (go_at_call 70; refine (l3Method_any rm _ q1).mono ?_; rintro e w1 ⟨rfl, hw⟩; obtain rfl := hw.symm; rw [h1]) | (go_at_call 71; refine (l3Target_any rp _ q2).mono ?_; rintro e w1 ⟨rfl, hw⟩; obtain rfl := hw.symm; rw [h2]) | (go_at_call 59; refine (l3Heads_any a hs cap B _ HD.out q5 q4).mono ?_; rintro e w1 ⟨rfl, hw⟩; obtain rfl := hw.symm; rw [h3]))
        go_ret
        exact ⟨rfl, hb0⟩
end Go.Proofs.YtnoijfnpchihoabDoor
