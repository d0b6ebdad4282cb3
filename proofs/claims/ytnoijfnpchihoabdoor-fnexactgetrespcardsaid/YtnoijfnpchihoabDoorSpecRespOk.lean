/-
  What the specification's RespOk does.
-/
import Derived.Test.YtnoijfnpchihoabDoorSpecHds
import Derived.Test.YtnoijfnpchihoabDoorSpecVal
import Derived.Test.YtnoijfnpchihoabDoorBoxResp
namespace Go.Proofs.YtnoijfnpchihoabDoor
open Go.RowKit M
set_option linter.unusedVariables false

set_option maxHeartbeats 1000000 in
theorem specRespOk_any (a : Option Addr) (r : Rs) (cap B : Nat) (w : World) (h : Hds w B a r.hs) (hB : B ≤ w.heap.size) (hsh : ShortA r) :
    Calls Tryd.prog 36 #[.agg #[.int .i64 r.c, .slice a r.hs.length cap, .string r.b]] w fun e w' => e = .returned (.bool (respB r)) ∧ Below w.heap.size w w' := by
  obtain ⟨q3, q4, q5⟩ := hsh
  have HM : Hid (inB r.c 100 599 = false → respB r = false) := respB_c
  have HH : Hid (hdsB r.hs = false → respB r = false) := respB_h
  have HA : Hid (inB r.c 100 599 = true → hdsB r.hs = true → respB r = decide ((r.b.size : Int) ≤ 400)) := respB_b
  obtain ⟨z, hz⟩ : ∃ z, respB r = z := ⟨_, rfl⟩
  rw [hz] at HM HH HA ⊢
  clear hz
  obtain ⟨rc, hs, rb⟩ := r
  simp only at *
  have q3' := q3
  unfold maxLen at q3'
  have hb0 : Below w.heap.size w (w.alloc (Obj.cells #[Value.int .i64 rc, Value.slice a hs.length cap, Value.string rb] 46)) := (Below.refl _ _).alloc (Nat.le_refl _) _
  have HD := hide (h.below hb0 hB)
  clear h
  cases h1 : inB rc 100 599
  · have hz := HM.out h1
    subst hz
    go_enter Tryd.func36, Tryd.ntmps36
    go_wp2_with (go_at_call 58; refine (l1In_any _ _ _ _).mono ?_; rintro e w1 ⟨rfl, hw⟩; obtain rfl := hw.symm; rw [h1])
    go_ret
    exact ⟨rfl, hb0⟩
  · cases h3 : hdsB hs
    · have hz := HH.out h3
      subst hz
      go_enter Tryd.func36, Tryd.ntmps36
      go_wp2_with (first | (go_at_call 58; refine (l1In_any _ _ _ _).mono ?_; rintro e w1 ⟨rfl, hw⟩; obtain rfl := hw.symm; rw [h1]) | (go_at_call 59; refine (l3Heads_any a hs cap B _ HD.out q5 q4).mono ?_; rintro e w1 ⟨rfl, hw⟩; obtain rfl := hw.symm; rw [h3]))
      go_ret
      exact ⟨rfl, hb0⟩
    · have hz := HA.out h1 h3
      subst hz
      go_enter Tryd.func36, Tryd.ntmps36
      go_wp2_with (first | (go_at_call 58; refine (l1In_any _ _ _ _).mono ?_; rintro e w1 ⟨rfl, hw⟩; obtain rfl := hw.symm; rw [h1]) | (go_at_call 59; refine (l3Heads_any a hs cap B _ HD.out q5 q4).mono ?_; rintro e w1 ⟨rfl, hw⟩; obtain rfl := hw.symm; rw [h3]))
      go_ret
      exact ⟨rfl, hb0⟩
end Go.Proofs.YtnoijfnpchihoabDoor
