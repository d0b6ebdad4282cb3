/-
  What the program's headsOk and ReqOk do.
-/
import Derived.Test.YtnoijfnpchihoabDoorHeadsOk
import Derived.Test.YtnoijfnpchihoabDoorReqBits
import Derived.Test.YtnoijfnpchihoabDoorMathLines
namespace Go.Proofs.YtnoijfnpchihoabDoor
open Go.RowKit M
set_option linter.unusedVariables false

/-- Short enough for a copy of each text. -/
def FitR (r : Rq) : Prop := ShortR r ∧ ∀ x ∈ r.hs, x.2.size ≤ 281474976710656

set_option maxHeartbeats 2000000 in
theorem reqOk_any (a : Option Addr) (r : Rq) (cap B : Nat) (w : World) (h : Hds w B a r.hs) (hB : B ≤ w.heap.size) (hfit : FitR r) :
    Calls Tryd.prog 53 #[.agg #[.string r.m, .string r.p, .slice a r.hs.length cap, .string r.b]] w fun e w' => e = .returned (.bool (reqB r)) ∧ Below w.heap.size w w' := by
  obtain ⟨⟨q1, q2, q3, q4, q5⟩, q6⟩ := hfit
  have HM : Hid (methB r.m = false → reqB r = false) := reqB_m
  have HP : Hid (targB r.p = false → reqB r = false) := reqB_p
  have HH : Hid (hdsB r.hs = false → reqB r = false) := reqB_h
  have HA : Hid (methB r.m = true → targB r.p = true → hdsB r.hs = true → reqB r = decide ((r.b.size : Int) ≤ 200)) := reqB_b
  have q3' := q3
  unfold maxLen at q3'
  have hb0 : Below w.heap.size w (w.alloc (Obj.cells #[Value.string r.m, Value.string r.p, Value.slice a r.hs.length cap, Value.string r.b] 31)) := (Below.refl _ _).alloc (Nat.le_refl _) _
  have BX0 := hide (BoxR.made w a cap r 31)
  have HD := hide h
  have C0 := hide hb0
  obtain ⟨z, hz⟩ : ∃ z, reqB r = z := ⟨_, rfl⟩
  rw [hz] at HM HP HH HA ⊢
  clear hz h hb0
  cases h1 : methB r.m
  · have hz := HM.out h1
    subst hz
    go_enter Tryd.func53, Tryd.ntmps53
    go_wp2_with fail
    refine (methodOk_any r.m _ q1).mono ?_
    rintro e w1 ⟨rfl, b1⟩
    rw [h1]
    have c1 := C0.out.trans (b1.mono C0.out.size)
    go_wp2
    go_ret
    exact ⟨rfl, c1⟩
  · cases h2 : targB r.p
    · have hz := HP.out h2
      subst hz
      go_enter Tryd.func53, Tryd.ntmps53
      go_wp2_with fail
      refine (methodOk_any r.m _ q1).mono ?_
      rintro e w1 ⟨rfl, b1⟩
      rw [h1]
      have c1 := C0.out.trans (b1.mono C0.out.size)
      have BX1 := hide (BX0.out.next b1)
      have x1 := BX1.out
      obtain ⟨_, x10, x11, x12, x13⟩ := x1
      go_wp2_with fail
      refine (targetOk_any r.p w1 q2).mono ?_
      rintro e w2 ⟨rfl, b2⟩
      rw [h2]
      have c2 := c1.trans (b2.mono c1.size)
      go_wp2
      go_ret
      exact ⟨rfl, c2⟩
    · cases h3 : hdsB r.hs
      · have hz := HH.out h3
        subst hz
        go_enter Tryd.func53, Tryd.ntmps53
        go_wp2_with fail
        refine (methodOk_any r.m _ q1).mono ?_
        rintro e w1 ⟨rfl, b1⟩
        rw [h1]
        have c1 := C0.out.trans (b1.mono C0.out.size)
        have BX1 := hide (BX0.out.next b1)
        have x1 := BX1.out
        obtain ⟨_, x10, x11, x12, x13⟩ := x1
        go_wp2_with fail
        refine (targetOk_any r.p w1 q2).mono ?_
        rintro e w2 ⟨rfl, b2⟩
        rw [h2]
        have c2 := c1.trans (b2.mono c1.size)
        have BX2 := hide (BX1.out.next b2)
        clear x10 x11 x12 x13
        have x2 := BX2.out
        obtain ⟨_, x20, x21, x22, x23⟩ := x2
        go_wp2_with fail
        refine (headsOk_any a r.hs cap B w2 (HD.out.below c2 hB) (Nat.le_trans hB c2.size) q5 q6 q4).mono ?_
        rintro e w3 ⟨rfl, b3⟩
        rw [h3]
        have c3 := c2.trans (b3.mono c2.size)
        go_wp2
        go_ret
        exact ⟨rfl, c3⟩
      · have hz := HA.out h1 h2 h3
        subst hz
        go_enter Tryd.func53, Tryd.ntmps53
        go_wp2_with fail
        refine (methodOk_any r.m _ q1).mono ?_
        rintro e w1 ⟨rfl, b1⟩
        rw [h1]
        have c1 := C0.out.trans (b1.mono C0.out.size)
        have BX1 := hide (BX0.out.next b1)
        have x1 := BX1.out
        obtain ⟨_, x10, x11, x12, x13⟩ := x1
        go_wp2_with fail
        refine (targetOk_any r.p w1 q2).mono ?_
        rintro e w2 ⟨rfl, b2⟩
        rw [h2]
        have c2 := c1.trans (b2.mono c1.size)
        have BX2 := hide (BX1.out.next b2)
        clear x10 x11 x12 x13
        have x2 := BX2.out
        obtain ⟨_, x20, x21, x22, x23⟩ := x2
        go_wp2_with fail
        refine (headsOk_any a r.hs cap B w2 (HD.out.below c2 hB) (Nat.le_trans hB c2.size) q5 q6 q4).mono ?_
        rintro e w3 ⟨rfl, b3⟩
        rw [h3]
        have c3 := c2.trans (b3.mono c2.size)
        have BX3 := BX2.out.next b3
        clear x20 x21 x22 x23
        obtain ⟨_, x30, x31, x32, x33⟩ := BX3
        go_wp2
        go_ret
        exact ⟨rfl, c3⟩
end Go.Proofs.YtnoijfnpchihoabDoor
