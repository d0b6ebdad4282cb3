/-
  What the program's codeOk and RespOk do.
-/
import Derived.Test.YtnoijfnpchihoabHeadsOk
import Derived.Test.YtnoijfnpchihoabBoxResp
namespace Go.Proofs.Ytnoijfnpchihoab
open Go.RowKit M
set_option linter.unusedVariables false

set_option maxHeartbeats 400000 in
theorem codeOk_any (c : Int) (w : World) : Calls Try.prog 16 #[.int .i64 c] w fun e w' => e = .returned (.bool (codeB c)) ∧ w' = w := by
  have HE : Hid (codeB c = (decide (100 ≤ c) && decide (c < 600))) := by
    show codeB c = _
    by_cases h1 : 100 ≤ c
    · by_cases h2 : c < 600
      · have h3 : c ≤ 599 := by omega
        simp [codeB, inB, h1, h2, h3]
      · have h3 : ¬ c ≤ 599 := by omega
        simp [codeB, inB, h1, h2, h3]
    · simp [codeB, inB, h1]
  by_cases h1 : 100 ≤ c
  · go_enter Try.func16, Try.ntmps16
    go_wp2
    go_ret
    rw [HE.out, decide_eq_true h1]
    exact ⟨rfl, rfl⟩
  · go_enter Try.func16, Try.ntmps16
    go_wp2
    go_ret
    rw [HE.out, decide_eq_false (by omega)]
    exact ⟨rfl, rfl⟩

set_option maxHeartbeats 2000000 in
theorem respOk_any (a : Option Addr) (r : Rs) (cap B : Nat) (w : World) (h : Hds w B a r.hs) (hB : B ≤ w.heap.size) (hfit : FitA r) :
    Calls Try.prog 8 #[.agg #[.int .i64 r.c, .slice a r.hs.length cap, .string r.b]] w fun e w' => e = .returned (.bool (respB r)) ∧ Below w.heap.size w w' := by
  obtain ⟨⟨q3, q4, q5⟩, q6⟩ := hfit
  have HM : Hid (codeB r.c = false → respB r = false) := respB_c
  have HH : Hid (hdsB r.hs = false → respB r = false) := respB_h
  have HA : Hid (codeB r.c = true → hdsB r.hs = true → respB r = decide ((r.b.size : Int) ≤ 400)) := respB_b
  have q3' := q3
  unfold maxLen at q3'
  have hb0 : Below w.heap.size w (w.alloc (Obj.cells #[Value.int .i64 r.c, Value.slice a r.hs.length cap, Value.string r.b] 29)) := (Below.refl _ _).alloc (Nat.le_refl _) _
  have BX0 := hide (BoxA.made w a cap r 29)
  have HD := hide (h.below hb0 hB)
  have C0 := hide hb0
  obtain ⟨z, hz⟩ : ∃ z, respB r = z := ⟨_, rfl⟩
  rw [hz] at HM HH HA ⊢
  clear hz h hb0
  cases h1 : codeB r.c
  · have hz := HM.out h1
    subst hz
    go_enter Try.func8, Try.ntmps8
    go_wp2_with fail
    refine (codeOk_any r.c _).mono ?_
    rintro e w1 ⟨rfl, hw⟩
    obtain rfl := hw.symm
    rw [h1]
    go_wp2
    go_ret
    exact ⟨rfl, C0.out⟩
  · cases h3 : hdsB r.hs
    · have hz := HH.out h3
      subst hz
      go_enter Try.func8, Try.ntmps8
      go_wp2_with fail
      refine (codeOk_any r.c _).mono ?_
      rintro e w1 ⟨rfl, hw⟩
      obtain rfl := hw.symm
      rw [h1]
      go_wp2_with fail
      refine (headsOk_any a r.hs cap B _ HD.out (Nat.le_trans hB C0.out.size) q5 q6 q4).mono ?_
      rintro e w3 ⟨rfl, b3⟩
      rw [h3]
      have c3 := C0.out.trans (b3.mono C0.out.size)
      go_wp2
      go_ret
      exact ⟨rfl, c3⟩
    · have hz := HA.out h1 h3
      subst hz
      go_enter Try.func8, Try.ntmps8
      go_wp2_with fail
      refine (codeOk_any r.c _).mono ?_
      rintro e w1 ⟨rfl, hw⟩
      obtain rfl := hw.symm
      rw [h1]
      go_wp2_with fail
      refine (headsOk_any a r.hs cap B _ HD.out (Nat.le_trans hB C0.out.size) q5 q6 q4).mono ?_
      rintro e w3 ⟨rfl, b3⟩
      rw [h3]
      have c3 := C0.out.trans (b3.mono C0.out.size)
      have BX3 := BX0.out.next b3
      obtain ⟨_, x30, x31, x32⟩ := BX3
      go_wp2
      go_ret
      exact ⟨rfl, c3⟩
end Go.Proofs.Ytnoijfnpchihoab
