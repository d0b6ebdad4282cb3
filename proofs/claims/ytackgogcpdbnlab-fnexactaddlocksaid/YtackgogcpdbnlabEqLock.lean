/-
  Whether two locks are the same, by the laws' own helps.
-/
import Derived.Test.YtackgogcpdbnlabGenPick
import Derived.Test.YtackgogcpdbnlabEqStrs
namespace Go.Proofs.Ytackgogcpdbnlab
open Go.RowKit M
set_option linter.unusedVariables false

theorem lk_eq (r s : Lk) : (r = s) ↔ (r.tk = s.tk ∧ r.pa = s.pa ∧ r.de = s.de ∧ r.sh = s.sh ∧ r.un = s.un) := by
  cases r; cases s; simp

set_option maxHeartbeats 2000000 in
theorem eqLock_any (r s : Lk) (pa : Option Addr) (pc : Nat) (pa' : Option Addr) (pc' : Nat) (B C : Nat) (w : World) (h : LkIn w B r pa pc) (h' : LkIn w C s pa' pc') (hB : B ≤ w.heap.size) (hC : C ≤ w.heap.size) :
    Calls Try.prog 15 #[.agg #[.int .i64 r.tk, .slice pa r.pa.length pc, .bool r.de, .bool r.sh, .int .i64 r.un], .agg #[.int .i64 s.tk, .slice pa' s.pa.length pc', .bool s.de, .bool s.sh, .int .i64 s.un]] w fun e w' => e = .returned (.bool (decide (r = s))) ∧ Below w.heap.size w w' := by
  have l1 : r.pa.length ≤ maxLen := h.len
  have l1' : s.pa.length ≤ maxLen := h'.len
  have p1 := h.ph
  have p2 := h'.ph
  have F1 : Hid (¬ r.tk = s.tk → decide (r = s) = false) := fun e => by rw [decide_eq_false_iff_not, lk_eq]; exact fun x => e x.1
  have F2 : Hid (¬ r.pa = s.pa → decide (r = s) = false) := fun e => by rw [decide_eq_false_iff_not, lk_eq]; exact fun x => e x.2.1
  have F3 : Hid (¬ r.de = s.de → decide (r = s) = false) := fun e => by rw [decide_eq_false_iff_not, lk_eq]; exact fun x => e x.2.2.1
  have F4 : Hid (¬ r.sh = s.sh → decide (r = s) = false) := fun e => by rw [decide_eq_false_iff_not, lk_eq]; exact fun x => e x.2.2.2.1
  have F5 : Hid (¬ r.un = s.un → decide (r = s) = false) := fun e => by rw [decide_eq_false_iff_not, lk_eq]; exact fun x => e x.2.2.2.2
  have F6 : Hid (r.tk = s.tk → r.pa = s.pa → r.de = s.de → r.sh = s.sh → r.un = s.un → decide (r = s) = true) := fun e1 e2 e3 e4 e5 => by
    rw [decide_eq_true_eq, lk_eq]; exact ⟨e1, e2, e3, e4, e5⟩
  generalize decide (r = s) = dd at *
  clear h h'
  obtain ⟨tk, ss, de, sh, un⟩ := r
  obtain ⟨tk', ss', de', sh', un'⟩ := s
  simp only at *
  have hb0 : Below w.heap.size w ((w.alloc (Obj.cells #[.int .i64 tk, .slice pa ss.length pc, .bool de, .bool sh, .int .i64 un] 32)).alloc (Obj.cells #[.int .i64 tk', .slice pa' ss'.length pc', .bool de', .bool sh', .int .i64 un'] 32)) := ((Below.refl _ _).alloc (Nat.le_refl _) _).alloc (by simp) _
  have hE := eqStringS_any pa pa' ss ss' pc pc' B C _ (p1.below hb0 hB) (p2.below hb0 hC) l1 l1'
  have HB0 := hide hb0
  clear p1 p2 hb0
  by_cases h1 : tk = tk'
  · have hv1 : (tk == tk') = true := by rw [h1]; simp
    by_cases h2 : ss = ss'
    · have hs1 : sameL ss ss' = true := by rw [h2]; exact sameL_refl _
      rw [hs1] at hE
      have HE := hide hE
      clear hE hs1
      by_cases h3 : de = de'
      · by_cases h4 : sh = sh'
        · by_cases h5 : un = un'
          · rw [F6.out h1 h2 h3 h4 h5]
            subst h1 h3 h4 h5
            clear h2 hv1
            go_enter Try.func15, Try.ntmps15
            go_wp2_with fail
            refine HE.out.mono ?_
            rintro e w1 ⟨rfl, hb1⟩
            have hcl : ∀ b o, w1.cell? ⟨b, o, none⟩ = _ := fun b o => (hb1 (b + 1)).cell (p := ⟨b, o, none⟩) (Nat.lt_succ_self _)
            have HC1 := hide (HB0.out.trans (hb1 _))
            clear hb1
            go_wp2
            go_ret
            exact ⟨rfl, HC1.out⟩
          · rw [F5.out h5]
            have hv : (un == un') = false := by rw [beq_eq_false_iff_ne]; exact h5
            subst h1 h3 h4
            clear h2 hv1
            go_enter Try.func15, Try.ntmps15
            go_wp2_with fail
            refine HE.out.mono ?_
            rintro e w1 ⟨rfl, hb1⟩
            have hcl : ∀ b o, w1.cell? ⟨b, o, none⟩ = _ := fun b o => (hb1 (b + 1)).cell (p := ⟨b, o, none⟩) (Nat.lt_succ_self _)
            have HC1 := hide (HB0.out.trans (hb1 _))
            clear hb1
            go_wp2
            go_ret
            exact ⟨rfl, HC1.out⟩
        · rw [F4.out h4]
          have e2' : sh' = !sh := by cases sh <;> cases sh' <;> simp_all
          subst h1 h3 e2'
          clear h2 h4 hv1
          cases sh
          all_goals
            go_enter Try.func15, Try.ntmps15
            go_wp2_with fail
            refine HE.out.mono ?_
            rintro e w1 ⟨rfl, hb1⟩
            have hcl : ∀ b o, w1.cell? ⟨b, o, none⟩ = _ := fun b o => (hb1 (b + 1)).cell (p := ⟨b, o, none⟩) (Nat.lt_succ_self _)
            have HC1 := hide (HB0.out.trans (hb1 _))
            clear hb1
            go_wp2
            go_ret
            exact ⟨rfl, HC1.out⟩
      · rw [F3.out h3]
        have e2' : de' = !de := by cases de <;> cases de' <;> simp_all
        subst h1 e2'
        clear h2 h3 hv1
        cases de
        all_goals
          go_enter Try.func15, Try.ntmps15
          go_wp2_with fail
          refine HE.out.mono ?_
          rintro e w1 ⟨rfl, hb1⟩
          have hcl : ∀ b o, w1.cell? ⟨b, o, none⟩ = _ := fun b o => (hb1 (b + 1)).cell (p := ⟨b, o, none⟩) (Nat.lt_succ_self _)
          have HC1 := hide (HB0.out.trans (hb1 _))
          clear hb1
          go_wp2
          go_ret
          exact ⟨rfl, HC1.out⟩
    · have hs1 : sameL ss ss' = false := by unfold sameL; rw [decide_eq_false_iff_not]; exact h2
      rw [hs1] at hE
      rw [F2.out h2]
      have HE := hide hE
      subst h1
      clear hE hs1 h2 hv1
      go_enter Try.func15, Try.ntmps15
      go_wp2_with fail
      refine HE.out.mono ?_
      rintro e w1 ⟨rfl, hb1⟩
      have HC1 := hide (HB0.out.trans (hb1 _))
      go_wp2
      go_ret
      exact ⟨rfl, HC1.out⟩
  · have hv1 : (tk == tk') = false := by rw [beq_eq_false_iff_ne]; exact h1
    rw [F1.out h1]
    go_enter Try.func15, Try.ntmps15
    go_wp2
    go_ret
    exact ⟨rfl, HB0.out⟩
end Go.Proofs.Ytackgogcpdbnlab
