/-
  Whether two lists of things are the same, by the laws' own helps.
-/
import Derived.Test.YtepdfppbnepamabMathFind
import Derived.Test.YtepdfppbnepamabEqStrs
import Derived.Test.YtepdfppbnepamabEqProps
namespace Go.Proofs.Ytepdfppbnepamab
open Go.RowKit M
set_option linter.unusedVariables false

theorem neStrP {x y : ByteArray} (h : ¬ x = y) : (x.toList == y.toList) = false := by
  rw [beq_eq_false_iff_ne]; exact fun e => h (strInjP e)
theorem eqStrP {x y : ByteArray} (h : x = y) : (x.toList == y.toList) = true := by rw [h]; simp

/-- Its four parts that are told ahead, and the fifth. -/
theorem rs_eq (r s : Rs) : (r = s) ↔ (r.pa = s.pa ∧ r.co = s.co ∧ r.bo = s.bo ∧ r.ve = s.ve ∧ r.ps = s.ps) := by
  cases r; cases s; simp

set_option maxHeartbeats 2000000 in
theorem eqRes_any (r s : Rs) (pa : Option Addr) (pc : Nat) (qa : Option Addr) (qc : Nat) (pa' : Option Addr) (pc' : Nat) (qa' : Option Addr) (qc' : Nat) (B C : Nat) (w : World) (h : RsIn w B r pa pc qa qc) (h' : RsIn w C s pa' pc' qa' qc') (hB : B ≤ w.heap.size) (hC : C ≤ w.heap.size) :
    Calls Try.prog 27 #[.agg #[.slice pa r.pa.length pc, .bool r.co, .string r.bo, .int .i64 r.ve, .slice qa r.ps.length qc], .agg #[.slice pa' s.pa.length pc', .bool s.co, .string s.bo, .int .i64 s.ve, .slice qa' s.ps.length qc']] w fun e w' => e = .returned (.bool (decide (r = s))) ∧ Below w.heap.size w w' := by
  have l1 : r.pa.length ≤ maxLen := Nat.le_trans h.pl h.pm
  have l2 : r.ps.length ≤ maxLen := Nat.le_trans h.ql h.qm
  have l1' : s.pa.length ≤ maxLen := Nat.le_trans h'.pl h'.pm
  have l2' : s.ps.length ≤ maxLen := Nat.le_trans h'.ql h'.qm
  have p1 := h.ph
  have q1 := h.qh
  have p2 := h'.ph
  have q2 := h'.qh
  have F1 : Hid (¬ r.pa = s.pa → decide (r = s) = false) := fun e => by rw [decide_eq_false_iff_not, rs_eq]; exact fun x => e x.1
  have F2 : Hid (¬ r.co = s.co → decide (r = s) = false) := fun e => by rw [decide_eq_false_iff_not, rs_eq]; exact fun x => e x.2.1
  have F3 : Hid (¬ r.bo = s.bo → decide (r = s) = false) := fun e => by rw [decide_eq_false_iff_not, rs_eq]; exact fun x => e x.2.2.1
  have F4 : Hid (¬ r.ve = s.ve → decide (r = s) = false) := fun e => by rw [decide_eq_false_iff_not, rs_eq]; exact fun x => e x.2.2.2.1
  have F5 : Hid (r.pa = s.pa → r.co = s.co → r.bo = s.bo → r.ve = s.ve → decide (r = s) = sameP r.ps s.ps) := fun e1 e2 e3 e4 => by
    unfold sameP
    by_cases e5 : r.ps = s.ps
    · rw [decide_eq_true e5, decide_eq_true_eq, rs_eq]; exact ⟨e1, e2, e3, e4, e5⟩
    · rw [decide_eq_false e5, decide_eq_false_iff_not, rs_eq]; exact fun x => e5 x.2.2.2.2
  generalize decide (r = s) = dd at *
  clear h h'
  obtain ⟨ss, co, bo, ve, ps⟩ := r
  obtain ⟨ss', co', bo', ve', ps'⟩ := s
  simp only at *
  have hb0 : Below w.heap.size w ((w.alloc (Obj.cells #[.slice pa ss.length pc, .bool co, .string bo, .int .i64 ve, .slice qa ps.length qc] 47)).alloc (Obj.cells #[.slice pa' ss'.length pc', .bool co', .string bo', .int .i64 ve', .slice qa' ps'.length qc'] 47)) := ((Below.refl _ _).alloc (Nat.le_refl _) _).alloc (by simp) _
  have hE := eqStringS_any pa pa' ss ss' pc pc' B C _ (p1.below hb0 hB) (p2.below hb0 hC) l1 l1'
  have HB0 := hide hb0
  have HQ := hide (fun w1 (hb : ∀ D, Below D ((w.alloc (Obj.cells #[.slice pa ss.length pc, .bool co, .string bo, .int .i64 ve, .slice qa ps.length qc] 47)).alloc (Obj.cells #[.slice pa' ss'.length pc', .bool co', .string bo', .int .i64 ve', .slice qa' ps'.length qc'] 47)) w1) => eqPropS_any qa qa' ps ps' qc qc' B C w1 ((q1.below hb0 hB).below (hb _) (Nat.le_refl _)) ((q2.below hb0 hC).below (hb _) (Nat.le_refl _)) (Nat.le_trans hB (hb0.trans (hb _)).size) (Nat.le_trans hC (hb0.trans (hb _)).size) l2 l2')
  clear q1 q2 p1 p2 hb0
  by_cases h1 : ss = ss'
  · have hs1 : sameL ss ss' = true := by rw [h1]; exact sameL_refl _
    rw [hs1] at hE
    have HE := hide hE
    clear hE hs1
    by_cases h2 : co = co'
    · by_cases h3 : bo = bo'
      · have e3 := eqStrP h3
        by_cases h4 : ve = ve'
        · have hz := F5.out h1 h2 h3 h4
          rw [hz]
          generalize sameP ps ps' = z at *
          have hv : (ve == ve') = true := by rw [h4]; simp
          have hv2 : (co == co') = true := by rw [h2]; simp
          subst h2 h4
          clear h1 h3 hz hv hv2
          cases z
          all_goals
            go_enter Try.func27, Try.ntmps27
            go_wp2_with fail
            refine HE.out.mono ?_
            rintro e w1 ⟨rfl, hb1⟩
            have hcl : ∀ b o, w1.cell? ⟨b, o, none⟩ = _ := fun b o => (hb1 (b + 1)).cell (p := ⟨b, o, none⟩) (Nat.lt_succ_self _)
            have HP := hide (HQ.out w1 hb1)
            have HC1 := hide (HB0.out.trans (hb1 _))
            clear hb1
            go_wp2_with fail
            refine HP.out.mono ?_
            rintro e w2 ⟨rfl, hb2⟩
            have c2 := HC1.out.trans (hb2.mono HC1.out.size)
            go_wp2
            go_ret
            exact ⟨rfl, c2⟩
        · have hz := F4.out h4
          rw [hz]
          have hv : (ve == ve') = false := by rw [beq_eq_false_iff_ne]; exact h4
          subst h2
          clear h1 h3 hz
          go_enter Try.func27, Try.ntmps27
          go_wp2_with fail
          refine HE.out.mono ?_
          rintro e w1 ⟨rfl, hb1⟩
          have hcl : ∀ b o, w1.cell? ⟨b, o, none⟩ = _ := fun b o => (hb1 (b + 1)).cell (p := ⟨b, o, none⟩) (Nat.lt_succ_self _)
          have HC1 := hide (HB0.out.trans (hb1 _))
          clear hb1
          go_wp2
          go_ret
          exact ⟨rfl, HC1.out⟩
      · have e3 := neStrP h3
        have hz := F3.out h3
        rw [hz]
        subst h2
        clear h1 h3 hz
        go_enter Try.func27, Try.ntmps27
        go_wp2_with fail
        refine HE.out.mono ?_
        rintro e w1 ⟨rfl, hb1⟩
        have hcl : ∀ b o, w1.cell? ⟨b, o, none⟩ = _ := fun b o => (hb1 (b + 1)).cell (p := ⟨b, o, none⟩) (Nat.lt_succ_self _)
        have HC1 := hide (HB0.out.trans (hb1 _))
        clear hb1
        go_wp2
        go_ret
        exact ⟨rfl, HC1.out⟩
    · have hz := F2.out h2
      rw [hz]
      have e2 : (co == co') = false := by rw [beq_eq_false_iff_ne]; exact h2
      have e2' : co' = !co := by cases co <;> cases co' <;> simp_all
      subst e2'
      clear h1 hz h2 e2
      cases co
      all_goals
        go_enter Try.func27, Try.ntmps27
        go_wp2_with fail
        refine HE.out.mono ?_
        rintro e w1 ⟨rfl, hb1⟩
        have hcl : ∀ b o, w1.cell? ⟨b, o, none⟩ = _ := fun b o => (hb1 (b + 1)).cell (p := ⟨b, o, none⟩) (Nat.lt_succ_self _)
        have HC1 := hide (HB0.out.trans (hb1 _))
        clear hb1
        go_wp2
        go_ret
        exact ⟨rfl, HC1.out⟩
  · have hs1 : sameL ss ss' = false := by unfold sameL; rw [decide_eq_false_iff_not]; exact h1
    rw [hs1] at hE
    have hz := F1.out h1
    rw [hz]
    have HE := hide hE
    clear hE hs1 h1 hz
    go_enter Try.func27, Try.ntmps27
    go_wp2_with fail
    refine HE.out.mono ?_
    rintro e w1 ⟨rfl, hb1⟩
    have HC1 := hide (HB0.out.trans (hb1 _))
    go_wp2
    go_ret
    exact ⟨rfl, HC1.out⟩
end Go.Proofs.Ytepdfppbnepamab
