/-
  What impl.verOk, impl.resOk, impl.lessRes and impl.ascending over things do.
-/
import Derived.Test.YtcgljeagjchobaaGreatDigit
import Derived.Test.YtcgljeagjchobaaGreatTokenOk
import Derived.Test.YtcgljeagjchobaaGreatPropsOk
import Derived.Test.YtcgljeagjchobaaGreatAbove
namespace Go.Proofs.YtcgljeagjchobaaGreat
open Go.RowKit M
set_option linter.unusedVariables false

set_option maxHeartbeats 400000 in
theorem verOk_any (v : Int) (w : World) : Calls Tryz.prog 100 #[.int .i64 v] w fun e w' => e = .returned (.bool (inB v 0 99999)) ∧ w' = w := by
  by_cases h : 0 ≤ v
  · have HF := hide (show inB v 0 99999 = decide (v ≤ 99999) by unfold inB; simp [h])
    go_enter Tryz.func100, Tryz.ntmps100
    go_wp2
    go_ret
    exact ⟨ret_bool HF.out.symm, rfl⟩
  · have HF := hide (show inB v 0 99999 = false by unfold inB; simp [h])
    go_enter Tryz.func100, Tryz.ntmps100
    go_wp2
    go_ret
    exact ⟨ret_bool HF.out.symm, rfl⟩

theorem emptyT10 {x : ByteArray} (h : x.size = 0) : x.toList.isEmpty = true := by
  have : x.data.toList = [] := List.length_eq_zero_iff.1 h
  rw [ByteArray.toList_eq, this]; rfl
theorem emptyF10 {x : ByteArray} (h : ¬ x.size = 0) : x.toList.isEmpty = false := by
  have hl : x.data.toList.length = x.size := Array.length_toList
  rw [ByteArray.toList_eq]
  cases e : x.data.toList with
  | nil => rw [e] at hl; exact absurd hl.symm h
  | cons a b => rfl

set_option maxHeartbeats 4000000 in
theorem resOk_any (r : Rs) (pa : Option Addr) (pc : Nat) (qa : Option Addr) (qc B : Nat) (w : World) (h : RsIn w B r pa pc qa qc) (hB : B ≤ w.heap.size) (hs : ShortRs r) :
    Calls Tryz.prog 61 #[.agg #[.slice pa r.pa.length pc, .bool r.co, .string r.bo, .int .i64 r.ve, .slice qa r.ps.length qc]] w fun e w' => e = .returned (.bool (resB r)) ∧ Below w.heap.size w w' := by
  have h1 := h.ph
  have h2 := h.qh
  have s1 := hs.ps
  have s2 := hs.qs
  have l1 := hs.pl
  have l2 := hs.ql
  have lb := hs.bo
  clear h hs
  have HF := hide (show resB r = (decide (0 < r.pa.length) && (pathB r.pa && (decide (r.bo.size ≤ 200) && ((!r.co || decide (r.bo.size = 0)) && (inB r.ve 0 99999 && propsB r.ps))))) from rfl)
  generalize resB r = R at *
  obtain ⟨ss, co, bo, ve, ps⟩ := r
  simp only at *
  unfold maxLen at lb
  have hb0 : Below w.heap.size w (w.alloc (Obj.cells #[.slice pa ss.length pc, .bool co, .string bo, .int .i64 ve, .slice qa ps.length qc] 45)) := (Below.refl _ _).alloc (Nat.le_refl _) _
  have HB0 := hide hb0
  have k1 := (h1.below hb0 hB).mono (Nat.le_trans hB hb0.size)
  have HP := hide (pathOk_any pa ss pc _ k1 s1 l1)
  have H2 := hide h2
  have hl' := l1
  unfold maxLen at hl'
  clear hb0 k1 h1 h2
  by_cases a1 : 0 < ss.length
  rotate_left
  · have hr : R = false := by rw [HF.out]; simp [a1]
    subst hr
    go_enter Tryz.func61, Tryz.ntmps61
    go_wp2
    go_ret
    exact ⟨rfl, HB0.out⟩
  cases hp : pathB ss
  · have hr : R = false := by rw [HF.out, hp]; simp
    subst hr
    rw [hp] at HP
    go_enter Tryz.func61, Tryz.ntmps61
    go_wp2_with fail
    refine HP.out.mono ?_
    rintro e w1 ⟨rfl, b1⟩
    have c1 := HB0.out.trans (b1.mono (by simp))
    clear b1
    go_wp2
    go_ret
    exact ⟨rfl, c1⟩
  rw [hp] at HP
  by_cases a2 : bo.size ≤ 200
  rotate_left
  · have hr : R = false := by rw [HF.out]; simp [a2]
    subst hr
    go_enter Tryz.func61, Tryz.ntmps61
    go_wp2_with fail
    refine HP.out.mono ?_
    rintro e w1 ⟨rfl, b1⟩
    have c1 := HB0.out.trans (b1.mono (by simp))
    obtain ⟨hc, _⟩ := bcellP b1
    clear b1
    go_wp2
    go_ret
    exact ⟨rfl, c1⟩
  have HV := hide (fun W => verOk_any ve W)
  have HQ := hide (fun W (hb : Below w.heap.size w W) => propsOk_any qa ps qc B W (H2.out.below hb hB) (Nat.le_trans hB hb.size) s2 l2)
  have fin : ∀ (d : Bool), d = (!co || decide (bo.size = 0)) → Hid (R = (d && (inB ve 0 99999 && propsB ps))) := fun d hd => by
    show R = _
    rw [HF.out, hp, hd]
    simp [a1, a2]
  have FIN := hide fin
  clear fin HF
  generalize inB ve 0 99999 = bv at *
  generalize propsB ps = bq at *
  cases co
  · have hr := FIN.out true (by simp)
    clear FIN
    cases bv
    · have hr' : R = false := hr.out
      subst hr'
      go_enter Tryz.func61, Tryz.ntmps61
      go_wp2_with fail
      refine HP.out.mono ?_
      rintro e w1 ⟨rfl, b1⟩
      have c1 := HB0.out.trans (b1.mono (by simp))
      obtain ⟨hc, _⟩ := bcellP b1
      clear b1
      go_wp2_with fail
      refine (HV.out _).mono ?_
      rintro e w2 ⟨rfl, hw⟩
      obtain rfl := hw.symm
      go_wp2
      go_ret
      exact ⟨rfl, c1⟩
    · have hr' : R = bq := hr.out
      subst hr'
      go_enter Tryz.func61, Tryz.ntmps61
      go_wp2_with fail
      refine HP.out.mono ?_
      rintro e w1 ⟨rfl, b1⟩
      have c1 := HB0.out.trans (b1.mono (by simp))
      obtain ⟨hc, _⟩ := bcellP b1
      clear b1
      go_wp2_with fail
      refine (HV.out _).mono ?_
      rintro e w2 ⟨rfl, hw⟩
      obtain rfl := hw.symm
      have HQ1 := hide (HQ.out w1 c1)
      go_wp2_with fail
      refine HQ1.out.mono ?_
      rintro e w3 ⟨rfl, b3⟩
      have c3 := c1.trans (b3.mono c1.size)
      go_wp2
      go_ret
      exact ⟨rfl, c3⟩
  · by_cases a3 : bo.size = 0
    · have e3 := emptyT10 a3
      have hr := FIN.out true (by simp [a3])
      clear FIN
      have hz0 : bo.size ≤ 200 := a2
      clear a3
      cases bv
      · have hr' : R = false := hr.out
        subst hr'
        go_enter Tryz.func61, Tryz.ntmps61
        go_wp2_with fail
        refine HP.out.mono ?_
        rintro e w1 ⟨rfl, b1⟩
        have c1 := HB0.out.trans (b1.mono (by simp))
        obtain ⟨hc, _⟩ := bcellP b1
        clear b1
        go_wp2_with fail
        refine (HV.out _).mono ?_
        rintro e w2 ⟨rfl, hw⟩
        obtain rfl := hw.symm
        go_wp2
        go_ret
        exact ⟨rfl, c1⟩
      · have hr' : R = bq := hr.out
        subst hr'
        go_enter Tryz.func61, Tryz.ntmps61
        go_wp2_with fail
        refine HP.out.mono ?_
        rintro e w1 ⟨rfl, b1⟩
        have c1 := HB0.out.trans (b1.mono (by simp))
        obtain ⟨hc, _⟩ := bcellP b1
        clear b1
        go_wp2_with fail
        refine (HV.out _).mono ?_
        rintro e w2 ⟨rfl, hw⟩
        obtain rfl := hw.symm
        have HQ1 := hide (HQ.out w1 c1)
        go_wp2_with fail
        refine HQ1.out.mono ?_
        rintro e w3 ⟨rfl, b3⟩
        have c3 := c1.trans (b3.mono c1.size)
        go_wp2
        go_ret
        exact ⟨rfl, c3⟩
    · have e3 := emptyF10 a3
      have hr' : R = false := FIN.out false (by simp [a3])
      subst hr'
      clear FIN
      go_enter Tryz.func61, Tryz.ntmps61
      go_wp2_with fail
      refine HP.out.mono ?_
      rintro e w1 ⟨rfl, b1⟩
      have c1 := HB0.out.trans (b1.mono (by simp))
      obtain ⟨hc, _⟩ := bcellP b1
      clear b1
      go_wp2
      go_ret
      exact ⟨rfl, c1⟩

set_option maxHeartbeats 1000000 in
theorem lessRes_any (r s : Rs) (pa : Option Addr) (pc : Nat) (qa : Option Addr) (qc : Nat) (pa' : Option Addr) (pc' : Nat) (qa' : Option Addr) (qc' : Nat) (B C : Nat) (w : World) (h : RsIn w B r pa pc qa qc) (h' : RsIn w C s pa' pc' qa' qc') (hB : B ≤ w.heap.size) (hC : C ≤ w.heap.size) :
    Calls Tryz.prog 63 #[.agg #[.slice pa r.pa.length pc, .bool r.co, .string r.bo, .int .i64 r.ve, .slice qa r.ps.length qc], .agg #[.slice pa' s.pa.length pc', .bool s.co, .string s.bo, .int .i64 s.ve, .slice qa' s.ps.length qc']] w fun e w' => e = .returned (.bool (lessR r s)) ∧ Below w.heap.size w w' := by
  have l1 : r.pa.length ≤ maxLen := Nat.le_trans h.pl h.pm
  have l2 : s.pa.length ≤ maxLen := Nat.le_trans h'.pl h'.pm
  have p1 := h.ph
  have p2 := h'.ph
  have HF := hide (show lessR r s = lessL r.pa s.pa from rfl)
  generalize lessR r s = R at *
  clear h h'
  obtain ⟨ss, co, bo, ve, ps⟩ := r
  obtain ⟨ss', co', bo', ve', ps'⟩ := s
  simp only at *
  have hb0 : Below w.heap.size w ((w.alloc (Obj.cells #[.slice pa ss.length pc, .bool co, .string bo, .int .i64 ve, .slice qa ps.length qc] 45)).alloc (Obj.cells #[.slice pa' ss'.length pc', .bool co', .string bo', .int .i64 ve', .slice qa' ps'.length qc'] 45)) := ((Below.refl _ _).alloc (Nat.le_refl _) _).alloc (by simp) _
  have HE := hide (lessPath_any pa pa' ss ss' pc pc' B C _ (p1.below hb0 hB) (p2.below hb0 hC) l1 l2)
  have HB0 := hide hb0
  clear p1 p2 hb0
  go_enter Tryz.func63, Tryz.ntmps63
  go_wp2_with fail
  refine HE.out.mono ?_
  rintro e w1 ⟨rfl, hw⟩
  obtain rfl := hw
  go_wp2
  go_ret
  exact ⟨ret_bool HF.out.symm, HB0.out⟩

theorem keep10R {W w1 : World} {b o1 o2 : Nat} {r s : Rs} {pa : Option Addr} {pc : Nat} {qa : Option Addr} {qc : Nat} {pa' : Option Addr} {pc' : Nat} {qa' : Option Addr} {qc' : Nat} (hb : Below W.heap.size W w1) (h1 : b < W.heap.size)
    (h : RsAt W b o1 r pa pc qa qc ∧ RsAt W b o2 s pa' pc' qa' qc') : RsAt w1 b o1 r pa pc qa qc ∧ RsAt w1 b o2 s pa' pc' qa' qc' :=
  ⟨h.1.of (fun o' => (bcellP hb).1 b o' h1), h.2.of (fun o' => (bcellP hb).1 b o' h1)⟩

set_option maxRecDepth 100000 in
set_option maxHeartbeats 4000000 in
theorem ascRes_any (a : Option Addr) (rs : List Rs) (cap B : Nat) (w : World) (h : Rss w B a rs) (hB : B ≤ w.heap.size) (hl : rs.length ≤ maxLen) :
    Calls Tryz.prog 62 #[.slice a rs.length cap, .func (.func 63) #[] #[]] w fun e w' => e = .returned (.bool (ascB lessR rs)) ∧ Below w.heap.size w w' := by
  unfold maxLen at hl
  go_enter Tryz.func62, Tryz.ntmps62
  go_wp2
  go_loopw [5] (fun i wr => ∃ m : Nat, m ≤ rs.length ∧ i = .int .i64 ((m : Int) + 1) ∧ (∀ j (hj : j + 1 < rs.length), j < m → lessR rs[j] rs[j + 1] = true) ∧ Below w.heap.size w wr) (fun i _ => rs.length - (intOf i).toNat)
  case atStart => exact ⟨0, Nat.zero_le _, by simp, fun j _ hj => absurd hj (Nat.not_lt_zero _), Below.refl _ _⟩
  case round =>
    obtain ⟨m, hm, rfl, ht, hbe⟩ := hrel
    have HT := hide ht
    clear ht
    by_cases hlt : m + 1 < rs.length
    · obtain ⟨b, o, rfl, hb, hc⟩ := (h.below hbe hB) (by omega)
      obtain ⟨pa, pc, qa, qc, ha1, hi1⟩ := hc m (by omega)
      obtain ⟨pa', pc', qa', qc', ha2, hi2⟩ := hc (m + 1) hlt
      clear hc
      have hl1 : b < wr.drew.heap.size := by have := hbe.size; show b < wr.heap.size; omega
      have hbd : Below w.heap.size w wr.drew := below_drewP hbe
      have hq := lessRes_any rs[m] rs[m + 1] pa pc qa qc pa' pc' qa' qc' B B wr.drew hi1.drew hi2.drew (Nat.le_trans hB hbd.size) (Nat.le_trans hB hbd.size)
      have HX := hide (And.intro (ha1.of (w' := wr.drew) (fun _ => rfl)) (ha2.of (w' := wr.drew) (fun _ => rfl)))
      obtain ⟨hx0, hx1, hx2, hx3, hx4⟩ := ha1
      obtain ⟨hy0, hy1, hy2, hy3, hy4⟩ := ha2
      have hi1' : IntKind.i64.wrap ((m : Int) + 1 - 1) = (m : Int) := by rw [IntKind.wrap_i64] <;> omega
      have hi2' : ((m : Int) + 1).toNat = m + 1 := by omega
      have hi3 : (m : Int) < (rs.length : Int) := by omega
      have hi4 : (m : Int) + 1 < (rs.length : Int) := by omega
      have hi5 : ¬ ((m : Int) + 1 < 0) := by omega
      have hi6 : IntKind.i64.wrap (m : Int) = (m : Int) := by rw [IntKind.wrap_i64] <;> omega
      have hi7 : (0 : Int) ≤ (m : Int) := by omega
      have hi8 : (0 : Int) ≤ (m : Int) + 1 := by omega
      obtain ⟨z, hz⟩ : ∃ z, lessR rs[m] rs[m + 1] = z := ⟨_, rfl⟩
      rw [hz] at hq
      have HZ := hide hz
      clear hz hi1 hi2
      cases z
      · go_wp2
        go_region_held3 (fun W => (W.cell? ⟨b, o + m * 5, none⟩ = some (.slice pa rs[m].pa.length pc) ∧ W.cell? ⟨b, o + m * 5 + 1, none⟩ = some (.bool rs[m].co) ∧ W.cell? ⟨b, o + m * 5 + 2, none⟩ = some (.string rs[m].bo) ∧ W.cell? ⟨b, o + m * 5 + 3, none⟩ = some (.int .i64 rs[m].ve) ∧ W.cell? ⟨b, o + m * 5 + 4, none⟩ = some (.slice qa rs[m].ps.length qc)) ∧ (W.cell? ⟨b, o + (m + 1) * 5, none⟩ = some (.slice pa' rs[m + 1].pa.length pc') ∧ W.cell? ⟨b, o + (m + 1) * 5 + 1, none⟩ = some (.bool rs[m + 1].co) ∧ W.cell? ⟨b, o + (m + 1) * 5 + 2, none⟩ = some (.string rs[m + 1].bo) ∧ W.cell? ⟨b, o + (m + 1) * 5 + 3, none⟩ = some (.int .i64 rs[m + 1].ve) ∧ W.cell? ⟨b, o + (m + 1) * 5 + 4, none⟩ = some (.slice qa' rs[m + 1].ps.length qc'))) (first | exact HX.out | exact HX2.out) ((go_at_call 63; refine hq.mono ?_; rintro e w1 ⟨rfl, hb3⟩; have HX2 := hide (keep10R hb3 hl1 HX.out)))
        all_goals
          have c1 := hbd.trans (hb3.mono hbd.size)
          clear hq hb3
          go_wp2
          go_ret
          exact ⟨ret_bool (ascB_not lessR rs m hlt HZ.out).symm, c1⟩
      · go_wp2
        go_region_held3 (fun W => (W.cell? ⟨b, o + m * 5, none⟩ = some (.slice pa rs[m].pa.length pc) ∧ W.cell? ⟨b, o + m * 5 + 1, none⟩ = some (.bool rs[m].co) ∧ W.cell? ⟨b, o + m * 5 + 2, none⟩ = some (.string rs[m].bo) ∧ W.cell? ⟨b, o + m * 5 + 3, none⟩ = some (.int .i64 rs[m].ve) ∧ W.cell? ⟨b, o + m * 5 + 4, none⟩ = some (.slice qa rs[m].ps.length qc)) ∧ (W.cell? ⟨b, o + (m + 1) * 5, none⟩ = some (.slice pa' rs[m + 1].pa.length pc') ∧ W.cell? ⟨b, o + (m + 1) * 5 + 1, none⟩ = some (.bool rs[m + 1].co) ∧ W.cell? ⟨b, o + (m + 1) * 5 + 2, none⟩ = some (.string rs[m + 1].bo) ∧ W.cell? ⟨b, o + (m + 1) * 5 + 3, none⟩ = some (.int .i64 rs[m + 1].ve) ∧ W.cell? ⟨b, o + (m + 1) * 5 + 4, none⟩ = some (.slice qa' rs[m + 1].ps.length qc'))) (first | exact HX.out | exact HX2.out) ((go_at_call 63; refine hq.mono ?_; rintro e w1 ⟨rfl, hb3⟩; have HX2 := hide (keep10R hb3 hl1 HX.out)))
        all_goals
          have c1 := hbd.trans (hb3.mono hbd.size)
          clear hq hb3
          go_wp2
          go_roundw
          case rel => exact ⟨m + 1, by omega, by go_num, fun j hj hjm => by
                        by_cases e : j = m
                        · subst e; exact HZ.out
                        · exact HT.out j hj (by omega), c1⟩
          case measure => simp [intOf]; omega
    · have HE := hide (ascB_all lessR rs (fun j hj => HT.out j hj (by omega)))
      go_wp2
      go_ret
      exact ⟨ret_bool HE.out.symm, hbe⟩
end Go.Proofs.YtcgljeagjchobaaGreat
