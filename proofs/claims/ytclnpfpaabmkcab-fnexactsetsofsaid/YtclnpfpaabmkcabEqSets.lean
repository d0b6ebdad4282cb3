/-
  Whether two lists of sets are the same, by the laws' own helps.
-/
import Derived.Test.YtclnpfpaabmkcabSets
import Derived.Test.YtclnpfpaabmkcabEqProp1
namespace Go.Proofs.Ytclnpfpaabmkcab
open Go.RowKit M
set_option linter.unusedVariables false

set_option maxRecDepth 100000 in
set_option maxHeartbeats 2000000 in
theorem eqSet_any (s t : Sx) (w : World) :
    Calls Try.prog 79 #[.agg #[.bool s.1, .string s.2.1, .string s.2.2.1, .string s.2.2.2], .agg #[.bool t.1, .string t.2.1, .string t.2.2.1, .string t.2.2.2]] w fun e w' => e = .returned (.bool (decide (s = t))) ∧ Below w.heap.size w w' := by
  obtain ⟨d, x, y, z⟩ := s
  obtain ⟨d', x', y', z'⟩ := t
  simp only
  have HQ := hide (fun W => eqProp_any x y z x' y' z' W)
  have HB := hide (show Below w.heap.size w ((w.alloc (Obj.cells #[.bool d, .string x, .string y, .string z] 93)).alloc (Obj.cells #[.bool d', .string x', .string y', .string z'] 93)) from ((Below.refl _ _).alloc (Nat.le_refl _) _).alloc (by simp) _)
  by_cases e : d = d'
  · subst e
    have HR := hide (show decide (((d, x, y, z) : Sx) = (d, x', y', z')) = decide (((x, y, z) : Pp) = (x', y', z')) by simp)
    generalize decide (((x, y, z) : Pp) = (x', y', z')) = q at *
    rw [HR.out]
    cases q
    · go_enter Try.func79, Try.ntmps79
      go_wp2_with fail
      refine (HQ.out _).mono ?_
      rintro e w1 ⟨rfl, b1⟩
      have c1 := HB.out.trans (b1.mono HB.out.size)
      go_wp2
      go_ret
      exact ⟨rfl, c1⟩
    · go_enter Try.func79, Try.ntmps79
      go_wp2_with fail
      refine (HQ.out _).mono ?_
      rintro e w1 ⟨rfl, b1⟩
      have c1 := HB.out.trans (b1.mono HB.out.size)
      go_wp2
      go_ret
      exact ⟨rfl, c1⟩
  · have HR := hide (show decide (((d, x, y, z) : Sx) = (d', x', y', z')) = false by simp [e])
    rw [HR.out]
    have e2 : (d == d') = false := by simp [e]
    go_enter Try.func79, Try.ntmps79
    go_wp2
    go_ret
    exact ⟨rfl, HB.out⟩

set_option maxHeartbeats 1000000 in
theorem eqSetS_any (a b : Option Addr) (ss tt : List Sx) (cap cap' B C : Nat) (w : World) (h : Sts w B a ss) (h' : Sts w C b tt) (hB : B ≤ w.heap.size) (hC : C ≤ w.heap.size) (hl : ss.length ≤ maxLen) (hl' : tt.length ≤ maxLen) :
    Calls Try.prog 33 #[.slice a ss.length cap, .slice b tt.length cap'] w fun e w' => e = .returned (.bool (sameS ss tt)) ∧ Below w.heap.size w w' := by
  unfold maxLen at hl hl'
  by_cases hlen : ss.length = tt.length
  · have HL : Hid (ss.length = tt.length) := hlen
    go_enter Try.func33, Try.ntmps33
    rw [← hlen]
    clear hlen
    go_wp2
    go_loopw [5] (fun i wr => ∃ k : Nat, k ≤ ss.length ∧ i = .int .i64 k ∧ ss.take k = tt.take k ∧ Below w.heap.size w wr) (fun i _ => ss.length - (intOf i).toNat)
    case atStart => exact ⟨0, Nat.zero_le _, rfl, rfl, Below.refl _ _⟩
    case round =>
      obtain ⟨k, hk, rfl, ht, hbe⟩ := hrel
      have HT : Hid (ss.take k = tt.take k) := ht
      clear ht
      by_cases hlt : k < ss.length
      · have hlt' : k < tt.length := by have := HL.out; omega
        obtain ⟨b1, o1, rfl, hb1, hc1⟩ := (h.below hbe hB) (by omega)
        obtain ⟨b2, o2, rfl, hb2, hc2⟩ := (h'.below hbe hC) (by have := HL.out; omega)
        obtain ⟨hx0, hx1, hx2, hx3⟩ := hc1 k hlt
        obtain ⟨hy0, hy1, hy2, hy3⟩ := hc2 k hlt'
        clear hc1 hc2
        have hl1 : b1 < wr.drew.heap.size := by have := hbe.size; show b1 < wr.heap.size; omega
        have hl2 : b2 < wr.drew.heap.size := by have := hbe.size; show b2 < wr.heap.size; omega
        have hq := eqSet_any ss[k] tt[k] wr.drew
        have hbd : Below w.heap.size w wr.drew := below_drewP hbe
        obtain ⟨z, hz⟩ : ∃ z, decide (ss[k] = tt[k]) = z := ⟨_, rfl⟩
        rw [hz] at hq
        have HZ := hide hz
        clear hz
        cases z
        · go_wp2
          go_region_held3 (fun W => W.cell? ⟨b1, o1 + k * 4, none⟩ = some (.bool ss[k].1) ∧ W.cell? ⟨b1, o1 + k * 4 + 1, none⟩ = some (.string ss[k].2.1) ∧ W.cell? ⟨b1, o1 + k * 4 + 2, none⟩ = some (.string ss[k].2.2.1) ∧ W.cell? ⟨b1, o1 + k * 4 + 3, none⟩ = some (.string ss[k].2.2.2) ∧ W.cell? ⟨b2, o2 + k * 4, none⟩ = some (.bool tt[k].1) ∧ W.cell? ⟨b2, o2 + k * 4 + 1, none⟩ = some (.string tt[k].2.1) ∧ W.cell? ⟨b2, o2 + k * 4 + 2, none⟩ = some (.string tt[k].2.2.1) ∧ W.cell? ⟨b2, o2 + k * 4 + 3, none⟩ = some (.string tt[k].2.2.2)) (first | exact ⟨hx0, hx1, hx2, hx3, hy0, hy1, hy2, hy3⟩ | (simp only [(bcellP hb3).1 b1 _ hl1, (bcellP hb3).1 b2 _ hl2]; exact ⟨hx0, hx1, hx2, hx3, hy0, hy1, hy2, hy3⟩)) ((go_at_call 79; refine hq.mono ?_; rintro e w1 ⟨rfl, hb3⟩))
          all_goals
            have c1 := hbd.trans (hb3.mono hbd.size)
            clear hq hb3
            go_wp2
            go_ret
            exact ⟨ret_bool (sameS_not k hlt hlt' (of_decide_eq_false HZ.out)).symm, c1⟩
        · go_wp2
          go_region_held3 (fun W => W.cell? ⟨b1, o1 + k * 4, none⟩ = some (.bool ss[k].1) ∧ W.cell? ⟨b1, o1 + k * 4 + 1, none⟩ = some (.string ss[k].2.1) ∧ W.cell? ⟨b1, o1 + k * 4 + 2, none⟩ = some (.string ss[k].2.2.1) ∧ W.cell? ⟨b1, o1 + k * 4 + 3, none⟩ = some (.string ss[k].2.2.2) ∧ W.cell? ⟨b2, o2 + k * 4, none⟩ = some (.bool tt[k].1) ∧ W.cell? ⟨b2, o2 + k * 4 + 1, none⟩ = some (.string tt[k].2.1) ∧ W.cell? ⟨b2, o2 + k * 4 + 2, none⟩ = some (.string tt[k].2.2.1) ∧ W.cell? ⟨b2, o2 + k * 4 + 3, none⟩ = some (.string tt[k].2.2.2)) (first | exact ⟨hx0, hx1, hx2, hx3, hy0, hy1, hy2, hy3⟩ | (simp only [(bcellP hb3).1 b1 _ hl1, (bcellP hb3).1 b2 _ hl2]; exact ⟨hx0, hx1, hx2, hx3, hy0, hy1, hy2, hy3⟩)) ((go_at_call 79; refine hq.mono ?_; rintro e w1 ⟨rfl, hb3⟩))
          all_goals
            have c1 := hbd.trans (hb3.mono hbd.size)
            clear hq hb3
            go_wp2
            go_roundw
            case rel => exact ⟨k + 1, by omega, by go_num, take_sameS k hlt hlt' HT.out (of_decide_eq_true HZ.out), c1⟩
            case measure => simp [intOf]; omega
      · go_wp2
        go_ret
        exact ⟨ret_bool (sameS_all HL.out k hlt HT.out).symm, hbe⟩
  · have HS := sameS_len hlen
    go_enter Try.func33, Try.ntmps33
    go_wp2
    go_ret
    exact ⟨ret_bool HS.symm, Below.refl _ _⟩
end Go.Proofs.Ytclnpfpaabmkcab
