/-
  Whether two lists of what is known are the same, by the laws' own helps.
-/
import Derived.Test.YtkgdmlfdlkmojaaProps
import Derived.Test.YtkgdmlfdlkmojaaRet
import Derived.Deep.RegionHeld3
namespace Go.Proofs.Ytkgdmlfdlkmojaa
open Go.RowKit M
set_option linter.unusedVariables false

set_option maxHeartbeats 1000000 in
theorem eqProp_any (x y z u v t : ByteArray) (w : World) :
    Calls Try.prog 54 #[.agg #[.string x, .string y, .string z], .agg #[.string u, .string v, .string t]] w fun e w' => e = .returned (.bool (decide (((x, y, z) : Pp) = (u, v, t)))) ∧ Below w.heap.size w w' := by
  go_enter Try.func54, Try.ntmps54
  go_wp2
  all_goals go_ret
  · rename_i h1
    refine ⟨ret_bool ?_, ((Below.refl _ _).alloc (Nat.le_refl _) _).alloc (by simp) _⟩
    have : ¬ x = u := fun e => by subst e; simp at h1
    simp [this]
  · rename_i h1 h2
    refine ⟨ret_bool ?_, ((Below.refl _ _).alloc (Nat.le_refl _) _).alloc (by simp) _⟩
    have : ¬ y = v := fun e => by subst e; simp at h2
    simp [this]
  · rename_i h1 h2 h3
    refine ⟨ret_bool ?_, ((Below.refl _ _).alloc (Nat.le_refl _) _).alloc (by simp) _⟩
    have : ¬ z = t := fun e => by subst e; simp at h3
    simp [this]
  · rename_i h1 h2 h3
    refine ⟨ret_bool ?_, ((Below.refl _ _).alloc (Nat.le_refl _) _).alloc (by simp) _⟩
    have e1 : x = u := strInjP (by simpa using h1)
    have e2 : y = v := strInjP (by simpa using h2)
    have e3 : z = t := strInjP (by simpa using h3)
    simp [e1, e2, e3]

set_option maxHeartbeats 1000000 in
theorem eqPropS_any (a b : Option Addr) (ss tt : List Pp) (cap cap' B C : Nat) (w : World) (h : Pps w B a ss) (h' : Pps w C b tt) (hB : B ≤ w.heap.size) (hC : C ≤ w.heap.size) (hl : ss.length ≤ maxLen) (hl' : tt.length ≤ maxLen) :
    Calls Try.prog 20 #[.slice a ss.length cap, .slice b tt.length cap'] w fun e w' => e = .returned (.bool (sameP ss tt)) ∧ Below w.heap.size w w' := by
  unfold maxLen at hl hl'
  by_cases hlen : ss.length = tt.length
  · have HL : Hid (ss.length = tt.length) := hlen
    go_enter Try.func20, Try.ntmps20
    rw [← hlen]
    clear hlen
    go_wp2
    go_loopw [5] (fun i wr => ∃ k : Nat, k ≤ ss.length ∧ i = .int .i64 k ∧ ss.take k = tt.take k ∧ Below w.heap.size w wr) (fun i _ => ss.length - (intOf i).toNat)
    case atStart => exact ⟨0, Nat.zero_le _, rfl, rfl, Below.refl _ _⟩
    case round =>
      obtain ⟨k, hk, rfl, ht, hbe⟩ := hrel
      have HT : Hid (ss.take k = tt.take k) := ht
      clear ht
      by_cases hlt : k < ss.length
      · have hlt' : k < tt.length := by have := HL.out; omega
        obtain ⟨b1, o1, rfl, hb1, hc1⟩ := (h.below hbe hB) (by omega)
        obtain ⟨b2, o2, rfl, hb2, hc2⟩ := (h'.below hbe hC) (by have := HL.out; omega)
        obtain ⟨hx0, hx1, hx2⟩ := hc1 k hlt
        obtain ⟨hy0, hy1, hy2⟩ := hc2 k hlt'
        clear hc1 hc2
        have hl1 : b1 < wr.drew.heap.size := by have := hbe.size; show b1 < wr.heap.size; omega
        have hl2 : b2 < wr.drew.heap.size := by have := hbe.size; show b2 < wr.heap.size; omega
        have hq := eqProp_any ss[k].1 ss[k].2.1 ss[k].2.2 tt[k].1 tt[k].2.1 tt[k].2.2 wr.drew
        have hbd : Below w.heap.size w wr.drew := below_drewP hbe
        obtain ⟨z, hz⟩ : ∃ z, decide (((ss[k].1, ss[k].2.1, ss[k].2.2) : Pp) = (tt[k].1, tt[k].2.1, tt[k].2.2)) = z := ⟨_, rfl⟩
        rw [hz] at hq
        have HZ := hide hz
        clear hz
        cases z
        · go_wp2
          go_region_held3 (fun W => W.cell? ⟨b1, o1 + k * 3, none⟩ = some (.string ss[k].1) ∧ W.cell? ⟨b1, o1 + k * 3 + 1, none⟩ = some (.string ss[k].2.1) ∧ W.cell? ⟨b1, o1 + k * 3 + 2, none⟩ = some (.string ss[k].2.2) ∧ W.cell? ⟨b2, o2 + k * 3, none⟩ = some (.string tt[k].1) ∧ W.cell? ⟨b2, o2 + k * 3 + 1, none⟩ = some (.string tt[k].2.1) ∧ W.cell? ⟨b2, o2 + k * 3 + 2, none⟩ = some (.string tt[k].2.2)) (first | exact ⟨hx0, hx1, hx2, hy0, hy1, hy2⟩ | (simp only [(bcellP hb3).1 b1 _ hl1, (bcellP hb3).1 b2 _ hl2]; exact ⟨hx0, hx1, hx2, hy0, hy1, hy2⟩)) ((go_at_call 54; refine hq.mono ?_; rintro e w1 ⟨rfl, hb3⟩))
          all_goals
            have c1 := hbd.trans (hb3.mono hbd.size)
            clear hq hb3
            go_wp2
            go_ret
            exact ⟨ret_bool (sameP_not k hlt hlt' (of_decide_eq_false HZ.out)).symm, c1⟩
        · go_wp2
          go_region_held3 (fun W => W.cell? ⟨b1, o1 + k * 3, none⟩ = some (.string ss[k].1) ∧ W.cell? ⟨b1, o1 + k * 3 + 1, none⟩ = some (.string ss[k].2.1) ∧ W.cell? ⟨b1, o1 + k * 3 + 2, none⟩ = some (.string ss[k].2.2) ∧ W.cell? ⟨b2, o2 + k * 3, none⟩ = some (.string tt[k].1) ∧ W.cell? ⟨b2, o2 + k * 3 + 1, none⟩ = some (.string tt[k].2.1) ∧ W.cell? ⟨b2, o2 + k * 3 + 2, none⟩ = some (.string tt[k].2.2)) (first | exact ⟨hx0, hx1, hx2, hy0, hy1, hy2⟩ | (simp only [(bcellP hb3).1 b1 _ hl1, (bcellP hb3).1 b2 _ hl2]; exact ⟨hx0, hx1, hx2, hy0, hy1, hy2⟩)) ((go_at_call 54; refine hq.mono ?_; rintro e w1 ⟨rfl, hb3⟩))
          all_goals
            have c1 := hbd.trans (hb3.mono hbd.size)
            clear hq hb3
            go_wp2
            go_roundw
            case rel => exact ⟨k + 1, by omega, by go_num, take_sameP k hlt hlt' HT.out (of_decide_eq_true HZ.out), c1⟩
            case measure => simp [intOf]; omega
      · go_wp2
        go_ret
        exact ⟨ret_bool (sameP_all HL.out k hlt HT.out).symm, hbe⟩
  · have HS := sameP_len hlen
    go_enter Try.func20, Try.ntmps20
    go_wp2
    go_ret
    exact ⟨ret_bool HS.symm, Below.refl _ _⟩
end Go.Proofs.Ytkgdmlfdlkmojaa
