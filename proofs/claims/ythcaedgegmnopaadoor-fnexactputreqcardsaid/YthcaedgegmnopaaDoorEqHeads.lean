/-
  Whether two lists of heads are the same, by the laws' own helps.
-/
import Derived.Test.YthcaedgegmnopaaDoorHeads
import Derived.Test.YthcaedgegmnopaaDoorSpecSmall
import Derived.Deep.RegionHeld3
namespace Go.Proofs.YthcaedgegmnopaaDoor
open Go.RowKit M
set_option linter.unusedVariables false

set_option maxHeartbeats 400000 in
theorem eqHead_any (x y u v : ByteArray) (w : World) :
    Calls Tryd.prog 74 #[.agg #[.string x, .string y], .agg #[.string u, .string v]] w fun e w' => e = .returned (.bool (decide (((x, y) : Hd) = (u, v)))) ∧ Below w.heap.size w w' := by
  go_enter Tryd.func74, Tryd.ntmps74
  go_wp2
  all_goals go_ret
  · rename_i h1
    refine ⟨ret_bool ?_, ((Below.refl _ _).alloc (Nat.le_refl _) _).alloc (by simp) _⟩
    have : ¬ x = u := fun e => by subst e; simp at h1
    simp [this]
  · rename_i h1 h2
    refine ⟨ret_bool ?_, ((Below.refl _ _).alloc (Nat.le_refl _) _).alloc (by simp) _⟩
    have : ¬ y = v := fun e => by subst e; simp at h2
    simp [this]
  · rename_i h1 h2
    refine ⟨ret_bool ?_, ((Below.refl _ _).alloc (Nat.le_refl _) _).alloc (by simp) _⟩
    have e1 : x = u := strInj (by simpa using h1)
    have e2 : y = v := strInj (by simpa using h2)
    simp [e1, e2]

set_option maxHeartbeats 400000 in
theorem eqHeadS_any (a b : Option Addr) (ss tt : List Hd) (cap cap' B C : Nat) (w : World) (h : Hds w B a ss) (h' : Hds w C b tt) (hB : B ≤ w.heap.size) (hC : C ≤ w.heap.size) (hl : ss.length ≤ maxLen) (hl' : tt.length ≤ maxLen) :
    Calls Tryd.prog 51 #[.slice a ss.length cap, .slice b tt.length cap'] w fun e w' => e = .returned (.bool (sameH ss tt)) ∧ Below w.heap.size w w' := by
  unfold maxLen at hl hl'
  by_cases hlen : ss.length = tt.length
  · have HL : Hid (ss.length = tt.length) := hlen
    go_enter Tryd.func51, Tryd.ntmps51
    rw [← hlen]
    clear hlen
    go_wp2
    go_loopw [5] (fun i wr => ∃ k : Nat, k ≤ ss.length ∧ i = .int .i64 k ∧ ss.take k = tt.take k ∧ Below w.heap.size w wr) (fun i _ => ss.length - (intOf i).toNat)
    case atStart => exact ⟨0, Nat.zero_le _, rfl, rfl, Below.refl _ _⟩
    case round =>
      obtain ⟨k, hk, rfl, ht, hbe⟩ := hrel
      have HT : Hid (ss.take k = tt.take k) := ht
      clear ht
      by_cases hlt : k < ss.length
      · have hlt' : k < tt.length := by have := HL.out; omega
        obtain ⟨b1, o1, rfl, hb1, hc1⟩ := (h.below hbe hB) (by omega)
        obtain ⟨b2, o2, rfl, hb2, hc2⟩ := (h'.below hbe hC) (by have := HL.out; omega)
        have hcx := (hc1 k hlt).1
        have hcx2 := (hc1 k hlt).2
        have hcy := (hc2 k hlt').1
        have hcy2 := (hc2 k hlt').2
        clear hc1 hc2
        have hl1 : b1 < wr.drew.heap.size := by have := hbe.size; show b1 < wr.heap.size; omega
        have hl2 : b2 < wr.drew.heap.size := by have := hbe.size; show b2 < wr.heap.size; omega
        have hq := eqHead_any ss[k].1 ss[k].2 tt[k].1 tt[k].2 wr.drew
        have hbd : Below w.heap.size w wr.drew := ⟨hbe.os, hbe.tape, hbe.output, hbe.size, hbe.block⟩
        by_cases he : ss[k] = tt[k]
        · have hd : decide (((ss[k].1, ss[k].2) : Hd) = (tt[k].1, tt[k].2)) = true := decide_eq_true he
          rw [hd] at hq
          have HE : Hid (ss[k] = tt[k]) := he
          clear hd he
          go_wp2
          go_region_held3 (fun W => W.cell? ⟨b1, o1 + k * 2, none⟩ = some (.string ss[k].1) ∧ W.cell? ⟨b1, o1 + k * 2 + 1, none⟩ = some (.string ss[k].2) ∧ W.cell? ⟨b2, o2 + k * 2, none⟩ = some (.string tt[k].1) ∧ W.cell? ⟨b2, o2 + k * 2 + 1, none⟩ = some (.string tt[k].2)) (first | exact ⟨hcx, hcx2, hcy, hcy2⟩ | exact ⟨(hb3.cell (p := ⟨b1, o1 + k * 2, none⟩) hl1).trans hcx, (hb3.cell (p := ⟨b1, o1 + k * 2 + 1, none⟩) hl1).trans hcx2, (hb3.cell (p := ⟨b2, o2 + k * 2, none⟩) hl2).trans hcy, (hb3.cell (p := ⟨b2, o2 + k * 2 + 1, none⟩) hl2).trans hcy2⟩) ((go_at_call 74; refine hq.mono ?_; rintro e w1 ⟨rfl, hb3⟩))
          all_goals
            have c1 := hbd.trans (hb3.mono hbd.size)
            clear hq hb3
            go_wp2
            go_roundw
            case rel => exact ⟨k + 1, by omega, by go_num, take_sameH k hlt hlt' HT.out HE.out, c1⟩
            case measure => simp [intOf]; omega
        · have hd : decide (((ss[k].1, ss[k].2) : Hd) = (tt[k].1, tt[k].2)) = false := decide_eq_false he
          rw [hd] at hq
          have HE : Hid (sameH ss tt = false) := sameH_not k hlt hlt' he
          clear hd he
          go_wp2
          go_region_held3 (fun W => W.cell? ⟨b1, o1 + k * 2, none⟩ = some (.string ss[k].1) ∧ W.cell? ⟨b1, o1 + k * 2 + 1, none⟩ = some (.string ss[k].2) ∧ W.cell? ⟨b2, o2 + k * 2, none⟩ = some (.string tt[k].1) ∧ W.cell? ⟨b2, o2 + k * 2 + 1, none⟩ = some (.string tt[k].2)) (first | exact ⟨hcx, hcx2, hcy, hcy2⟩ | exact ⟨(hb3.cell (p := ⟨b1, o1 + k * 2, none⟩) hl1).trans hcx, (hb3.cell (p := ⟨b1, o1 + k * 2 + 1, none⟩) hl1).trans hcx2, (hb3.cell (p := ⟨b2, o2 + k * 2, none⟩) hl2).trans hcy, (hb3.cell (p := ⟨b2, o2 + k * 2 + 1, none⟩) hl2).trans hcy2⟩) ((go_at_call 74; refine hq.mono ?_; rintro e w1 ⟨rfl, hb3⟩))
          all_goals
            have c1 := hbd.trans (hb3.mono hbd.size)
            clear hq hb3
            go_wp2
            go_ret
            exact ⟨ret_bool HE.out.symm, c1⟩
      · go_wp2
        go_ret
        exact ⟨ret_bool (sameH_all HL.out k hlt HT.out).symm, hbe⟩
  · have HS := sameH_len hlen
    go_enter Tryd.func51, Tryd.ntmps51
    go_wp2
    go_ret
    exact ⟨ret_bool HS.symm, Below.refl _ _⟩
end Go.Proofs.YthcaedgegmnopaaDoor
