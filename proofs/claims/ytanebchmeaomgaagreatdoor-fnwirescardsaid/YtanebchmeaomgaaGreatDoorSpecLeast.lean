/-
  What the specification's l3Least does: the first of these codes that is there.
-/
import Derived.Test.YtanebchmeaomgaaGreatDoorMathRead2
import Derived.Test.YtanebchmeaomgaaGreatDoorMathCutB
import Derived.Test.YtanebchmeaomgaaGreatDoorParseHex
namespace Go.Proofs.YtanebchmeaomgaaGreatDoor
open Go.RowKit M
set_option linter.unusedVariables false

theorem least_hit {l cs : List Int} {i : Nat} (hi : i < cs.length) (h : ∀ j (hj : j < i), ¬ cs[j] ∈ l) (hm : cs[i] ∈ l) : leastF l cs = cs[i] := by
  unfold leastF
  have : cs.find? (fun c => decide (c ∈ l)) = some cs[i] := by
    rw [List.find?_eq_some_iff_getElem]
    refine ⟨by simpa using hm, i, hi, rfl, fun j hj => ?_⟩
    simpa using h j hj
  rw [this]; rfl
theorem least_no {l cs : List Int} (h : ∀ j (hj : j < cs.length), ¬ cs[j] ∈ l) : leastF l cs = 0 := by
  unfold leastF
  have : cs.find? (fun c => decide (c ∈ l)) = none := by
    rw [List.find?_eq_none]
    intro c hc
    obtain ⟨j, hj, rfl⟩ := List.getElem_of_mem hc
    simpa using h j hj
  rw [this]; rfl
set_option maxHeartbeats 2000000 in
theorem l3Least_any (a b : Option Addr) (l cs : List Int) (cap cap' B C : Nat) (w : World) (h : Ints w B a l) (h' : Ints w C b cs) (hl : l.length ≤ 2097152) (hl' : cs.length ≤ 1048576) :
    Calls Tryz.prog 122 #[.slice a l.length cap, .slice b cs.length cap'] w fun e w' => e = .returned (.int .i64 (leastF l cs)) ∧ ∀ D, Below D w w' := by
  go_enter Tryz.func122, Tryz.ntmps122
  go_wp2
  go_loopw [5] (fun i wr => ∃ k n : Nat, k ≤ cs.length ∧ i = .int .i64 k ∧ (∀ j (hj : j < k) (hc : j < cs.length), ¬ cs[j] ∈ l) ∧ wr = w.drewN n) (fun i _ => cs.length - (intOf i).toNat)
  case atStart => exact ⟨0, 0, Nat.zero_le _, rfl, fun j hj => absurd hj (Nat.not_lt_zero _), rfl⟩
  case round =>
    obtain ⟨k, n, hk, rfl, ht, rfl⟩ := hrel
    have HT : Hid (∀ j (hj : j < k) (hc : j < cs.length), ¬ cs[j] ∈ l) := ht
    clear ht
    by_cases hlt : k < cs.length
    · obtain ⟨b2, o2, rfl, hb2, hc2⟩ := h' (by omega)
      have hcy := hc2 k hlt
      go_wp2
      go_loopw [6] (fun i wr => ∃ q n : Nat, q ≤ l.length ∧ i = .int .i64 q ∧ (∀ j (hj : j < q) (hc : j < l.length), ¬ l[j] = cs[k]) ∧ wr = w.drewN n) (fun i _ => l.length - (intOf i).toNat)
      case atStart => exact ⟨0, n, Nat.zero_le _, rfl, fun j hj => absurd hj (Nat.not_lt_zero _), rfl⟩
      case round =>
        obtain ⟨q, n1, hq, rfl, ht, rfl⟩ := hrel
        have HQ : Hid (∀ j (hj : j < q) (hc : j < l.length), ¬ l[j] = cs[k]) := ht
        clear ht
        by_cases hql : q < l.length
        · obtain ⟨b1, o1, rfl, hb1, hc1⟩ := h (by omega)
          have hcx := hc1 q hql
          by_cases he : l[q] = cs[k]
          · have e1 : (l[q] == cs[k]) = true := by rw [he]; simp
            have HE : Hid (leastF l cs = cs[k]) := least_hit hlt (fun j hj => HT.out j hj (by omega)) (by rw [← he]; exact List.getElem_mem hql)
            clear he
            go_wp2
            go_quiet (fail)
            go_wp2
            go_ret
            exact ⟨ret_intE HE.out.symm, fun D => below_drewN (Below.refl _ _) _⟩
          · have e1 : (l[q] == cs[k]) = false := by apply beq_eq_false_iff_ne.2; exact he
            have HE : Hid (¬ l[q] = cs[k]) := he
            clear he
            go_wp2
            go_quiet (fail)
            go_wp2
            go_roundw
            case rel =>
              refine ⟨q + 1, n1 + nq, by omega, by go_num, fun j hj hc => ?_, rfl⟩
              rcases Nat.lt_or_eq_of_le (Nat.le_of_lt_succ hj) with h | h
              · exact HQ.out j h hc
              · subst h; exact HE.out
            case measure => simp [intOf]; omega
        · go_wp2
          go_roundw
          case rel =>
            refine ⟨k + 1, n1, by omega, by go_num, fun j hj hc => ?_, rfl⟩
            rcases Nat.lt_or_eq_of_le (Nat.le_of_lt_succ hj) with h | h
            · exact HT.out j h hc
            · subst h
              intro hm
              obtain ⟨x, hx, e⟩ := List.getElem_of_mem hm
              exact HQ.out x (by omega) hx e
          case measure => simp [intOf]; omega
    · have HE : Hid (leastF l cs = 0) := least_no (fun j hj => HT.out j (by omega) hj)
      go_wp2
      go_ret
      exact ⟨ret_intE HE.out.symm, fun D => below_drewN (Below.refl _ _) _⟩
end Go.Proofs.YtanebchmeaomgaaGreatDoor
