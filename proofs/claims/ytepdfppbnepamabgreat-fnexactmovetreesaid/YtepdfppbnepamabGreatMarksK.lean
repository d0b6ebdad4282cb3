/-
  What the laws' own helps do that mark a list of texts, from any number on, and look whether the marks are still there.
-/
import Derived.Test.YtepdfppbnepamabGreatRowS
import Derived.Test.YtepdfppbnepamabGreatTurn
import Derived.Test.YtepdfppbnepamabGreatMathOrder
import Derived.Deep.RegionHeld3
namespace Go.Proofs.YtepdfppbnepamabGreat
open Go.RowKit M
set_option linter.unusedVariables false

theorem RowS.turn {w w' : World} {g : Nat} {ms : List ByteArray} {S : Nat → Prop} (h : RowS w g ms) (t : Turn S w w') (hS : ¬ S g) : RowS w' g ms := by
  refine ⟨Nat.lt_of_lt_of_le h.1 t.size, fun j hj => ?_⟩
  rw [t.cell h.1 hS, t.frozen h.1 hS]
  exact h.2 j hj

set_option maxHeartbeats 1000000 in
theorem markStringS_from (g n cap k0 : Nat) (ms : List ByteArray) (hn : ms.length = n) (hl : n ≤ 1048576) (hk1 : 1 ≤ k0) (hk0 : k0 + n ≤ 50000000) (w : World) (h : RowS w g ms) :
    Calls Tryz.prog 16 #[.slice (some ⟨g, 0, none⟩) n cap, .int .i64 k0] w fun e w' => e = .returned (.int .i64 ((k0 : Int) + n)) ∧ RowS w' g (marks k0 n) ∧ Turn (· = g) w w' := by
  go_enter Tryz.func16, Tryz.ntmps16
  go_wp2
  go_loopw [1, 5] (fun kv i wr => ∃ (j : Nat) (qs : List ByteArray), j ≤ n ∧ i = .int .i64 j ∧ kv = .int .i64 ((k0 : Int) + j) ∧ qs.length = n ∧ (∀ q (hq : q < qs.length), q < j → qs[q] = mt (k0 + q)) ∧ RowS wr g qs ∧ Turn (· = g) w wr) (fun _ i _ => n - (intOf i).toNat)
  case atStart => exact ⟨0, ms, Nat.zero_le _, rfl, by simp, hn, fun q hq h => absurd h (Nat.not_lt_zero _), h, Turn.refl _ _⟩
  case round =>
    obtain ⟨j, qs, hj, rfl, rfl, hql, hqm, hR, hbe⟩ := hrel
    have HQ : Hid (∀ q (hq : q < qs.length), q < j → qs[q] = mt (k0 + q)) := hqm
    clear hqm
    by_cases hlt : j < n
    · have hM := markText_any (k0 + j) (by omega) (by omega) wr
      have eJ : ((k0 + j : Nat) : Int) = (k0 : Int) + (j : Int) := by omega
      rw [eJ] at hM
      go_wp2_with fail
      refine hM.mono ?_
      rintro e w1 ⟨rfl, b1⟩
      have hR1 := hR.below b1
      have hj' : j < qs.length := by omega
      have hcn := (hR1.2 j hj').1
      have hfn := (hR1.2 j hj').2
      have HR2 := hide (hR1.set j hj' (mt (k0 + j)))
      have HT := hide ((hbe.trans (Turn.of_below b1)).trans (Turn.set (S := (· = g)) w1 ⟨g, j, none⟩ (.string (mt (k0 + j))) rfl))
      have HQL := hide hql
      have hg1 := hR.1
      clear hql
      go_wp2
      go_roundw
      case rel =>
        refine ⟨j + 1, qs.set j (mt (k0 + j)), by omega, by go_num, ?_, by rw [List.length_set]; exact HQL.out, ?_, HR2.out, HT.out⟩
        · first | go_num | (congr 1; omega)
        · intro q hq hqj
          by_cases e : j = q
          · subst e; simp
          · rw [List.getElem_set_ne e]
            exact HQ.out q (by simpa using hq) (by omega)
      case measure => simp [intOf]; omega
    · have hjn : j = n := by omega
      have HE := hide (show qs = marks k0 n by
        apply List.ext_getElem
        · rw [hql, marks_length]
        · intro q h1 h2
          rw [HQ.out q h1 (by omega), marks_at k0 n q (by omega)])
      subst hjn
      go_wp2
      go_ret
      exact ⟨rfl, by rw [← HE.out]; exact hR, hbe⟩

set_option maxHeartbeats 2000000 in
set_option maxRecDepth 100000 in
theorem heldStringS_from (g n cap k0 : Nat) (hl : n ≤ 1048576) (hk1 : 1 ≤ k0) (hk0 : k0 + n ≤ 50000000) (w : World) (h : RowS w g (marks k0 n)) :
    Calls Tryz.prog 40 #[.slice (some ⟨g, 0, none⟩) n cap, .int .i64 k0] w fun e w' => e = .returned (.int .i64 ((k0 : Int) + n)) ∧ Below w.heap.size w w' := by
  go_enter Tryz.func40, Tryz.ntmps40
  go_wp2
  go_loopw [1, 5] (fun kv i wr => ∃ (j : Nat), j ≤ n ∧ i = .int .i64 j ∧ kv = .int .i64 ((k0 : Int) + j) ∧ Below w.heap.size w wr) (fun _ i _ => n - (intOf i).toNat)
  case atStart => exact ⟨0, Nat.zero_le _, rfl, by simp, Below.refl _ _⟩
  case round =>
    obtain ⟨j, hj, rfl, rfl, hbe⟩ := hrel
    by_cases hlt : j < n
    · have hM := fun w => markText_any (k0 + j) (by omega) (by omega) w
      have eJ : ((k0 + j : Nat) : Int) = (k0 : Int) + (j : Int) := by omega
      rw [eJ] at hM
      have HM : Hid _ := hM
      clear hM
      have hR := h.below hbe
      have hcx := (hR.2 j (by rw [marks_length]; exact hlt)).1
      rw [marks_at k0 n j hlt] at hcx
      have hg1 := hR.1
      have hi0 : (0 : Int) ≤ (j : Int) := by omega
      have hi1 : (j : Int) < (n : Int) := by omega
      go_wp2
      go_region_held3 (fun w' => w'.cell? ⟨g, j, none⟩ = some (.string (mt (k0 + j)))) (first | go_keep | (exact (b1.cell (p := ⟨g, j, none⟩) (by first | omega | (simp; omega))).trans (by assumption))) ((go_at_call 38; refine (HM.out _).mono ?_; rintro e w1 ⟨rfl, b1⟩))
      all_goals
        have hb1 : Below wr.heap.size wr w1 := ((Below.refl wr.heap.size wr).drew).trans b1
        go_wp2
        go_roundw
        case rel => exact ⟨j + 1, by omega, by go_num, by first | go_num | (congr 1; omega), hbe.trans (hb1.mono hbe.size)⟩
        case measure => simp [intOf]; omega
    · have hjn : j = n := by omega
      subst hjn
      go_wp2
      go_ret
      exact ⟨rfl, hbe⟩
end Go.Proofs.YtepdfppbnepamabGreat
