/-
  What the laws' own helps do that mark a list of texts and look whether the marks are still there.
-/
import Derived.Test.YtccehdlgpbeijaaOwnStrs
import Derived.Test.YtccehdlgpbeijaaMathQuote
import Derived.Test.YtccehdlgpbeijaaMarkText
import Derived.Deep.RegionHeld3
namespace Go.Proofs.Ytccehdlgpbeijaa
open Go.RowKit M
set_option linter.unusedVariables false

/-- The marks from k on. -/
def marks (k n : Nat) : List ByteArray := (List.range n).map fun q => mt (k + q)
theorem marks_length (k n : Nat) : (marks k n).length = n := by simp [marks]
theorem marks_at (k n j : Nat) (h : j < n) : (marks k n)[j]'(by rw [marks_length]; exact h) = mt (k + j) := by simp [marks]

/-- A row of n texts in block g, none of them frozen. -/
def RowS (w : World) (g : Nat) (ms : List ByteArray) : Prop := g < w.heap.size ∧ ∀ j (hj : j < ms.length), w.cell? ⟨g, j, none⟩ = some (.string ms[j]) ∧ w.frozen? ⟨g, j, none⟩ = false
theorem RowS.below {w w' : World} {g : Nat} {ms : List ByteArray} (h : RowS w g ms) (hb : Below w.heap.size w w') : RowS w' g ms := by
  refine ⟨Nat.lt_of_lt_of_le h.1 hb.size, fun j hj => ?_⟩
  rw [hb.cell (p := ⟨g, j, none⟩) h.1, hb.frozen (p := ⟨g, j, none⟩) h.1]
  exact h.2 j hj
theorem RowS.set {w : World} {g : Nat} {ms : List ByteArray} (h : RowS w g ms) (k : Nat) (hk : k < ms.length) (x : ByteArray) : RowS (w.setCell ⟨g, k, none⟩ (.string x)) g (ms.set k x) := by
  refine ⟨by simpa using h.1, fun j hj => ?_⟩
  have hj' : j < ms.length := by simpa using hj
  refine ⟨?_, by rw [World.frozen?_setCell]; exact (h.2 j hj').2⟩
  by_cases e : k = j
  · subst e
    rw [World.cell?_setCell_same _ _ _ (h.2 k hk).1]
    simp
  · have hne : (⟨g, k, none⟩ : Addr) ≠ ⟨g, j, none⟩ := fun e' => e (congrArg Addr.off e')
    rw [World.cell?_setCell_other _ _ _ _ hne, (h.2 j hj').1]
    simp [e]

set_option maxHeartbeats 1000000 in
theorem markStringS_any (g n cap : Nat) (ms : List ByteArray) (hn : ms.length = n) (hl : n ≤ 100) (w : World) (h : RowS w g ms) :
    Calls Try.prog 8 #[.slice (some ⟨g, 0, none⟩) n cap, .int .i64 1] w fun e w' => e = .returned (.int .i64 (1 + n)) ∧ RowS w' g (marks 1 n) ∧ Below g w w' := by
  go_enter Try.func8, Try.ntmps8
  go_wp2
  go_loopw [1, 5] (fun kv i wr => ∃ (j : Nat) (qs : List ByteArray), j ≤ n ∧ i = .int .i64 j ∧ kv = .int .i64 (1 + j) ∧ qs.length = n ∧ (∀ q (hq : q < qs.length), q < j → qs[q] = mt (1 + q)) ∧ RowS wr g qs ∧ Below g w wr) (fun _ i _ => n - (intOf i).toNat)
  case atStart => exact ⟨0, ms, Nat.zero_le _, rfl, rfl, hn, fun q hq h => absurd h (Nat.not_lt_zero _), h, Below.refl _ _⟩
  case round =>
    obtain ⟨j, qs, hj, rfl, rfl, hql, hqm, hR, hbe⟩ := hrel
    have HQ : Hid (∀ q (hq : q < qs.length), q < j → qs[q] = mt (1 + q)) := hqm
    clear hqm
    by_cases hlt : j < n
    · have hM := markText_any (1 + j) (by omega) (by omega) wr
      have eJ : ((1 + j : Nat) : Int) = 1 + (j : Int) := by omega
      rw [eJ] at hM
      go_wp2_with fail
      refine hM.mono ?_
      rintro e w1 ⟨rfl, b1⟩
      have hR1 := hR.below b1
      have hj' : j < qs.length := by omega
      have hcn := (hR1.2 j hj').1
      have hfn := (hR1.2 j hj').2
      have HR2 : Hid _ := hR1.set j hj' (mt (1 + j))
      have hg1 := hR.1
      go_wp2
      go_roundw
      case rel =>
        refine ⟨j + 1, qs.set j (mt (1 + j)), by omega, by go_num, ?_, by rw [List.length_set]; exact hql, ?_, HR2.out, (hbe.trans (b1.mono (by omega))).setCell (Nat.le_refl _) _⟩
        · first | go_num | (congr 1; omega)
        · intro q hq hqj
          by_cases e : j = q
          · subst e; simp
          · rw [List.getElem_set_ne e]
            exact HQ.out q (by simpa using hq) (by omega)
      case measure => simp [intOf]; omega
    · have hjn : j = n := by omega
      have e : qs = marks 1 n := by
        apply List.ext_getElem
        · rw [hql, marks_length]
        · intro q h1 h2
          rw [HQ.out q h1 (by omega), marks_at 1 n q (by omega)]
      have HE : Hid (qs = marks 1 n) := e
      clear e
      subst hjn
      go_wp2
      go_ret
      exact ⟨rfl, by rw [← HE.out]; exact hR, hbe⟩

set_option maxHeartbeats 2000000 in
set_option maxRecDepth 100000 in
theorem heldStringS_any (g n cap : Nat) (hl : n ≤ 100) (w : World) (h : RowS w g (marks 1 n)) :
    Calls Try.prog 9 #[.slice (some ⟨g, 0, none⟩) n cap, .int .i64 1] w fun e w' => e = .returned (.int .i64 (1 + n)) ∧ Below w.heap.size w w' := by
  go_enter Try.func9, Try.ntmps9
  go_wp2
  go_loopw [1, 5] (fun kv i wr => ∃ (j : Nat), j ≤ n ∧ i = .int .i64 j ∧ kv = .int .i64 (1 + j) ∧ Below w.heap.size w wr) (fun _ i _ => n - (intOf i).toNat)
  case atStart => exact ⟨0, Nat.zero_le _, rfl, rfl, Below.refl _ _⟩
  case round =>
    obtain ⟨j, hj, rfl, rfl, hbe⟩ := hrel
    by_cases hlt : j < n
    · have hM := fun w => markText_any (1 + j) (by omega) (by omega) w
      have eJ : ((1 + j : Nat) : Int) = 1 + (j : Int) := by omega
      rw [eJ] at hM
      have HM : Hid _ := hM
      clear hM
      have hR := h.below hbe
      have hcx := (hR.2 j (by rw [marks_length]; exact hlt)).1
      rw [marks_at 1 n j hlt] at hcx
      have hg1 := hR.1
      have hi0 : (0 : Int) ≤ (j : Int) := by omega
      have hi1 : (j : Int) < (n : Int) := by omega
      go_wp2
      go_region_held3 (fun w' => w'.cell? ⟨g, j, none⟩ = some (.string (mt (1 + j)))) (first | go_keep | (exact (b1.cell (p := ⟨g, j, none⟩) (by first | omega | (simp; omega))).trans (by assumption))) ((go_at_call 18; refine (HM.out _).mono ?_; rintro e w1 ⟨rfl, b1⟩))
      all_goals
        have hb1 : Below wr.heap.size wr w1 := ((Below.refl wr.heap.size wr).drew).trans b1
        go_wp2
        go_roundw
        case rel => exact ⟨j + 1, by omega, by go_num, by first | go_num | (congr 1; omega), hbe.trans (hb1.mono hbe.size)⟩
        case measure => simp [intOf]; omega
    · have hjn : j = n := by omega
      subst hjn
      go_wp2
      go_ret
      exact ⟨rfl, hbe⟩
end Go.Proofs.Ytccehdlgpbeijaa
