/-
  Whether two answers are the same: what the program's SameResp does.
-/
import Derived.Test.YtkhnkockdfmkgaaDoorSameHeads
import Derived.Test.YtkhnkockdfmkgaaDoorAllOf
namespace Go.Proofs.YtkhnkockdfmkgaaDoor
open Go.RowKit M
set_option linter.unusedVariables false

set_option maxHeartbeats 1000000 in
theorem sameResp_any (a b : Option Addr) (r s : Rs) (cap cap' B C : Nat) (w : World) (h : Hds w B a r.hs) (h' : Hds w C b s.hs) (hB : B ≤ w.heap.size) (hC : C ≤ w.heap.size) (hl : r.hs.length ≤ maxLen) (hl' : s.hs.length ≤ maxLen) :
    Calls Tryd.prog 11 #[.agg #[.int .i64 r.c, .slice a r.hs.length cap, .string r.b], .agg #[.int .i64 s.c, .slice b s.hs.length cap', .string s.b]] w fun e w' => e = .returned (.bool (sameA r s)) ∧ Below w.heap.size w w' := by
  have HM : Hid (¬ r.c = s.c → sameA r s = false) := sameA_c
  have HH : Hid (sameH r.hs s.hs = false → sameA r s = false) := sameA_h
  have HBd : Hid (¬ r.b = s.b → sameA r s = false) := sameA_b
  have HA : Hid (r.c = s.c → sameH r.hs s.hs = true → r.b = s.b → sameA r s = true) := sameA_all
  generalize sameA r s = z at *
  obtain ⟨rc, hs, rb⟩ := r
  obtain ⟨sc, ts, sb⟩ := s
  simp only at *
  by_cases h1 : rc = sc
  · have e1 : (rc == sc) = true := beq_iff_eq.2 h1
    have e1' : (rc != sc) = false := by simp [h1]
    have hb0 : Below w.heap.size w ((w.alloc (Obj.cells #[Value.int .i64 rc, Value.slice a hs.length cap, Value.string rb] 26)).alloc (Obj.cells #[Value.int .i64 sc, Value.slice b ts.length cap', Value.string sb] 26)) := ((Below.refl _ _).alloc (Nat.le_refl _) _).alloc (by simp) _
    have hE := slicesEqualH_any a b hs ts cap cap' B C _ (h.below hb0 hB) (h'.below hb0 hC) hl hl'
    have HA' : Hid (sameH hs ts = true → rb = sb → z = true) := fun h3 h4 => HA.out h1 h3 h4
    clear HA
    subst h1
    cases h3 : sameH hs ts
    · have hz := HH.out h3
      rw [h3] at hE
      subst hz
      clear h3
      go_enter Tryd.func11, Tryd.ntmps11
      go_wp2_with fail
      refine hE.mono ?_
      rintro e w1 ⟨rfl, hb1'⟩
      have hb1 := hb1' ((w.alloc (Obj.cells #[Value.int .i64 rc, Value.slice a hs.length cap, Value.string rb] 26)).alloc (Obj.cells #[Value.int .i64 rc, Value.slice b ts.length cap', Value.string sb] 26)).heap.size
      have c1 := hb0.trans (hb1.mono hb0.size)
      go_wp2
      go_ret
      exact ⟨rfl, c1⟩
    · rw [h3] at hE
      by_cases h4 : rb = sb
      · have e4 := eqStr h4
        have hz := HA'.out h3 h4
        subst hz
        clear h3 h4
        go_enter Tryd.func11, Tryd.ntmps11
        go_wp2_with fail
        refine hE.mono ?_
        rintro e w1 ⟨rfl, hb1'⟩
        have hb1 := hb1' ((w.alloc (Obj.cells #[Value.int .i64 rc, Value.slice a hs.length cap, Value.string rb] 26)).alloc (Obj.cells #[Value.int .i64 rc, Value.slice b ts.length cap', Value.string sb] 26)).heap.size
        have c1 := hb0.trans (hb1.mono hb0.size)
        obtain ⟨hc, hf⟩ := bcell hb1
        go_wp2
        go_ret
        exact ⟨rfl, c1⟩
      · have e4 := neStr h4
        have hz := HBd.out h4
        subst hz
        clear h3 h4
        go_enter Tryd.func11, Tryd.ntmps11
        go_wp2_with fail
        refine hE.mono ?_
        rintro e w1 ⟨rfl, hb1'⟩
        have hb1 := hb1' ((w.alloc (Obj.cells #[Value.int .i64 rc, Value.slice a hs.length cap, Value.string rb] 26)).alloc (Obj.cells #[Value.int .i64 rc, Value.slice b ts.length cap', Value.string sb] 26)).heap.size
        have c1 := hb0.trans (hb1.mono hb0.size)
        obtain ⟨hc, hf⟩ := bcell hb1
        go_wp2
        go_ret
        exact ⟨rfl, c1⟩
  · have e1 : (rc == sc) = false := beq_eq_false_iff_ne.2 h1
    have e1' : (rc != sc) = true := by simp [h1]
    have hz := HM.out h1
    subst hz
    go_enter Tryd.func11, Tryd.ntmps11
    go_wp2
    go_ret
    exact ⟨rfl, ((Below.refl _ _).alloc (Nat.le_refl _) _).alloc (by simp) _⟩
set_option maxHeartbeats 1000000 in
theorem specSameResp_any (a b : Option Addr) (r s : Rs) (cap cap' B C : Nat) (w : World) (h : Hds w B a r.hs) (h' : Hds w C b s.hs) (hB : B ≤ w.heap.size) (hC : C ≤ w.heap.size) (hl : r.hs.length ≤ maxLen) (hl' : s.hs.length ≤ maxLen) :
    Calls Tryd.prog 12 #[.agg #[.int .i64 r.c, .slice a r.hs.length cap, .string r.b], .agg #[.int .i64 s.c, .slice b s.hs.length cap', .string s.b]] w fun e w' => e = .returned (.bool (sameA r s)) ∧ Below w.heap.size w w' := by
  have HM : Hid (¬ r.c = s.c → sameA r s = false) := sameA_c
  have HH : Hid (sameH r.hs s.hs = false → sameA r s = false) := sameA_h
  have HBd : Hid (¬ r.b = s.b → sameA r s = false) := sameA_b
  have HA : Hid (r.c = s.c → sameH r.hs s.hs = true → r.b = s.b → sameA r s = true) := sameA_all
  generalize sameA r s = z at *
  obtain ⟨rc, hs, rb⟩ := r
  obtain ⟨sc, ts, sb⟩ := s
  simp only at *
  by_cases h1 : rc = sc
  · have e1 : (rc == sc) = true := beq_iff_eq.2 h1
    have e1' : (rc != sc) = false := by simp [h1]
    have hb0 : Below w.heap.size w ((w.alloc (Obj.cells #[Value.int .i64 rc, Value.slice a hs.length cap, Value.string rb] 26)).alloc (Obj.cells #[Value.int .i64 sc, Value.slice b ts.length cap', Value.string sb] 26)) := ((Below.refl _ _).alloc (Nat.le_refl _) _).alloc (by simp) _
    have hE := l3SameHeads_any a b hs ts cap cap' B C _ (h.below hb0 hB) (h'.below hb0 hC) hl hl'
    have HA' : Hid (sameH hs ts = true → rb = sb → z = true) := fun h3 h4 => HA.out h1 h3 h4
    clear HA
    subst h1
    cases h3 : sameH hs ts
    · have hz := HH.out h3
      rw [h3] at hE
      subst hz
      clear h3
      go_enter Tryd.func12, Tryd.ntmps12
      go_wp2_with fail
      refine hE.mono ?_
      rintro e w1 ⟨rfl, hb1'⟩
      have hb1 := hb1' ((w.alloc (Obj.cells #[Value.int .i64 rc, Value.slice a hs.length cap, Value.string rb] 26)).alloc (Obj.cells #[Value.int .i64 rc, Value.slice b ts.length cap', Value.string sb] 26)).heap.size
      have c1 := hb0.trans (hb1.mono hb0.size)
      go_wp2
      go_ret
      exact ⟨rfl, c1⟩
    · rw [h3] at hE
      by_cases h4 : rb = sb
      · have e4 := eqStr h4
        have hz := HA'.out h3 h4
        subst hz
        clear h3 h4
        go_enter Tryd.func12, Tryd.ntmps12
        go_wp2_with fail
        refine hE.mono ?_
        rintro e w1 ⟨rfl, hb1'⟩
        have hb1 := hb1' ((w.alloc (Obj.cells #[Value.int .i64 rc, Value.slice a hs.length cap, Value.string rb] 26)).alloc (Obj.cells #[Value.int .i64 rc, Value.slice b ts.length cap', Value.string sb] 26)).heap.size
        have c1 := hb0.trans (hb1.mono hb0.size)
        obtain ⟨hc, hf⟩ := bcell hb1
        go_wp2
        go_ret
        exact ⟨rfl, c1⟩
      · have e4 := neStr h4
        have hz := HBd.out h4
        subst hz
        clear h3 h4
        go_enter Tryd.func12, Tryd.ntmps12
        go_wp2_with fail
        refine hE.mono ?_
        rintro e w1 ⟨rfl, hb1'⟩
        have hb1 := hb1' ((w.alloc (Obj.cells #[Value.int .i64 rc, Value.slice a hs.length cap, Value.string rb] 26)).alloc (Obj.cells #[Value.int .i64 rc, Value.slice b ts.length cap', Value.string sb] 26)).heap.size
        have c1 := hb0.trans (hb1.mono hb0.size)
        obtain ⟨hc, hf⟩ := bcell hb1
        go_wp2
        go_ret
        exact ⟨rfl, c1⟩
  · have e1 : (rc == sc) = false := beq_eq_false_iff_ne.2 h1
    have e1' : (rc != sc) = true := by simp [h1]
    have hz := HM.out h1
    subst hz
    go_enter Tryd.func12, Tryd.ntmps12
    go_wp2
    go_ret
    exact ⟨rfl, ((Below.refl _ _).alloc (Nat.le_refl _) _).alloc (by simp) _⟩
end Go.Proofs.YtkhnkockdfmkgaaDoor
