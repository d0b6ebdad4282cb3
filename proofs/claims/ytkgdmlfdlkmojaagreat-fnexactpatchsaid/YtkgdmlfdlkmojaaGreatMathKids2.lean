/-
  What turns none but certain blocks.
  What the laws' own helps do that mark what is known, and look whether the marks are still there.
  Rows of texts that are marked.
  What the laws' own helps do that mark a list of texts, from any number on, and look whether the marks are still there.
  What laws.markResS does.
  What laws.markResS and laws.heldResS do.
  What laws.heldResS does.
  A thing put in order among others: no program in sight.
  What is put, and made, among right things: no program in sight.
  Whether a list of texts stands under another.
  What stands right on a path, and what is deep there.
  What stands on a path of right things: no program in sight.
-/
import Derived.Below
import Derived.WalkKit
import Derived.Test.YtkgdmlfdlkmojaaGreatMathFind
import Derived.Test.YtkgdmlfdlkmojaaGreatMarkText
import Derived.Deep.RegionHeld3
import Derived.Test.YtkgdmlfdlkmojaaGreatMathTree
namespace Go.Proofs.YtkgdmlfdlkmojaaGreat
open Go.RowKit
set_option linter.unusedVariables false

/-- No block that was there is turned, but those of S. -/
structure Turn (S : Nat → Prop) (w w' : World) : Prop where
  os : w'.os = w.os
  tape : w'.tape = w.tape
  output : w'.output = w.output
  size : w.heap.size ≤ w'.heap.size
  block : ∀ i, i < w.heap.size → ¬ S i → w'.heap[i]? = w.heap[i]?
theorem Turn.refl (S : Nat → Prop) (w : World) : Turn S w w := ⟨rfl, rfl, rfl, Nat.le_refl _, fun _ _ _ => rfl⟩
theorem Turn.trans {S : Nat → Prop} {a b c : World} (h : Turn S a b) (k : Turn S b c) : Turn S a c :=
  ⟨k.os.trans h.os, k.tape.trans h.tape, k.output.trans h.output, Nat.le_trans h.size k.size, fun i hi hS => (k.block i (Nat.lt_of_lt_of_le hi h.size) hS).trans (h.block i hi hS)⟩
theorem Turn.wide {S T : Nat → Prop} {a b : World} (h : Turn S a b) (hT : ∀ x, S x → T x) : Turn T a b := ⟨h.os, h.tape, h.output, h.size, fun i hi hS => h.block i hi (fun e => hS (hT i e))⟩
theorem Turn.of_below {S : Nat → Prop} {a b : World} (h : Below a.heap.size a b) : Turn S a b := ⟨h.os, h.tape, h.output, h.size, fun i hi _ => h.block i hi⟩
theorem Turn.set {S : Nat → Prop} (w : World) (p : Addr) (v : Value) (h : S p.block) : Turn S w (w.setCell p v) := ⟨rfl, rfl, rfl, by simp, fun i _ hS => Below.heap_setCell w p v i (fun e => hS (by rw [e]; exact h))⟩
theorem Turn.below {S : Nat → Prop} {a b : World} {C : Nat} (h : Turn S a b) (hC : ∀ x, S x → C ≤ x) (hz : C ≤ a.heap.size) : Below C a b := ⟨h.os, h.tape, h.output, h.size, fun i hi => h.block i (by omega) (fun e => by have := hC i e; omega)⟩
theorem Turn.cell {S : Nat → Prop} {a b : World} (h : Turn S a b) {i : Nat} (hi : i < a.heap.size) (hS : ¬ S i) (o : Nat) : b.cell? ⟨i, o, none⟩ = a.cell? ⟨i, o, none⟩ := by
  have := h.block i hi hS
  simp only [World.cell?, this]
theorem Turn.frozen {S : Nat → Prop} {a b : World} (h : Turn S a b) {i : Nat} (hi : i < a.heap.size) (hS : ¬ S i) (o : Nat) : b.frozen? ⟨i, o, none⟩ = a.frozen? ⟨i, o, none⟩ := by
  have := h.block i hi hS
  simp only [World.frozen?, this]
end Go.Proofs.YtkgdmlfdlkmojaaGreat
namespace Go.Proofs.YtkgdmlfdlkmojaaGreat
open Go.RowKit M
set_option linter.unusedVariables false

/-- A row of n of them, its cells, none of them frozen. -/
def CellsP (w : World) (g n : Nat) (F : Nat → Value) : Prop := g < w.heap.size ∧ (∀ o, o < n * 3 → w.cell? ⟨g, o, none⟩ = some (F o)) ∧ ∀ i, w.frozen? ⟨g, i, none⟩ = false
/-- .. marked from k on. -/
def MarkP (w : World) (g n k : Nat) : Prop := CellsP w g n (fun o => .string (mt (k + o)))

theorem CellsP.of {w w' : World} {g n : Nat} {F : Nat → Value} (h : CellsP w g n F) (hz : g < w'.heap.size) (e : ∀ o', w'.cell? ⟨g, o', none⟩ = w.cell? ⟨g, o', none⟩) (f : ∀ o', w'.frozen? ⟨g, o', none⟩ = w.frozen? ⟨g, o', none⟩) : CellsP w' g n F :=
  ⟨hz, fun o ho => by rw [e]; exact h.2.1 o ho, fun i => by rw [f]; exact h.2.2 i⟩
theorem CellsP.below {w w' : World} {g n : Nat} {F : Nat → Value} (h : CellsP w g n F) (hb : Below w.heap.size w w') : CellsP w' g n F :=
  h.of (Nat.lt_of_lt_of_le h.1 hb.size) (fun o => hb.cell (p := ⟨g, o, none⟩) h.1) (fun o => hb.frozen (p := ⟨g, o, none⟩) h.1)
theorem CellsP.set {w : World} {g n : Nat} {F : Nat → Value} (h : CellsP w g n F) (o : Nat) (ho : o < n * 3) (v : Value) : CellsP (w.setCell ⟨g, o, none⟩ v) g n (fun i => if i = o then v else F i) := by
  refine ⟨by simpa using h.1, fun i hi => ?_, fun i => by rw [World.frozen?_setCell]; exact h.2.2 i⟩
  by_cases e : i = o
  · subst e
    rw [World.cell?_setCell_same _ _ _ (h.2.1 i hi)]
    simp
  · have hne : (⟨g, o, none⟩ : Addr) ≠ ⟨g, i, none⟩ := fun e' => e (congrArg Addr.off e').symm
    rw [World.cell?_setCell_other _ _ _ _ hne, h.2.1 i hi]
    simp [e]
theorem RowP.cellsP {w : World} {g : Nat} {ps : List Pp} (h : RowP w g ps) : ∃ F, CellsP w g ps.length F := by
  refine ⟨fun o => (w.cell? ⟨g, o, none⟩).getD (.string ByteArray.empty), h.1, fun o ho => ?_, h.2.2⟩
  have hj : o / 3 < ps.length := by omega
  obtain ⟨c0, c1, c2⟩ := h.2.1 (o / 3) hj
  have e : o = o / 3 * 3 ∨ o = o / 3 * 3 + 1 ∨ o = o / 3 * 3 + 2 := by omega
  rcases e with e | e | e
  · rw [← e] at c0; simp [c0]
  · rw [← e] at c1; simp [c1]
  · rw [← e] at c2; simp [c2]

set_option maxHeartbeats 2000000 in
theorem markPropS_from (g n cap k0 : Nat) (F0 : Nat → Value) (hl : n ≤ 1048576) (hk1 : 1 ≤ k0) (hk0 : k0 + 3 * n ≤ 50000000) (w : World) (h : CellsP w g n F0) :
    Calls Tryz.prog 34 #[.slice (some ⟨g, 0, none⟩) n cap, .int .i64 k0] w fun e w' => e = .returned (.int .i64 ((k0 + 3 * n : Nat) : Int)) ∧ MarkP w' g n k0 ∧ Turn (· = g) w w' := by
  go_enter Tryz.func34, Tryz.ntmps34
  go_wp2
  go_loopw [1, 5] (fun kv i wr => ∃ (j K : Nat) (F : Nat → Value), j ≤ n ∧ i = .int .i64 j ∧ kv = .int .i64 K ∧ Hid (K = k0 + 3 * j) ∧ (∀ o, o < 3 * j → F o = .string (mt (k0 + o))) ∧ CellsP wr g n F ∧ Turn (· = g) w wr) (fun _ i _ => n - (intOf i).toNat)
  case atStart => exact ⟨0, k0, F0, Nat.zero_le _, rfl, rfl, rfl, fun o ho => absurd ho (by omega), h, Turn.refl _ _⟩
  case round =>
    obtain ⟨j, K, F, hj, rfl, rfl, hK, hF, hR, hbe⟩ := hrel
    have HF := hide hF
    clear hF
    by_cases hlt : j < n
    · have hKb : K + 3 ≤ 50000000 ∧ 1 ≤ K := by have := hK.out; omega
      have hM0 := fun W => markText_any K hKb.2 (by omega) W
      have hM1 := fun W => markText_any (K + 1) (by omega) (by omega) W
      have hM2 := fun W => markText_any (K + 2) (by omega) (by omega) W
      have e1 : ((K + 1 : Nat) : Int) = (K : Int) + 1 := by omega
      have e2 : ((K + 2 : Nat) : Int) = (K : Int) + 1 + 1 := by omega
      rw [e1] at hM1
      rw [e2] at hM2
      have HM0 := hide hM0
      have HM1 := hide hM1
      have HM2 := hide hM2
      clear hM0 hM1 hM2 e1 e2
      go_wp2_with fail
      refine (HM0.out wr).mono ?_
      rintro e w1 ⟨rfl, b1⟩
      have hR1 := hR.below b1
      have hcn := hR1.2.1 (j * 3) (by omega)
      have hfn := hR1.2.2 (j * 3)
      have r1 := hR1.set (j * 3) (by omega) (.string (mt K))
      have t1 := (hbe.trans (Turn.of_below b1)).trans (Turn.set (S := (· = g)) w1 ⟨g, j * 3, none⟩ (.string (mt K)) rfl)
      clear hR hR1 b1 hbe
      go_wp2_with fail
      refine (HM1.out _).mono ?_
      rintro e w2 ⟨rfl, b2⟩
      have r2 := r1.below b2
      have hcn2 := r2.2.1 (j * 3 + 1) (by omega)
      have hfn2 := r2.2.2 (j * 3 + 1)
      have r3 := r2.set (j * 3 + 1) (by omega) (.string (mt (K + 1)))
      have t2 := (t1.trans (Turn.of_below b2)).trans (Turn.set (S := (· = g)) w2 ⟨g, j * 3 + 1, none⟩ (.string (mt (K + 1))) rfl)
      clear r1 r2 b2 t1
      go_wp2_with fail
      refine (HM2.out _).mono ?_
      rintro e w3 ⟨rfl, b3⟩
      have r4 := r3.below b3
      have hcn3 := r4.2.1 (j * 3 + 2) (by omega)
      have hfn3 := r4.2.2 (j * 3 + 2)
      have HR := hide (r4.set (j * 3 + 2) (by omega) (.string (mt (K + 2))))
      have HT := hide ((t2.trans (Turn.of_below b3)).trans (Turn.set (S := (· = g)) w3 ⟨g, j * 3 + 2, none⟩ (.string (mt (K + 2))) rfl))
      clear r3 r4 b3 t2
      go_wp2
      go_roundw
      case rel =>
        refine ⟨j + 1, K + 3, _, by omega, by go_num, by first | go_num | (congr 1; omega), ?_, ?_, HR.out, HT.out⟩
        · have := hK.out; show K + 3 = k0 + 3 * (j + 1); omega
        · intro o ho
          have hKo := hK.out
          by_cases e2 : o = j * 3 + 2
          · subst e2; simp only [if_true]; congr 2; omega
          · by_cases e1 : o = j * 3 + 1
            · subst e1; simp only [show ¬ j * 3 + 1 = j * 3 + 2 by omega, if_true, if_false]; congr 2; omega
            · by_cases e0 : o = j * 3
              · subst e0; simp only [show ¬ j * 3 = j * 3 + 2 by omega, show ¬ j * 3 = j * 3 + 1 by omega, if_true, if_false]; congr 2; omega
              · simp only [e0, e1, e2, if_false]; exact HF.out o (by omega)
      case measure => simp [intOf]; omega
    · have hjn : j = n := by omega
      subst hjn
      have hKK : K = k0 + 3 * j := hK.out
      subst hKK
      go_wp2
      go_ret
      exact ⟨rfl, ⟨hR.1, fun o ho => by rw [hR.2.1 o ho, HF.out o (by omega)], hR.2.2⟩, hbe⟩

set_option maxHeartbeats 4000000 in
set_option maxRecDepth 100000 in
theorem heldPropS_from (g n cap k0 : Nat) (hl : n ≤ 1048576) (hk1 : 1 ≤ k0) (hk0 : k0 + 3 * n ≤ 50000000) (w : World) (h : MarkP w g n k0) :
    Calls Tryz.prog 36 #[.slice (some ⟨g, 0, none⟩) n cap, .int .i64 k0] w fun e w' => e = .returned (.int .i64 ((k0 + 3 * n : Nat) : Int)) ∧ Below w.heap.size w w' := by
  go_enter Tryz.func36, Tryz.ntmps36
  go_wp2
  go_loopw [1, 5] (fun kv i wr => ∃ (j K : Nat), j ≤ n ∧ i = .int .i64 j ∧ kv = .int .i64 K ∧ Hid (K = k0 + 3 * j) ∧ Below w.heap.size w wr) (fun _ i _ => n - (intOf i).toNat)
  case atStart => exact ⟨0, k0, Nat.zero_le _, rfl, rfl, rfl, Below.refl _ _⟩
  case round =>
    obtain ⟨j, K, hj, rfl, rfl, hK, hbe⟩ := hrel
    by_cases hlt : j < n
    · have hKb : K + 3 ≤ 50000000 ∧ 1 ≤ K := by have := hK.out; omega
      have hM0 := fun W => markText_any K hKb.2 (by omega) W
      have hM1 := fun W => markText_any (K + 1) (by omega) (by omega) W
      have hM2 := fun W => markText_any (K + 2) (by omega) (by omega) W
      have e1 : ((K + 1 : Nat) : Int) = (K : Int) + 1 := by omega
      have e2 : ((K + 2 : Nat) : Int) = (K : Int) + 1 + 1 := by omega
      rw [e1] at hM1
      rw [e2] at hM2
      have HM0 := hide hM0
      have HM1 := hide hM1
      have HM2 := hide hM2
      clear hM0 hM1 hM2 e1 e2
      have hR := h.below hbe
      have hg1 := hR.1
      have hc0 : wr.cell? ⟨g, j * 3, none⟩ = some (.string (mt K)) := by rw [hR.2.1 (j * 3) (by omega)]; show some (Value.string (mt (k0 + (j * 3)))) = _; rw [show k0 + (j * 3) = K by have := hK.out; omega]
      have hc1 : wr.cell? ⟨g, j * 3 + 1, none⟩ = some (.string (mt (K + 1))) := by rw [hR.2.1 (j * 3 + 1) (by omega)]; show some (Value.string (mt (k0 + (j * 3 + 1)))) = _; rw [show k0 + (j * 3 + 1) = K + 1 by have := hK.out; omega]
      have hc2 : wr.cell? ⟨g, j * 3 + 2, none⟩ = some (.string (mt (K + 2))) := by rw [hR.2.1 (j * 3 + 2) (by omega)]; show some (Value.string (mt (k0 + (j * 3 + 2)))) = _; rw [show k0 + (j * 3 + 2) = K + 2 by have := hK.out; omega]
      have hi0 : (0 : Int) ≤ (j : Int) := by omega
      have hi1 : (j : Int) < (n : Int) := by omega
      clear hR
      go_wp2
      go_region_held3 (fun w' => w'.cell? ⟨g, j * 3, none⟩ = some (.string (mt K))) (first | go_keep | (exact (b1.cell (p := ⟨g, j * 3, none⟩) (by first | omega | (simp; omega))).trans (by assumption))) ((go_at_call 33; refine (HM0.out _).mono ?_; rintro e w1 ⟨rfl, b1⟩))
      all_goals
        have hb1 : Below wr.heap.size wr w1 := ((Below.refl wr.heap.size wr).drew).trans b1
        have hd1 := (hb1.cell (p := ⟨g, j * 3 + 1, none⟩) hg1).trans hc1
        have hd2 := (hb1.cell (p := ⟨g, j * 3 + 2, none⟩) hg1).trans hc2
        have hg2 : g < w1.heap.size := Nat.lt_of_lt_of_le hg1 hb1.size
        have c1 := hbe.trans (hb1.mono hbe.size)
        clear b1 hb1
        go_wp2
        go_region_held3 (fun w' => w'.cell? ⟨g, j * 3 + 1, none⟩ = some (.string (mt (K + 1)))) (first | go_keep | (exact (b2.cell (p := ⟨g, j * 3 + 1, none⟩) (by first | omega | (simp; omega))).trans (by assumption))) ((go_at_call 33; refine (HM1.out _).mono ?_; rintro e w2 ⟨rfl, b2⟩))
        all_goals
          have hb2 : Below w1.heap.size w1 w2 := ((Below.refl w1.heap.size w1).drew).trans b2
          have hd3 := (hb2.cell (p := ⟨g, j * 3 + 2, none⟩) hg2).trans hd2
          have hg3 : g < w2.heap.size := Nat.lt_of_lt_of_le hg2 hb2.size
          have c2 := c1.trans (hb2.mono c1.size)
          clear b2 hb2
          go_wp2
          go_region_held3 (fun w' => w'.cell? ⟨g, j * 3 + 2, none⟩ = some (.string (mt (K + 2)))) (first | go_keep | (exact (b3.cell (p := ⟨g, j * 3 + 2, none⟩) (by first | omega | (simp; omega))).trans (by assumption))) ((go_at_call 33; refine (HM2.out _).mono ?_; rintro e w3 ⟨rfl, b3⟩))
          all_goals
            have hb3 : Below w2.heap.size w2 w3 := ((Below.refl w2.heap.size w2).drew).trans b3
            have c3 := c2.trans (hb3.mono c2.size)
            clear b3 hb3
            go_wp2
            go_roundw
            case rel => exact ⟨j + 1, K + 3, by omega, by go_num, by first | go_num | (congr 1; omega), (by have := hK.out; show K + 3 = k0 + 3 * (j + 1); omega), c3⟩
            case measure => simp [intOf]; omega
    · have hjn : j = n := by omega
      subst hjn
      have hKK : K = k0 + 3 * j := hK.out
      subst hKK
      go_wp2
      go_ret
      exact ⟨rfl, hbe⟩
end Go.Proofs.YtkgdmlfdlkmojaaGreat
namespace Go.Proofs.YtkgdmlfdlkmojaaGreat
open Go.RowKit M
set_option linter.unusedVariables false

/-- The marks from k on. -/
def marks (k n : Nat) : List ByteArray := (List.range n).map fun q => mt (k + q)
theorem marks_length (k n : Nat) : (marks k n).length = n := by simp [marks]
theorem marks_at (k n j : Nat) (h : j < n) : (marks k n)[j]'(by rw [marks_length]; exact h) = mt (k + j) := by simp [marks]

end Go.Proofs.YtkgdmlfdlkmojaaGreat
namespace Go.Proofs.YtkgdmlfdlkmojaaGreat
open Go.RowKit M
set_option linter.unusedVariables false

theorem RowS.turn {w w' : World} {g : Nat} {ms : List ByteArray} {S : Nat → Prop} (h : RowS w g ms) (t : Turn S w w') (hS : ¬ S g) : RowS w' g ms := by
  refine ⟨Nat.lt_of_lt_of_le h.1 t.size, fun j hj => ?_⟩
  rw [t.cell h.1 hS, t.frozen h.1 hS]
  exact h.2 j hj

set_option maxHeartbeats 1000000 in
theorem markStringS_from (g n cap k0 : Nat) (ms : List ByteArray) (hn : ms.length = n) (hl : n ≤ 1048576) (hk1 : 1 ≤ k0) (hk0 : k0 + n ≤ 50000000) (w : World) (h : RowS w g ms) :
    Calls Tryz.prog 16 #[.slice (some ⟨g, 0, none⟩) n cap, .int .i64 k0] w fun e w' => e = .returned (.int .i64 ((k0 : Int) + n)) ∧ RowS w' g (marks k0 n) ∧ Turn (· = g) w w' := by
  go_enter Tryz.func16, Tryz.ntmps16
  go_wp2
  go_loopw [1, 5] (fun kv i wr => ∃ (j : Nat) (qs : List ByteArray), j ≤ n ∧ i = .int .i64 j ∧ kv = .int .i64 ((k0 : Int) + j) ∧ qs.length = n ∧ (∀ q (hq : q < qs.length), q < j → qs[q] = mt (k0 + q)) ∧ RowS wr g qs ∧ Turn (· = g) w wr) (fun _ i _ => n - (intOf i).toNat)
  case atStart => exact ⟨0, ms, Nat.zero_le _, rfl, by simp, hn, fun q hq h => absurd h (Nat.not_lt_zero _), h, Turn.refl _ _⟩
  case round =>
    obtain ⟨j, qs, hj, rfl, rfl, hql, hqm, hR, hbe⟩ := hrel
    have HQ : Hid (∀ q (hq : q < qs.length), q < j → qs[q] = mt (k0 + q)) := hqm
    clear hqm
    by_cases hlt : j < n
    · have hM := markText_any (k0 + j) (by omega) (by omega) wr
      have eJ : ((k0 + j : Nat) : Int) = (k0 : Int) + (j : Int) := by omega
      rw [eJ] at hM
      go_wp2_with fail
      refine hM.mono ?_
      rintro e w1 ⟨rfl, b1⟩
      have hR1 := hR.below b1
      have hj' : j < qs.length := by omega
      have hcn := (hR1.2 j hj').1
      have hfn := (hR1.2 j hj').2
      have HR2 := hide (hR1.set j hj' (mt (k0 + j)))
      have HT := hide ((hbe.trans (Turn.of_below b1)).trans (Turn.set (S := (· = g)) w1 ⟨g, j, none⟩ (.string (mt (k0 + j))) rfl))
      have HQL := hide hql
      have hg1 := hR.1
      clear hql
      go_wp2
      go_roundw
      case rel =>
        refine ⟨j + 1, qs.set j (mt (k0 + j)), by omega, by go_num, ?_, by rw [List.length_set]; exact HQL.out, ?_, HR2.out, HT.out⟩
        · first | go_num | (congr 1; omega)
        · intro q hq hqj
          by_cases e : j = q
          · subst e; simp
          · rw [List.getElem_set_ne e]
            exact HQ.out q (by simpa using hq) (by omega)
      case measure => simp [intOf]; omega
    · have hjn : j = n := by omega
      have HE := hide (show qs = marks k0 n by
        apply List.ext_getElem
        · rw [hql, marks_length]
        · intro q h1 h2
          rw [HQ.out q h1 (by omega), marks_at k0 n q (by omega)])
      subst hjn
      go_wp2
      go_ret
      exact ⟨rfl, by rw [← HE.out]; exact hR, hbe⟩

set_option maxHeartbeats 2000000 in
set_option maxRecDepth 100000 in
theorem heldStringS_from (g n cap k0 : Nat) (hl : n ≤ 1048576) (hk1 : 1 ≤ k0) (hk0 : k0 + n ≤ 50000000) (w : World) (h : RowS w g (marks k0 n)) :
    Calls Tryz.prog 35 #[.slice (some ⟨g, 0, none⟩) n cap, .int .i64 k0] w fun e w' => e = .returned (.int .i64 ((k0 : Int) + n)) ∧ Below w.heap.size w w' := by
  go_enter Tryz.func35, Tryz.ntmps35
  go_wp2
  go_loopw [1, 5] (fun kv i wr => ∃ (j : Nat), j ≤ n ∧ i = .int .i64 j ∧ kv = .int .i64 ((k0 : Int) + j) ∧ Below w.heap.size w wr) (fun _ i _ => n - (intOf i).toNat)
  case atStart => exact ⟨0, Nat.zero_le _, rfl, by simp, Below.refl _ _⟩
  case round =>
    obtain ⟨j, hj, rfl, rfl, hbe⟩ := hrel
    by_cases hlt : j < n
    · have hM := fun w => markText_any (k0 + j) (by omega) (by omega) w
      have eJ : ((k0 + j : Nat) : Int) = (k0 : Int) + (j : Int) := by omega
      rw [eJ] at hM
      have HM : Hid _ := hM
      clear hM
      have hR := h.below hbe
      have hcx := (hR.2 j (by rw [marks_length]; exact hlt)).1
      rw [marks_at k0 n j hlt] at hcx
      have hg1 := hR.1
      have hi0 : (0 : Int) ≤ (j : Int) := by omega
      have hi1 : (j : Int) < (n : Int) := by omega
      go_wp2
      go_region_held3 (fun w' => w'.cell? ⟨g, j, none⟩ = some (.string (mt (k0 + j)))) (first | go_keep | (exact (b1.cell (p := ⟨g, j, none⟩) (by first | omega | (simp; omega))).trans (by assumption))) ((go_at_call 33; refine (HM.out _).mono ?_; rintro e w1 ⟨rfl, b1⟩))
      all_goals
        have hb1 : Below wr.heap.size wr w1 := ((Below.refl wr.heap.size wr).drew).trans b1
        go_wp2
        go_roundw
        case rel => exact ⟨j + 1, by omega, by go_num, by first | go_num | (congr 1; omega), hbe.trans (hb1.mono hbe.size)⟩
        case measure => simp [intOf]; omega
    · have hjn : j = n := by omega
      subst hjn
      go_wp2
      go_ret
      exact ⟨rfl, hbe⟩
end Go.Proofs.YtkgdmlfdlkmojaaGreat
namespace Go.Proofs.YtkgdmlfdlkmojaaGreat
open Go.RowKit M
set_option linter.unusedVariables false

/-- How many marks a thing takes. -/
def cntR (r : Rs) : Nat := r.pa.length + 3 + 3 * r.ps.length
/-- What is marked true of this number. -/
def coM (k : Nat) : Bool := (k : Int) % 3 == 0

/-- A row of things, the first i of them marked: thing j from K j on. -/
structure MixR (w : World) (lo hi g : Nat) (rs : List Rs) (pb qb K : Nat → Nat) (i : Nat) : Prop where
  gl : lo ≤ g
  gh : g < hi
  gs : g < w.heap.size
  fz : ∀ o, w.frozen? ⟨g, o, none⟩ = false
  sl : ∀ j (hj : j < rs.length), w.cell? ⟨g, j * 5, none⟩ = some (.slice (some ⟨pb j, 0, none⟩) rs[j].pa.length rs[j].pa.length) ∧ w.cell? ⟨g, j * 5 + 4, none⟩ = some (.slice (some ⟨qb j, 0, none⟩) rs[j].ps.length rs[j].ps.length)
  ex : ∀ j (hj : j < rs.length), ∃ v1 v2 v3, w.cell? ⟨g, j * 5 + 1, none⟩ = some v1 ∧ w.cell? ⟨g, j * 5 + 2, none⟩ = some v2 ∧ w.cell? ⟨g, j * 5 + 3, none⟩ = some v3
  bnd : ∀ j, j < rs.length → lo ≤ pb j ∧ pb j < qb j ∧ qb j < hi ∧ pb j ≠ g ∧ qb j ≠ g
  ord : ∀ i j, i < j → j < rs.length → pb i ≠ pb j ∧ pb i ≠ qb j ∧ qb i ≠ pb j ∧ qb i ≠ qb j
  rp : ∀ j (hj : j < rs.length), j < i → RowS w (pb j) (marks (K j) rs[j].pa.length) ∧ MarkP w (qb j) rs[j].ps.length (K j + rs[j].pa.length + 3) ∧ w.cell? ⟨g, j * 5 + 1, none⟩ = some (.bool (coM (K j + rs[j].pa.length))) ∧ w.cell? ⟨g, j * 5 + 2, none⟩ = some (.string (mt (K j + rs[j].pa.length + 1))) ∧ w.cell? ⟨g, j * 5 + 3, none⟩ = some (.int .i64 (((K j + rs[j].pa.length : Nat) : Int) + 1 + 1))
  rq : ∀ j (hj : j < rs.length), i ≤ j → RowS w (pb j) rs[j].pa ∧ RowP w (qb j) rs[j].ps

theorem OwnR.mix {w : World} {lo hi g : Nat} {rs : List Rs} {pb qb : Nat → Nat} (h : OwnR w lo hi g rs pb qb) (K : Nat → Nat) : MixR w lo hi g rs pb qb K 0 :=
  ⟨h.gl, h.gh, h.gs, h.fz, fun j hj => ⟨(h.cl j hj).1, (h.cl j hj).2.2.2.2⟩, fun j hj => ⟨_, _, _, (h.cl j hj).2.1, (h.cl j hj).2.2.1, (h.cl j hj).2.2.2.1⟩, h.bnd, h.ord, fun j _ hj => absurd hj (Nat.not_lt_zero _), fun j hj _ => ⟨h.rp j hj, h.rq j hj⟩⟩

theorem cell_of_heap {w w' : World} {b : Nat} (e : w'.heap[b]? = w.heap[b]?) (o : Nat) : w'.cell? ⟨b, o, none⟩ = w.cell? ⟨b, o, none⟩ := by simp only [World.cell?, e]
theorem frozen_of_heap {w w' : World} {b : Nat} (e : w'.heap[b]? = w.heap[b]?) (o : Nat) : w'.frozen? ⟨b, o, none⟩ = w.frozen? ⟨b, o, none⟩ := by simp only [World.frozen?, e]
theorem RowS.heap {w w' : World} {b : Nat} {l : List ByteArray} (h : RowS w b l) (hz : w.heap.size ≤ w'.heap.size) (e : w'.heap[b]? = w.heap[b]?) : RowS w' b l :=
  ⟨Nat.lt_of_lt_of_le h.1 hz, fun j hj => by rw [cell_of_heap e, frozen_of_heap e]; exact h.2 j hj⟩
theorem RowP.heap {w w' : World} {b : Nat} {l : List Pp} (h : RowP w b l) (hz : w.heap.size ≤ w'.heap.size) (e : w'.heap[b]? = w.heap[b]?) : RowP w' b l :=
  h.of (Nat.lt_of_lt_of_le h.1 hz) (fun o => cell_of_heap e o) (fun o => frozen_of_heap e o)
theorem CellsP.heap {w w' : World} {b n : Nat} {F : Nat → Value} (h : CellsP w b n F) (hz : w.heap.size ≤ w'.heap.size) (e : w'.heap[b]? = w.heap[b]?) : CellsP w' b n F :=
  h.of (Nat.lt_of_lt_of_le h.1 hz) (fun o => cell_of_heap e o) (fun o => frozen_of_heap e o)

/-- All that keeps the blocks from lo to hi keeps it. -/
theorem MixR.heap {w w' : World} {lo hi g : Nat} {rs : List Rs} {pb qb K : Nat → Nat} {i : Nat} (h : MixR w lo hi g rs pb qb K i) (hz : w.heap.size ≤ w'.heap.size) (e : ∀ b, lo ≤ b → b < hi → b < w.heap.size → w'.heap[b]? = w.heap[b]?) : MixR w' lo hi g rs pb qb K i := by
  have eg := e g h.gl h.gh h.gs
  refine ⟨h.gl, h.gh, Nat.lt_of_lt_of_le h.gs hz, fun o => by rw [frozen_of_heap eg]; exact h.fz o, fun j hj => by simp only [cell_of_heap eg]; exact h.sl j hj, fun j hj => by simp only [cell_of_heap eg]; exact h.ex j hj, h.bnd, h.ord, fun j hj hji => ?_, fun j hj hji => ?_⟩
  · obtain ⟨h1, h2, h3⟩ := h.rp j hj hji
    obtain ⟨b1, b2, b3, _, _⟩ := h.bnd j hj
    simp only [cell_of_heap eg]
    exact ⟨h1.heap hz (e _ b1 (by omega) h1.1), CellsP.heap h2 hz (e _ (by omega) b3 h2.1), h3⟩
  · obtain ⟨h1, h2⟩ := h.rq j hj hji
    obtain ⟨b1, b2, b3, _, _⟩ := h.bnd j hj
    exact ⟨h1.heap hz (e _ b1 (by omega) h1.1), h2.heap hz (e _ (by omega) b3 h2.1)⟩
theorem MixR.below {w w' : World} {lo hi g : Nat} {rs : List Rs} {pb qb K : Nat → Nat} {i : Nat} (h : MixR w lo hi g rs pb qb K i) (hb : Below w.heap.size w w') : MixR w' lo hi g rs pb qb K i :=
  h.heap hb.size (fun b _ _ hz => hb.block b hz)
theorem MixR.turn {w w' : World} {lo hi g : Nat} {rs : List Rs} {pb qb K : Nat → Nat} {i : Nat} {S : Nat → Prop} (h : MixR w lo hi g rs pb qb K i) (t : Turn S w w') (hS : ∀ x, lo ≤ x → x < hi → ¬ S x) : MixR w' lo hi g rs pb qb K i :=
  h.heap t.size (fun b h1 h2 hz => t.block b hz (hS b h1 h2))
theorem OwnR.turn {w w' : World} {lo hi g : Nat} {rs : List Rs} {pb qb : Nat → Nat} {S : Nat → Prop} (h : OwnR w lo hi g rs pb qb) (t : Turn S w w') (hS : ∀ x, lo ≤ x → x < hi → ¬ S x) : OwnR w' lo hi g rs pb qb :=
  h.of t.size (fun b o h1 h2 hz => t.cell hz (hS b h1 h2) o) (fun b o h1 h2 hz => t.frozen hz (hS b h1 h2) o)

/-- One thing marked: its path, its three cells, what is known of it. -/
theorem MixR.round {w w1 w3 w6 : World} {lo hi g : Nat} {rs : List Rs} {pb qb K : Nat → Nat} {i : Nat} (h : MixR w lo hi g rs pb qb K i) (hi' : i < rs.length)
    (r1 : RowS w1 (pb i) (marks (K i) rs[i].pa.length)) (t1 : Turn (· = pb i) w w1)
    (b3 : Below (w1.setCell ⟨g, i * 5 + 1, none⟩ (.bool (coM (K i + rs[i].pa.length)))).heap.size (w1.setCell ⟨g, i * 5 + 1, none⟩ (.bool (coM (K i + rs[i].pa.length)))) w3)
    (r6 : MarkP w6 (qb i) rs[i].ps.length (K i + rs[i].pa.length + 3)) (t6 : Turn (· = qb i) ((w3.setCell ⟨g, i * 5 + 2, none⟩ (.string (mt (K i + rs[i].pa.length + 1)))).setCell ⟨g, i * 5 + 3, none⟩ (.int .i64 (((K i + rs[i].pa.length : Nat) : Int) + 1 + 1))) w6) :
    MixR w6 lo hi g rs pb qb K (i + 1) ∧ Turn (fun x => lo ≤ x ∧ x < hi) w w6 := by
  obtain ⟨b1, b2, b3', bg, bq⟩ := h.bnd i hi'
  have hgs := h.gs
  have z1 := t1.size
  have z3 : w1.heap.size ≤ w3.heap.size := by have := b3.size; simpa using this
  have z6 : w3.heap.size ≤ w6.heap.size := by have := t6.size; simpa using this
  -- the block g's cells
  have e1 : ∀ o, w1.cell? ⟨g, o, none⟩ = w.cell? ⟨g, o, none⟩ := fun o => t1.cell hgs (fun e => bg e.symm) o
  have f1 : ∀ o, w1.frozen? ⟨g, o, none⟩ = w.frozen? ⟨g, o, none⟩ := fun o => t1.frozen hgs (fun e => bg e.symm) o
  have e3 : ∀ o, w3.cell? ⟨g, o, none⟩ = (w1.setCell ⟨g, i * 5 + 1, none⟩ (.bool (coM (K i + rs[i].pa.length)))).cell? ⟨g, o, none⟩ := fun o => b3.cell (p := ⟨g, o, none⟩) (by simp; omega)
  have f3 : ∀ o, w3.frozen? ⟨g, o, none⟩ = w1.frozen? ⟨g, o, none⟩ := fun o => (b3.frozen (p := ⟨g, o, none⟩) (by simp; omega)).trans (World.frozen?_setCell _ _ _ _)
  have e6 : ∀ o, w6.cell? ⟨g, o, none⟩ = ((w3.setCell ⟨g, i * 5 + 2, none⟩ (.string (mt (K i + rs[i].pa.length + 1)))).setCell ⟨g, i * 5 + 3, none⟩ (.int .i64 (((K i + rs[i].pa.length : Nat) : Int) + 1 + 1))).cell? ⟨g, o, none⟩ := fun o => t6.cell (by simp; omega) (fun e => bq e.symm) o
  have f6 : ∀ o, w6.frozen? ⟨g, o, none⟩ = w3.frozen? ⟨g, o, none⟩ := fun o => (t6.frozen (by simp; omega) (fun e => bq e.symm) o).trans ((World.frozen?_setCell _ _ _ _).trans (World.frozen?_setCell _ _ _ _))
  have far : ∀ (W : World) (o p : Nat) (v : Value), o ≠ p → (W.setCell ⟨g, p, none⟩ v).cell? ⟨g, o, none⟩ = W.cell? ⟨g, o, none⟩ := fun W o p v hne => World.cell?_setCell_other _ _ _ _ (fun e => hne (congrArg Addr.off e).symm)
  have oth : ∀ o, o ≠ i * 5 + 1 → o ≠ i * 5 + 2 → o ≠ i * 5 + 3 → w6.cell? ⟨g, o, none⟩ = w.cell? ⟨g, o, none⟩ := fun o n1 n2 n3 => by
    rw [e6, far _ _ _ _ n3, far _ _ _ _ n2, e3, far _ _ _ _ n1, e1]
  obtain ⟨v1, v2, v3, x1, x2, x3⟩ := h.ex i hi'
  have c1 : w6.cell? ⟨g, i * 5 + 1, none⟩ = some (.bool (coM (K i + rs[i].pa.length))) := by
    rw [e6, far _ _ _ _ (by omega), far _ _ _ _ (by omega), e3]
    exact World.cell?_setCell_same _ _ _ ((e1 _).trans x1)
  have c2 : w6.cell? ⟨g, i * 5 + 2, none⟩ = some (.string (mt (K i + rs[i].pa.length + 1))) := by
    rw [e6, far _ _ _ _ (by omega)]
    exact World.cell?_setCell_same _ _ _ (show w3.cell? ⟨g, i * 5 + 2, none⟩ = some v2 by rw [e3, far _ _ _ _ (by omega), e1]; exact x2)
  have c3 : w6.cell? ⟨g, i * 5 + 3, none⟩ = some (.int .i64 (((K i + rs[i].pa.length : Nat) : Int) + 1 + 1)) := by
    rw [e6]
    exact World.cell?_setCell_same _ _ _ (show (w3.setCell ⟨g, i * 5 + 2, none⟩ (.string (mt (K i + rs[i].pa.length + 1)))).cell? ⟨g, i * 5 + 3, none⟩ = some v3 by rw [far _ _ _ _ (by omega), e3, far _ _ _ _ (by omega), e1]; exact x3)
  -- other blocks
  have hp : ∀ b, b < w.heap.size → b ≠ g → b ≠ pb i → b ≠ qb i → w6.heap[b]? = w.heap[b]? := fun b hb n1 n2 n3 => by
    rw [t6.block b (by simp; omega) n3, Below.heap_setCell _ _ _ _ n1, Below.heap_setCell _ _ _ _ n1, b3.block b (by simp; omega), Below.heap_setCell _ _ _ _ n1, t1.block b hb n2]
  have hpi : w6.heap[pb i]? = w1.heap[pb i]? := by
    have := r1.1
    rw [t6.block (pb i) (by simp; omega) (by omega), Below.heap_setCell _ _ _ _ bg, Below.heap_setCell _ _ _ _ bg, b3.block (pb i) (by simp; omega), Below.heap_setCell _ _ _ _ bg]
  refine ⟨⟨h.gl, h.gh, by omega, fun o => by rw [f6, f3, f1]; exact h.fz o, fun j hj => ?_, fun j hj => ?_, h.bnd, h.ord, fun j hj hji => ?_, fun j hj hji => ?_⟩, ?_⟩
  · rw [oth _ (by omega) (by omega) (by omega), oth _ (by omega) (by omega) (by omega)]
    exact h.sl j hj
  · by_cases e : j = i
    · subst e; exact ⟨_, _, _, c1, c2, c3⟩
    · rw [oth _ (by omega) (by omega) (by omega), oth _ (by omega) (by omega) (by omega), oth _ (by omega) (by omega) (by omega)]
      exact h.ex j hj
  · by_cases e : j = i
    · subst e
      exact ⟨r1.heap (by omega) hpi, r6, c1, c2, c3⟩
    · obtain ⟨h1, h2, h3⟩ := h.rp j hj (by omega)
      have hlt : j < i := by omega
      have o1 := h.ord j i hlt hi'
      obtain ⟨d1, d2, d3, d4, d5⟩ := h.bnd j hj
      rw [oth _ (by omega) (by omega) (by omega), oth _ (by omega) (by omega) (by omega), oth _ (by omega) (by omega) (by omega)]
      exact ⟨h1.heap (by omega) (hp _ h1.1 d4 (by omega) (by omega)), CellsP.heap h2 (by omega) (hp _ h2.1 d5 (by omega) (by omega)), h3⟩
  · obtain ⟨h1, h2⟩ := h.rq j hj (by omega)
    have o1 := h.ord i j (by omega) hj
    obtain ⟨d1, d2, d3, d4, d5⟩ := h.bnd j hj
    exact ⟨h1.heap (by omega) (hp _ h1.1 d4 (by omega) (by omega)), h2.heap (by omega) (hp _ h2.1 d5 (by omega) (by omega))⟩
  · have hgl := h.gl
    have hgh := h.gh
    exact ⟨t6.os.trans (b3.os.trans t1.os), t6.tape.trans (b3.tape.trans t1.tape), t6.output.trans (b3.output.trans t1.output), by omega, fun b hb hS => hp b hb (fun e => hS (by subst e; exact ⟨hgl, hgh⟩)) (fun e => hS (by subst e; exact ⟨b1, by omega⟩)) (fun e => hS (by subst e; exact ⟨by omega, b3'⟩))⟩
end Go.Proofs.YtkgdmlfdlkmojaaGreat
namespace Go.Proofs.YtkgdmlfdlkmojaaGreat
open Go.RowKit M
set_option linter.unusedVariables false

/-- Where the marks of thing j begin. -/
def kAt (k0 : Nat) (rs : List Rs) (j : Nat) : Nat := k0 + ((rs.take j).map cntR).sum
theorem kAt_next (k0 : Nat) (rs : List Rs) (j : Nat) (hj : j < rs.length) : kAt k0 rs (j + 1) = kAt k0 rs j + rs[j].pa.length + 3 + 3 * rs[j].ps.length := by
  unfold kAt
  rw [List.take_succ_eq_append_getElem hj, List.map_append, List.sum_append]
  simp only [List.map_cons, List.map_nil, List.sum_cons, List.sum_nil, cntR]
  omega
theorem kAt_mono (k0 : Nat) (rs : List Rs) (j : Nat) (hj : j ≤ rs.length) : k0 ≤ kAt k0 rs j ∧ kAt k0 rs j ≤ k0 + (rs.map cntR).sum := by
  unfold kAt
  have h : ((rs.take j).map cntR).sum + ((rs.drop j).map cntR).sum = (rs.map cntR).sum := by
    rw [← List.sum_append, ← List.map_append, List.take_append_drop]
  omega
theorem cnt_sum (rs : List Rs) : (rs.map cntR).sum ≤ 3 * (rs.length + sumR rs) := by
  induction rs with
  | nil => simp
  | cons r l ih =>
    have h1 : sumR (r :: l) = szR r + sumR l := by simp [sumR]
    have h2 : szR r = r.pa.length + sumL r.pa + r.bo.size + (r.ps.length + sumP r.ps) := rfl
    have h3 : cntR r = r.pa.length + 3 + 3 * r.ps.length := rfl
    rw [h1, List.map_cons, List.sum_cons, List.length_cons]
    omega

set_option maxRecDepth 100000 in
set_option maxHeartbeats 4000000 in
theorem markResS_from (lo hi g cap k0 : Nat) (rs : List Rs) (pb qb : Nat → Nat) (hsz : rs.length + sumR rs ≤ 1048576) (hk1 : 1 ≤ k0) (hk0 : k0 ≤ 10000000) (w : World) (h : OwnR w lo hi g rs pb qb) :
    Calls Tryz.prog 15 #[.slice (some ⟨g, 0, none⟩) rs.length cap, .int .i64 k0] w fun e w' => e = .returned (.int .i64 ((kAt k0 rs rs.length : Nat) : Int)) ∧ MixR w' lo hi g rs pb qb (kAt k0 rs) rs.length ∧ Turn (fun x => lo ≤ x ∧ x < hi) w w' := by
  have hl : rs.length ≤ 1048576 := by omega
  have HC := hide (cnt_sum rs)
  have HSZ := hide hsz
  have h0 := h.mix (kAt k0 rs)
  have hg0 : kAt k0 rs 0 = k0 := by simp [kAt]
  clear hsz h
  go_enter Tryz.func15, Tryz.ntmps15
  go_wp2
  go_loopw [1, 5] (fun kv i wr => ∃ (j : Nat), j ≤ rs.length ∧ i = .int .i64 j ∧ kv = .int .i64 ((kAt k0 rs j : Nat) : Int) ∧ MixR wr lo hi g rs pb qb (kAt k0 rs) j ∧ Turn (fun x => lo ≤ x ∧ x < hi) w wr) (fun _ i _ => rs.length - (intOf i).toNat)
  case atStart => exact ⟨0, Nat.zero_le _, rfl, by rw [hg0], h0, Turn.refl _ _⟩
  case round =>
    obtain ⟨j, hj, rfl, rfl, hR, hbe⟩ := hrel
    by_cases hlt : j < rs.length
    · have HN := hide (kAt_next k0 rs j hlt)
      have hb1 := kAt_mono k0 rs j hj
      have hb2 := kAt_mono k0 rs (j + 1) hlt
      have hm := sumR_mem rs _ (List.getElem_mem hlt)
      have hr2 : szR rs[j] = (rs[j]).pa.length + sumL (rs[j]).pa + (rs[j]).bo.size + ((rs[j]).ps.length + sumP (rs[j]).ps) := rfl
      have hkb : kAt k0 rs j + rs[j].pa.length + 3 + 3 * rs[j].ps.length ≤ 20000000 ∧ 1 ≤ kAt k0 rs j := by have := HC.out; have := HSZ.out; have := HN.out; omega
      have hlp : rs[j].pa.length ≤ 1048576 ∧ rs[j].ps.length ≤ 1048576 := by have := HSZ.out; omega
      clear hb1 hb2 hm hr2
      have HR := hide hR
      obtain ⟨hs0, hs4⟩ := hR.sl j hlt
      obtain ⟨v1, v2, v3, x1, x2, x3⟩ := hR.ex j hlt
      obtain ⟨rp, rq⟩ := hR.rq j hlt (Nat.le_refl _)
      obtain ⟨bd1, bd2, bd3, bd4, bd5⟩ := hR.bnd j hlt
      have hgs := hR.gs
      have hfz := hR.fz
      obtain ⟨FQ, rq⟩ := rq.cellsP
      have hM := markStringS_from (pb j) rs[j].pa.length rs[j].pa.length (kAt k0 rs j) rs[j].pa rfl hlp.1 hkb.2 (by omega) wr rp
      obtain ⟨M, hMM⟩ : ∃ M : Nat, M = kAt k0 rs j + rs[j].pa.length := ⟨_, rfl⟩
      have eM : ((kAt k0 rs j : Nat) : Int) + (rs[j].pa.length : Int) = (M : Int) := by omega
      rw [eM] at hM
      have hT := fun W => markText_any (M + 1) (by omega) (by omega) W
      have e1 : ((M + 1 : Nat) : Int) = (M : Int) + 1 := by omega
      rw [e1] at hT
      have HMM := hide hMM
      have HM := hide hM
      have HT := hide hT
      have hP := fun W F (hW : CellsP W (qb j) rs[j].ps.length F) => markPropS_from (qb j) rs[j].ps.length rs[j].ps.length (M + 3) F hlp.2 (by omega) (by omega) W hW
      have e3 : ((M + 3 : Nat) : Int) = (M : Int) + 1 + 1 + 1 := by omega
      simp only [e3] at hP
      have HP := hide hP
      have HK := hide hkb
      clear hMM eM hM hT e1 rp hkb hR hP e3
      have hMb : M ≤ 30000000 := by have := HMM.out; have := HK.out; omega
      go_wp2_with fail
      refine HM.out.mono ?_
      rintro e w1 ⟨rfl, r1, t1⟩
      have y1 := (t1.cell hgs (fun e => bd4 e.symm) (j * 5 + 1)).trans x1
      have y2 := (t1.cell hgs (fun e => bd4 e.symm) (j * 5 + 2)).trans x2
      have y3 := (t1.cell hgs (fun e => bd4 e.symm) (j * 5 + 3)).trans x3
      have y4 := (t1.cell hgs (fun e => bd4 e.symm) (j * 5 + 4)).trans hs4
      have z1 : ∀ o, w1.frozen? ⟨g, o, none⟩ = false := fun o => (t1.frozen hgs (fun e => bd4 e.symm) o).trans (hfz o)
      have q1 := rq.heap t1.size (t1.block _ rq.1 (by omega))
      have hg1 : g < w1.heap.size := Nat.lt_of_lt_of_le hgs t1.size
      clear hs0 hs4 x1 x2 x3 rq
      go_wp2_with fail
      refine (HT.out _).mono ?_
      rintro e w3 ⟨rfl, b3⟩
      have B3 : Below (w1.setCell ⟨g, j * 5 + 1, none⟩ (.bool (coM M))).heap.size (w1.setCell ⟨g, j * 5 + 1, none⟩ (.bool (coM M))) w3 := b3
      have hg2 : g < (w1.setCell ⟨g, j * 5 + 1, none⟩ (.bool (coM M))).heap.size := by simpa using hg1
      have hq2 : qb j < (w1.setCell ⟨g, j * 5 + 1, none⟩ (.bool (coM M))).heap.size := by simpa using q1.1
      have far : ∀ (W : World) (o p : Nat) (v : Value), o ≠ p → (W.setCell ⟨g, p, none⟩ v).cell? ⟨g, o, none⟩ = W.cell? ⟨g, o, none⟩ := fun W o p v hne => World.cell?_setCell_other _ _ _ _ (fun e => hne (congrArg Addr.off e).symm)
      have u2 : w3.cell? ⟨g, j * 5 + 2, none⟩ = some v2 := by rw [B3.cell (p := ⟨g, j * 5 + 2, none⟩) hg2, far _ _ _ _ (by omega)]; exact y2
      have u3 : w3.cell? ⟨g, j * 5 + 3, none⟩ = some v3 := by rw [B3.cell (p := ⟨g, j * 5 + 3, none⟩) hg2, far _ _ _ _ (by omega)]; exact y3
      have u4 : w3.cell? ⟨g, j * 5 + 4, none⟩ = some (.slice (some ⟨qb j, 0, none⟩) rs[j].ps.length rs[j].ps.length) := by rw [B3.cell (p := ⟨g, j * 5 + 4, none⟩) hg2, far _ _ _ _ (by omega)]; exact y4
      have z3 : ∀ o, w3.frozen? ⟨g, o, none⟩ = false := fun o => by rw [B3.frozen (p := ⟨g, o, none⟩) hg2, World.frozen?_setCell]; exact z1 o
      have q3 : CellsP w3 (qb j) rs[j].ps.length FQ := (q1.heap (w' := w1.setCell ⟨g, j * 5 + 1, none⟩ (.bool (coM M))) (by simp) (Below.heap_setCell _ _ _ _ bd5)).below B3
      have q5 : CellsP ((w3.setCell ⟨g, j * 5 + 2, none⟩ (.string (mt (M + 1)))).setCell ⟨g, j * 5 + 3, none⟩ (.int .i64 ((M : Int) + 1 + 1))) (qb j) rs[j].ps.length FQ := (q3.heap (w' := w3.setCell ⟨g, j * 5 + 2, none⟩ (.string (mt (M + 1)))) (by simp) (Below.heap_setCell _ _ _ _ bd5)).heap (by simp) (Below.heap_setCell _ _ _ _ bd5)
      have HB3 := hide B3
      have HQ5 := hide q5
      have R1 := hide r1
      have T1 := hide t1
      clear y1 y2 y3 y4 z1 q1 q3 q5 far b3 B3 hg2 hq2 r1 t1 HM HT
      go_wp2_with fail
      refine (HP.out _ FQ HQ5.out).mono ?_
      rintro e w6 ⟨rfl, r6, t6⟩
      have R6 := hide r6
      have T6 := hide t6
      clear r6 t6 u2 u3 u4 z3 HP HQ5
      have hfin : Hid (MixR w6 lo hi g rs pb qb (kAt k0 rs) (j + 1) ∧ Turn (fun x => lo ≤ x ∧ x < hi) wr w6) ∧ Hid ((M + 3 + 3 * rs[j].ps.length : Nat) = kAt k0 rs (j + 1)) := by
        have hMM := HMM.out
        subst hMM
        exact ⟨HR.out.round hlt R1.out T1.out HB3.out R6.out T6.out, HN.out.symm⟩
      obtain ⟨hf1, hf2⟩ := hfin
      clear R1 T1 HB3 R6 T6 HR HMM
      go_wp2
      go_roundw
      case rel => exact ⟨j + 1, by omega, by go_num, (by rw [← hf2.out]; first | rfl | (congr 1; omega)), hf1.out.1, hbe.trans hf1.out.2⟩
      case measure => simp [intOf]; omega
    · have hjn : j = rs.length := by omega
      subst hjn
      go_wp2
      go_ret
      exact ⟨rfl, hR, hbe⟩
end Go.Proofs.YtkgdmlfdlkmojaaGreat
namespace Go.Proofs.YtkgdmlfdlkmojaaGreat
open Go.RowKit M
set_option linter.unusedVariables false

set_option maxRecDepth 100000 in
set_option maxHeartbeats 4000000 in
theorem heldResS_from (lo hi g cap k0 : Nat) (rs : List Rs) (pb qb : Nat → Nat) (hsz : rs.length + sumR rs ≤ 1048576) (hk1 : 1 ≤ k0) (hk0 : k0 ≤ 10000000) (w : World) (h : MixR w lo hi g rs pb qb (kAt k0 rs) rs.length) :
    Calls Tryz.prog 18 #[.slice (some ⟨g, 0, none⟩) rs.length cap, .int .i64 k0] w fun e w' => e = .returned (.int .i64 ((kAt k0 rs rs.length : Nat) : Int)) ∧ Below w.heap.size w w' := by
  have hl : rs.length ≤ 1048576 := by omega
  have HC := hide (cnt_sum rs)
  have HSZ := hide hsz
  have hg0 : kAt k0 rs 0 = k0 := by simp [kAt]
  clear hsz
  go_enter Tryz.func18, Tryz.ntmps18
  go_wp2
  go_loopw [1, 5] (fun kv i wr => ∃ (j : Nat), j ≤ rs.length ∧ i = .int .i64 j ∧ kv = .int .i64 ((kAt k0 rs j : Nat) : Int) ∧ Below w.heap.size w wr) (fun _ i _ => rs.length - (intOf i).toNat)
  case atStart => exact ⟨0, Nat.zero_le _, rfl, by rw [hg0], Below.refl _ _⟩
  case round =>
    obtain ⟨j, hj, rfl, rfl, hbe⟩ := hrel
    by_cases hlt : j < rs.length
    · have HN := hide (kAt_next k0 rs j hlt)
      have hb1 := kAt_mono k0 rs j hj
      have hb2 := kAt_mono k0 rs (j + 1) hlt
      have hm := sumR_mem rs _ (List.getElem_mem hlt)
      have hr2 : szR rs[j] = (rs[j]).pa.length + sumL (rs[j]).pa + (rs[j]).bo.size + ((rs[j]).ps.length + sumP (rs[j]).ps) := rfl
      have hkb : kAt k0 rs j + rs[j].pa.length + 3 + 3 * rs[j].ps.length ≤ 20000000 ∧ 1 ≤ kAt k0 rs j := by have := HC.out; have := HSZ.out; have := HN.out; omega
      have hlp : rs[j].pa.length ≤ 1048576 ∧ rs[j].ps.length ≤ 1048576 := by have := HSZ.out; omega
      clear hb1 hb2 hm hr2
      have hR := h.below hbe
      obtain ⟨hs0, hs4⟩ := hR.sl j hlt
      obtain ⟨rp, rq, x1, x2, x3⟩ := hR.rp j hlt hlt
      have hgs := hR.gs
      have hM := heldStringS_from (pb j) rs[j].pa.length rs[j].pa.length (kAt k0 rs j) hlp.1 hkb.2 (by omega) wr rp
      obtain ⟨M, hMM⟩ : ∃ M : Nat, M = kAt k0 rs j + rs[j].pa.length := ⟨_, rfl⟩
      have eM : ((kAt k0 rs j : Nat) : Int) + (rs[j].pa.length : Int) = (M : Int) := by omega
      rw [eM] at hM
      rw [← hMM] at x1 x2 x3 rq
      have hT := fun W => markText_any (M + 1) (by omega) (by omega) W
      have e1 : ((M + 1 : Nat) : Int) = (M : Int) + 1 := by omega
      rw [e1] at hT
      have hP := fun W (hW : MarkP W (qb j) rs[j].ps.length (M + 3)) => heldPropS_from (qb j) rs[j].ps.length rs[j].ps.length (M + 3) hlp.2 (by omega) (by omega) W hW
      have e3 : ((M + 3 : Nat) : Int) = (M : Int) + 1 + 1 + 1 := by omega
      simp only [e3] at hP
      have HMM := hide hMM
      have HM := hide hM
      have HT := hide hT
      have HP := hide hP
      have HQ := hide rq
      have hMb : M ≤ 30000000 := by omega
      have HK2 := hide (show (M + 3 + 3 * rs[j].ps.length : Nat) = kAt k0 rs (j + 1) by rw [HN.out, hMM])
      have x1' : wr.cell? ⟨g, j * 5 + 1, none⟩ = some (.bool ((M : Int) % 3 == 0)) := x1
      have hM3 : (M + 3 + 3 * rs[j].ps.length : Nat) ≤ 30000000 := by omega
      clear hMM eM hM hT e1 hP e3 rp rq hkb hR x1
      go_wp2_with fail
      refine HM.out.mono ?_
      rintro e w1 ⟨rfl, b1⟩
      have y1 := (b1.cell (p := ⟨g, j * 5 + 1, none⟩) hgs).trans x1'
      have y2 := (b1.cell (p := ⟨g, j * 5 + 2, none⟩) hgs).trans x2
      have y3 := (b1.cell (p := ⟨g, j * 5 + 3, none⟩) hgs).trans x3
      have y4 := (b1.cell (p := ⟨g, j * 5 + 4, none⟩) hgs).trans hs4
      have hg1 : g < w1.heap.size := Nat.lt_of_lt_of_le hgs b1.size
      have Q1 := hide (CellsP.below HQ.out b1)
      have c1 := hbe.trans (b1.mono hbe.size)
      clear x1' x2 x3 hs0 hs4 b1 HM HQ
      have hi0 : (0 : Int) ≤ (j : Int) := by omega
      have hi1 : (j : Int) < (rs.length : Int) := by omega
      go_wp2
      go_region_held3 (fun w' => w'.cell? ⟨g, j * 5 + 2, none⟩ = some (.string (mt (M + 1)))) (first | go_keep | (exact (b3.cell (p := ⟨g, j * 5 + 2, none⟩) (by first | omega | (simp; omega))).trans (by assumption))) ((go_at_call 33; refine (HT.out _).mono ?_; rintro e w3 ⟨rfl, b3⟩))
      all_goals
        have hb3 : Below w1.heap.size w1 w3 := ((Below.refl w1.heap.size w1).drew).trans b3
        have u3 := (hb3.cell (p := ⟨g, j * 5 + 3, none⟩) hg1).trans y3
        have u4 := (hb3.cell (p := ⟨g, j * 5 + 4, none⟩) hg1).trans y4
        have Q3 := hide (CellsP.below Q1.out hb3)
        have c3 := c1.trans (hb3.mono c1.size)
        clear b3 hb3 y1 y2 y3 y4
        go_wp2_with fail
        refine (HP.out w3 Q3.out).mono ?_
        rintro e w6 ⟨rfl, b6⟩
        have c6 := c3.trans (b6.mono c3.size)
        clear b6 u3 u4
        go_wp2
        go_roundw
        case rel => exact ⟨j + 1, by omega, by go_num, (by rw [← HK2.out]; first | rfl | (congr 1; omega)), c6⟩
        case measure => simp [intOf]; omega
    · have hjn : j = rs.length := by omega
      subst hjn
      go_wp2
      go_ret
      exact ⟨rfl, hbe⟩
end Go.Proofs.YtkgdmlfdlkmojaaGreat
namespace Go.Proofs.YtkgdmlfdlkmojaaGreat
open M

/-- Put in its place, in the place of one of its path; d: whether it is put already. -/
def putR (r : Rs) : Bool → List Rs → List Rs
  | true, [] => []
  | false, [] => [r]
  | d, x :: l => (if d || lessL x.pa r.pa then [] else [r]) ++ ((if sameL x.pa r.pa then [] else [x]) ++ putR r (d || !lessL x.pa r.pa) l)

theorem putR_nil (r : Rs) (d : Bool) : putR r d [] = if d then [] else [r] := by cases d <;> rfl
theorem putR_cons (r : Rs) (d : Bool) (x : Rs) (l : List Rs) : putR r d (x :: l) = (if d || lessL x.pa r.pa then [] else [r]) ++ ((if sameL x.pa r.pa then [] else [x]) ++ putR r (d || !lessL x.pa r.pa) l) := by
  cases d <;> rfl
/-- All but what has its path. -/
def notAt (r : Rs) (l : List Rs) : List Rs := l.filter fun x => !sameL x.pa r.pa
theorem notAt_mem {r : Rs} {l : List Rs} {y : Rs} : y ∈ notAt r l ↔ y ∈ l ∧ y.pa ≠ r.pa := by
  unfold notAt sameL
  rw [List.mem_filter]
  simp
theorem putR_true (r : Rs) : ∀ l : List Rs, putR r true l = notAt r l
  | [] => rfl
  | x :: l => by
    rw [putR_cons, Bool.true_or, Bool.true_or, putR_true r l]
    unfold notAt
    rw [List.filter_cons]
    cases sameL x.pa r.pa <;> simp
theorem putR_less {r x : Rs} {l : List Rs} (h : lessL x.pa r.pa = true) : putR r false (x :: l) = x :: putR r false l := by
  have hs : sameL x.pa r.pa = false := by
    unfold sameL
    rw [decide_eq_false_iff_not]
    intro e
    rw [e, lessL_irr] at h
    cases h
  rw [putR_cons, h, hs]
  simp
theorem putR_here {r x : Rs} {l : List Rs} (h : lessL x.pa r.pa = false) : putR r false (x :: l) = r :: notAt r (x :: l) := by
  rw [putR_cons, h]
  have e : (false || !false) = true := rfl
  rw [e, putR_true]
  unfold notAt
  rw [List.filter_cons]
  cases sameL x.pa r.pa <;> simp
theorem putR_mem {r : Rs} : ∀ {l : List Rs} {y : Rs}, y ∈ putR r false l ↔ y = r ∨ (y ∈ l ∧ y.pa ≠ r.pa)
  | [], y => by simp [putR]
  | x :: l, y => by
    cases h : lessL x.pa r.pa
    · rw [putR_here h, List.mem_cons, notAt_mem]
    · rw [putR_less h, List.mem_cons, putR_mem (l := l)]
      have hs : x.pa ≠ r.pa := fun e => by rw [e, lessL_irr] at h; cases h
      constructor
      · rintro (rfl | h1 | h1)
        · exact .inr ⟨List.mem_cons_self .., hs⟩
        · exact .inl h1
        · exact .inr ⟨List.mem_cons_of_mem _ h1.1, h1.2⟩
      · rintro (h1 | ⟨h1, h2⟩)
        · exact .inr (.inl h1)
        · rcases List.mem_cons.1 h1 with rfl | h1
          · exact .inl rfl
          · exact .inr (.inr ⟨h1, h2⟩)

theorem lessL_tri : ∀ a b : List ByteArray, lessL a b = false → lessL b a = false → a = b
  | [], [], _, _ => rfl
  | [], _ :: _, h, _ => by simp [lessL] at h
  | _ :: _, [], _, h => by simp [lessL] at h
  | x :: a, y :: b, h, h' => by
    rw [lessL] at h h'
    by_cases e : x = y
    · subst e
      rw [if_pos rfl] at h h'
      rw [lessL_tri a b h h']
    · rw [if_neg e] at h
      rw [if_neg (fun e' => e e'.symm)] at h'
      exact absurd (str_inj (bytesLess_tri _ _ h h')) e

/-- Ascending, one against all behind it. -/
def Asc (l : List Rs) : Prop := l.Pairwise fun a b => lessL a.pa b.pa = true
theorem asc_of {l : List Rs} (h : ascB lessR l = true) : Asc l := by
  unfold Asc
  rw [List.pairwise_iff_getElem]
  intro i j hi hj hij
  obtain ⟨d, rfl⟩ : ∃ d, j = i + d + 1 := ⟨j - i - 1, by omega⟩
  exact asc_pair h d i hj
theorem asc_to {l : List Rs} (h : Asc l) : ascB lessR l = true := by
  refine ascB_all lessR l fun i hi => ?_
  unfold Asc at h
  rw [List.pairwise_iff_getElem] at h
  exact h i (i + 1) (by omega) hi (Nat.lt_succ_self _)
theorem Asc.put {r : Rs} : ∀ {l : List Rs}, Asc l → Asc (putR r false l)
  | [], _ => by simp [putR, Asc]
  | x :: l, h => by
    have h1 : Asc l := (List.pairwise_cons.1 h).2
    have h2 := (List.pairwise_cons.1 h).1
    cases e : lessL x.pa r.pa
    · rw [putR_here e]
      refine List.pairwise_cons.2 ⟨fun y hy => ?_, List.Pairwise.filter _ h⟩
      obtain ⟨hm, hne⟩ := notAt_mem.1 hy
      have hx : x.pa = r.pa ∨ lessL r.pa x.pa = true := by
        cases e2 : lessL r.pa x.pa
        · exact .inl (lessL_tri _ _ e e2)
        · exact .inr rfl
      rcases List.mem_cons.1 hm with rfl | hm
      · rcases hx with hx | hx
        · exact absurd hx hne
        · exact hx
      · have := h2 y hm
        rcases hx with hx | hx
        · rw [← hx]; exact this
        · exact lessL_trans _ _ _ hx this
    · rw [putR_less e]
      refine List.pairwise_cons.2 ⟨fun y hy => ?_, Asc.put h1⟩
      rcases putR_mem.1 hy with rfl | ⟨hm, _⟩
      · exact e
      · exact h2 y hm
theorem Asc.find {l : List Rs} (h : Asc l) {r : Rs} (hm : r ∈ l) {p : List ByteArray} (hp : r.pa = p) : l.find? (isAt p) = some r := by
  induction l with
  | nil => cases hm
  | cons x l ih =>
    rcases List.mem_cons.1 hm with rfl | hm'
    · rw [List.find?_cons_of_pos (by unfold isAt; rw [hp]; exact sameL_refl _)]
    · have h2 := (List.pairwise_cons.1 h).1 r hm'
      have hne : isAt p x = false := by
        unfold isAt sameL
        rw [decide_eq_false_iff_not]
        intro e
        rw [e, hp, lessL_irr] at h2
        cases h2
      rw [List.find?_cons_of_neg (by simp [hne])]
      exact ih (List.pairwise_cons.1 h).2 hm'
/-- Of a list that ascends: a shelf that is there, or the root. -/
theorem coll_iff {l : List Rs} (h : Asc l) (p : List ByteArray) : collB l p = true ↔ p.length = 0 ∨ ∃ r ∈ l, r.pa = p ∧ r.co = true := by
  unfold collB
  rw [Bool.or_eq_true, decide_eq_true_eq]
  constructor
  · rintro (h1 | h1)
    · exact .inl h1
    · cases e : l.find? (isAt p) with
      | none => rw [e] at h1; cases h1
      | some r =>
        rw [e] at h1
        refine .inr ⟨r, List.mem_of_find?_eq_some e, ?_, h1⟩
        have := List.find?_some e
        unfold isAt sameL at this
        exact of_decide_eq_true this
  · rintro (h1 | ⟨r, hm, hp, hc⟩)
    · exact .inl h1
    · right
      rw [h.find hm hp]
      exact hc
/-- What is put among right things, on a shelf that is there, in no shelf's place: they stay right. -/
theorem tree_put {l : List Rs} {r : Rs} (h : treeB l = true) (hr : resB r = true) (hon : collB l (aboveL r.pa) = true) (hno : ∀ x ∈ l, x.pa = r.pa → x.co = false) (hlen : (putR r false l).length ≤ 12) : treeB (putR r false l) = true := by
  unfold treeB at h
  simp only [Bool.and_eq_true, decide_eq_true_eq, List.all_eq_true] at h
  obtain ⟨_, h2, h3, h4⟩ := h
  have ha := asc_of h3
  have hp := ha.put (r := r)
  unfold treeB
  simp only [Bool.and_eq_true, decide_eq_true_eq, List.all_eq_true]
  have keep : ∀ p, collB l p = true → collB (putR r false l) p = true := fun p hc => by
    rw [coll_iff ha] at hc
    rw [coll_iff hp]
    rcases hc with hc | ⟨s, hm, he, hs⟩
    · exact .inl hc
    · refine .inr ⟨s, putR_mem.2 (.inr ⟨hm, fun e => ?_⟩), he, hs⟩
      rw [hno s hm e] at hs
      cases hs
  refine ⟨hlen, fun y hy => ?_, asc_to hp, fun y hy => ?_⟩
  · rcases putR_mem.1 hy with rfl | ⟨hm, _⟩
    · exact hr
    · exact h2 y hm
  · rcases putR_mem.1 hy with rfl | ⟨hm, _⟩
    · exact keep _ hon
    · exact keep _ (h4 y hm)
end Go.Proofs.YtkgdmlfdlkmojaaGreat
namespace Go.Proofs.YtkgdmlfdlkmojaaGreat
open M

/-- Why shelves cannot be turned; 0: they can. -/
def mayI (rs : List Rs) (p : List ByteArray) (v : Int) : Int := if treeB rs = false then 500 else if pathB p = false then 400 else if inB v 0 99999 = false then 507 else 0
theorem mayI_500 {rs : List Rs} {p : List ByteArray} {v : Int} (h : treeB rs = false) : mayI rs p v = 500 := by unfold mayI; rw [if_pos h]
theorem mayI_400 {rs : List Rs} {p : List ByteArray} {v : Int} (h : treeB rs = true) (h1 : pathB p = false) : mayI rs p v = 400 := by unfold mayI; rw [if_neg (by simp [h]), if_pos h1]
theorem mayI_507 {rs : List Rs} {p : List ByteArray} {v : Int} (h : treeB rs = true) (h1 : pathB p = true) (h2 : inB v 0 99999 = false) : mayI rs p v = 507 := by unfold mayI; rw [if_neg (by simp [h]), if_neg (by simp [h1]), if_pos h2]
theorem mayI_0 {rs : List Rs} {p : List ByteArray} {v : Int} (h : treeB rs = true) (h1 : pathB p = true) (h2 : inB v 0 99999 = true) : mayI rs p v = 0 := by unfold mayI; rw [if_neg (by simp [h]), if_neg (by simp [h1]), if_neg (by simp [h2])]
theorem mayI_ok {rs : List Rs} {p : List ByteArray} {v : Int} (h : mayI rs p v = 0) : treeB rs = true ∧ pathB p = true ∧ inB v 0 99999 = true := by
  cases h1 : treeB rs
  · rw [mayI_500 h1] at h; cases h
  · cases h2 : pathB p
    · rw [mayI_400 h1 h2] at h; cases h
    · cases h3 : inB v 0 99999
      · rw [mayI_507 h1 h2 h3] at h; cases h
      · exact ⟨rfl, rfl, rfl⟩


theorem notAt_len {r : Rs} {l : List Rs} : (notAt r l).length ≤ l.length := List.length_filter_le _ _
theorem notAt_less {r : Rs} {l : List Rs} (h : ∃ x ∈ l, x.pa = r.pa) : (notAt r l).length < l.length := by
  obtain ⟨x, hm, he⟩ := h
  unfold notAt
  refine List.length_filter_lt_length_iff_exists.2 ⟨x, hm, ?_⟩
  rw [he, sameL_refl]
  simp
theorem putR_len {r : Rs} : ∀ {l : List Rs}, (putR r false l).length = (notAt r l).length + 1
  | [] => rfl
  | x :: l => by
    cases h : lessL x.pa r.pa
    · rw [putR_here h, List.length_cons]
    · have hs : sameL x.pa r.pa = false := by
        unfold sameL
        rw [decide_eq_false_iff_not]
        intro e
        rw [e, lessL_irr] at h
        cases h
      rw [putR_less h, List.length_cons, putR_len (l := l)]
      unfold notAt
      rw [List.filter_cons, hs]
      simp
theorem not_there {rs : List Rs} {p : List ByteArray} (h : findI rs p < 0) : ∀ x ∈ rs, x.pa ≠ p := fun x hx e => by
  have h1 : 0 ≤ findI rs p := by
    rcases findI_cases rs p with e2 | ⟨k, hk, e2, _⟩
    · exfalso
      unfold findI at e2
      by_cases hlt : rs.findIdx (isAt p) < rs.length
      · rw [if_pos hlt] at e2; omega
      · exact hlt (List.findIdx_lt_length_of_exists ⟨_, hx, by unfold isAt; rw [e]; exact sameL_refl _⟩)
    · rw [e2]; omega
  omega

/-- What MakeColl says, and answers. -/
def collI (rs : List Rs) (p : List ByteArray) (v : Int) : Int := if mayI rs p v ≠ 0 then mayI rs p v else if p.length = 0 ∨ 0 ≤ findI rs p then 405 else if collB rs (aboveL p) = false then 409 else if 12 ≤ rs.length then 507 else 0
def shelfR (p : List ByteArray) (v : Int) : Rs := ⟨p, true, ByteArray.empty, v, []⟩
def makeR (rs : List Rs) (p : List ByteArray) (v : Int) : List Rs := if collI rs p v = 0 then putR (shelfR p v) false rs else rs
theorem make_tree {rs : List Rs} {p : List ByteArray} {v : Int} (h : treeB rs = true) : treeB (makeR rs p v) = true := by
  unfold makeR
  by_cases hc : collI rs p v = 0
  · rw [if_pos hc]
    unfold collI at hc
    by_cases h1 : mayI rs p v = 0
    · rw [if_neg (by simp [h1])] at hc
      by_cases h2 : p.length = 0 ∨ 0 ≤ findI rs p
      · rw [if_pos h2] at hc; cases hc
      · rw [if_neg h2] at hc
        cases h3 : collB rs (aboveL p)
        · rw [if_pos h3] at hc; cases hc
        · rw [if_neg (by simp [h3])] at hc
          by_cases h4 : 12 ≤ rs.length
          · rw [if_pos h4] at hc; cases hc
          · obtain ⟨_, hp, hv⟩ := mayI_ok h1
            have hne : ∀ x ∈ rs, x.pa ≠ p := not_there (by omega)
            refine tree_put h ?_ h3 (fun x hx e => absurd e (hne x hx)) ?_
            · have h0 : 0 < p.length := by omega
              unfold resB shelfR
              simp [h0, hp, hv, propsB, ascB]
            · rw [putR_len]
              have := notAt_len (r := shelfR p v) (l := rs)
              omega
    · rw [if_pos h1] at hc; exact absurd hc h1
  · rw [if_neg hc]; exact h

/-- What PutFile says, and answers. -/
def fileI (rs : List Rs) (p : List ByteArray) (bo : ByteArray) (v : Int) : Int := if mayI rs p v ≠ 0 then mayI rs p v else if collB rs p = true then 405 else if collB rs (aboveL p) = false then 409 else if 200 < bo.size then 413 else if findI rs p < 0 ∧ 12 ≤ rs.length then 507 else 0
/-- What is known of the one that was there. -/
def oldPs (rs : List Rs) (p : List ByteArray) : List Pp := match rs.find? (isAt p) with | none => [] | some r => r.ps
def fileR (rs : List Rs) (p : List ByteArray) (bo : ByteArray) (v : Int) : Rs := ⟨p, false, bo, v, oldPs rs p⟩
def putFR (rs : List Rs) (p : List ByteArray) (bo : ByteArray) (v : Int) : List Rs := if fileI rs p bo v = 0 then putR (fileR rs p bo v) false rs else rs
theorem put_tree {rs : List Rs} {p : List ByteArray} {bo : ByteArray} {v : Int} (h : treeB rs = true) : treeB (putFR rs p bo v) = true := by
  unfold putFR
  by_cases hc : fileI rs p bo v = 0
  · rw [if_pos hc]
    unfold fileI at hc
    by_cases h1 : mayI rs p v = 0
    · rw [if_neg (by simp [h1])] at hc
      cases h2 : collB rs p
      · rw [if_neg (by simp [h2])] at hc
        cases h3 : collB rs (aboveL p)
        · rw [if_pos h3] at hc; cases hc
        · rw [if_neg (by simp [h3])] at hc
          by_cases h4 : 200 < bo.size
          · rw [if_pos h4] at hc; cases hc
          · rw [if_neg h4] at hc
            by_cases h5 : findI rs p < 0 ∧ 12 ≤ rs.length
            · rw [if_pos h5] at hc; cases hc
            · obtain ⟨_, hp, hv⟩ := mayI_ok h1
              have h' := h
              unfold treeB at h'
              simp only [Bool.and_eq_true, decide_eq_true_eq, List.all_eq_true] at h'
              obtain ⟨t1, t2, t3, _⟩ := h'
              have ha := asc_of t3
              have h0 : 0 < p.length := by
                refine Nat.pos_of_ne_zero fun e => ?_
                rw [collB_root e] at h2
                cases h2
              have hno : ∀ x ∈ rs, x.pa = p → x.co = false := fun x hx e => by
                cases e2 : x.co
                · rfl
                · have : collB rs p = true := (coll_iff ha p).2 (.inr ⟨x, hx, e, e2⟩)
                  rw [h2] at this
                  cases this
              have hold : propsB (oldPs rs p) = true := by
                unfold oldPs
                cases e : rs.find? (isAt p) with
                | none => simp [propsB, ascB]
                | some x =>
                  have := t2 x (List.mem_of_find?_eq_some e)
                  unfold resB at this
                  simp only [Bool.and_eq_true] at this
                  exact this.2.2.2.2.2
              refine tree_put h ?_ h3 hno ?_
              · unfold resB fileR
                simp [h0, hp, hv, hold]
                omega
              · rw [putR_len]
                by_cases e : findI rs p < 0
                · have := notAt_len (r := fileR rs p bo v) (l := rs)
                  omega
                · rcases findI_cases rs p with e2 | ⟨k, hk, e2, hs⟩
                  · omega
                  · have := notAt_less (r := fileR rs p bo v) (l := rs) ⟨rs[k], List.getElem_mem hk, by unfold sameL at hs; exact of_decide_eq_true hs⟩
                    omega
      · rw [if_pos h2] at hc; cases hc
    · rw [if_pos h1] at hc; exact absurd hc h1
  · rw [if_neg hc]; exact h
end Go.Proofs.YtkgdmlfdlkmojaaGreat
namespace Go.Proofs.YtkgdmlfdlkmojaaGreat

/-- Whether the first list stands under the second. -/
def underB (ss tt : List ByteArray) : Bool := decide (tt.length < ss.length) && sameL (ss.take tt.length) tt

end Go.Proofs.YtkgdmlfdlkmojaaGreat
namespace Go.Proofs.YtkgdmlfdlkmojaaGreat
open M

def kidB (p : List ByteArray) (r : Rs) : Bool := decide (r.pa.length = p.length + 1) && underB r.pa p
def kidsL (rs : List Rs) (p : List ByteArray) : List (List ByteArray) := (rs.filter (kidB p)).map (·.pa)
def deepB (p : List ByteArray) (r : Rs) : Bool := sameL r.pa p || underB r.pa p
def deepL (rs : List Rs) (p : List ByteArray) : List Rs := rs.filter (deepB p)

theorem filter_yes {q : Rs → Bool} {rs : List Rs} {k : Nat} (hk : k < rs.length) (h : q rs[k] = true) : (rs.take (k + 1)).filter q = (rs.take k).filter q ++ [rs[k]] := by
  rw [List.take_succ_eq_append_getElem hk, List.filter_append]; simp [h]
theorem filter_no {q : Rs → Bool} {rs : List Rs} {k : Nat} (hk : k < rs.length) (h : q rs[k] = false) : (rs.take (k + 1)).filter q = (rs.take k).filter q := by
  rw [List.take_succ_eq_append_getElem hk, List.filter_append]; simp [h]
theorem filter_end {q : Rs → Bool} {rs : List Rs} {k : Nat} (hk : ¬ k < rs.length) : (rs.take k).filter q = rs.filter q := by rw [List.take_of_length_le (by omega)]
theorem filter_len {q : Rs → Bool} (rs : List Rs) (k : Nat) : ((rs.take k).filter q).length ≤ rs.length := by
  have h1 := List.length_filter_le q (rs.take k)
  rw [List.length_take] at h1
  omega
end Go.Proofs.YtkgdmlfdlkmojaaGreat
namespace Go.Proofs.YtkgdmlfdlkmojaaGreat
open M

theorem kid_above {p : List ByteArray} {r : Rs} (h : kidB p r = true) : aboveL r.pa = p := by
  unfold kidB underB at h
  simp only [Bool.and_eq_true, decide_eq_true_eq] at h
  obtain ⟨h1, _, h3⟩ := h
  unfold sameL at h3
  unfold aboveL
  rw [h1, Nat.add_sub_cancel]
  exact of_decide_eq_true h3
theorem kids_mem {rs : List Rs} {p s : List ByteArray} (h : s ∈ kidsL rs p) : ∃ r ∈ rs, r.pa = s ∧ kidB p r = true := by
  unfold kidsL at h
  obtain ⟨r, hr, rfl⟩ := List.mem_map.1 h
  obtain ⟨h1, h2⟩ := List.mem_filter.1 hr
  exact ⟨r, h1, rfl, h2⟩
theorem kids_above {rs : List Rs} {p s : List ByteArray} (h : s ∈ kidsL rs p) : aboveL s = p := by
  obtain ⟨r, _, rfl, hk⟩ := kids_mem h
  exact kid_above hk
theorem findI_there {rs : List Rs} {r : Rs} (h : r ∈ rs) : 0 ≤ findI rs r.pa := by
  rcases findI_cases rs r.pa with e | ⟨k, hk, e, _⟩
  · exfalso
    unfold findI at e
    by_cases hlt : rs.findIdx (isAt r.pa) < rs.length
    · rw [if_pos hlt] at e; omega
    · exact hlt (List.findIdx_lt_length_of_exists ⟨_, h, by unfold isAt; exact sameL_refl _⟩)
  · rw [e]; omega
theorem kids_found {rs : List Rs} {p s : List ByteArray} (h : s ∈ kidsL rs p) : 0 ≤ findI rs s := by
  obtain ⟨r, hr, rfl, _⟩ := kids_mem h
  exact findI_there hr
theorem kids_asc {rs : List Rs} (h : Asc rs) (p : List ByteArray) : (kidsL rs p).Pairwise fun a b => lessL a b = true := by
  unfold kidsL
  rw [List.pairwise_map]
  exact List.Pairwise.filter _ h
theorem kids_next {rs : List Rs} (h : Asc rs) (p : List ByteArray) (i : Nat) (hi : i + 1 < (kidsL rs p).length) : lessL (kidsL rs p)[i] (kidsL rs p)[i + 1] = true := by
  have := kids_asc h p
  rw [List.pairwise_iff_getElem] at this
  exact this i (i + 1) (by omega) hi (Nat.lt_succ_self _)
/-- As many as are deep there of one name more. -/
theorem kids_count (rs : List Rs) (p : List ByteArray) : (kidsL rs p).length = ((deepL rs p).filter fun r => decide (r.pa.length = p.length + 1)).length := by
  unfold kidsL deepL
  rw [List.length_map, List.filter_filter]
  congr 1
  refine List.filter_congr fun r _ => ?_
  unfold kidB deepB
  by_cases h : r.pa.length = p.length + 1
  · have hs : sameL r.pa p = false := sameL_len (by omega)
    simp [h, hs]
  · simp [h]
theorem kids_shelf {rs : List Rs} (h : treeB rs = true) {p s : List ByteArray} (hk : s ∈ kidsL rs p) : collB rs p = true := by
  obtain ⟨r, hr, _, hb⟩ := kids_mem hk
  unfold treeB at h
  simp only [Bool.and_eq_true, decide_eq_true_eq, List.all_eq_true] at h
  have := h.2.2.2 r hr
  unfold onB at this
  rw [kid_above hb] at this
  exact this
theorem tree_asc {rs : List Rs} (h : treeB rs = true) : Asc rs := by
  unfold treeB at h
  simp only [Bool.and_eq_true, decide_eq_true_eq, List.all_eq_true] at h
  exact asc_of h.2.2.1
end Go.Proofs.YtkgdmlfdlkmojaaGreat
