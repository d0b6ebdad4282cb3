/-
  Rows of heads that may be written, and what the laws' own helps do that mark them.
-/
import Derived.Test.YthcaedgegmnopaaDoorHeads
import Derived.Test.YthcaedgegmnopaaDoorMarkText
namespace Go.Proofs.YthcaedgegmnopaaDoor
open Go.RowKit M
set_option linter.unusedVariables false

/-- A row of heads in block g, none of them frozen. -/
def RowH (w : World) (g : Nat) (hs : List Hd) : Prop := g < w.heap.size ∧ ∀ j (hj : j < hs.length), w.cell? ⟨g, j * 2, none⟩ = some (.string hs[j].1) ∧ w.cell? ⟨g, j * 2 + 1, none⟩ = some (.string hs[j].2) ∧ w.frozen? ⟨g, j * 2, none⟩ = false ∧ w.frozen? ⟨g, j * 2 + 1, none⟩ = false
theorem RowH.hds {w : World} {g C : Nat} {hs : List Hd} (h : RowH w g hs) (hC : g < C) : Hds w C (some ⟨g, 0, none⟩) hs := fun _ => ⟨g, 0, rfl, hC, fun j hj => by rw [Nat.zero_add]; exact ⟨(h.2 j hj).1, (h.2 j hj).2.1⟩⟩
theorem RowH.of {w w' : World} {g : Nat} {hs : List Hd} (h : RowH w g hs) (hs' : w.heap.size ≤ w'.heap.size) (hb : w'.heap[g]? = w.heap[g]?) : RowH w' g hs := by
  have hc : ∀ o, w'.cell? ⟨g, o, none⟩ = w.cell? ⟨g, o, none⟩ := fun o => World.cell?_of_block (a := ⟨g, o, none⟩) hb
  have hf : ∀ o, w'.frozen? ⟨g, o, none⟩ = w.frozen? ⟨g, o, none⟩ := fun o => World.frozen?_of_block (a := ⟨g, o, none⟩) hb
  exact ⟨Nat.lt_of_lt_of_le h.1 hs', fun j hj => by rw [hc, hc, hf, hf]; exact h.2 j hj⟩
theorem RowH.next {w w' : World} {g : Nat} {hs : List Hd} (h : RowH w g hs) (hb : Below w.heap.size w w') : RowH w' g hs := h.of hb.size (hb.block g h.1)
theorem RowH.store {w : World} {g : Nat} {hs : List Hd} (h : RowH w g hs) (p : Addr) (v : Value) (hp : p.block ≠ g) : RowH (w.setCell p v) g hs := h.of (by simp) (heap_setCell_other w p g v (fun e => hp e.symm))

/-- A row of cells in block g, none of them frozen. -/
def RowC (w : World) (g n : Nat) : Prop := g < w.heap.size ∧ ∀ j, j < n → (∃ v, w.cell? ⟨g, j, none⟩ = some v) ∧ w.frozen? ⟨g, j, none⟩ = false
theorem RowH.row {w : World} {g : Nat} {hs : List Hd} (h : RowH w g hs) : RowC w g (hs.length * 2) := ⟨h.1, fun j hj => by
  have hq := h.2 (j / 2) (by omega)
  have e : j = j / 2 * 2 ∨ j = j / 2 * 2 + 1 := by omega
  rcases e with e | e <;> rw [e]
  · exact ⟨⟨_, hq.1⟩, hq.2.2.1⟩
  · exact ⟨⟨_, hq.2.1⟩, hq.2.2.2⟩⟩
theorem RowC.of {w w' : World} {g n : Nat} (h : RowC w g n) (hs' : w.heap.size ≤ w'.heap.size) (hb : w'.heap[g]? = w.heap[g]?) : RowC w' g n := by
  have hc : ∀ o, w'.cell? ⟨g, o, none⟩ = w.cell? ⟨g, o, none⟩ := fun o => World.cell?_of_block (a := ⟨g, o, none⟩) hb
  have hf : ∀ o, w'.frozen? ⟨g, o, none⟩ = w.frozen? ⟨g, o, none⟩ := fun o => World.frozen?_of_block (a := ⟨g, o, none⟩) hb
  exact ⟨Nat.lt_of_lt_of_le h.1 hs', fun j hj => by rw [hc, hf]; exact h.2 j hj⟩
theorem RowC.set {w : World} {g n : Nat} (h : RowC w g n) (o : Nat) (v : Value) : RowC (w.setCell ⟨g, o, none⟩ v) g n := ⟨by simpa using h.1, fun j hj => by
  obtain ⟨⟨u, hu⟩, hf⟩ := h.2 j hj
  refine ⟨?_, by rw [World.frozen?_setCell]; exact hf⟩
  by_cases e : o = j
  · subst e; exact ⟨v, World.cell?_setCell_same _ _ _ hu⟩
  · exact ⟨u, (World.cell?_setCell_other _ _ _ _ (fun e' => e (congrArg Addr.off e'))).trans hu⟩⟩
theorem grownG_refl (w : World) (g : Nat) : w.grownBy w (some g) := ⟨rfl, rfl, rfl, Nat.le_refl _, fun _ _ _ => rfl⟩
theorem grownG_next {w w1 w2 : World} {g : Nat} (h : w.grownBy w1 (some g)) (hb : Below w1.heap.size w1 w2) : w.grownBy w2 (some g) :=
  ⟨hb.os.trans h.os, hb.tape.trans h.tape, hb.output.trans h.output, Nat.le_trans h.size hb.size, fun k hk hne => (hb.block k (Nat.lt_of_lt_of_le hk h.size)).trans (h.block k hk hne)⟩
theorem grownG_set {w w1 : World} {g : Nat} (h : w.grownBy w1 (some g)) (o : Nat) (v : Value) : w.grownBy (w1.setCell ⟨g, o, none⟩ v) (some g) :=
  ⟨h.os, h.tape, h.output, by simpa using h.size, fun k hk hne => (heap_setCell_other w1 ⟨g, o, none⟩ k v (fun e => hne (by rw [e]))).trans (h.block k hk hne)⟩

set_option maxHeartbeats 2000000 in
theorem markHeadS_any (g n cap : Nat) (w : World) (h : RowC w g (n * 2)) (hn : n ≤ 1048576) :
    Calls Tryd.prog 52 #[.slice (some ⟨g, 0, none⟩) n cap, .int .i64 1] w fun e w' => e = .returned (.int .i64 (1 + (n : Int) * 2)) ∧ w.grownBy w' (some g) := by
  go_enter Tryd.func52, Tryd.ntmps52
  go_wp2
  go_loopw [1, 5] (fun kv i wr => ∃ j q : Nat, j ≤ n ∧ i = .int .i64 j ∧ kv = .int .i64 q ∧ q = 1 + j * 2 ∧ RowC wr g (n * 2) ∧ w.grownBy wr (some g)) (fun _ i _ => n - (intOf i).toNat)
  case atStart => exact ⟨0, 1, Nat.zero_le _, rfl, rfl, rfl, h, grownG_refl _ _⟩
  case round =>
    obtain ⟨j, q, hj, rfl, rfl, hq, hrow, hg⟩ := hrel
    have hq3 : q ≤ 3000000 := by omega
    have hq1 : 1 ≤ q := by omega
    have HQ := hide hq
    clear hq
    by_cases hlt : j < n
    · go_wp2_with fail
      refine (markText_any q hq1 (by omega) wr).mono ?_
      rintro e w1 ⟨rfl, b1⟩
      have hrow1 := hrow.of b1.size (b1.block g hrow.1)
      have g1 := grownG_next hg b1
      obtain ⟨⟨u0, k0⟩, f0⟩ := hrow1.2 (j * 2) (by omega)
      have hrow2 := hrow1.set (j * 2) (.string (mt q))
      have g2 := grownG_set g1 (j * 2) (.string (mt q))
      have H2 := hide hrow2
      have G2 := hide g2
      clear hrow hg b1 hrow1 g1 hrow2 g2
      go_wp2_with fail
      refine (markText_any (q + 1) (by omega) (by omega) _).mono ?_
      rintro e w2 ⟨rfl, b2⟩
      have hrow3 := H2.out.of b2.size (b2.block g H2.out.1)
      have g3 := grownG_next G2.out b2
      obtain ⟨⟨u1, k1⟩, f1⟩ := hrow3.2 (j * 2 + 1) (by omega)
      have hrow4 := hrow3.set (j * 2 + 1) (.string (mt (q + 1)))
      have g4 := grownG_set g3 (j * 2 + 1) (.string (mt (q + 1)))
      have H4 := hide hrow4
      have G4 := hide g4
      clear H2 G2 b2 hrow3 g3 hrow4 g4
      go_wp2
      go_roundw
      case rel => exact ⟨j + 1, q + 1 + 1, by omega, by go_num, by go_num, by have := HQ.out; omega, H4.out, G4.out⟩
      case measure => simp [intOf]; omega
    · go_wp2
      go_ret
      have hjn : j = n := by omega
      subst hjn
      exact ⟨by rw [HQ.out, show ((1 + j * 2 : Nat) : Int) = 1 + (j : Int) * 2 by omega]; rfl, hg⟩

set_option maxHeartbeats 400000 in
theorem markReq_any (g cap : Nat) (r : Rq) (w : World) (h : RowH w g r.hs) (hn : r.hs.length ≤ 1048576) :
    Calls Tryd.prog 22 #[.agg #[.string r.m, .string r.p, .slice (some ⟨g, 0, none⟩) r.hs.length cap, .string r.b], .int .i64 1] w fun e w' => e = .returned (.int .i64 (1 + (r.hs.length : Int) * 2)) ∧ w.grownBy w' (some g) := by
  have hr := (h.of (w' := w.alloc (Obj.cells #[.string r.m, .string r.p, .slice (some ⟨g, 0, none⟩) r.hs.length cap, .string r.b] 42)) (by simp) (((Below.refl w.heap.size w).alloc (Nat.le_refl _) _).block g h.1)).row
  have hM := markHeadS_any g r.hs.length cap _ hr hn
  have hg0 : w.grownBy (w.alloc (Obj.cells #[.string r.m, .string r.p, .slice (some ⟨g, 0, none⟩) r.hs.length cap, .string r.b] 42)) (some g) := grownG_next (grownG_refl w g) ((Below.refl w.heap.size w).alloc (Nat.le_refl _) _)
  have HG0 := hide hg0
  clear hg0 hr
  go_enter Tryd.func22, Tryd.ntmps22
  go_wp2_with fail
  refine hM.mono ?_
  rintro e w1 ⟨rfl, g1⟩
  have G1 := hide g1
  clear hM g1
  go_wp2
  go_ret
  exact ⟨rfl, ⟨G1.out.os.trans HG0.out.os, G1.out.tape.trans HG0.out.tape, G1.out.output.trans HG0.out.output, Nat.le_trans HG0.out.size G1.out.size, fun k hk hne => (G1.out.block k (Nat.lt_of_lt_of_le hk HG0.out.size) hne).trans (HG0.out.block k hk hne)⟩⟩
end Go.Proofs.YthcaedgegmnopaaDoor
