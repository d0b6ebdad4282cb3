/-
  Rows of requests that the call owns: marked by the laws' own help, from whatever number on, and looked at again.
-/
import Derived.Test.YtkhnkockdfmkgabGreatDoorWires
import Derived.Test.YtkhnkockdfmkgabGreatDoorHeldFrom
namespace Go.Proofs.YtkhnkockdfmkgabGreatDoor
open Go.RowKit M
set_option linter.unusedVariables false

/-- The heads of this slice are marked, from k0 on. -/
def HeldF (w : World) (k0 : Nat) (v : Value) (n : Nat) : Prop := (v = .slice none 0 0 ∧ n = 0) ∨ ∃ g c, v = .slice (some ⟨g, 0, none⟩) n c ∧ RowMF w k0 g (n * 2)
theorem HeldF.of {w w' : World} {k0 n : Nat} {v : Value} (h : HeldF w k0 v n) (hs : w.heap.size ≤ w'.heap.size) (hb : ∀ g, v.ownBlock = some g → w'.heap[g]? = w.heap[g]?) : HeldF w' k0 v n := by
  rcases h with h | ⟨g, c, rfl, h⟩
  · exact .inl h
  · exact .inr ⟨g, c, rfl, h.of hs (hb g rfl)⟩
theorem HeldF.lt {w : World} {k0 n : Nat} {v : Value} (h : HeldF w k0 v n) : ∀ g, v.ownBlock = some g → g < w.heap.size := by
  rcases h with ⟨rfl, _⟩ | ⟨g, c, rfl, h⟩
  · intro g hg; cases hg
  · intro k hk
    have : g = k := Option.some.inj hk
    subst this
    exact h.1
/-- The heads of this slice may be written. -/
def OpenV (w : World) (v : Value) (n : Nat) : Prop := (v = .slice none 0 0 ∧ n = 0) ∨ ∃ g c, v = .slice (some ⟨g, 0, none⟩) n c ∧ RowC w g (n * 2)
theorem OpenV.of {w w' : World} {n : Nat} {v : Value} (h : OpenV w v n) (hs : w.heap.size ≤ w'.heap.size) (hb : ∀ g, v.ownBlock = some g → w'.heap[g]? = w.heap[g]?) : OpenV w' v n := by
  rcases h with h | ⟨g, c, rfl, h⟩
  · exact .inl h
  · exact .inr ⟨g, c, rfl, h.of hs (hb g rfl)⟩
theorem OpenV.lt {w : World} {n : Nat} {v : Value} (h : OpenV w v n) : ∀ g, v.ownBlock = some g → g < w.heap.size := by
  rcases h with ⟨rfl, _⟩ | ⟨g, c, rfl, h⟩
  · intro g hg; cases hg
  · intro k hk
    have : g = k := Option.some.inj hk
    subst this
    exact h.1
theorem RowsH.openV {w : World} {B : Nat} {v : Value} {hs : List Hd} (h : RowsH w B v hs) : OpenV w v hs.length := by
  rcases h.2 with ⟨e, h0⟩ | ⟨g, cap, cur, e, hB, hh, h1, h2, h3, h4⟩
  · exact .inl ⟨e, h0⟩
  · refine .inr ⟨g, cap, e, (Array.getElem?_eq_some_iff.1 hh).1, fun j hj => ?_⟩
    have hj2 : j < cur.size := by
      have : hs.length * 2 ≤ cap * 2 := Nat.mul_le_mul_right _ h1
      omega
    refine ⟨⟨cur[j], ?_⟩, ?_⟩
    · unfold World.cell?; rw [hh]; simp [Array.getElem?_eq_getElem hj2]
    · unfold World.frozen?; rw [hh]; simp
theorem markV_from (v : Value) (n k0 : Nat) (hk1 : 1 ≤ k0) (hk2 : k0 ≤ 50000000) (w : World) (h : OpenV w v n) (hn : n ≤ 1048576) :
    Calls Tryz.prog 31 #[v, .int .i64 k0] w fun e w' => e = .returned (.int .i64 ((k0 + n * 2 : Nat) : Int)) ∧ HeldF w' k0 v n ∧ w.grownBy w' v.ownBlock := by
  rcases h with ⟨rfl, rfl⟩ | ⟨g, c, rfl, hr⟩
  · refine (markHeadS_noneF k0 none 0 w).mono ?_
    rintro e w' ⟨rfl, rfl⟩
    exact ⟨rfl, .inl ⟨rfl, rfl⟩, rfl, rfl, rfl, Nat.le_refl _, fun _ _ _ => rfl⟩
  · refine (markHeadS_from k0 g n c hk1 hk2 w hr hn).mono ?_
    rintro e w' ⟨rfl, hm, hg⟩
    exact ⟨rfl, .inr ⟨g, c, rfl, hm⟩, hg⟩
theorem heldV_from (v : Value) (n k0 : Nat) (hk1 : 1 ≤ k0) (hk2 : k0 ≤ 50000000) (w : World) (h : HeldF w k0 v n) (hn : n ≤ 1048576) :
    Calls Tryz.prog 33 #[v, .int .i64 k0] w fun e w' => e = .returned (.int .i64 ((k0 + n * 2 : Nat) : Int)) ∧ Below w.heap.size w w' := by
  rcases h with ⟨rfl, rfl⟩ | ⟨g, c, rfl, hm⟩
  · refine (heldHeadS_noneF k0 none 0 w).mono ?_
    rintro e w' ⟨rfl, rfl⟩
    exact ⟨rfl, Below.refl _ _⟩
  · exact heldHeadS_from k0 g n c hk1 hk2 hn w hm

def marksQ (qs : List Rv) : Nat := (qs.map fun q => 3 + q.1.hs.length * 2).sum
theorem marksQ_snoc (qs : List Rv) (k : Nat) (h : k < qs.length) : marksQ (qs.take (k + 1)) = marksQ (qs.take k) + (3 + qs[k].1.hs.length * 2) := by
  unfold marksQ
  rw [List.take_succ_eq_append_getElem h, List.map_append, List.sum_append]
  simp
theorem marksQ_all (qs : List Rv) (k : Nat) (h : ¬ k < qs.length) : marksQ (qs.take k) = marksQ qs := by rw [List.take_of_length_le (by omega)]
theorem marksQ_le (qs : List Rv) (k : Nat) : marksQ (qs.take k) ≤ marksQ qs := by
  have : marksQ qs = marksQ (qs.take k) + marksQ (qs.drop k) := by
    unfold marksQ
    rw [← List.sum_append, ← List.map_append, List.take_append_drop]
  omega
theorem marksQ_bd (qs : List Rv) (h : ∀ q ∈ qs, q.1.hs.length ≤ 8) : marksQ qs ≤ qs.length * 19 := by
  induction qs with
  | nil => exact Nat.le_refl _
  | cons q r ih =>
    have h1 := h q (by simp)
    have h2 := ih (fun x hx => h x (by simp [hx]))
    simp only [marksQ, List.map_cons, List.sum_cons, List.length_cons] at h2 ⊢
    omega

/-- One request of the row in block g is marked. -/
structure Mk1 (w : World) (k g i : Nat) (q : Rv) : Prop where
  m : w.cell? ⟨g, i * 4, none⟩ = some (.string (mt k))
  p : w.cell? ⟨g, i * 4 + 1, none⟩ = some (.string (mt (k + 1)))
  b : w.cell? ⟨g, i * 4 + 3, none⟩ = some (.string (mt (k + 2 + q.1.hs.length * 2)))
  hs : HeldF w (k + 2) q.2 q.1.hs.length
/-- What was turned is the row in block g, and the heads. -/
structure TurnQ (w w' : World) (g : Nat) (qs : List Rv) : Prop where
  os : w'.os = w.os
  tape : w'.tape = w.tape
  output : w'.output = w.output
  size : w.heap.size ≤ w'.heap.size
  block : ∀ k, k < w.heap.size → k ≠ g → (∀ q ∈ qs, q.2.ownBlock ≠ some k) → w'.heap[k]? = w.heap[k]?
theorem TurnQ.refl (w : World) (g : Nat) (qs : List Rv) : TurnQ w w g qs := ⟨rfl, rfl, rfl, Nat.le_refl _, fun _ _ _ _ => rfl⟩
theorem TurnQ.trans {a b c : World} {g : Nat} {qs : List Rv} (h : TurnQ a b g qs) (k : TurnQ b c g qs) : TurnQ a c g qs :=
  ⟨k.os.trans h.os, k.tape.trans h.tape, k.output.trans h.output, Nat.le_trans h.size k.size, fun i hi h1 h2 => (k.block i (Nat.lt_of_lt_of_le hi h.size) h1 h2).trans (h.block i hi h1 h2)⟩
/-- Each in a block of its own. -/
structure ApartQ (g : Nat) (qs : List Rv) : Prop where
  row : ∀ i (hi : i < qs.length), qs[i].2.ownBlock ≠ some g
  pair : ∀ i j (hi : i < qs.length) (hj : j < qs.length), i ≠ j → ∀ x, qs[i].2.ownBlock = some x → qs[j].2.ownBlock ≠ some x
structure InvQ (w wr : World) (g k0 : Nat) (qs : List Rv) (j t : Nat) : Prop where
  done : ∀ i (hi : i < qs.length), i < j → Mk1 wr (k0 + marksQ (qs.take i)) g i qs[i]
  slot : ∀ i (hi : i < qs.length), wr.cell? ⟨g, i * 4 + 2, none⟩ = some qs[i].2
  row : RowC wr g (qs.length * 4)
  todo : ∀ i (hi : i < qs.length), t ≤ i → OpenV wr qs[i].2 qs[i].1.hs.length
  turn : TurnQ w wr g qs
theorem Mk1.of {w w' : World} {k g i : Nat} {q : Rv} (h : Mk1 w k g i q) (hs : w.heap.size ≤ w'.heap.size) (hc : ∀ o, i * 4 ≤ o → o < i * 4 + 4 → w'.cell? ⟨g, o, none⟩ = w.cell? ⟨g, o, none⟩) (hb : ∀ x, q.2.ownBlock = some x → w'.heap[x]? = w.heap[x]?) : Mk1 w' k g i q :=
  ⟨(hc _ (by omega) (by omega)).trans h.m, (hc _ (by omega) (by omega)).trans h.p, (hc _ (by omega) (by omega)).trans h.b, h.hs.of hs hb⟩
theorem Mk1.next {w w' : World} {k g i : Nat} {q : Rv} (h : Mk1 w k g i q) (hg : g < w.heap.size) (hb : Below w.heap.size w w') : Mk1 w' k g i q :=
  h.of hb.size (fun o _ _ => hb.cell (p := ⟨g, o, none⟩) hg) (fun x hx => hb.block x (h.hs.lt x hx))
section
variable {w wr w' : World} {g k0 : Nat} {qs : List Rv} {j t : Nat}
theorem InvQ.next (h : InvQ w wr g k0 qs j t) (hb : Below wr.heap.size wr w') : InvQ w w' g k0 qs j t :=
  ⟨fun i hi hij => (h.done i hi hij).next h.row.1 hb, fun i hi => (hb.cell (p := ⟨g, i * 4 + 2, none⟩) h.row.1).trans (h.slot i hi), h.row.of hb.size (hb.block g h.row.1), fun i hi hti => (h.todo i hi hti).of hb.size (fun x hx => hb.block x ((h.todo i hi hti).lt x hx)),
    h.turn.trans ⟨hb.os, hb.tape, hb.output, hb.size, fun k hk _ _ => hb.block k hk⟩⟩
theorem InvQ.set (h : InvQ w wr g k0 qs j t) (ha : ApartQ g qs) (o : Nat) (v : Value) (h1 : j * 4 ≤ o) (h2 : o < j * 4 + 4) (h3 : o ≠ j * 4 + 2) : InvQ w (wr.setCell ⟨g, o, none⟩ v) g k0 qs j t := by
  have hz : wr.heap.size ≤ (wr.setCell ⟨g, o, none⟩ v).heap.size := by simp [World.setCell]
  have hbk : ∀ x, x ≠ g → (wr.setCell ⟨g, o, none⟩ v).heap[x]? = wr.heap[x]? := fun x hx => Below.heap_setCell _ _ _ _ hx
  have hc : ∀ o', o' ≠ o → (wr.setCell ⟨g, o, none⟩ v).cell? ⟨g, o', none⟩ = wr.cell? ⟨g, o', none⟩ := fun o' ho => World.cell?_setCell_other _ _ _ _ (fun e => ho (congrArg Addr.off e).symm)
  refine ⟨fun i hi hij => (h.done i hi hij).of hz (fun o' q1 q2 => hc o' (by omega)) (fun x hx => hbk x (fun e => ha.row i hi (by rw [hx, e]))), fun i hi => (hc _ (by omega)).trans (h.slot i hi), h.row.set o v, fun i hi hti => (h.todo i hi hti).of hz (fun x hx => hbk x (fun e => ha.row i hi (by rw [hx, e]))), h.turn.trans ⟨rfl, rfl, rfl, hz, fun k _ hk _ => hbk k hk⟩⟩
theorem InvQ.heads (h : InvQ w wr g k0 qs j t) (ha : ApartQ g qs) (hj : j < qs.length) (hg : wr.grownBy w' qs[j].2.ownBlock) (ht : t ≤ j + 1) : InvQ w w' g k0 qs j (j + 1) := by
  have hbg : w'.heap[g]? = wr.heap[g]? := hg.block g h.row.1 (fun e => ha.row j hj e.symm)
  have hbk : ∀ i (hi : i < qs.length), i ≠ j → ∀ x, qs[i].2.ownBlock = some x → x < wr.heap.size → w'.heap[x]? = wr.heap[x]? := fun i hi hne x hx hlt => hg.block x hlt (fun e => ha.pair i j hi hj hne x hx e.symm)
  refine ⟨fun i hi hij => (h.done i hi hij).of hg.size (fun o _ _ => World.cell?_of_block (a := ⟨g, o, none⟩) hbg) (fun x hx => hbk i hi (by omega) x hx ((h.done i hi hij).hs.lt x hx)), fun i hi => (World.cell?_of_block (a := ⟨g, i * 4 + 2, none⟩) hbg).trans (h.slot i hi), h.row.of hg.size hbg, fun i hi hti => ?_, h.turn.trans ⟨hg.os, hg.tape, hg.output, hg.size, fun k hk _ hq => hg.block k hk (fun e => hq _ (List.getElem_mem hj) e.symm)⟩⟩
  have e : t ≤ i := by omega
  exact (h.todo i hi e).of hg.size (fun x hx => hbk i hi (by omega) x hx ((h.todo i hi e).lt x hx))
end
theorem RowsQ.inv {w : World} {B g cap k0 n : Nat} {qs : List Rv} (h : RowsQ w B (.slice (some ⟨g, 0, none⟩) n cap) qs) : n = qs.length ∧ InvQ w w g k0 qs 0 0 ∧ ApartQ g qs := by
  have hown := h.own
  rcases hown.2 with ⟨e, _⟩ | ⟨g', cap', cur, e, hB, hh, h1, h2, h3, h4⟩
  · cases e
  · cases e
    have hlen := rvCells_length qs
    refine ⟨rfl, ⟨(fun i hi hij => absurd hij (Nat.not_lt_zero _)), fun i hi => ?_, ⟨(Array.getElem?_eq_some_iff.1 hh).1, fun j hj => ?_⟩, fun i hi _ => (h.heads _ (List.getElem_mem hi)).openV, TurnQ.refl _ _ _⟩, fun i hi e => ?_, fun i j hi hj hne x hx hy => ?_⟩
    · rw [hown.cellAt (i * 4 + 2) (by omega)]
      exact (rvCells_at qs i hi).2.2.1
    · have hj2 : j < cur.size := by
        have : qs.length * 4 ≤ cap * 4 := Nat.mul_le_mul_right _ h1
        omega
      refine ⟨⟨cur[j], ?_⟩, ?_⟩
      · unfold World.cell?; rw [hh]; simp [Array.getElem?_eq_getElem hj2]
      · unfold World.frozen?; rw [hh]; simp
    · rcases h.apart _ (List.getElem_mem hi) with h5 | h5
      · rw [e] at h5; cases h5
      · exact h5 e
    · have hp := List.pairwise_iff_getElem.1 h.pair
      rcases Nat.lt_or_gt_of_ne hne with hlt | hgt
      · rcases hp i j hi hj hlt with h5 | h5
        · rw [hx] at h5; cases h5
        · exact h5 (by rw [hx, hy])
      · rcases hp j i hj hi hgt with h5 | h5
        · rw [hy] at h5; cases h5
        · exact h5 (by rw [hx, hy])

set_option maxRecDepth 100000 in
set_option maxHeartbeats 4000000 in
theorem markReqS_from (g cap k0 : Nat) (qs : List Rv) (w : World) (h : InvQ w w g k0 qs 0 0) (ha : ApartQ g qs) (hk1 : 1 ≤ k0) (hk2 : k0 + marksQ qs ≤ 49000000) (hn : qs.length ≤ 4194304) (h8 : ∀ q ∈ qs, q.1.hs.length ≤ 8) :
    Calls Tryz.prog 15 #[.slice (some ⟨g, 0, none⟩) qs.length cap, .int .i64 k0] w fun e w' => e = .returned (.int .i64 ((k0 + marksQ qs : Nat) : Int)) ∧ InvQ w w' g k0 qs qs.length qs.length := by
  have HA := hide ha
  have H8 := hide h8
  have H0 := hide h
  clear h ha h8
  go_enter Tryz.func15, Tryz.ntmps15
  go_wp2
  go_loopw [1, 5] (fun kv i wr => ∃ j q : Nat, j ≤ qs.length ∧ i = .int .i64 j ∧ kv = .int .i64 q ∧ q = k0 + marksQ (qs.take j) ∧ InvQ w wr g k0 qs j j) (fun _ i _ => qs.length - (intOf i).toNat)
  case atStart => exact ⟨0, k0, Nat.zero_le _, rfl, rfl, rfl, H0.out⟩
  case round =>
    obtain ⟨j, q, hj, rfl, rfl, hq, hinv⟩ := hrel
    have hle := marksQ_le qs j
    have hq3 : q ≤ 49000000 := by omega
    have hq1 : 1 ≤ q := by omega
    have HQ := hide hq
    have HI := hide hinv
    clear hq hinv hle
    by_cases hlt : j < qs.length
    · have hh8 := H8.out _ (List.getElem_mem hlt)
      have HS := hide (marksQ_snoc qs j hlt)
      go_wp2_with fail
      refine (markText_any q hq1 (by omega) wr).mono ?_
      rintro e w1 ⟨rfl, b1⟩
      have I1 := hide (HI.out.next b1)
      obtain ⟨⟨u0, c0⟩, f0⟩ := I1.out.row.2 (j * 4) (by omega)
      have P2 := hide (World.cell?_setCell_same w1 ⟨g, j * 4, none⟩ (.string (mt q)) c0)
      have I2 := hide (I1.out.set HA.out (j * 4) (.string (mt q)) (Nat.le_refl _) (by omega) (by omega))
      clear HI I1 b1
      go_wp2_with fail
      refine (markText_any (q + 1) (by omega) (by omega) _).mono ?_
      rintro e w3 ⟨rfl, b3⟩
      have I3 := hide (I2.out.next b3)
      have P3 := hide ((b3.cell (p := ⟨g, j * 4, none⟩) I2.out.row.1).trans P2.out)
      clear I2 P2 b3
      obtain ⟨⟨u1, c1⟩, f1⟩ := I3.out.row.2 (j * 4 + 1) (by omega)
      have I4 := hide (I3.out.set HA.out (j * 4 + 1) (.string (mt (q + 1))) (by omega) (by omega) (by omega))
      have P4 := hide ((World.cell?_setCell_other w3 ⟨g, j * 4 + 1, none⟩ ⟨g, j * 4, none⟩ (.string (mt (q + 1))) (fun e => by have := congrArg Addr.off e; simp at this)).trans P3.out)
      have R4 := hide (World.cell?_setCell_same w3 ⟨g, j * 4 + 1, none⟩ (.string (mt (q + 1))) c1)
      have hsl := I4.out.slot j hlt
      have HMk := hide (markV_from qs[j].2 qs[j].1.hs.length (q + 1 + 1) (by omega) (by omega) _ (I4.out.todo j hlt (Nat.le_refl _)) (by omega))
      clear I3 P3
      go_wp2_with fail
      refine HMk.out.mono ?_
      rintro e w5 ⟨rfl, hh5, g5⟩
      have hbg := g5.block g I4.out.row.1 (fun e => HA.out.row j hlt e.symm)
      have I5 := hide (I4.out.heads HA.out hlt g5 (Nat.le_succ _))
      have P5 := hide ((World.cell?_of_block (a := ⟨g, j * 4, none⟩) hbg).trans P4.out)
      have R5 := hide ((World.cell?_of_block (a := ⟨g, j * 4 + 1, none⟩) hbg).trans R4.out)
      have V5 := hide hh5
      clear hsl HMk I4 P4 R4 hh5 g5 hbg u0 c0 f0 u1 c1 f1
      go_wp2_with fail
      refine (markText_any (q + 1 + 1 + qs[j].1.hs.length * 2) (by omega) (by omega) _).mono ?_
      rintro e w6 ⟨rfl, b6⟩
      have I6 := hide (I5.out.next b6)
      have P6 := hide ((b6.cell (p := ⟨g, j * 4, none⟩) I5.out.row.1).trans P5.out)
      have R6 := hide ((b6.cell (p := ⟨g, j * 4 + 1, none⟩) I5.out.row.1).trans R5.out)
      have V6 := hide (V5.out.of b6.size (fun x hx => b6.block x (V5.out.lt x hx)))
      clear I5 P5 R5 V5 b6
      obtain ⟨⟨u3, c3⟩, f3⟩ := I6.out.row.2 (j * 4 + 3) (by omega)
      obtain ⟨X, hX⟩ : ∃ X : Value, (.string (mt (q + 1 + 1 + qs[j].1.hs.length * 2))) = X := ⟨_, rfl⟩
      have I7 := hide (I6.out.set HA.out (j * 4 + 3) (.string (mt (q + 1 + 1 + qs[j].1.hs.length * 2))) (by omega) (by omega) (by omega))
      have P7 := hide ((World.cell?_setCell_other w6 ⟨g, j * 4 + 3, none⟩ ⟨g, j * 4, none⟩ (.string (mt (q + 1 + 1 + qs[j].1.hs.length * 2))) (fun e => by have := congrArg Addr.off e; simp at this)).trans P6.out)
      have R7 := hide ((World.cell?_setCell_other w6 ⟨g, j * 4 + 3, none⟩ ⟨g, j * 4 + 1, none⟩ (.string (mt (q + 1 + 1 + qs[j].1.hs.length * 2))) (fun e => by have := congrArg Addr.off e; simp at this)).trans R6.out)
      have T7 := hide (World.cell?_setCell_same w6 ⟨g, j * 4 + 3, none⟩ (.string (mt (q + 1 + 1 + qs[j].1.hs.length * 2))) c3)
      have V7 := hide (V6.out.of (w' := w6.setCell ⟨g, j * 4 + 3, none⟩ (.string (mt (q + 1 + 1 + qs[j].1.hs.length * 2)))) (by simp [World.setCell]) (fun x hx => Below.heap_setCell _ _ _ _ (fun e => HA.out.row j hlt (by rw [hx, e]))))
      clear hX X I6 P6 R6 V6
      have IZ : Hid (InvQ w (w6.setCell ⟨g, j * 4 + 3, none⟩ (.string (mt (q + 1 + 1 + qs[j].1.hs.length * 2)))) g k0 qs (j + 1) (j + 1)) := hide ⟨fun i hi hij => by
          by_cases e : i < j
          · exact I7.out.done i hi e
          · obtain rfl : i = j := by omega
            rw [← HQ.out]
            exact ⟨P7.out, R7.out, T7.out, V7.out⟩, I7.out.slot, I7.out.row, I7.out.todo, I7.out.turn⟩
      clear I7 P7 R7 T7 V7
      go_wp2
      go_roundw
      case rel => exact ⟨j + 1, q + 1 + 1 + qs[j].1.hs.length * 2 + 1, by omega, by go_num, by go_num, by have := HQ.out; have := HS.out; omega, IZ.out⟩
      case measure => simp [intOf]; omega
    · have hjn : j = qs.length := by omega
      subst hjn
      have hall := marksQ_all qs qs.length hlt
      have HZ : Hid (q = k0 + marksQ qs) := by rw [← hall]; exact HQ.out
      clear hall
      go_wp2
      go_ret
      exact ⟨by rw [HZ.out]; rfl, HI.out⟩

set_option maxRecDepth 100000 in
set_option maxHeartbeats 4000000 in
theorem heldReqS_from (g cap k0 : Nat) (qs : List Rv) (w : World) (hg : g < w.heap.size) (h : ∀ i (hi : i < qs.length), Mk1 w (k0 + marksQ (qs.take i)) g i qs[i]) (hsl : ∀ i (hi : i < qs.length), w.cell? ⟨g, i * 4 + 2, none⟩ = some qs[i].2) (hk1 : 1 ≤ k0) (hk2 : k0 + marksQ qs ≤ 49000000) (hn : qs.length ≤ 4194304) (h8 : ∀ q ∈ qs, q.1.hs.length ≤ 8) :
    Calls Tryz.prog 17 #[.slice (some ⟨g, 0, none⟩) qs.length cap, .int .i64 k0] w fun e w' => e = .returned (.int .i64 ((k0 + marksQ qs : Nat) : Int)) ∧ Below w.heap.size w w' := by
  have H8 := hide h8
  have H0 := hide h
  have HSl := hide hsl
  clear h h8 hsl
  go_enter Tryz.func17, Tryz.ntmps17
  go_wp2
  go_loopw [1, 5] (fun kv i wr => ∃ j q : Nat, j ≤ qs.length ∧ i = .int .i64 j ∧ kv = .int .i64 q ∧ q = k0 + marksQ (qs.take j) ∧ Below w.heap.size w wr) (fun _ i _ => qs.length - (intOf i).toNat)
  case atStart => exact ⟨0, k0, Nat.zero_le _, rfl, rfl, rfl, Below.refl _ _⟩
  case round =>
    obtain ⟨j, q, hj, rfl, rfl, hq, hbe⟩ := hrel
    have hle := marksQ_le qs j
    have hq3 : q ≤ 49000000 := by omega
    have hq1 : 1 ≤ q := by omega
    have HQ := hide hq
    by_cases hlt : j < qs.length
    · have hh8 := H8.out _ (List.getElem_mem hlt)
      have HS := hide (marksQ_snoc qs j hlt)
      have hm := (H0.out j hlt).next hg hbe
      rw [← hq] at hm
      have hg1 : g < wr.heap.size := Nat.lt_of_lt_of_le hg hbe.size
      have hsx := (hbe.cell (p := ⟨g, j * 4 + 2, none⟩) hg).trans (HSl.out j hlt)
      have hx0 := hm.m
      have HMk := hide hm
      have HM0 := hide (fun W => markText_any q hq1 (by omega) W)
      have HM1 := hide (fun W => markText_any (q + 1) (by omega) (by omega) W)
      have HM3 := hide (fun W => markText_any (q + 1 + 1 + qs[j].1.hs.length * 2) (by omega) (by omega) W)
      have hi0 : (0 : Int) ≤ (j : Int) := by omega
      have hi1 : (j : Int) < (qs.length : Int) := by omega
      clear hq hle hm
      go_wp2
      go_region_held3 (fun w' => w'.cell? ⟨g, j * 4, none⟩ = some (.string (mt q))) (first | go_keep | (exact (b1.cell (p := ⟨g, j * 4, none⟩) (by first | omega | (simp; omega))).trans (by assumption))) ((go_at_call 30; refine (HM0.out _).mono ?_; rintro e w1 ⟨rfl, b1⟩))
      all_goals
        have hb1 : Below wr.heap.size wr w1 := ((Below.refl wr.heap.size wr).drew).trans b1
        have hx1 := (hb1.cell (p := ⟨g, j * 4 + 1, none⟩) hg1).trans HMk.out.p
        have hc1 := hbe.trans (hb1.mono hbe.size)
        have hg2 : g < w1.heap.size := Nat.lt_of_lt_of_le hg1 hb1.size
        have hM1 := hide (HMk.out.next hg1 hb1)
        have hs1 := (hb1.cell (p := ⟨g, j * 4 + 2, none⟩) hg1).trans hsx
        clear b1
        go_wp2
        go_region_held3 (fun w' => w'.cell? ⟨g, j * 4 + 1, none⟩ = some (.string (mt (q + 1)))) (first | go_keep | (exact (b2.cell (p := ⟨g, j * 4 + 1, none⟩) (by first | omega | (simp; omega))).trans (by assumption))) ((go_at_call 30; refine (HM1.out _).mono ?_; rintro e w2 ⟨rfl, b2⟩))
        all_goals
          have hb2 : Below w1.heap.size w1 w2 := ((Below.refl w1.heap.size w1).drew).trans b2
          have hc2 := hc1.trans (hb2.mono hc1.size)
          have hg3 : g < w2.heap.size := Nat.lt_of_lt_of_le hg2 hb2.size
          have hM2 := hide (hM1.out.next hg2 hb2)
          have hs2 := (hb2.cell (p := ⟨g, j * 4 + 2, none⟩) hg2).trans hs1
          have HHd := hide (heldV_from qs[j].2 qs[j].1.hs.length (q + 1 + 1) (by omega) (by omega) w2 hM2.out.hs (by omega))
          clear b2 hM1 hx1 hs1
          go_wp2_with fail
          refine HHd.out.mono ?_
          rintro e w3 ⟨rfl, b3⟩
          have hc3 := hc2.trans (b3.mono hc2.size)
          have hx3 := (b3.cell (p := ⟨g, j * 4 + 3, none⟩) hg3).trans hM2.out.b
          have hg4 : g < w3.heap.size := Nat.lt_of_lt_of_le hg3 b3.size
          have hnn : ¬ ((((q + 1 + 1 + qs[j].1.hs.length * 2 : Nat)) : Int) < 0) := by omega
          clear HHd hM2 hs2
          go_wp2
          go_region_held3 (fun w' => w'.cell? ⟨g, j * 4 + 3, none⟩ = some (.string (mt (q + 1 + 1 + qs[j].1.hs.length * 2)))) (first | go_keep | (exact (b4.cell (p := ⟨g, j * 4 + 3, none⟩) (by first | omega | (simp; omega))).trans (by assumption))) ((go_at_call 30; refine (HM3.out _).mono ?_; rintro e w4 ⟨rfl, b4⟩))
          all_goals
            have hb4 : Below w3.heap.size w3 w4 := ((Below.refl w3.heap.size w3).drew).trans b4
            go_wp2
            go_roundw
            case rel => exact ⟨j + 1, q + 1 + 1 + qs[j].1.hs.length * 2 + 1, by omega, by go_num, by go_num, by have := HQ.out; have := HS.out; omega, hc3.trans (hb4.mono hc3.size)⟩
            case measure => simp [intOf]; omega
    · have hjn : j = qs.length := by omega
      subst hjn
      have hall := marksQ_all qs qs.length hlt
      have HZ : Hid (q = k0 + marksQ qs) := by rw [← hall]; exact HQ.out
      clear hall
      go_wp2
      go_ret
      exact ⟨by rw [HZ.out]; rfl, hbe⟩
end Go.Proofs.YtkhnkockdfmkgabGreatDoor
