/-
  What turns none but certain blocks; a row of nodes opened, marked and shut.
-/
import Derived.Test.YtclnpfpaabmkcabOwnNode
import Derived.Test.YtclnpfpaabmkcabTurn
namespace Go.Proofs.Ytclnpfpaabmkcab
open Go.RowKit M
set_option linter.unusedVariables false

theorem OwnK.turn {w w' : World} {a : Option Addr} {ks : List Nd} {S T : Nat → Prop} (h : OwnK w a ks S) (t : Turn T w w') (hl : ∀ x, S x → x < w.heap.size) (hd : ∀ x, S x → ¬ T x) : OwnK w' a ks S :=
  h.keep (fun b o hb => t.cell (hl b hb) (hd b hb) o) (fun b o hb => t.frozen (hl b hb) (hd b hb) o)

/-- A row of nodes, opened. -/
structure OpenK (w : World) (b o : Nat) (zs : List Nd) (aj : Nat → Option Addr) (cj : Nat → Nat) (Sj : Nat → Nat → Prop) (S : Nat → Prop) : Prop where
  hb : S b
  hc : ∀ j (hj : j < zs.length), w.cell? ⟨b, o + j * 4, none⟩ = some (.string zs[j].ns) ∧ w.cell? ⟨b, o + j * 4 + 1, none⟩ = some (.string zs[j].nm) ∧ w.cell? ⟨b, o + j * 4 + 2, none⟩ = some (.string zs[j].tx) ∧ w.cell? ⟨b, o + j * 4 + 3, none⟩ = some (.slice (aj j) zs[j].ks.length (cj j))
  hf : ∀ i, w.frozen? ⟨b, i, none⟩ = false
  hk : ∀ j (hj : j < zs.length), OwnK w (aj j) zs[j].ks (Sj j)
  hS : ∀ j x, j < zs.length → Sj j x → S x ∧ x ≠ b
  hD : ∀ i j x, i < j → j < zs.length → Sj i x → ¬ Sj j x
theorem OpenK.own {w : World} {b o : Nat} {zs : List Nd} {aj : Nat → Option Addr} {cj : Nat → Nat} {Sj : Nat → Nat → Prop} {S : Nat → Prop} (h : OpenK w b o zs aj cj Sj S) : OwnK w (some ⟨b, o, none⟩) zs S := .row b o zs aj cj Sj S h.hb h.hc h.hf h.hk h.hS h.hD
theorem OwnK.opened {w : World} {a : Option Addr} {zs : List Nd} {S : Nat → Prop} (h : OwnK w a zs S) (h0 : 0 < zs.length) : ∃ b o aj cj Sj, a = some ⟨b, o, none⟩ ∧ OpenK w b o zs aj cj Sj S := by
  cases h with
  | nil a S => exact absurd h0 (Nat.lt_irrefl _)
  | row b o zs aj cj Sj S hb hc hf hk hS hD => exact ⟨b, o, aj, cj, Sj, rfl, hb, hc, hf, hk, hS, hD⟩

theorem cell_at (w : World) (b q p : Nat) (v : Value) (h : q ≠ p) : (w.setCell ⟨b, p, none⟩ v).cell? ⟨b, q, none⟩ = w.cell? ⟨b, q, none⟩ := World.cell?_setCell_other _ _ _ _ (fun e => h (by have := congrArg Addr.off e; simp at this; exact this.symm))

/-- One of them marked: its three texts, then its kids. -/
theorem mark_round {wr w1 w2 w3 w4 : World} {b o j : Nat} {zs kd : List Nd} {aj : Nat → Option Addr} {cj : Nat → Nat} {Sj : Nat → Nat → Prop} {S : Nat → Prop} {x0 x1 x2 : ByteArray} (h : OpenK wr b o zs aj cj Sj S) (hj : j < zs.length) (hlt : ∀ x, S x → x < wr.heap.size)
    (b1 : Below wr.heap.size wr w1) (b2 : Below (w1.setCell ⟨b, o + j * 4, none⟩ (.string x0)).heap.size (w1.setCell ⟨b, o + j * 4, none⟩ (.string x0)) w2) (b3 : Below (w2.setCell ⟨b, o + j * 4 + 1, none⟩ (.string x1)).heap.size (w2.setCell ⟨b, o + j * 4 + 1, none⟩ (.string x1)) w3)
    (t4 : Turn (Sj j) (w3.setCell ⟨b, o + j * 4 + 2, none⟩ (.string x2)) w4) (o4 : OwnK w4 (aj j) kd (Sj j)) (hl : kd.length = zs[j].ks.length) :
    OpenK w4 b o (zs.set j (.mk x0 x1 x2 kd)) aj cj Sj S ∧ Turn S wr w4 := by
  have hbw := hlt b h.hb
  have z1 : wr.heap.size ≤ w1.heap.size := b1.size
  have z2 : w1.heap.size ≤ w2.heap.size := by have := b2.size; simpa using this
  have z3 : w2.heap.size ≤ w3.heap.size := by have := b3.size; simpa using this
  have hb1 : b < w1.heap.size := by omega
  have hb2 : b < (w1.setCell ⟨b, o + j * 4, none⟩ (.string x0)).heap.size := by simpa using hb1
  have hb3 : b < (w2.setCell ⟨b, o + j * 4 + 1, none⟩ (.string x1)).heap.size := by simp; omega
  have hb4 : b < (w3.setCell ⟨b, o + j * 4 + 2, none⟩ (.string x2)).heap.size := by simp; omega
  have hSb : ¬ Sj j b := fun e => (h.hS j b hj e).2 rfl
  have e1 : ∀ q, w1.cell? ⟨b, q, none⟩ = wr.cell? ⟨b, q, none⟩ := fun q => b1.cell (p := ⟨b, q, none⟩) hbw
  have e2 : ∀ q, w2.cell? ⟨b, q, none⟩ = (w1.setCell ⟨b, o + j * 4, none⟩ (.string x0)).cell? ⟨b, q, none⟩ := fun q => b2.cell (p := ⟨b, q, none⟩) hb2
  have e3 : ∀ q, w3.cell? ⟨b, q, none⟩ = (w2.setCell ⟨b, o + j * 4 + 1, none⟩ (.string x1)).cell? ⟨b, q, none⟩ := fun q => b3.cell (p := ⟨b, q, none⟩) hb3
  have e4 : ∀ q, w4.cell? ⟨b, q, none⟩ = (w3.setCell ⟨b, o + j * 4 + 2, none⟩ (.string x2)).cell? ⟨b, q, none⟩ := fun q => t4.cell hb4 hSb q
  have far : ∀ q, q ≠ o + j * 4 → q ≠ o + j * 4 + 1 → q ≠ o + j * 4 + 2 → w4.cell? ⟨b, q, none⟩ = wr.cell? ⟨b, q, none⟩ := fun q n0 n1 n2 => by
    rw [e4, cell_at _ _ _ _ _ n2, e3, cell_at _ _ _ _ _ n1, e2, cell_at _ _ _ _ _ n0, e1]
  obtain ⟨k0, k1, k2, k3⟩ := h.hc j hj
  have p0 : w4.cell? ⟨b, o + j * 4, none⟩ = some (.string x0) := by
    rw [e4, cell_at _ _ _ _ _ (by omega), e3, cell_at _ _ _ _ _ (by omega), e2]
    exact World.cell?_setCell_same _ _ _ ((e1 _).trans k0)
  have p1 : w4.cell? ⟨b, o + j * 4 + 1, none⟩ = some (.string x1) := by
    rw [e4, cell_at _ _ _ _ _ (by omega), e3]
    exact World.cell?_setCell_same _ _ _ (((e2 _).trans (cell_at _ _ _ _ _ (by omega))).trans ((e1 _).trans k1))
  have p2 : w4.cell? ⟨b, o + j * 4 + 2, none⟩ = some (.string x2) := by
    rw [e4]
    exact World.cell?_setCell_same _ _ _ (((e3 _).trans (cell_at _ _ _ _ _ (by omega))).trans (((e2 _).trans (cell_at _ _ _ _ _ (by omega))).trans ((e1 _).trans k2)))
  have ht3 : Turn S wr (w3.setCell ⟨b, o + j * 4 + 2, none⟩ (.string x2)) := (((((Turn.of_below b1).trans (Turn.set w1 _ _ h.hb)).trans (Turn.of_below b2)).trans (Turn.set w2 _ _ h.hb)).trans (Turn.of_below b3)).trans (Turn.set w3 _ _ h.hb)
  have hb' : Turn (fun x => x = b) wr (w3.setCell ⟨b, o + j * 4 + 2, none⟩ (.string x2)) := (((((Turn.of_below b1).trans (Turn.set (S := fun x => x = b) w1 ⟨b, o + j * 4, none⟩ (.string x0) rfl)).trans (Turn.of_below b2)).trans (Turn.set (S := fun x => x = b) w2 ⟨b, o + j * 4 + 1, none⟩ (.string x1) rfl)).trans (Turn.of_below b3)).trans (Turn.set (S := fun x => x = b) w3 ⟨b, o + j * 4 + 2, none⟩ (.string x2) rfl)
  refine ⟨⟨h.hb, fun i hi => ?_, fun i => ?_, fun i hi => ?_, fun i x hi hx => h.hS i x (by simpa using hi) hx, fun i l x hil hl' hx => h.hD i l x hil (by simpa using hl') hx⟩, ht3.trans (t4.wide (fun x hx => (h.hS j x hj hx).1))⟩
  · have hi' : i < zs.length := by simpa using hi
    rw [List.getElem_set]
    by_cases e : j = i
    · subst e
      simp only [if_true, Nd.ns, Nd.nm, Nd.tx, Nd.ks]
      refine ⟨p0, p1, p2, ?_⟩
      rw [far _ (by omega) (by omega) (by omega), hl]
      exact k3
    · simp only [e, if_false]
      rw [far _ (by omega) (by omega) (by omega), far _ (by omega) (by omega) (by omega), far _ (by omega) (by omega) (by omega), far _ (by omega) (by omega) (by omega)]
      exact h.hc i hi'
  · rw [t4.frozen hb4 hSb, World.frozen?_setCell, b3.frozen (p := ⟨b, i, none⟩) hb3, World.frozen?_setCell, b2.frozen (p := ⟨b, i, none⟩) hb2, World.frozen?_setCell, b1.frozen (p := ⟨b, i, none⟩) hbw]
    exact h.hf i
  · have hi' : i < zs.length := by simpa using hi
    by_cases e : j = i
    · subst e
      simpa [Nd.ks] using o4
    · have hk := h.hk i hi'
      have hli : ∀ x, Sj i x → x < wr.heap.size := fun x hx => hlt x (h.hS i x hi' hx).1
      have h3 := hk.turn hb' hli (fun x hx => (h.hS i x hi' hx).2)
      have h4 := h3.turn t4 (fun x hx => by have := hli x hx; simp; omega) (fun x hx hy => by
        by_cases l : i < j
        · exact h.hD i j x l hj hx hy
        · exact h.hD j i x (by omega) hi' hy hx)
      rw [List.getElem_set]
      simp only [e, if_false]
      exact h4
end Go.Proofs.Ytclnpfpaabmkcab
