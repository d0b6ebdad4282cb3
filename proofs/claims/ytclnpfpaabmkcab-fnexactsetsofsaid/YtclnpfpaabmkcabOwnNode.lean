/-
  Trees that lie in blocks of their own.
-/
import Derived.Test.YtclnpfpaabmkcabNodes
namespace Go.Proofs.Ytclnpfpaabmkcab
open Go.RowKit M

/-- The nodes that a slice holds, each row of them in a block of its own; S holds all these blocks. -/
inductive OwnK (w : World) : Option Addr → List Nd → (Nat → Prop) → Prop
  | nil (a : Option Addr) (S : Nat → Prop) : OwnK w a [] S
  | row (b o : Nat) (ks : List Nd) (aj : Nat → Option Addr) (cj : Nat → Nat) (Sj : Nat → Nat → Prop) (S : Nat → Prop) (hb : S b)
      (hc : ∀ j (hj : j < ks.length), w.cell? ⟨b, o + j * 4, none⟩ = some (.string ks[j].ns) ∧ w.cell? ⟨b, o + j * 4 + 1, none⟩ = some (.string ks[j].nm) ∧ w.cell? ⟨b, o + j * 4 + 2, none⟩ = some (.string ks[j].tx) ∧ w.cell? ⟨b, o + j * 4 + 3, none⟩ = some (.slice (aj j) ks[j].ks.length (cj j)))
      (hf : ∀ i, w.frozen? ⟨b, i, none⟩ = false)
      (hk : ∀ j (hj : j < ks.length), OwnK w (aj j) ks[j].ks (Sj j))
      (hS : ∀ j x, j < ks.length → Sj j x → S x ∧ x ≠ b)
      (hD : ∀ i j x, i < j → j < ks.length → Sj i x → ¬ Sj j x) : OwnK w (some ⟨b, o, none⟩) ks S

theorem OwnK.nds {w : World} {a : Option Addr} {ks : List Nd} {S : Nat → Prop} (h : OwnK w a ks S) : ∀ {B : Nat}, (∀ x, S x → x < B) → Nds w B a ks := by
  induction h with
  | nil a S => exact fun _ => .nil a
  | row b o ks aj cj Sj S hb hc _ _ hS _ ih => exact fun hB => .row b o ks aj cj (hB b hb) hc fun j hj => ih j hj (fun x hx => hB x (hS j x hj hx).1)

theorem OwnK.wide {w : World} {a : Option Addr} {ks : List Nd} {S : Nat → Prop} (h : OwnK w a ks S) : ∀ {T : Nat → Prop}, (∀ x, S x → T x) → OwnK w a ks T := by
  cases h with
  | nil a S => exact fun _ => .nil a _
  | row b o ks aj cj Sj S hb hc hf hk hS hD => exact fun hT => .row b o ks aj cj Sj _ (hT b hb) hc hf hk (fun j x hj hx => ⟨hT x (hS j x hj hx).1, (hS j x hj hx).2⟩) hD

/-- It stays where all its blocks do. -/
theorem OwnK.keep {w w' : World} {a : Option Addr} {ks : List Nd} {S : Nat → Prop} (h : OwnK w a ks S) : (∀ b o, S b → w'.cell? ⟨b, o, none⟩ = w.cell? ⟨b, o, none⟩) → (∀ b o, S b → w'.frozen? ⟨b, o, none⟩ = w.frozen? ⟨b, o, none⟩) → OwnK w' a ks S := by
  induction h with
  | nil a S => exact fun _ _ => .nil a S
  | row b o ks aj cj Sj S hb hc hf _ hS hD ih =>
    intro h1 h2
    exact .row b o ks aj cj Sj S hb (fun j hj => by simp only [h1 b _ hb]; exact hc j hj) (fun i => by rw [h2 b i hb]; exact hf i)
      (fun j hj => ih j hj (fun b' o' hb' => h1 b' o' (hS j b' hj hb').1) (fun b' o' hb' => h2 b' o' (hS j b' hj hb').1)) hS hD

theorem OwnK.stays {w w' : World} {a : Option Addr} {ks : List Nd} {S : Nat → Prop} {C : Nat} (h : OwnK w a ks S) (hb : Below C w w') (hS : ∀ x, S x → x < C) : OwnK w' a ks S :=
  h.keep (fun b o hx => hb.cell (p := ⟨b, o, none⟩) (hS b hx)) (fun b o hx => hb.frozen (p := ⟨b, o, none⟩) (hS b hx))

/-- A store in another block. -/
theorem OwnK.setCell {w : World} {a : Option Addr} {ks : List Nd} {S : Nat → Prop} (h : OwnK w a ks S) (p : Addr) (v : Value) (hp : ¬ S p.block) : OwnK (w.setCell p v) a ks S :=
  h.keep (fun b o hx => World.cell?_setCell_other _ _ _ _ (fun e => hp (by have := congrArg Addr.block e; simp at this; rw [this]; exact hx))) (fun b o hx => by simp)

/-- The blocks from l on, before u. -/
def Ivl (l u : Nat) : Nat → Prop := fun x => l ≤ x ∧ x < u
end Go.Proofs.Ytclnpfpaabmkcab
