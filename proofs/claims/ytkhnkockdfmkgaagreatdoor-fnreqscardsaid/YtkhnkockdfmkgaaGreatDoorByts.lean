/-
  Slices of bytes: what they hold, and that it stays; parts of them; texts of them.
-/
import Derived.Test.YtkhnkockdfmkgaaGreatDoorRows
import Derived.WalkKit
import Derived.WalkSpells
import Derived.WalkLawsBesides
import Derived.Deep.Light
import Derived.Deep.QuietTactic
import Derived.Deep.OwnRows
import Derived.Laws.IdiomStrings
import Derived.Laws.BytesArg
namespace Go.Proofs.YtkhnkockdfmkgaaGreatDoor
open Go.RowKit

/-- The bytes that a slice holds, in a block below B. -/
def Byt (w : World) (B : Nat) (a : Option Addr) (l : List UInt8) : Prop :=
  0 < l.length → ∃ b o, a = some ⟨b, o, none⟩ ∧ b < B ∧ ∀ j (hj : j < l.length), w.cell? ⟨b, o + j, none⟩ = some (.int .u8 l[j].toNat)

theorem Byt.below {w w' : World} {B C : Nat} {a : Option Addr} {l : List UInt8} (h : Byt w B a l) (hb : Below C w w') (hB : B ≤ C) : Byt w' B a l := fun h0 => by
  obtain ⟨b, o, e, hbB, hc⟩ := h h0
  exact ⟨b, o, e, hbB, fun j hj => (hb.cell (p := ⟨b, o + j, none⟩) (Nat.lt_of_lt_of_le hbB hB)).trans (hc j hj)⟩
theorem Byt.mono {w : World} {B C : Nat} {a : Option Addr} {l : List UInt8} (h : Byt w B a l) (hB : B ≤ C) : Byt w C a l := fun h0 => by
  obtain ⟨b, o, e, hbB, hc⟩ := h h0
  exact ⟨b, o, e, Nat.lt_of_lt_of_le hbB hB, hc⟩
theorem Byt.take {w : World} {B : Nat} {a : Option Addr} {l : List UInt8} (h : Byt w B a l) (k : Nat) : Byt w B a (l.take k) := fun h0 => by
  have hl : (l.take k).length ≤ l.length := by rw [List.length_take]; omega
  obtain ⟨b, o, e, hbB, hc⟩ := h (by omega)
  exact ⟨b, o, e, hbB, fun j hj => by rw [hc j (by omega), List.getElem_take]⟩
theorem Byt.drop {w : World} {B b o : Nat} {l : List UInt8} (h : Byt w B (some ⟨b, o, none⟩) l) (k : Nat) : Byt w B (some ⟨b, o + k, none⟩) (l.drop k) := fun h0 => by
  have hl : (l.drop k).length = l.length - k := List.length_drop
  obtain ⟨b', o', e, hbB, hc⟩ := h (by omega)
  cases e
  exact ⟨b, o + k, rfl, hbB, fun j hj => by rw [Nat.add_assoc, hc (k + j) (by omega), List.getElem_drop]⟩
theorem Byt.nil (w : World) (B : Nat) (a : Option Addr) : Byt w B a [] := fun h => absurd h (Nat.lt_irrefl _)
theorem Byt.drew {w : World} {B : Nat} {a : Option Addr} {l : List UInt8} (h : Byt w B a l) : Byt w.drew B a l := h

/-- 'string(b)' of such a slice. -/
theorem conv_byt {w : World} {B : Nat} {a : Option Addr} {l : List UInt8} (h : Byt w B a l) (n cap : Nat) (hn : l.length = n) :
    (convert 22 9 (.slice a n cap)).run Tryz.prog w = .ok (.string ⟨l.toArray⟩) w := by
  subst hn
  by_cases h0 : 0 < l.length
  · obtain ⟨b, o, rfl, _, hc⟩ := h h0
    refine run_convert_bytes_back w 22 9 5 _ cap l Tryz.underlying22 Tryz.underlying5 Tryz.underlying9 ?_
    intro j hj
    have : (⟨b, o, none⟩ : Addr).add j = ⟨b, o + j, none⟩ := by unfold Addr.add; split <;> simp_all
    rw [this]; exact hc j hj
  · have : l = [] := List.length_eq_zero_iff.1 (by omega)
    subst this
    cases a with
    | none => exact run_convert_bytes_nil w 22 5 Tryz.underlying22 Tryz.underlying5 0 cap 9 Tryz.underlying9
    | some x => exact run_convert_bytes_back w 22 9 5 x cap [] Tryz.underlying22 Tryz.underlying5 Tryz.underlying9 (fun j hj => absurd hj (Nat.not_lt_zero _))
end Go.Proofs.YtkhnkockdfmkgaaGreatDoor
