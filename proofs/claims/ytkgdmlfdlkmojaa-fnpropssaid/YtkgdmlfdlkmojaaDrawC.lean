/-
  The bytes of a draw, and a new cursor on them.
-/
import Derived.Test.YtkgdmlfdlkmojaaDraw3
namespace Go.Proofs.Ytkgdmlfdlkmojaa
open Go.RowKit M

/-- The bytes of a draw, in old memory. -/
structure CodeIn (w : World) (B : Nat) (a : Option Addr) (len : Nat) (zs : List Int) : Prop where
  code : CodeAt w a len zs
  bB : 0 < len → ∀ b off, a = some ⟨b, off, none⟩ → b < B
  hlen : len ≤ 1048576
  hB : B ≤ w.heap.size

theorem CodeIn.below {w w' : World} {B : Nat} {a : Option Addr} {len : Nat} {zs : List Int} (h : CodeIn w B a len zs) (hb : Below B w w') : CodeIn w' B a len zs := by
  refine ⟨⟨h.code.le, h.code.bd, fun h0 => ?_⟩, h.bB, h.hlen, Nat.le_trans h.hB hb.size⟩
  obtain ⟨b, off, rfl, hc⟩ := h.code.at0 h0
  refine ⟨b, off, rfl, fun j hj => ?_⟩
  exact (hb.cell (p := ⟨b, off + j, none⟩) (h.bB h0 b off rfl)).trans (hc j hj)

/-- A new cursor over them. -/
theorem newDC {w : World} {B : Nat} {a : Option Addr} {len : Nat} {zs : List Int} (h : CodeIn w B a len zs) (cap : Nat) :
    Calls Try.prog 36 #[.slice a len cap] w fun e w' => e = .returned (.pointer (some ⟨w.heap.size, 0, none⟩)) ∧ DC w' w.heap.size a len cap zs (newS zs len) ∧ Below w.heap.size w w' := by
  refine (l1New_any a len cap zs w h.code h.hlen).mono ?_
  rintro e w1 ⟨rfl, hc, hb, hs⟩
  have h1 := h.below (hb.mono h.hB)
  exact ⟨rfl, ⟨hc, h1.code, fun h0 b off e => Nat.lt_of_lt_of_le (h.bB h0 b off e) h.hB, h.hlen, by omega⟩, hb⟩

theorem dc_below {w w1 w2 : World} (hb : Below w.heap.size w w1) (hg : w1.grownBy w2 (some w.heap.size)) : Below w.heap.size w w2 :=
  hb.trans (grown_below hg (Nat.le_refl _) hb.size)

theorem getD_mem {α : Type} (l : List α) (i : Nat) (d : α) (p : α → Prop) (h : ∀ x ∈ l, p x) (hd : p d) : p (l.getD i d) := by
  rw [List.getD_eq_getElem?_getD]
  cases e : l[i]? with
  | none => exact hd
  | some x => exact h x (List.mem_of_getElem? e)

theorem textV_le (zs : List Int) (len : Nat) (c : St) : (textV zs len c).size ≤ 100 :=
  getD_mem textL _ _ (fun s => s.size ≤ 100) (by decide) (by decide)
end Go.Proofs.Ytkgdmlfdlkmojaa
