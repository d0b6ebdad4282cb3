/-
  Slices of slices of bytes as the row hands them in.
-/
import Derived.Test.YtkhnkockdfmkgabBytss
import Derived.Test.YtkhnkockdfmkgabIsByt
import Derived.Deep.Matrix
namespace Go.Proofs.Ytkhnkockdfmkgab
open Go.RowKit Go.Deep

theorem bss_of_open {H : Type} {enc : TypeId × Value → H} {w : World} {held : Bool} {fuel : Nat} {a : Option Addr} {len cap : Nat} {x : DataW H × List MemPlace} (h : DataW.trod enc Try.prog w 0 (fun _ => true) held fuel 22 [.slice a len cap] = some x) :
    ∃ ls : List (List UInt8), len = ls.length ∧ Bss w w.heap.size a ls ∧ ls.length ≤ maxLen := by
  rcases open_int_rows Try.underlying22 Try.underlying24 Try.underlying5 (by kernel_rfl) (by kernel_rfl) h with ⟨hcs, _⟩ | ⟨y, len', cap', A, L, C, Z, hcs, _, hl, hm, _, hr⟩
  · simp at hcs
    obtain ⟨rfl, rfl, rfl⟩ := hcs
    exact ⟨[], rfl, Bss.nil _ _ _, Nat.zero_le _⟩
  · simp at hcs
    obtain ⟨rfl, rfl, rfl⟩ := hcs
    have each : ∀ r, r < len → ∃ l : List UInt8, l.length = L r ∧ Byt w w.heap.size (A r) l ∧ L r ≤ C r ∧ C r ≤ maxLen := by
      intro r hr1
      obtain ⟨_, q2, q3, q4, q5, q6, q7⟩ := hr r (by omega)
      refine byt_of_row (zs := Z r) ?_
      cases hA : A r with
      | none =>
        have := q6 hA
        have h0 : L r = 0 := by omega
        exact .inl ⟨rfl, h0, this, List.length_eq_zero_iff.1 (by omega)⟩
      | some x => exact .inr ⟨x, rfl, q2, q3, q4, fun i hi => (q7 x hA).2 i (by omega), q5⟩
    obtain ⟨f, hf⟩ := choose_lt each
    have hlen : ((List.range len).map f).length = len := by simp
    refine ⟨(List.range len).map f, hlen.symm, fun h0 => ?_, by omega⟩
    obtain ⟨b, off, spot⟩ := y
    have hc := (hr 0 (by omega)).1
    have hspot : spot = none := by simpa [Addr.add] using World.cell?_spot hc
    subst hspot
    have hb : b < w.heap.size := by
      have := World.block_lt_of_cell? w _ hc
      simpa [Addr.add] using this
    refine ⟨b, off, rfl, hb, fun j hj => ?_⟩
    have hj' : j < len := by omega
    obtain ⟨f1, f2, f3, f4⟩ := hf j hj'
    have h1 := (hr j (by omega)).1
    have e : (⟨b, off, none⟩ : Addr).add j = ⟨b, off + j, none⟩ := by unfold Addr.add; split <;> simp_all
    rw [e] at h1
    have hg : ((List.range len).map f)[j] = f j := by simp
    rw [hg]
    exact ⟨A j, C j, by rw [f1]; exact h1, f2, by omega, f4⟩
end Go.Proofs.Ytkhnkockdfmkgab
