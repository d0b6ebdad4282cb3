/-
  Rows of bytes, perhaps none, that are new and may be written: what they hold; marked, and looked at.
-/
import Derived.Test.YtkhnkockdfmkgabMarkByts
import Derived.Test.YtkhnkockdfmkgabHeads
namespace Go.Proofs.Ytkhnkockdfmkgab
open Go.RowKit
set_option linter.unusedVariables false

/-- The slice v holds the bytes l; where there are any, at the head of a block from B on, none of them frozen. -/
def FreshY (w : World) (B : Nat) (v : Value) (l : List UInt8) : Prop :=
  ∃ a c, v = .slice a l.length c ∧ l.length ≤ c ∧ c ≤ maxLen ∧ (0 < l.length → ∃ g, a = some ⟨g, 0, none⟩ ∧ B ≤ g ∧ RowC w g l.length) ∧ Byt w w.heap.size a l
theorem FreshY.nul (w : World) (B : Nat) : FreshY w B (.slice none 0 0) [] := ⟨_, 0, rfl, Nat.le_refl _, Nat.zero_le _, fun h => absurd h (Nat.lt_irrefl _), Byt.nil _ _ _⟩
theorem FreshY.empty (w : World) (B : Nat) (a : Option Addr) (c : Nat) (hc : c ≤ maxLen) : FreshY w B (.slice a 0 c) [] := ⟨_, c, rfl, Nat.zero_le _, hc, fun h => absurd h (Nat.lt_irrefl _), Byt.nil _ _ _⟩
theorem FreshY.next {w w' : World} {B : Nat} {v : Value} {l : List UInt8} (h : FreshY w B v l) (hb : Below w.heap.size w w') : FreshY w' B v l := by
  obtain ⟨a, c, rfl, h1, h2, h3, h4⟩ := h
  refine ⟨a, c, rfl, h1, h2, fun h0 => ?_, (h4.below hb (Nat.le_refl _)).mono hb.size⟩
  obtain ⟨g, e, hB, hr⟩ := h3 h0
  exact ⟨g, e, hB, hr.of hb.size (hb.block g hr.1)⟩
/-- What is turned elsewhere does not matter. -/
theorem FreshY.same {w w' : World} {B : Nat} {v : Value} {l : List UInt8} (h : FreshY w B v l) (hs : w.heap.size ≤ w'.heap.size) (hb : ∀ k, B ≤ k → k < w.heap.size → w'.heap[k]? = w.heap[k]?) : FreshY w' B v l := by
  obtain ⟨a, c, rfl, h1, h2, h3, h4⟩ := h
  refine ⟨a, c, rfl, h1, h2, fun h0 => ?_, fun h0 => ?_⟩
  · obtain ⟨g, e, hB, hr⟩ := h3 h0
    exact ⟨g, e, hB, hr.of hs (hb g hB hr.1)⟩
  · obtain ⟨g, e, hB, hr⟩ := h3 h0
    obtain ⟨b, o, e2, hbB, hc⟩ := h4 h0
    rw [e] at e2
    cases e2
    exact ⟨g, 0, e, Nat.lt_of_lt_of_le hbB hs, fun j hj => (World.cell?_of_block (a := ⟨g, 0 + j, none⟩) (hb g hB hr.1)).trans (hc j hj)⟩
theorem OwnY.fresh {w : World} {B : Nat} {v : Value} {l : List UInt8} (h : OwnY w B v l) : FreshY w B v l := by
  obtain ⟨g, c, rfl, hB, _, h1, h2, h3⟩ := h.byt
  refine ⟨_, c, rfl, h1, h2, fun _ => ?_, h3⟩
  obtain ⟨g', c', e, hB', hr⟩ := h.row
  cases e
  exact ⟨g, rfl, hB, hr⟩

/-- The bytes of this slice are marked, from 1 on. -/
def MarkedY (w : World) (v : Value) (n : Nat) : Prop := ∃ a c, v = .slice a n c ∧ (0 < n → ∃ g, a = some ⟨g, 0, none⟩ ∧ Bms w g n)
theorem MarkedY.next {w w' : World} {v : Value} {n : Nat} (h : MarkedY w v n) (hb : Below w.heap.size w w') : MarkedY w' v n := by
  obtain ⟨a, c, rfl, h1⟩ := h
  refine ⟨a, c, rfl, fun h0 => ?_⟩
  obtain ⟨g, e, hm⟩ := h1 h0
  exact ⟨g, e, hm.next hb⟩
theorem MarkedY.of {w w' : World} {v : Value} {n : Nat} (h : MarkedY w v n) (hs : w.heap.size ≤ w'.heap.size) (hb : ∀ g, v.ownBlock = some g → 0 < n → w'.heap[g]? = w.heap[g]?) : MarkedY w' v n := by
  obtain ⟨a, c, rfl, h1⟩ := h
  refine ⟨a, c, rfl, fun h0 => ?_⟩
  obtain ⟨g, rfl, hm⟩ := h1 h0
  exact ⟨g, rfl, hm.of hs (hb g rfl h0)⟩

set_option maxHeartbeats 400000 in
theorem markByteS_empty (a : Option Addr) (cap : Nat) (k : Int) (w : World) :
    Calls Try.prog 11 #[.slice a 0 cap, .int .i64 k] w fun e w' => e = .returned (.int .i64 k) ∧ w' = w := by
  go_enter Try.func11, Try.ntmps11
  go_wp2
  go_loopw [1, 5] (fun kv i wr => i = .int .i64 0 ∧ kv = .int .i64 k ∧ wr = w) (fun _ i _ => 0)
  case atStart => exact ⟨rfl, rfl, rfl⟩
  case round =>
    obtain ⟨rfl, rfl, rfl⟩ := hrel
    go_wp2
    go_ret
    exact ⟨rfl, rfl⟩
set_option maxHeartbeats 400000 in
theorem heldByteS_empty (a : Option Addr) (cap : Nat) (k : Int) (w : World) :
    Calls Try.prog 12 #[.slice a 0 cap, .int .i64 k] w fun e w' => e = .returned (.int .i64 k) ∧ w' = w := by
  go_enter Try.func12, Try.ntmps12
  go_wp2
  go_loopw [1, 5] (fun kv i wr => i = .int .i64 0 ∧ kv = .int .i64 k ∧ wr = w) (fun _ i _ => 0)
  case atStart => exact ⟨rfl, rfl, rfl⟩
  case round =>
    obtain ⟨rfl, rfl, rfl⟩ := hrel
    go_wp2
    go_ret
    exact ⟨rfl, rfl⟩
theorem markY (w : World) (B : Nat) (v : Value) (l : List UInt8) (h : FreshY w B v l) (hB : B ≤ w.heap.size) (hl : l.length ≤ 1073741824) :
    Calls Try.prog 11 #[v, .int .i64 1] w fun e w' => e = .returned (.int .i64 (1 + (l.length : Int))) ∧ MarkedY w' v l.length ∧ Below B w w' ∧ (∀ k, k < w.heap.size → some k ≠ v.ownBlock → w'.heap[k]? = w.heap[k]?) := by
  obtain ⟨a, c, rfl, h1, h2, h3, h4⟩ := h
  by_cases h0 : 0 < l.length
  · obtain ⟨g, rfl, hg, hr⟩ := h3 h0
    refine (markByteS_any g l.length c w hr hl).mono ?_
    rintro e w' ⟨rfl, hgr, hm⟩
    exact ⟨rfl, ⟨_, c, rfl, fun _ => ⟨g, rfl, hm⟩⟩, ⟨hgr.os, hgr.tape, hgr.output, hgr.size, fun k hk => hgr.block k (by omega) (fun e => by have := Option.some.inj e; omega)⟩, fun k hk hne => hgr.block k hk hne⟩
  · have e0 : l.length = 0 := by omega
    rw [e0]
    refine (markByteS_empty a c 1 w).mono ?_
    rintro e w' ⟨rfl, rfl⟩
    exact ⟨rfl, ⟨a, c, rfl, fun h => absurd h (Nat.lt_irrefl _)⟩, Below.refl _ _, fun _ _ _ => rfl⟩
theorem heldY (w : World) (v : Value) (n : Nat) (h : MarkedY w v n) (hn : n ≤ 1073741824) :
    Calls Try.prog 12 #[v, .int .i64 1] w fun e w' => e = .returned (.int .i64 (1 + (n : Int))) ∧ ∀ D, Below D w w' := by
  obtain ⟨a, c, rfl, h1⟩ := h
  by_cases h0 : 0 < n
  · obtain ⟨g, rfl, hm⟩ := h1 h0
    exact heldByteS_any g n c w hm hn
  · have e0 : n = 0 := by omega
    subst e0
    refine (heldByteS_empty a c 1 w).mono ?_
    rintro e w' ⟨rfl, rfl⟩
    exact ⟨rfl, fun D => Below.refl _ _⟩
end Go.Proofs.Ytkhnkockdfmkgab
