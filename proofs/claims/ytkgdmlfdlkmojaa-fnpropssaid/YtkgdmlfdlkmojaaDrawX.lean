/-
  A cursor, wherever it stands: what is drawn by it, and that all else stays.
-/
import Derived.Test.YtkgdmlfdlkmojaaDrawC
namespace Go.Proofs.Ytkgdmlfdlkmojaa
open Go.RowKit M
set_option linter.unusedVariables false

/-- A cursor in block N, wherever it stands. -/
def DX (w : World) (N : Nat) (a : Option Addr) (len cap : Nat) (zs : List Int) : Prop := ∃ c, DC w N a len cap zs c

theorem DX.alloc {w : World} {N : Nat} {a : Option Addr} {len cap : Nat} {zs : List Int} (h : DX w N a len cap zs) (o : Obj) : DX (w.alloc o) N a len cap zs := by
  obtain ⟨c, h⟩ := h; exact ⟨c, h.alloc o⟩

theorem l1BelowX {w : World} {N : Nat} {a : Option Addr} {len cap : Nat} {zs : List Int} (h : DX w N a len cap zs) (n : Int) (hn : 0 < n) (hn2 : n ≤ 1000000) :
    Calls Try.prog 70 #[.pointer (some ⟨N, 0, none⟩), .int .i64 n] w fun e w' => (∃ k : Nat, e = .returned (.int .i64 k) ∧ (k : Int) < n) ∧ DX w' N a len cap zs ∧ w.grownBy w' (some N) := by
  obtain ⟨c, h⟩ := h
  refine (l1Below_any N a len cap zs c n w h.cur h.code h.bN h.hlen hn hn2).mono ?_
  rintro e w1 ⟨rfl, hc1, hg1⟩
  have hb := belowV_bd zs len c n hn
  exact ⟨⟨(belowV zs len c n).toNat, by rw [Int.toNat_of_nonneg hb.1], by rw [Int.toNat_of_nonneg hb.1]; exact hb.2⟩, ⟨_, h.grown hg1 hc1⟩, hg1⟩

/-- The cursor stands where another row of the call's own has grown. -/
theorem DX.other {w w' : World} {N : Nat} {a : Option Addr} {len cap : Nat} {zs : List Int} (h : DX w N a len cap zs) (hs : w.heap.size ≤ w'.heap.size) (hk : ∀ k, k ≤ N → w'.heap[k]? = w.heap[k]?) : DX w' N a len cap zs := by
  obtain ⟨c, h⟩ := h
  have hc : ∀ p : Addr, p.block ≤ N → w'.cell? p = w.cell? p := fun p hp => World.cell?_of_block (w := w) (hk p.block hp)
  have hf : ∀ p : Addr, p.block ≤ N → w'.frozen? p = w.frozen? p := fun p hp => World.frozen?_of_block (w := w) (hk p.block hp)
  refine ⟨c, ⟨⟨?_, ?_, ?_, ?_, ?_⟩, ?_, h.bN, h.hlen, Nat.lt_of_lt_of_le h.lt hs⟩⟩
  · rw [hc _ (Nat.le_refl _)]; exact h.cur.c0
  · rw [hc _ (Nat.le_refl _)]; exact h.cur.c1
  · rw [hc _ (Nat.le_refl _)]; exact h.cur.c2
  · rw [hf _ (Nat.le_refl _)]; exact h.cur.f1
  · rw [hf _ (Nat.le_refl _)]; exact h.cur.f2
  · refine ⟨h.code.le, h.code.bd, fun h0 => ?_⟩
    obtain ⟨b, off, e, hcc⟩ := h.code.at0 h0
    have hb := h.bN h0 b off e
    exact ⟨b, off, e, fun j hj => by rw [hc ⟨b, off + j, none⟩ (by show b ≤ N; omega)]; exact hcc j hj⟩

theorem grown_past {w w1 w2 : World} {r : Option Nat} (h : w.grownBy w1 r) (hb : Below w.heap.size w1 w2) : w.grownBy w2 r :=
  ⟨hb.os.trans h.os, hb.tape.trans h.tape, hb.output.trans h.output, Nat.le_trans h.size hb.size, fun k hk hne => (hb.block k hk).trans (h.block k hk hne)⟩

theorem strNewX {w : World} {N : Nat} {a : Option Addr} {len cap : Nat} {zs : List Int} (h : DX w N a len cap zs) (ss : List ByteArray) (C : Array Value) (T : TypeId) (n M : Nat) (hM : M = w.heap.size) (hC : C = (ss.map Value.string).toArray) (hn : ss.length = n) (h0 : 0 < n) (h1 : n ≤ 256) (hz : ∀ s ∈ ss, s.size ≤ 20) :
    Calls Try.prog 45 #[.pointer (some ⟨N, 0, none⟩), .slice (some ⟨M, 0, none⟩) n n] (w.alloc (.cells C T)) fun e w' => (∃ s : ByteArray, e = .returned (.string s) ∧ s.size ≤ 20) ∧ DX w' N a len cap zs ∧ w.grownBy w' (some N) := by
  obtain ⟨c, h⟩ := h
  refine (strNew h ss C T n M hM hC hn h0 h1).mono ?_
  rintro e w1 ⟨rfl, hd, hg⟩
  exact ⟨⟨_, rfl, getD_mem ss _ _ (fun s => s.size ≤ 20) hz (by decide)⟩, ⟨_, hd⟩, hg⟩

theorem DX.lt {w : World} {N : Nat} {a : Option Addr} {len cap : Nat} {zs : List Int} (h : DX w N a len cap zs) : N < w.heap.size := by obtain ⟨c, h⟩ := h; exact h.lt

theorem newDX {w : World} {B : Nat} {a : Option Addr} {len : Nat} {zs : List Int} (h : CodeIn w B a len zs) (cap : Nat) :
    Calls Try.prog 36 #[.slice a len cap] w fun e w' => e = .returned (.pointer (some ⟨w.heap.size, 0, none⟩)) ∧ DX w' w.heap.size a len cap zs ∧ Below w.heap.size w w' := by
  refine (newDC h cap).mono ?_
  rintro e w1 ⟨rfl, hd, hb⟩
  exact ⟨rfl, ⟨_, hd⟩, hb⟩
end Go.Proofs.Ytkgdmlfdlkmojaa
