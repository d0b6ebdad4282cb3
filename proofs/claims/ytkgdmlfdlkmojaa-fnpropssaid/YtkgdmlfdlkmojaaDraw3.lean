/-
  Texts that are drawn.
-/
import Derived.Test.YtkgdmlfdlkmojaaDraw2
namespace Go.Proofs.Ytkgdmlfdlkmojaa
open Go.RowKit M

/-- All that a call on a cursor in block N wants. -/
structure DC (w : World) (N : Nat) (a : Option Addr) (len cap : Nat) (zs : List Int) (c : St) : Prop where
  cur : Cur w N (.slice a len cap) c
  code : CodeAt w a len zs
  bN : 0 < len → ∀ b off, a = some ⟨b, off, none⟩ → b < N
  hlen : len ≤ 1048576
  lt : N < w.heap.size

theorem DC.grown {w w' : World} {N : Nat} {a : Option Addr} {len cap : Nat} {zs : List Int} {c c' : St} (h : DC w N a len cap zs c) (hg : w.grownBy w' (some N)) (hc : Cur w' N (.slice a len cap) c') : DC w' N a len cap zs c' :=
  ⟨hc, cur_le hg h.code h.bN, h.bN, h.hlen, Nat.lt_of_lt_of_le h.lt hg.size⟩

theorem DC.alloc {w : World} {N : Nat} {a : Option Addr} {len cap : Nat} {zs : List Int} {c : St} (h : DC w N a len cap zs c) (o : Obj) : DC (w.alloc o) N a len cap zs c := by
  have hg : w.grownBy (w.alloc o) (some N) := grown_alloc (grown_refl _ _) o
  refine ⟨⟨?_, ?_, ?_, ?_, ?_⟩, cur_le hg h.code h.bN, h.bN, h.hlen, Nat.lt_of_lt_of_le h.lt hg.size⟩
  · exact (World.cell?_alloc_past o N 0 h.lt).trans h.cur.c0
  · exact (World.cell?_alloc_past o N 1 h.lt).trans h.cur.c1
  · exact (World.cell?_alloc_past o N 2 h.lt).trans h.cur.c2
  · exact (World.frozen?_alloc_past o N 1 h.lt).trans h.cur.f1
  · exact (World.frozen?_alloc_past o N 2 h.lt).trans h.cur.f2

theorem row_strs (w : World) (ss : List ByteArray) (T : TypeId) (C : Array Value) (n : Nat) (hC : C = (ss.map Value.string).toArray) (hn : ss.length = n) : ∀ j, j < n → (w.alloc (.cells C T)).cell? ⟨w.heap.size, j, none⟩ = some (.string (ss.getD j ByteArray.empty)) := by
  subst hC hn
  intro j hj
  rw [World.cell?_alloc_new]
  simp [List.getD_eq_getElem?_getD, List.getElem?_eq_getElem hj]

/-- l1Str at a list that was just built. -/
theorem strNew {w : World} {N : Nat} {a : Option Addr} {len cap : Nat} {zs : List Int} {c : St} (h : DC w N a len cap zs c) (ss : List ByteArray) (C : Array Value) (T : TypeId) (n M : Nat) (hM : M = w.heap.size) (hC : C = (ss.map Value.string).toArray) (hn : ss.length = n) (h0 : 0 < n) (h1 : n ≤ 256) :
    Calls Try.prog 45 #[.pointer (some ⟨N, 0, none⟩), .slice (some ⟨M, 0, none⟩) n n] (w.alloc (.cells C T)) fun e w' => e = .returned (.string (ss.getD (pick zs len c n) ByteArray.empty)) ∧ DC w' N a len cap zs (belowS len c n) ∧ w.grownBy w' (some N) := by
  subst hM
  have hA := h.alloc (.cells C T)
  refine (l1Str_any N w.heap.size a len cap n zs ss c _ hA.cur hA.code h.bN h.hlen h0 h1 (by have := h.lt; omega) (row_strs w ss T C n hC hn)).mono ?_
  rintro e w1 ⟨rfl, hc1, hg1⟩
  exact ⟨rfl, hA.grown hg1 hc1, grown_trans (grown_alloc (grown_refl _ _) _) hg1⟩

def textL : List ByteArray := [⟨#[]⟩, ⟨#[97]⟩, ⟨#[98]⟩, ⟨#[97, 98]⟩, ⟨#[97, 45, 98]⟩, ⟨#[65, 98]⟩, ⟨#[32, 97, 32]⟩, ⟨#[120, 49]⟩, ⟨#[116, 119, 101, 110, 116, 121, 45, 111, 110, 101, 45, 115, 109, 97, 108, 108, 45, 116, 101, 120, 116]⟩, ⟨#[97, 32, 98]⟩, ⟨#[9]⟩, ⟨#[127]⟩, ⟨#[49, 97]⟩, ⟨#[45, 97]⟩, ⟨#[60, 97, 38, 98, 62]⟩, ⟨#[34, 113, 34]⟩]
def textV (zs : List Int) (len : Nat) (c : St) : ByteArray := textL.getD (pick zs len c 16) ByteArray.empty
end Go.Proofs.Ytkgdmlfdlkmojaa
