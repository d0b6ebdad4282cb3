/-
  The draws of lists of marks: whatever is drawn, it is short.
-/
import Derived.Test.YtccehdlgpbeijaaDoorDrawO
import Derived.Test.YtccehdlgpbeijaaDoorTagText
namespace Go.Proofs.YtccehdlgpbeijaaDoor
open Go.RowKit M
set_option linter.unusedVariables false

theorem strNew9 {w : World} {N : Nat} {a : Option Addr} {len cap : Nat} {zs : List Int} (h : DX w N a len cap zs) (ss : List ByteArray) (C : Array Value) (T : TypeId) (n M z : Nat) (hM : M = w.heap.size) (hC : C = (ss.map Value.string).toArray) (hn : ss.length = n) (h0 : 0 < n) (h1 : n ≤ 256) (hz : ∀ s ∈ ss, s.size ≤ z) :
    Calls Tryd.prog 36 #[.pointer (some ⟨N, 0, none⟩), .slice (some ⟨M, 0, none⟩) n n] (w.alloc (.cells C T)) fun e w' => (∃ s : ByteArray, e = .returned (.string s) ∧ s.size ≤ z) ∧ DX w' N a len cap zs ∧ w.grownBy w' (some N) := by
  obtain ⟨c, h⟩ := h
  refine (strNew h ss C T n M hM hC hn h0 h1).mono ?_
  rintro e w1 ⟨rfl, hd, hg⟩
  exact ⟨⟨_, rfl, getD_mem ss _ _ (fun s => s.size ≤ z) hz (Nat.zero_le _)⟩, ⟨_, hd⟩, hg⟩
theorem l1Once9 {w : World} {N : Nat} {a : Option Addr} {len cap : Nat} {zs : List Int} (h : DX w N a len cap zs) (n : Int) (hn : 0 < n) (hn2 : n ≤ 1000000) :
    Calls Tryd.prog 29 #[.pointer (some ⟨N, 0, none⟩), .int .i64 n] w fun e w' => (∃ b : Bool, e = .returned (.bool b)) ∧ DX w' N a len cap zs ∧ w.grownBy w' (some N) := by
  obtain ⟨c, h⟩ := h
  refine (l1Once_any N a len cap zs c n w h.cur h.code h.bN h.hlen hn hn2).mono ?_
  rintro e w1 ⟨rfl, hc1, hg1⟩
  exact ⟨⟨_, rfl⟩, ⟨_, h.grown hg1 hc1⟩, hg1⟩
theorem numV_le9 (zs : List Int) (len : Nat) (c : St) : numV zs len c ≤ 9223372036854775807 := by
  have hb := belowV_bd zs len c 1000 (by decide)
  refine getD_mem (numL (belowV zs len c 1000)) _ _ (fun x => x ≤ 9223372036854775807) ?_ (by decide)
  intro x hx
  simp only [numL, List.mem_cons, List.not_mem_nil, or_false] at hx
  omega

set_option maxHeartbeats 400000 in
theorem drawTagText_any {w : World} {B : Nat} {a : Option Addr} {len : Nat} {zs : List Int} (h : CodeIn w B a len zs) (cap : Nat) :
    Calls Tryd.prog 6 #[.slice a len cap] w fun e w' => (∃ n : Int, e = .returned (.int .i64 n) ∧ n ≤ 9223372036854775807) ∧ Below w.heap.size w w' := by
  have H : Hid (CodeIn w B a len zs) := h
  clear h
  go_enter Tryd.func6, Tryd.ntmps6
  go_wp2_with fail
  refine (newDC H.out cap).mono ?_
  rintro e w1 ⟨rfl, hd1, hb1⟩
  have H1 : Hid (DC w1 w.heap.size a len cap zs (newS zs len)) := hd1
  clear hd1
  go_wp2_with fail
  refine (l1Num_any H1.out).mono ?_
  rintro e w2 ⟨rfl, _, hg2⟩
  go_wp2
  go_ret
  exact ⟨⟨_, rfl, numV_le9 _ _ _⟩, dc_below hb1 hg2⟩

def tagD : List ByteArray := [⟨#[42]⟩, ⟨#[34, 118, 49, 34]⟩, ⟨#[34, 118, 49, 34, 44, 32, 34, 118, 50, 34]⟩, ⟨#[32, 34, 118, 50, 34, 32]⟩, ⟨#[34, 97, 44, 98, 34]⟩, ⟨#[34, 34]⟩, ⟨#[]⟩, ⟨#[118, 49]⟩, ⟨#[34, 118, 49]⟩, ⟨#[34, 97, 34, 98, 34]⟩, ⟨#[34, 101, 108, 101, 118, 101, 110, 98, 121, 116, 101, 115, 34]⟩, ⟨#[34, 49, 34, 44, 34, 50, 34, 44, 34, 51, 34, 44, 34, 52, 34, 44, 34, 53, 34, 44, 34, 54, 34]⟩, ⟨#[42, 44, 32, 34, 118, 49, 34]⟩, ⟨#[34, 118, 49, 34, 44]⟩]

set_option maxHeartbeats 1000000 in
theorem l9Draw_any {w : World} {N : Nat} {a : Option Addr} {len cap : Nat} {zs : List Int} (h : DX w N a len cap zs) :
    Calls Tryd.prog 22 #[.pointer (some ⟨N, 0, none⟩)] w fun e w' => (∃ s : ByteArray, e = .returned (.string s) ∧ s.size ≤ 30) ∧ DX w' N a len cap zs ∧ w.grownBy w' (some N) := by
  have H := hide h
  clear h
  go_enter Tryd.func22, Tryd.ntmps22
  go_wp2_with fail
  refine (strNew9 H.out tagD _ _ 14 _ 30 rfl rfl rfl (by decide) (by decide) (by decide)).mono ?_
  rintro e w1 ⟨⟨s, rfl, hs⟩, hd1, hg1⟩
  go_wp2
  go_ret
  exact ⟨⟨s, rfl, hs⟩, hd1, hg1⟩

set_option maxHeartbeats 1000000 in
theorem drawParseTags_any {w : World} {B : Nat} {a : Option Addr} {len : Nat} {zs : List Int} (h : CodeIn w B a len zs) (cap : Nat) :
    Calls Tryd.prog 8 #[.slice a len cap] w fun e w' => (∃ s : ByteArray, e = .returned (.string s) ∧ s.size ≤ 30) ∧ Below w.heap.size w w' := by
  have H := hide h
  clear h
  go_enter Tryd.func8, Tryd.ntmps8
  go_wp2_with fail
  refine (newDX H.out cap).mono ?_
  rintro e w1 ⟨rfl, hd1, hb1⟩
  have H1 := hide hd1
  clear hd1
  go_wp2_with fail
  refine (l9Draw_any H1.out).mono ?_
  rintro e w2 ⟨⟨s, rfl, hs⟩, _, hg2⟩
  go_wp2
  go_ret
  exact ⟨⟨s, rfl, hs⟩, dc_below hb1 hg2⟩

set_option maxHeartbeats 1000000 in
theorem drawMatchOk_any {w : World} {B : Nat} {a : Option Addr} {len : Nat} {zs : List Int} (h : CodeIn w B a len zs) (cap : Nat) :
    Calls Tryd.prog 11 #[.slice a len cap] w fun e w' => (∃ (s : ByteArray) (q : Bool) (k : Nat), e = .returned (.tuple #[.string s, .bool q, .string (bytesOf (tagL (verL (k : Int))))]) ∧ s.size ≤ 30 ∧ k ≤ 2) ∧ Below w.heap.size w w' := by
  have H := hide h
  clear h
  go_enter Tryd.func11, Tryd.ntmps11
  go_wp2_with fail
  refine (newDX H.out cap).mono ?_
  rintro e w1 ⟨rfl, hd1, hb1⟩
  have H1 := hide hd1
  have B1 := hide hb1
  clear hd1 hb1
  go_wp2_with fail
  refine (l9Draw_any H1.out).mono ?_
  rintro e w2 ⟨⟨s, rfl, hs⟩, hd2, hg2⟩
  have H2 := hide hd2
  have G2 := hide hg2
  clear hd2 hg2
  go_wp2_with fail
  refine (l1Once9 H2.out 2 (by decide) (by decide)).mono ?_
  rintro e w3 ⟨⟨q, rfl⟩, hd3, hg3⟩
  have H3 := hide hd3
  have G3 := hide (grown_trans G2.out hg3)
  clear hd3 hg3
  go_wp2_with fail
  refine (l1BelowX H3.out 3 (by decide) (by decide)).mono ?_
  rintro e w4 ⟨⟨k, rfl, hk⟩, hd4, hg4⟩
  have G4 := hide (grown_trans G3.out hg4)
  clear hd4 hg4
  have B4 := hide (dc_below B1.out G4.out)
  go_wp2_with fail
  refine (specTagText_any (k : Int) w4 (by omega)).mono ?_
  rintro e w5 ⟨rfl, b5⟩
  go_wp2
  go_ret3
  exact ⟨⟨s, q, k, rfl, hs, by omega⟩, B4.out.trans (b5.mono B4.out.size)⟩
end Go.Proofs.YtccehdlgpbeijaaDoor
