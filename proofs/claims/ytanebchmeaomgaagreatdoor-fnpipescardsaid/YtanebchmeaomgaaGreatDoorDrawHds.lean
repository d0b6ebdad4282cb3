/-
  The draws of heads: whatever is drawn, they are few and short, in memory of their own.
-/
import Derived.Test.YtanebchmeaomgaaGreatDoorMathSmall
import Derived.Test.YtanebchmeaomgaaGreatDoorSameReqI
namespace Go.Proofs.YtanebchmeaomgaaGreatDoor
open Go.RowKit M
set_option linter.unusedVariables false

def hNameD : List ByteArray := [⟨#[105, 102]⟩, ⟨#[100, 101, 112, 116, 104]⟩, ⟨#[120, 45, 97]⟩, ⟨#[104, 111, 115, 116]⟩, ⟨#[105, 102, 45, 109, 97, 116, 99, 104]⟩]
def hValD : List ByteArray := [⟨#[]⟩, ⟨#[48]⟩, ⟨#[105, 110, 102, 105, 110, 105, 116, 121]⟩, ⟨#[97, 32, 98]⟩, ⟨#[34, 118, 49, 34]⟩, ⟨#[40, 60, 49, 62, 41]⟩]

set_option maxHeartbeats 2000000 in
theorem l3DrawHeads_any {w : World} {N : Nat} {a : Option Addr} {len cap : Nat} {zs : List Int} (h : DX w N a len cap zs) :
    Calls Tryz.prog 126 #[.pointer (some ⟨N, 0, none⟩)] w fun e w' => (∃ (hs : List Hd) (n g c : Nat), FewH 2 hs ∧ n = hs.length ∧ e = .returned (.slice (some ⟨g, 0, none⟩) n c) ∧ w'.ownsRow w.heap.size 82 2 (.slice (some ⟨g, 0, none⟩) n c) n (hdCells hs)) ∧ DX w' N a len cap zs ∧ w.grownBy w' (some N) := by
  have hlt := h.lt
  have H : Hid (DX w N a len cap zs) := h
  clear h
  go_enter Tryz.func126, Tryz.ntmps126
  go_wp2_with fail
  refine (l1BelowX (H.out.alloc _) 3 (by decide) (by decide)).mono ?_
  rintro e w1 ⟨⟨k0, rfl, hk0⟩, hd1, hg1⟩
  have hgw : w.grownBy w1 (some N) := grown_trans (grown_alloc (grown_refl _ _) _) hg1
  have hown0 : w1.ownsRow w.heap.size 82 2 (.slice (some ⟨w.heap.size, 0, none⟩) 0 0) 0 (hdCells []) := ownsH_grown (World.ownsRow_made w #[] 0 (Nat.le_refl _) (by decide) rfl) hg1 hlt
  have HD : Hid (DX w1 N a len cap zs) := hd1
  have HG : Hid (w.grownBy w1 (some N)) := hgw
  clear hg1 hgw hd1
  go_wp2
  go_loopw [3, 4] (fun v i wr => ∃ (k : Nat) (hs : List Hd) (n g c : Nat), i = .int .i64 k ∧ v = .slice (some ⟨g, 0, none⟩) n c ∧ n = hs.length ∧ n + k ≤ 2 ∧ FewH n hs ∧ wr.ownsRow w.heap.size 82 2 (.slice (some ⟨g, 0, none⟩) n c) n (hdCells hs) ∧ DX wr N a len cap zs ∧ w.grownBy wr (some N)) (fun _ i _ => (intOf i).toNat)
  case atStart => exact ⟨k0, [], 0, w.heap.size, 0, rfl, rfl, rfl, by omega, ⟨Nat.le_refl _, fun _ h => by cases h⟩, hown0, HD.out, HG.out⟩
  case round =>
    obtain ⟨k, hs, n, g, c, rfl, rfl, hn, hnk, hf, hown, hd, hg⟩ := hrel
    have HN : Hid (n = hs.length) := hn
    have HF : Hid (FewH n hs) := hf
    have HD2 : Hid (DX wr N a len cap zs) := hd
    have HG2 : Hid (w.grownBy wr (some N)) := hg
    clear hn hf hd hg hown0
    by_cases h0 : 0 < k
    · have h0' : (0 : Int) < k := by omega
      go_wp2_with fail
      refine (strNewX HD2.out hNameD _ _ 5 _ rfl rfl rfl (by decide) (by decide) (by decide)).mono ?_
      rintro e w2 ⟨⟨x, rfl, hx⟩, hd2, hg2⟩
      have hown2 := ownsH_grown hown hg2 hlt
      have HG3 : Hid (w.grownBy w2 (some N)) := grown_trans HG2.out hg2
      have HD3 : Hid (DX w2 N a len cap zs) := hd2
      clear hd2 hg2
      go_wp2_with fail
      refine (strNewX HD3.out hValD _ _ 6 _ rfl rfl rfl (by decide) (by decide) (by decide)).mono ?_
      rintro e w3 ⟨⟨y, rfl, hy⟩, hd3, hg3⟩
      have hown3 := ownsH_grown hown2 hg3 hlt
      have HG4 : Hid (w.grownBy w3 (some N)) := grown_trans HG3.out hg3
      have HD4 : Hid (DX w3 N a len cap zs) := hd3
      clear hd3 hg3
      have hsz := HG4.out.size
      go_wp2_with (at_builtin; refine wp_append_head rfl _ _ rfl w.heap.size _ n hs rfl (hown3.alloc _) _ (x, y) rfl ?c0 ?c1 ?c2 ?c3 ?_)
      case c2 => omega
      case c3 => simp; omega
      intro g1 cap1 w4 ho4 hb4
      have HD5 : Hid (DX w4 N a len cap zs) := (HD4.out.alloc _).other hb4.size (fun k hk => hb4.block k (by omega))
      have HG5 : Hid (w.grownBy w4 (some N)) := grown_past (grown_alloc HG4.out _) hb4
      go_wp2
      go_roundw
      case rel => exact ⟨k - 1, hs ++ [(x, y)], n + 1, g1, cap1, by first | go_num | (congr 1; omega), rfl, by rw [List.length_append, ← HN.out]; rfl, by omega, HF.out.snoc (by show x.size ≤ 60; omega) (by show y.size ≤ 60; omega), ho4, HD5.out, HG5.out⟩
      case measure => simp [intOf]; omega
    · have hk : k = 0 := by omega
      subst hk
      go_wp2
      go_ret
      exact ⟨⟨hs, n, g, c, HF.out.mono (by omega), HN.out, rfl, hown⟩, HD2.out, HG2.out⟩

def bodyD : List ByteArray := [⟨#[]⟩, ⟨#[]⟩, ⟨#[97]⟩, ⟨#[104, 101, 108, 108, 111]⟩, ⟨#[60, 97, 47, 62]⟩, ⟨#[13, 10, 13, 10]⟩, ⟨#[120, 0, 255]⟩]
def methD : List ByteArray := [⟨#[71, 69, 84]⟩, ⟨#[80, 85, 84]⟩, ⟨#[77, 75, 67, 79, 76]⟩, ⟨#[68, 69, 76, 69, 84, 69]⟩, ⟨#[67, 79, 80, 89]⟩]
def pathD : List ByteArray := [⟨#[47]⟩, ⟨#[47, 97]⟩, ⟨#[47, 97, 47, 98]⟩, ⟨#[47, 97, 37, 50, 48, 98]⟩, ⟨#[120]⟩]

set_option maxHeartbeats 400000 in
theorem l3Body_any {w : World} {N : Nat} {a : Option Addr} {len cap : Nat} {zs : List Int} (h : DX w N a len cap zs) :
    Calls Tryz.prog 127 #[.pointer (some ⟨N, 0, none⟩)] w fun e w' => (∃ s : ByteArray, e = .returned (.string s) ∧ s.size ≤ 20) ∧ DX w' N a len cap zs ∧ w.grownBy w' (some N) := by
  have H : Hid (DX w N a len cap zs) := h
  clear h
  go_enter Tryz.func127, Tryz.ntmps127
  go_wp2_with fail
  refine (strNewX H.out bodyD _ _ 7 _ rfl rfl rfl (by decide) (by decide) (by decide)).mono ?_
  rintro e w1 ⟨⟨x, rfl, hx⟩, hd1, hg1⟩
  have HD : Hid (DX w1 N a len cap zs) := hd1
  have HG : Hid (w.grownBy w1 (some N)) := hg1
  clear hd1 hg1
  go_wp2
  go_ret
  exact ⟨⟨x, rfl, hx⟩, HD.out, HG.out⟩

theorem ownsH_base {w : World} {B C : Nat} {v : Value} {n : Nat} {xs : List Value} (h : w.ownsRow B 82 2 v n xs) (hC : C ≤ B) : w.ownsRow C 82 2 v n xs := by
  refine ⟨h.1, ?_⟩
  rcases h.2 with h0 | ⟨g, cap, cur, hv, hb, hr⟩
  · exact .inl h0
  · exact .inr ⟨g, cap, cur, hv, Nat.le_trans hC hb, hr⟩
theorem ownsH_set {w : World} {B g n c : Nat} {xs : List Value} {p : Addr} {u : Value} (h : w.ownsRow B 82 2 (.slice (some ⟨g, 0, none⟩) n c) n xs) (hp : p.block ≠ g) : (w.setCell p u).ownsRow B 82 2 (.slice (some ⟨g, 0, none⟩) n c) n xs := by
  refine ⟨h.1, ?_⟩
  rcases h.2 with h0 | ⟨g', cap, cur, hv, hb, hr, hq⟩
  · exact .inl h0
  · cases hv
    exact .inr ⟨g, c, cur, rfl, hb, (heap_setCell_other w p g u (fun e => hp e.symm)).trans hr, hq⟩
theorem DX.set4 {w : World} {N : Nat} {a : Option Addr} {len cap : Nat} {zs : List Int} {p : Addr} {u : Value} (h : DX w N a len cap zs) (hp : N < p.block) : DX (w.setCell p u) N a len cap zs :=
  h.other (by simp) (fun k hk => heap_setCell_other w p k u (by omega))

theorem below_sets {w : World} {C M : Nat} (h : C ≤ M) (a b c d : Value) : Below C w ((((w.setCell ⟨M, 0, none⟩ a).setCell ⟨M, 1, none⟩ b).setCell ⟨M, 2, none⟩ c).setCell ⟨M, 3, none⟩ d) := by
  have h1 : Below C w (w.setCell ⟨M, 0, none⟩ a) := (Below.refl C w).setCell h a
  have h2 : Below C w ((w.setCell ⟨M, 0, none⟩ a).setCell ⟨M, 1, none⟩ b) := h1.setCell h b
  have h3 : Below C w (((w.setCell ⟨M, 0, none⟩ a).setCell ⟨M, 1, none⟩ b).setCell ⟨M, 2, none⟩ c) := h2.setCell h c
  exact h3.setCell h d

/-- A box of four cells that may be written. -/
def Ret4 (w : World) (M : Nat) : Prop := M < w.heap.size ∧ (∃ v, w.cell? ⟨M, 0, none⟩ = some v) ∧ (∃ v, w.cell? ⟨M, 1, none⟩ = some v) ∧ (∃ v, w.cell? ⟨M, 2, none⟩ = some v) ∧ (∃ v, w.cell? ⟨M, 3, none⟩ = some v) ∧ w.frozen? ⟨M, 0, none⟩ = false ∧ w.frozen? ⟨M, 1, none⟩ = false ∧ w.frozen? ⟨M, 2, none⟩ = false ∧ w.frozen? ⟨M, 3, none⟩ = false
theorem Ret4.made (w : World) (T : TypeId) : Ret4 (w.alloc (Obj.cells #[Value.string { data := #[] }, Value.string { data := #[] }, Value.slice none 0 0, Value.string { data := #[] }] T)) w.heap.size :=
  ⟨by simp, ⟨_, by simp; rfl⟩, ⟨_, by simp; rfl⟩, ⟨_, by simp; rfl⟩, ⟨_, by simp; rfl⟩, by simp, by simp, by simp, by simp⟩
theorem Ret4.grown {w w' : World} {M N : Nat} (h : Ret4 w M) (hg : w.grownBy w' (some N)) (hN : N < M) : Ret4 w' M := by
  have hb : w'.heap[M]? = w.heap[M]? := hg.block M h.1 (by simp; omega)
  have hc : ∀ o, w'.cell? ⟨M, o, none⟩ = w.cell? ⟨M, o, none⟩ := fun o => World.cell?_of_block (a := ⟨M, o, none⟩) hb
  have hf : ∀ o, w'.frozen? ⟨M, o, none⟩ = w.frozen? ⟨M, o, none⟩ := fun o => World.frozen?_of_block (a := ⟨M, o, none⟩) hb
  obtain ⟨h0, h1, h2, h3, h4, h5, h6, h7, h8⟩ := h
  exact ⟨Nat.lt_of_lt_of_le h0 hg.size, by rw [hc]; exact h1, by rw [hc]; exact h2, by rw [hc]; exact h3, by rw [hc]; exact h4, by rw [hf]; exact h5, by rw [hf]; exact h6, by rw [hf]; exact h7, by rw [hf]; exact h8⟩
end Go.Proofs.YtanebchmeaomgaaGreatDoor
