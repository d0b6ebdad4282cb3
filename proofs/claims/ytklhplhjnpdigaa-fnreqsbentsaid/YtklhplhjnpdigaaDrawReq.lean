/-
  The draws of heads: whatever is drawn, they are few and short, in memory of their own.
-/
import Derived.Test.YtklhplhjnpdigaaDrawX
import Derived.Test.YtklhplhjnpdigaaOwnHeads
namespace Go.Proofs.Ytklhplhjnpdigaa
open Go.RowKit M
set_option linter.unusedVariables false

def hNameD : List ByteArray := [⟨#[105, 102]⟩, ⟨#[100, 101, 112, 116, 104]⟩, ⟨#[120, 45, 97]⟩, ⟨#[104, 111, 115, 116]⟩, ⟨#[105, 102, 45, 109, 97, 116, 99, 104]⟩]
def hValD : List ByteArray := [⟨#[]⟩, ⟨#[48]⟩, ⟨#[105, 110, 102, 105, 110, 105, 116, 121]⟩, ⟨#[97, 32, 98]⟩, ⟨#[34, 118, 49, 34]⟩, ⟨#[40, 60, 49, 62, 41]⟩]

set_option maxHeartbeats 2000000 in
theorem l3DrawHeads_any {w : World} {N : Nat} {a : Option Addr} {len cap : Nat} {zs : List Int} (h : DX w N a len cap zs) :
    Calls Try.prog 22 #[.pointer (some ⟨N, 0, none⟩)] w fun e w' => (∃ (hs : List Hd) (n g c : Nat), FewH 2 hs ∧ n = hs.length ∧ e = .returned (.slice (some ⟨g, 0, none⟩) n c) ∧ w'.ownsRow w.heap.size 51 2 (.slice (some ⟨g, 0, none⟩) n c) n (hdCells hs)) ∧ DX w' N a len cap zs ∧ w.grownBy w' (some N) := by
  have hlt := h.lt
  have H : Hid (DX w N a len cap zs) := h
  clear h
  go_enter Try.func22, Try.ntmps22
  go_wp2_with fail
  refine (l1BelowX (H.out.alloc _) 3 (by decide) (by decide)).mono ?_
  rintro e w1 ⟨⟨k0, rfl, hk0⟩, hd1, hg1⟩
  have hgw : w.grownBy w1 (some N) := grown_trans (grown_alloc (grown_refl _ _) _) hg1
  have hown0 : w1.ownsRow w.heap.size 51 2 (.slice (some ⟨w.heap.size, 0, none⟩) 0 0) 0 (hdCells []) := ownsH_grown (World.ownsRow_made w #[] 0 (Nat.le_refl _) (by decide) rfl) hg1 hlt
  have HD : Hid (DX w1 N a len cap zs) := hd1
  have HG : Hid (w.grownBy w1 (some N)) := hgw
  clear hg1 hgw hd1
  go_wp2
  go_loopw [3, 4] (fun v i wr => ∃ (k : Nat) (hs : List Hd) (n g c : Nat), i = .int .i64 k ∧ v = .slice (some ⟨g, 0, none⟩) n c ∧ n = hs.length ∧ n + k ≤ 2 ∧ FewH n hs ∧ wr.ownsRow w.heap.size 51 2 (.slice (some ⟨g, 0, none⟩) n c) n (hdCells hs) ∧ DX wr N a len cap zs ∧ w.grownBy wr (some N)) (fun _ i _ => (intOf i).toNat)
  case atStart => exact ⟨k0, [], 0, w.heap.size, 0, rfl, rfl, rfl, by omega, ⟨Nat.le_refl _, fun _ h => by cases h⟩, hown0, HD.out, HG.out⟩
  case round =>
    obtain ⟨k, hs, n, g, c, rfl, rfl, hn, hnk, hf, hown, hd, hg⟩ := hrel
    have HN : Hid (n = hs.length) := hn
    have HF : Hid (FewH n hs) := hf
    have HD2 : Hid (DX wr N a len cap zs) := hd
    have HG2 : Hid (w.grownBy wr (some N)) := hg
    clear hn hf hd hg hown0
    by_cases h0 : 0 < k
    · have h0' : (0 : Int) < k := by omega
      go_wp2_with fail
      refine (strNewX HD2.out hNameD _ _ 5 _ rfl rfl rfl (by decide) (by decide) (by decide)).mono ?_
      rintro e w2 ⟨⟨x, rfl, hx⟩, hd2, hg2⟩
      have hown2 := ownsH_grown hown hg2 hlt
      have HG3 : Hid (w.grownBy w2 (some N)) := grown_trans HG2.out hg2
      have HD3 : Hid (DX w2 N a len cap zs) := hd2
      clear hd2 hg2
      go_wp2_with fail
      refine (strNewX HD3.out hValD _ _ 6 _ rfl rfl rfl (by decide) (by decide) (by decide)).mono ?_
      rintro e w3 ⟨⟨y, rfl, hy⟩, hd3, hg3⟩
      have hown3 := ownsH_grown hown2 hg3 hlt
      have HG4 : Hid (w.grownBy w3 (some N)) := grown_trans HG3.out hg3
      have HD4 : Hid (DX w3 N a len cap zs) := hd3
      clear hd3 hg3
      have hsz := HG4.out.size
      go_wp2_with (at_builtin; refine wp_append_head rfl _ _ rfl w.heap.size _ n hs rfl (hown3.alloc _) _ (x, y) rfl ?c0 ?c1 ?c2 ?c3 ?_)
      case c2 => omega
      case c3 => simp; omega
      intro g1 cap1 w4 ho4 hb4
      have HD5 : Hid (DX w4 N a len cap zs) := (HD4.out.alloc _).other hb4.size (fun k hk => hb4.block k (by omega))
      have HG5 : Hid (w.grownBy w4 (some N)) := grown_past (grown_alloc HG4.out _) hb4
      go_wp2
      go_roundw
      case rel => exact ⟨k - 1, hs ++ [(x, y)], n + 1, g1, cap1, by first | go_num | (congr 1; omega), rfl, by rw [List.length_append, ← HN.out]; rfl, by omega, HF.out.snoc (by show x.size ≤ 60; omega) (by show y.size ≤ 60; omega), ho4, HD5.out, HG5.out⟩
      case measure => simp [intOf]; omega
    · have hk : k = 0 := by omega
      subst hk
      go_wp2
      go_ret
      exact ⟨⟨hs, n, g, c, HF.out.mono (by omega), HN.out, rfl, hown⟩, HD2.out, HG2.out⟩

def bodyD : List ByteArray := [⟨#[]⟩, ⟨#[]⟩, ⟨#[97]⟩, ⟨#[104, 101, 108, 108, 111]⟩, ⟨#[60, 97, 47, 62]⟩, ⟨#[13, 10, 13, 10]⟩, ⟨#[120, 0, 255]⟩]
def methD : List ByteArray := [⟨#[71, 69, 84]⟩, ⟨#[80, 85, 84]⟩, ⟨#[77, 75, 67, 79, 76]⟩, ⟨#[68, 69, 76, 69, 84, 69]⟩, ⟨#[67, 79, 80, 89]⟩]
def pathD : List ByteArray := [⟨#[47]⟩, ⟨#[47, 97]⟩, ⟨#[47, 97, 47, 98]⟩, ⟨#[47, 97, 37, 50, 48, 98]⟩, ⟨#[120]⟩]

set_option maxHeartbeats 400000 in
theorem l3Body_any {w : World} {N : Nat} {a : Option Addr} {len cap : Nat} {zs : List Int} (h : DX w N a len cap zs) :
    Calls Try.prog 53 #[.pointer (some ⟨N, 0, none⟩)] w fun e w' => (∃ s : ByteArray, e = .returned (.string s) ∧ s.size ≤ 20) ∧ DX w' N a len cap zs ∧ w.grownBy w' (some N) := by
  have H : Hid (DX w N a len cap zs) := h
  clear h
  go_enter Try.func53, Try.ntmps53
  go_wp2_with fail
  refine (strNewX H.out bodyD _ _ 7 _ rfl rfl rfl (by decide) (by decide) (by decide)).mono ?_
  rintro e w1 ⟨⟨x, rfl, hx⟩, hd1, hg1⟩
  have HD : Hid (DX w1 N a len cap zs) := hd1
  have HG : Hid (w.grownBy w1 (some N)) := hg1
  clear hd1 hg1
  go_wp2
  go_ret
  exact ⟨⟨x, rfl, hx⟩, HD.out, HG.out⟩

theorem ownsH_base {w : World} {B C : Nat} {v : Value} {n : Nat} {xs : List Value} (h : w.ownsRow B 51 2 v n xs) (hC : C ≤ B) : w.ownsRow C 51 2 v n xs := by
  refine ⟨h.1, ?_⟩
  rcases h.2 with h0 | ⟨g, cap, cur, hv, hb, hr⟩
  · exact .inl h0
  · exact .inr ⟨g, cap, cur, hv, Nat.le_trans hC hb, hr⟩
theorem ownsH_set {w : World} {B g n c : Nat} {xs : List Value} {p : Addr} {u : Value} (h : w.ownsRow B 51 2 (.slice (some ⟨g, 0, none⟩) n c) n xs) (hp : p.block ≠ g) : (w.setCell p u).ownsRow B 51 2 (.slice (some ⟨g, 0, none⟩) n c) n xs := by
  refine ⟨h.1, ?_⟩
  rcases h.2 with h0 | ⟨g', cap, cur, hv, hb, hr, hq⟩
  · exact .inl h0
  · cases hv
    exact .inr ⟨g, c, cur, rfl, hb, (heap_setCell_other w p g u (fun e => hp e.symm)).trans hr, hq⟩
theorem DX.set4 {w : World} {N : Nat} {a : Option Addr} {len cap : Nat} {zs : List Int} {p : Addr} {u : Value} (h : DX w N a len cap zs) (hp : N < p.block) : DX (w.setCell p u) N a len cap zs :=
  h.other (by simp) (fun k hk => heap_setCell_other w p k u (by omega))

theorem below_sets {w : World} {C M : Nat} (h : C ≤ M) (a b c d : Value) : Below C w ((((w.setCell ⟨M, 0, none⟩ a).setCell ⟨M, 1, none⟩ b).setCell ⟨M, 2, none⟩ c).setCell ⟨M, 3, none⟩ d) := by
  have h1 : Below C w (w.setCell ⟨M, 0, none⟩ a) := (Below.refl C w).setCell h a
  have h2 : Below C w ((w.setCell ⟨M, 0, none⟩ a).setCell ⟨M, 1, none⟩ b) := h1.setCell h b
  have h3 : Below C w (((w.setCell ⟨M, 0, none⟩ a).setCell ⟨M, 1, none⟩ b).setCell ⟨M, 2, none⟩ c) := h2.setCell h c
  exact h3.setCell h d

/-- A box of four cells that may be written. -/
def Ret4 (w : World) (M : Nat) : Prop := M < w.heap.size ∧ (∃ v, w.cell? ⟨M, 0, none⟩ = some v) ∧ (∃ v, w.cell? ⟨M, 1, none⟩ = some v) ∧ (∃ v, w.cell? ⟨M, 2, none⟩ = some v) ∧ (∃ v, w.cell? ⟨M, 3, none⟩ = some v) ∧ w.frozen? ⟨M, 0, none⟩ = false ∧ w.frozen? ⟨M, 1, none⟩ = false ∧ w.frozen? ⟨M, 2, none⟩ = false ∧ w.frozen? ⟨M, 3, none⟩ = false
theorem Ret4.made (w : World) (T : TypeId) : Ret4 (w.alloc (Obj.cells #[Value.string { data := #[] }, Value.string { data := #[] }, Value.slice none 0 0, Value.string { data := #[] }] T)) w.heap.size :=
  ⟨by simp, ⟨_, by simp; rfl⟩, ⟨_, by simp; rfl⟩, ⟨_, by simp; rfl⟩, ⟨_, by simp; rfl⟩, by simp, by simp, by simp, by simp⟩
theorem Ret4.grown {w w' : World} {M N : Nat} (h : Ret4 w M) (hg : w.grownBy w' (some N)) (hN : N < M) : Ret4 w' M := by
  have hb : w'.heap[M]? = w.heap[M]? := hg.block M h.1 (by simp; omega)
  have hc : ∀ o, w'.cell? ⟨M, o, none⟩ = w.cell? ⟨M, o, none⟩ := fun o => World.cell?_of_block (a := ⟨M, o, none⟩) hb
  have hf : ∀ o, w'.frozen? ⟨M, o, none⟩ = w.frozen? ⟨M, o, none⟩ := fun o => World.frozen?_of_block (a := ⟨M, o, none⟩) hb
  obtain ⟨h0, h1, h2, h3, h4, h5, h6, h7, h8⟩ := h
  exact ⟨Nat.lt_of_lt_of_le h0 hg.size, by rw [hc]; exact h1, by rw [hc]; exact h2, by rw [hc]; exact h3, by rw [hc]; exact h4, by rw [hf]; exact h5, by rw [hf]; exact h6, by rw [hf]; exact h7, by rw [hf]; exact h8⟩

/-- A drawn request. -/
def DrawnR (w' : World) (B : Nat) (e : Ending) : Prop := ∃ (r : Rq) (g c : Nat), FewH 2 r.hs ∧ r.m.size ≤ 20 ∧ r.p.size ≤ 20 ∧ r.b.size ≤ 20 ∧ e = .returned (.agg #[.string r.m, .string r.p, .slice (some ⟨g, 0, none⟩) r.hs.length c, .string r.b]) ∧ w'.ownsRow B 51 2 (.slice (some ⟨g, 0, none⟩) r.hs.length c) r.hs.length (hdCells r.hs)

set_option maxHeartbeats 2000000 in
theorem l3Draw_any {w : World} {N : Nat} {a : Option Addr} {len cap : Nat} {zs : List Int} (h : DX w N a len cap zs) :
    Calls Try.prog 36 #[.pointer (some ⟨N, 0, none⟩)] w fun e w' => DrawnR w' w.heap.size e ∧ DX w' N a len cap zs ∧ w.grownBy w' (some N) := by
  have hlt := h.lt
  have H : Hid (DX w N a len cap zs) := h
  clear h
  go_enter Try.func36, Try.ntmps36
  have HA : Hid (DX (w.alloc (Obj.cells #[Value.string { data := #[] }, Value.string { data := #[] }, Value.slice none 0 0, Value.string { data := #[] }] 26)) N a len cap zs) := H.out.alloc _
  have HG0 : Hid (w.grownBy (w.alloc (Obj.cells #[Value.string { data := #[] }, Value.string { data := #[] }, Value.slice none 0 0, Value.string { data := #[] }] 26)) (some N)) := grown_alloc (grown_refl _ _) _
  go_wp2_with fail
  refine (strNewX HA.out methD _ _ 5 _ (by simp) rfl rfl (by decide) (by decide) (by decide)).mono ?_
  rintro e w1 ⟨⟨x, rfl, hx⟩, hd1, hg1⟩
  have HD1 : Hid (DX w1 N a len cap zs) := hd1
  have HG1 : Hid (w.grownBy w1 (some N)) := grown_trans HG0.out hg1
  have hz1 : w.heap.size < w1.heap.size := by have := hg1.size; simp at this; omega
  have hr1 : Ret4 w1 w.heap.size := (Ret4.made w 26).grown hg1 (by omega)
  have HR1 := hide hr1
  clear hd1 hg1 hr1
  go_wp2_with fail
  refine (strNewX HD1.out pathD _ _ 5 _ rfl rfl rfl (by decide) (by decide) (by decide)).mono ?_
  rintro e w2 ⟨⟨y, rfl, hy⟩, hd2, hg2⟩
  have HD2 : Hid (DX w2 N a len cap zs) := hd2
  have HG2 : Hid (w.grownBy w2 (some N)) := grown_trans HG1.out hg2
  have HR2 := hide (HR1.out.grown hg2 (by omega))
  have hz2 : w.heap.size < w2.heap.size := by have := hg2.size; omega
  clear hd2 hg2
  go_wp2_with fail
  refine (l3DrawHeads_any HD2.out).mono ?_
  rintro e w3 ⟨⟨hs, n, g, c, hf, hn, rfl, hown⟩, hd3, hg3⟩
  have HD3 : Hid (DX w3 N a len cap zs) := hd3
  have HG3 : Hid (w.grownBy w3 (some N)) := grown_trans HG2.out hg3
  have HR3 := hide (HR2.out.grown hg3 (by omega))
  have HF := hide hf
  have HN := hide hn
  have hz3 : w2.heap.size ≤ w3.heap.size := hg3.size
  clear hd3 hg3 hf hn
  go_wp2_with fail
  refine (l3Body_any HD3.out).mono ?_
  rintro e w4 ⟨⟨z, rfl, hz⟩, hd4, hg4⟩
  have HD4 : Hid (DX w4 N a len cap zs) := hd4
  have HG4 : Hid (w.grownBy w4 (some N)) := grown_trans HG3.out hg4
  have hr4 := HR3.out.grown hg4 (by omega)
  have hown4 := ownsH_grown hown hg4 (by omega)
  have hz4 : w3.heap.size ≤ w4.heap.size := hg4.size
  have HO := hide hown4
  clear hd4 hg4 hown hown4
  obtain ⟨_, ⟨t0, r0⟩, ⟨t1, r1⟩, ⟨t2, r2⟩, ⟨t3, r3⟩, f0, f1, f2, f3⟩ := hr4
  go_wp2
  refine bodyPost_ret (v := .agg #[.string x, .string y, .slice (some ⟨g, 0, none⟩) n c, .string z]) (by simp [results, Try.results36, go_sem, r0, r1, r2, r3]) rfl ⟨⟨⟨x, y, hs, z⟩, g, c, HF.out, hx, hy, hz, by rw [← HN.out], ?_⟩, ?_, ?_⟩
  · have h4 := HO.out
    have hgl := (h4.lt g rfl).1
    rw [← HN.out]
    have h5 : w4.ownsRow w.heap.size 51 2 (.slice (some ⟨g, 0, none⟩) n c) n (hdCells hs) := ownsH_base h4 (by omega)
    exact ownsH_set (ownsH_set (ownsH_set (ownsH_set h5 (by simp; omega)) (by simp; omega)) (by simp; omega)) (by simp; omega)
  · exact (((HD4.out.set4 (by simp; omega)).set4 (by simp; omega)).set4 (by simp; omega)).set4 (by simp; omega)
  · exact grown_past HG4.out (below_sets (Nat.le_refl _) _ _ _ _)
end Go.Proofs.Ytklhplhjnpdigaa
