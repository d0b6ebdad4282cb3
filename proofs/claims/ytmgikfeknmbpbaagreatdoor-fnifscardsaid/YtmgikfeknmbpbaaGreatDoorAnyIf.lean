/-
  Lists of what must be that are drawn and bent: spec.l14Any.
-/
import Derived.Test.YtmgikfeknmbpbaaGreatDoorDrawI
import Derived.Test.YtmgikfeknmbpbaaGreatDoorGenBox
import Derived.Deep.RegionHeld3
import Derived.Deep.QuietTactic
namespace Go.Proofs.YtmgikfeknmbpbaaGreatDoor
open Go.RowKit M
set_option linter.unusedVariables false

theorem intAt {w : World} {N : Nat} {a : Option Addr} {len cap : Nat} {zs : List Int} (h : DX w N a len cap zs) (ss : List Int) (n M : Nat) (hM : BoxV w M (ss.map (Value.int .i64))) (hMN : M ≠ N) (hn : ss.length = n) (h0 : 0 < n) (h1 : n ≤ 256) (p : Int → Prop) (hp : ∀ i, i < n → p (ss.getD i 0)) :
    Calls Tryz.prog 37 #[.pointer (some ⟨N, 0, none⟩), .slice (some ⟨M, 0, none⟩) n n] w fun e w' => (∃ x : Int, e = .returned (.int .i64 x) ∧ p x) ∧ DX w' N a len cap zs ∧ w.grownBy w' (some N) := by
  obtain ⟨c, h⟩ := h
  refine (l1Int_any N M a len cap n zs ss c w h.cur h.code h.bN h.hlen h0 h1 hMN (fun j hj => (hM.2 j _ ?_).1)).mono ?_
  · have hj' : j < ss.length := by omega
    simp [List.getD, hj']
  · rintro e w1 ⟨rfl, hc1, hg1⟩
    exact ⟨⟨_, rfl, hp _ (pick_lt _ _ _ _ h0)⟩, ⟨_, h.grown hg1 hc1⟩, hg1⟩
theorem strAt {w : World} {N : Nat} {a : Option Addr} {len cap : Nat} {zs : List Int} (h : DX w N a len cap zs) (ss : List ByteArray) (n M z : Nat) (hM : BoxV w M (ss.map Value.string)) (hMN : M ≠ N) (hn : ss.length = n) (h0 : 0 < n) (h1 : n ≤ 256) (hz : ∀ s ∈ ss, s.size ≤ z) :
    Calls Tryz.prog 25 #[.pointer (some ⟨N, 0, none⟩), .slice (some ⟨M, 0, none⟩) n n] w fun e w' => (∃ s : ByteArray, e = .returned (.string s) ∧ s.size ≤ z) ∧ DX w' N a len cap zs ∧ w.grownBy w' (some N) := by
  obtain ⟨c, h⟩ := h
  refine (l1Str_any N M a len cap n zs ss c w h.cur h.code h.bN h.hlen h0 h1 hMN (fun j hj => (hM.2 j _ ?_).1)).mono ?_
  · have hj' : j < ss.length := by omega
    simp [List.getD, hj']
  · rintro e w1 ⟨rfl, hc1, hg1⟩
    exact ⟨⟨_, rfl, getD_mem ss _ _ (fun s => s.size ≤ z) hz (Nat.zero_le _)⟩, ⟨_, h.grown hg1 hc1⟩, hg1⟩
/-- A slice written out with one element is a row of its own. -/
theorem OwnG.one {α : Type} {cs : α → List Value} {K : Nat} {tE : TypeId} (w : World) (B : Nat) (hB : B ≤ w.heap.size) (t : α) (C : Array Value) (hC : C = (cs t).toArray) (hK : (cs t).length = K) : OwnG tE K cs (w.alloc (Obj.cells C tE)) B (.slice (some ⟨w.heap.size, 0, none⟩) 1 1) [t] := by
  subst hC
  refine ⟨by simp [hK], .inr ⟨w.heap.size, 1, (cs t).toArray, rfl, hB, heap_alloc_new w _, Nat.le_refl _, by decide, by simp [hK], by simp [← hK]⟩⟩
/-- In the midst of it. -/
structure An (w0 w : World) (N : Nat) (a : Option Addr) (len cap : Nat) (zs : List Int) (B g n c H : Nat) (ss : List Sl) (ls : List (List Cn)) : Prop where
  d : DX w N a len cap zs
  r : RowsF w B g n c H ss ls
  t : w0.grownBy w (some N)
  nB : N < B
  z : B ≤ w.heap.size
theorem An.alloc {w0 w : World} {N : Nat} {a : Option Addr} {len cap : Nat} {zs : List Int} {B g n c H : Nat} {ss : List Sl} {ls : List (List Cn)} (h : An w0 w N a len cap zs B g n c H ss ls) (o : Obj) : An w0 (w.alloc o) N a len cap zs B g n c H ss ls :=
  ⟨h.d.alloc o, h.r.next ((Below.refl _ _).alloc (Nat.le_refl _) o), grown_alloc h.t o, h.nB, by have := h.z; simp; omega⟩
theorem An.grown {w0 w w' : World} {N : Nat} {a : Option Addr} {len cap : Nat} {zs : List Int} {B g n c H : Nat} {ss : List Sl} {ls : List (List Cn)} (h : An w0 w N a len cap zs B g n c H ss ls) (d : DX w' N a len cap zs) (t : w.grownBy w' (some N)) : An w0 w' N a len cap zs B g n c H ss ls :=
  ⟨d, h.r.grown t h.nB, grown_trans h.t t, h.nB, Nat.le_trans h.z t.size⟩
theorem An.drew {w0 w : World} {N : Nat} {a : Option Addr} {len cap : Nat} {zs : List Int} {B g n c H : Nat} {ss : List Sl} {ls : List (List Cn)} (h : An w0 w N a len cap zs B g n c H ss ls) : An w0 w.drew N a len cap zs B g n c H ss ls :=
  ⟨h.d.below (below_drewG (Below.refl _ w)), h.r.next (below_drewG (Below.refl _ w)), ⟨h.t.os, h.t.tape, h.t.output, h.t.size, h.t.block⟩, h.nB, h.z⟩
theorem An.c0 {w0 w : World} {N : Nat} {a : Option Addr} {len cap : Nat} {zs : List Int} {B g n c H : Nat} {s0 : Sl} {ss : List Sl} {ls : List (List Cn)} (h : An w0 w N a len cap zs B g n c H (s0 :: ss) ls) : w.cell? ⟨g, 0, none⟩ = some (.slice (some ⟨s0.b, 0, none⟩) s0.n s0.c) := by
  have := (h.r.own.row ciS_len).2.2.2.2.2.2 0 (by simp) 0 _ rfl
  simpa [Sl.v] using this
/-- What l14Any hands back. -/
def AnyI (B : Nat) (e : Ending) (w' : World) : Prop := ∃ (ls : List (List Cn)) (v : Value), e = .returned v ∧ FewI 7 3 ls ∧ Own w' v (.l (ls.map dCs)) (IvG B w'.heap.size)
theorem FewI.up {m k m' k' : Nat} {ls : List (List Cn)} (h : FewI m k ls) (h1 : m ≤ m') (h2 : k ≤ k') : FewI m' k' ls :=
  ⟨Nat.le_trans h.1 h1, fun cs hc => ⟨Nat.le_trans (h.2 cs hc).1 h2, (h.2 cs hc).2⟩⟩
/-- The row's end, with whatever stands at the cursor. -/
theorem An.done {w0 w : World} {N : Nat} {a : Option Addr} {len cap : Nat} {zs : List Int} {g n c H m k : Nat} {ss : List Sl} {ls : List (List Cn)} (h : An w0 w N a len cap zs w0.heap.size g n c H ss ls) (hf : FewI m k ls) (hm : m ≤ 7) (hk : k ≤ 3) :
    AnyI w0.heap.size (.returned (.slice (some ⟨g, 0, none⟩) n c)) w ∧ DX w N a len cap zs ∧ w0.grownBy w (some N) :=
  ⟨⟨ls, _, rfl, hf.up hm hk, h.r.r.done⟩, h.d, h.t⟩
/-- One more list, just made. -/
theorem An.snoc {w0 w w' : World} {N : Nat} {a : Option Addr} {len cap : Nat} {zs : List Int} {B g n c H g' n' c' : Nat} {ss : List Sl} {ls : List (List Cn)} {s : Sl} {cs : List Cn} (h : An w0 w N a len cap zs B g n c H ss ls) (hz : w0.heap.size = B)
    (ho : OwnG 41 1 ciS w' B (.slice (some ⟨g', 0, none⟩) n' c') (ss ++ [s])) (hb : Below B w w') (hg : w.grownBy w' (some g)) (hat : g' = g ∨ g' = w.heap.size) (hl : H ≤ s.b) (hoc : OwnG 57 3 ciC w s.b (.slice (some ⟨s.b, 0, none⟩) s.n s.c) cs) : An w0 w' N a len cap zs B g' n' c' w'.heap.size (ss ++ [s]) (ls ++ [cs]) := by
  have hlt := World.ownsRow.lt hoc s.b rfl
  have hnB := h.nB
  have hzB := h.z
  refine ⟨h.d.other hb.size (fun i hi => hb.block i (by omega)), h.r.snoc ho hg hat s.b (s.b + 1) ((own_of_conds hoc).wide (fun y hy => by subst hy; exact ⟨Nat.le_refl _, Nat.lt_succ_self _⟩)) hl (by omega) hoc, grown_belowQ h.t hb (by omega), hnB, Nat.le_trans hzB hb.size⟩

theorem An.after {w0 w w1 : World} {N : Nat} {a : Option Addr} {len cap : Nat} {zs : List Int} {B g n c H : Nat} {s0 : Sl} {sr : List Sl} {c0 : List Cn} {cr : List (List Cn)} (h : An w0 w N a len cap zs B g n c H (s0 :: sr) (c0 :: cr)) (hg : w.grownBy w1 (some s0.b)) : w1.cell? ⟨g, 0, none⟩ = some (.slice (some ⟨s0.b, 0, none⟩) s0.n s0.c) ∧ w1.frozen? ⟨g, 0, none⟩ = false := by
  have f3 : s0.b ≠ g := (h.r.f (by simp) (by simp)).2.2
  obtain ⟨_, _, _, _, e5, e6, _⟩ := h.r.own.row ciS_len
  have e : w1.heap[g]? = w.heap[g]? := hg.block g e5 (fun e => f3 (by have := Option.some.inj e; first | exact this | exact this.symm))
  have h6 := e6 0
  refine ⟨(World.cell?_of_block (a := ⟨g, 0, none⟩) e).trans h.c0, ?_⟩
  simp only [World.frozen?, e] at h6 ⊢
  exact h6
theorem An.fin {w0 w w1 : World} {N : Nat} {a : Option Addr} {len cap : Nat} {zs : List Int} {g n c H g' n' c' : Nat} {s0 : Sl} {sr : List Sl} {c0 : List Cn} {cr : List (List Cn)} {t : Cn} (h : An w0 w N a len cap zs w0.heap.size g n c H (s0 :: sr) (c0 :: cr)) (hf : FewI 2 2 (c0 :: cr)) (ht : SmC t)
    (ho : OwnG 57 3 ciC w1 w0.heap.size (.slice (some ⟨g', 0, none⟩) n' c') (c0 ++ [t])) (hb : Below w0.heap.size w w1) (hg : w.grownBy w1 (some s0.b)) (hat : g' = s0.b ∨ g' = w.heap.size) :
    AnyI w0.heap.size (.returned (.slice (some ⟨g, 0, none⟩) n c)) (w1.setCell ⟨g, 0, none⟩ (.slice (some ⟨g', 0, none⟩) n' c')) ∧ DX (w1.setCell ⟨g, 0, none⟩ (.slice (some ⟨g', 0, none⟩) n' c')) N a len cap zs ∧ w0.grownBy (w1.setCell ⟨g, 0, none⟩ (.slice (some ⟨g', 0, none⟩) n' c')) (some N) := by
  have hgB := h.r.r.num.2.2.2
  have hnB := h.nB
  have hzB := h.z
  have hsz : (w1.setCell ⟨g, 0, none⟩ (.slice (some ⟨g', 0, none⟩) n' c')).heap.size = w1.heap.size := by simp
  refine ⟨⟨(c0 ++ [t]) :: cr, _, rfl, ⟨by have := hf.1; simp at this ⊢; omega, fun cs hc => ?_⟩, by rw [hsz]; exact h.r.turn0 hzB ho hg hat⟩, (h.d.other hb.size (fun i hi => hb.block i (by omega))).setAbove _ _ (by show N < g; omega), grown_setQ (grown_belowQ h.t hb (by omega)) _ (by omega)⟩
  rcases List.mem_cons.1 hc with e | e
  · subst e
    have h0 := hf.2 c0 (by simp)
    exact ⟨by rw [List.length_append]; have := h0.1; simp; omega, fun y hy => by
      rcases List.mem_append.1 hy with e | e
      · exact h0.2 y e
      · obtain rfl := List.mem_singleton.1 e; exact ht⟩
  · have h0 := hf.2 cs (List.mem_cons_of_mem _ e)
    exact ⟨by omega, h0.2⟩

set_option maxRecDepth 100000 in
set_option maxHeartbeats 16000000 in
theorem l14Any_any {w : World} {N : Nat} {a : Option Addr} {len cap : Nat} {zs : List Int} (h : DX w N a len cap zs) :
    Calls Tryz.prog 20 #[.pointer (some ⟨N, 0, none⟩)] w fun e w' => AnyI w.heap.size e w' ∧ DX w' N a len cap zs ∧ w.grownBy w' (some N) := by
  have hNl := h.lt
  have HD0 := hide (l14Draw_any h)
  go_enter Tryz.func20, Tryz.ntmps20
  go_wp2_with fail
  refine HD0.out.mono ?_
  rintro e w1 ⟨⟨ls, g, n, c, H, ss, rfl, hF, h1, hR⟩, dx1, g1⟩
  have HL := hide hF
  have HA1 := hide (show An w w1 N a len cap zs w.heap.size g n c H ss ls from ⟨dx1, hR, g1, hNl, g1.size⟩)
  have D1 := hide dx1
  clear h HD0 hF hR dx1 g1
  go_wp2_with fail
  refine (l1BelowX D1.out 8 (by decide) (by decide)).mono ?_
  rintro e w2 ⟨⟨k2, rfl, hk2⟩, dx2, g2⟩
  have HA2 := hide (HA1.out.grown dx2 g2)
  clear D1 dx2 g2 HA1
  obtain ⟨z, hz⟩ : ∃ z : Int, (k2 : Int) = z := ⟨_, rfl⟩
  rw [hz] at hk2 ⊢
  clear hz
  have hn := hide HA2.out.r.r.num.1
  by_cases h0 : z = 0
  · subst h0
    have bA := (Below.refl w2.heap.size w2).alloc (Nat.le_refl _) (Obj.cells #[] 57)
    have OA := hide (OwnG.made (tE := 57) (K := 3) (cs := ciC) w2 w2.heap.size (Nat.le_refl _))
    have HA3 := hide (HA2.out.alloc (Obj.cells #[] 57))
    have bB := (Below.refl _ _).alloc (Nat.le_refl _) (o := Obj.cells #[.slice (some ⟨w2.heap.size, 0, none⟩) 0 0] 41) (w := w2.alloc (Obj.cells #[] 57))
    have HA4 := hide (HA3.out.alloc (Obj.cells #[.slice (some ⟨w2.heap.size, 0, none⟩) 0 0] 41))
    have OB := hide (OA.out.next bB)
    have HO4 := hide HA4.out.r.own
    have hzB := HA4.out.z
    have hln : ss.length + 1 ≤ 100000000000 := by have e1 := HA2.out.r.len; have e2 := HL.out.1; omega
    have HTOP := hide HA2.out.r.top
    clear bA bB HA3 OA
    go_wp2_with (at_builtin; refine wp_append_gen 24 Tryz.underlying24 (.slice none 0 0) 24 infoSd rfl (by decide) (by decide) rfl _ _ rfl w.heap.size _ ss rfl HO4.out ciS_len _ (⟨w2.heap.size, 0, 0⟩ : Sl) rfl (fun i v hv => by match i with | 0 => (cases hv; simp [Sl.v]) | i + 1 => cases hv) (ciS_one _) hln hzB ?_)
    intro g9 n9 c9 w9 hn9 hO9 hb9 hg9 hat
    have HA9 := hide (HA4.out.snoc rfl hO9 hb9 hg9 (by rcases hat with e2 | e2; exact .inl (Option.some.inj e2).symm; exact .inr (by rw [e2]; simp)) HTOP.out OB.out)
    clear hO9 hb9 hg9 hn9 hat HO4 HA4
    go_wp2
    go_ret
    exact HA9.out.done (HL.out.snoc (cs := []) (Nat.zero_le _) (fun x hx => by cases hx)) (by decide) (by decide)
  by_cases h1' : z = 1
  · subst h1'
    obtain ⟨c0, cr, rfl⟩ : ∃ c0 cr, ls = c0 :: cr := by
      cases ls with
      | nil => exact absurd h1 (by decide)
      | cons x y => exact ⟨x, y, rfl⟩
    obtain ⟨s0, sr, rfl⟩ : ∃ s0 sr, ss = s0 :: sr := by
      cases ss with
      | nil => exact absurd HA2.out.r.len (by simp)
      | cons x y => exact ⟨x, y, rfl⟩
    have hn0 : 0 < n := by have := hn.out; simp at this; omega
    have hn1 : (0 : Int) < n := by omega
    have hc0 : c0.length + 1 ≤ 100000000000 := by have := (HL.out.2 c0 (by simp)).1; omega
    have HA0 := hide HA2.out.drew
    clear HA2 hn h1 hk2 h0
    go_wp2_with fail
    refine wp_region_held_drew (S := (fun _ => True)) (by kernel_rfl) True.intro (fun hHeld => ?_)
    clear hHeld
    obtain ⟨wd, hwd⟩ : ∃ X, w2.drew = X := ⟨_, rfl⟩
    rw [hwd] at HA0 ⊢
    clear hwd
    have hHeld : (fun _ : World => True) wd := True.intro
    simp only [List.size_toArray, List.length_cons, List.length_nil, Nat.reduceAdd, Array.replicate_succ, Array.replicate_zero, List.push_toArray, List.nil_append, List.cons_append]
    refine wpAnyH_take (i := 0) (v := ?_) rfl (by kernel_rfl) (by kernel_rfl) (by kernel_rfl) (fun _ _ _ h => h) (Or.inl ⟨by rfl, ?_⟩) (by assumption) ?_
    rotate_left
    · intro w hSw; (try dsimp only at hSw); go_simp; try with_reducible rfl
    simp only [Act.put, List.getElem_toArray, List.getElem_cons_zero, List.setIfInBounds_toArray, List.set_cons_zero]
    refine wpAnyH_take (i := 1) (v := ?_) rfl (by kernel_rfl) (by kernel_rfl) (by kernel_rfl) (fun _ _ _ h => h) (Or.inl ⟨by rfl, ?_⟩) (by assumption) ?_
    rotate_left
    · intro w hSw; (try dsimp only at hSw); go_simp; try with_reducible rfl
    simp only [Act.put, List.getElem_toArray, List.getElem_cons_succ, List.getElem_cons_zero, List.setIfInBounds_toArray, List.set_cons_succ, List.set_cons_zero]
    refine wpAnyH_take (i := 2) (v := ?_) rfl (by kernel_rfl) (by kernel_rfl) (by kernel_rfl) (fun _ _ _ h => h) (Or.inl ⟨by rfl, ?_⟩) (by assumption) ?_
    rotate_left
    · intro w hSw; (try dsimp only at hSw); go_simp; try with_reducible rfl
    simp only [Act.put, List.getElem_toArray, List.getElem_cons_succ, List.getElem_cons_zero, List.setIfInBounds_toArray, List.set_cons_succ, List.set_cons_zero]
    refine wpAnyH_take (i := 4) (v := ?_) rfl (by kernel_rfl) (by kernel_rfl) (by kernel_rfl) (fun _ _ _ h => h) (Or.inl ⟨by rfl, ?_⟩) (by assumption) ?_
    rotate_left
    · intro w hSw; (try dsimp only at hSw); go_simp; try with_reducible rfl
    simp only [Act.put, List.getElem_toArray, List.getElem_cons_succ, List.getElem_cons_zero, List.setIfInBounds_toArray, List.set_cons_succ, List.set_cons_zero]
    refine wpAnyH_take (i := 7) (v := ?_) rfl (by kernel_rfl) (by kernel_rfl) (by kernel_rfl) (fun _ _ _ h => h) (Or.inl ⟨by rfl, ?_⟩) (by assumption) ?_
    rotate_left
    · intro w hSw; (try dsimp only at hSw); go_simp; try with_reducible rfl
    simp only [Act.put, List.getElem_toArray, List.getElem_cons_succ, List.getElem_cons_zero, List.setIfInBounds_toArray, List.set_cons_succ, List.set_cons_zero]
    refine wpAnyH_ready (rs := [3, 5, 8]) (by kernel_rfl) (by simp) ?_
    refine AllReadyH.cons rfl (fun K hK => ?_) (AllReadyH.cons rfl (fun K hK => ?_) (AllReadyH.cons rfl (fun K hK => ?_) AllReadyH.nil))
    · have f0 := HA0.out.c0
      go_simp
      clear f0
      refine hK.out _ _ True.intro (fun hHeld2 => ?_)
      clear hK K hHeld
      have hHeld := hHeld2
      clear hHeld2
      simp only [List.setIfInBounds_toArray, List.set_cons_succ, List.set_cons_zero]
      refine wpAnyH_ready (rs := [5, 8]) (by kernel_rfl) (by simp) ?_
      refine AllReadyH.cons rfl (fun K hK => ?_) (AllReadyH.cons rfl (fun K hK => ?_) AllReadyH.nil)
      · have HMI := hide (show N < wd.heap.size from Nat.lt_of_lt_of_le HA0.out.nB HA0.out.z)
        have IB := hide (BoxV.made wd [.int .i64 0, .int .i64 10000, .int .i64 (-1), .int .i64 5] 3)
        have HA5 := hide (HA0.out.alloc (Obj.cells #[.int .i64 0, .int .i64 10000, .int .i64 (-1), .int .i64 5] 3))
        go_simp
        refine hK.out _ _ True.intro (fun hHeld2 => ?_)
        clear hHeld2
        obtain ⟨w5, hw5⟩ : ∃ X, wd.alloc (Obj.cells #[.int .i64 0, .int .i64 10000, .int .i64 (-1), .int .i64 5] 3) = X := ⟨_, rfl⟩
        rw [hw5] at IB HA5  ⊢
        clear hw5
        have hHeld2 : (fun _ : World => True) w5 := True.intro
        clear hK K hHeld
        have hHeld := hHeld2
        clear hHeld2
        simp only [List.setIfInBounds_toArray, List.set_cons_succ, List.set_cons_zero]
        refine wpAnyH_ready (rs := [6, 8]) (by kernel_rfl) (by simp) ?_
        refine AllReadyH.cons rfl (fun K hK => ?_) (AllReadyH.cons rfl (fun K hK => ?_) AllReadyH.nil)
        · go_simp
          refine (intAt HA5.out.d [0, 10000, -1, 5] 4 _ IB.out (by have := HMI.out; omega) rfl (by decide) (by decide) (fun x => -1000000 ≤ x ∧ x ≤ 1000000) (fun i hi => by have hi4 : i = 0 ∨ i = 1 ∨ i = 2 ∨ i = 3 := (by omega); rcases hi4 with rfl | rfl | rfl | rfl <;> decide)).mono ?_
          rintro e w6 ⟨⟨x, rfl, hx⟩, dx, gx⟩
          have Hhx := hide hx
          have HA6 := hide (HA5.out.grown dx gx)
          clear hx dx gx IB
          refine hK.out _ _ True.intro (fun hHeld2 => ?_)
          clear hK K hHeld
          have hHeld := hHeld2
          clear hHeld2
          simp only [List.setIfInBounds_toArray, List.set_cons_succ, List.set_cons_zero]
          refine wpAnyH_ready (rs := [8]) (by kernel_rfl) (by simp) ?_
          refine AllReadyH.cons rfl (fun K hK => ?_) AllReadyH.nil
          have HMS := hide (show N < w6.heap.size from Nat.lt_of_lt_of_le HA6.out.nB HA6.out.z)
          have SB := hide (BoxV.made w6 [.string { data := #[] }, .string { data := #[118, 49] }, .string { data := #[34, 97, 34] }] 9)
          have HA8 := hide (HA6.out.alloc (Obj.cells #[.string { data := #[] }, .string { data := #[118, 49] }, .string { data := #[34, 97, 34] }] 9))
          go_simp
          refine hK.out _ _ True.intro (fun hHeld2 => ?_)
          clear hHeld2
          obtain ⟨w8, hw8⟩ : ∃ X, w6.alloc (Obj.cells #[.string { data := #[] }, .string { data := #[118, 49] }, .string { data := #[34, 97, 34] }] 9) = X := ⟨_, rfl⟩
          rw [hw8] at SB HA8  ⊢
          clear hw8
          have hHeld2 : (fun _ : World => True) w8 := True.intro
          clear hK K hHeld
          have hHeld := hHeld2
          clear hHeld2
          simp only [List.setIfInBounds_toArray, List.set_cons_succ, List.set_cons_zero]
          refine wpAnyH_ready (rs := [9]) (by kernel_rfl) (by simp) ?_
          refine AllReadyH.cons rfl (fun K hK => ?_) AllReadyH.nil
          go_simp
          refine (strAt HA8.out.d [⟨#[]⟩, ⟨#[118, 49]⟩, ⟨#[34, 97, 34]⟩] 3 _ 200 SB.out (by have := HMS.out; omega) rfl (by decide) (by decide) (fun s hs => by simp only [List.mem_cons, List.not_mem_nil, or_false] at hs; rcases hs with rfl | rfl | rfl <;> decide)).mono ?_
          rintro e w9 ⟨⟨s, rfl, hs⟩, dx, gx⟩
          have Hhs := hide hs
          have HA9 := hide (HA8.out.grown dx gx)
          clear hs dx gx SB
          refine hK.out _ _ True.intro (fun hHeld2 => ?_)
          clear hK K hHeld
          have hHeld := hHeld2
          clear hHeld2
          simp only [List.setIfInBounds_toArray, List.set_cons_succ, List.set_cons_zero]
          refine wpAnyH_take (i := 10) (v := ?_) rfl (by kernel_rfl) (by kernel_rfl) (by kernel_rfl) (fun _ _ _ h => h) (Or.inl ⟨by rfl, ?_⟩) (by assumption) ?_
          rotate_left
          · intro w hSw; (try dsimp only at hSw); go_simp; try with_reducible rfl
          simp only [Act.put, List.getElem_toArray, List.getElem_cons_succ, List.getElem_cons_zero, List.setIfInBounds_toArray, List.set_cons_succ, List.set_cons_zero]
          refine wpAnyH_ready (rs := [11]) (by kernel_rfl) (by simp) ?_
          refine AllReadyH.cons rfl (fun K hK => ?_) AllReadyH.nil
          have HMC := hide (show N < w9.heap.size from Nat.lt_of_lt_of_le HA9.out.nB HA9.out.z)
          have CB := hide (BoxV.made w9 [.bool false, .int .i64 x, .string s] 57)
          have HA11 := hide (HA9.out.alloc (Obj.cells #[.bool false, .int .i64 x, .string s] 57))
          go_simp
          refine hK.out _ _ True.intro (fun hHeld2 => ?_)
          clear hHeld2
          obtain ⟨w11, hw11⟩ : ∃ X, w9.alloc (Obj.cells #[.bool false, .int .i64 x, .string s] 57) = X := ⟨_, rfl⟩
          rw [hw11] at CB HA11  ⊢
          clear hw11
          have hHeld2 : (fun _ : World => True) w11 := True.intro
          clear hK K hHeld
          have hHeld := hHeld2
          clear hHeld2
          simp only [List.setIfInBounds_toArray, List.set_cons_succ, List.set_cons_zero]
          refine wpAnyH_ready (rs := [12]) (by kernel_rfl) (by simp) ?_
          refine AllReadyH.cons rfl (fun K hK => ?_) AllReadyH.nil
          have HF := hide (show OwnG 57 3 ciC w11 w.heap.size (.slice (some ⟨s0.b, 0, none⟩) s0.n s0.c) c0 from (HA11.out.r.f (by simp) (by simp)).1)
          have hzB := HA11.out.z
          refine step_append_gen 41 Tryz.underlying41 (.agg #[.bool false, .int .i64 0, .string { data := #[] }]) 32 infoCd rfl (by decide) (by decide) rfl _ _ rfl w.heap.size _ c0 (by first | rfl | (simp [Act.eval])) HF.out ciC_len _ (⟨false, x, s⟩ : Cn) (by first | rfl | (simp [Act.eval])) (fun i v hv => by match i with | 0 => (cases hv; exact (CB.out.2 0 _ rfl).1) | 1 => (cases hv; exact (CB.out.2 1 _ rfl).1) | 2 => (cases hv; exact (CB.out.2 2 _ rfl).1) | i + 3 => cases hv) (ciC_one _) hc0 hzB ?_
          intro g9 n9 c9 w9 hn9 hO9 hb9 hg9 hat
          obtain ⟨f1, f2⟩ := HA11.out.after hg9
          have HFIN := hide (HA11.out.fin HL.out (t := ⟨false, x, s⟩) ⟨Hhs.out, Hhx.out⟩ hO9 hb9 hg9 (by rcases hat with e2 | e2; exact .inl (Option.some.inj e2).symm; exact .inr e2))
          clear hn9 hO9 hb9 hg9 hat HF hzB
          refine hK.out _ _ True.intro (fun hHeld2 => ?_)
          clear hK K hHeld
          have hHeld := hHeld2
          clear hHeld2
          simp only [List.setIfInBounds_toArray, List.set_cons_succ, List.set_cons_zero]
          refine wpAnyH_take (i := 13) (v := ?_) rfl (by kernel_rfl) (by kernel_rfl) (by kernel_rfl) (fun _ _ _ h => h) (Or.inl ⟨by rfl, ?_⟩) (by assumption) ?_
          rotate_left
          · intro w hSw; (try dsimp only at hSw); go_simp; try with_reducible rfl
          simp only [Act.put, List.getElem_toArray, List.getElem_cons_succ, List.getElem_cons_zero, List.setIfInBounds_toArray, List.set_cons_succ, List.set_cons_zero]
          refine wpAnyH_ready (rs := [14]) (by kernel_rfl) (by simp) ?_
          refine AllReadyH.cons rfl (fun K hK => ?_) AllReadyH.nil
          go_simp
          refine hK.out _ _ True.intro (fun hHeld2 => ?_)
          clear hK K hHeld
          have hHeld := hHeld2
          clear hHeld2
          simp only [List.setIfInBounds_toArray, List.set_cons_succ, List.set_cons_zero]
          refine wpAnyH_done (by kernel_rfl) ?_ _
          clear hHeld
          go_wp2
          go_ret
          exact HFIN.out
        · have HMS := hide (show N < w5.heap.size from Nat.lt_of_lt_of_le HA5.out.nB HA5.out.z)
          have SB := hide (BoxV.made w5 [.string { data := #[] }, .string { data := #[118, 49] }, .string { data := #[34, 97, 34] }] 9)
          have HA8 := hide (HA5.out.alloc (Obj.cells #[.string { data := #[] }, .string { data := #[118, 49] }, .string { data := #[34, 97, 34] }] 9))
          have IB := hide (IB.out.alloc (Obj.cells #[.string { data := #[] }, .string { data := #[118, 49] }, .string { data := #[34, 97, 34] }] 9))
          go_simp
          refine hK.out _ _ True.intro (fun hHeld2 => ?_)
          clear hHeld2
          obtain ⟨w8, hw8⟩ : ∃ X, w5.alloc (Obj.cells #[.string { data := #[] }, .string { data := #[118, 49] }, .string { data := #[34, 97, 34] }] 9) = X := ⟨_, rfl⟩
          rw [hw8] at SB HA8 IB ⊢
          clear hw8
          have hHeld2 : (fun _ : World => True) w8 := True.intro
          clear hK K hHeld
          have hHeld := hHeld2
          clear hHeld2
          simp only [List.setIfInBounds_toArray, List.set_cons_succ, List.set_cons_zero]
          refine wpAnyH_ready (rs := [6]) (by kernel_rfl) (by simp) ?_
          refine AllReadyH.cons rfl (fun K hK => ?_) AllReadyH.nil
          go_simp
          refine (intAt HA8.out.d [0, 10000, -1, 5] 4 _ IB.out (by have := HMI.out; omega) rfl (by decide) (by decide) (fun x => -1000000 ≤ x ∧ x ≤ 1000000) (fun i hi => by have hi4 : i = 0 ∨ i = 1 ∨ i = 2 ∨ i = 3 := (by omega); rcases hi4 with rfl | rfl | rfl | rfl <;> decide)).mono ?_
          rintro e w6 ⟨⟨x, rfl, hx⟩, dx, gx⟩
          have Hhx := hide hx
          have HA6 := hide (HA8.out.grown dx gx)
          have SB := hide (SB.out.grownD gx (by have := HMS.out; omega))
          clear hx dx gx IB
          refine hK.out _ _ True.intro (fun hHeld2 => ?_)
          clear hK K hHeld
          have hHeld := hHeld2
          clear hHeld2
          simp only [List.setIfInBounds_toArray, List.set_cons_succ, List.set_cons_zero]
          refine wpAnyH_ready (rs := [9]) (by kernel_rfl) (by simp) ?_
          refine AllReadyH.cons rfl (fun K hK => ?_) AllReadyH.nil
          go_simp
          refine (strAt HA6.out.d [⟨#[]⟩, ⟨#[118, 49]⟩, ⟨#[34, 97, 34]⟩] 3 _ 200 SB.out (by have := HMS.out; omega) rfl (by decide) (by decide) (fun s hs => by simp only [List.mem_cons, List.not_mem_nil, or_false] at hs; rcases hs with rfl | rfl | rfl <;> decide)).mono ?_
          rintro e w9 ⟨⟨s, rfl, hs⟩, dx, gx⟩
          have Hhs := hide hs
          have HA9 := hide (HA6.out.grown dx gx)
          clear hs dx gx SB
          refine hK.out _ _ True.intro (fun hHeld2 => ?_)
          clear hK K hHeld
          have hHeld := hHeld2
          clear hHeld2
          simp only [List.setIfInBounds_toArray, List.set_cons_succ, List.set_cons_zero]
          refine wpAnyH_take (i := 10) (v := ?_) rfl (by kernel_rfl) (by kernel_rfl) (by kernel_rfl) (fun _ _ _ h => h) (Or.inl ⟨by rfl, ?_⟩) (by assumption) ?_
          rotate_left
          · intro w hSw; (try dsimp only at hSw); go_simp; try with_reducible rfl
          simp only [Act.put, List.getElem_toArray, List.getElem_cons_succ, List.getElem_cons_zero, List.setIfInBounds_toArray, List.set_cons_succ, List.set_cons_zero]
          refine wpAnyH_ready (rs := [11]) (by kernel_rfl) (by simp) ?_
          refine AllReadyH.cons rfl (fun K hK => ?_) AllReadyH.nil
          have HMC := hide (show N < w9.heap.size from Nat.lt_of_lt_of_le HA9.out.nB HA9.out.z)
          have CB := hide (BoxV.made w9 [.bool false, .int .i64 x, .string s] 57)
          have HA11 := hide (HA9.out.alloc (Obj.cells #[.bool false, .int .i64 x, .string s] 57))
          go_simp
          refine hK.out _ _ True.intro (fun hHeld2 => ?_)
          clear hHeld2
          obtain ⟨w11, hw11⟩ : ∃ X, w9.alloc (Obj.cells #[.bool false, .int .i64 x, .string s] 57) = X := ⟨_, rfl⟩
          rw [hw11] at CB HA11  ⊢
          clear hw11
          have hHeld2 : (fun _ : World => True) w11 := True.intro
          clear hK K hHeld
          have hHeld := hHeld2
          clear hHeld2
          simp only [List.setIfInBounds_toArray, List.set_cons_succ, List.set_cons_zero]
          refine wpAnyH_ready (rs := [12]) (by kernel_rfl) (by simp) ?_
          refine AllReadyH.cons rfl (fun K hK => ?_) AllReadyH.nil
          have HF := hide (show OwnG 57 3 ciC w11 w.heap.size (.slice (some ⟨s0.b, 0, none⟩) s0.n s0.c) c0 from (HA11.out.r.f (by simp) (by simp)).1)
          have hzB := HA11.out.z
          refine step_append_gen 41 Tryz.underlying41 (.agg #[.bool false, .int .i64 0, .string { data := #[] }]) 32 infoCd rfl (by decide) (by decide) rfl _ _ rfl w.heap.size _ c0 (by first | rfl | (simp [Act.eval])) HF.out ciC_len _ (⟨false, x, s⟩ : Cn) (by first | rfl | (simp [Act.eval])) (fun i v hv => by match i with | 0 => (cases hv; exact (CB.out.2 0 _ rfl).1) | 1 => (cases hv; exact (CB.out.2 1 _ rfl).1) | 2 => (cases hv; exact (CB.out.2 2 _ rfl).1) | i + 3 => cases hv) (ciC_one _) hc0 hzB ?_
          intro g9 n9 c9 w9 hn9 hO9 hb9 hg9 hat
          obtain ⟨f1, f2⟩ := HA11.out.after hg9
          have HFIN := hide (HA11.out.fin HL.out (t := ⟨false, x, s⟩) ⟨Hhs.out, Hhx.out⟩ hO9 hb9 hg9 (by rcases hat with e2 | e2; exact .inl (Option.some.inj e2).symm; exact .inr e2))
          clear hn9 hO9 hb9 hg9 hat HF hzB
          refine hK.out _ _ True.intro (fun hHeld2 => ?_)
          clear hK K hHeld
          have hHeld := hHeld2
          clear hHeld2
          simp only [List.setIfInBounds_toArray, List.set_cons_succ, List.set_cons_zero]
          refine wpAnyH_take (i := 13) (v := ?_) rfl (by kernel_rfl) (by kernel_rfl) (by kernel_rfl) (fun _ _ _ h => h) (Or.inl ⟨by rfl, ?_⟩) (by assumption) ?_
          rotate_left
          · intro w hSw; (try dsimp only at hSw); go_simp; try with_reducible rfl
          simp only [Act.put, List.getElem_toArray, List.getElem_cons_succ, List.getElem_cons_zero, List.setIfInBounds_toArray, List.set_cons_succ, List.set_cons_zero]
          refine wpAnyH_ready (rs := [14]) (by kernel_rfl) (by simp) ?_
          refine AllReadyH.cons rfl (fun K hK => ?_) AllReadyH.nil
          go_simp
          refine hK.out _ _ True.intro (fun hHeld2 => ?_)
          clear hK K hHeld
          have hHeld := hHeld2
          clear hHeld2
          simp only [List.setIfInBounds_toArray, List.set_cons_succ, List.set_cons_zero]
          refine wpAnyH_done (by kernel_rfl) ?_ _
          clear hHeld
          go_wp2
          go_ret
          exact HFIN.out
      · have HMS := hide (show N < wd.heap.size from Nat.lt_of_lt_of_le HA0.out.nB HA0.out.z)
        have SB := hide (BoxV.made wd [.string { data := #[] }, .string { data := #[118, 49] }, .string { data := #[34, 97, 34] }] 9)
        have HA8 := hide (HA0.out.alloc (Obj.cells #[.string { data := #[] }, .string { data := #[118, 49] }, .string { data := #[34, 97, 34] }] 9))
        go_simp
        refine hK.out _ _ True.intro (fun hHeld2 => ?_)
        clear hHeld2
        obtain ⟨w8, hw8⟩ : ∃ X, wd.alloc (Obj.cells #[.string { data := #[] }, .string { data := #[118, 49] }, .string { data := #[34, 97, 34] }] 9) = X := ⟨_, rfl⟩
        rw [hw8] at SB HA8  ⊢
        clear hw8
        have hHeld2 : (fun _ : World => True) w8 := True.intro
        clear hK K hHeld
        have hHeld := hHeld2
        clear hHeld2
        simp only [List.setIfInBounds_toArray, List.set_cons_succ, List.set_cons_zero]
        refine wpAnyH_ready (rs := [5]) (by kernel_rfl) (by simp) ?_
        refine AllReadyH.cons rfl (fun K hK => ?_) AllReadyH.nil
        have HMI := hide (show N < w8.heap.size from Nat.lt_of_lt_of_le HA8.out.nB HA8.out.z)
        have IB := hide (BoxV.made w8 [.int .i64 0, .int .i64 10000, .int .i64 (-1), .int .i64 5] 3)
        have HA5 := hide (HA8.out.alloc (Obj.cells #[.int .i64 0, .int .i64 10000, .int .i64 (-1), .int .i64 5] 3))
        have SB := hide (SB.out.alloc (Obj.cells #[.int .i64 0, .int .i64 10000, .int .i64 (-1), .int .i64 5] 3))
        go_simp
        refine hK.out _ _ True.intro (fun hHeld2 => ?_)
        clear hHeld2
        obtain ⟨w5, hw5⟩ : ∃ X, w8.alloc (Obj.cells #[.int .i64 0, .int .i64 10000, .int .i64 (-1), .int .i64 5] 3) = X := ⟨_, rfl⟩
        rw [hw5] at IB HA5 SB ⊢
        clear hw5
        have hHeld2 : (fun _ : World => True) w5 := True.intro
        clear hK K hHeld
        have hHeld := hHeld2
        clear hHeld2
        simp only [List.setIfInBounds_toArray, List.set_cons_succ, List.set_cons_zero]
        refine wpAnyH_ready (rs := [6]) (by kernel_rfl) (by simp) ?_
        refine AllReadyH.cons rfl (fun K hK => ?_) AllReadyH.nil
        go_simp
        refine (intAt HA5.out.d [0, 10000, -1, 5] 4 _ IB.out (by have := HMI.out; omega) rfl (by decide) (by decide) (fun x => -1000000 ≤ x ∧ x ≤ 1000000) (fun i hi => by have hi4 : i = 0 ∨ i = 1 ∨ i = 2 ∨ i = 3 := (by omega); rcases hi4 with rfl | rfl | rfl | rfl <;> decide)).mono ?_
        rintro e w6 ⟨⟨x, rfl, hx⟩, dx, gx⟩
        have Hhx := hide hx
        have HA6 := hide (HA5.out.grown dx gx)
        have SB := hide (SB.out.grownD gx (by have := HMS.out; omega))
        clear hx dx gx IB
        refine hK.out _ _ True.intro (fun hHeld2 => ?_)
        clear hK K hHeld
        have hHeld := hHeld2
        clear hHeld2
        simp only [List.setIfInBounds_toArray, List.set_cons_succ, List.set_cons_zero]
        refine wpAnyH_ready (rs := [9]) (by kernel_rfl) (by simp) ?_
        refine AllReadyH.cons rfl (fun K hK => ?_) AllReadyH.nil
        go_simp
        refine (strAt HA6.out.d [⟨#[]⟩, ⟨#[118, 49]⟩, ⟨#[34, 97, 34]⟩] 3 _ 200 SB.out (by have := HMS.out; omega) rfl (by decide) (by decide) (fun s hs => by simp only [List.mem_cons, List.not_mem_nil, or_false] at hs; rcases hs with rfl | rfl | rfl <;> decide)).mono ?_
        rintro e w9 ⟨⟨s, rfl, hs⟩, dx, gx⟩
        have Hhs := hide hs
        have HA9 := hide (HA6.out.grown dx gx)
        clear hs dx gx SB
        refine hK.out _ _ True.intro (fun hHeld2 => ?_)
        clear hK K hHeld
        have hHeld := hHeld2
        clear hHeld2
        simp only [List.setIfInBounds_toArray, List.set_cons_succ, List.set_cons_zero]
        refine wpAnyH_take (i := 10) (v := ?_) rfl (by kernel_rfl) (by kernel_rfl) (by kernel_rfl) (fun _ _ _ h => h) (Or.inl ⟨by rfl, ?_⟩) (by assumption) ?_
        rotate_left
        · intro w hSw; (try dsimp only at hSw); go_simp; try with_reducible rfl
        simp only [Act.put, List.getElem_toArray, List.getElem_cons_succ, List.getElem_cons_zero, List.setIfInBounds_toArray, List.set_cons_succ, List.set_cons_zero]
        refine wpAnyH_ready (rs := [11]) (by kernel_rfl) (by simp) ?_
        refine AllReadyH.cons rfl (fun K hK => ?_) AllReadyH.nil
        have HMC := hide (show N < w9.heap.size from Nat.lt_of_lt_of_le HA9.out.nB HA9.out.z)
        have CB := hide (BoxV.made w9 [.bool false, .int .i64 x, .string s] 57)
        have HA11 := hide (HA9.out.alloc (Obj.cells #[.bool false, .int .i64 x, .string s] 57))
        go_simp
        refine hK.out _ _ True.intro (fun hHeld2 => ?_)
        clear hHeld2
        obtain ⟨w11, hw11⟩ : ∃ X, w9.alloc (Obj.cells #[.bool false, .int .i64 x, .string s] 57) = X := ⟨_, rfl⟩
        rw [hw11] at CB HA11  ⊢
        clear hw11
        have hHeld2 : (fun _ : World => True) w11 := True.intro
        clear hK K hHeld
        have hHeld := hHeld2
        clear hHeld2
        simp only [List.setIfInBounds_toArray, List.set_cons_succ, List.set_cons_zero]
        refine wpAnyH_ready (rs := [12]) (by kernel_rfl) (by simp) ?_
        refine AllReadyH.cons rfl (fun K hK => ?_) AllReadyH.nil
        have HF := hide (show OwnG 57 3 ciC w11 w.heap.size (.slice (some ⟨s0.b, 0, none⟩) s0.n s0.c) c0 from (HA11.out.r.f (by simp) (by simp)).1)
        have hzB := HA11.out.z
        refine step_append_gen 41 Tryz.underlying41 (.agg #[.bool false, .int .i64 0, .string { data := #[] }]) 32 infoCd rfl (by decide) (by decide) rfl _ _ rfl w.heap.size _ c0 (by first | rfl | (simp [Act.eval])) HF.out ciC_len _ (⟨false, x, s⟩ : Cn) (by first | rfl | (simp [Act.eval])) (fun i v hv => by match i with | 0 => (cases hv; exact (CB.out.2 0 _ rfl).1) | 1 => (cases hv; exact (CB.out.2 1 _ rfl).1) | 2 => (cases hv; exact (CB.out.2 2 _ rfl).1) | i + 3 => cases hv) (ciC_one _) hc0 hzB ?_
        intro g9 n9 c9 w9 hn9 hO9 hb9 hg9 hat
        obtain ⟨f1, f2⟩ := HA11.out.after hg9
        have HFIN := hide (HA11.out.fin HL.out (t := ⟨false, x, s⟩) ⟨Hhs.out, Hhx.out⟩ hO9 hb9 hg9 (by rcases hat with e2 | e2; exact .inl (Option.some.inj e2).symm; exact .inr e2))
        clear hn9 hO9 hb9 hg9 hat HF hzB
        refine hK.out _ _ True.intro (fun hHeld2 => ?_)
        clear hK K hHeld
        have hHeld := hHeld2
        clear hHeld2
        simp only [List.setIfInBounds_toArray, List.set_cons_succ, List.set_cons_zero]
        refine wpAnyH_take (i := 13) (v := ?_) rfl (by kernel_rfl) (by kernel_rfl) (by kernel_rfl) (fun _ _ _ h => h) (Or.inl ⟨by rfl, ?_⟩) (by assumption) ?_
        rotate_left
        · intro w hSw; (try dsimp only at hSw); go_simp; try with_reducible rfl
        simp only [Act.put, List.getElem_toArray, List.getElem_cons_succ, List.getElem_cons_zero, List.setIfInBounds_toArray, List.set_cons_succ, List.set_cons_zero]
        refine wpAnyH_ready (rs := [14]) (by kernel_rfl) (by simp) ?_
        refine AllReadyH.cons rfl (fun K hK => ?_) AllReadyH.nil
        go_simp
        refine hK.out _ _ True.intro (fun hHeld2 => ?_)
        clear hK K hHeld
        have hHeld := hHeld2
        clear hHeld2
        simp only [List.setIfInBounds_toArray, List.set_cons_succ, List.set_cons_zero]
        refine wpAnyH_done (by kernel_rfl) ?_ _
        clear hHeld
        go_wp2
        go_ret
        exact HFIN.out
    · have HMI := hide (show N < wd.heap.size from Nat.lt_of_lt_of_le HA0.out.nB HA0.out.z)
      have IB := hide (BoxV.made wd [.int .i64 0, .int .i64 10000, .int .i64 (-1), .int .i64 5] 3)
      have HA5 := hide (HA0.out.alloc (Obj.cells #[.int .i64 0, .int .i64 10000, .int .i64 (-1), .int .i64 5] 3))
      go_simp
      refine hK.out _ _ True.intro (fun hHeld2 => ?_)
      clear hHeld2
      obtain ⟨w5, hw5⟩ : ∃ X, wd.alloc (Obj.cells #[.int .i64 0, .int .i64 10000, .int .i64 (-1), .int .i64 5] 3) = X := ⟨_, rfl⟩
      rw [hw5] at IB HA5  ⊢
      clear hw5
      have hHeld2 : (fun _ : World => True) w5 := True.intro
      clear hK K hHeld
      have hHeld := hHeld2
      clear hHeld2
      simp only [List.setIfInBounds_toArray, List.set_cons_succ, List.set_cons_zero]
      refine wpAnyH_ready (rs := [3, 6, 8]) (by kernel_rfl) (by simp) ?_
      refine AllReadyH.cons rfl (fun K hK => ?_) (AllReadyH.cons rfl (fun K hK => ?_) (AllReadyH.cons rfl (fun K hK => ?_) AllReadyH.nil))
      · have f0 := HA5.out.c0
        go_simp
        clear f0
        refine hK.out _ _ True.intro (fun hHeld2 => ?_)
        clear hK K hHeld
        have hHeld := hHeld2
        clear hHeld2
        simp only [List.setIfInBounds_toArray, List.set_cons_succ, List.set_cons_zero]
        refine wpAnyH_ready (rs := [6, 8]) (by kernel_rfl) (by simp) ?_
        refine AllReadyH.cons rfl (fun K hK => ?_) (AllReadyH.cons rfl (fun K hK => ?_) AllReadyH.nil)
        · go_simp
          refine (intAt HA5.out.d [0, 10000, -1, 5] 4 _ IB.out (by have := HMI.out; omega) rfl (by decide) (by decide) (fun x => -1000000 ≤ x ∧ x ≤ 1000000) (fun i hi => by have hi4 : i = 0 ∨ i = 1 ∨ i = 2 ∨ i = 3 := (by omega); rcases hi4 with rfl | rfl | rfl | rfl <;> decide)).mono ?_
          rintro e w6 ⟨⟨x, rfl, hx⟩, dx, gx⟩
          have Hhx := hide hx
          have HA6 := hide (HA5.out.grown dx gx)
          clear hx dx gx IB
          refine hK.out _ _ True.intro (fun hHeld2 => ?_)
          clear hK K hHeld
          have hHeld := hHeld2
          clear hHeld2
          simp only [List.setIfInBounds_toArray, List.set_cons_succ, List.set_cons_zero]
          refine wpAnyH_ready (rs := [8]) (by kernel_rfl) (by simp) ?_
          refine AllReadyH.cons rfl (fun K hK => ?_) AllReadyH.nil
          have HMS := hide (show N < w6.heap.size from Nat.lt_of_lt_of_le HA6.out.nB HA6.out.z)
          have SB := hide (BoxV.made w6 [.string { data := #[] }, .string { data := #[118, 49] }, .string { data := #[34, 97, 34] }] 9)
          have HA8 := hide (HA6.out.alloc (Obj.cells #[.string { data := #[] }, .string { data := #[118, 49] }, .string { data := #[34, 97, 34] }] 9))
          go_simp
          refine hK.out _ _ True.intro (fun hHeld2 => ?_)
          clear hHeld2
          obtain ⟨w8, hw8⟩ : ∃ X, w6.alloc (Obj.cells #[.string { data := #[] }, .string { data := #[118, 49] }, .string { data := #[34, 97, 34] }] 9) = X := ⟨_, rfl⟩
          rw [hw8] at SB HA8  ⊢
          clear hw8
          have hHeld2 : (fun _ : World => True) w8 := True.intro
          clear hK K hHeld
          have hHeld := hHeld2
          clear hHeld2
          simp only [List.setIfInBounds_toArray, List.set_cons_succ, List.set_cons_zero]
          refine wpAnyH_ready (rs := [9]) (by kernel_rfl) (by simp) ?_
          refine AllReadyH.cons rfl (fun K hK => ?_) AllReadyH.nil
          go_simp
          refine (strAt HA8.out.d [⟨#[]⟩, ⟨#[118, 49]⟩, ⟨#[34, 97, 34]⟩] 3 _ 200 SB.out (by have := HMS.out; omega) rfl (by decide) (by decide) (fun s hs => by simp only [List.mem_cons, List.not_mem_nil, or_false] at hs; rcases hs with rfl | rfl | rfl <;> decide)).mono ?_
          rintro e w9 ⟨⟨s, rfl, hs⟩, dx, gx⟩
          have Hhs := hide hs
          have HA9 := hide (HA8.out.grown dx gx)
          clear hs dx gx SB
          refine hK.out _ _ True.intro (fun hHeld2 => ?_)
          clear hK K hHeld
          have hHeld := hHeld2
          clear hHeld2
          simp only [List.setIfInBounds_toArray, List.set_cons_succ, List.set_cons_zero]
          refine wpAnyH_take (i := 10) (v := ?_) rfl (by kernel_rfl) (by kernel_rfl) (by kernel_rfl) (fun _ _ _ h => h) (Or.inl ⟨by rfl, ?_⟩) (by assumption) ?_
          rotate_left
          · intro w hSw; (try dsimp only at hSw); go_simp; try with_reducible rfl
          simp only [Act.put, List.getElem_toArray, List.getElem_cons_succ, List.getElem_cons_zero, List.setIfInBounds_toArray, List.set_cons_succ, List.set_cons_zero]
          refine wpAnyH_ready (rs := [11]) (by kernel_rfl) (by simp) ?_
          refine AllReadyH.cons rfl (fun K hK => ?_) AllReadyH.nil
          have HMC := hide (show N < w9.heap.size from Nat.lt_of_lt_of_le HA9.out.nB HA9.out.z)
          have CB := hide (BoxV.made w9 [.bool false, .int .i64 x, .string s] 57)
          have HA11 := hide (HA9.out.alloc (Obj.cells #[.bool false, .int .i64 x, .string s] 57))
          go_simp
          refine hK.out _ _ True.intro (fun hHeld2 => ?_)
          clear hHeld2
          obtain ⟨w11, hw11⟩ : ∃ X, w9.alloc (Obj.cells #[.bool false, .int .i64 x, .string s] 57) = X := ⟨_, rfl⟩
          rw [hw11] at CB HA11  ⊢
          clear hw11
          have hHeld2 : (fun _ : World => True) w11 := True.intro
          clear hK K hHeld
          have hHeld := hHeld2
          clear hHeld2
          simp only [List.setIfInBounds_toArray, List.set_cons_succ, List.set_cons_zero]
          refine wpAnyH_ready (rs := [12]) (by kernel_rfl) (by simp) ?_
          refine AllReadyH.cons rfl (fun K hK => ?_) AllReadyH.nil
          have HF := hide (show OwnG 57 3 ciC w11 w.heap.size (.slice (some ⟨s0.b, 0, none⟩) s0.n s0.c) c0 from (HA11.out.r.f (by simp) (by simp)).1)
          have hzB := HA11.out.z
          refine step_append_gen 41 Tryz.underlying41 (.agg #[.bool false, .int .i64 0, .string { data := #[] }]) 32 infoCd rfl (by decide) (by decide) rfl _ _ rfl w.heap.size _ c0 (by first | rfl | (simp [Act.eval])) HF.out ciC_len _ (⟨false, x, s⟩ : Cn) (by first | rfl | (simp [Act.eval])) (fun i v hv => by match i with | 0 => (cases hv; exact (CB.out.2 0 _ rfl).1) | 1 => (cases hv; exact (CB.out.2 1 _ rfl).1) | 2 => (cases hv; exact (CB.out.2 2 _ rfl).1) | i + 3 => cases hv) (ciC_one _) hc0 hzB ?_
          intro g9 n9 c9 w9 hn9 hO9 hb9 hg9 hat
          obtain ⟨f1, f2⟩ := HA11.out.after hg9
          have HFIN := hide (HA11.out.fin HL.out (t := ⟨false, x, s⟩) ⟨Hhs.out, Hhx.out⟩ hO9 hb9 hg9 (by rcases hat with e2 | e2; exact .inl (Option.some.inj e2).symm; exact .inr e2))
          clear hn9 hO9 hb9 hg9 hat HF hzB
          refine hK.out _ _ True.intro (fun hHeld2 => ?_)
          clear hK K hHeld
          have hHeld := hHeld2
          clear hHeld2
          simp only [List.setIfInBounds_toArray, List.set_cons_succ, List.set_cons_zero]
          refine wpAnyH_take (i := 13) (v := ?_) rfl (by kernel_rfl) (by kernel_rfl) (by kernel_rfl) (fun _ _ _ h => h) (Or.inl ⟨by rfl, ?_⟩) (by assumption) ?_
          rotate_left
          · intro w hSw; (try dsimp only at hSw); go_simp; try with_reducible rfl
          simp only [Act.put, List.getElem_toArray, List.getElem_cons_succ, List.getElem_cons_zero, List.setIfInBounds_toArray, List.set_cons_succ, List.set_cons_zero]
          refine wpAnyH_ready (rs := [14]) (by kernel_rfl) (by simp) ?_
          refine AllReadyH.cons rfl (fun K hK => ?_) AllReadyH.nil
          go_simp
          refine hK.out _ _ True.intro (fun hHeld2 => ?_)
          clear hK K hHeld
          have hHeld := hHeld2
          clear hHeld2
          simp only [List.setIfInBounds_toArray, List.set_cons_succ, List.set_cons_zero]
          refine wpAnyH_done (by kernel_rfl) ?_ _
          clear hHeld
          go_wp2
          go_ret
          exact HFIN.out
        · have HMS := hide (show N < w5.heap.size from Nat.lt_of_lt_of_le HA5.out.nB HA5.out.z)
          have SB := hide (BoxV.made w5 [.string { data := #[] }, .string { data := #[118, 49] }, .string { data := #[34, 97, 34] }] 9)
          have HA8 := hide (HA5.out.alloc (Obj.cells #[.string { data := #[] }, .string { data := #[118, 49] }, .string { data := #[34, 97, 34] }] 9))
          have IB := hide (IB.out.alloc (Obj.cells #[.string { data := #[] }, .string { data := #[118, 49] }, .string { data := #[34, 97, 34] }] 9))
          go_simp
          refine hK.out _ _ True.intro (fun hHeld2 => ?_)
          clear hHeld2
          obtain ⟨w8, hw8⟩ : ∃ X, w5.alloc (Obj.cells #[.string { data := #[] }, .string { data := #[118, 49] }, .string { data := #[34, 97, 34] }] 9) = X := ⟨_, rfl⟩
          rw [hw8] at SB HA8 IB ⊢
          clear hw8
          have hHeld2 : (fun _ : World => True) w8 := True.intro
          clear hK K hHeld
          have hHeld := hHeld2
          clear hHeld2
          simp only [List.setIfInBounds_toArray, List.set_cons_succ, List.set_cons_zero]
          refine wpAnyH_ready (rs := [6]) (by kernel_rfl) (by simp) ?_
          refine AllReadyH.cons rfl (fun K hK => ?_) AllReadyH.nil
          go_simp
          refine (intAt HA8.out.d [0, 10000, -1, 5] 4 _ IB.out (by have := HMI.out; omega) rfl (by decide) (by decide) (fun x => -1000000 ≤ x ∧ x ≤ 1000000) (fun i hi => by have hi4 : i = 0 ∨ i = 1 ∨ i = 2 ∨ i = 3 := (by omega); rcases hi4 with rfl | rfl | rfl | rfl <;> decide)).mono ?_
          rintro e w6 ⟨⟨x, rfl, hx⟩, dx, gx⟩
          have Hhx := hide hx
          have HA6 := hide (HA8.out.grown dx gx)
          have SB := hide (SB.out.grownD gx (by have := HMS.out; omega))
          clear hx dx gx IB
          refine hK.out _ _ True.intro (fun hHeld2 => ?_)
          clear hK K hHeld
          have hHeld := hHeld2
          clear hHeld2
          simp only [List.setIfInBounds_toArray, List.set_cons_succ, List.set_cons_zero]
          refine wpAnyH_ready (rs := [9]) (by kernel_rfl) (by simp) ?_
          refine AllReadyH.cons rfl (fun K hK => ?_) AllReadyH.nil
          go_simp
          refine (strAt HA6.out.d [⟨#[]⟩, ⟨#[118, 49]⟩, ⟨#[34, 97, 34]⟩] 3 _ 200 SB.out (by have := HMS.out; omega) rfl (by decide) (by decide) (fun s hs => by simp only [List.mem_cons, List.not_mem_nil, or_false] at hs; rcases hs with rfl | rfl | rfl <;> decide)).mono ?_
          rintro e w9 ⟨⟨s, rfl, hs⟩, dx, gx⟩
          have Hhs := hide hs
          have HA9 := hide (HA6.out.grown dx gx)
          clear hs dx gx SB
          refine hK.out _ _ True.intro (fun hHeld2 => ?_)
          clear hK K hHeld
          have hHeld := hHeld2
          clear hHeld2
          simp only [List.setIfInBounds_toArray, List.set_cons_succ, List.set_cons_zero]
          refine wpAnyH_take (i := 10) (v := ?_) rfl (by kernel_rfl) (by kernel_rfl) (by kernel_rfl) (fun _ _ _ h => h) (Or.inl ⟨by rfl, ?_⟩) (by assumption) ?_
          rotate_left
          · intro w hSw; (try dsimp only at hSw); go_simp; try with_reducible rfl
          simp only [Act.put, List.getElem_toArray, List.getElem_cons_succ, List.getElem_cons_zero, List.setIfInBounds_toArray, List.set_cons_succ, List.set_cons_zero]
          refine wpAnyH_ready (rs := [11]) (by kernel_rfl) (by simp) ?_
          refine AllReadyH.cons rfl (fun K hK => ?_) AllReadyH.nil
          have HMC := hide (show N < w9.heap.size from Nat.lt_of_lt_of_le HA9.out.nB HA9.out.z)
          have CB := hide (BoxV.made w9 [.bool false, .int .i64 x, .string s] 57)
          have HA11 := hide (HA9.out.alloc (Obj.cells #[.bool false, .int .i64 x, .string s] 57))
          go_simp
          refine hK.out _ _ True.intro (fun hHeld2 => ?_)
          clear hHeld2
          obtain ⟨w11, hw11⟩ : ∃ X, w9.alloc (Obj.cells #[.bool false, .int .i64 x, .string s] 57) = X := ⟨_, rfl⟩
          rw [hw11] at CB HA11  ⊢
          clear hw11
          have hHeld2 : (fun _ : World => True) w11 := True.intro
          clear hK K hHeld
          have hHeld := hHeld2
          clear hHeld2
          simp only [List.setIfInBounds_toArray, List.set_cons_succ, List.set_cons_zero]
          refine wpAnyH_ready (rs := [12]) (by kernel_rfl) (by simp) ?_
          refine AllReadyH.cons rfl (fun K hK => ?_) AllReadyH.nil
          have HF := hide (show OwnG 57 3 ciC w11 w.heap.size (.slice (some ⟨s0.b, 0, none⟩) s0.n s0.c) c0 from (HA11.out.r.f (by simp) (by simp)).1)
          have hzB := HA11.out.z
          refine step_append_gen 41 Tryz.underlying41 (.agg #[.bool false, .int .i64 0, .string { data := #[] }]) 32 infoCd rfl (by decide) (by decide) rfl _ _ rfl w.heap.size _ c0 (by first | rfl | (simp [Act.eval])) HF.out ciC_len _ (⟨false, x, s⟩ : Cn) (by first | rfl | (simp [Act.eval])) (fun i v hv => by match i with | 0 => (cases hv; exact (CB.out.2 0 _ rfl).1) | 1 => (cases hv; exact (CB.out.2 1 _ rfl).1) | 2 => (cases hv; exact (CB.out.2 2 _ rfl).1) | i + 3 => cases hv) (ciC_one _) hc0 hzB ?_
          intro g9 n9 c9 w9 hn9 hO9 hb9 hg9 hat
          obtain ⟨f1, f2⟩ := HA11.out.after hg9
          have HFIN := hide (HA11.out.fin HL.out (t := ⟨false, x, s⟩) ⟨Hhs.out, Hhx.out⟩ hO9 hb9 hg9 (by rcases hat with e2 | e2; exact .inl (Option.some.inj e2).symm; exact .inr e2))
          clear hn9 hO9 hb9 hg9 hat HF hzB
          refine hK.out _ _ True.intro (fun hHeld2 => ?_)
          clear hK K hHeld
          have hHeld := hHeld2
          clear hHeld2
          simp only [List.setIfInBounds_toArray, List.set_cons_succ, List.set_cons_zero]
          refine wpAnyH_take (i := 13) (v := ?_) rfl (by kernel_rfl) (by kernel_rfl) (by kernel_rfl) (fun _ _ _ h => h) (Or.inl ⟨by rfl, ?_⟩) (by assumption) ?_
          rotate_left
          · intro w hSw; (try dsimp only at hSw); go_simp; try with_reducible rfl
          simp only [Act.put, List.getElem_toArray, List.getElem_cons_succ, List.getElem_cons_zero, List.setIfInBounds_toArray, List.set_cons_succ, List.set_cons_zero]
          refine wpAnyH_ready (rs := [14]) (by kernel_rfl) (by simp) ?_
          refine AllReadyH.cons rfl (fun K hK => ?_) AllReadyH.nil
          go_simp
          refine hK.out _ _ True.intro (fun hHeld2 => ?_)
          clear hK K hHeld
          have hHeld := hHeld2
          clear hHeld2
          simp only [List.setIfInBounds_toArray, List.set_cons_succ, List.set_cons_zero]
          refine wpAnyH_done (by kernel_rfl) ?_ _
          clear hHeld
          go_wp2
          go_ret
          exact HFIN.out
      · go_simp
        refine (intAt HA5.out.d [0, 10000, -1, 5] 4 _ IB.out (by have := HMI.out; omega) rfl (by decide) (by decide) (fun x => -1000000 ≤ x ∧ x ≤ 1000000) (fun i hi => by have hi4 : i = 0 ∨ i = 1 ∨ i = 2 ∨ i = 3 := (by omega); rcases hi4 with rfl | rfl | rfl | rfl <;> decide)).mono ?_
        rintro e w6 ⟨⟨x, rfl, hx⟩, dx, gx⟩
        have Hhx := hide hx
        have HA6 := hide (HA5.out.grown dx gx)
        clear hx dx gx IB
        refine hK.out _ _ True.intro (fun hHeld2 => ?_)
        clear hK K hHeld
        have hHeld := hHeld2
        clear hHeld2
        simp only [List.setIfInBounds_toArray, List.set_cons_succ, List.set_cons_zero]
        refine wpAnyH_ready (rs := [3, 8]) (by kernel_rfl) (by simp) ?_
        refine AllReadyH.cons rfl (fun K hK => ?_) (AllReadyH.cons rfl (fun K hK => ?_) AllReadyH.nil)
        · have f0 := HA6.out.c0
          go_simp
          clear f0
          refine hK.out _ _ True.intro (fun hHeld2 => ?_)
          clear hK K hHeld
          have hHeld := hHeld2
          clear hHeld2
          simp only [List.setIfInBounds_toArray, List.set_cons_succ, List.set_cons_zero]
          refine wpAnyH_ready (rs := [8]) (by kernel_rfl) (by simp) ?_
          refine AllReadyH.cons rfl (fun K hK => ?_) AllReadyH.nil
          have HMS := hide (show N < w6.heap.size from Nat.lt_of_lt_of_le HA6.out.nB HA6.out.z)
          have SB := hide (BoxV.made w6 [.string { data := #[] }, .string { data := #[118, 49] }, .string { data := #[34, 97, 34] }] 9)
          have HA8 := hide (HA6.out.alloc (Obj.cells #[.string { data := #[] }, .string { data := #[118, 49] }, .string { data := #[34, 97, 34] }] 9))
          go_simp
          refine hK.out _ _ True.intro (fun hHeld2 => ?_)
          clear hHeld2
          obtain ⟨w8, hw8⟩ : ∃ X, w6.alloc (Obj.cells #[.string { data := #[] }, .string { data := #[118, 49] }, .string { data := #[34, 97, 34] }] 9) = X := ⟨_, rfl⟩
          rw [hw8] at SB HA8  ⊢
          clear hw8
          have hHeld2 : (fun _ : World => True) w8 := True.intro
          clear hK K hHeld
          have hHeld := hHeld2
          clear hHeld2
          simp only [List.setIfInBounds_toArray, List.set_cons_succ, List.set_cons_zero]
          refine wpAnyH_ready (rs := [9]) (by kernel_rfl) (by simp) ?_
          refine AllReadyH.cons rfl (fun K hK => ?_) AllReadyH.nil
          go_simp
          refine (strAt HA8.out.d [⟨#[]⟩, ⟨#[118, 49]⟩, ⟨#[34, 97, 34]⟩] 3 _ 200 SB.out (by have := HMS.out; omega) rfl (by decide) (by decide) (fun s hs => by simp only [List.mem_cons, List.not_mem_nil, or_false] at hs; rcases hs with rfl | rfl | rfl <;> decide)).mono ?_
          rintro e w9 ⟨⟨s, rfl, hs⟩, dx, gx⟩
          have Hhs := hide hs
          have HA9 := hide (HA8.out.grown dx gx)
          clear hs dx gx SB
          refine hK.out _ _ True.intro (fun hHeld2 => ?_)
          clear hK K hHeld
          have hHeld := hHeld2
          clear hHeld2
          simp only [List.setIfInBounds_toArray, List.set_cons_succ, List.set_cons_zero]
          refine wpAnyH_take (i := 10) (v := ?_) rfl (by kernel_rfl) (by kernel_rfl) (by kernel_rfl) (fun _ _ _ h => h) (Or.inl ⟨by rfl, ?_⟩) (by assumption) ?_
          rotate_left
          · intro w hSw; (try dsimp only at hSw); go_simp; try with_reducible rfl
          simp only [Act.put, List.getElem_toArray, List.getElem_cons_succ, List.getElem_cons_zero, List.setIfInBounds_toArray, List.set_cons_succ, List.set_cons_zero]
          refine wpAnyH_ready (rs := [11]) (by kernel_rfl) (by simp) ?_
          refine AllReadyH.cons rfl (fun K hK => ?_) AllReadyH.nil
          have HMC := hide (show N < w9.heap.size from Nat.lt_of_lt_of_le HA9.out.nB HA9.out.z)
          have CB := hide (BoxV.made w9 [.bool false, .int .i64 x, .string s] 57)
          have HA11 := hide (HA9.out.alloc (Obj.cells #[.bool false, .int .i64 x, .string s] 57))
          go_simp
          refine hK.out _ _ True.intro (fun hHeld2 => ?_)
          clear hHeld2
          obtain ⟨w11, hw11⟩ : ∃ X, w9.alloc (Obj.cells #[.bool false, .int .i64 x, .string s] 57) = X := ⟨_, rfl⟩
          rw [hw11] at CB HA11  ⊢
          clear hw11
          have hHeld2 : (fun _ : World => True) w11 := True.intro
          clear hK K hHeld
          have hHeld := hHeld2
          clear hHeld2
          simp only [List.setIfInBounds_toArray, List.set_cons_succ, List.set_cons_zero]
          refine wpAnyH_ready (rs := [12]) (by kernel_rfl) (by simp) ?_
          refine AllReadyH.cons rfl (fun K hK => ?_) AllReadyH.nil
          have HF := hide (show OwnG 57 3 ciC w11 w.heap.size (.slice (some ⟨s0.b, 0, none⟩) s0.n s0.c) c0 from (HA11.out.r.f (by simp) (by simp)).1)
          have hzB := HA11.out.z
          refine step_append_gen 41 Tryz.underlying41 (.agg #[.bool false, .int .i64 0, .string { data := #[] }]) 32 infoCd rfl (by decide) (by decide) rfl _ _ rfl w.heap.size _ c0 (by first | rfl | (simp [Act.eval])) HF.out ciC_len _ (⟨false, x, s⟩ : Cn) (by first | rfl | (simp [Act.eval])) (fun i v hv => by match i with | 0 => (cases hv; exact (CB.out.2 0 _ rfl).1) | 1 => (cases hv; exact (CB.out.2 1 _ rfl).1) | 2 => (cases hv; exact (CB.out.2 2 _ rfl).1) | i + 3 => cases hv) (ciC_one _) hc0 hzB ?_
          intro g9 n9 c9 w9 hn9 hO9 hb9 hg9 hat
          obtain ⟨f1, f2⟩ := HA11.out.after hg9
          have HFIN := hide (HA11.out.fin HL.out (t := ⟨false, x, s⟩) ⟨Hhs.out, Hhx.out⟩ hO9 hb9 hg9 (by rcases hat with e2 | e2; exact .inl (Option.some.inj e2).symm; exact .inr e2))
          clear hn9 hO9 hb9 hg9 hat HF hzB
          refine hK.out _ _ True.intro (fun hHeld2 => ?_)
          clear hK K hHeld
          have hHeld := hHeld2
          clear hHeld2
          simp only [List.setIfInBounds_toArray, List.set_cons_succ, List.set_cons_zero]
          refine wpAnyH_take (i := 13) (v := ?_) rfl (by kernel_rfl) (by kernel_rfl) (by kernel_rfl) (fun _ _ _ h => h) (Or.inl ⟨by rfl, ?_⟩) (by assumption) ?_
          rotate_left
          · intro w hSw; (try dsimp only at hSw); go_simp; try with_reducible rfl
          simp only [Act.put, List.getElem_toArray, List.getElem_cons_succ, List.getElem_cons_zero, List.setIfInBounds_toArray, List.set_cons_succ, List.set_cons_zero]
          refine wpAnyH_ready (rs := [14]) (by kernel_rfl) (by simp) ?_
          refine AllReadyH.cons rfl (fun K hK => ?_) AllReadyH.nil
          go_simp
          refine hK.out _ _ True.intro (fun hHeld2 => ?_)
          clear hK K hHeld
          have hHeld := hHeld2
          clear hHeld2
          simp only [List.setIfInBounds_toArray, List.set_cons_succ, List.set_cons_zero]
          refine wpAnyH_done (by kernel_rfl) ?_ _
          clear hHeld
          go_wp2
          go_ret
          exact HFIN.out
        · have HMS := hide (show N < w6.heap.size from Nat.lt_of_lt_of_le HA6.out.nB HA6.out.z)
          have SB := hide (BoxV.made w6 [.string { data := #[] }, .string { data := #[118, 49] }, .string { data := #[34, 97, 34] }] 9)
          have HA8 := hide (HA6.out.alloc (Obj.cells #[.string { data := #[] }, .string { data := #[118, 49] }, .string { data := #[34, 97, 34] }] 9))
          go_simp
          refine hK.out _ _ True.intro (fun hHeld2 => ?_)
          clear hHeld2
          obtain ⟨w8, hw8⟩ : ∃ X, w6.alloc (Obj.cells #[.string { data := #[] }, .string { data := #[118, 49] }, .string { data := #[34, 97, 34] }] 9) = X := ⟨_, rfl⟩
          rw [hw8] at SB HA8  ⊢
          clear hw8
          have hHeld2 : (fun _ : World => True) w8 := True.intro
          clear hK K hHeld
          have hHeld := hHeld2
          clear hHeld2
          simp only [List.setIfInBounds_toArray, List.set_cons_succ, List.set_cons_zero]
          refine wpAnyH_ready (rs := [3, 9]) (by kernel_rfl) (by simp) ?_
          refine AllReadyH.cons rfl (fun K hK => ?_) (AllReadyH.cons rfl (fun K hK => ?_) AllReadyH.nil)
          · have f0 := HA8.out.c0
            go_simp
            clear f0
            refine hK.out _ _ True.intro (fun hHeld2 => ?_)
            clear hK K hHeld
            have hHeld := hHeld2
            clear hHeld2
            simp only [List.setIfInBounds_toArray, List.set_cons_succ, List.set_cons_zero]
            refine wpAnyH_ready (rs := [9]) (by kernel_rfl) (by simp) ?_
            refine AllReadyH.cons rfl (fun K hK => ?_) AllReadyH.nil
            go_simp
            refine (strAt HA8.out.d [⟨#[]⟩, ⟨#[118, 49]⟩, ⟨#[34, 97, 34]⟩] 3 _ 200 SB.out (by have := HMS.out; omega) rfl (by decide) (by decide) (fun s hs => by simp only [List.mem_cons, List.not_mem_nil, or_false] at hs; rcases hs with rfl | rfl | rfl <;> decide)).mono ?_
            rintro e w9 ⟨⟨s, rfl, hs⟩, dx, gx⟩
            have Hhs := hide hs
            have HA9 := hide (HA8.out.grown dx gx)
            clear hs dx gx SB
            refine hK.out _ _ True.intro (fun hHeld2 => ?_)
            clear hK K hHeld
            have hHeld := hHeld2
            clear hHeld2
            simp only [List.setIfInBounds_toArray, List.set_cons_succ, List.set_cons_zero]
            refine wpAnyH_take (i := 10) (v := ?_) rfl (by kernel_rfl) (by kernel_rfl) (by kernel_rfl) (fun _ _ _ h => h) (Or.inl ⟨by rfl, ?_⟩) (by assumption) ?_
            rotate_left
            · intro w hSw; (try dsimp only at hSw); go_simp; try with_reducible rfl
            simp only [Act.put, List.getElem_toArray, List.getElem_cons_succ, List.getElem_cons_zero, List.setIfInBounds_toArray, List.set_cons_succ, List.set_cons_zero]
            refine wpAnyH_ready (rs := [11]) (by kernel_rfl) (by simp) ?_
            refine AllReadyH.cons rfl (fun K hK => ?_) AllReadyH.nil
            have HMC := hide (show N < w9.heap.size from Nat.lt_of_lt_of_le HA9.out.nB HA9.out.z)
            have CB := hide (BoxV.made w9 [.bool false, .int .i64 x, .string s] 57)
            have HA11 := hide (HA9.out.alloc (Obj.cells #[.bool false, .int .i64 x, .string s] 57))
            go_simp
            refine hK.out _ _ True.intro (fun hHeld2 => ?_)
            clear hHeld2
            obtain ⟨w11, hw11⟩ : ∃ X, w9.alloc (Obj.cells #[.bool false, .int .i64 x, .string s] 57) = X := ⟨_, rfl⟩
            rw [hw11] at CB HA11  ⊢
            clear hw11
            have hHeld2 : (fun _ : World => True) w11 := True.intro
            clear hK K hHeld
            have hHeld := hHeld2
            clear hHeld2
            simp only [List.setIfInBounds_toArray, List.set_cons_succ, List.set_cons_zero]
            refine wpAnyH_ready (rs := [12]) (by kernel_rfl) (by simp) ?_
            refine AllReadyH.cons rfl (fun K hK => ?_) AllReadyH.nil
            have HF := hide (show OwnG 57 3 ciC w11 w.heap.size (.slice (some ⟨s0.b, 0, none⟩) s0.n s0.c) c0 from (HA11.out.r.f (by simp) (by simp)).1)
            have hzB := HA11.out.z
            refine step_append_gen 41 Tryz.underlying41 (.agg #[.bool false, .int .i64 0, .string { data := #[] }]) 32 infoCd rfl (by decide) (by decide) rfl _ _ rfl w.heap.size _ c0 (by first | rfl | (simp [Act.eval])) HF.out ciC_len _ (⟨false, x, s⟩ : Cn) (by first | rfl | (simp [Act.eval])) (fun i v hv => by match i with | 0 => (cases hv; exact (CB.out.2 0 _ rfl).1) | 1 => (cases hv; exact (CB.out.2 1 _ rfl).1) | 2 => (cases hv; exact (CB.out.2 2 _ rfl).1) | i + 3 => cases hv) (ciC_one _) hc0 hzB ?_
            intro g9 n9 c9 w9 hn9 hO9 hb9 hg9 hat
            obtain ⟨f1, f2⟩ := HA11.out.after hg9
            have HFIN := hide (HA11.out.fin HL.out (t := ⟨false, x, s⟩) ⟨Hhs.out, Hhx.out⟩ hO9 hb9 hg9 (by rcases hat with e2 | e2; exact .inl (Option.some.inj e2).symm; exact .inr e2))
            clear hn9 hO9 hb9 hg9 hat HF hzB
            refine hK.out _ _ True.intro (fun hHeld2 => ?_)
            clear hK K hHeld
            have hHeld := hHeld2
            clear hHeld2
            simp only [List.setIfInBounds_toArray, List.set_cons_succ, List.set_cons_zero]
            refine wpAnyH_take (i := 13) (v := ?_) rfl (by kernel_rfl) (by kernel_rfl) (by kernel_rfl) (fun _ _ _ h => h) (Or.inl ⟨by rfl, ?_⟩) (by assumption) ?_
            rotate_left
            · intro w hSw; (try dsimp only at hSw); go_simp; try with_reducible rfl
            simp only [Act.put, List.getElem_toArray, List.getElem_cons_succ, List.getElem_cons_zero, List.setIfInBounds_toArray, List.set_cons_succ, List.set_cons_zero]
            refine wpAnyH_ready (rs := [14]) (by kernel_rfl) (by simp) ?_
            refine AllReadyH.cons rfl (fun K hK => ?_) AllReadyH.nil
            go_simp
            refine hK.out _ _ True.intro (fun hHeld2 => ?_)
            clear hK K hHeld
            have hHeld := hHeld2
            clear hHeld2
            simp only [List.setIfInBounds_toArray, List.set_cons_succ, List.set_cons_zero]
            refine wpAnyH_done (by kernel_rfl) ?_ _
            clear hHeld
            go_wp2
            go_ret
            exact HFIN.out
          · go_simp
            refine (strAt HA8.out.d [⟨#[]⟩, ⟨#[118, 49]⟩, ⟨#[34, 97, 34]⟩] 3 _ 200 SB.out (by have := HMS.out; omega) rfl (by decide) (by decide) (fun s hs => by simp only [List.mem_cons, List.not_mem_nil, or_false] at hs; rcases hs with rfl | rfl | rfl <;> decide)).mono ?_
            rintro e w9 ⟨⟨s, rfl, hs⟩, dx, gx⟩
            have Hhs := hide hs
            have HA9 := hide (HA8.out.grown dx gx)
            clear hs dx gx SB
            refine hK.out _ _ True.intro (fun hHeld2 => ?_)
            clear hK K hHeld
            have hHeld := hHeld2
            clear hHeld2
            simp only [List.setIfInBounds_toArray, List.set_cons_succ, List.set_cons_zero]
            refine wpAnyH_take (i := 10) (v := ?_) rfl (by kernel_rfl) (by kernel_rfl) (by kernel_rfl) (fun _ _ _ h => h) (Or.inl ⟨by rfl, ?_⟩) (by assumption) ?_
            rotate_left
            · intro w hSw; (try dsimp only at hSw); go_simp; try with_reducible rfl
            simp only [Act.put, List.getElem_toArray, List.getElem_cons_succ, List.getElem_cons_zero, List.setIfInBounds_toArray, List.set_cons_succ, List.set_cons_zero]
            refine wpAnyH_ready (rs := [3, 11]) (by kernel_rfl) (by simp) ?_
            refine AllReadyH.cons rfl (fun K hK => ?_) (AllReadyH.cons rfl (fun K hK => ?_) AllReadyH.nil)
            · have f0 := HA9.out.c0
              go_simp
              clear f0
              refine hK.out _ _ True.intro (fun hHeld2 => ?_)
              clear hK K hHeld
              have hHeld := hHeld2
              clear hHeld2
              simp only [List.setIfInBounds_toArray, List.set_cons_succ, List.set_cons_zero]
              refine wpAnyH_ready (rs := [11]) (by kernel_rfl) (by simp) ?_
              refine AllReadyH.cons rfl (fun K hK => ?_) AllReadyH.nil
              have HMC := hide (show N < w9.heap.size from Nat.lt_of_lt_of_le HA9.out.nB HA9.out.z)
              have CB := hide (BoxV.made w9 [.bool false, .int .i64 x, .string s] 57)
              have HA11 := hide (HA9.out.alloc (Obj.cells #[.bool false, .int .i64 x, .string s] 57))
              go_simp
              refine hK.out _ _ True.intro (fun hHeld2 => ?_)
              clear hHeld2
              obtain ⟨w11, hw11⟩ : ∃ X, w9.alloc (Obj.cells #[.bool false, .int .i64 x, .string s] 57) = X := ⟨_, rfl⟩
              rw [hw11] at CB HA11  ⊢
              clear hw11
              have hHeld2 : (fun _ : World => True) w11 := True.intro
              clear hK K hHeld
              have hHeld := hHeld2
              clear hHeld2
              simp only [List.setIfInBounds_toArray, List.set_cons_succ, List.set_cons_zero]
              refine wpAnyH_ready (rs := [12]) (by kernel_rfl) (by simp) ?_
              refine AllReadyH.cons rfl (fun K hK => ?_) AllReadyH.nil
              have HF := hide (show OwnG 57 3 ciC w11 w.heap.size (.slice (some ⟨s0.b, 0, none⟩) s0.n s0.c) c0 from (HA11.out.r.f (by simp) (by simp)).1)
              have hzB := HA11.out.z
              refine step_append_gen 41 Tryz.underlying41 (.agg #[.bool false, .int .i64 0, .string { data := #[] }]) 32 infoCd rfl (by decide) (by decide) rfl _ _ rfl w.heap.size _ c0 (by first | rfl | (simp [Act.eval])) HF.out ciC_len _ (⟨false, x, s⟩ : Cn) (by first | rfl | (simp [Act.eval])) (fun i v hv => by match i with | 0 => (cases hv; exact (CB.out.2 0 _ rfl).1) | 1 => (cases hv; exact (CB.out.2 1 _ rfl).1) | 2 => (cases hv; exact (CB.out.2 2 _ rfl).1) | i + 3 => cases hv) (ciC_one _) hc0 hzB ?_
              intro g9 n9 c9 w9 hn9 hO9 hb9 hg9 hat
              obtain ⟨f1, f2⟩ := HA11.out.after hg9
              have HFIN := hide (HA11.out.fin HL.out (t := ⟨false, x, s⟩) ⟨Hhs.out, Hhx.out⟩ hO9 hb9 hg9 (by rcases hat with e2 | e2; exact .inl (Option.some.inj e2).symm; exact .inr e2))
              clear hn9 hO9 hb9 hg9 hat HF hzB
              refine hK.out _ _ True.intro (fun hHeld2 => ?_)
              clear hK K hHeld
              have hHeld := hHeld2
              clear hHeld2
              simp only [List.setIfInBounds_toArray, List.set_cons_succ, List.set_cons_zero]
              refine wpAnyH_take (i := 13) (v := ?_) rfl (by kernel_rfl) (by kernel_rfl) (by kernel_rfl) (fun _ _ _ h => h) (Or.inl ⟨by rfl, ?_⟩) (by assumption) ?_
              rotate_left
              · intro w hSw; (try dsimp only at hSw); go_simp; try with_reducible rfl
              simp only [Act.put, List.getElem_toArray, List.getElem_cons_succ, List.getElem_cons_zero, List.setIfInBounds_toArray, List.set_cons_succ, List.set_cons_zero]
              refine wpAnyH_ready (rs := [14]) (by kernel_rfl) (by simp) ?_
              refine AllReadyH.cons rfl (fun K hK => ?_) AllReadyH.nil
              go_simp
              refine hK.out _ _ True.intro (fun hHeld2 => ?_)
              clear hK K hHeld
              have hHeld := hHeld2
              clear hHeld2
              simp only [List.setIfInBounds_toArray, List.set_cons_succ, List.set_cons_zero]
              refine wpAnyH_done (by kernel_rfl) ?_ _
              clear hHeld
              go_wp2
              go_ret
              exact HFIN.out
            · have HMC := hide (show N < w9.heap.size from Nat.lt_of_lt_of_le HA9.out.nB HA9.out.z)
              have CB := hide (BoxV.made w9 [.bool false, .int .i64 x, .string s] 57)
              have HA11 := hide (HA9.out.alloc (Obj.cells #[.bool false, .int .i64 x, .string s] 57))
              go_simp
              refine hK.out _ _ True.intro (fun hHeld2 => ?_)
              clear hHeld2
              obtain ⟨w11, hw11⟩ : ∃ X, w9.alloc (Obj.cells #[.bool false, .int .i64 x, .string s] 57) = X := ⟨_, rfl⟩
              rw [hw11] at CB HA11  ⊢
              clear hw11
              have hHeld2 : (fun _ : World => True) w11 := True.intro
              clear hK K hHeld
              have hHeld := hHeld2
              clear hHeld2
              simp only [List.setIfInBounds_toArray, List.set_cons_succ, List.set_cons_zero]
              refine wpAnyH_ready (rs := [3]) (by kernel_rfl) (by simp) ?_
              refine AllReadyH.cons rfl (fun K hK => ?_) AllReadyH.nil
              have f0 := HA11.out.c0
              go_simp
              clear f0
              refine hK.out _ _ True.intro (fun hHeld2 => ?_)
              clear hK K hHeld
              have hHeld := hHeld2
              clear hHeld2
              simp only [List.setIfInBounds_toArray, List.set_cons_succ, List.set_cons_zero]
              refine wpAnyH_ready (rs := [12]) (by kernel_rfl) (by simp) ?_
              refine AllReadyH.cons rfl (fun K hK => ?_) AllReadyH.nil
              have HF := hide (show OwnG 57 3 ciC w11 w.heap.size (.slice (some ⟨s0.b, 0, none⟩) s0.n s0.c) c0 from (HA11.out.r.f (by simp) (by simp)).1)
              have hzB := HA11.out.z
              refine step_append_gen 41 Tryz.underlying41 (.agg #[.bool false, .int .i64 0, .string { data := #[] }]) 32 infoCd rfl (by decide) (by decide) rfl _ _ rfl w.heap.size _ c0 (by first | rfl | (simp [Act.eval])) HF.out ciC_len _ (⟨false, x, s⟩ : Cn) (by first | rfl | (simp [Act.eval])) (fun i v hv => by match i with | 0 => (cases hv; exact (CB.out.2 0 _ rfl).1) | 1 => (cases hv; exact (CB.out.2 1 _ rfl).1) | 2 => (cases hv; exact (CB.out.2 2 _ rfl).1) | i + 3 => cases hv) (ciC_one _) hc0 hzB ?_
              intro g9 n9 c9 w9 hn9 hO9 hb9 hg9 hat
              obtain ⟨f1, f2⟩ := HA11.out.after hg9
              have HFIN := hide (HA11.out.fin HL.out (t := ⟨false, x, s⟩) ⟨Hhs.out, Hhx.out⟩ hO9 hb9 hg9 (by rcases hat with e2 | e2; exact .inl (Option.some.inj e2).symm; exact .inr e2))
              clear hn9 hO9 hb9 hg9 hat HF hzB
              refine hK.out _ _ True.intro (fun hHeld2 => ?_)
              clear hK K hHeld
              have hHeld := hHeld2
              clear hHeld2
              simp only [List.setIfInBounds_toArray, List.set_cons_succ, List.set_cons_zero]
              refine wpAnyH_take (i := 13) (v := ?_) rfl (by kernel_rfl) (by kernel_rfl) (by kernel_rfl) (fun _ _ _ h => h) (Or.inl ⟨by rfl, ?_⟩) (by assumption) ?_
              rotate_left
              · intro w hSw; (try dsimp only at hSw); go_simp; try with_reducible rfl
              simp only [Act.put, List.getElem_toArray, List.getElem_cons_succ, List.getElem_cons_zero, List.setIfInBounds_toArray, List.set_cons_succ, List.set_cons_zero]
              refine wpAnyH_ready (rs := [14]) (by kernel_rfl) (by simp) ?_
              refine AllReadyH.cons rfl (fun K hK => ?_) AllReadyH.nil
              go_simp
              refine hK.out _ _ True.intro (fun hHeld2 => ?_)
              clear hK K hHeld
              have hHeld := hHeld2
              clear hHeld2
              simp only [List.setIfInBounds_toArray, List.set_cons_succ, List.set_cons_zero]
              refine wpAnyH_done (by kernel_rfl) ?_ _
              clear hHeld
              go_wp2
              go_ret
              exact HFIN.out
      · have HMS := hide (show N < w5.heap.size from Nat.lt_of_lt_of_le HA5.out.nB HA5.out.z)
        have SB := hide (BoxV.made w5 [.string { data := #[] }, .string { data := #[118, 49] }, .string { data := #[34, 97, 34] }] 9)
        have HA8 := hide (HA5.out.alloc (Obj.cells #[.string { data := #[] }, .string { data := #[118, 49] }, .string { data := #[34, 97, 34] }] 9))
        have IB := hide (IB.out.alloc (Obj.cells #[.string { data := #[] }, .string { data := #[118, 49] }, .string { data := #[34, 97, 34] }] 9))
        go_simp
        refine hK.out _ _ True.intro (fun hHeld2 => ?_)
        clear hHeld2
        obtain ⟨w8, hw8⟩ : ∃ X, w5.alloc (Obj.cells #[.string { data := #[] }, .string { data := #[118, 49] }, .string { data := #[34, 97, 34] }] 9) = X := ⟨_, rfl⟩
        rw [hw8] at SB HA8 IB ⊢
        clear hw8
        have hHeld2 : (fun _ : World => True) w8 := True.intro
        clear hK K hHeld
        have hHeld := hHeld2
        clear hHeld2
        simp only [List.setIfInBounds_toArray, List.set_cons_succ, List.set_cons_zero]
        refine wpAnyH_ready (rs := [3, 6]) (by kernel_rfl) (by simp) ?_
        refine AllReadyH.cons rfl (fun K hK => ?_) (AllReadyH.cons rfl (fun K hK => ?_) AllReadyH.nil)
        · have f0 := HA8.out.c0
          go_simp
          clear f0
          refine hK.out _ _ True.intro (fun hHeld2 => ?_)
          clear hK K hHeld
          have hHeld := hHeld2
          clear hHeld2
          simp only [List.setIfInBounds_toArray, List.set_cons_succ, List.set_cons_zero]
          refine wpAnyH_ready (rs := [6]) (by kernel_rfl) (by simp) ?_
          refine AllReadyH.cons rfl (fun K hK => ?_) AllReadyH.nil
          go_simp
          refine (intAt HA8.out.d [0, 10000, -1, 5] 4 _ IB.out (by have := HMI.out; omega) rfl (by decide) (by decide) (fun x => -1000000 ≤ x ∧ x ≤ 1000000) (fun i hi => by have hi4 : i = 0 ∨ i = 1 ∨ i = 2 ∨ i = 3 := (by omega); rcases hi4 with rfl | rfl | rfl | rfl <;> decide)).mono ?_
          rintro e w6 ⟨⟨x, rfl, hx⟩, dx, gx⟩
          have Hhx := hide hx
          have HA6 := hide (HA8.out.grown dx gx)
          have SB := hide (SB.out.grownD gx (by have := HMS.out; omega))
          clear hx dx gx IB
          refine hK.out _ _ True.intro (fun hHeld2 => ?_)
          clear hK K hHeld
          have hHeld := hHeld2
          clear hHeld2
          simp only [List.setIfInBounds_toArray, List.set_cons_succ, List.set_cons_zero]
          refine wpAnyH_ready (rs := [9]) (by kernel_rfl) (by simp) ?_
          refine AllReadyH.cons rfl (fun K hK => ?_) AllReadyH.nil
          go_simp
          refine (strAt HA6.out.d [⟨#[]⟩, ⟨#[118, 49]⟩, ⟨#[34, 97, 34]⟩] 3 _ 200 SB.out (by have := HMS.out; omega) rfl (by decide) (by decide) (fun s hs => by simp only [List.mem_cons, List.not_mem_nil, or_false] at hs; rcases hs with rfl | rfl | rfl <;> decide)).mono ?_
          rintro e w9 ⟨⟨s, rfl, hs⟩, dx, gx⟩
          have Hhs := hide hs
          have HA9 := hide (HA6.out.grown dx gx)
          clear hs dx gx SB
          refine hK.out _ _ True.intro (fun hHeld2 => ?_)
          clear hK K hHeld
          have hHeld := hHeld2
          clear hHeld2
          simp only [List.setIfInBounds_toArray, List.set_cons_succ, List.set_cons_zero]
          refine wpAnyH_take (i := 10) (v := ?_) rfl (by kernel_rfl) (by kernel_rfl) (by kernel_rfl) (fun _ _ _ h => h) (Or.inl ⟨by rfl, ?_⟩) (by assumption) ?_
          rotate_left
          · intro w hSw; (try dsimp only at hSw); go_simp; try with_reducible rfl
          simp only [Act.put, List.getElem_toArray, List.getElem_cons_succ, List.getElem_cons_zero, List.setIfInBounds_toArray, List.set_cons_succ, List.set_cons_zero]
          refine wpAnyH_ready (rs := [11]) (by kernel_rfl) (by simp) ?_
          refine AllReadyH.cons rfl (fun K hK => ?_) AllReadyH.nil
          have HMC := hide (show N < w9.heap.size from Nat.lt_of_lt_of_le HA9.out.nB HA9.out.z)
          have CB := hide (BoxV.made w9 [.bool false, .int .i64 x, .string s] 57)
          have HA11 := hide (HA9.out.alloc (Obj.cells #[.bool false, .int .i64 x, .string s] 57))
          go_simp
          refine hK.out _ _ True.intro (fun hHeld2 => ?_)
          clear hHeld2
          obtain ⟨w11, hw11⟩ : ∃ X, w9.alloc (Obj.cells #[.bool false, .int .i64 x, .string s] 57) = X := ⟨_, rfl⟩
          rw [hw11] at CB HA11  ⊢
          clear hw11
          have hHeld2 : (fun _ : World => True) w11 := True.intro
          clear hK K hHeld
          have hHeld := hHeld2
          clear hHeld2
          simp only [List.setIfInBounds_toArray, List.set_cons_succ, List.set_cons_zero]
          refine wpAnyH_ready (rs := [12]) (by kernel_rfl) (by simp) ?_
          refine AllReadyH.cons rfl (fun K hK => ?_) AllReadyH.nil
          have HF := hide (show OwnG 57 3 ciC w11 w.heap.size (.slice (some ⟨s0.b, 0, none⟩) s0.n s0.c) c0 from (HA11.out.r.f (by simp) (by simp)).1)
          have hzB := HA11.out.z
          refine step_append_gen 41 Tryz.underlying41 (.agg #[.bool false, .int .i64 0, .string { data := #[] }]) 32 infoCd rfl (by decide) (by decide) rfl _ _ rfl w.heap.size _ c0 (by first | rfl | (simp [Act.eval])) HF.out ciC_len _ (⟨false, x, s⟩ : Cn) (by first | rfl | (simp [Act.eval])) (fun i v hv => by match i with | 0 => (cases hv; exact (CB.out.2 0 _ rfl).1) | 1 => (cases hv; exact (CB.out.2 1 _ rfl).1) | 2 => (cases hv; exact (CB.out.2 2 _ rfl).1) | i + 3 => cases hv) (ciC_one _) hc0 hzB ?_
          intro g9 n9 c9 w9 hn9 hO9 hb9 hg9 hat
          obtain ⟨f1, f2⟩ := HA11.out.after hg9
          have HFIN := hide (HA11.out.fin HL.out (t := ⟨false, x, s⟩) ⟨Hhs.out, Hhx.out⟩ hO9 hb9 hg9 (by rcases hat with e2 | e2; exact .inl (Option.some.inj e2).symm; exact .inr e2))
          clear hn9 hO9 hb9 hg9 hat HF hzB
          refine hK.out _ _ True.intro (fun hHeld2 => ?_)
          clear hK K hHeld
          have hHeld := hHeld2
          clear hHeld2
          simp only [List.setIfInBounds_toArray, List.set_cons_succ, List.set_cons_zero]
          refine wpAnyH_take (i := 13) (v := ?_) rfl (by kernel_rfl) (by kernel_rfl) (by kernel_rfl) (fun _ _ _ h => h) (Or.inl ⟨by rfl, ?_⟩) (by assumption) ?_
          rotate_left
          · intro w hSw; (try dsimp only at hSw); go_simp; try with_reducible rfl
          simp only [Act.put, List.getElem_toArray, List.getElem_cons_succ, List.getElem_cons_zero, List.setIfInBounds_toArray, List.set_cons_succ, List.set_cons_zero]
          refine wpAnyH_ready (rs := [14]) (by kernel_rfl) (by simp) ?_
          refine AllReadyH.cons rfl (fun K hK => ?_) AllReadyH.nil
          go_simp
          refine hK.out _ _ True.intro (fun hHeld2 => ?_)
          clear hK K hHeld
          have hHeld := hHeld2
          clear hHeld2
          simp only [List.setIfInBounds_toArray, List.set_cons_succ, List.set_cons_zero]
          refine wpAnyH_done (by kernel_rfl) ?_ _
          clear hHeld
          go_wp2
          go_ret
          exact HFIN.out
        · go_simp
          refine (intAt HA8.out.d [0, 10000, -1, 5] 4 _ IB.out (by have := HMI.out; omega) rfl (by decide) (by decide) (fun x => -1000000 ≤ x ∧ x ≤ 1000000) (fun i hi => by have hi4 : i = 0 ∨ i = 1 ∨ i = 2 ∨ i = 3 := (by omega); rcases hi4 with rfl | rfl | rfl | rfl <;> decide)).mono ?_
          rintro e w6 ⟨⟨x, rfl, hx⟩, dx, gx⟩
          have Hhx := hide hx
          have HA6 := hide (HA8.out.grown dx gx)
          have SB := hide (SB.out.grownD gx (by have := HMS.out; omega))
          clear hx dx gx IB
          refine hK.out _ _ True.intro (fun hHeld2 => ?_)
          clear hK K hHeld
          have hHeld := hHeld2
          clear hHeld2
          simp only [List.setIfInBounds_toArray, List.set_cons_succ, List.set_cons_zero]
          refine wpAnyH_ready (rs := [3, 9]) (by kernel_rfl) (by simp) ?_
          refine AllReadyH.cons rfl (fun K hK => ?_) (AllReadyH.cons rfl (fun K hK => ?_) AllReadyH.nil)
          · have f0 := HA6.out.c0
            go_simp
            clear f0
            refine hK.out _ _ True.intro (fun hHeld2 => ?_)
            clear hK K hHeld
            have hHeld := hHeld2
            clear hHeld2
            simp only [List.setIfInBounds_toArray, List.set_cons_succ, List.set_cons_zero]
            refine wpAnyH_ready (rs := [9]) (by kernel_rfl) (by simp) ?_
            refine AllReadyH.cons rfl (fun K hK => ?_) AllReadyH.nil
            go_simp
            refine (strAt HA6.out.d [⟨#[]⟩, ⟨#[118, 49]⟩, ⟨#[34, 97, 34]⟩] 3 _ 200 SB.out (by have := HMS.out; omega) rfl (by decide) (by decide) (fun s hs => by simp only [List.mem_cons, List.not_mem_nil, or_false] at hs; rcases hs with rfl | rfl | rfl <;> decide)).mono ?_
            rintro e w9 ⟨⟨s, rfl, hs⟩, dx, gx⟩
            have Hhs := hide hs
            have HA9 := hide (HA6.out.grown dx gx)
            clear hs dx gx SB
            refine hK.out _ _ True.intro (fun hHeld2 => ?_)
            clear hK K hHeld
            have hHeld := hHeld2
            clear hHeld2
            simp only [List.setIfInBounds_toArray, List.set_cons_succ, List.set_cons_zero]
            refine wpAnyH_take (i := 10) (v := ?_) rfl (by kernel_rfl) (by kernel_rfl) (by kernel_rfl) (fun _ _ _ h => h) (Or.inl ⟨by rfl, ?_⟩) (by assumption) ?_
            rotate_left
            · intro w hSw; (try dsimp only at hSw); go_simp; try with_reducible rfl
            simp only [Act.put, List.getElem_toArray, List.getElem_cons_succ, List.getElem_cons_zero, List.setIfInBounds_toArray, List.set_cons_succ, List.set_cons_zero]
            refine wpAnyH_ready (rs := [11]) (by kernel_rfl) (by simp) ?_
            refine AllReadyH.cons rfl (fun K hK => ?_) AllReadyH.nil
            have HMC := hide (show N < w9.heap.size from Nat.lt_of_lt_of_le HA9.out.nB HA9.out.z)
            have CB := hide (BoxV.made w9 [.bool false, .int .i64 x, .string s] 57)
            have HA11 := hide (HA9.out.alloc (Obj.cells #[.bool false, .int .i64 x, .string s] 57))
            go_simp
            refine hK.out _ _ True.intro (fun hHeld2 => ?_)
            clear hHeld2
            obtain ⟨w11, hw11⟩ : ∃ X, w9.alloc (Obj.cells #[.bool false, .int .i64 x, .string s] 57) = X := ⟨_, rfl⟩
            rw [hw11] at CB HA11  ⊢
            clear hw11
            have hHeld2 : (fun _ : World => True) w11 := True.intro
            clear hK K hHeld
            have hHeld := hHeld2
            clear hHeld2
            simp only [List.setIfInBounds_toArray, List.set_cons_succ, List.set_cons_zero]
            refine wpAnyH_ready (rs := [12]) (by kernel_rfl) (by simp) ?_
            refine AllReadyH.cons rfl (fun K hK => ?_) AllReadyH.nil
            have HF := hide (show OwnG 57 3 ciC w11 w.heap.size (.slice (some ⟨s0.b, 0, none⟩) s0.n s0.c) c0 from (HA11.out.r.f (by simp) (by simp)).1)
            have hzB := HA11.out.z
            refine step_append_gen 41 Tryz.underlying41 (.agg #[.bool false, .int .i64 0, .string { data := #[] }]) 32 infoCd rfl (by decide) (by decide) rfl _ _ rfl w.heap.size _ c0 (by first | rfl | (simp [Act.eval])) HF.out ciC_len _ (⟨false, x, s⟩ : Cn) (by first | rfl | (simp [Act.eval])) (fun i v hv => by match i with | 0 => (cases hv; exact (CB.out.2 0 _ rfl).1) | 1 => (cases hv; exact (CB.out.2 1 _ rfl).1) | 2 => (cases hv; exact (CB.out.2 2 _ rfl).1) | i + 3 => cases hv) (ciC_one _) hc0 hzB ?_
            intro g9 n9 c9 w9 hn9 hO9 hb9 hg9 hat
            obtain ⟨f1, f2⟩ := HA11.out.after hg9
            have HFIN := hide (HA11.out.fin HL.out (t := ⟨false, x, s⟩) ⟨Hhs.out, Hhx.out⟩ hO9 hb9 hg9 (by rcases hat with e2 | e2; exact .inl (Option.some.inj e2).symm; exact .inr e2))
            clear hn9 hO9 hb9 hg9 hat HF hzB
            refine hK.out _ _ True.intro (fun hHeld2 => ?_)
            clear hK K hHeld
            have hHeld := hHeld2
            clear hHeld2
            simp only [List.setIfInBounds_toArray, List.set_cons_succ, List.set_cons_zero]
            refine wpAnyH_take (i := 13) (v := ?_) rfl (by kernel_rfl) (by kernel_rfl) (by kernel_rfl) (fun _ _ _ h => h) (Or.inl ⟨by rfl, ?_⟩) (by assumption) ?_
            rotate_left
            · intro w hSw; (try dsimp only at hSw); go_simp; try with_reducible rfl
            simp only [Act.put, List.getElem_toArray, List.getElem_cons_succ, List.getElem_cons_zero, List.setIfInBounds_toArray, List.set_cons_succ, List.set_cons_zero]
            refine wpAnyH_ready (rs := [14]) (by kernel_rfl) (by simp) ?_
            refine AllReadyH.cons rfl (fun K hK => ?_) AllReadyH.nil
            go_simp
            refine hK.out _ _ True.intro (fun hHeld2 => ?_)
            clear hK K hHeld
            have hHeld := hHeld2
            clear hHeld2
            simp only [List.setIfInBounds_toArray, List.set_cons_succ, List.set_cons_zero]
            refine wpAnyH_done (by kernel_rfl) ?_ _
            clear hHeld
            go_wp2
            go_ret
            exact HFIN.out
          · go_simp
            refine (strAt HA6.out.d [⟨#[]⟩, ⟨#[118, 49]⟩, ⟨#[34, 97, 34]⟩] 3 _ 200 SB.out (by have := HMS.out; omega) rfl (by decide) (by decide) (fun s hs => by simp only [List.mem_cons, List.not_mem_nil, or_false] at hs; rcases hs with rfl | rfl | rfl <;> decide)).mono ?_
            rintro e w9 ⟨⟨s, rfl, hs⟩, dx, gx⟩
            have Hhs := hide hs
            have HA9 := hide (HA6.out.grown dx gx)
            clear hs dx gx SB
            refine hK.out _ _ True.intro (fun hHeld2 => ?_)
            clear hK K hHeld
            have hHeld := hHeld2
            clear hHeld2
            simp only [List.setIfInBounds_toArray, List.set_cons_succ, List.set_cons_zero]
            refine wpAnyH_take (i := 10) (v := ?_) rfl (by kernel_rfl) (by kernel_rfl) (by kernel_rfl) (fun _ _ _ h => h) (Or.inl ⟨by rfl, ?_⟩) (by assumption) ?_
            rotate_left
            · intro w hSw; (try dsimp only at hSw); go_simp; try with_reducible rfl
            simp only [Act.put, List.getElem_toArray, List.getElem_cons_succ, List.getElem_cons_zero, List.setIfInBounds_toArray, List.set_cons_succ, List.set_cons_zero]
            refine wpAnyH_ready (rs := [3, 11]) (by kernel_rfl) (by simp) ?_
            refine AllReadyH.cons rfl (fun K hK => ?_) (AllReadyH.cons rfl (fun K hK => ?_) AllReadyH.nil)
            · have f0 := HA9.out.c0
              go_simp
              clear f0
              refine hK.out _ _ True.intro (fun hHeld2 => ?_)
              clear hK K hHeld
              have hHeld := hHeld2
              clear hHeld2
              simp only [List.setIfInBounds_toArray, List.set_cons_succ, List.set_cons_zero]
              refine wpAnyH_ready (rs := [11]) (by kernel_rfl) (by simp) ?_
              refine AllReadyH.cons rfl (fun K hK => ?_) AllReadyH.nil
              have HMC := hide (show N < w9.heap.size from Nat.lt_of_lt_of_le HA9.out.nB HA9.out.z)
              have CB := hide (BoxV.made w9 [.bool false, .int .i64 x, .string s] 57)
              have HA11 := hide (HA9.out.alloc (Obj.cells #[.bool false, .int .i64 x, .string s] 57))
              go_simp
              refine hK.out _ _ True.intro (fun hHeld2 => ?_)
              clear hHeld2
              obtain ⟨w11, hw11⟩ : ∃ X, w9.alloc (Obj.cells #[.bool false, .int .i64 x, .string s] 57) = X := ⟨_, rfl⟩
              rw [hw11] at CB HA11  ⊢
              clear hw11
              have hHeld2 : (fun _ : World => True) w11 := True.intro
              clear hK K hHeld
              have hHeld := hHeld2
              clear hHeld2
              simp only [List.setIfInBounds_toArray, List.set_cons_succ, List.set_cons_zero]
              refine wpAnyH_ready (rs := [12]) (by kernel_rfl) (by simp) ?_
              refine AllReadyH.cons rfl (fun K hK => ?_) AllReadyH.nil
              have HF := hide (show OwnG 57 3 ciC w11 w.heap.size (.slice (some ⟨s0.b, 0, none⟩) s0.n s0.c) c0 from (HA11.out.r.f (by simp) (by simp)).1)
              have hzB := HA11.out.z
              refine step_append_gen 41 Tryz.underlying41 (.agg #[.bool false, .int .i64 0, .string { data := #[] }]) 32 infoCd rfl (by decide) (by decide) rfl _ _ rfl w.heap.size _ c0 (by first | rfl | (simp [Act.eval])) HF.out ciC_len _ (⟨false, x, s⟩ : Cn) (by first | rfl | (simp [Act.eval])) (fun i v hv => by match i with | 0 => (cases hv; exact (CB.out.2 0 _ rfl).1) | 1 => (cases hv; exact (CB.out.2 1 _ rfl).1) | 2 => (cases hv; exact (CB.out.2 2 _ rfl).1) | i + 3 => cases hv) (ciC_one _) hc0 hzB ?_
              intro g9 n9 c9 w9 hn9 hO9 hb9 hg9 hat
              obtain ⟨f1, f2⟩ := HA11.out.after hg9
              have HFIN := hide (HA11.out.fin HL.out (t := ⟨false, x, s⟩) ⟨Hhs.out, Hhx.out⟩ hO9 hb9 hg9 (by rcases hat with e2 | e2; exact .inl (Option.some.inj e2).symm; exact .inr e2))
              clear hn9 hO9 hb9 hg9 hat HF hzB
              refine hK.out _ _ True.intro (fun hHeld2 => ?_)
              clear hK K hHeld
              have hHeld := hHeld2
              clear hHeld2
              simp only [List.setIfInBounds_toArray, List.set_cons_succ, List.set_cons_zero]
              refine wpAnyH_take (i := 13) (v := ?_) rfl (by kernel_rfl) (by kernel_rfl) (by kernel_rfl) (fun _ _ _ h => h) (Or.inl ⟨by rfl, ?_⟩) (by assumption) ?_
              rotate_left
              · intro w hSw; (try dsimp only at hSw); go_simp; try with_reducible rfl
              simp only [Act.put, List.getElem_toArray, List.getElem_cons_succ, List.getElem_cons_zero, List.setIfInBounds_toArray, List.set_cons_succ, List.set_cons_zero]
              refine wpAnyH_ready (rs := [14]) (by kernel_rfl) (by simp) ?_
              refine AllReadyH.cons rfl (fun K hK => ?_) AllReadyH.nil
              go_simp
              refine hK.out _ _ True.intro (fun hHeld2 => ?_)
              clear hK K hHeld
              have hHeld := hHeld2
              clear hHeld2
              simp only [List.setIfInBounds_toArray, List.set_cons_succ, List.set_cons_zero]
              refine wpAnyH_done (by kernel_rfl) ?_ _
              clear hHeld
              go_wp2
              go_ret
              exact HFIN.out
            · have HMC := hide (show N < w9.heap.size from Nat.lt_of_lt_of_le HA9.out.nB HA9.out.z)
              have CB := hide (BoxV.made w9 [.bool false, .int .i64 x, .string s] 57)
              have HA11 := hide (HA9.out.alloc (Obj.cells #[.bool false, .int .i64 x, .string s] 57))
              go_simp
              refine hK.out _ _ True.intro (fun hHeld2 => ?_)
              clear hHeld2
              obtain ⟨w11, hw11⟩ : ∃ X, w9.alloc (Obj.cells #[.bool false, .int .i64 x, .string s] 57) = X := ⟨_, rfl⟩
              rw [hw11] at CB HA11  ⊢
              clear hw11
              have hHeld2 : (fun _ : World => True) w11 := True.intro
              clear hK K hHeld
              have hHeld := hHeld2
              clear hHeld2
              simp only [List.setIfInBounds_toArray, List.set_cons_succ, List.set_cons_zero]
              refine wpAnyH_ready (rs := [3]) (by kernel_rfl) (by simp) ?_
              refine AllReadyH.cons rfl (fun K hK => ?_) AllReadyH.nil
              have f0 := HA11.out.c0
              go_simp
              clear f0
              refine hK.out _ _ True.intro (fun hHeld2 => ?_)
              clear hK K hHeld
              have hHeld := hHeld2
              clear hHeld2
              simp only [List.setIfInBounds_toArray, List.set_cons_succ, List.set_cons_zero]
              refine wpAnyH_ready (rs := [12]) (by kernel_rfl) (by simp) ?_
              refine AllReadyH.cons rfl (fun K hK => ?_) AllReadyH.nil
              have HF := hide (show OwnG 57 3 ciC w11 w.heap.size (.slice (some ⟨s0.b, 0, none⟩) s0.n s0.c) c0 from (HA11.out.r.f (by simp) (by simp)).1)
              have hzB := HA11.out.z
              refine step_append_gen 41 Tryz.underlying41 (.agg #[.bool false, .int .i64 0, .string { data := #[] }]) 32 infoCd rfl (by decide) (by decide) rfl _ _ rfl w.heap.size _ c0 (by first | rfl | (simp [Act.eval])) HF.out ciC_len _ (⟨false, x, s⟩ : Cn) (by first | rfl | (simp [Act.eval])) (fun i v hv => by match i with | 0 => (cases hv; exact (CB.out.2 0 _ rfl).1) | 1 => (cases hv; exact (CB.out.2 1 _ rfl).1) | 2 => (cases hv; exact (CB.out.2 2 _ rfl).1) | i + 3 => cases hv) (ciC_one _) hc0 hzB ?_
              intro g9 n9 c9 w9 hn9 hO9 hb9 hg9 hat
              obtain ⟨f1, f2⟩ := HA11.out.after hg9
              have HFIN := hide (HA11.out.fin HL.out (t := ⟨false, x, s⟩) ⟨Hhs.out, Hhx.out⟩ hO9 hb9 hg9 (by rcases hat with e2 | e2; exact .inl (Option.some.inj e2).symm; exact .inr e2))
              clear hn9 hO9 hb9 hg9 hat HF hzB
              refine hK.out _ _ True.intro (fun hHeld2 => ?_)
              clear hK K hHeld
              have hHeld := hHeld2
              clear hHeld2
              simp only [List.setIfInBounds_toArray, List.set_cons_succ, List.set_cons_zero]
              refine wpAnyH_take (i := 13) (v := ?_) rfl (by kernel_rfl) (by kernel_rfl) (by kernel_rfl) (fun _ _ _ h => h) (Or.inl ⟨by rfl, ?_⟩) (by assumption) ?_
              rotate_left
              · intro w hSw; (try dsimp only at hSw); go_simp; try with_reducible rfl
              simp only [Act.put, List.getElem_toArray, List.getElem_cons_succ, List.getElem_cons_zero, List.setIfInBounds_toArray, List.set_cons_succ, List.set_cons_zero]
              refine wpAnyH_ready (rs := [14]) (by kernel_rfl) (by simp) ?_
              refine AllReadyH.cons rfl (fun K hK => ?_) AllReadyH.nil
              go_simp
              refine hK.out _ _ True.intro (fun hHeld2 => ?_)
              clear hK K hHeld
              have hHeld := hHeld2
              clear hHeld2
              simp only [List.setIfInBounds_toArray, List.set_cons_succ, List.set_cons_zero]
              refine wpAnyH_done (by kernel_rfl) ?_ _
              clear hHeld
              go_wp2
              go_ret
              exact HFIN.out
    · have HMS := hide (show N < wd.heap.size from Nat.lt_of_lt_of_le HA0.out.nB HA0.out.z)
      have SB := hide (BoxV.made wd [.string { data := #[] }, .string { data := #[118, 49] }, .string { data := #[34, 97, 34] }] 9)
      have HA8 := hide (HA0.out.alloc (Obj.cells #[.string { data := #[] }, .string { data := #[118, 49] }, .string { data := #[34, 97, 34] }] 9))
      go_simp
      refine hK.out _ _ True.intro (fun hHeld2 => ?_)
      clear hHeld2
      obtain ⟨w8, hw8⟩ : ∃ X, wd.alloc (Obj.cells #[.string { data := #[] }, .string { data := #[118, 49] }, .string { data := #[34, 97, 34] }] 9) = X := ⟨_, rfl⟩
      rw [hw8] at SB HA8  ⊢
      clear hw8
      have hHeld2 : (fun _ : World => True) w8 := True.intro
      clear hK K hHeld
      have hHeld := hHeld2
      clear hHeld2
      simp only [List.setIfInBounds_toArray, List.set_cons_succ, List.set_cons_zero]
      refine wpAnyH_ready (rs := [3, 5]) (by kernel_rfl) (by simp) ?_
      refine AllReadyH.cons rfl (fun K hK => ?_) (AllReadyH.cons rfl (fun K hK => ?_) AllReadyH.nil)
      · have f0 := HA8.out.c0
        go_simp
        clear f0
        refine hK.out _ _ True.intro (fun hHeld2 => ?_)
        clear hK K hHeld
        have hHeld := hHeld2
        clear hHeld2
        simp only [List.setIfInBounds_toArray, List.set_cons_succ, List.set_cons_zero]
        refine wpAnyH_ready (rs := [5]) (by kernel_rfl) (by simp) ?_
        refine AllReadyH.cons rfl (fun K hK => ?_) AllReadyH.nil
        have HMI := hide (show N < w8.heap.size from Nat.lt_of_lt_of_le HA8.out.nB HA8.out.z)
        have IB := hide (BoxV.made w8 [.int .i64 0, .int .i64 10000, .int .i64 (-1), .int .i64 5] 3)
        have HA5 := hide (HA8.out.alloc (Obj.cells #[.int .i64 0, .int .i64 10000, .int .i64 (-1), .int .i64 5] 3))
        have SB := hide (SB.out.alloc (Obj.cells #[.int .i64 0, .int .i64 10000, .int .i64 (-1), .int .i64 5] 3))
        go_simp
        refine hK.out _ _ True.intro (fun hHeld2 => ?_)
        clear hHeld2
        obtain ⟨w5, hw5⟩ : ∃ X, w8.alloc (Obj.cells #[.int .i64 0, .int .i64 10000, .int .i64 (-1), .int .i64 5] 3) = X := ⟨_, rfl⟩
        rw [hw5] at IB HA5 SB ⊢
        clear hw5
        have hHeld2 : (fun _ : World => True) w5 := True.intro
        clear hK K hHeld
        have hHeld := hHeld2
        clear hHeld2
        simp only [List.setIfInBounds_toArray, List.set_cons_succ, List.set_cons_zero]
        refine wpAnyH_ready (rs := [6]) (by kernel_rfl) (by simp) ?_
        refine AllReadyH.cons rfl (fun K hK => ?_) AllReadyH.nil
        go_simp
        refine (intAt HA5.out.d [0, 10000, -1, 5] 4 _ IB.out (by have := HMI.out; omega) rfl (by decide) (by decide) (fun x => -1000000 ≤ x ∧ x ≤ 1000000) (fun i hi => by have hi4 : i = 0 ∨ i = 1 ∨ i = 2 ∨ i = 3 := (by omega); rcases hi4 with rfl | rfl | rfl | rfl <;> decide)).mono ?_
        rintro e w6 ⟨⟨x, rfl, hx⟩, dx, gx⟩
        have Hhx := hide hx
        have HA6 := hide (HA5.out.grown dx gx)
        have SB := hide (SB.out.grownD gx (by have := HMS.out; omega))
        clear hx dx gx IB
        refine hK.out _ _ True.intro (fun hHeld2 => ?_)
        clear hK K hHeld
        have hHeld := hHeld2
        clear hHeld2
        simp only [List.setIfInBounds_toArray, List.set_cons_succ, List.set_cons_zero]
        refine wpAnyH_ready (rs := [9]) (by kernel_rfl) (by simp) ?_
        refine AllReadyH.cons rfl (fun K hK => ?_) AllReadyH.nil
        go_simp
        refine (strAt HA6.out.d [⟨#[]⟩, ⟨#[118, 49]⟩, ⟨#[34, 97, 34]⟩] 3 _ 200 SB.out (by have := HMS.out; omega) rfl (by decide) (by decide) (fun s hs => by simp only [List.mem_cons, List.not_mem_nil, or_false] at hs; rcases hs with rfl | rfl | rfl <;> decide)).mono ?_
        rintro e w9 ⟨⟨s, rfl, hs⟩, dx, gx⟩
        have Hhs := hide hs
        have HA9 := hide (HA6.out.grown dx gx)
        clear hs dx gx SB
        refine hK.out _ _ True.intro (fun hHeld2 => ?_)
        clear hK K hHeld
        have hHeld := hHeld2
        clear hHeld2
        simp only [List.setIfInBounds_toArray, List.set_cons_succ, List.set_cons_zero]
        refine wpAnyH_take (i := 10) (v := ?_) rfl (by kernel_rfl) (by kernel_rfl) (by kernel_rfl) (fun _ _ _ h => h) (Or.inl ⟨by rfl, ?_⟩) (by assumption) ?_
        rotate_left
        · intro w hSw; (try dsimp only at hSw); go_simp; try with_reducible rfl
        simp only [Act.put, List.getElem_toArray, List.getElem_cons_succ, List.getElem_cons_zero, List.setIfInBounds_toArray, List.set_cons_succ, List.set_cons_zero]
        refine wpAnyH_ready (rs := [11]) (by kernel_rfl) (by simp) ?_
        refine AllReadyH.cons rfl (fun K hK => ?_) AllReadyH.nil
        have HMC := hide (show N < w9.heap.size from Nat.lt_of_lt_of_le HA9.out.nB HA9.out.z)
        have CB := hide (BoxV.made w9 [.bool false, .int .i64 x, .string s] 57)
        have HA11 := hide (HA9.out.alloc (Obj.cells #[.bool false, .int .i64 x, .string s] 57))
        go_simp
        refine hK.out _ _ True.intro (fun hHeld2 => ?_)
        clear hHeld2
        obtain ⟨w11, hw11⟩ : ∃ X, w9.alloc (Obj.cells #[.bool false, .int .i64 x, .string s] 57) = X := ⟨_, rfl⟩
        rw [hw11] at CB HA11  ⊢
        clear hw11
        have hHeld2 : (fun _ : World => True) w11 := True.intro
        clear hK K hHeld
        have hHeld := hHeld2
        clear hHeld2
        simp only [List.setIfInBounds_toArray, List.set_cons_succ, List.set_cons_zero]
        refine wpAnyH_ready (rs := [12]) (by kernel_rfl) (by simp) ?_
        refine AllReadyH.cons rfl (fun K hK => ?_) AllReadyH.nil
        have HF := hide (show OwnG 57 3 ciC w11 w.heap.size (.slice (some ⟨s0.b, 0, none⟩) s0.n s0.c) c0 from (HA11.out.r.f (by simp) (by simp)).1)
        have hzB := HA11.out.z
        refine step_append_gen 41 Tryz.underlying41 (.agg #[.bool false, .int .i64 0, .string { data := #[] }]) 32 infoCd rfl (by decide) (by decide) rfl _ _ rfl w.heap.size _ c0 (by first | rfl | (simp [Act.eval])) HF.out ciC_len _ (⟨false, x, s⟩ : Cn) (by first | rfl | (simp [Act.eval])) (fun i v hv => by match i with | 0 => (cases hv; exact (CB.out.2 0 _ rfl).1) | 1 => (cases hv; exact (CB.out.2 1 _ rfl).1) | 2 => (cases hv; exact (CB.out.2 2 _ rfl).1) | i + 3 => cases hv) (ciC_one _) hc0 hzB ?_
        intro g9 n9 c9 w9 hn9 hO9 hb9 hg9 hat
        obtain ⟨f1, f2⟩ := HA11.out.after hg9
        have HFIN := hide (HA11.out.fin HL.out (t := ⟨false, x, s⟩) ⟨Hhs.out, Hhx.out⟩ hO9 hb9 hg9 (by rcases hat with e2 | e2; exact .inl (Option.some.inj e2).symm; exact .inr e2))
        clear hn9 hO9 hb9 hg9 hat HF hzB
        refine hK.out _ _ True.intro (fun hHeld2 => ?_)
        clear hK K hHeld
        have hHeld := hHeld2
        clear hHeld2
        simp only [List.setIfInBounds_toArray, List.set_cons_succ, List.set_cons_zero]
        refine wpAnyH_take (i := 13) (v := ?_) rfl (by kernel_rfl) (by kernel_rfl) (by kernel_rfl) (fun _ _ _ h => h) (Or.inl ⟨by rfl, ?_⟩) (by assumption) ?_
        rotate_left
        · intro w hSw; (try dsimp only at hSw); go_simp; try with_reducible rfl
        simp only [Act.put, List.getElem_toArray, List.getElem_cons_succ, List.getElem_cons_zero, List.setIfInBounds_toArray, List.set_cons_succ, List.set_cons_zero]
        refine wpAnyH_ready (rs := [14]) (by kernel_rfl) (by simp) ?_
        refine AllReadyH.cons rfl (fun K hK => ?_) AllReadyH.nil
        go_simp
        refine hK.out _ _ True.intro (fun hHeld2 => ?_)
        clear hK K hHeld
        have hHeld := hHeld2
        clear hHeld2
        simp only [List.setIfInBounds_toArray, List.set_cons_succ, List.set_cons_zero]
        refine wpAnyH_done (by kernel_rfl) ?_ _
        clear hHeld
        go_wp2
        go_ret
        exact HFIN.out
      · have HMI := hide (show N < w8.heap.size from Nat.lt_of_lt_of_le HA8.out.nB HA8.out.z)
        have IB := hide (BoxV.made w8 [.int .i64 0, .int .i64 10000, .int .i64 (-1), .int .i64 5] 3)
        have HA5 := hide (HA8.out.alloc (Obj.cells #[.int .i64 0, .int .i64 10000, .int .i64 (-1), .int .i64 5] 3))
        have SB := hide (SB.out.alloc (Obj.cells #[.int .i64 0, .int .i64 10000, .int .i64 (-1), .int .i64 5] 3))
        go_simp
        refine hK.out _ _ True.intro (fun hHeld2 => ?_)
        clear hHeld2
        obtain ⟨w5, hw5⟩ : ∃ X, w8.alloc (Obj.cells #[.int .i64 0, .int .i64 10000, .int .i64 (-1), .int .i64 5] 3) = X := ⟨_, rfl⟩
        rw [hw5] at IB HA5 SB ⊢
        clear hw5
        have hHeld2 : (fun _ : World => True) w5 := True.intro
        clear hK K hHeld
        have hHeld := hHeld2
        clear hHeld2
        simp only [List.setIfInBounds_toArray, List.set_cons_succ, List.set_cons_zero]
        refine wpAnyH_ready (rs := [3, 6]) (by kernel_rfl) (by simp) ?_
        refine AllReadyH.cons rfl (fun K hK => ?_) (AllReadyH.cons rfl (fun K hK => ?_) AllReadyH.nil)
        · have f0 := HA5.out.c0
          go_simp
          clear f0
          refine hK.out _ _ True.intro (fun hHeld2 => ?_)
          clear hK K hHeld
          have hHeld := hHeld2
          clear hHeld2
          simp only [List.setIfInBounds_toArray, List.set_cons_succ, List.set_cons_zero]
          refine wpAnyH_ready (rs := [6]) (by kernel_rfl) (by simp) ?_
          refine AllReadyH.cons rfl (fun K hK => ?_) AllReadyH.nil
          go_simp
          refine (intAt HA5.out.d [0, 10000, -1, 5] 4 _ IB.out (by have := HMI.out; omega) rfl (by decide) (by decide) (fun x => -1000000 ≤ x ∧ x ≤ 1000000) (fun i hi => by have hi4 : i = 0 ∨ i = 1 ∨ i = 2 ∨ i = 3 := (by omega); rcases hi4 with rfl | rfl | rfl | rfl <;> decide)).mono ?_
          rintro e w6 ⟨⟨x, rfl, hx⟩, dx, gx⟩
          have Hhx := hide hx
          have HA6 := hide (HA5.out.grown dx gx)
          have SB := hide (SB.out.grownD gx (by have := HMS.out; omega))
          clear hx dx gx IB
          refine hK.out _ _ True.intro (fun hHeld2 => ?_)
          clear hK K hHeld
          have hHeld := hHeld2
          clear hHeld2
          simp only [List.setIfInBounds_toArray, List.set_cons_succ, List.set_cons_zero]
          refine wpAnyH_ready (rs := [9]) (by kernel_rfl) (by simp) ?_
          refine AllReadyH.cons rfl (fun K hK => ?_) AllReadyH.nil
          go_simp
          refine (strAt HA6.out.d [⟨#[]⟩, ⟨#[118, 49]⟩, ⟨#[34, 97, 34]⟩] 3 _ 200 SB.out (by have := HMS.out; omega) rfl (by decide) (by decide) (fun s hs => by simp only [List.mem_cons, List.not_mem_nil, or_false] at hs; rcases hs with rfl | rfl | rfl <;> decide)).mono ?_
          rintro e w9 ⟨⟨s, rfl, hs⟩, dx, gx⟩
          have Hhs := hide hs
          have HA9 := hide (HA6.out.grown dx gx)
          clear hs dx gx SB
          refine hK.out _ _ True.intro (fun hHeld2 => ?_)
          clear hK K hHeld
          have hHeld := hHeld2
          clear hHeld2
          simp only [List.setIfInBounds_toArray, List.set_cons_succ, List.set_cons_zero]
          refine wpAnyH_take (i := 10) (v := ?_) rfl (by kernel_rfl) (by kernel_rfl) (by kernel_rfl) (fun _ _ _ h => h) (Or.inl ⟨by rfl, ?_⟩) (by assumption) ?_
          rotate_left
          · intro w hSw; (try dsimp only at hSw); go_simp; try with_reducible rfl
          simp only [Act.put, List.getElem_toArray, List.getElem_cons_succ, List.getElem_cons_zero, List.setIfInBounds_toArray, List.set_cons_succ, List.set_cons_zero]
          refine wpAnyH_ready (rs := [11]) (by kernel_rfl) (by simp) ?_
          refine AllReadyH.cons rfl (fun K hK => ?_) AllReadyH.nil
          have HMC := hide (show N < w9.heap.size from Nat.lt_of_lt_of_le HA9.out.nB HA9.out.z)
          have CB := hide (BoxV.made w9 [.bool false, .int .i64 x, .string s] 57)
          have HA11 := hide (HA9.out.alloc (Obj.cells #[.bool false, .int .i64 x, .string s] 57))
          go_simp
          refine hK.out _ _ True.intro (fun hHeld2 => ?_)
          clear hHeld2
          obtain ⟨w11, hw11⟩ : ∃ X, w9.alloc (Obj.cells #[.bool false, .int .i64 x, .string s] 57) = X := ⟨_, rfl⟩
          rw [hw11] at CB HA11  ⊢
          clear hw11
          have hHeld2 : (fun _ : World => True) w11 := True.intro
          clear hK K hHeld
          have hHeld := hHeld2
          clear hHeld2
          simp only [List.setIfInBounds_toArray, List.set_cons_succ, List.set_cons_zero]
          refine wpAnyH_ready (rs := [12]) (by kernel_rfl) (by simp) ?_
          refine AllReadyH.cons rfl (fun K hK => ?_) AllReadyH.nil
          have HF := hide (show OwnG 57 3 ciC w11 w.heap.size (.slice (some ⟨s0.b, 0, none⟩) s0.n s0.c) c0 from (HA11.out.r.f (by simp) (by simp)).1)
          have hzB := HA11.out.z
          refine step_append_gen 41 Tryz.underlying41 (.agg #[.bool false, .int .i64 0, .string { data := #[] }]) 32 infoCd rfl (by decide) (by decide) rfl _ _ rfl w.heap.size _ c0 (by first | rfl | (simp [Act.eval])) HF.out ciC_len _ (⟨false, x, s⟩ : Cn) (by first | rfl | (simp [Act.eval])) (fun i v hv => by match i with | 0 => (cases hv; exact (CB.out.2 0 _ rfl).1) | 1 => (cases hv; exact (CB.out.2 1 _ rfl).1) | 2 => (cases hv; exact (CB.out.2 2 _ rfl).1) | i + 3 => cases hv) (ciC_one _) hc0 hzB ?_
          intro g9 n9 c9 w9 hn9 hO9 hb9 hg9 hat
          obtain ⟨f1, f2⟩ := HA11.out.after hg9
          have HFIN := hide (HA11.out.fin HL.out (t := ⟨false, x, s⟩) ⟨Hhs.out, Hhx.out⟩ hO9 hb9 hg9 (by rcases hat with e2 | e2; exact .inl (Option.some.inj e2).symm; exact .inr e2))
          clear hn9 hO9 hb9 hg9 hat HF hzB
          refine hK.out _ _ True.intro (fun hHeld2 => ?_)
          clear hK K hHeld
          have hHeld := hHeld2
          clear hHeld2
          simp only [List.setIfInBounds_toArray, List.set_cons_succ, List.set_cons_zero]
          refine wpAnyH_take (i := 13) (v := ?_) rfl (by kernel_rfl) (by kernel_rfl) (by kernel_rfl) (fun _ _ _ h => h) (Or.inl ⟨by rfl, ?_⟩) (by assumption) ?_
          rotate_left
          · intro w hSw; (try dsimp only at hSw); go_simp; try with_reducible rfl
          simp only [Act.put, List.getElem_toArray, List.getElem_cons_succ, List.getElem_cons_zero, List.setIfInBounds_toArray, List.set_cons_succ, List.set_cons_zero]
          refine wpAnyH_ready (rs := [14]) (by kernel_rfl) (by simp) ?_
          refine AllReadyH.cons rfl (fun K hK => ?_) AllReadyH.nil
          go_simp
          refine hK.out _ _ True.intro (fun hHeld2 => ?_)
          clear hK K hHeld
          have hHeld := hHeld2
          clear hHeld2
          simp only [List.setIfInBounds_toArray, List.set_cons_succ, List.set_cons_zero]
          refine wpAnyH_done (by kernel_rfl) ?_ _
          clear hHeld
          go_wp2
          go_ret
          exact HFIN.out
        · go_simp
          refine (intAt HA5.out.d [0, 10000, -1, 5] 4 _ IB.out (by have := HMI.out; omega) rfl (by decide) (by decide) (fun x => -1000000 ≤ x ∧ x ≤ 1000000) (fun i hi => by have hi4 : i = 0 ∨ i = 1 ∨ i = 2 ∨ i = 3 := (by omega); rcases hi4 with rfl | rfl | rfl | rfl <;> decide)).mono ?_
          rintro e w6 ⟨⟨x, rfl, hx⟩, dx, gx⟩
          have Hhx := hide hx
          have HA6 := hide (HA5.out.grown dx gx)
          have SB := hide (SB.out.grownD gx (by have := HMS.out; omega))
          clear hx dx gx IB
          refine hK.out _ _ True.intro (fun hHeld2 => ?_)
          clear hK K hHeld
          have hHeld := hHeld2
          clear hHeld2
          simp only [List.setIfInBounds_toArray, List.set_cons_succ, List.set_cons_zero]
          refine wpAnyH_ready (rs := [3, 9]) (by kernel_rfl) (by simp) ?_
          refine AllReadyH.cons rfl (fun K hK => ?_) (AllReadyH.cons rfl (fun K hK => ?_) AllReadyH.nil)
          · have f0 := HA6.out.c0
            go_simp
            clear f0
            refine hK.out _ _ True.intro (fun hHeld2 => ?_)
            clear hK K hHeld
            have hHeld := hHeld2
            clear hHeld2
            simp only [List.setIfInBounds_toArray, List.set_cons_succ, List.set_cons_zero]
            refine wpAnyH_ready (rs := [9]) (by kernel_rfl) (by simp) ?_
            refine AllReadyH.cons rfl (fun K hK => ?_) AllReadyH.nil
            go_simp
            refine (strAt HA6.out.d [⟨#[]⟩, ⟨#[118, 49]⟩, ⟨#[34, 97, 34]⟩] 3 _ 200 SB.out (by have := HMS.out; omega) rfl (by decide) (by decide) (fun s hs => by simp only [List.mem_cons, List.not_mem_nil, or_false] at hs; rcases hs with rfl | rfl | rfl <;> decide)).mono ?_
            rintro e w9 ⟨⟨s, rfl, hs⟩, dx, gx⟩
            have Hhs := hide hs
            have HA9 := hide (HA6.out.grown dx gx)
            clear hs dx gx SB
            refine hK.out _ _ True.intro (fun hHeld2 => ?_)
            clear hK K hHeld
            have hHeld := hHeld2
            clear hHeld2
            simp only [List.setIfInBounds_toArray, List.set_cons_succ, List.set_cons_zero]
            refine wpAnyH_take (i := 10) (v := ?_) rfl (by kernel_rfl) (by kernel_rfl) (by kernel_rfl) (fun _ _ _ h => h) (Or.inl ⟨by rfl, ?_⟩) (by assumption) ?_
            rotate_left
            · intro w hSw; (try dsimp only at hSw); go_simp; try with_reducible rfl
            simp only [Act.put, List.getElem_toArray, List.getElem_cons_succ, List.getElem_cons_zero, List.setIfInBounds_toArray, List.set_cons_succ, List.set_cons_zero]
            refine wpAnyH_ready (rs := [11]) (by kernel_rfl) (by simp) ?_
            refine AllReadyH.cons rfl (fun K hK => ?_) AllReadyH.nil
            have HMC := hide (show N < w9.heap.size from Nat.lt_of_lt_of_le HA9.out.nB HA9.out.z)
            have CB := hide (BoxV.made w9 [.bool false, .int .i64 x, .string s] 57)
            have HA11 := hide (HA9.out.alloc (Obj.cells #[.bool false, .int .i64 x, .string s] 57))
            go_simp
            refine hK.out _ _ True.intro (fun hHeld2 => ?_)
            clear hHeld2
            obtain ⟨w11, hw11⟩ : ∃ X, w9.alloc (Obj.cells #[.bool false, .int .i64 x, .string s] 57) = X := ⟨_, rfl⟩
            rw [hw11] at CB HA11  ⊢
            clear hw11
            have hHeld2 : (fun _ : World => True) w11 := True.intro
            clear hK K hHeld
            have hHeld := hHeld2
            clear hHeld2
            simp only [List.setIfInBounds_toArray, List.set_cons_succ, List.set_cons_zero]
            refine wpAnyH_ready (rs := [12]) (by kernel_rfl) (by simp) ?_
            refine AllReadyH.cons rfl (fun K hK => ?_) AllReadyH.nil
            have HF := hide (show OwnG 57 3 ciC w11 w.heap.size (.slice (some ⟨s0.b, 0, none⟩) s0.n s0.c) c0 from (HA11.out.r.f (by simp) (by simp)).1)
            have hzB := HA11.out.z
            refine step_append_gen 41 Tryz.underlying41 (.agg #[.bool false, .int .i64 0, .string { data := #[] }]) 32 infoCd rfl (by decide) (by decide) rfl _ _ rfl w.heap.size _ c0 (by first | rfl | (simp [Act.eval])) HF.out ciC_len _ (⟨false, x, s⟩ : Cn) (by first | rfl | (simp [Act.eval])) (fun i v hv => by match i with | 0 => (cases hv; exact (CB.out.2 0 _ rfl).1) | 1 => (cases hv; exact (CB.out.2 1 _ rfl).1) | 2 => (cases hv; exact (CB.out.2 2 _ rfl).1) | i + 3 => cases hv) (ciC_one _) hc0 hzB ?_
            intro g9 n9 c9 w9 hn9 hO9 hb9 hg9 hat
            obtain ⟨f1, f2⟩ := HA11.out.after hg9
            have HFIN := hide (HA11.out.fin HL.out (t := ⟨false, x, s⟩) ⟨Hhs.out, Hhx.out⟩ hO9 hb9 hg9 (by rcases hat with e2 | e2; exact .inl (Option.some.inj e2).symm; exact .inr e2))
            clear hn9 hO9 hb9 hg9 hat HF hzB
            refine hK.out _ _ True.intro (fun hHeld2 => ?_)
            clear hK K hHeld
            have hHeld := hHeld2
            clear hHeld2
            simp only [List.setIfInBounds_toArray, List.set_cons_succ, List.set_cons_zero]
            refine wpAnyH_take (i := 13) (v := ?_) rfl (by kernel_rfl) (by kernel_rfl) (by kernel_rfl) (fun _ _ _ h => h) (Or.inl ⟨by rfl, ?_⟩) (by assumption) ?_
            rotate_left
            · intro w hSw; (try dsimp only at hSw); go_simp; try with_reducible rfl
            simp only [Act.put, List.getElem_toArray, List.getElem_cons_succ, List.getElem_cons_zero, List.setIfInBounds_toArray, List.set_cons_succ, List.set_cons_zero]
            refine wpAnyH_ready (rs := [14]) (by kernel_rfl) (by simp) ?_
            refine AllReadyH.cons rfl (fun K hK => ?_) AllReadyH.nil
            go_simp
            refine hK.out _ _ True.intro (fun hHeld2 => ?_)
            clear hK K hHeld
            have hHeld := hHeld2
            clear hHeld2
            simp only [List.setIfInBounds_toArray, List.set_cons_succ, List.set_cons_zero]
            refine wpAnyH_done (by kernel_rfl) ?_ _
            clear hHeld
            go_wp2
            go_ret
            exact HFIN.out
          · go_simp
            refine (strAt HA6.out.d [⟨#[]⟩, ⟨#[118, 49]⟩, ⟨#[34, 97, 34]⟩] 3 _ 200 SB.out (by have := HMS.out; omega) rfl (by decide) (by decide) (fun s hs => by simp only [List.mem_cons, List.not_mem_nil, or_false] at hs; rcases hs with rfl | rfl | rfl <;> decide)).mono ?_
            rintro e w9 ⟨⟨s, rfl, hs⟩, dx, gx⟩
            have Hhs := hide hs
            have HA9 := hide (HA6.out.grown dx gx)
            clear hs dx gx SB
            refine hK.out _ _ True.intro (fun hHeld2 => ?_)
            clear hK K hHeld
            have hHeld := hHeld2
            clear hHeld2
            simp only [List.setIfInBounds_toArray, List.set_cons_succ, List.set_cons_zero]
            refine wpAnyH_take (i := 10) (v := ?_) rfl (by kernel_rfl) (by kernel_rfl) (by kernel_rfl) (fun _ _ _ h => h) (Or.inl ⟨by rfl, ?_⟩) (by assumption) ?_
            rotate_left
            · intro w hSw; (try dsimp only at hSw); go_simp; try with_reducible rfl
            simp only [Act.put, List.getElem_toArray, List.getElem_cons_succ, List.getElem_cons_zero, List.setIfInBounds_toArray, List.set_cons_succ, List.set_cons_zero]
            refine wpAnyH_ready (rs := [3, 11]) (by kernel_rfl) (by simp) ?_
            refine AllReadyH.cons rfl (fun K hK => ?_) (AllReadyH.cons rfl (fun K hK => ?_) AllReadyH.nil)
            · have f0 := HA9.out.c0
              go_simp
              clear f0
              refine hK.out _ _ True.intro (fun hHeld2 => ?_)
              clear hK K hHeld
              have hHeld := hHeld2
              clear hHeld2
              simp only [List.setIfInBounds_toArray, List.set_cons_succ, List.set_cons_zero]
              refine wpAnyH_ready (rs := [11]) (by kernel_rfl) (by simp) ?_
              refine AllReadyH.cons rfl (fun K hK => ?_) AllReadyH.nil
              have HMC := hide (show N < w9.heap.size from Nat.lt_of_lt_of_le HA9.out.nB HA9.out.z)
              have CB := hide (BoxV.made w9 [.bool false, .int .i64 x, .string s] 57)
              have HA11 := hide (HA9.out.alloc (Obj.cells #[.bool false, .int .i64 x, .string s] 57))
              go_simp
              refine hK.out _ _ True.intro (fun hHeld2 => ?_)
              clear hHeld2
              obtain ⟨w11, hw11⟩ : ∃ X, w9.alloc (Obj.cells #[.bool false, .int .i64 x, .string s] 57) = X := ⟨_, rfl⟩
              rw [hw11] at CB HA11  ⊢
              clear hw11
              have hHeld2 : (fun _ : World => True) w11 := True.intro
              clear hK K hHeld
              have hHeld := hHeld2
              clear hHeld2
              simp only [List.setIfInBounds_toArray, List.set_cons_succ, List.set_cons_zero]
              refine wpAnyH_ready (rs := [12]) (by kernel_rfl) (by simp) ?_
              refine AllReadyH.cons rfl (fun K hK => ?_) AllReadyH.nil
              have HF := hide (show OwnG 57 3 ciC w11 w.heap.size (.slice (some ⟨s0.b, 0, none⟩) s0.n s0.c) c0 from (HA11.out.r.f (by simp) (by simp)).1)
              have hzB := HA11.out.z
              refine step_append_gen 41 Tryz.underlying41 (.agg #[.bool false, .int .i64 0, .string { data := #[] }]) 32 infoCd rfl (by decide) (by decide) rfl _ _ rfl w.heap.size _ c0 (by first | rfl | (simp [Act.eval])) HF.out ciC_len _ (⟨false, x, s⟩ : Cn) (by first | rfl | (simp [Act.eval])) (fun i v hv => by match i with | 0 => (cases hv; exact (CB.out.2 0 _ rfl).1) | 1 => (cases hv; exact (CB.out.2 1 _ rfl).1) | 2 => (cases hv; exact (CB.out.2 2 _ rfl).1) | i + 3 => cases hv) (ciC_one _) hc0 hzB ?_
              intro g9 n9 c9 w9 hn9 hO9 hb9 hg9 hat
              obtain ⟨f1, f2⟩ := HA11.out.after hg9
              have HFIN := hide (HA11.out.fin HL.out (t := ⟨false, x, s⟩) ⟨Hhs.out, Hhx.out⟩ hO9 hb9 hg9 (by rcases hat with e2 | e2; exact .inl (Option.some.inj e2).symm; exact .inr e2))
              clear hn9 hO9 hb9 hg9 hat HF hzB
              refine hK.out _ _ True.intro (fun hHeld2 => ?_)
              clear hK K hHeld
              have hHeld := hHeld2
              clear hHeld2
              simp only [List.setIfInBounds_toArray, List.set_cons_succ, List.set_cons_zero]
              refine wpAnyH_take (i := 13) (v := ?_) rfl (by kernel_rfl) (by kernel_rfl) (by kernel_rfl) (fun _ _ _ h => h) (Or.inl ⟨by rfl, ?_⟩) (by assumption) ?_
              rotate_left
              · intro w hSw; (try dsimp only at hSw); go_simp; try with_reducible rfl
              simp only [Act.put, List.getElem_toArray, List.getElem_cons_succ, List.getElem_cons_zero, List.setIfInBounds_toArray, List.set_cons_succ, List.set_cons_zero]
              refine wpAnyH_ready (rs := [14]) (by kernel_rfl) (by simp) ?_
              refine AllReadyH.cons rfl (fun K hK => ?_) AllReadyH.nil
              go_simp
              refine hK.out _ _ True.intro (fun hHeld2 => ?_)
              clear hK K hHeld
              have hHeld := hHeld2
              clear hHeld2
              simp only [List.setIfInBounds_toArray, List.set_cons_succ, List.set_cons_zero]
              refine wpAnyH_done (by kernel_rfl) ?_ _
              clear hHeld
              go_wp2
              go_ret
              exact HFIN.out
            · have HMC := hide (show N < w9.heap.size from Nat.lt_of_lt_of_le HA9.out.nB HA9.out.z)
              have CB := hide (BoxV.made w9 [.bool false, .int .i64 x, .string s] 57)
              have HA11 := hide (HA9.out.alloc (Obj.cells #[.bool false, .int .i64 x, .string s] 57))
              go_simp
              refine hK.out _ _ True.intro (fun hHeld2 => ?_)
              clear hHeld2
              obtain ⟨w11, hw11⟩ : ∃ X, w9.alloc (Obj.cells #[.bool false, .int .i64 x, .string s] 57) = X := ⟨_, rfl⟩
              rw [hw11] at CB HA11  ⊢
              clear hw11
              have hHeld2 : (fun _ : World => True) w11 := True.intro
              clear hK K hHeld
              have hHeld := hHeld2
              clear hHeld2
              simp only [List.setIfInBounds_toArray, List.set_cons_succ, List.set_cons_zero]
              refine wpAnyH_ready (rs := [3]) (by kernel_rfl) (by simp) ?_
              refine AllReadyH.cons rfl (fun K hK => ?_) AllReadyH.nil
              have f0 := HA11.out.c0
              go_simp
              clear f0
              refine hK.out _ _ True.intro (fun hHeld2 => ?_)
              clear hK K hHeld
              have hHeld := hHeld2
              clear hHeld2
              simp only [List.setIfInBounds_toArray, List.set_cons_succ, List.set_cons_zero]
              refine wpAnyH_ready (rs := [12]) (by kernel_rfl) (by simp) ?_
              refine AllReadyH.cons rfl (fun K hK => ?_) AllReadyH.nil
              have HF := hide (show OwnG 57 3 ciC w11 w.heap.size (.slice (some ⟨s0.b, 0, none⟩) s0.n s0.c) c0 from (HA11.out.r.f (by simp) (by simp)).1)
              have hzB := HA11.out.z
              refine step_append_gen 41 Tryz.underlying41 (.agg #[.bool false, .int .i64 0, .string { data := #[] }]) 32 infoCd rfl (by decide) (by decide) rfl _ _ rfl w.heap.size _ c0 (by first | rfl | (simp [Act.eval])) HF.out ciC_len _ (⟨false, x, s⟩ : Cn) (by first | rfl | (simp [Act.eval])) (fun i v hv => by match i with | 0 => (cases hv; exact (CB.out.2 0 _ rfl).1) | 1 => (cases hv; exact (CB.out.2 1 _ rfl).1) | 2 => (cases hv; exact (CB.out.2 2 _ rfl).1) | i + 3 => cases hv) (ciC_one _) hc0 hzB ?_
              intro g9 n9 c9 w9 hn9 hO9 hb9 hg9 hat
              obtain ⟨f1, f2⟩ := HA11.out.after hg9
              have HFIN := hide (HA11.out.fin HL.out (t := ⟨false, x, s⟩) ⟨Hhs.out, Hhx.out⟩ hO9 hb9 hg9 (by rcases hat with e2 | e2; exact .inl (Option.some.inj e2).symm; exact .inr e2))
              clear hn9 hO9 hb9 hg9 hat HF hzB
              refine hK.out _ _ True.intro (fun hHeld2 => ?_)
              clear hK K hHeld
              have hHeld := hHeld2
              clear hHeld2
              simp only [List.setIfInBounds_toArray, List.set_cons_succ, List.set_cons_zero]
              refine wpAnyH_take (i := 13) (v := ?_) rfl (by kernel_rfl) (by kernel_rfl) (by kernel_rfl) (fun _ _ _ h => h) (Or.inl ⟨by rfl, ?_⟩) (by assumption) ?_
              rotate_left
              · intro w hSw; (try dsimp only at hSw); go_simp; try with_reducible rfl
              simp only [Act.put, List.getElem_toArray, List.getElem_cons_succ, List.getElem_cons_zero, List.setIfInBounds_toArray, List.set_cons_succ, List.set_cons_zero]
              refine wpAnyH_ready (rs := [14]) (by kernel_rfl) (by simp) ?_
              refine AllReadyH.cons rfl (fun K hK => ?_) AllReadyH.nil
              go_simp
              refine hK.out _ _ True.intro (fun hHeld2 => ?_)
              clear hK K hHeld
              have hHeld := hHeld2
              clear hHeld2
              simp only [List.setIfInBounds_toArray, List.set_cons_succ, List.set_cons_zero]
              refine wpAnyH_done (by kernel_rfl) ?_ _
              clear hHeld
              go_wp2
              go_ret
              exact HFIN.out

  by_cases h2' : z = 2
  · subst h2'
    clear hk2 h0 h1'
    go_wp2_with fail
    go_loopw [3] (fun v wr => ∃ (ls : List (List Cn)) (g n c H : Nat) (ss : List Sl), v = .slice (some ⟨g, 0, none⟩) n c ∧ ls.length ≤ 5 ∧ Hid (n = ls.length) ∧ Hid (FewI 5 2 ls) ∧ Hid (An w wr N a len cap zs w.heap.size g n c H ss ls)) (fun v _ => match v with | .slice _ n _ => 5 - n | _ => 0)
    case atStart => exact ⟨ls, g, n, c, H, ss, rfl, by have := HL.out.1; omega, hn, hide (HL.out.up (by decide) (Nat.le_refl _)), HA2⟩
    case round =>
      clear HA2 HL hn h1
      obtain ⟨ls, g, n, c, H, ss, rfl, hl5, hn, HL, HA⟩ := hrel
      go_wp2_with fail
      refine (l1BelowX HA.out.d 2 (by decide) (by decide)).mono ?_
      rintro e w3 ⟨⟨k3, rfl, hk3⟩, dx3, g3⟩
      have HA3 := hide (HA.out.grown dx3 g3)
      clear dx3 g3 HA
      by_cases hc : (n : Int) < 4 + k3
      · have HA4 := hide ((HA3.out.alloc (Obj.cells #[.bool false, .int .i64 1, .string { data := #[] }] 57)))
        have OA := hide (OwnG.one (tE := 57) (K := 3) (cs := ciC) w3 w3.heap.size (Nat.le_refl _) ⟨false, 1, ⟨#[]⟩⟩ #[.bool false, .int .i64 1, .string { data := #[] }] rfl rfl)
        have bB := (Below.refl _ _).alloc (Nat.le_refl _) (o := Obj.cells #[.slice (some ⟨w3.heap.size, 0, none⟩) 1 1] 41) (w := w3.alloc (Obj.cells #[.bool false, .int .i64 1, .string { data := #[] }] 57))
        have HA5 := hide (HA4.out.alloc (Obj.cells #[.slice (some ⟨w3.heap.size, 0, none⟩) 1 1] 41))
        have OB := hide (OA.out.next bB)
        have HO4 := hide HA5.out.r.own
        have hzB := HA5.out.z
        have hln : ss.length + 1 ≤ 100000000000 := by have e1 := HA3.out.r.len; omega
        have HTOP := hide HA3.out.r.top
        have hl4 : ls.length ≤ 4 := by have := hn.out; omega
        clear bB HA4 OA
        go_wp2_with (at_builtin; refine wp_append_gen 24 Tryz.underlying24 (.slice none 0 0) 24 infoSd rfl (by decide) (by decide) rfl _ _ rfl w.heap.size _ ss rfl HO4.out ciS_len _ (⟨w3.heap.size, 1, 1⟩ : Sl) rfl (fun i v hv => by match i with | 0 => (cases hv; simp [Sl.v]) | i + 1 => cases hv) (ciS_one _) hln hzB ?_)
        intro g9 n9 c9 w9 hn9 hO9 hb9 hg9 hat
        have HA9 := hide (HA5.out.snoc rfl hO9 hb9 hg9 (by rcases hat with e2 | e2; exact .inl (Option.some.inj e2).symm; exact .inr (by rw [e2]; simp)) HTOP.out OB.out)
        have hn9 := hide (show n9 = (ls ++ [[(⟨false, 1, ⟨#[]⟩⟩ : Cn)]]).length from HA9.out.r.r.num.1)
        have hlen9 : (ls ++ [[(⟨false, 1, ⟨#[]⟩⟩ : Cn)]]).length = ls.length + 1 := by simp
        have HL9 := hide (show FewI 5 2 (ls ++ [[(⟨false, 1, ⟨#[]⟩⟩ : Cn)]]) from by
          have := FewI.snoc (m := 4) (k := 2) ⟨hl4, HL.out.2⟩ (cs := [(⟨false, 1, ⟨#[]⟩⟩ : Cn)]) (by decide) (fun x hx => by obtain rfl := List.mem_singleton.1 hx; exact ⟨by show (0 : Nat) ≤ 200; omega, by show (-1000000 : Int) ≤ 1; omega, by show (1 : Int) ≤ 1000000; omega⟩)
          exact this)
        clear hO9 hb9 hg9 hat HO4 HA5 HA3
        go_wp2
        go_roundw
        case rel => exact ⟨_, g9, n9, c9, _, _, rfl, by omega, hn9, HL9, HA9⟩
        case measure => have e1 := hn9.out; have e2 := hn.out; simp; omega
      · go_wp2
        go_ret
        exact HA3.out.done HL.out (by decide) (by decide)
  · go_wp2
    go_ret
    exact HA2.out.done HL.out (by decide) (by decide)
end Go.Proofs.YtmgikfeknmbpbaaGreatDoor
