/-
  The draws of answers, bent or not: whatever is drawn, it is small, in memory of its own.
-/
import Derived.Test.YtkhnkockdfmkgaaDoorStepHead
namespace Go.Proofs.YtkhnkockdfmkgaaDoor
open Go.RowKit M
set_option linter.unusedVariables false

theorem lay2 {W : World} {b : Nat} {x0 x1 : ByteArray} (h0 : W.cell? ⟨b, 0, none⟩ = some (.string x0)) (h1 : W.cell? ⟨b, 1, none⟩ = some (.string x1)) :
    ∀ j, j < 2 → W.cell? ⟨b, j, none⟩ = some (.string ([x0, x1].getD j ByteArray.empty))
  | 0, _ => h0
  | 1, _ => h1
  | _ + 2, h => absurd h (by omega)
section
variable {w W : World} {N : Nat} {a : Option Addr} {len cap : Nat} {zs : List Int} {M g c : Nat} {r : Rs}
theorem MidA.str (h : MidA w W N a len cap zs M g c r) (ss : List ByteArray) (n b : Nat) (hb : N < b) (h0 : 0 < n) (h1 : n ≤ 256) (hz : ∀ s ∈ ss, s.size ≤ 20)
    (hls : ∀ j, j < n → W.cell? ⟨b, j, none⟩ = some (.string (ss.getD j ByteArray.empty))) :
    Calls Tryd.prog 36 #[.pointer (some ⟨N, 0, none⟩), .slice (some ⟨b, 0, none⟩) n n] W fun e w' => (∃ s : ByteArray, e = .returned (.string s) ∧ s.size ≤ 20) ∧ MidA w w' N a len cap zs M g c r ∧ W.grownBy w' (some N) := by
  obtain ⟨cu, hd⟩ := h.dx
  refine (l1Str_any N b a len cap n zs ss cu W hd.cur hd.code hd.bN hd.hlen h0 h1 (by omega) hls).mono ?_
  rintro e w1 ⟨rfl, hc1, hg1⟩
  exact ⟨⟨_, rfl, getD_mem ss _ _ (fun s => s.size ≤ 20) hz (by decide)⟩, h.grown hg1 ⟨_, hd.grown hg1 hc1⟩, hg1⟩
/-- One head more. -/
theorem MidA.pushed {w5 : World} {g' c' : Nat} {h : Hd} (hm : MidA w W N a len cap zs M g c r)
    (ho : w5.ownsRow w.heap.size 42 2 (.slice (some ⟨g', 0, none⟩) (r.hs.length + 1) c') (r.hs.length + 1) (hdCells (r.hs ++ [h]))) (hg : W.grownBy w5 (some g)) :
    MidA w (w5.setCell ⟨M, 1, none⟩ (.slice (some ⟨g', 0, none⟩) (r.hs.length + 1) c')) N a len cap zs M g' c' ⟨r.c, r.hs ++ [h], r.b⟩ ∧ RBoxA w5 M (.int .i64 r.c) (.slice (some ⟨g, 0, none⟩) r.hs.length c) (.string r.b) ∧ ∃ v0 v1 v2, RBoxA w5 w.heap.size v0 v1 v2 := by
  have h1 := hm.hN
  have h2 := hm.hM
  obtain ⟨v0, v1, v2, hr⟩ := hm.ret
  have hgM := own_neA hm.own hm.box
  have hgR := own_neA hm.own hr
  have box5 : RBoxA w5 M (.int .i64 r.c) (.slice (some ⟨g, 0, none⟩) r.hs.length c) (.string r.b) := (hg.block M hm.box.lt (by simp; exact fun e => hgM e.symm)).trans hm.box
  have ret5 : RBoxA w5 w.heap.size v0 v1 v2 := (hg.block _ hr.lt (by simp; exact fun e => hgR e.symm)).trans hr
  have hgl := hm.own.lt g rfl
  have hgM' := own_neA ho box5
  have hlen : (r.hs ++ [h]).length = r.hs.length + 1 := by simp
  have dx5 : DX w5 N a len cap zs := hm.dx.other hg.size (fun k hk => hg.block k (by have := hm.dx.lt; omega) (by simp; omega))
  have bel : Below w.heap.size W w5 := ⟨hg.os, hg.tape, hg.output, hg.size, fun k hk => hg.block k (Nat.lt_of_lt_of_le hk hm.gr.size) (by simp; omega)⟩
  refine ⟨⟨⟨v0, v1, v2, set_other (k := 1) ret5 (by omega) _⟩, ?_, dx5.set4 (by show N < M; omega), grown_past hm.gr (bel.trans ((Below.refl _ _).setCell (by show w.heap.size ≤ M; omega) _)), ?_, h1, h2⟩, box5, ⟨v0, v1, v2, ret5⟩⟩
  · show RBoxA _ M (.int .i64 r.c) (.slice (some ⟨g', 0, none⟩) (r.hs ++ [h]).length c') (.string r.b)
    rw [hlen]
    have := set_heap box5 1 (.slice (some ⟨g', 0, none⟩) (r.hs.length + 1) c')
    simpa [RBoxA] using this
  · show (w5.setCell _ _).ownsRow w.heap.size 42 2 (.slice (some ⟨g', 0, none⟩) (r.hs ++ [h]).length c') (r.hs ++ [h]).length (hdCells (r.hs ++ [h]))
    rw [hlen]
    exact ownsH_set ho (fun e => hgM' e.symm)
end

set_option maxRecDepth 100000 in
set_option maxHeartbeats 4000000 in
theorem l5Any_any {w : World} {N : Nat} {a : Option Addr} {len cap : Nat} {zs : List Int} (h : DX w N a len cap zs) :
    Calls Tryd.prog 16 #[.pointer (some ⟨N, 0, none⟩)] w fun e w' => AnyA w' w.heap.size e ∧ DX w' N a len cap zs ∧ w.grownBy w' (some N) := by
  have hlt := h.lt
  have H : Hid (DX w N a len cap zs) := h
  clear h
  go_enter Tryd.func16, Tryd.ntmps16
  go_wp2_with fail
  refine (l5Draw_any (w := w.alloc (Obj.cells #[Value.int .i64 0, Value.slice none 0 0, Value.string { data := #[] }] 26)) (H.out.alloc _)).mono ?_
  rintro e w1 ⟨⟨r, g, c, q1, q4, qc, rfl, hown⟩, hd1, hg1⟩
  have hz1 : w.heap.size < w1.heap.size := by have := hg1.size; simp at this; omega
  have hgl := hown.lt g rfl
  have hgl1 : w.heap.size < g := by have := hgl.1; simp at this; omega
  have hr1 : RBoxA w1 w.heap.size (.int .i64 0) (.slice none 0 0) (.string ⟨#[]⟩) := (hg1.block _ (by simp) (by simp; omega)).trans (heap_alloc_new w _)
  have hb1 := (Below.refl w1.heap.size w1).alloc (Nat.le_refl _) (Obj.cells #[Value.int .i64 r.c, Value.slice (some ⟨g, 0, none⟩) r.hs.length c, Value.string r.b] 26)
  have hM : MidA w (w1.alloc (Obj.cells #[Value.int .i64 r.c, Value.slice (some ⟨g, 0, none⟩) r.hs.length c, Value.string r.b] 26)) N a len cap zs w1.heap.size g c r :=
    ⟨⟨_, _, _, (hb1.block _ hz1).trans hr1⟩, heap_alloc_new w1 _, hd1.alloc _, grown_alloc (grown_trans (grown_alloc (grown_refl _ _) _) hg1) _, ownsH_base (hown.alloc _) (by simp), hlt, hz1⟩
  have HM := hide hM
  have hrl := q1.1
  have HQ := hide q1
  clear hM hown hd1 hg1 hgl q1 hr1 hb1
  go_wp2_with fail
  refine (l1BelowX HM.out.dx 10 (by decide) (by decide)).mono ?_
  rintro e w2 ⟨⟨k, rfl, hk⟩, hd2, hg2⟩
  have HM2 := hide (HM.out.grown hg2 hd2)
  clear hd2 hg2 HM
  have hne : ¬ w.heap.size = w1.heap.size := by omega
  have hne' : ¬ w1.heap.size = w.heap.size := by omega
  by_cases k0 : k = 0
  · subst k0
    go_wp2_with fail
    refine (intNewX HM2.out.dx anyC5 _ _ 4 _ rfl rfl rfl (by decide) (by decide) (-1) 600 (by decide) (by decide)).mono ?_
    rintro e w3 ⟨⟨x, rfl, hx⟩, hd3, hg3⟩
    have hm3 := HM2.out.grown hg3 hd3
    have hm4 := hm3.store 0 (.int .i64 x) x r.b (by have := set_heap hm3.box 0 (.int .i64 x); simpa [RBoxA] using this)
    have HM4 := hide hm4
    obtain ⟨y0, y1, y2, f0, f1, f2⟩ := hm3.box.cells
    obtain ⟨v0, v1, v2, hr⟩ := hm3.ret
    obtain ⟨z0, z1, z2, e0, e1, e2⟩ := hr.cells
    clear hm3 hm4 hd3 hg3 hr
    go_wp2
    refine bodyPost_ret (v := .agg #[.int .i64 x, .slice (some ⟨g, 0, none⟩) r.hs.length c, .string r.b]) (by simp [results, Tryd.results16, go_sem, z0, z1, z2]) rfl ?_
    exact HM4.out.fin ⟨HQ.out.mono (by decide), by show r.b.size ≤ 401; omega, hx⟩ _ _ _
  · have k0' : ((k : Int) == 0) = false := by apply beq_eq_false_iff_ne.2; omega
    by_cases k1 : k = 1
    · subst k1
      have hMl := HM2.out.box.lt
      have hNl : N < w2.heap.size := HM2.out.dx.lt
      have y20 := HM2.out.box.cells.2.1
      have hn0 : ¬ w1.heap.size = w2.heap.size := by omega
      have hn1 : ¬ w1.heap.size = w2.heap.size + 1 := by omega
      go_wp2_with fail
      go_region_law (first
        | (refine step_append_head rfl _ _ rfl w.heap.size g r.hs.length c r.hs rfl (MB.out.alloc _).own wB.heap.size (x, y) rfl (by simp) (by simp) (by omega) (by have := MB.out.gr.size; simp; omega) ?_
           intro g5 c5 w5 o5 gr5
           obtain ⟨m5, bx5, rt5⟩ := (MB.out.alloc _).pushed o5 gr5
           have M5 := hide m5
           have RT5 := hide rt5
           obtain ⟨y50, y51, y52, f50, f51, f52⟩ := bx5.cells
           clear m5 rt5 bx5)
        | (go_simp
           first
           | (go_at_call_of 36 (3 : Nat)
              refine (MidA.str (by first | exact (HM2.out.alloc _).drew | exact ((HM2.out.alloc _).alloc _).drew) anyN5 3 _ (by first | omega | (simp; omega)) (by decide) (by decide) (by decide) (lay3 (by simp) (by simp) (by simp))).mono ?_
              rintro e wA ⟨⟨x, rfl, hx⟩, mA, gA⟩
              have hMA := mA.box.lt
              have yA := mA.box.cells.2.1
              have hnA0 : ¬ w1.heap.size = wA.heap.size := by omega
              have hnA1 : ¬ w1.heap.size = wA.heap.size + 1 := by omega
              have MA := hide mA
              have GA := hide gA
              clear mA gA)
           | (go_at_call_of 36 (2 : Nat)
              refine (MidA.str (by first | exact MA.out | exact MA.out.alloc _) anyV5 2 _ (by first | omega | (simp; omega)) (by decide) (by decide) (by decide) (lay2 (by first | (simp; done) | exact grown_cell GA.out (by omega) (by first | (simp; done) | (simp; omega)) (by simp; done)) (by first | (simp; done) | exact grown_cell GA.out (by omega) (by first | (simp; done) | (simp; omega)) (by simp; done)))).mono ?_
              rintro e wB ⟨⟨y, rfl, hy⟩, mB, gB⟩
              have hMB := mB.box.lt
              have yB := mB.box.cells.2.1
              have hnB0 : ¬ w1.heap.size = wB.heap.size := by omega
              have MB := hide mB
              clear mB gB)))
      all_goals
        obtain ⟨v0, v1, v2, hr⟩ := RT5.out
        obtain ⟨z0, z1, z2, e0, e1, e2⟩ := hr.cells
        clear hr
        go_wp2
        refine bodyPost_ret (v := .agg #[.int .i64 r.c, .slice (some ⟨g5, 0, none⟩) (r.hs.length + 1) c5, .string r.b]) (by simp [results, Tryd.results16, go_sem, z0, z1, z2]) rfl ?_
        have hf := fun u0 u1 u2 => M5.out.fin ⟨(HQ.out.snoc (h := (x, y)) (by show x.size ≤ 60; omega) (by show y.size ≤ 60; omega)).mono (by decide), by show r.b.size ≤ 401; omega, qc⟩ u0 u1 u2
        simp only [List.length_append, List.length_cons, List.length_nil, Nat.zero_add] at hf
        exact hf _ _ _
    · have k1' : ((k : Int) == 1) = false := by apply beq_eq_false_iff_ne.2; omega
      by_cases k2 : k = 2
      · subst k2
        go_wp2_with fail
        refine (l1BelowX HM2.out.dx 2 (by decide) (by decide)).mono ?_
        rintro e w3 ⟨⟨q, rfl, hq⟩, hd3, hg3⟩
        have HM3 := hide (HM2.out.grown hg3 hd3)
        clear hd3 hg3
        obtain ⟨n, hn⟩ : ∃ n : Nat, n = 400 + q := ⟨_, rfl⟩
        have hn' : ((400 : Int) + (q : Int)) = ((n : Nat) : Int) := by omega
        have hnb : n ≤ 401 := by omega
        have hw : IntKind.i64.wrap (400 + (q : Int)) = (n : Int) := by rw [IntKind.wrap_i64]; omega
        clear hn
        have hmk := run_make_row' (P := Tryd.prog) 22 5 (.int .u8 0) 1 Tryd.underlying22 info_u8a rfl .i64 .i64 n (by omega) (by omega) w3
        obtain ⟨x, hxz, hcv⟩ := conv_zerosA w3 n
        have hm3 := HM3.out.alloc (.cells (madeCells #[.int .u8 0] n) 5)
        obtain ⟨w4, hw4⟩ : ∃ w4, w3.alloc (.cells (madeCells #[.int .u8 0] n) 5) = w4 := ⟨_, rfl⟩
        rw [hw4] at hm3 hcv hmk
        have hxz' : x.size ≤ 401 := by omega
        clear hxz
        have hm4 := hm3.store 2 (.string x) r.c x (by have := set_heap hm3.box 2 (.string x); simpa [RBoxA] using this)
        have HM4 := hide hm4
        obtain ⟨y0, y1, y2, f0, f1, f2⟩ := hm3.box.cells
        obtain ⟨v0, v1, v2, hr⟩ := hm3.ret
        obtain ⟨z0, z1, z2, e0, e1, e2⟩ := hr.cells
        clear hm3 hm4 hr
        go_wp2
        refine bodyPost_ret (v := .agg #[.int .i64 r.c, .slice (some ⟨g, 0, none⟩) r.hs.length c, .string x]) (by simp [results, Tryd.results16, go_sem, z0, z1, z2]) rfl ?_
        exact HM4.out.fin ⟨HQ.out.mono (by decide), hxz', qc⟩ _ _ _
      · have k2' : ((k : Int) == 2) = false := by apply beq_eq_false_iff_ne.2; omega
        obtain ⟨y0, y1, y2, f0, f1, f2⟩ := HM2.out.box.cells
        obtain ⟨v0, v1, v2, hr⟩ := HM2.out.ret
        obtain ⟨z0, z1, z2, e0, e1, e2⟩ := hr.cells
        clear hr
        go_wp2
        refine bodyPost_ret (v := .agg #[.int .i64 r.c, .slice (some ⟨g, 0, none⟩) r.hs.length c, .string r.b]) (by simp [results, Tryd.results16, go_sem, z0, z1, z2]) rfl ?_
        exact HM2.out.fin ⟨HQ.out.mono (by decide), by show r.b.size ≤ 401; omega, qc⟩ _ _ _
end Go.Proofs.YtkhnkockdfmkgaaDoor
