/-
  The draws of requests, bent or not: whatever is drawn, it is small, in memory of its own.
-/
import Derived.Test.YtanebchmeaomgaaGreatDoorDrawMid
namespace Go.Proofs.YtanebchmeaomgaaGreatDoor
open Go.RowKit M
set_option linter.unusedVariables false

set_option maxRecDepth 100000 in
set_option maxHeartbeats 4000000 in
theorem l3Any_any {w : World} {N : Nat} {a : Option Addr} {len cap : Nat} {zs : List Int} (h : DX w N a len cap zs) :
    Calls Tryz.prog 51 #[.pointer (some ⟨N, 0, none⟩)] w fun e w' => AnyR w' w.heap.size e ∧ DX w' N a len cap zs ∧ w.grownBy w' (some N) := by
  have hlt := h.lt
  have H : Hid (DX w N a len cap zs) := h
  clear h
  go_enter Tryz.func51, Tryz.ntmps51
  go_wp2_with fail
  refine (l3Draw_any (w := w.alloc (Obj.cells #[Value.string { data := #[] }, Value.string { data := #[] }, Value.slice none 0 0, Value.string { data := #[] }] 39)) (H.out.alloc _)).mono ?_
  rintro e w1 ⟨⟨r, g, c, q1, q2, q3, q4, rfl, hown⟩, hd1, hg1⟩
  have hz1 : w.heap.size < w1.heap.size := by have := hg1.size; simp at this; omega
  have hgl := hown.lt g rfl
  have hgl1 : w.heap.size < g := by have := hgl.1; simp at this; omega
  have hM : Mid w (w1.alloc (Obj.cells #[Value.string r.m, Value.string r.p, Value.slice (some ⟨g, 0, none⟩) r.hs.length c, Value.string r.b] 39)) N a len cap zs w1.heap.size g c r :=
    ⟨((Ret4.made w 39).grown hg1 hlt).of (by simp) (((Below.refl w1.heap.size w1).alloc (Nat.le_refl _) _).block _ hz1), RBox.made w1 _ _ _ _ _, hd1.alloc _, grown_alloc (grown_trans (grown_alloc (grown_refl _ _) _) hg1) _, ownsH_base (hown.alloc _) (by simp), hlt, hz1, by have := hgl.2; omega, by omega, ReqT.made w1 _, ((ReqT.made w _).of (hg1.block _ (by simp) (by simp; omega))).of (((Below.refl w1.heap.size w1).alloc (Nat.le_refl _) _).block _ hz1)⟩
  have HM := hide hM
  have hrl := q1.1
  have HQ := hide q1
  clear hM hown hd1 hg1 hgl q1
  go_wp2_with fail
  refine (l1BelowX HM.out.dx 12 (by decide) (by decide)).mono ?_
  rintro e w2 ⟨⟨k, rfl, hk⟩, hd2, hg2⟩
  have hm2 := HM.out.grown hg2 hd2
  have HM2 := hide hm2
  clear hm2 hd2 hg2 HM
  by_cases k0 : k = 0
  · subst k0
    go_wp2_with fail
    refine (strNewX HM2.out.dx anyM _ _ 4 _ rfl rfl rfl (by decide) (by decide) (by decide)).mono ?_
    rintro e w3 ⟨⟨x, rfl, hx⟩, hd3, hg3⟩
    have hm3 := HM2.out.grown hg3 hd3
    clear hd3 hg3
    have hm4 := hm3.store (r' := ⟨x, r.p, r.hs, r.b⟩) (hm3.box.set0 (.string x)) (ownsH_set hm3.own (fun e => hm3.hgM e.symm)) hm3.hgM hm3.hg0
    have HM4 := hide hm4
    have hne : ¬ w.heap.size = w1.heap.size := by omega
    have hne' : ¬ w1.heap.size = w.heap.size := by omega
    obtain ⟨_, y0, y1, y2, y3, f0, f1, f2, f3⟩ := hm3.box
    obtain ⟨_, ⟨t0, z0⟩, ⟨t1, z1⟩, ⟨t2, z2⟩, ⟨t3, z3⟩, e0, e1, e2, e3⟩ := hm3.ret
    clear hm3 hm4
    go_wp2
    refine bodyPost_ret (v := .agg #[.string x, .string r.p, .slice (some ⟨g, 0, none⟩) r.hs.length c, .string r.b]) (by simp [results, Tryz.results51, go_sem, z0, z1, z2, z3]) rfl ?_
    exact HM4.out.fin ⟨HQ.out.mono (by decide), by show x.size ≤ 20; omega, q3, by show r.b.size ≤ 201; omega⟩ _ _ _ _
  · have k0' : ((k : Int) == 0) = false := by apply beq_eq_false_iff_ne.2; omega
    by_cases k1 : k = 1
    · subst k1
      go_wp2_with fail
      refine (strNewX HM2.out.dx anyP _ _ 3 _ rfl rfl rfl (by decide) (by decide) (by decide)).mono ?_
      rintro e w3 ⟨⟨x, rfl, hx⟩, hd3, hg3⟩
      have hm3 := HM2.out.grown hg3 hd3
      clear hd3 hg3
      have hm4 := hm3.store (r' := ⟨r.m, x, r.hs, r.b⟩) (hm3.box.set1 (.string x)) (ownsH_set hm3.own (fun e => hm3.hgM e.symm)) hm3.hgM hm3.hg0
      have HM4 := hide hm4
      have hne : ¬ w.heap.size = w1.heap.size := by omega
      have hne' : ¬ w1.heap.size = w.heap.size := by omega
      obtain ⟨_, y0, y1, y2, y3, f0, f1, f2, f3⟩ := hm3.box
      obtain ⟨_, ⟨t0, z0⟩, ⟨t1, z1⟩, ⟨t2, z2⟩, ⟨t3, z3⟩, e0, e1, e2, e3⟩ := hm3.ret
      clear hm3 hm4
      go_wp2
      refine bodyPost_ret (v := .agg #[.string r.m, .string x, .slice (some ⟨g, 0, none⟩) r.hs.length c, .string r.b]) (by simp [results, Tryz.results51, go_sem, z0, z1, z2, z3]) rfl ?_
      exact HM4.out.fin ⟨HQ.out.mono (by decide), q2, by show x.size ≤ 20; omega, by show r.b.size ≤ 201; omega⟩ _ _ _ _
    · have k1' : ((k : Int) == 1) = false := by apply beq_eq_false_iff_ne.2; omega
      by_cases k2 : k = 2
      · subst k2
        have HMd := hide HM2.out.drew
        have hMl := HM2.out.box.1
        have hNl : N < w2.heap.size := HM2.out.dx.lt
        have y20 := HM2.out.box.2.2.2.1
        have hn0 : ¬ w1.heap.size = w2.heap.size := by omega
        have hn1 : ¬ w1.heap.size = w2.heap.size + 1 := by omega
        go_wp2_with fail
        go_region_law (first
          | (refine step_append_head rfl _ _ rfl w.heap.size g r.hs.length c r.hs rfl (MB.out.alloc _).own wB.heap.size (x, y) rfl (by simp) (by simp) (by omega) (by have := MB.out.gr.size; simp; omega) ?_
             intro g5 c5 w5 o5 gr5
             obtain ⟨m5, bx5, rt5⟩ := (MB.out.alloc _).pushed o5 gr5
             have M5 := hide m5
             have RT5 := hide rt5
             have BX5 := hide bx5
             obtain ⟨_, y50, y51, y52, y53, f50, f51, f52, f53⟩ := bx5
             clear m5 rt5)
          | (go_simp
             first
             | (go_at_call_of 63 (4 : Nat)
                refine (Mid.str (by first | exact (HM2.out.alloc _).drew | exact ((HM2.out.alloc _).alloc _).drew) anyN 4 _ (by first | omega | (simp; omega)) (by decide) (by decide) (by decide) (lay4 (by simp) (by simp) (by simp) (by simp))).mono ?_
                rintro e wA ⟨⟨x, rfl, hx⟩, mA, gA⟩
                have hMA := mA.box.1
                have yA := mA.box.2.2.2.1
                have hnA0 : ¬ w1.heap.size = wA.heap.size := by omega
                have hnA1 : ¬ w1.heap.size = wA.heap.size + 1 := by omega
                have MA := hide mA
                have GA := hide gA
                clear mA gA)
             | (go_at_call_of 63 (3 : Nat)
                refine (Mid.str (by first | exact MA.out | exact MA.out.alloc _) anyV 3 _ (by first | omega | (simp; omega)) (by decide) (by decide) (by decide) (lay3 (by first | (simp; done) | exact grown_cell GA.out (by omega) (by first | (simp; done) | (simp; omega)) (by simp; done)) (by first | (simp; done) | exact grown_cell GA.out (by omega) (by first | (simp; done) | (simp; omega)) (by simp; done)) (by first | (simp; done) | exact grown_cell GA.out (by omega) (by first | (simp; done) | (simp; omega)) (by simp; done)))).mono ?_
                rintro e wB ⟨⟨y, rfl, hy⟩, mB, gB⟩
                have hMB := mB.box.1
                have yB := mB.box.2.2.2.1
                have hnB0 : ¬ w1.heap.size = wB.heap.size := by omega
                have MB := hide mB
                clear mB gB)))
        all_goals
          have hne : ¬ w.heap.size = w1.heap.size := by omega
          have hne' : ¬ w1.heap.size = w.heap.size := by omega
          obtain ⟨_, ⟨t0, z0⟩, ⟨t1, z1⟩, ⟨t2, z2⟩, ⟨t3, z3⟩, e0, e1, e2, e3⟩ := RT5.out
          go_wp2
          refine bodyPost_ret (v := .agg #[.string r.m, .string r.p, .slice (some ⟨g5, 0, none⟩) (r.hs.length + 1) c5, .string r.b]) (by simp [results, Tryz.results51, go_sem, z0, z1, z2, z3]) rfl ?_
          have hf := fun u0 u1 u2 u3 => M5.out.fin ⟨(HQ.out.snoc (h := (x, y)) (by show x.size ≤ 60; omega) (by show y.size ≤ 60; omega)).mono (by decide), q2, q3, by show r.b.size ≤ 201; omega⟩ u0 u1 u2 u3
          simp only [List.length_append, List.length_cons, List.length_nil, Nat.zero_add] at hf
          exact hf _ _ _ _
      · have k2' : ((k : Int) == 2) = false := by apply beq_eq_false_iff_ne.2; omega
        by_cases k3 : k = 3
        · subst k3
          go_wp2_with fail
          refine (l1BelowX HM2.out.dx 2 (by decide) (by decide)).mono ?_
          rintro e w3 ⟨⟨q, rfl, hq⟩, hd3, hg3⟩
          have hm3 := HM2.out.grown hg3 hd3
          have HM3 := hide hm3
          clear hd3 hg3
          obtain ⟨n, hn⟩ : ∃ n : Nat, n = 200 + q := ⟨_, rfl⟩
          have hn' : ((200 : Int) + (q : Int)) = ((n : Nat) : Int) := by omega
          have hnb : n ≤ 201 := by omega
          have hw : IntKind.i64.wrap (200 + (q : Int)) = (n : Int) := by rw [IntKind.wrap_i64]; omega
          have HN := hide hn
          clear hn hn'
          have hmk := run_make_row' (P := Tryz.prog) 22 5 (.int .u8 0) 1 Tryz.underlying22 info_u8d rfl .i64 .i64 n (by omega) (by omega) w3
          obtain ⟨x, hxz, hcv⟩ := conv_zeros w3 n
          have hm3' := HM3.out.alloc (.cells (madeCells #[.int .u8 0] n) 5)
          obtain ⟨w4, hw4⟩ : ∃ w4, w3.alloc (.cells (madeCells #[.int .u8 0] n) 5) = w4 := ⟨_, rfl⟩
          rw [hw4] at hm3' hcv hmk
          have hxz' : x.size ≤ 201 := by omega
          have HZ := hide hxz
          clear hxz
          have hm4 := hm3'.store (r' := ⟨r.m, r.p, r.hs, x⟩) (hm3'.box.set3 (.string x)) (ownsH_set hm3'.own (fun e => hm3'.hgM e.symm)) hm3'.hgM hm3'.hg0
          have HM4 := hide hm4
          have hne : ¬ w.heap.size = w1.heap.size := by omega
          have hne' : ¬ w1.heap.size = w.heap.size := by omega
          obtain ⟨_, y0, y1, y2, y3, f0, f1, f2, f3⟩ := hm3'.box
          obtain ⟨_, ⟨t0, z0⟩, ⟨t1, z1⟩, ⟨t2, z2⟩, ⟨t3, z3⟩, e0, e1, e2, e3⟩ := hm3'.ret
          clear hm3' hm4 hm3
          go_wp2
          refine bodyPost_ret (v := .agg #[.string r.m, .string r.p, .slice (some ⟨g, 0, none⟩) r.hs.length c, .string x]) (by simp [results, Tryz.results51, go_sem, z0, z1, z2, z3]) rfl ?_
          exact HM4.out.fin ⟨HQ.out.mono (by decide), q2, q3, hxz'⟩ _ _ _ _
        · have k3' : ((k : Int) == 3) = false := by apply beq_eq_false_iff_ne.2; omega
          by_cases k4 : k = 4
          · subst k4
            have HQ9 : Hid (FewH 9 r.hs) := HQ.out.mono (by decide)
            clear hk k0 k0' k1 k1' k2 k2' k3 k3' hrl hgl1
            go_wp2_with fail
            go_loopw [] (fun wr => ∃ (hs : List Hd) (g' c' : Nat), FewH 9 hs ∧ Mid w wr N a len cap zs w1.heap.size g' c' ⟨r.m, r.p, hs, r.b⟩) (fun wr => match wr.cell? ⟨w1.heap.size, 2, none⟩ with | some (.slice _ n _) => 10 - n | _ => 0)
            case atStart => exact ⟨r.hs, g, c, HQ9.out, HM2.out⟩
            case round =>
              obtain ⟨hs, g', c', hf, hm⟩ := hrel
              have HMr := hide hm
              have HF := hide hf
              have hl9 := hf.1
              have yr := hm.box.2.2.2.1
              have yr' : wr.cell? ⟨w1.heap.size, 2, none⟩ = some (.slice (some ⟨g', 0, none⟩) hs.length c') := yr
              clear hm hf yr
              go_wp2_with fail
              go_region_law (
                go_simp
                go_at_call 46
                refine (HMr.out.drew.less 2 (by decide) (by decide)).mono ?_
                rintro e w3 ⟨⟨q, rfl, hq⟩, m3⟩
                have y3 : w3.cell? ⟨w1.heap.size, 2, none⟩ = some (.slice (some ⟨g', 0, none⟩) hs.length c') := m3.box.2.2.2.1
                have hw : IntKind.i64.wrap (8 + (q : Int)) = 8 + q := by rw [IntKind.wrap_i64]; omega
                have M3 := hide m3
                clear m3)
              all_goals
                by_cases hc : (hs.length : Int) < 8 + q
                · have hMl3 := M3.out.box.1
                  have hNl3 : N < w3.heap.size := M3.out.dx.lt
                  have hn0 : ¬ w1.heap.size = w3.heap.size := by omega
                  have hn1 : ¬ w1.heap.size = w3.heap.size + 1 := by omega
                  go_wp2_with fail
                  go_region_law (first
                    | (refine step_append_head rfl _ _ rfl w.heap.size g' hs.length c' hs rfl (MA.out.alloc _).own wA.heap.size (_, _) rfl (by simp; rfl) (by simp; rfl) (by omega) (by have := MA.out.gr.size; simp; omega) ?_
                       intro g5 c5 w5 o5 gr5
                       obtain ⟨m5, bx5, rt5⟩ := (MA.out.alloc _).pushed o5 gr5
                       have M5 := hide m5
                       have RT5 := hide rt5
                       have BX5 := hide bx5
                       obtain ⟨_, y50, y51, y52, y53, f50, f51, f52, f53⟩ := bx5
                       clear m5 rt5)
                    | (go_simp
                       go_at_call 48
                       refine (Mid.int (by exact (M3.out.alloc _).drew) [0, 9, 60] 3 _ (by first | omega | (simp; omega)) (by decide) (by decide) (by decide) (ints3 (by simp) (by simp) (by simp))).mono ?_
                       rintro e wA ⟨⟨x, rfl, hx⟩, mA, gA⟩
                       have hMA := mA.box.1
                       have yA : wA.cell? ⟨w1.heap.size, 2, none⟩ = some (.slice (some ⟨g', 0, none⟩) hs.length c') := mA.box.2.2.2.1
                       have hnA0 : ¬ w1.heap.size = wA.heap.size := by omega
                       have hx0 : (0 : Int) ≤ x := by omega
                       have hx6 : (x : Int) ≤ 60 := by omega
                       have MA := hide mA
                       clear mA gA))
                  all_goals
                    have HF8 : Hid (FewH 8 hs) := ⟨by omega, HF.out.2⟩
                    have hcell := World.cell?_setCell_same w5 ⟨w1.heap.size, 2, none⟩ (.slice (some ⟨g5, 0, none⟩) (hs.length + 1) c5) y52
                    go_wp2
                    go_roundw
                    case rel => exact ⟨_, g5, c5, HF8.out.snoc (show (⟨#[120]⟩ : ByteArray).size ≤ 60 by decide) (by simp [ByteArray.size_extract]; omega), M5.out⟩
                    case measure => rw [hcell, yr']; show 10 - (hs.length + 1) < 10 - hs.length; omega
                · have hlen9 : hs.length ≤ 10 := by omega
                  have hne : ¬ w.heap.size = w1.heap.size := by omega
                  have hne' : ¬ w1.heap.size = w.heap.size := by omega
                  obtain ⟨_, y0, y1, y2, y3, f0, f1, f2, f3⟩ := M3.out.box
                  obtain ⟨_, ⟨t0, z0⟩, ⟨t1, z1⟩, ⟨t2, z2⟩, ⟨t3, z3⟩, e0, e1, e2, e3⟩ := M3.out.ret
                  simp only at y0 y1 y2 y3
                  go_wp2
                  refine bodyPost_ret (v := .agg #[.string r.m, .string r.p, .slice (some ⟨g', 0, none⟩) hs.length c', .string r.b]) (by simp [results, Tryz.results51, go_sem, z0, z1, z2, z3]) rfl ?_
                  exact M3.out.fin ⟨HF.out.mono (by decide), q2, q3, by show r.b.size ≤ 201; omega⟩ _ _ _ _
          · have k4' : ((k : Int) == 4) = false := by apply beq_eq_false_iff_ne.2; omega
            have HM4 := HM2
            have hm3 := HM2.out
            have hne : ¬ w.heap.size = w1.heap.size := by omega
            have hne' : ¬ w1.heap.size = w.heap.size := by omega
            obtain ⟨_, y0, y1, y2, y3, f0, f1, f2, f3⟩ := hm3.box
            obtain ⟨_, ⟨t0, z0⟩, ⟨t1, z1⟩, ⟨t2, z2⟩, ⟨t3, z3⟩, e0, e1, e2, e3⟩ := hm3.ret
            clear hm3
            go_wp2
            refine bodyPost_ret (v := .agg #[.string r.m, .string r.p, .slice (some ⟨g, 0, none⟩) r.hs.length c, .string r.b]) (by simp [results, Tryz.results51, go_sem, z0, z1, z2, z3]) rfl ?_
            exact HM4.out.fin ⟨HQ.out.mono (by decide), q2, q3, by show r.b.size ≤ 201; omega⟩ _ _ _ _
end Go.Proofs.YtanebchmeaomgaaGreatDoor
