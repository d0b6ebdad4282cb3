/-
  The draw of two answers.
-/
import Derived.Test.YtkhnkockdfmkgaaDoorDrawPutResp
import Derived.Test.YtkhnkockdfmkgaaDoorDrawTwo
namespace Go.Proofs.YtkhnkockdfmkgaaDoor
open Go.RowKit M
set_option linter.unusedVariables false

theorem sets3 {w W : World} {C N : Nat} (h : Below C w W) (hC : C ≤ N) (u0 u1 u2 : Value) : Below C w (((W.setCell ⟨N, 0, none⟩ u0).setCell ⟨N, 1, none⟩ u1).setCell ⟨N, 2, none⟩ u2) :=
  ((h.setCell (p := ⟨N, 0, none⟩) hC u0).setCell (p := ⟨N, 1, none⟩) hC u1).setCell (p := ⟨N, 2, none⟩) hC u2
theorem own3 {W : World} {B g n c N : Nat} {xs : List Value} (h : W.ownsRow B 42 2 (.slice (some ⟨g, 0, none⟩) n c) n xs) (hN : N ≠ g) (u0 u1 u2 : Value) : (((W.setCell ⟨N, 0, none⟩ u0).setCell ⟨N, 1, none⟩ u1).setCell ⟨N, 2, none⟩ u2).ownsRow B 42 2 (.slice (some ⟨g, 0, none⟩) n c) n xs :=
  ownsH_set (p := ⟨N, 2, none⟩) (ownsH_set (p := ⟨N, 1, none⟩) (ownsH_set (p := ⟨N, 0, none⟩) h hN) hN) hN

set_option maxRecDepth 100000 in
set_option maxHeartbeats 2000000 in
theorem drawSameResp_any {w : World} {B : Nat} {a : Option Addr} {len : Nat} {zs : List Int} (h : CodeIn w B a len zs) (hB : B ≤ w.heap.size) (cap : Nat) :
    Calls Tryd.prog 10 #[.slice a len cap] w fun e w' => (∃ v u, e = .returned (.tuple #[v, u]) ∧ RetA w' v ∧ RetA w' u) ∧ Below w.heap.size w w' := by
  have H := hide h
  clear h
  go_enter Tryd.func10, Tryd.ntmps10
  obtain ⟨w0, hw0⟩ : ∃ w0, (w.alloc (Obj.cells #[Value.int .i64 0, Value.slice none 0 0, Value.string { data := #[] }] 26)).alloc (Obj.cells #[Value.int .i64 0, Value.slice none 0 0, Value.string { data := #[] }] 26) = w0 := ⟨_, rfl⟩
  have hb0 : Below w.heap.size w w0 := by rw [← hw0]; exact ((Below.refl _ _).alloc (Nat.le_refl _) _).alloc (by simp) _
  have hz0 : w0.heap.size = w.heap.size + 1 + 1 := by rw [← hw0]; simp
  have hr0 : RBoxA w0 w.heap.size (.int .i64 0) (.slice none 0 0) (.string ⟨#[]⟩) := by rw [← hw0]; exact (((Below.refl _ _).alloc (Nat.le_refl _) _).block _ (by simp)).trans (heap_alloc_new w _)
  have hr1 : RBoxA w0 (w.heap.size + 1) (.int .i64 0) (.slice none 0 0) (.string ⟨#[]⟩) := by rw [← hw0]; have := heap_alloc_new (w.alloc (Obj.cells #[Value.int .i64 0, Value.slice none 0 0, Value.string { data := #[] }] 26)) (Obj.cells #[Value.int .i64 0, Value.slice none 0 0, Value.string { data := #[] }] 26); simpa [RBoxA] using this
  have HN := hide (newDX (H.out.below (hb0.mono hB)) cap)
  have HR0 := hide hr0
  have HR1 := hide hr1
  have HB0 := hide hb0
  have HZ0 := hide hz0
  clear hb0 hz0 hr0 hr1
  go_wp2_with fail
  try rw [hw0]
  refine HN.out.mono ?_
  rintro e w1 ⟨rfl, hd1, b1⟩
  have z1 := b1.size
  rw [HZ0.out] at hd1 b1 z1
  have R0 : Hid (RBoxA w1 w.heap.size _ _ _) := hide ((b1.block w.heap.size (by omega)).trans HR0.out)
  have R1 : Hid (RBoxA w1 (w.heap.size + 1) _ _ _) := hide ((b1.block (w.heap.size + 1) (by omega)).trans HR1.out)
  have c1 := HB0.out.trans (b1.mono (by omega))
  have D1 := hide hd1
  have hl1 := hd1.lt
  rw [HZ0.out]
  clear hd1 b1 HR0 HR1 HN hw0
  go_wp2_with fail
  refine (l5Any_any D1.out).mono ?_
  rintro e w2 ⟨⟨r, g, c, hs, rfl, ho⟩, hd2, hg2⟩
  have R0b : Hid (RBoxA w2 w.heap.size _ _ _) := hide ((hg2.block w.heap.size R0.out.lt (by simp; omega)).trans R0.out)
  have R1b : Hid (RBoxA w2 (w.heap.size + 1) _ _ _) := hide ((hg2.block (w.heap.size + 1) R1.out.lt (by simp)).trans R1.out)
  have hgl := ho.lt g rfl
  have z2 := hg2.size
  have c2 : Below w.heap.size w w2 := c1.trans ⟨hg2.os, hg2.tape, hg2.output, hg2.size, fun k hk => hg2.block k (by omega) (by simp; omega)⟩
  obtain ⟨w2b, hw2b⟩ : ∃ w2b, w2.alloc (Obj.cells #[Value.int .i64 r.c, Value.slice (some ⟨g, 0, none⟩) r.hs.length c, Value.string r.b] 26) = w2b := ⟨_, rfl⟩
  have bal : Below w2.heap.size w2 w2b := by rw [← hw2b]; exact (Below.refl _ _).alloc (Nat.le_refl _) _
  have bx : RBoxA w2b w2.heap.size (.int .i64 r.c) (.slice (some ⟨g, 0, none⟩) r.hs.length c) (.string r.b) := by rw [← hw2b]; exact heap_alloc_new w2 _
  have D2 : Hid (DX w2b _ a len cap zs) := hide (by rw [← hw2b]; exact hd2.alloc _)
  have R0c : Hid (RBoxA w2b w.heap.size _ _ _) := hide ((bal.block _ R0b.out.lt).trans R0b.out)
  have R1c : Hid (RBoxA w2b (w.heap.size + 1) _ _ _) := hide ((bal.block _ R1b.out.lt).trans R1b.out)
  have O2c := hide (ownsH_below ho bal)
  have C2c := hide (c2.trans (bal.mono c2.size))
  have BXc := hide bx
  have HS := hide hs
  have zb := bal.size
  have zb2 := bx.lt
  clear ho hd2 hg2 hs bal bx R0 R1 R0b R1b D1
  go_wp2_with fail
  try rw [hw2b]
  refine (onceX D2.out).mono ?_
  rintro e w3 ⟨⟨bb, rfl⟩, hd3, hg3⟩
  have z3 : w2b.heap.size ≤ w3.heap.size := hg3.size
  have R03 : Hid (RBoxA w3 w.heap.size _ _ _) := hide ((hg3.block _ R0c.out.lt (by simp; omega)).trans R0c.out)
  have R13 : Hid (RBoxA w3 (w.heap.size + 1) _ _ _) := hide ((hg3.block _ R1c.out.lt (by simp)).trans R1c.out)
  have O3 := hide (ownsH_grown O2c.out hg3 (by omega))
  have BX3 : Hid (RBoxA w3 w2.heap.size _ _ _) := hide ((hg3.block _ zb2 (by simp; omega)).trans BXc.out)
  have c3 : Below w.heap.size w w3 := C2c.out.trans ⟨hg3.os, hg3.tape, hg3.output, hg3.size, fun k hk => hg3.block k (by have := C2c.out.size; omega) (by simp; omega)⟩
  have D3 := hide hd3
  clear hd3 hg3 R0c R1c O2c BXc C2c D2 hw2b
  obtain ⟨x0, x1, x2, _, _, _⟩ := BX3.out.cells
  cases bb
  · have d3d : DX w3.drew (w.heap.size + 1 + 1) a len cap zs := D3.out.other (Nat.le_refl _) (fun _ _ => rfl)
    have D3d := hide d3d
    clear d3d
    go_wp2_with fail
    go_region_law (
      go_simp
      go_at_call 16
      refine (l5Any_any D3d.out).mono ?_
      rintro e w4 ⟨⟨r', g', c', hs', rfl, ho'⟩, hd4, hg4⟩
      have hg4' : w3.grownBy w4 (some (w.heap.size + 1 + 1)) := ⟨hg4.os, hg4.tape, hg4.output, hg4.size, hg4.block⟩
      have z4 : w3.heap.size ≤ w4.heap.size := hg4'.size
      have bx4 : RBoxA w4 w2.heap.size _ _ _ := (hg4'.block w2.heap.size BX3.out.lt (by simp; omega)).trans BX3.out
      obtain ⟨u0, u1, u2, _, _, _⟩ := bx4.cells
      have R04 : RBoxA w4 w.heap.size _ _ _ := (hg4'.block _ R03.out.lt (by simp; omega)).trans R03.out
      have R14 : RBoxA w4 (w.heap.size + 1) _ _ _ := (hg4'.block _ R13.out.lt (by simp)).trans R13.out
      obtain ⟨z0, z1, z2, e0, e1, e2⟩ := R04.cells
      obtain ⟨y0, y1, y2, f0, f1, f2⟩ := R14.cells
      have O4 := hide (ownsH_grown O3.out hg4' (by omega))
      have O4' := hide ho'
      have hgl' : w3.heap.size ≤ g' := (ho'.lt g' rfl).1
      have c4 : Below w.heap.size w w4 := c3.trans ⟨hg4'.os, hg4'.tape, hg4'.output, hg4'.size, fun k hk => hg4'.block k (by omega) (by simp; omega)⟩
      have HS' := hide hs'
      clear ho' hd4 hg4 hg4' hs' bx4 R04 R14)
    all_goals
      have n0 : ¬ w.heap.size = w.heap.size + 1 := by omega
      have n1 : w.heap.size ≠ g := by omega
      have n2 : w.heap.size + 1 ≠ g := by omega
      have n3 : w.heap.size ≠ g' := by omega
      have n4 : w.heap.size + 1 ≠ g' := by omega
      go_wp2
      refine bodyPost_ret (v := .tuple #[.agg #[.int .i64 r.c, .slice (some ⟨g, 0, none⟩) r.hs.length c, .string r.b], .agg #[.int .i64 r'.c, .slice (some ⟨g', 0, none⟩) r'.hs.length c', .string r'.b]]) (by simp [results, Tryd.results10, go_sem, z0, z1, z2, y0, y1, y2]) rfl ⟨⟨_, _, rfl, ⟨r, g, c, HS.out, rfl, ?_⟩, ⟨r', g', c', HS'.out, rfl, ?_⟩⟩, ?_⟩
      · exact ownsH_hds (own3 (own3 O4.out n1 _ _ _) n2 _ _ _) rfl
      · exact ownsH_hds (own3 (own3 O4'.out n3 _ _ _) n4 _ _ _) rfl
      · exact sets3 (sets3 c4 (Nat.le_refl _) _ _ _) (Nat.le_succ _) _ _ _
  · have hl10 := HS.out.1.1
    have hl23 : w2.heap.size < w3.heap.size := BX3.out.lt
    have hl23' : w2.heap.size + 1 ≤ w3.heap.size := hl23
    go_wp2_with (at_builtin; refine wp_append_heads rfl _ _ rfl (w3.heap.size + 1) (w3.heap.size + 1) g r.hs.length c r.hs rfl ?o1 rfl rfl ?o2 ?o3 ?o4 ?_)
    case o3 => omega
    case o4 => simp
    case o1 =>
      have ho := World.ownsRow_made (w3.alloc (Obj.cells #[Value.int .i64 r.c, Value.slice (some ⟨g, 0, none⟩) r.hs.length c, Value.string r.b] 26)) (e := 42) (size := 2) #[] 0 (Nat.le_refl _) (by decide) rfl
      simpa [hdCells] using ho
    case o2 => exact ownsH_hds ((O3.out.alloc _).alloc _) rfl
    intro g5 c5 w5 o5 gr5
    have bal : Below w3.heap.size w3 ((w3.alloc (Obj.cells #[Value.int .i64 r.c, Value.slice (some ⟨g, 0, none⟩) r.hs.length c, Value.string r.b] 26)).alloc (Obj.cells #[] 42)) := ((Below.refl _ _).alloc (Nat.le_refl _) _).alloc (by simp) _
    have b5 : Below (w3.heap.size + 1) ((w3.alloc (Obj.cells #[Value.int .i64 r.c, Value.slice (some ⟨g, 0, none⟩) r.hs.length c, Value.string r.b] 26)).alloc (Obj.cells #[] 42)) w5 := ⟨gr5.os, gr5.tape, gr5.output, gr5.size, fun k hk => gr5.block k (by simp; omega) (by simp; omega)⟩
    have d5 : Below w3.heap.size w3 w5 := bal.trans (b5.mono (Nat.le_succ _))
    have bx5 : RBoxA w5 w3.heap.size (.int .i64 r.c) (.slice (some ⟨g, 0, none⟩) r.hs.length c) (.string r.b) := (b5.block _ (Nat.lt_succ_self _)).trans ((((Below.refl (w3.heap.size + 1) _).alloc (by simp) (Obj.cells #[] 42)).block _ (Nat.lt_succ_self _)).trans (heap_alloc_new w3 _))
    have O5 := hide (ownsH_below O3.out d5)
    have O5' := hide o5
    have hgl' : w3.heap.size + 1 ≤ g5 := (o5.lt g5 rfl).1
    have c5b : Below w.heap.size w w5 := c3.trans (d5.mono c3.size)
    have R04 : RBoxA w5 w.heap.size _ _ _ := (d5.block _ R03.out.lt).trans R03.out
    have R14 : RBoxA w5 (w.heap.size + 1) _ _ _ := (d5.block _ R13.out.lt).trans R13.out
    have ax : RBoxA w5 w2.heap.size _ _ _ := (d5.block _ BX3.out.lt).trans BX3.out
    clear o5 gr5 bal b5 x0 x1 x2
    obtain ⟨u0, u1, u2, _, _, _⟩ := ax.cells
    obtain ⟨k0, k1, k2, j0, j1, j2⟩ := bx5.cells
    obtain ⟨z0, z1, z2, e0, e1, e2⟩ := R04.cells
    obtain ⟨y0, y1, y2, f0, f1, f2⟩ := R14.cells
    have zz := c3.size
    have n0 : ¬ w.heap.size = w.heap.size + 1 := by omega
    have n1 : w.heap.size ≠ g := by omega
    have n2 : w.heap.size + 1 ≠ g := by omega
    have n3 : w.heap.size ≠ g5 := by omega
    have n4 : w.heap.size + 1 ≠ g5 := by omega
    have n5 : w3.heap.size ≠ g := by omega
    have n6 : w3.heap.size ≠ g5 := by omega
    have m1 : ¬ w3.heap.size = w2.heap.size := by omega
    have m2 : ¬ w3.heap.size = w.heap.size := by omega
    have m3 : ¬ w3.heap.size = w.heap.size + 1 := by omega
    have m4 : ¬ w.heap.size = w2.heap.size := by omega
    have m5 : ¬ w.heap.size + 1 = w2.heap.size := by omega
    have m6 : ¬ w.heap.size = w3.heap.size := by omega
    have m7 : ¬ w.heap.size + 1 = w3.heap.size := by omega
    clear R04 R14 ax bx5
    go_wp2_with fail
    go_region_law (fail)
    all_goals
      go_wp2
      refine bodyPost_ret (v := .tuple #[.agg #[.int .i64 r.c, .slice (some ⟨g, 0, none⟩) r.hs.length c, .string r.b], .agg #[.int .i64 r.c, .slice (some ⟨g5, 0, none⟩) r.hs.length c5, .string r.b]]) (by simp [results, Tryd.results10, go_sem, z0, z1, z2, y0, y1, y2]) rfl ⟨⟨_, _, rfl, ⟨r, g, c, HS.out, rfl, ?_⟩, ⟨r, g5, c5, HS.out, rfl, ?_⟩⟩, ?_⟩
      · exact hdsD (ownsH_hds (own3 (own3 (ownsH_set (p := ⟨w3.heap.size, 1, none⟩) O5.out n5) n1 _ _ _) n2 _ _ _) rfl)
      · exact hdsD (ownsH_hds (own3 (own3 (ownsH_set (p := ⟨w3.heap.size, 1, none⟩) O5'.out n6) n3 _ _ _) n4 _ _ _) rfl)
      · exact below_drew (sets3 (sets3 (c5b.setCell (p := ⟨w3.heap.size, 1, none⟩) zz _) (Nat.le_refl _) _ _ _) (Nat.le_succ _) _ _ _)
end Go.Proofs.YtkhnkockdfmkgaaDoor
