/-
  The draw of one answer, bent or not.
-/
import Derived.Test.YtkhnkockdfmkgaaDoorDrawAnyA
namespace Go.Proofs.YtkhnkockdfmkgaaDoor
open Go.RowKit M
set_option linter.unusedVariables false

/-- What a draw of an answer returns. -/
def RetA (w' : World) (v : Value) : Prop := ∃ (r : Rs) (g c : Nat), SmallAn r ∧ v = .agg #[.int .i64 r.c, .slice (some ⟨g, 0, none⟩) r.hs.length c, .string r.b] ∧ Hds w' w'.heap.size (some ⟨g, 0, none⟩) r.hs

set_option maxRecDepth 100000 in
set_option maxHeartbeats 1000000 in
theorem drawPutResp_any {w : World} {B : Nat} {a : Option Addr} {len : Nat} {zs : List Int} (h : CodeIn w B a len zs) (hB : B ≤ w.heap.size) (cap : Nat) :
    Calls Tryd.prog 5 #[.slice a len cap] w fun e w' => (∃ v, e = .returned v ∧ RetA w' v) ∧ Below w.heap.size w w' := by
  have H := hide h
  clear h
  go_enter Tryd.func5, Tryd.ntmps5
  have hb0 : Below w.heap.size w (w.alloc (Obj.cells #[Value.int .i64 0, Value.slice none 0 0, Value.string { data := #[] }] 26)) := (Below.refl _ _).alloc (Nat.le_refl _) _
  have hr0 : RBoxA (w.alloc (Obj.cells #[Value.int .i64 0, Value.slice none 0 0, Value.string { data := #[] }] 26)) w.heap.size (.int .i64 0) (.slice none 0 0) (.string ⟨#[]⟩) := heap_alloc_new w _
  have hz0 : (w.alloc (Obj.cells #[Value.int .i64 0, Value.slice none 0 0, Value.string { data := #[] }] 26)).heap.size = w.heap.size + 1 := by simp
  have HN := hide (newDX (H.out.below (hb0.mono hB)) cap)
  have HR0 := hide hr0
  have HB0 := hide hb0
  have HZ0 := hide hz0
  clear hb0 hz0 hr0
  go_wp2_with fail
  refine HN.out.mono ?_
  rintro e w1 ⟨rfl, hd1, b1⟩
  have z1 := b1.size
  rw [HZ0.out] at hd1 b1 z1
  have r1 : RBoxA w1 w.heap.size (.int .i64 0) (.slice none 0 0) (.string ⟨#[]⟩) := (b1.block w.heap.size (by omega)).trans HR0.out
  have c1 := HB0.out.trans (b1.mono (by omega))
  have D1 := hide hd1
  have R1 := hide r1
  clear hd1 b1 r1 HN
  go_wp2_with fail
  refine (l5Any_any D1.out).mono ?_
  rintro e w2 ⟨⟨r, g, c, hs, rfl, ho⟩, hd2, hg2⟩
  have r2 : RBoxA w2 w.heap.size (.int .i64 0) (.slice none 0 0) (.string ⟨#[]⟩) := (hg2.block w.heap.size R1.out.lt (by simp)).trans R1.out
  have hgl := ho.lt g rfl
  have hgw : g ≠ w.heap.size := by omega
  have c2 : Below w.heap.size w w2 := c1.trans ⟨hg2.os, hg2.tape, hg2.output, hg2.size, fun k hk => hg2.block k (by omega) (by simp; omega)⟩
  have O2 := hide ho
  have HS := hide hs
  clear ho hd2 hg2 hs
  obtain ⟨z0, z1, z2, e0, e1, e2⟩ := r2.cells
  go_wp2
  refine bodyPost_ret (v := .agg #[.int .i64 r.c, .slice (some ⟨g, 0, none⟩) r.hs.length c, .string r.b]) (by simp [results, Tryd.results5, go_sem, z0, z1, z2]) rfl ⟨⟨_, rfl, r, g, c, HS.out, rfl, ?_⟩, ((c2.setCell (p := ⟨w.heap.size, 0, none⟩) (Nat.le_refl _) _).setCell (p := ⟨w.heap.size, 1, none⟩) (Nat.le_refl _) _).setCell (p := ⟨w.heap.size, 2, none⟩) (Nat.le_refl _) _⟩
  exact ownsH_hds (ownsH_set (ownsH_set (ownsH_set O2.out (fun e => hgw e.symm)) (fun e => hgw e.symm)) (fun e => hgw e.symm)) rfl
end Go.Proofs.YtkhnkockdfmkgaaDoor
