/-
  The draws of requests: whatever is drawn, they are short, in memory of their own.
-/
import Derived.Test.YtanebchmeaomgaaGreatDoorDrawHds
namespace Go.Proofs.YtanebchmeaomgaaGreatDoor
open Go.RowKit M
set_option linter.unusedVariables false

/-- A drawn request. -/
def DrawnR (w' : World) (B : Nat) (e : Ending) : Prop := ∃ (r : Rq) (g c : Nat), FewH 2 r.hs ∧ r.m.size ≤ 20 ∧ r.p.size ≤ 20 ∧ r.b.size ≤ 20 ∧ e = .returned (.agg #[.string r.m, .string r.p, .slice (some ⟨g, 0, none⟩) r.hs.length c, .string r.b]) ∧ w'.ownsRow B 82 2 (.slice (some ⟨g, 0, none⟩) r.hs.length c) r.hs.length (hdCells r.hs)

set_option maxHeartbeats 2000000 in
theorem l3Draw_any {w : World} {N : Nat} {a : Option Addr} {len cap : Nat} {zs : List Int} (h : DX w N a len cap zs) :
    Calls Tryz.prog 84 #[.pointer (some ⟨N, 0, none⟩)] w fun e w' => DrawnR w' w.heap.size e ∧ DX w' N a len cap zs ∧ w.grownBy w' (some N) := by
  have hlt := h.lt
  have H : Hid (DX w N a len cap zs) := h
  clear h
  go_enter Tryz.func84, Tryz.ntmps84
  have HA : Hid (DX (w.alloc (Obj.cells #[Value.string { data := #[] }, Value.string { data := #[] }, Value.slice none 0 0, Value.string { data := #[] }] 39)) N a len cap zs) := H.out.alloc _
  have HG0 : Hid (w.grownBy (w.alloc (Obj.cells #[Value.string { data := #[] }, Value.string { data := #[] }, Value.slice none 0 0, Value.string { data := #[] }] 39)) (some N)) := grown_alloc (grown_refl _ _) _
  go_wp2_with fail
  refine (strNewX HA.out methD _ _ 5 _ (by simp) rfl rfl (by decide) (by decide) (by decide)).mono ?_
  rintro e w1 ⟨⟨x, rfl, hx⟩, hd1, hg1⟩
  have HD1 : Hid (DX w1 N a len cap zs) := hd1
  have HG1 : Hid (w.grownBy w1 (some N)) := grown_trans HG0.out hg1
  have hz1 : w.heap.size < w1.heap.size := by have := hg1.size; simp at this; omega
  have hr1 : Ret4 w1 w.heap.size := (Ret4.made w 39).grown hg1 (by omega)
  have HR1 := hide hr1
  clear hd1 hg1 hr1
  go_wp2_with fail
  refine (strNewX HD1.out pathD _ _ 5 _ rfl rfl rfl (by decide) (by decide) (by decide)).mono ?_
  rintro e w2 ⟨⟨y, rfl, hy⟩, hd2, hg2⟩
  have HD2 : Hid (DX w2 N a len cap zs) := hd2
  have HG2 : Hid (w.grownBy w2 (some N)) := grown_trans HG1.out hg2
  have HR2 := hide (HR1.out.grown hg2 (by omega))
  have hz2 : w.heap.size < w2.heap.size := by have := hg2.size; omega
  clear hd2 hg2
  go_wp2_with fail
  refine (l3DrawHeads_any HD2.out).mono ?_
  rintro e w3 ⟨⟨hs, n, g, c, hf, hn, rfl, hown⟩, hd3, hg3⟩
  have HD3 : Hid (DX w3 N a len cap zs) := hd3
  have HG3 : Hid (w.grownBy w3 (some N)) := grown_trans HG2.out hg3
  have HR3 := hide (HR2.out.grown hg3 (by omega))
  have HF := hide hf
  have HN := hide hn
  have hz3 : w2.heap.size ≤ w3.heap.size := hg3.size
  clear hd3 hg3 hf hn
  go_wp2_with fail
  refine (l3Body_any HD3.out).mono ?_
  rintro e w4 ⟨⟨z, rfl, hz⟩, hd4, hg4⟩
  have HD4 : Hid (DX w4 N a len cap zs) := hd4
  have HG4 : Hid (w.grownBy w4 (some N)) := grown_trans HG3.out hg4
  have hr4 := HR3.out.grown hg4 (by omega)
  have hown4 := ownsH_grown hown hg4 (by omega)
  have hz4 : w3.heap.size ≤ w4.heap.size := hg4.size
  have HO := hide hown4
  clear hd4 hg4 hown hown4
  obtain ⟨_, ⟨t0, r0⟩, ⟨t1, r1⟩, ⟨t2, r2⟩, ⟨t3, r3⟩, f0, f1, f2, f3⟩ := hr4
  go_wp2
  refine bodyPost_ret (v := .agg #[.string x, .string y, .slice (some ⟨g, 0, none⟩) n c, .string z]) (by simp [results, Tryz.results84, go_sem, r0, r1, r2, r3]) rfl ⟨⟨⟨x, y, hs, z⟩, g, c, HF.out, hx, hy, hz, by rw [← HN.out], ?_⟩, ?_, ?_⟩
  · have h4 := HO.out
    have hgl := (h4.lt g rfl).1
    rw [← HN.out]
    have h5 : w4.ownsRow w.heap.size 82 2 (.slice (some ⟨g, 0, none⟩) n c) n (hdCells hs) := ownsH_base h4 (by omega)
    exact ownsH_set (ownsH_set (ownsH_set (ownsH_set h5 (by simp; omega)) (by simp; omega)) (by simp; omega)) (by simp; omega)
  · exact (((HD4.out.set4 (by simp; omega)).set4 (by simp; omega)).set4 (by simp; omega)).set4 (by simp; omega)
  · exact grown_past HG4.out (below_sets (Nat.le_refl _) _ _ _ _)
end Go.Proofs.YtanebchmeaomgaaGreatDoor
