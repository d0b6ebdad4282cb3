/-
  What the laws' own helps on requests do: sizes, copies.
-/
import Derived.Test.YthcaedgegmnopaaDoorLawHeads
namespace Go.Proofs.YthcaedgegmnopaaDoor
open Go.RowKit M
set_option linter.unusedVariables false

set_option maxHeartbeats 1000000 in
theorem szReq_any (a : Option Addr) (r : Rq) (cap B left : Nat) (w : World) (h : Hds w B a r.hs) (hB : B ≤ w.heap.size) (hsh : ShortH r.hs) (hl : r.hs.length ≤ maxLen) (h1 : r.m.size ≤ maxLen) (h2 : r.p.size ≤ maxLen) (h3 : r.b.size ≤ maxLen) (hleft : left ≤ 1048576) :
    Calls Tryd.prog 16 #[.agg #[.string r.m, .string r.p, .slice a r.hs.length cap, .string r.b], .int .i64 left] w fun e w' => (∃ z : Int, e = .returned (.int .i64 z) ∧ (z < 0 ∨ ∃ m : Nat, z = m ∧ r.m.size + r.p.size + (r.hs.length + sumH r.hs) + r.b.size + m = left)) ∧ Below w.heap.size w w' := by
  obtain ⟨rm, rp, hs, rb⟩ := r
  simp only at *
  unfold maxLen at h1 h2 h3
  by_cases hx : left < rm.size
  · go_enter Tryd.func16, Tryd.ntmps16
    go_wp2
    go_ret
    exact ⟨⟨_, rfl, .inl (by omega)⟩, (Below.refl _ _).alloc (Nat.le_refl _) _⟩
  · by_cases hy : left < rm.size + rp.size
    · go_enter Tryd.func16, Tryd.ntmps16
      go_wp2
      go_ret
      exact ⟨⟨_, rfl, .inl (by omega)⟩, (Below.refl _ _).alloc (Nat.le_refl _) _⟩
    · have hb0 : Below w.heap.size w (w.alloc (.cells #[.string rm, .string rp, .slice a hs.length cap, .string rb] 38)) := (Below.refl _ _).alloc (Nat.le_refl _) _
      have hS := szHeadS_any a hs cap B (left - rm.size - rp.size) (w.alloc (.cells #[.string rm, .string rp, .slice a hs.length cap, .string rb] 38)) (h.below hb0 hB) (by simp; omega) hsh hl (by omega)
      have hq : (((left - rm.size - rp.size : Nat)) : Int) = (left : Int) - rm.size - rp.size := by omega
      rw [hq] at hS
      clear hq
      have HB0 : Hid _ := hb0
      clear hb0
      go_enter Tryd.func16, Tryd.ntmps16
      go_wp2_with fail
      refine hS.mono ?_
      rintro e w1 ⟨⟨z, rfl, hz⟩, hb1⟩
      clear hS
      have c1 := HB0.out.trans (hb1.mono (by simp))
      have hcell : w1.cell? ⟨w.heap.size, 3, none⟩ = some (.string rb) := by
        rw [hb1.cell (p := ⟨w.heap.size, 3, none⟩) (by simp)]; simp
      rcases hz with hz | ⟨m', rfl, hm'⟩
      · go_wp2
        go_ret
        exact ⟨⟨_, rfl, .inl (by omega)⟩, c1⟩
      · have hm1 : m' ≤ 1048576 := by omega
        have HM' : Hid (hs.length + sumH hs + m' = left - rm.size - rp.size) := hm'
        clear hm'
        by_cases hz2 : m' < rb.size
        · go_wp2
          go_ret
          exact ⟨⟨_, rfl, .inl (by omega)⟩, c1⟩
        · go_wp2
          go_ret
          exact ⟨⟨_, rfl, .inr ⟨m' - rb.size, by omega, by have := HM'.out; omega⟩⟩, c1⟩

set_option maxHeartbeats 1000000 in
theorem toReq_any (a : Option Addr) (r : Rq) (cap B : Nat) (w : World) (h : Hds w B a r.hs) (hB : B ≤ w.heap.size) (hl : r.hs.length ≤ 1048576) :
    Calls Tryd.prog 18 #[.agg #[.string r.m, .string r.p, .slice a r.hs.length cap, .string r.b]] w fun e w' => (∃ g : Nat, e = .returned (.agg #[.string r.m, .string r.p, .slice (some ⟨g, 0, none⟩) r.hs.length r.hs.length, .string r.b]) ∧ Hds w' w'.heap.size (some ⟨g, 0, none⟩) r.hs) ∧ Below w.heap.size w w' := by
  obtain ⟨rm, rp, hs, rb⟩ := r
  simp only at *
  have HH : Hid (Hds w B a hs) := h
  clear h
  go_enter Tryd.func18, Tryd.ntmps18
  go_wp2_with fail
  have hb0 : Below w.heap.size w (((w.alloc (Obj.cells #[Value.string rm, Value.string rp, Value.slice a hs.length cap, Value.string rb] 38)).alloc (Obj.cells #[Value.string { data := #[] }, Value.string { data := #[] }, Value.slice none 0 0, Value.string { data := #[] }] 42)).alloc (Obj.cells #[Value.string rm, Value.string rp, Value.slice none 0 0, Value.string { data := #[] }] 42)) := (((Below.refl _ _).alloc (Nat.le_refl _) _).alloc (by simp) _).alloc (by simp; omega) _
  refine (toHeadS_any a hs cap B _ (HH.out.below hb0 hB) (by simp; omega) hl).mono ?_
  rintro e w1 ⟨rfl, hd1, hb1, hlt1⟩
  have HD1 : Hid (Hds w1 w1.heap.size _ hs) := hd1.mono hlt1
  have HB1 : Hid (Below w.heap.size w w1) := hb0.trans (hb1.mono hb0.size)
  obtain ⟨hc, hf⟩ := bcell hb1
  clear hd1 hb0 hb1
  go_wp2
  have hd' : Hds w1 w1.heap.size (some ⟨w.heap.size + 1 + 1 + 1, 0, none⟩) hs := by have := HD1.out; simpa using this
  refine bodyPost_ret (v := .agg #[.string rm, .string rp, .slice (some ⟨w.heap.size + 1 + 1 + 1, 0, none⟩) hs.length hs.length, .string rb]) (by simp [results, Tryd.results18, go_sem, hc]) rfl ⟨⟨_, rfl, ?_⟩, ?_⟩
  · have h6 := (((((hd'.store ⟨w.heap.size + 1 + 1, 2, none⟩ (Value.slice (some ⟨w.heap.size + 1 + 1 + 1, 0, none⟩) hs.length hs.length) (by simp)).store ⟨w.heap.size + 1 + 1, 3, none⟩ (Value.string rb) (by simp)).store ⟨w.heap.size + 1, 0, none⟩ (Value.string rm) (by simp)).store ⟨w.heap.size + 1, 1, none⟩ (Value.string rp) (by simp)).store ⟨w.heap.size + 1, 2, none⟩ (Value.slice (some ⟨w.heap.size + 1 + 1 + 1, 0, none⟩) hs.length hs.length) (by simp)).store ⟨w.heap.size + 1, 3, none⟩ (Value.string rb) (by simp)
    simpa using h6
  · exact (((((HB1.out.setCell (by simp; omega) _).setCell (by simp; omega) _).setCell (by simp) _).setCell (by simp) _).setCell (by simp) _).setCell (by simp) _
end Go.Proofs.YthcaedgegmnopaaDoor
