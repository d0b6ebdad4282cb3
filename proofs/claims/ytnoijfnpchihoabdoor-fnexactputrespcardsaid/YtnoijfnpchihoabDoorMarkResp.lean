/-
  Copies of answers that may be written, and what the laws' own helps do that mark their heads.
-/
import Derived.Test.YtnoijfnpchihoabDoorLawResp
import Derived.Test.YtnoijfnpchihoabDoorMarkHeads
namespace Go.Proofs.YtnoijfnpchihoabDoor
open Go.RowKit M
set_option linter.unusedVariables false

set_option maxHeartbeats 1000000 in
theorem toResp_rows (a : Option Addr) (r : Rs) (cap B : Nat) (w : World) (h : Hds w B a r.hs) (hB : B ≤ w.heap.size) (hl : r.hs.length ≤ 1048576) :
    Calls Tryd.prog 20 #[.agg #[.int .i64 r.c, .slice a r.hs.length cap, .string r.b]] w fun e w' => (∃ g : Nat, e = .returned (.agg #[.int .i64 r.c, .slice (some ⟨g, 0, none⟩) r.hs.length r.hs.length, .string r.b]) ∧ RowH w' g r.hs ∧ w.heap.size ≤ g) ∧ Below w.heap.size w w' := by
  obtain ⟨rc, hs, rb⟩ := r
  simp only at *
  have HH : Hid (Hds w B a hs) := h
  clear h
  go_enter Tryd.func20, Tryd.ntmps20
  go_wp2_with fail
  have hb0 : Below w.heap.size w (((w.alloc (Obj.cells #[Value.int .i64 rc, Value.slice a hs.length cap, Value.string rb] 42)).alloc (Obj.cells #[Value.int .i64 0, Value.slice none 0 0, Value.string { data := #[] }] 46)).alloc (Obj.cells #[Value.int .i64 rc, Value.slice none 0 0, Value.string { data := #[] }] 46)) := (((Below.refl _ _).alloc (Nat.le_refl _) _).alloc (by simp) _).alloc (by simp; omega) _
  refine (toHeadS_rows a hs cap B _ (HH.out.below hb0 hB) (by simp; omega) hl).mono ?_
  rintro e w1 ⟨rfl, hd1, hb1, hlt1⟩
  have HD1 : Hid (RowH w1 _ hs) := hd1
  have HB1 : Hid (Below w.heap.size w w1) := hb0.trans (hb1.mono hb0.size)
  obtain ⟨hc, hf⟩ := bcell hb1
  clear hd1 hb0 hb1
  go_wp2
  have hd' : RowH w1 (w.heap.size + 1 + 1 + 1) hs := by have := HD1.out; simpa using this
  refine bodyPost_ret (v := .agg #[.int .i64 rc, .slice (some ⟨w.heap.size + 1 + 1 + 1, 0, none⟩) hs.length hs.length, .string rb]) (by simp [results, Tryd.results20, go_sem, hc]) rfl ⟨⟨_, rfl, ?_, by omega⟩, ?_⟩
  · have h6 := ((((hd'.store ⟨w.heap.size + 1 + 1, 1, none⟩ (Value.slice (some ⟨w.heap.size + 1 + 1 + 1, 0, none⟩) hs.length hs.length) (by simp)).store ⟨w.heap.size + 1 + 1, 2, none⟩ (Value.string rb) (by simp)).store ⟨w.heap.size + 1, 0, none⟩ (Value.int .i64 rc) (by simp)).store ⟨w.heap.size + 1, 1, none⟩ (Value.slice (some ⟨w.heap.size + 1 + 1 + 1, 0, none⟩) hs.length hs.length) (by simp)).store ⟨w.heap.size + 1, 2, none⟩ (Value.string rb) (by simp)
    exact h6
  · exact ((((HB1.out.setCell (by simp; omega) _).setCell (by simp; omega) _).setCell (by simp) _).setCell (by simp) _).setCell (by simp) _

set_option maxHeartbeats 400000 in
theorem markResp_any (g cap : Nat) (r : Rs) (w : World) (h : RowH w g r.hs) (hn : r.hs.length ≤ 1048576) :
    Calls Tryd.prog 23 #[.agg #[.int .i64 r.c, .slice (some ⟨g, 0, none⟩) r.hs.length cap, .string r.b], .int .i64 1] w fun e w' => e = .returned (.int .i64 (1 + (r.hs.length : Int) * 2)) ∧ w.grownBy w' (some g) := by
  have hr := (h.of (w' := w.alloc (Obj.cells #[.int .i64 r.c, .slice (some ⟨g, 0, none⟩) r.hs.length cap, .string r.b] 46)) (by simp) (((Below.refl w.heap.size w).alloc (Nat.le_refl _) _).block g h.1)).row
  have hM := markHeadS_any g r.hs.length cap _ hr hn
  have hg0 : w.grownBy (w.alloc (Obj.cells #[.int .i64 r.c, .slice (some ⟨g, 0, none⟩) r.hs.length cap, .string r.b] 46)) (some g) := grownG_next (grownG_refl w g) ((Below.refl w.heap.size w).alloc (Nat.le_refl _) _)
  have HG0 := hide hg0
  clear hg0 hr
  go_enter Tryd.func23, Tryd.ntmps23
  go_wp2_with fail
  refine hM.mono ?_
  rintro e w1 ⟨rfl, g1⟩
  have G1 := hide g1
  clear hM g1
  go_wp2
  go_ret
  exact ⟨rfl, ⟨G1.out.os.trans HG0.out.os, G1.out.tape.trans HG0.out.tape, G1.out.output.trans HG0.out.output, Nat.le_trans HG0.out.size G1.out.size, fun k hk hne => (G1.out.block k (Nat.lt_of_lt_of_le hk HG0.out.size) hne).trans (HG0.out.block k hk hne)⟩⟩
end Go.Proofs.YtnoijfnpchihoabDoor
