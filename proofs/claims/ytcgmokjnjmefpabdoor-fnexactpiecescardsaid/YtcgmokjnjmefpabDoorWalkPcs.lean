/-
  The walk of the law FnExactPieces: for every text it returns true, and turns nothing that was there.
-/
import Derived.Test.YtcgmokjnjmefpabDoorSpecPieces
import Derived.Test.YtcgmokjnjmefpabDoorPieces
import Derived.Test.YtcgmokjnjmefpabDoorMarkPieces
import Derived.Test.YtcgmokjnjmefpabDoorEqPieces
namespace Go.Proofs.YtcgmokjnjmefpabDoor
open Go.RowKit M
set_option linter.unusedVariables false

theorem OwnP.rowC {w : World} {B : Nat} {v : Value} {ps : List Pce} (h : OwnP w B v ps) (h0 : ps.length ≠ 0) : ∃ g cap, v = .slice (some ⟨g, 0, none⟩) ps.length cap ∧ B ≤ g ∧ RowC w g (ps.length * 5) := by
  have h' := h
  rcases h.2 with ⟨e, e0⟩ | ⟨g, cap, cur, e, hB, hh, h1, h2, h3, h4⟩
  · exact absurd e0 h0
  · subst e
    refine ⟨g, cap, rfl, hB, (Array.getElem?_eq_some_iff.1 hh).1, fun j hj => ⟨?_, Lib.frozen_of_heap hh j⟩⟩
    have hl := pcCells_length ps
    have hown : w.ownsRow B 42 5 (.slice (some ⟨g, 0, none⟩) ps.length cap) ps.length (pcCells ps) := h'
    have hjl : j < (pcCells ps).length := by omega
    exact ⟨(pcCells ps)[j], by rw [hown.cellAt j hj]; exact List.getElem?_eq_getElem hjl⟩

set_option maxRecDepth 100000 in
set_option maxHeartbeats 4000000 in
theorem FnExactPieces_walk (s : ByteArray) (hs : s.size ≤ maxLen) (w : World) (_hL : laidMet Tryd.prog Rows.fnExactPiecesRow.laid w) :
    Calls Tryd.prog 4 #[.string s] w fun e w' => e = .returned (.bool true) ∧ Below w.heap.size w w' := by
  clear _hL
  have hs' := hs
  unfold maxLen at hs'
  by_cases hb : (1048576 : Int) < s.size
  · go_enter Tryd.func4, Tryd.ntmps4
    go_wp2
    go_ret
    exact ⟨rfl, Below.refl _ _⟩
  · have HS := hide (fun W : World => specPieces_any s W (by omega))
    have HI := hide (fun W : World => pieces_any s W (by omega))
    have h60 : (pcsR s.data.toList).1.length ≤ 60 := by
      unfold pcsR
      split
      · split
        · split
          · assumption
          · exact Nat.zero_le _
        · exact Nat.zero_le _
      · exact Nat.zero_le _
    obtain ⟨ps, bo, hx⟩ : ∃ ps bo, pcsR s.data.toList = (ps, bo) := ⟨_, _, rfl⟩
    rw [hx] at HS HI h60
    have hn60 : ps.length ≤ 60 := h60
    clear hx h60
    go_enter Tryd.func4, Tryd.ntmps4
    go_wp2_with fail
    refine (HS.out _).mono ?_
    rintro e w1 ⟨⟨vs, rfl, o1⟩, b1⟩
    obtain ⟨a1, cs, rfl, y1⟩ := o1.pcs
    have Y1 := hide y1
    have B1 := hide b1
    clear o1 y1 b1 HS
    go_wp2_with fail
    refine (HI.out _).mono ?_
    rintro e w2 ⟨⟨vg, rfl, o2⟩, b2⟩
    obtain ⟨ag, cg, rfl, y2⟩ := o2.pcs
    have Y2 := hide y2
    have B2 := hide b2
    have O2 := hide o2
    clear o2 y2 b2
    go_wp2_with fail
    refine (eqPieceS_same ag a1 ps cg cs w2.heap.size w1.heap.size w2 Y2.out (Y1.out.below B2.out (Nat.le_refl _)) (Nat.le_refl _) B2.out.size (by unfold maxLen; omega)).mono ?_
    rintro e w3 ⟨rfl, b3⟩
    have O3 := hide (O2.out.next b3)
    have B3 := hide (B2.out.trans (b3.mono B2.out.size))
    clear b3 O2 Y2 B2
    by_cases h0 : ps.length = 0
    · obtain rfl := List.eq_nil_of_length_eq_zero h0
      clear O3
      go_wp2_with fail
      refine (markPieceS_none ag cg w3).mono ?_
      rintro e w4 ⟨rfl, hw4⟩
      obtain rfl := hw4.symm
      go_wp2_with fail
      refine (heldPieceS_none ag cg w3).mono ?_
      rintro e w4 ⟨rfl, hw4⟩
      obtain rfl := hw4.symm
      go_wp2_with fail
      refine (HI.out _).mono ?_
      rintro e w5 ⟨⟨vh, rfl, o5⟩, b5⟩
      obtain ⟨ah, ch, rfl, y5⟩ := o5.pcs
      have Y5 := hide y5
      have B5 := hide (B3.out.trans (b5.mono B3.out.size))
      clear o5 y5 b5 B3
      go_wp2_with fail
      refine (eqPieceS_same ah a1 [] ch cs w5.heap.size w1.heap.size w5 Y5.out (Y1.out.below B5.out (Nat.le_refl _)) (Nat.le_refl _) B5.out.size (by decide)).mono ?_
      rintro e w6 ⟨rfl, b6⟩
      have B6 := hide (B5.out.trans (b6.mono B5.out.size))
      clear b6 B5 Y5
      go_wp2_with fail
      refine (heldPieceS_none ag cg w6).mono ?_
      rintro e w7 ⟨rfl, hw7⟩
      obtain rfl := hw7.symm
      go_wp2
      go_ret
      exact ⟨rfl, B1.out.trans (B6.out.mono B1.out.size)⟩
    · obtain ⟨g, cap, hv, hgB, hrow⟩ := O3.out.rowC h0
      obtain ⟨rfl, rfl⟩ : ag = some ⟨g, 0, none⟩ ∧ cg = cap := by cases hv; exact ⟨rfl, rfl⟩
      have R3 := hide hrow
      clear O3 hv hrow
      go_wp2_with fail
      refine (markPieceS_marks g ps.length cg w3 R3.out (by omega)).mono ?_
      rintro e w4 ⟨rfl, ⟨hg4, m4⟩, gr4⟩
      have B4 : Hid (Below w1.heap.size w1 w4) := B3.out.trans ⟨gr4.os, gr4.tape, gr4.output, gr4.size, fun k hk => gr4.block k (by have := B3.out.size; omega) (by simp; omega)⟩
      have M4 := hide m4
      clear gr4 m4 R3 B3
      go_wp2_with fail
      refine (heldPieceS_any g ps.length cg (by omega) w4 hg4 M4.out).mono ?_
      rintro e w5 ⟨rfl, b5⟩
      have B5 := hide (B4.out.trans (b5.mono B4.out.size))
      have M5 := hide (M4.out.next hg4 b5)
      have hg5 : g < w5.heap.size := Nat.lt_of_lt_of_le hg4 b5.size
      clear b5 B4 M4
      go_wp2_with fail
      refine (HI.out _).mono ?_
      rintro e w6 ⟨⟨vh, rfl, o6⟩, b6⟩
      obtain ⟨ah, ch, rfl, y6⟩ := o6.pcs
      have Y6 := hide y6
      have B6 := hide (B5.out.trans (b6.mono B5.out.size))
      have M6 := hide (M5.out.next hg5 b6)
      have hg6 : g < w6.heap.size := Nat.lt_of_lt_of_le hg5 b6.size
      clear o6 y6 b6 B5 M5
      go_wp2_with fail
      refine (eqPieceS_same ah a1 ps ch cs w6.heap.size w1.heap.size w6 Y6.out (Y1.out.below B6.out (Nat.le_refl _)) (Nat.le_refl _) B6.out.size (by unfold maxLen; omega)).mono ?_
      rintro e w7 ⟨rfl, b7⟩
      have B7 := hide (B6.out.trans (b7.mono B6.out.size))
      have M7 := hide (M6.out.next hg6 b7)
      have hg7 : g < w7.heap.size := Nat.lt_of_lt_of_le hg6 b7.size
      clear b7 B6 Y6 M6
      go_wp2_with fail
      refine (heldPieceS_any g ps.length cg (by omega) w7 hg7 M7.out).mono ?_
      rintro e w8 ⟨rfl, b8⟩
      have B8 := hide (B7.out.trans (b8.mono B7.out.size))
      clear b8 B7
      go_wp2
      go_ret
      exact ⟨rfl, B1.out.trans (B8.out.mono B1.out.size)⟩
end Go.Proofs.YtcgmokjnjmefpabDoor
