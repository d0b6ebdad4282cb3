/-
  The walk of the law FnExactPieceText: for every piece it returns true, and turns nothing that was there.
-/
import Derived.Test.YtcgmokjnjmefpabSpecPieceText
import Derived.Test.YtcgmokjnjmefpabPieceText
import Derived.Test.YtcgmokjnjmefpabLawPiece
import Derived.Test.YtcgmokjnjmefpabIsPiece
namespace Go.Proofs.Ytcgmokjnjmefpab
open Go.RowKit M
set_option linter.unusedVariables false

set_option maxRecDepth 100000 in
set_option maxHeartbeats 2000000 in
theorem FnExactPieceText_walk (p : Pce) (hp : ShortP p) (w : World) :
    Calls Try.prog 3 #[.agg #[.int .i64 p.k, .string p.name, .string p.ns, .bool p.has, .string p.s]] w fun e w' => e = .returned (.bool true) ∧ Below w.heap.size w w' := by
  obtain ⟨h1, h2, h3⟩ := hp
  have HZ := hide (fun W : World => szPiece_any p 1048576 W h1 h2 h3 (Nat.le_refl _))
  have HT := hide (fun W : World => toPiece_any p W)
  have HS := hide (fun (q1 : p.name.size ≤ 1099511627776) (q2 : p.ns.size ≤ 1099511627776) (q3 : p.s.size ≤ 1099511627776) (W : World) => specPieceText_any p W q1 q2 q3)
  have HI := hide (fun (q : FitP p) (W : World) => pieceText_any p W q)
  obtain ⟨x, hx⟩ : ∃ x, bytesOf (markT p) = x := ⟨_, rfl⟩
  rw [hx] at HS HI
  clear hx
  have bal : Below w.heap.size w (w.alloc (Obj.cells #[.int .i64 p.k, .string p.name, .string p.ns, .bool p.has, .string p.s] 23)) := (Below.refl _ _).alloc (Nat.le_refl _) _
  have cells : ∀ w1, Below (w.alloc (Obj.cells #[.int .i64 p.k, .string p.name, .string p.ns, .bool p.has, .string p.s] 23)).heap.size (w.alloc (Obj.cells #[.int .i64 p.k, .string p.name, .string p.ns, .bool p.has, .string p.s] 23)) w1 →
      w1.cell? ⟨w.heap.size, 0, none⟩ = some (.int .i64 p.k) ∧ w1.cell? ⟨w.heap.size, 1, none⟩ = some (.string p.name) ∧ w1.cell? ⟨w.heap.size, 2, none⟩ = some (.string p.ns) ∧ w1.cell? ⟨w.heap.size, 3, none⟩ = some (.bool p.has) ∧ w1.cell? ⟨w.heap.size, 4, none⟩ = some (.string p.s) := fun w1 hb =>
    ⟨(hb.cell (p := ⟨w.heap.size, 0, none⟩) (by simp)).trans (by simp), (hb.cell (p := ⟨w.heap.size, 1, none⟩) (by simp)).trans (by simp), (hb.cell (p := ⟨w.heap.size, 2, none⟩) (by simp)).trans (by simp), (hb.cell (p := ⟨w.heap.size, 3, none⟩) (by simp)).trans (by simp), (hb.cell (p := ⟨w.heap.size, 4, none⟩) (by simp)).trans (by simp)⟩
  have HC := hide cells
  have HBal := hide bal
  clear cells bal
  obtain ⟨w0, hw0⟩ : ∃ w0, w.alloc (Obj.cells #[.int .i64 p.k, .string p.name, .string p.ns, .bool p.has, .string p.s] 23) = w0 := ⟨_, rfl⟩
  rw [hw0] at HC HBal
  obtain ⟨x0, x1, x2, x3, x4⟩ := HC.out w0 (Below.refl _ _)
  go_enter Try.func3, Try.ntmps3
  go_wp2_with fail
  refine (HZ.out _).mono ?_
  rintro e w1 ⟨⟨z, rfl, hz⟩, b1⟩
  clear x0 x1 x2 x3 x4
  have B1 := hide b1
  clear b1
  rcases hz with hz | hz
  · go_wp2
    go_ret
    exact ⟨rfl, HBal.out.trans (B1.out.mono HBal.out.size)⟩
  · by_cases hz0 : z < 0
    · go_wp2
      go_ret
      exact ⟨rfl, HBal.out.trans (B1.out.mono HBal.out.size)⟩
    · obtain ⟨x0, x1, x2, x3, x4⟩ := HC.out w1 B1.out
      have HS2 := hide (HS.out (by omega) (by omega) (by omega))
      have HI2 := hide (HI.out ⟨by omega, by omega, by omega⟩)
      clear HS HI
      go_wp2_with fail
      refine (HT.out _).mono ?_
      rintro e w2 ⟨rfl, b2⟩
      have B2 := hide (B1.out.trans (b2.mono B1.out.size))
      clear b2 B1 x0 x1 x2 x3 x4
      go_wp2_with fail
      refine (HS2.out _).mono ?_
      rintro e w3 ⟨rfl, b3⟩
      have B3 := hide (B2.out.trans (b3.mono B2.out.size))
      clear b3 B2
      obtain ⟨x0, x1, x2, x3, x4⟩ := HC.out w3 B3.out
      go_wp2_with fail
      refine (HT.out _).mono ?_
      rintro e w4 ⟨rfl, b4⟩
      have B4 := hide (B3.out.trans (b4.mono B3.out.size))
      clear b4 B3 x0 x1 x2 x3 x4
      go_wp2_with fail
      refine (HI2.out _).mono ?_
      rintro e w5 ⟨rfl, b5⟩
      have B5 := hide (B4.out.trans (b5.mono B4.out.size))
      clear b5 B4
      go_wp2
      go_ret
      exact ⟨rfl, HBal.out.trans (B5.out.mono HBal.out.size)⟩
end Go.Proofs.Ytcgmokjnjmefpab
