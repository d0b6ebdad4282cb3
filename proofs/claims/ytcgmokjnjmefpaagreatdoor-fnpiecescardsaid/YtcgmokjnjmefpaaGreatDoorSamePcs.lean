/-
  Two slices of pieces that hold the same, held against each other by the laws; the draw of a piece, bent or not.
-/
import Derived.Test.YtcgmokjnjmefpaaGreatDoorDrawPcs
import Derived.Deep.RegionHeld3
namespace Go.Proofs.YtcgmokjnjmefpaaGreatDoor
open Go.RowKit M
set_option linter.unusedVariables false

set_option maxRecDepth 100000 in
set_option maxHeartbeats 2000000 in
theorem samePieces_same (a b : Option Addr) (ps : List Pce) (cap cap' B C : Nat) (w : World) (h : Pcs w B a ps) (h' : Pcs w C b ps) (hl : ps.length ≤ maxLen) :
    Calls Tryz.prog 39 #[.slice a ps.length cap, .slice b ps.length cap'] w fun e w' => e = .returned (.bool true) ∧ ∃ n, w' = w.drewN n := by
  unfold maxLen at hl
  go_enter Tryz.func39, Tryz.ntmps39
  go_wp2
  go_loopw [5] (fun i wr => ∃ k n : Nat, k ≤ ps.length ∧ i = .int .i64 k ∧ wr = w.drewN n) (fun i _ => ps.length - (intOf i).toNat)
  case atStart => exact ⟨0, 0, Nat.zero_le _, rfl, rfl⟩
  case round =>
    obtain ⟨k, n, hk, rfl, rfl⟩ := hrel
    by_cases hlt : k < ps.length
    · obtain ⟨b1, o1, rfl, hb1, hc1⟩ := h (by omega)
      obtain ⟨b2, o2, rfl, hb2, hc2⟩ := h' (by omega)
      obtain ⟨d0, d1, d2, d3, d4⟩ := hc1 k hlt
      obtain ⟨e0, e1, e2, e3, e4⟩ := hc2 k hlt
      obtain ⟨p, hp⟩ : ∃ p, ps[k] = p := ⟨_, rfl⟩
      rw [hp] at d0 d1 d2 d3 d4 e0 e1 e2 e3 e4
      clear hc1 hc2 hp
      go_wp2
      go_quiet (fail)
      go_wp2
      go_roundw
      case rel => exact ⟨k + 1, n + nq, by omega, by go_num, rfl⟩
      case measure => simp [intOf]; omega
    · go_wp2
      go_ret
      exact ⟨rfl, n, rfl⟩

set_option maxRecDepth 100000 in
set_option maxHeartbeats 2000000 in
theorem drawPieceText_any {w : World} {B : Nat} {a : Option Addr} {len : Nat} {zs : List Int} (h : CodeIn w B a len zs) (hB : B ≤ w.heap.size) (cap : Nat) :
    Calls Tryz.prog 38 #[.slice a len cap] w fun e w' => (∃ p : Pce, e = .returned (.agg #[.int .i64 p.k, .string p.name, .string p.ns, .bool p.has, .string p.s]) ∧ p.name.size ≤ 20 ∧ p.ns.size ≤ 20 ∧ p.s.size ≤ 20) ∧ Below w.heap.size w w' := by
  have bal : Below w.heap.size w (w.alloc (Obj.cells #[.int .i64 0, .string ⟨#[]⟩, .string ⟨#[]⟩, .bool false, .string ⟨#[]⟩] 62)) := (Below.refl _ _).alloc (Nat.le_refl _) _
  have R0 := hide (show Box5 (w.alloc (Obj.cells #[.int .i64 0, .string ⟨#[]⟩, .string ⟨#[]⟩, .bool false, .string ⟨#[]⟩] 62)) w.heap.size zeroP from Box5.made w zeroP 62)
  have HN := hide (newDX (h.below (bal.mono hB)) cap)
  have HZ0 := hide (show (w.alloc (Obj.cells #[.int .i64 0, .string ⟨#[]⟩, .string ⟨#[]⟩, .bool false, .string ⟨#[]⟩] 62)).heap.size = w.heap.size + 1 by simp)
  have HBal := hide bal
  clear h bal
  go_enter Tryz.func38, Tryz.ntmps38
  go_wp2_with fail
  refine HN.out.mono ?_
  rintro e w1 ⟨rfl, hd1, b1⟩
  have z1 := b1.size
  have R1 := hide (R0.out.same b1.size (b1.block _ R0.out.1))
  have c1 := HBal.out.trans (b1.mono (by rw [HZ0.out]; omega))
  rw [HZ0.out] at hd1 z1
  have D1 := hide hd1
  have C1 := hide c1
  have hNl := D1.out.lt
  clear hd1 b1 c1 R0 HN HBal
  rw [HZ0.out]
  clear HZ0
  go_wp2_with fail
  refine (l7Draw_any D1.out).mono ?_
  rintro e w2 ⟨⟨p, rfl, hp⟩, hd2, hg2⟩
  obtain ⟨_, _, s1, s2, s3⟩ := hp
  have hz2 := hg2.size
  have R2 := hide (R1.out.grown hg2 (by omega))
  have D2 := hide hd2
  have C2 : Hid (Below w.heap.size w w2) := C1.out.trans ⟨hg2.os, hg2.tape, hg2.output, hg2.size, fun k hk => hg2.block k (by omega) (by simp; omega)⟩
  clear hd2 hg2 D1 C1 R1
  have P3 := hide (Box5.made w2 p 62)
  have R3 := hide (R2.out.alloc (Obj.cells #[.int .i64 p.k, .string p.name, .string p.ns, .bool p.has, .string p.s] 62))
  have D3 := hide (D2.out.alloc (Obj.cells #[.int .i64 p.k, .string p.name, .string p.ns, .bool p.has, .string p.s] 62))
  have C3 := hide (C2.out.alloc C2.out.size (Obj.cells #[.int .i64 p.k, .string p.name, .string p.ns, .bool p.has, .string p.s] 62))
  go_wp2_with fail
  refine (onceX7 D3.out 4 (by decide) (by decide)).mono ?_
  rintro e w4 ⟨⟨b, rfl⟩, hd4, hg4⟩
  have hz4 : w2.heap.size + 1 ≤ w4.heap.size := by have := hg4.size; simp at this; omega
  have P4 := hide (P3.out.grown hg4 (by omega))
  have R4 := hide (R3.out.grown hg4 (by omega))
  have D4 := hide hd4
  have C4 : Hid (Below w.heap.size w w4) := C3.out.trans ⟨hg4.os, hg4.tape, hg4.output, hg4.size, fun k hk => hg4.block k (by simp; omega) (by simp; omega)⟩
  clear hd4 hg4 D3 C3 R3 P3 D2 C2 R2
  cases b
  · obtain ⟨hPl, fp, p0, p1, p2, p3, p4⟩ := P4.out
    obtain ⟨hRl, fr, r0, r1, r2, r3, r4⟩ : w.heap.size < w4.heap.size ∧ (∀ i, w4.frozen? ⟨w.heap.size, i, none⟩ = false) ∧ w4.cell? ⟨w.heap.size, 0, none⟩ = some (.int .i64 0) ∧ w4.cell? ⟨w.heap.size, 1, none⟩ = some (.string ⟨#[]⟩) ∧ w4.cell? ⟨w.heap.size, 2, none⟩ = some (.string ⟨#[]⟩) ∧ w4.cell? ⟨w.heap.size, 3, none⟩ = some (.bool false) ∧ w4.cell? ⟨w.heap.size, 4, none⟩ = some (.string ⟨#[]⟩) := R4.out
    go_wp2
    refine bodyPost_ret (v := .agg #[.int .i64 p.k, .string p.name, .string p.ns, .bool p.has, .string p.s]) (by simp [results, Tryz.results38, go_sem, r0, r1, r2, r3, r4]) rfl ⟨⟨p, rfl, s1, s2, s3⟩, ?_⟩
    exact below_sets5 C4.out _ (Nat.le_refl _) _ _ _ _ _
  · go_wp2_with fail
    refine (l1BelowX D4.out 6 (by decide) (by decide)).mono ?_
    rintro e w5 ⟨⟨k, rfl, hk⟩, hd5, hg5⟩
    have P5 := hide (P4.out.grown hg5 (by omega))
    have R5 := hide (R4.out.grown hg5 (by omega))
    have C5 : Hid (Below w.heap.size w w5) := C4.out.trans ⟨hg5.os, hg5.tape, hg5.output, hg5.size, fun k hk => hg5.block k (by omega) (by simp; omega)⟩
    clear hd5 hg5 D4 C4 R4 P4
    obtain ⟨hPl, fp, p0, p1, p2, p3, p4⟩ := P5.out
    obtain ⟨hRl, fr, r0, r1, r2, r3, r4⟩ : w.heap.size < w5.heap.size ∧ (∀ i, w5.frozen? ⟨w.heap.size, i, none⟩ = false) ∧ w5.cell? ⟨w.heap.size, 0, none⟩ = some (.int .i64 0) ∧ w5.cell? ⟨w.heap.size, 1, none⟩ = some (.string ⟨#[]⟩) ∧ w5.cell? ⟨w.heap.size, 2, none⟩ = some (.string ⟨#[]⟩) ∧ w5.cell? ⟨w.heap.size, 3, none⟩ = some (.bool false) ∧ w5.cell? ⟨w.heap.size, 4, none⟩ = some (.string ⟨#[]⟩) := R5.out
    go_wp2
    refine bodyPost_ret (v := .agg #[.int .i64 k, .string p.name, .string p.ns, .bool p.has, .string p.s]) (by simp [results, Tryz.results38, go_sem, r0, r1, r2, r3, r4]) rfl ⟨⟨⟨k, p.name, p.ns, p.has, p.s⟩, rfl, s1, s2, s3⟩, ?_⟩
    exact below_sets5 (C5.out.setCell (p := ⟨w2.heap.size, 0, none⟩) (by simp; omega) _) _ (Nat.le_refl _) _ _ _ _ _
end Go.Proofs.YtcgmokjnjmefpaaGreatDoor
