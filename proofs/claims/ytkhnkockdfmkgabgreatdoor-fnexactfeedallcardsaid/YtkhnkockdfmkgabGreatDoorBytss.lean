/-
  Slices of slices of bytes: what they hold; what the laws' own helps on them do.
-/
import Derived.Test.YtkhnkockdfmkgabGreatDoorLawByts
import Derived.Test.YtkhnkockdfmkgabGreatDoorSpecVal
import Derived.Deep.RegionHeld3
namespace Go.Proofs.YtkhnkockdfmkgabGreatDoor
open Go.RowKit
set_option linter.unusedVariables false

/-- The rows of bytes that a slice of slices holds, all in blocks below B. -/
def Bss (w : World) (B : Nat) (a : Option Addr) (ls : List (List UInt8)) : Prop :=
  0 < ls.length → ∃ b o, a = some ⟨b, o, none⟩ ∧ b < B ∧ ∀ j (hj : j < ls.length), ∃ aj cj, w.cell? ⟨b, o + j, none⟩ = some (.slice aj ls[j].length cj) ∧ Byt w B aj ls[j] ∧ ls[j].length ≤ cj ∧ cj ≤ maxLen
theorem Bss.below {w w' : World} {B C : Nat} {a : Option Addr} {ls : List (List UInt8)} (h : Bss w B a ls) (hb : Below C w w') (hB : B ≤ C) : Bss w' B a ls := fun h0 => by
  obtain ⟨b, o, e, hbB, hc⟩ := h h0
  refine ⟨b, o, e, hbB, fun j hj => ?_⟩
  obtain ⟨aj, cj, h1, h2, h3⟩ := hc j hj
  exact ⟨aj, cj, (hb.cell (p := ⟨b, o + j, none⟩) (Nat.lt_of_lt_of_le hbB hB)).trans h1, h2.below hb hB, h3⟩
theorem Bss.mono {w : World} {B C : Nat} {a : Option Addr} {ls : List (List UInt8)} (h : Bss w B a ls) (hB : B ≤ C) : Bss w C a ls := fun h0 => by
  obtain ⟨b, o, e, hbB, hc⟩ := h h0
  refine ⟨b, o, e, Nat.lt_of_lt_of_le hbB hB, fun j hj => ?_⟩
  obtain ⟨aj, cj, h1, h2, h3⟩ := hc j hj
  exact ⟨aj, cj, h1, h2.mono hB, h3⟩
theorem Bss.next {w w' : World} {a : Option Addr} {ls : List (List UInt8)} (h : Bss w w.heap.size a ls) (hb : Below w.heap.size w w') : Bss w' w'.heap.size a ls := (h.below hb (Nat.le_refl _)).mono hb.size
theorem Bss.nil (w : World) (B : Nat) (a : Option Addr) : Bss w B a [] := fun h => absurd h (Nat.lt_irrefl _)

def sumB (ls : List (List UInt8)) : Nat := (ls.map List.length).sum
theorem sumB_snoc (ls : List (List UInt8)) (k : Nat) (h : k < ls.length) : sumB (ls.take (k + 1)) = sumB (ls.take k) + (ls[k]).length := by
  unfold sumB
  rw [List.take_succ_eq_append_getElem h, List.map_append, List.sum_append]
  simp
theorem sumB_all (ls : List (List UInt8)) (k : Nat) (h : ¬ k < ls.length) : sumB (ls.take k) = sumB ls := by rw [List.take_of_length_le (by omega)]
theorem sumB_le (ls : List (List UInt8)) (k : Nat) : sumB (ls.take k) ≤ sumB ls := by
  have : sumB ls = sumB (ls.take k) + sumB (ls.drop k) := by
    unfold sumB
    rw [← List.sum_append, ← List.map_append, List.take_append_drop]
  omega
theorem sumB_at (ls : List (List UInt8)) (k : Nat) (h : k < ls.length) : (ls[k]).length ≤ sumB ls := by
  have h1 := sumB_snoc ls k h
  have h2 := sumB_le ls (k + 1)
  omega
theorem sumB_flat (ls : List (List UInt8)) : ls.flatten.length = sumB ls := by simp [sumB, List.length_flatten]

set_option maxHeartbeats 400000 in
theorem szByteS_any (a : Option Addr) (n cap left : Nat) (w : World) (hl : n ≤ maxLen) (hleft : left ≤ 1048576) :
    Calls Tryz.prog 24 #[.slice a n cap, .int .i64 left] w fun e w' => (∃ z : Int, e = .returned (.int .i64 z) ∧ (z < 0 ∨ ∃ m : Nat, z = m ∧ n + m = left)) ∧ w' = w := by
  unfold maxLen at hl
  by_cases hlt0 : left < n
  · go_enter Tryz.func24, Tryz.ntmps24
    go_wp2
    go_ret
    exact ⟨⟨_, rfl, .inl (by omega)⟩, rfl⟩
  · go_enter Tryz.func24, Tryz.ntmps24
    go_wp2
    go_ret
    exact ⟨⟨_, rfl, .inr ⟨left - n, by omega, by omega⟩⟩, rfl⟩

set_option maxHeartbeats 1000000 in
theorem szByteSS_any (a : Option Addr) (ls : List (List UInt8)) (cap B left : Nat) (w : World) (h : Bss w B a ls) (hl : ls.length ≤ maxLen) (hleft : left ≤ 1048576) :
    Calls Tryz.prog 18 #[.slice a ls.length cap, .int .i64 left] w fun e w' => (∃ z : Int, e = .returned (.int .i64 z) ∧ (z < 0 ∨ ∃ m : Nat, z = m ∧ ls.length + sumB ls + m = left)) ∧ w' = w := by
  unfold maxLen at hl
  by_cases hlt0 : left < ls.length
  · go_enter Tryz.func18, Tryz.ntmps18
    go_wp2
    go_ret
    exact ⟨⟨_, rfl, .inl (by omega)⟩, rfl⟩
  · go_enter Tryz.func18, Tryz.ntmps18
    go_wp2
    go_loop [1, 5] (fun l i => ∃ k m : Nat, k ≤ ls.length ∧ i = .int .i64 k ∧ l = .int .i64 m ∧ ls.length + sumB (ls.take k) + m = left) (fun _ i => ls.length - (intOf i).toNat)
    case atStart => exact ⟨0, left - ls.length, Nat.zero_le _, rfl, by congr 1; omega, by simp [sumB]; omega⟩
    case round =>
      obtain ⟨k, m, hk, rfl, rfl, hm⟩ := hrel
      by_cases hlt : k < ls.length
      · obtain ⟨b, o, rfl, hb, hc⟩ := h (by omega)
        obtain ⟨aj, cj, hcx, hy, hlc, hcm⟩ := hc k hlt
        have HS := sumB_snoc ls k hlt
        have HSz := hide (szByteS_any aj (ls[k]).length cj m w (Nat.le_trans hlc hcm) (by omega))
        clear hc hy hlc hcm
        go_wp2_with fail
        refine HSz.out.mono ?_
        rintro e w1 ⟨⟨z, rfl, hz⟩, hw⟩
        obtain rfl := hw.symm
        rcases hz with hz | ⟨m2, rfl, hm2⟩
        · go_wp2
          go_ret
          exact ⟨⟨_, rfl, .inl (by omega)⟩, rfl⟩
        · go_wp2
          go_round
          case rel => exact ⟨k + 1, m2, by omega, by go_num, rfl, by omega⟩
          case measure => simp [intOf]; omega
      · go_wp2
        go_ret
        exact ⟨⟨m, rfl, .inr ⟨m, rfl, by rw [← sumB_all ls k hlt]; simpa [sumB_all ls k hlt] using hm⟩⟩, rfl⟩

theorem info_row : (Tryz.prog.info? 22).map (fun i => (i.zero, i.size, i.bytes)) = some (some (.slice none 0 0), 1, 24) := by kernel_rfl

/-- A new row of new rows of bytes, none of them frozen; all in blocks from N on, below hi. -/
def NewSS (w : World) (N hi : Nat) (ls : List (List UInt8)) : Prop :=
  N < hi ∧ ∃ Ns : Nat → Nat, w.rowIs N 22 ls.length (fun j => .slice (some ⟨Ns j, 0, none⟩) (ls.getD j []).length (ls.getD j []).length) ∧ ∀ j, j < ls.length → N < Ns j ∧ Ns j < hi ∧ NewB w (Ns j) (ls.getD j [])
theorem NewSS.next {w w' : World} {N hi : Nat} {ls : List (List UInt8)} (h : NewSS w N hi ls) (hb : Below w.heap.size w w') : NewSS w' N hi ls := by
  obtain ⟨h0, Ns, h1, h2⟩ := h
  exact ⟨h0, Ns, World.rowIs.of_block h1 (hb.block _ (World.rowIs.lt h1)), fun j hj => ⟨(h2 j hj).1, (h2 j hj).2.1, (h2 j hj).2.2.next hb⟩⟩
theorem NewSS.lt {w : World} {N hi : Nat} {ls : List (List UInt8)} (h : NewSS w N hi ls) : N < w.heap.size := by
  obtain ⟨h0, Ns, h1, h2⟩ := h
  exact World.rowIs.lt h1
theorem NewSS.bss {w : World} {N hi : Nat} {ls : List (List UInt8)} (h : NewSS w N hi ls) (hs : sumB ls ≤ 1048576) : Bss w w.heap.size (some ⟨N, 0, none⟩) ls := fun _ => by
  obtain ⟨h0, Ns, h1, h2⟩ := h
  refine ⟨N, 0, rfl, World.rowIs.lt h1, fun j hj => ?_⟩
  have hd : ls.getD j [] = ls[j] := by simp [List.getD, List.getElem?_eq_getElem hj]
  obtain ⟨h3, _, h4⟩ := h2 j hj
  have h5 := World.rowIs.cell h1 hj
  rw [hd] at h4 h5
  have h6 := sumB_at ls j hj
  exact ⟨some ⟨Ns j, 0, none⟩, (ls[j]).length, by rw [Nat.zero_add]; exact h5, h4.byt (World.rowIs.lt h4), Nat.le_refl _, by unfold maxLen; omega⟩

set_option maxHeartbeats 1000000 in
theorem toByteSS_any (a : Option Addr) (ls : List (List UInt8)) (cap B : Nat) (w : World) (h : Bss w B a ls) (hB : B ≤ w.heap.size) (hl : ls.length ≤ 1048576) (hs : sumB ls ≤ 1048576) :
    Calls Tryz.prog 20 #[.slice a ls.length cap] w fun e w' => e = .returned (.slice (some ⟨w.heap.size, 0, none⟩) ls.length ls.length) ∧ NewSS w' w.heap.size w'.heap.size ls ∧ Below w.heap.size w w' := by
  have hmk := run_make_row' (P := Tryz.prog) 39 22 (.slice none 0 0) 24 Tryz.underlying39 info_row rfl .i64 .i64 ls.length (by omega) (by omega) w
  go_enter Tryz.func20, Tryz.ntmps20
  go_wp2
  clear hmk
  go_loopw [4] (fun i wr => ∃ k : Nat, k ≤ ls.length ∧ i = .int .i64 k ∧ (∃ Ns : Nat → Nat, wr.rowIs w.heap.size 22 ls.length (fun j => if j < k then .slice (some ⟨Ns j, 0, none⟩) (ls.getD j []).length (ls.getD j []).length else .slice none 0 0) ∧ ∀ j, j < k → w.heap.size < Ns j ∧ NewB wr (Ns j) (ls.getD j [])) ∧ Below w.heap.size w wr) (fun i _ => ls.length - (intOf i).toNat)
  case atStart => exact ⟨0, Nat.zero_le _, rfl, ⟨fun _ => 0, (World.rowIs_made w _ _ _).congr (fun i _ => by simp), fun j hj => absurd hj (Nat.not_lt_zero _)⟩, (Below.refl _ _).alloc (Nat.le_refl _) _⟩
  case round =>
    obtain ⟨k, hk, rfl, ⟨Ns, hrow, hnew⟩, hbe⟩ := hrel
    by_cases hlt : k < ls.length
    · obtain ⟨b, o, rfl, hb, hc⟩ := h (by omega)
      obtain ⟨aj, cj, hc1, hy, hlc, hcm⟩ := hc k hlt
      have hcx := (hbe.cell (p := ⟨b, o + k, none⟩) (Nat.lt_of_lt_of_le hb hB)).trans hc1
      have hsz := sumB_at ls k hlt
      have HTo := hide (toByteS_any aj ls[k] cj B wr (hy.below hbe hB) (Nat.le_trans hB hbe.size) (by omega))
      have HRow := hide hrow
      have HNew := hide hnew
      have HBe := hide hbe
      have hd : ls.getD k [] = ls[k] := by simp [List.getD, List.getElem?_eq_getElem hlt]
      clear hc hc1 hy hlc hcm hrow hnew hbe
      go_wp2_with fail
      refine HTo.out.mono ?_
      rintro e w1 ⟨rfl, n1, b1, z1⟩
      have hrow1 := World.rowIs.of_block HRow.out (b1.block _ (World.rowIs.lt HRow.out))
      have hcn := hrow1.cell hlt
      have hfn := hrow1.frozen k
      have hNN : w.heap.size < wr.heap.size := World.rowIs.lt HRow.out
      have hrow2 := (hrow1.set k (.slice (some ⟨wr.heap.size, 0, none⟩) (ls[k]).length (ls[k]).length)).congr (g := fun j => if j < k + 1 then .slice (some ⟨if j < k then Ns j else wr.heap.size, 0, none⟩) (ls.getD j []).length (ls.getD j []).length else .slice none 0 0) (fun j hj => by
        by_cases e : j = k
        · subst e; simp [List.getElem?_eq_getElem hlt]
        · simp only [e, if_false]
          by_cases e2 : j < k
          · rw [if_pos e2, if_pos (by omega), if_pos e2]
          · rw [if_neg e2, if_neg (by omega)])
      have HR := hide hrow2
      have hnew2 : ∀ j, j < k + 1 → w.heap.size < (if j < k then Ns j else wr.heap.size) ∧ NewB (w1.setCell ⟨w.heap.size, k, none⟩ (.slice (some ⟨wr.heap.size, 0, none⟩) (ls[k]).length (ls[k]).length)) (if j < k then Ns j else wr.heap.size) (ls.getD j []) := by
        intro j hj
        by_cases e2 : j < k
        · rw [if_pos e2]
          obtain ⟨q1, q2⟩ := HNew.out j e2
          exact ⟨q1, World.rowIs.of_block (q2.next b1) (Below.heap_setCell _ _ _ _ (by show Ns j ≠ w.heap.size; omega))⟩
        · rw [if_neg e2]
          obtain rfl : j = k := by omega
          rw [hd]
          exact ⟨hNN, World.rowIs.of_block n1 (Below.heap_setCell _ _ _ _ (by show wr.heap.size ≠ w.heap.size; omega))⟩
      have HN2 := hide hnew2
      have HB2 := hide ((HBe.out.trans (b1.mono HBe.out.size)).setCell (p := ⟨w.heap.size, k, none⟩) (Nat.le_refl _) (.slice (some ⟨wr.heap.size, 0, none⟩) (ls[k]).length (ls[k]).length))
      clear hrow1 hrow2 hnew2 n1 b1 hd
      go_wp2
      go_roundw
      case rel => exact ⟨k + 1, by omega, by go_num, ⟨_, HR.out, HN2.out⟩, HB2.out⟩
      case measure => simp [intOf]; omega
    · go_wp2
      go_ret
      exact ⟨rfl, ⟨hrow.lt, Ns, hrow.congr (fun j hj => by rw [if_pos (by omega)]), fun j hj => ⟨(hnew j (by omega)).1, World.rowIs.lt (hnew j (by omega)).2, (hnew j (by omega)).2⟩⟩, hbe⟩

set_option maxHeartbeats 1000000 in
/-- Two slices of slices that hold the same. -/
theorem eqByteSS_same (a b : Option Addr) (ls : List (List UInt8)) (cap cap' B C : Nat) (w : World) (h : Bss w B a ls) (h' : Bss w C b ls) (hl : ls.length ≤ maxLen) :
    Calls Tryz.prog 22 #[.slice a ls.length cap, .slice b ls.length cap'] w fun e w' => e = .returned (.bool true) ∧ ∀ D, Below D w w' := by
  unfold maxLen at hl
  go_enter Tryz.func22, Tryz.ntmps22
  go_wp2
  go_loopw [5] (fun i wr => ∃ k : Nat, k ≤ ls.length ∧ i = .int .i64 k ∧ ∀ D, Below D w wr) (fun i _ => ls.length - (intOf i).toNat)
  case atStart => exact ⟨0, Nat.zero_le _, rfl, fun D => Below.refl _ _⟩
  case round =>
    obtain ⟨k, hk, rfl, hbe⟩ := hrel
    by_cases hlt : k < ls.length
    · obtain ⟨b1, o1, rfl, hb1, hc1⟩ := h (by omega)
      obtain ⟨b2, o2, rfl, hb2, hc2⟩ := h' (by omega)
      obtain ⟨a1, k1, d1, y1, l1, m1⟩ := hc1 k hlt
      obtain ⟨a2, k2, d2, y2, l2, m2⟩ := hc2 k hlt
      have hcx := ((hbe (b1 + 1)).cell (p := ⟨b1, o1 + k, none⟩) (Nat.lt_succ_self _)).trans d1
      have hcy := ((hbe (b2 + 1)).cell (p := ⟨b2, o2 + k, none⟩) (Nat.lt_succ_self _)).trans d2
      have HE := hide (fun (W : World) (hW : ∀ D, Below D wr W) => eqByteS_any a1 a2 ls[k] ls[k] k1 k2 B C W (y1.below ((hbe B).trans (hW B)) (Nat.le_refl _)) (y2.below ((hbe C).trans (hW C)) (Nat.le_refl _)) (Nat.le_trans l1 m1) (Nat.le_trans l1 m1))
      rw [sameY_refl] at HE
      have HBe := hide hbe
      clear hc1 hc2 d1 d2 y1 y2 l1 l2 m1 m2 hbe
      go_wp2_with fail
      go_region_held3 (fun W => W.cell? ⟨b1, o1 + k, none⟩ = some (.slice a1 (ls[k]).length k1) ∧ W.cell? ⟨b2, o2 + k, none⟩ = some (.slice a2 (ls[k]).length k2)) (first | exact ⟨hcx, hcy⟩ | exact ⟨((bq (b1 + 1)).cell (p := ⟨b1, o1 + k, none⟩) (Nat.lt_succ_self _)).trans hcx, ((bq (b2 + 1)).cell (p := ⟨b2, o2 + k, none⟩) (Nat.lt_succ_self _)).trans hcy⟩) ((go_at_call 12; refine (HE.out wr.drew (fun D => (Below.refl D wr).drew)).mono ?_; rintro e w1 ⟨rfl, bq⟩))
      go_wp2
      go_roundw
      case rel => exact ⟨k + 1, by omega, by go_num, fun D => (HBe.out D).trans ((Below.refl D wr).drew.trans (bq D))⟩
      case measure => simp [intOf]; omega
    · go_wp2
      go_ret
      exact ⟨rfl, hbe⟩
end Go.Proofs.YtkhnkockdfmkgabGreatDoor
