/-
  The walk of the law FnExactPutChunks: for every body and sizes it returns true, and turns nothing that was there.
-/
import Derived.Test.YthicgbocgdijlaaDoorPutChunks
import Derived.Test.YthicgbocgdijlaaDoorSpecPutC
import Derived.Test.YthicgbocgdijlaaDoorMarkByts
import Derived.Test.YthicgbocgdijlaaDoorMarkInts
import Derived.Test.YthicgbocgdijlaaDoorIsInts
import Derived.Deep.RegionHeld3
namespace Go.Proofs.YthicgbocgdijlaaDoor
open Go.RowKit M
set_option linter.unusedVariables false

theorem belowG2 {w w' : World} {g C : Nat} (h : w.grownBy w' (some g)) (hC : C ≤ g) (hg : g < w.heap.size) : Below C w w' :=
  ⟨h.os, h.tape, h.output, h.size, fun k hk => h.block k (by omega) (fun e => by have := Option.some.inj e; omega)⟩
theorem putCs_len (ns : List Int) (b : ByteArray) : (putCs ns b.data.toList).length ≤ 21 * b.size + 5 := by
  have h1 := pcsTxt_len ns b.data.toList
  have e : b.data.toList.length = b.size := Array.length_toList
  unfold putCs
  rw [List.length_append, chTxt_nil]
  simp only [List.length_cons, List.length_nil]
  omega

set_option maxRecDepth 100000 in
set_option maxHeartbeats 4000000 in
theorem FnExactPutChunks_walk (s : ByteArray) (hs : s.size ≤ maxLen) (a : Option Addr) (len cap : Nat) (zs : List Int) (w : World) (h : IsRow .i64 w a len cap zs) (hL : laidMet Tryd.prog Rows.fnExactPutChunksRow.laid w) :
    Calls Tryd.prog 4 #[.string s, .slice a len cap] w fun e w' => e = .returned (.bool true) ∧ Below w.heap.size w w' := by
  have ht : DeTab w := deTab_of hL.tail
  have HDe := hide ht
  clear ht hL
  unfold maxLen at hs
  obtain ⟨l, rfl, hI, hlc, hcm⟩ := ints_of_row h
  unfold maxLen at hcm
  clear h
  have HI := hide hI
  clear hI
  by_cases h1 : s.size ≤ 1048576
  · by_cases h2 : l.length ≤ 1048576
    · have h1' : ¬ ((1048576 : Int) < s.size) := by omega
      have h2' : ¬ ((1048576 : Int) < l.length) := by omega
      have hl1 : l.length ≤ 1073741824 := by omega
      have hlm : l.length ≤ maxLen := by unfold maxLen; omega
      have hTo := fun (W : World) (hc : Below w.heap.size w W) => toIntS_any a l cap w.heap.size W (HI.out.below hc (Nat.le_refl _)) hc.size h2
      have HTo := hide hTo
      obtain ⟨P, hP⟩ : ∃ P, putCs l s.data.toList = P := ⟨_, rfl⟩
      have hPl : P.length ≤ 33554432 := by rw [← hP]; have := putCs_len l s; omega
      have hPm : P.length ≤ maxLen := by unfold maxLen; omega
      have HSP := hide (fun (g cap B : Nat) (W : World) (h : Ints W B (some ⟨g, 0, none⟩) l) (hB : B ≤ W.heap.size) => specPutChunks_any s (some ⟨g, 0, none⟩) l cap B W h hB h1 hl1)
      have HPC := hide (fun (g cap B : Nat) (W : World) (h : Ints W B (some ⟨g, 0, none⟩) l) (hB : B ≤ W.heap.size) (hc : Below w.heap.size w W) => putChunks_any s (some ⟨g, 0, none⟩) l cap B W h hB h1 hl1 (HDe.out.below hc))
      rw [hP] at HSP HPC
      clear hP hTo
      go_enter Tryd.func4, Tryd.ntmps4
      go_wp2_with fail
      refine (HTo.out w (Below.refl _ _)).mono ?_
      rintro e w1 ⟨rfl, n1, c1, z1⟩
      have i1 := n1.ints z1
      clear n1
      go_wp2_with fail
      refine (HSP.out _ _ _ w1 i1 (Nat.le_refl _)).mono ?_
      rintro e w2 ⟨⟨gw, cw, rfl, y2⟩, b2⟩
      have c2 := c1.trans (b2.mono c1.size)
      have Y2 := hide y2
      clear i1 y2 b2 HSP z1 c1
      go_wp2_with fail
      refine (HTo.out w2 c2).mono ?_
      rintro e w3 ⟨rfl, n3, b3, z3⟩
      have c3 := c2.trans (b3.mono c2.size)
      have N3 := hide n3
      go_wp2_with fail
      refine (HPC.out _ _ w3.heap.size w3 (n3.ints z3) (Nat.le_refl _) c3).mono ?_
      rintro e w4 ⟨⟨v4, rfl, o4⟩, b4⟩
      have c4 := c3.trans (b4.mono c3.size)
      have d4 := b3.trans (b4.mono b3.size)
      have N4 := hide (N3.out.next b4)
      have O4 := hide o4
      have z4 : w2.heap.size < w4.heap.size := Nat.lt_of_lt_of_le z3 b4.size
      obtain ⟨g4, k4, rfl, hg4, hl4, hk4, hk4m, y4⟩ := o4.byt
      clear o4 n3 N3 b4
      go_wp2_with fail
      refine (eqByteS_any _ _ P P _ _ _ _ w4 y4 (Y2.out.below d4 (Nat.le_refl _)) hPm hPm).mono ?_
      rintro e w5 ⟨rfl, b5⟩
      rw [sameY_refl]
      have c5 := c4.trans (b5 _)
      have d5 := d4.trans (b5 _)
      have N5 := hide (N4.out.next (b5 _))
      have O5 := hide (O4.out.next (b5 _))
      have z5 : w2.heap.size < w5.heap.size := Nat.lt_of_lt_of_le z4 (b5 0).size
      clear b5 y4 N4 O4 z4
      go_wp2_with fail
      refine (HTo.out w5 c5).mono ?_
      rintro e w6 ⟨rfl, n6, b6, z6⟩
      have c6 := c5.trans (b6.mono c5.size)
      have d6 := d5.trans (b6.mono d5.size)
      have N6 := hide (N5.out.next b6)
      have O6 := hide (O5.out.next b6)
      have I6 := hide (n6.ints z6)
      clear n6 b6 N5 O5 z5
      go_wp2_with fail
      refine (eqIntS_any _ _ l l _ _ _ _ w6 (N6.out.ints (Nat.lt_succ_self _)) I6.out hlm hlm).mono ?_
      rintro e w7 ⟨rfl, b7⟩
      rw [sameI_refl]
      have c7 := c6.trans (b7 _)
      have d7 := d6.trans (b7 _)
      have N7 := hide (N6.out.next (b7 _))
      have O7 := hide (O6.out.next (b7 _))
      clear b7 N6 O6 I6 z6
      go_wp2_with fail
      refine (markIntS_any w2.heap.size l.length l.length w7 N7.out.row hl1 1 (by decide)).mono ?_
      rintro e w8 ⟨rfl, g8⟩
      have lt7 : w2.heap.size < w7.heap.size := World.rowIs.lt N7.out
      have c8 := c7.trans (belowG2 g8 c2.size lt7)
      have d8 := d7.trans (belowG2 g8 (Nat.le_refl _) lt7)
      have O8 := hide (O7.out.kept g8 (fun k e e' => by have h8 := O7.out.lt k e; have := Option.some.inj e'; omega))
      obtain ⟨g8', k8', hv8, _, _, _, _, y8⟩ := O8.out.byt
      cases hv8
      have Y8 := hide y8
      have hnn : ¬ (((1 + l.length : Nat) : Int) < 0) := by omega
      clear g8 N7 O7 y8
      go_wp2_with fail
      refine (eqByteS_any _ _ P P _ _ _ _ w8 Y8.out (Y2.out.below d8 (Nat.le_refl _)) hPm hPm).mono ?_
      rintro e w9 ⟨rfl, b9⟩
      rw [sameY_refl]
      have c9 := c8.trans (b9 _)
      have d9 := d8.trans (b9 _)
      obtain ⟨g9', k9', hv9, _, r9⟩ := (O8.out.next (b9 _)).row
      cases hv9
      have R9 := hide r9
      clear b9 Y8 O8 r9
      go_wp2_with fail
      refine (markByteS_any g4 P.length k4 w9 R9.out (by omega)).mono ?_
      rintro e wa ⟨rfl, ga, ma⟩
      have ca := c9.trans (belowG2 ga (Nat.le_trans c3.size hg4) R9.out.1)
      have da := d9.trans (belowG2 ga (Nat.le_trans b3.size hg4) R9.out.1)
      have MA := hide ma
      clear ga ma R9
      go_wp2_with fail
      refine (heldByteS_any g4 P.length k4 wa MA.out (by omega)).mono ?_
      rintro e wb ⟨rfl, bb⟩
      have cb := ca.trans (bb _)
      have db := da.trans (bb _)
      have MB := hide (MA.out.next (bb _))
      clear bb MA
      have hn2 : ¬ (1 + (P.length : Int) < 0) := by omega
      go_wp2_with fail
      refine (HTo.out wb cb).mono ?_
      rintro e wc ⟨rfl, nc, bc, zc⟩
      have cc := cb.trans (bc.mono cb.size)
      have dc := db.trans (bc.mono db.size)
      have MC := hide (MB.out.next bc)
      have IC := hide (nc.ints zc)
      clear nc bc MB zc
      go_wp2_with fail
      refine (HPC.out _ _ _ wc IC.out (Nat.le_refl _) cc).mono ?_
      rintro e wd ⟨⟨vd, rfl, od⟩, bd⟩
      have cd := cc.trans (bd.mono cc.size)
      have dd := dc.trans (bd.mono dc.size)
      have MD := hide (MC.out.next bd)
      obtain ⟨gd, kd, rfl, _, _, _, _, yd⟩ := od.byt
      clear od bd MC IC
      go_wp2_with fail
      refine (eqByteS_any _ _ P P _ _ _ _ wd yd (Y2.out.below dd (Nat.le_refl _)) hPm hPm).mono ?_
      rintro e we ⟨rfl, be⟩
      rw [sameY_refl]
      have ce := cd.trans (be _)
      have ME := hide (MD.out.next (be _))
      clear be yd MD
      go_wp2_with fail
      refine (heldByteS_any g4 P.length k4 we ME.out (by omega)).mono ?_
      rintro e wf ⟨rfl, bf⟩
      have cf := ce.trans (bf _)
      clear bf ME
      go_wp2
      go_ret
      exact ⟨rfl, cf⟩
    · have h1' : ¬ ((1048576 : Int) < s.size) := by omega
      have h2' : (1048576 : Int) < l.length := by omega
      go_enter Tryd.func4, Tryd.ntmps4
      go_wp2
      go_ret
      exact ⟨rfl, Below.refl _ _⟩
  · have h1' : (1048576 : Int) < s.size := by omega
    go_enter Tryd.func4, Tryd.ntmps4
    go_wp2
    go_ret
    exact ⟨rfl, Below.refl _ _⟩
end Go.Proofs.YthicgbocgdijlaaDoor
