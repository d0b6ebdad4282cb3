/-
  The walk of the law FnExactGetChunks: for all bytes and places it returns true, and turns nothing that was there.
-/
import Derived.Test.YthicgbocgdijlaaDoorGetChunks
import Derived.Test.YthicgbocgdijlaaDoorSpecChunks
import Derived.Test.YthicgbocgdijlaaDoorLawByts
import Derived.Test.YthicgbocgdijlaaDoorIsByt
namespace Go.Proofs.YthicgbocgdijlaaDoor
open Go.RowKit M
set_option linter.unusedVariables false

set_option maxRecDepth 100000 in
set_option maxHeartbeats 4000000 in
theorem FnExactGetChunks_walk (a : Option Addr) (len cap : Nat) (zs : List Int) (n : Int) (hn : (Lit.int .i64 n).wf = true) (w : World) (h : IsRow .u8 w a len cap zs) (hL : laidMet Tryd.prog Rows.fnExactGetChunksRow.laid w) :
    Calls Tryd.prog 3 #[.slice a len cap, .int .i64 n] w fun e w' => e = .returned (.bool true) ∧ Below w.heap.size w w' := by
  clear hL hn
  obtain ⟨l, rfl, hy, hlc, hcm⟩ := byt_of_row h
  clear h
  have HY := hide hy
  clear hy
  have hcm' := hcm
  unfold maxLen at hcm'
  by_cases h2 : l.length ≤ 1048576
  · have h2' : ¬ ((1048576 : Int) < l.length) := by omega
    have hlm : l.length ≤ maxLen := by unfold maxLen; omega
    have HTo := hide (fun (W : World) (hc : Below w.heap.size w W) => toByteS_any a l cap w.heap.size W (HY.out.below hc (Nat.le_refl _)) hc.size h2)
    obtain ⟨S, hS⟩ : ∃ S, (⟨(chunksC l n).1.toArray⟩ : ByteArray) = S := ⟨_, rfl⟩
    obtain ⟨P, hP⟩ : ∃ P : Int, ((chunksC l n).2.1 : Int) = P := ⟨_, rfl⟩
    obtain ⟨C, hC⟩ : ∃ C, (chunksC l n).2.2 = C := ⟨_, rfl⟩
    have HSp := hide (fun (g : Nat) (W : World) (h : Byt W W.heap.size (some ⟨g, 0, none⟩) l) => specGetChunks_any (some ⟨g, 0, none⟩) l l.length W.heap.size n W h (by omega) (Nat.le_refl _) hlm)
    have HIm := hide (fun (g : Nat) (W : World) (h : Byt W W.heap.size (some ⟨g, 0, none⟩) l) => getChunks_any (some ⟨g, 0, none⟩) l l.length n W h h2 (Nat.le_refl _) hlm)
    rw [hS, hP, hC] at HSp HIm
    clear hS hP hC
    go_enter Tryd.func3, Tryd.ntmps3
    go_wp2_with fail
    refine (HTo.out w (Below.refl _ _)).mono ?_
    rintro e w1 ⟨rfl, n1, c1, z1⟩
    have i1 := n1.byt z1
    clear n1
    go_wp2_with fail
    refine (HSp.out _ w1 i1).mono ?_
    rintro e w2 ⟨rfl, b2⟩
    have c2 := c1.trans (b2 _)
    clear i1 b2 z1 HSp
    go_wp2_with fail
    refine (HTo.out w2 c2).mono ?_
    rintro e w3 ⟨rfl, n3, b3, z3⟩
    have c3 := c2.trans (b3.mono c2.size)
    have N3 := hide n3
    go_wp2_with fail
    refine (HIm.out _ w3 (n3.byt z3)).mono ?_
    rintro e w4 ⟨rfl, b4⟩
    have c4 := c3.trans (b4.mono c3.size)
    have N4 := hide (N3.out.next b4)
    clear b4 N3 n3 HIm
    go_wp2_with fail
    refine (HTo.out w4 c4).mono ?_
    rintro e w5 ⟨rfl, n5, b5, z5⟩
    have c5 := c4.trans (b5.mono c4.size)
    have N5 := hide (N4.out.next b5)
    have I5 := hide (n5.byt z5)
    clear n5 b5 N4
    go_wp2_with fail
    refine (eqByteS_any _ _ l l _ _ _ _ w5 (N5.out.byt (Nat.lt_succ_self _)) I5.out hlm hlm).mono ?_
    rintro e w6 ⟨rfl, b6⟩
    rw [sameY_refl]
    have c6 := c5.trans (b6 _)
    go_wp2
    go_ret
    exact ⟨rfl, c6⟩
  · have h2' : (1048576 : Int) < l.length := by omega
    go_enter Tryd.func3, Tryd.ntmps3
    go_wp2
    go_ret
    exact ⟨rfl, Below.refl _ _⟩
end Go.Proofs.YthicgbocgdijlaaDoor
