/-
  What the program's putHead does.
-/
import Derived.Test.YthcaedgegmnopaaDoorOwnY
import Derived.Test.YthcaedgegmnopaaDoorMathPut
import Derived.Test.YthcaedgegmnopaaDoorBoxReq
namespace Go.Proofs.YthcaedgegmnopaaDoor
open Go.RowKit M
set_option linter.unusedVariables false

theorem BoxH.of {w w' : World} {N : Nat} {x y : ByteArray} {r : Option Nat} (h : BoxH w N x y) (hg : w.grownBy w' r) (hN : some N ≠ r) : BoxH w' N x y := by
  have hb := hg.block N h.1 hN
  exact ⟨Nat.lt_of_lt_of_le h.1 hg.size, (World.cell?_of_block (a := ⟨N, 0, none⟩) hb).trans h.2.1, (World.cell?_of_block (a := ⟨N, 1, none⟩) hb).trans h.2.2⟩

set_option maxHeartbeats 1000000 in
theorem putHead_any (w : World) (B : Nat) (v : Value) (l : List UInt8) (x y : ByteArray) (h : OwnY w B v l) (hB : B ≤ w.heap.size) (hl : l.length ≤ 1073741824) (hx : x.size ≤ 1073741824) (hy : y.size ≤ 1073741824) :
    Calls Tryd.prog 54 #[v, .agg #[.string x, .string y]] w fun e w' => (∃ v', e = .returned v' ∧ OwnY w' B v' (l ++ hdTxt (x, y))) ∧ Below B w w' := by
  have hb0 : Below B w (w.alloc (Obj.cells #[Value.string x, Value.string y] 55)) := (Below.refl B w).alloc hB _
  have BH0 := hide (BoxH.made w x y 55)
  have C0 := hide hb0
  have HO := hide (h.next ((Below.refl w.heap.size w).alloc (Nat.le_refl _) (Obj.cells #[Value.string x, Value.string y] 55)))
  have hne : Hid (v.ownBlock ≠ some w.heap.size) := fun e => by have := h.lt _ e; omega
  clear hb0 h
  go_enter Tryd.func54, Tryd.ntmps54
  go_wp2_with (at_builtin; refine wp_append_text rfl _ _ rfl B v l rfl HO.out x rfl ?c1 ?c2 ?_)
  case c1 => omega
  case c2 => simp; omega
  intro v1 w1 ho1 hg1 hb1
  have n0 : v.ownBlock ≠ some w.heap.size := hne.out
  have n1 : v1.ownBlock ≠ some w.heap.size := by
    rcases hb1 with e | e
    · rw [e]; exact n0
    · rw [e]; simp
  have c1 := C0.out.trans (HO.out.grown (by simp; omega) hg1)
  have x1 := BH0.out.of hg1 (fun e => n0 e.symm)
  have BH1 := hide x1
  have N1 := hide n1
  obtain ⟨_, x10, x11⟩ := x1
  have z1 := hg1.size
  simp at z1
  clear hg1 hb1 n0 n1
  go_wp2_with (at_builtin; refine wp_append_text rfl _ _ rfl B v1 (l ++ x.data.toList) rfl ho1 ⟨#[58, 32]⟩ rfl ?c1 ?c2 ?_)
  case c1 => have e : x.data.toList.length = x.size := Array.length_toList; have e2 : (⟨#[58, 32]⟩ : ByteArray).size = 2 := rfl; rw [List.length_append]; omega
  case c2 => omega
  intro v2 w2 ho2 hg2 hb2
  have n2 : v2.ownBlock ≠ some w.heap.size := by
    rcases hb2 with e | e
    · rw [e]; exact N1.out
    · rw [e]; simp; omega
  have c2 := c1.trans (ho1.grown (by omega) hg2)
  have x2 := BH1.out.of hg2 (fun e => N1.out e.symm)
  have BH2 := hide x2
  have N2 := hide n2
  obtain ⟨_, x20, x21⟩ := x2
  have z2 := hg2.size
  clear hg2 hb2 n2 x10 x11 ho1
  go_wp2_with (at_builtin; refine wp_append_text rfl _ _ rfl B v2 _ rfl ho2 y rfl ?c1 ?c2 ?_)
  case c1 => have e : x.data.toList.length = x.size := Array.length_toList; rw [List.length_append, List.length_append]; simp only [List.length_cons, List.length_nil]; omega
  case c2 => omega
  intro v3 w3 ho3 hg3 hb3
  have c3 := c2.trans (ho2.grown (by omega) hg3)
  have z3 := hg3.size
  clear hg3 hb3 x20 x21 ho2
  go_wp2_with (at_builtin; refine wp_append_text rfl _ _ rfl B v3 _ rfl ho3 ⟨#[13, 10]⟩ rfl ?c1 ?c2 ?_)
  case c1 => have e : x.data.toList.length = x.size := Array.length_toList; have e2 : y.data.toList.length = y.size := Array.length_toList; have e3 : (⟨#[13, 10]⟩ : ByteArray).size = 2 := rfl; simp only [List.length_append, List.length_cons]; omega
  case c2 => omega
  intro v4 w4 ho4 hg4 hb4
  have c4 := c3.trans (ho3.grown (by omega) hg4)
  have HO4 : Hid (OwnY w4 B v4 (l ++ hdTxt (x, y))) := by
    show OwnY w4 B v4 (l ++ hdTxt (x, y))
    have e : l ++ hdTxt (x, y) = l ++ (x.data.toList ++ 58 :: 32 :: (y.data.toList ++ [13, 10])) := by simp [hdTxt, crlf]
    rw [e]; exact ho4
  clear ho4 hg4 hb4 ho3
  go_wp2
  go_ret
  exact ⟨⟨v4, rfl, HO4.out⟩, c4⟩
end Go.Proofs.YthcaedgegmnopaaDoor
