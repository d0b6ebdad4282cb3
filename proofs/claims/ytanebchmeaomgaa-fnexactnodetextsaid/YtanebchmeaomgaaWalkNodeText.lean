/-
  The walk of the law FnExactNodeText: for every node it returns true, and turns nothing that was there.
-/
import Derived.Test.YtanebchmeaomgaaNodeText
import Derived.Test.YtanebchmeaomgaaSpecNodeText
import Derived.Test.YtanebchmeaomgaaToNode
import Derived.Test.YtanebchmeaomgaaEqNode
namespace Go.Proofs.Ytanebchmeaomgaa
open Go.RowKit M
set_option linter.unusedVariables false

set_option maxRecDepth 100000 in
set_option maxHeartbeats 4000000 in
theorem FnExactNodeText_walk (a : Option Addr) (n : Nd) (cap : Nat) (hs : n.short) (w : World) (h : Nds w w.heap.size a n.ks) :
    Calls Try.prog 5 #[.agg #[.string n.ns, .string n.nm, .string n.tx, .slice a n.ks.length cap]] w fun e w' => e = .returned (.bool true) ∧ Below w.heap.size w w' := by
  have HS := hide hs
  have HB0 : Hid (Below w.heap.size w (w.alloc (Obj.cells #[.string n.ns, .string n.nm, .string n.tx, .slice a n.ks.length cap] 24))) := (Below.refl _ _).alloc (Nat.le_refl _) _
  have HX0 := hide (BoxN.made w a cap n 24)
  have HH := hide h
  clear h hs
  go_enter Try.func5, Try.ntmps5
  go_wp2_with fail
  refine (szNode_any n a cap w.heap.size 1048576 _ (HH.out.stays HB0.out (Nat.le_refl _)) (by simp) HS.out (Nat.le_refl _)).mono ?_
  rintro e w1 ⟨⟨z, rfl, hz⟩, b1⟩
  have c1 := HB0.out.trans (b1.mono HB0.out.size)
  have BX1 := hide (HX0.out.next b1)
  have x1 := BX1.out
  obtain ⟨_, x10, x11, x12, x13⟩ := x1
  clear b1
  rcases hz with hz | ⟨m, rfl, hm⟩
  · go_wp2
    go_ret
    exact ⟨rfl, c1⟩
  have HN : Hid (n.szN ≤ 1048576) := (by omega : n.szN ≤ 1048576)
  clear hm
  go_wp2_with fail
  refine (toNode_any n a cap w.heap.size w1 (HH.out.stays c1 (Nat.le_refl _)) c1.size HN.out).mono ?_
  rintro e w2 ⟨⟨g2, rfl, s2⟩, b2⟩
  have c2 := c1.trans (b2.mono c1.size)
  have BX2 := hide (BX1.out.next b2)
  have S2 := hide (OwnK.nds s2 (B := w2.heap.size) (fun x hx => hx.2))
  clear x10 x11 x12 x13 b2 s2
  go_wp2_with fail
  refine (specNodeText_any n _ _ _ w2 S2.out (Nat.le_refl _) HN.out).mono ?_
  rintro e w3 ⟨rfl, b3⟩
  have c3 := c2.trans (b3.mono c2.size)
  have BX3 := hide (BX2.out.next b3)
  have x3 := BX3.out
  obtain ⟨_, x30, x31, x32, x33⟩ := x3
  clear b3
  go_wp2_with fail
  refine (toNode_any n a cap w.heap.size w3 (HH.out.stays c3 (Nat.le_refl _)) c3.size HN.out).mono ?_
  rintro e w4 ⟨⟨g4, rfl, s4⟩, b4⟩
  have c4 := c3.trans (b4.mono c3.size)
  have BX4 := hide (BX3.out.next b4)
  have s4' := OwnK.nds s4 (B := w4.heap.size) (fun x hx => hx.2)
  clear x30 x31 x32 x33 b4 s4
  have C5 := hide (c4.alloc c4.size (Obj.cells #[.string n.ns, .string n.nm, .string n.tx, .slice (some ⟨g4, 0, none⟩) n.ks.length n.ks.length] 29))
  have BU5 := hide (BoxN.made w4 (some ⟨g4, 0, none⟩) n.ks.length n 29)
  have BX5 := hide (BX4.out.alloc (Obj.cells #[.string n.ns, .string n.nm, .string n.tx, .slice (some ⟨g4, 0, none⟩) n.ks.length n.ks.length] 29))
  have S5 := hide (s4'.alloc (Nat.le_refl _) (Obj.cells #[.string n.ns, .string n.nm, .string n.tx, .slice (some ⟨g4, 0, none⟩) n.ks.length n.ks.length] 29))
  clear s4' BX4 c4
  go_wp2_with fail
  refine (nodeText_any n _ _ w4.heap.size _ S5.out (by simp) HN.out).mono ?_
  rintro e w6 ⟨rfl, b6⟩
  have c6 := C5.out.trans (b6.mono C5.out.size)
  have BU6 := hide (BU5.out.next b6)
  have BX6 := hide (BX5.out.next b6)
  have t6 := S5.out.stays b6 (by simp)
  have zx6 : w4.heap.size ≤ w6.drew.heap.size := by have z6 := b6.size; show w4.heap.size ≤ w6.heap.size; simp at z6; omega
  clear b6 C5 S5 BU5 BX5
  have K6 := hide (keepB BU6.out BX6.out)
  have c6d := below_drewN c6
  have hqa6 := toNode_any n a cap w.heap.size w6.drew (HH.out.stays c6d (Nat.le_refl _)) c6d.size HN.out
  go_wp2
  go_region_held3 (fun W => W.cell? ⟨w4.heap.size, 0, none⟩ = some (.string n.ns) ∧ W.cell? ⟨w4.heap.size, 1, none⟩ = some (.string n.nm) ∧ W.cell? ⟨w4.heap.size, 2, none⟩ = some (.string n.tx) ∧ W.cell? ⟨w4.heap.size, 3, none⟩ = some (.slice (some ⟨g4, 0, none⟩) n.ks.length n.ks.length) ∧ W.cell? ⟨w.heap.size, 0, none⟩ = some (.string n.ns) ∧ W.cell? ⟨w.heap.size, 1, none⟩ = some (.string n.nm) ∧ W.cell? ⟨w.heap.size, 2, none⟩ = some (.string n.tx) ∧ W.cell? ⟨w.heap.size, 3, none⟩ = some (.slice a n.ks.length cap)) (first | exact K6.out | exact K7.out | exact K8.out) (first
    | (go_at_call 8; refine hqa6.mono ?_; rintro e w7 ⟨⟨g7, rfl, s7'⟩, b7⟩; have c7 := c6d.trans (b7.mono c6d.size); have BUa7 := hide (BU6.out.drew.next b7); have BXa7 := hide (BX6.out.drew.next b7); have K7 := hide (keepB BUa7.out BXa7.out); have ta7 := t6.drew.stays b7 zx6; have zz7 := Nat.le_trans zx6 b7.size; have s7 := OwnK.nds s7' (B := w7.heap.size) (fun x hx => hx.2))
    | (go_at_call 10; refine (eqNode_any n n _ _ _ _ _ _ w7 ta7 s7 zz7 (Nat.le_refl _) HS.out HS.out).mono ?_; rintro e w8 ⟨rfl, b8⟩; rw [same_refl]; have c8 := c7.trans (b8.mono c7.size); have BUa8 := hide (BUa7.out.next b8); have BXa8 := hide (BXa7.out.next b8); have K8 := hide (keepB BUa8.out BXa8.out)))
  go_wp2
  go_ret
  exact ⟨rfl, c8⟩
end Go.Proofs.Ytanebchmeaomgaa
