/-
  The walk of the law FnExactRespOk: for every answer it returns true, and turns nothing that was there.
-/
import Derived.Test.YtnoijfnpchihoabRespOk
import Derived.Test.YtnoijfnpchihoabSpecRespOk
import Derived.Test.YtnoijfnpchihoabLawResp
import Derived.Test.YtnoijfnpchihoabEqResp
import Derived.Deep.RegionHeld3
namespace Go.Proofs.Ytnoijfnpchihoab
open Go.RowKit M
set_option linter.unusedVariables false

set_option maxRecDepth 100000 in
set_option maxHeartbeats 4000000 in
theorem FnExactRespOk_walk (a : Option Addr) (r : Rs) (cap : Nat) (hs : ShortA r) (w : World) (h : Hds w w.heap.size a r.hs) :
    Calls Try.prog 3 #[.agg #[.int .i64 r.c, .slice a r.hs.length cap, .string r.b]] w fun e w' => e = .returned (.bool true) ∧ Below w.heap.size w w' := by
  have HS := hide hs
  obtain ⟨q3, q4, q5⟩ := hs
  have HB0 : Hid (Below w.heap.size w (w.alloc (Obj.cells #[Value.int .i64 r.c, Value.slice a r.hs.length cap, Value.string r.b] 24))) := (Below.refl _ _).alloc (Nat.le_refl _) _
  have HX0 := hide (BoxA.made w a cap r 24)
  have HH := hide h
  clear h
  go_enter Try.func3, Try.ntmps3
  go_wp2_with fail
  refine (szResp_any a r cap w.heap.size 1048576 _ (HH.out.below HB0.out (Nat.le_refl _)) (by simp) q5 q4 q3 (Nat.le_refl _)).mono ?_
  rintro e w1 ⟨⟨z, rfl, hz⟩, b1⟩
  have c1 := HB0.out.trans (b1.mono HB0.out.size)
  have BX1 := hide (HX0.out.next b1)
  have x1 := BX1.out
  obtain ⟨_, x10, x11, x12⟩ := x1
  clear b1
  rcases hz with hz | ⟨m, rfl, hm⟩
  · go_wp2
    go_ret
    exact ⟨rfl, c1⟩
  have hl2 : r.hs.length ≤ 1048576 := by omega
  have hl4 : r.hs.length ≤ maxLen := by unfold maxLen; omega
  have HF : Hid (FitA r) := ⟨HS.out, fun x hx => by have := (sumH_mem r.hs x hx).2; omega⟩
  clear hm
  go_wp2_with fail
  refine (toResp_any a r cap w.heap.size w1 (HH.out.below c1 (Nat.le_refl _)) c1.size hl2).mono ?_
  rintro e w2 ⟨⟨g2, rfl, s2⟩, b2⟩
  have c2 := c1.trans (b2.mono c1.size)
  have BX2 := hide (BX1.out.next b2)
  clear x10 x11 x12 b2
  go_wp2_with fail
  refine (specRespOk_any _ r _ _ w2 s2 (Nat.le_refl _) HS.out).mono ?_
  rintro e w3 ⟨rfl, b3⟩
  have c3 := c2.trans (b3.mono c2.size)
  have BX3 := hide (BX2.out.next b3)
  have x3 := BX3.out
  obtain ⟨_, x30, x31, x32⟩ := x3
  go_wp2_with fail
  refine (toResp_any a r cap w.heap.size w3 (HH.out.below c3 (Nat.le_refl _)) c3.size hl2).mono ?_
  rintro e w4 ⟨⟨g4, rfl, s4⟩, b4⟩
  have c4 := c3.trans (b4.mono c3.size)
  have BX4 := hide (BX3.out.next b4)
  clear x30 x31 x32 b4 s2
  have c5 := c4.alloc c4.size (Obj.cells #[Value.int .i64 r.c, Value.slice (some ⟨g4, 0, none⟩) r.hs.length r.hs.length, Value.string r.b] 29)
  have BU5 := hide (BoxA.made w4 (some ⟨g4, 0, none⟩) r.hs.length r 29)
  have BX5 := hide (BX4.out.alloc (Obj.cells #[Value.int .i64 r.c, Value.slice (some ⟨g4, 0, none⟩) r.hs.length r.hs.length, Value.string r.b] 29))
  have s5 := s4.alloc (Nat.le_refl _) (Obj.cells #[Value.int .i64 r.c, Value.slice (some ⟨g4, 0, none⟩) r.hs.length r.hs.length, Value.string r.b] 29)
  have C5 := hide c5
  have S5 := hide s5
  clear c5 s5 s4 BX4
  go_wp2_with fail
  refine (respOk_any _ r _ w4.heap.size _ S5.out (by simp) HF.out).mono ?_
  rintro e w6 ⟨rfl, b6⟩
  have c6 := C5.out.trans (b6.mono C5.out.size)
  have BU6 := hide (BU5.out.next b6)
  have BX6 := hide (BX5.out.next b6)
  have t6 := S5.out.below b6 (by simp)
  have z6 := b6.size
  have zx6 : w4.heap.size ≤ w6.drew.heap.size := by show w4.heap.size ≤ w6.heap.size; simp at z6; omega
  clear b6 z6 C5 S5 BU5 BX5
  have K6 := hide (keep6 BU6.out BX6.out)
  have c6d := below_drew c6
  have hqa6 := toResp_any a r cap w.heap.size w6.drew (HH.out.below c6d (Nat.le_refl _)) c6d.size hl2
  go_wp2
  go_region_held3 (fun W => W.cell? ⟨w4.heap.size, 0, none⟩ = some (.int .i64 r.c) ∧ W.cell? ⟨w4.heap.size, 1, none⟩ = some (.slice (some ⟨g4, 0, none⟩) r.hs.length r.hs.length) ∧ W.cell? ⟨w4.heap.size, 2, none⟩ = some (.string r.b) ∧ W.cell? ⟨w.heap.size, 0, none⟩ = some (.int .i64 r.c) ∧ W.cell? ⟨w.heap.size, 1, none⟩ = some (.slice a r.hs.length cap) ∧ W.cell? ⟨w.heap.size, 2, none⟩ = some (.string r.b)) (first | exact K6.out | exact K7.out | exact K8.out) (first
    | (go_at_call 7; refine hqa6.mono ?_; rintro e w7 ⟨⟨g7, rfl, s7'⟩, b7⟩; have c7 := c6d.trans (b7.mono c6d.size); have BUa7 := hide (BU6.out.drew.next b7); have BXa7 := hide (BX6.out.drew.next b7); have K7 := hide (keep6 BUa7.out BXa7.out); have ta7 := t6.drew.below b7 zx6; have zz7 := Nat.le_trans zx6 b7.size)
    | (go_at_call 9; refine (eqResp_any _ _ r r _ _ _ _ w7 ta7 s7' zz7 (Nat.le_refl _) hl4 hl4).mono ?_; rintro e w8 ⟨rfl, b8⟩; rw [sameA_refl]; have c8 := c7.trans (b8.mono c7.size); have BUa8 := hide (BUa7.out.next b8); have BXa8 := hide (BXa7.out.next b8); have K8 := hide (keep6 BUa8.out BXa8.out)))
  go_wp2
  go_ret
  exact ⟨rfl, c8⟩
end Go.Proofs.Ytnoijfnpchihoab
