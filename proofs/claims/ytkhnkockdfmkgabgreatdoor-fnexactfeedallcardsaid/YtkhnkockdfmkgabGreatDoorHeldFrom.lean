/-
  What the laws' own helps do that mark bytes, from whatever number on, and rows of rows of them.
  What the laws' own helps on wires do: sizes, copies, the same, marks.
  What the laws' own markText does.
  Rows of heads that may be written, and what the laws' own helps do that mark them.
  What the laws' own helps do that mark the heads of an answer, from whatever number on, and look whether the marks are still there.
-/
import Derived.Test.YtkhnkockdfmkgabGreatDoorBytss
import Derived.Test.YtkhnkockdfmkgabGreatDoorWires
import Derived.Test.YtkhnkockdfmkgabGreatDoorGetReq
import Derived.Test.YtkhnkockdfmkgabGreatDoorRows
import Derived.Test.YtkhnkockdfmkgabGreatDoorMathGet
import Derived.WalkKit
import Derived.WalkSpells
import Derived.WalkLawsBesides
import Derived.Deep.Light
import Derived.Laws.IdiomStrings
import Derived.Laws.BytesArg
import Derived.Test.YtkhnkockdfmkgabGreatDoorSpecVal
import Derived.Deep.RegionHeld3
namespace Go.Proofs.YtkhnkockdfmkgabGreatDoor
open Go.RowKit M
set_option linter.unusedVariables false

set_option maxHeartbeats 1000000 in
theorem markByteS_from (g n cap k0 : Nat) (w : World) (h : RowC w g n) (hn : n ≤ 1073741824) (hk0 : k0 ≤ 1073741824) :
    Calls Tryz.prog 14 #[.slice (some ⟨g, 0, none⟩) n cap, .int .i64 k0] w fun e w' => e = .returned (.int .i64 ((k0 + n : Nat) : Int)) ∧ w.grownBy w' (some g) ∧ (∀ g' m, RowC w g' m → RowC w' g' m) := by
  go_enter Tryz.func14, Tryz.ntmps14
  go_wp2
  go_loopw [1, 5] (fun kv i wr => ∃ j : Nat, j ≤ n ∧ i = .int .i64 j ∧ kv = .int .i64 ((k0 + j : Nat) : Int) ∧ RowC wr g n ∧ w.grownBy wr (some g) ∧ (∀ g' m, RowC w g' m → RowC wr g' m)) (fun _ i _ => n - (intOf i).toNat)
  case atStart => exact ⟨0, Nat.zero_le _, rfl, rfl, h, grownG_refl _ _, fun _ _ h => h⟩
  case round =>
    obtain ⟨j, hj, rfl, rfl, hrow, hg, hm⟩ := hrel
    by_cases hlt : j < n
    · obtain ⟨⟨u0, c0⟩, f0⟩ := hrow.2 j hlt
      obtain ⟨b, hb⟩ : ∃ b : Int, ((k0 : Int) + (j : Int)) % 256 = b := ⟨_, rfl⟩
      have HR := hide (hrow.set j (.int .u8 b))
      have HG := hide (grownG_set hg j (.int .u8 b))
      have HM := hide (fun g' m (hh : RowC w g' m) => (hm g' m hh).setAny g j (.int .u8 b))
      clear hrow hg hm
      go_wp2
      go_roundw
      case rel => exact ⟨j + 1, by omega, by go_num, by go_num, HR.out, HG.out, HM.out⟩
      case measure => simp [intOf]; omega
    · go_wp2
      go_ret
      have hjn : j = n := by omega
      subst hjn
      exact ⟨rfl, hg, hm⟩

set_option maxHeartbeats 1000000 in
theorem markByteSS_any (N hi cap : Nat) (ls : List (List UInt8)) (w : World) (h : NewSS w N hi ls) (hl : ls.length ≤ 1048576) (hs : sumB ls ≤ 1048576) :
    Calls Tryz.prog 23 #[.slice (some ⟨N, 0, none⟩) ls.length cap, .int .i64 1] w fun e w' => e = .returned (.int .i64 ((1 + sumB ls : Nat) : Int)) ∧ Within N hi w w' := by
  obtain ⟨hN, Ns, hrow, hnew⟩ := h
  have hC : ∀ j, j < ls.length → RowC w (Ns j) (ls.getD j []).length := fun j hj => ⟨World.rowIs.lt (hnew j hj).2.2, fun i hi => ⟨⟨_, World.rowIs.cell (hnew j hj).2.2 hi⟩, World.rowIs.frozen (hnew j hj).2.2 i⟩⟩
  have HB := hide (fun j (hj : j < ls.length) => (⟨(hnew j hj).1, (hnew j hj).2.1⟩ : N < Ns j ∧ Ns j < hi))
  have HC := hide hC
  clear hnew hC
  go_enter Tryz.func23, Tryz.ntmps23
  go_wp2
  go_loopw [1, 5] (fun kv i wr => ∃ j : Nat, j ≤ ls.length ∧ i = .int .i64 j ∧ kv = .int .i64 ((1 + sumB (ls.take j) : Nat) : Int) ∧ wr.rowIs N 22 ls.length (fun j => .slice (some ⟨Ns j, 0, none⟩) (ls.getD j []).length (ls.getD j []).length) ∧ Within N hi w wr ∧ (∀ g' m, RowC w g' m → RowC wr g' m)) (fun _ i _ => ls.length - (intOf i).toNat)
  case atStart => exact ⟨0, Nat.zero_le _, rfl, rfl, hrow, Within.refl _ _ _, fun _ _ h => h⟩
  case round =>
    obtain ⟨j, hj, rfl, rfl, hr, hg, hm⟩ := hrel
    by_cases hlt : j < ls.length
    · have hd : ls.getD j [] = ls[j] := by simp [List.getD, List.getElem?_eq_getElem hlt]
      have hcx := hr.cell hlt
      have h1 := sumB_at ls j hlt
      have h2 := sumB_le ls j
      have h3 := sumB_snoc ls j hlt
      have hrc := hm _ _ (HC.out j hlt)
      rw [hd] at hcx hrc
      obtain ⟨hb1, hb2⟩ := HB.out j hlt
      have HMk := hide (markByteS_from (Ns j) (ls[j]).length (ls[j]).length (1 + sumB (ls.take j)) wr hrc (by omega) (by omega))
      have HR := hide hr
      have HG := hide hg
      have HM := hide hm
      have HS := hide h3
      have HL : Hid (N < wr.heap.size) := hr.lt
      clear hr hg hm hrc hd h3
      go_wp2_with fail
      refine HMk.out.mono ?_
      rintro e w1 ⟨rfl, g1, m1⟩
      have HR1 := hide (World.rowIs.of_block HR.out (g1.block N HL.out (fun e => by have := Option.some.inj e; omega)))
      have HG1 := hide (HG.out.trans (Within.of_grown g1 (Nat.le_of_lt hb1) hb2))
      have HM1 := hide (fun g' m hh => m1 g' m (HM.out g' m hh))
      have HK : (1 + sumB (ls.take j) + (ls[j]).length : Nat) = 1 + sumB (ls.take (j + 1)) := by rw [HS.out]; omega
      rw [HK]
      clear g1 m1 HMk
      go_wp2
      go_roundw
      case rel => exact ⟨j + 1, by omega, by go_num, rfl, HR1.out, HG1.out, HM1.out⟩
      case measure => simp [intOf]; omega
    · go_wp2
      go_ret
      exact ⟨by rw [sumB_all ls j hlt]; rfl, hg⟩
end Go.Proofs.YtkhnkockdfmkgabGreatDoor
namespace Go.Proofs.YtkhnkockdfmkgabGreatDoor
open Go.RowKit
set_option linter.unusedVariables false

set_option maxHeartbeats 400000 in
theorem szWire_any (a : Option Addr) (n cap left : Nat) (bad : Int) (w : World) (hl : n ≤ maxLen) (hleft : left ≤ 1048576) :
    Calls Tryz.prog 5 #[.agg #[.slice a n cap, .int .i64 bad], .int .i64 left] w fun e w' => (∃ z : Int, e = .returned (.int .i64 z) ∧ (z < 0 ∨ ∃ m : Nat, z = m ∧ n + m = left)) ∧ Below w.heap.size w w' := by
  have b0 : Below w.heap.size w (w.alloc (Obj.cells #[.slice a n cap, .int .i64 bad] 24)) := (Below.refl _ _).alloc (Nat.le_refl _) _
  have HS := hide (szByteS_any a n cap left (w.alloc (Obj.cells #[.slice a n cap, .int .i64 bad] 24)) hl hleft)
  go_enter Tryz.func5, Tryz.ntmps5
  go_wp2_with fail
  refine HS.out.mono ?_
  rintro e w1 ⟨⟨z, rfl, hz⟩, hw⟩
  obtain rfl := hw
  clear HS
  by_cases h0 : z < 0
  · go_wp2
    go_ret
    exact ⟨⟨_, rfl, .inl (by omega)⟩, b0⟩
  · go_wp2
    go_ret
    exact ⟨⟨_, rfl, hz⟩, b0⟩

theorem results_toWire (tmps : Array Value) (N : Nat) (W : World) (v0 v1 : Value) (h2 : tmps.getD 2 undef = .pointer (some ⟨N, 0, none⟩)) (hg : W.heap[N]? = some (Obj.cells #[v0, v1] 26)) :
    (results Tryz.f7 tmps).run Tryz.prog W = .ok (.agg #[v0, v1]) W := by
  have hl := run_loadVar_row (P := Tryz.prog) W N 26 26 #[v0, v1] (0, 0) _ hg Tryz.underlying26 rfl (by kernel_rfl)
  simp at h2
  simp [results, Tryz.results7, h2, asAddr, hl]
/-- A wire that was copied: its bytes are in a new row. -/
def NewW (w : World) (lo hi : Nat) (l : List UInt8) (bad : Int) (v : Value) : Prop := ∃ N, v = .agg #[.slice (some ⟨N, 0, none⟩) l.length l.length, .int .i64 bad] ∧ lo ≤ N ∧ N < hi ∧ NewB w N l
theorem NewW.next {w w' : World} {lo hi : Nat} {l : List UInt8} {bad : Int} {v : Value} (h : NewW w lo hi l bad v) (hb : Below w.heap.size w w') : NewW w' lo hi l bad v := by
  obtain ⟨N, rfl, h1, h2, h3⟩ := h
  exact ⟨N, rfl, h1, h2, h3.next hb⟩
set_option maxRecDepth 100000 in
set_option maxHeartbeats 1000000 in
theorem toWire_any (a : Option Addr) (l : List UInt8) (cap B : Nat) (bad : Int) (w : World) (h : Byt w B a l) (hB : B ≤ w.heap.size) (hl : l.length ≤ 1048576) :
    Calls Tryz.prog 7 #[.agg #[.slice a l.length cap, .int .i64 bad]] w fun e w' => (∃ v, e = .returned v ∧ NewW w' w.heap.size w'.heap.size l bad v) ∧ Below w.heap.size w w' := by
  obtain ⟨w0, hw0⟩ : ∃ w0, ((w.alloc (Obj.cells #[.slice a l.length cap, .int .i64 bad] 24)).alloc (Obj.cells #[.slice none 0 0, .int .i64 0] 26)).alloc (Obj.cells #[.slice none 0 0, .int .i64 0] 26) = w0 := ⟨_, rfl⟩
  have n1 : (w.alloc (Obj.cells #[.slice a l.length cap, .int .i64 bad] 24)).heap.size = w.heap.size + 1 := by simp
  have n2 : ((w.alloc (Obj.cells #[.slice a l.length cap, .int .i64 bad] 24)).alloc (Obj.cells #[.slice none 0 0, .int .i64 0] 26)).heap.size = w.heap.size + 2 := by simp
  have b0 : Below w.heap.size w w0 := by rw [← hw0]; exact (((Below.refl _ _).alloc (Nat.le_refl _) _).alloc (by rw [n1]; omega) _).alloc (by rw [n2]; omega) _
  have s0 : w.heap.size + 2 < w0.heap.size := by rw [← hw0]; simp
  have h0 : w0.heap[w.heap.size]? = some (Obj.cells #[.slice a l.length cap, .int .i64 bad] 24) := by
    rw [← hw0, Below.heap_alloc _ _ _ (by rw [n2]; omega), Below.heap_alloc _ _ _ (by rw [n1]; omega)]
    exact heap_alloc_new w _
  have h1 : w0.heap[w.heap.size + 1]? = some (Obj.cells #[.slice none 0 0, .int .i64 0] 26) := by
    rw [← hw0, Below.heap_alloc _ _ _ (by rw [n2]; omega)]
    have := heap_alloc_new (w.alloc (Obj.cells #[.slice a l.length cap, .int .i64 bad] 24)) (Obj.cells #[.slice none 0 0, .int .i64 0] 26)
    rwa [n1] at this
  have h2 : w0.heap[w.heap.size + 2]? = some (Obj.cells #[.slice none 0 0, .int .i64 0] 26) := by
    have := heap_alloc_new ((w.alloc (Obj.cells #[.slice a l.length cap, .int .i64 bad] 24)).alloc (Obj.cells #[.slice none 0 0, .int .i64 0] 26)) (Obj.cells #[.slice none 0 0, .int .i64 0] 26)
    rw [n2] at this
    rw [← hw0]; exact this
  have HT := hide (toByteS_any a l cap B w0 (h.below b0 hB) (Nat.le_trans hB b0.size) hl)
  obtain ⟨x0, x1, _, _⟩ := cells2 h0
  have H0 := hide h0
  have H1 := hide h1
  have H2 := hide h2
  have HB0 := hide b0
  clear h h0 h1 h2 b0 n1 n2
  go_enter Tryz.func7, Tryz.ntmps7
  go_wp2_with fail
  try rw [hw0]
  refine HT.out.mono ?_
  rintro e w1 ⟨rfl, nb, b1, z1⟩
  obtain ⟨y0, y1, _, _⟩ := cells2 ((b1.block _ (by omega)).trans H0.out)
  obtain ⟨m0, m1, n0, n1⟩ := cells2 ((b1.block _ (by omega)).trans H2.out)
  have h2' := (b1.block _ (by omega)).trans H2.out
  have h1' := (b1.block _ (by omega)).trans H1.out
  obtain ⟨W, hW, hb2, hO, hBl, hsz⟩ := put2 h2' (.slice (some ⟨w0.heap.size, 0, none⟩) l.length l.length) (.int .i64 bad)
  have hb1 := hO _ _ (by omega) h1'
  obtain ⟨c0, c1, _, _⟩ := cells2 hb2
  obtain ⟨d0, d1, e0, e1⟩ := cells2 hb1
  have nb2 : NewB W w0.heap.size l := by
    obtain ⟨o, ho⟩ : ∃ o, w1.heap[w0.heap.size]? = some o := by
      have := World.rowIs.lt nb
      exact ⟨_, Array.getElem?_eq_getElem this⟩
    exact World.rowIs.of_block nb ((hO _ _ (by omega) ho).trans ho.symm)
  have cW : Below w.heap.size w W := (HB0.out.trans (b1.mono HB0.out.size)).trans (hBl.mono (by omega))
  have N2 := hide nb2
  have CW := hide cW
  have HB1 := hide hb1
  have hz2 : w0.heap.size < W.heap.size := by rw [hsz]; exact z1
  clear nb b1 h1' h2' hb1 hb2 hO hBl nb2 cW hw0 HT x0 x1
  go_wp2
  refine bodyPost_ret (results_toWire _ (w.heap.size + 1) _ _ _ rfl (set2_heap HB1.out _ _)) rfl ?_
  refine ⟨⟨_, rfl, w0.heap.size, rfl, by omega, by simpa [World.setCell] using hz2, ?_⟩, (CW.out.setCell (p := ⟨w.heap.size + 1, 0, none⟩) (Nat.le_succ _) _).setCell (p := ⟨w.heap.size + 1, 1, none⟩) (Nat.le_succ _) _⟩
  refine World.rowIs.of_block N2.out ?_
  rw [Below.heap_setCell _ _ _ _ (show w0.heap.size ≠ w.heap.size + 1 by omega), Below.heap_setCell _ _ _ _ (show w0.heap.size ≠ w.heap.size + 1 by omega)]

set_option maxHeartbeats 1000000 in
theorem eqWire_same (a b : Option Addr) (l : List UInt8) (bad : Int) (cap cap' B C : Nat) (w : World) (h : Byt w B a l) (h' : Byt w C b l) (hB : B ≤ w.heap.size) (hC : C ≤ w.heap.size) (hl : l.length ≤ maxLen) :
    Calls Tryz.prog 10 #[.agg #[.slice a l.length cap, .int .i64 bad], .agg #[.slice b l.length cap', .int .i64 bad]] w fun e w' => e = .returned (.bool true) ∧ Below w.heap.size w w' := by
  obtain ⟨w0, hw0⟩ : ∃ w0, (w.alloc (Obj.cells #[.slice a l.length cap, .int .i64 bad] 26)).alloc (Obj.cells #[.slice b l.length cap', .int .i64 bad] 26) = w0 := ⟨_, rfl⟩
  have n0 : (w.alloc (Obj.cells #[.slice a l.length cap, .int .i64 bad] 26)).heap.size = w.heap.size + 1 := by simp
  have c0 : Below w.heap.size w w0 := by rw [← hw0]; exact ((Below.refl _ _).alloc (Nat.le_refl _) _).alloc (by rw [n0]; omega) _
  have s0 : w.heap.size + 1 < w0.heap.size := by rw [← hw0]; simp
  have z0 : w0.heap[w.heap.size]? = some (Obj.cells #[.slice a l.length cap, .int .i64 bad] 26) := by
    rw [← hw0, Below.heap_alloc _ _ _ (by rw [n0]; omega)]; exact heap_alloc_new w _
  have z1 : w0.heap[w.heap.size + 1]? = some (Obj.cells #[.slice b l.length cap', .int .i64 bad] 26) := by
    have := heap_alloc_new (w.alloc (Obj.cells #[.slice a l.length cap, .int .i64 bad] 26)) (Obj.cells #[.slice b l.length cap', .int .i64 bad] 26)
    rw [n0] at this
    rw [← hw0]; exact this
  obtain ⟨x0, x1, _, _⟩ := cells2 z0
  obtain ⟨y0, y1, _, _⟩ := cells2 z1
  have HE := hide (eqByteS_any a b l l cap cap' B C w0 (h.below c0 hB) (h'.below c0 hC) hl hl)
  rw [sameY_refl] at HE
  have Z0 := hide z0
  have Z1 := hide z1
  have C0 := hide c0
  clear h h' c0 z0 z1 n0
  go_enter Tryz.func10, Tryz.ntmps10
  go_wp2_with fail
  try rw [hw0]
  refine HE.out.mono ?_
  rintro e w1 ⟨rfl, b1⟩
  obtain ⟨p0, p1, _, _⟩ := cells2 (((b1 (w.heap.size + 1)).block _ (Nat.lt_succ_self _)).trans Z0.out)
  obtain ⟨q0, q1, _, _⟩ := cells2 (((b1 (w.heap.size + 2)).block _ (Nat.lt_succ_self _)).trans Z1.out)
  have C1 := hide (C0.out.trans (b1 _))
  have hbb : (bad != bad) = false := by simp
  clear b1 HE hw0 x0 x1 y0 y1
  go_wp2
  go_ret
  exact ⟨rfl, C1.out⟩

set_option maxHeartbeats 400000 in
theorem markWire_any (w : World) (B : Nat) (v : Value) (l : List UInt8) (bad : Int) (h : FreshY w B v l) (hB : B ≤ w.heap.size) (hl : l.length ≤ 1073741824) :
    Calls Tryz.prog 13 #[.agg #[v, .int .i64 bad], .int .i64 1] w fun e w' => e = .returned (.int .i64 (1 + (l.length : Int))) ∧ MarkedY w' v l.length ∧ Below B w w' ∧ (∀ k, k < w.heap.size → (0 < l.length → some k ≠ v.ownBlock) → w'.heap[k]? = w.heap[k]?) := by
  have b0 : Below w.heap.size w (w.alloc (Obj.cells #[v, .int .i64 bad] 26)) := (Below.refl _ _).alloc (Nat.le_refl _) _
  have HM := hide (markY (w.alloc (Obj.cells #[v, .int .i64 bad] 26)) B v l (h.next b0) (Nat.le_trans hB b0.size) hl)
  have B0 := hide b0
  obtain ⟨a, c, rfl, _⟩ := h
  clear b0
  go_enter Tryz.func13, Tryz.ntmps13
  go_wp2_with fail
  refine HM.out.mono ?_
  rintro e w1 ⟨rfl, m1, b1, k1⟩
  have M1 := hide m1
  have C1 := hide ((B0.out.mono hB).trans b1)
  have K1 : Hid (∀ k, k < w.heap.size → (0 < l.length → some k ≠ (Value.slice a l.length c).ownBlock) → w1.heap[k]? = w.heap[k]?) := hide (fun k hk hne => (k1 k (Nat.lt_of_lt_of_le hk B0.out.size) hne).trans (B0.out.block k hk))
  clear m1 b1 k1 HM
  go_wp2
  go_ret
  exact ⟨rfl, M1.out, C1.out, K1.out⟩
set_option maxHeartbeats 400000 in
theorem heldWire_any (w : World) (v : Value) (n : Nat) (bad : Int) (h : MarkedY w v n) (hn : n ≤ 1073741824) :
    Calls Tryz.prog 16 #[.agg #[v, .int .i64 bad], .int .i64 1] w fun e w' => e = .returned (.int .i64 (1 + (n : Int))) ∧ Below w.heap.size w w' := by
  have b0 : Below w.heap.size w (w.alloc (Obj.cells #[v, .int .i64 bad] 26)) := (Below.refl _ _).alloc (Nat.le_refl _) _
  have HM := hide (heldY (w.alloc (Obj.cells #[v, .int .i64 bad] 26)) v n (h.next b0) hn)
  have B0 := hide b0
  obtain ⟨a, c, rfl, _⟩ := h
  have hnn : ¬ (1 + (n : Int) < 0) := by omega
  clear b0
  go_enter Tryz.func16, Tryz.ntmps16
  go_wp2_with fail
  refine HM.out.mono ?_
  rintro e w1 ⟨rfl, b1⟩
  have C1 := hide (B0.out.trans (b1 _))
  clear b1 HM
  go_wp2
  go_ret
  exact ⟨rfl, C1.out⟩
set_option maxHeartbeats 400000 in
/-- Of a copy: what it holds does not matter then. -/
theorem markWire_new (w : World) (lo hi : Nat) (v : Value) (l : List UInt8) (bad : Int) (h : NewW w lo hi l bad v) (hl : l.length ≤ 1073741824) :
    Calls Tryz.prog 13 #[v, .int .i64 1] w fun e w' => e = .returned (.int .i64 ((1 + l.length : Nat) : Int)) ∧ Within lo hi w w' := by
  obtain ⟨N, rfl, h1, h2, h3⟩ := h
  have b0 : Below w.heap.size w (w.alloc (Obj.cells #[.slice (some ⟨N, 0, none⟩) l.length l.length, .int .i64 bad] 26)) := (Below.refl _ _).alloc (Nat.le_refl _) _
  have h3' := h3.next b0
  have hr : RowC (w.alloc (Obj.cells #[.slice (some ⟨N, 0, none⟩) l.length l.length, .int .i64 bad] 26)) N l.length := ⟨World.rowIs.lt h3', fun i hi => ⟨⟨_, World.rowIs.cell h3' hi⟩, World.rowIs.frozen h3' i⟩⟩
  have HM := hide (markByteS_from N l.length l.length 1 _ hr hl (by decide))
  have B0 := hide b0
  clear b0 h3 h3' hr
  go_enter Tryz.func13, Tryz.ntmps13
  go_wp2_with fail
  refine HM.out.mono ?_
  rintro e w1 ⟨rfl, g1, _⟩
  have W1 := hide ((Within.of_below (lo := lo) (hi := hi) B0.out).trans (Within.of_grown g1 h1 h2))
  clear g1 HM
  go_wp2
  go_ret
  exact ⟨rfl, W1.out⟩
end Go.Proofs.YtkhnkockdfmkgabGreatDoor
namespace Go.Proofs.YtkhnkockdfmkgabGreatDoor
open Go.RowKit M
set_option linter.unusedVariables false

def dg (m : Nat) : UInt8 := UInt8.ofNat (48 + m % 10)
/-- The digits of a number, the last behind. -/
def mtL (n : Nat) : List UInt8 := if h : n = 0 then [] else mtL (n / 10) ++ [dg n]
termination_by n
decreasing_by omega
/-- The mark of a number. -/
def mt (n : Nat) : ByteArray := bytesOf (109 :: mtL n)

theorem mtL_zero : mtL 0 = [] := by rw [mtL]; simp
theorem mtL_step (n : Nat) (h : 0 < n) : mtL n = mtL (n / 10) ++ [dg n] := by rw [mtL, dif_neg (by omega)]

theorem digit_nat (m : Nat) : ((dg m).toNat : Int) = 48 + (m : Int) % 10 := by
  unfold dg
  rw [UInt8.toNat_ofNat']
  omega

theorem conv_mark (w : World) (c : UInt8) : (convert 22 9 (.slice (some ⟨w.heap.size, 0, none⟩) 1 1)).run Tryz.prog (w.alloc (.cells #[.int .u8 c.toNat] 5)) = .ok (.string (bytesOf [c])) (w.alloc (.cells #[.int .u8 c.toNat] 5)) := by
  refine run_convert_bytes_back _ 22 9 5 _ 1 [c] Tryz.underlying22 Tryz.underlying5 Tryz.underlying9 ?_
  intro j hj
  have hj0 : j = 0 := by simp at hj; exact hj
  subst hj0
  simp [Addr.add]

set_option maxRecDepth 100000 in
set_option maxHeartbeats 1000000 in
theorem markText_any (k : Nat) (h1 : 1 ≤ k) (h2 : k ≤ 100000000) (w : World) :
    Calls Tryz.prog 30 #[.int .i64 k] w fun e w' => e = .returned (.string (mt k)) ∧ Below w.heap.size w w' := by
  have hk0 : ¬ k = 0 := by omega
  go_enter Tryz.func30, Tryz.ntmps30
  go_wp2
  go_loopw [0, 3] (fun kv ov wr => ∃ (m : Nat) (acc : List UInt8), kv = .int .i64 m ∧ ov = .string (bytesOf acc) ∧ mtL k = mtL m ++ acc ∧ acc.length + m ≤ k ∧ Below w.heap.size w wr) (fun kv _ _ => (intOf kv).toNat)
  case atStart => exact ⟨k, [], rfl, rfl, by simp, by simp, Below.refl _ _⟩
  case round =>
    obtain ⟨m, acc, rfl, rfl, hm, hle, hbe⟩ := hrel
    have HM : Hid (mtL k = mtL m ++ acc) := hm
    clear hm
    have hz : (bytesOf acc).size ≤ 100000000 := by rw [bytesOf_size]; omega
    by_cases h0 : 0 < m
    · have HS : Hid (mtL m = mtL (m / 10) ++ [dg m]) := mtL_step m h0
      have hcv := conv_mark wr (dg m)
      rw [digit_nat] at hcv
      have h0' : (0 : Int) < m := by omega
      have hz1 : (bytesOf [dg m]).size = 1 := by rw [bytesOf_size]; rfl
      have HD : Hid ((m : Int) / 10 = ((m / 10 : Nat) : Int)) := by show (m : Int) / 10 = ((m / 10 : Nat) : Int); omega
      have hd10 : m / 10 < m := by omega
      go_wp2
      go_roundw
      case rel => exact ⟨m / 10, [dg m] ++ acc, by rw [HD.out], by rw [← bytesOf_append], by rw [HM.out, HS.out, List.append_assoc], by simp; omega, hbe.alloc hbe.size _⟩
      case measure => simp [intOf]; omega
    · have hm0 : m = 0 := by omega
      subst hm0
      have HM2 : Hid (mtL k = acc) := by show mtL k = acc; rw [HM.out, mtL_zero]; rfl
      go_wp2
      go_ret
      refine ⟨?_, hbe⟩
      unfold mt
      rw [HM2.out]
      show Ending.returned (.string (bytesOf [109] ++ bytesOf acc)) = _
      rw [bytesOf_append]; rfl
end Go.Proofs.YtkhnkockdfmkgabGreatDoor
namespace Go.Proofs.YtkhnkockdfmkgabGreatDoor
open Go.RowKit M
set_option linter.unusedVariables false

/-- A row of heads in block g, none of them frozen. -/
def RowH (w : World) (g : Nat) (hs : List Hd) : Prop := g < w.heap.size ∧ ∀ j (hj : j < hs.length), w.cell? ⟨g, j * 2, none⟩ = some (.string hs[j].1) ∧ w.cell? ⟨g, j * 2 + 1, none⟩ = some (.string hs[j].2) ∧ w.frozen? ⟨g, j * 2, none⟩ = false ∧ w.frozen? ⟨g, j * 2 + 1, none⟩ = false
theorem RowH.hds {w : World} {g C : Nat} {hs : List Hd} (h : RowH w g hs) (hC : g < C) : Hds w C (some ⟨g, 0, none⟩) hs := fun _ => ⟨g, 0, rfl, hC, fun j hj => by rw [Nat.zero_add]; exact ⟨(h.2 j hj).1, (h.2 j hj).2.1⟩⟩
theorem RowH.of {w w' : World} {g : Nat} {hs : List Hd} (h : RowH w g hs) (hs' : w.heap.size ≤ w'.heap.size) (hb : w'.heap[g]? = w.heap[g]?) : RowH w' g hs := by
  have hc : ∀ o, w'.cell? ⟨g, o, none⟩ = w.cell? ⟨g, o, none⟩ := fun o => World.cell?_of_block (a := ⟨g, o, none⟩) hb
  have hf : ∀ o, w'.frozen? ⟨g, o, none⟩ = w.frozen? ⟨g, o, none⟩ := fun o => World.frozen?_of_block (a := ⟨g, o, none⟩) hb
  exact ⟨Nat.lt_of_lt_of_le h.1 hs', fun j hj => by rw [hc, hc, hf, hf]; exact h.2 j hj⟩
theorem RowH.next {w w' : World} {g : Nat} {hs : List Hd} (h : RowH w g hs) (hb : Below w.heap.size w w') : RowH w' g hs := h.of hb.size (hb.block g h.1)
theorem RowH.store {w : World} {g : Nat} {hs : List Hd} (h : RowH w g hs) (p : Addr) (v : Value) (hp : p.block ≠ g) : RowH (w.setCell p v) g hs := h.of (by simp) (heap_setCell_other w p g v (fun e => hp e.symm))

theorem RowH.row {w : World} {g : Nat} {hs : List Hd} (h : RowH w g hs) : RowC w g (hs.length * 2) := ⟨h.1, fun j hj => by
  have hq := h.2 (j / 2) (by omega)
  have e : j = j / 2 * 2 ∨ j = j / 2 * 2 + 1 := by omega
  rcases e with e | e <;> rw [e]
  · exact ⟨⟨_, hq.1⟩, hq.2.2.1⟩
  · exact ⟨⟨_, hq.2.1⟩, hq.2.2.2⟩⟩
set_option maxHeartbeats 2000000 in
theorem markHeadS_any (g n cap : Nat) (w : World) (h : RowC w g (n * 2)) (hn : n ≤ 1048576) :
    Calls Tryz.prog 31 #[.slice (some ⟨g, 0, none⟩) n cap, .int .i64 1] w fun e w' => e = .returned (.int .i64 (1 + (n : Int) * 2)) ∧ w.grownBy w' (some g) := by
  go_enter Tryz.func31, Tryz.ntmps31
  go_wp2
  go_loopw [1, 5] (fun kv i wr => ∃ j q : Nat, j ≤ n ∧ i = .int .i64 j ∧ kv = .int .i64 q ∧ q = 1 + j * 2 ∧ RowC wr g (n * 2) ∧ w.grownBy wr (some g)) (fun _ i _ => n - (intOf i).toNat)
  case atStart => exact ⟨0, 1, Nat.zero_le _, rfl, rfl, rfl, h, grownG_refl _ _⟩
  case round =>
    obtain ⟨j, q, hj, rfl, rfl, hq, hrow, hg⟩ := hrel
    have hq3 : q ≤ 3000000 := by omega
    have hq1 : 1 ≤ q := by omega
    have HQ := hide hq
    clear hq
    by_cases hlt : j < n
    · go_wp2_with fail
      refine (markText_any q hq1 (by omega) wr).mono ?_
      rintro e w1 ⟨rfl, b1⟩
      have hrow1 := hrow.of b1.size (b1.block g hrow.1)
      have g1 := grownG_next hg b1
      obtain ⟨⟨u0, k0⟩, f0⟩ := hrow1.2 (j * 2) (by omega)
      have hrow2 := hrow1.set (j * 2) (.string (mt q))
      have g2 := grownG_set g1 (j * 2) (.string (mt q))
      have H2 := hide hrow2
      have G2 := hide g2
      clear hrow hg b1 hrow1 g1 hrow2 g2
      go_wp2_with fail
      refine (markText_any (q + 1) (by omega) (by omega) _).mono ?_
      rintro e w2 ⟨rfl, b2⟩
      have hrow3 := H2.out.of b2.size (b2.block g H2.out.1)
      have g3 := grownG_next G2.out b2
      obtain ⟨⟨u1, k1⟩, f1⟩ := hrow3.2 (j * 2 + 1) (by omega)
      have hrow4 := hrow3.set (j * 2 + 1) (.string (mt (q + 1)))
      have g4 := grownG_set g3 (j * 2 + 1) (.string (mt (q + 1)))
      have H4 := hide hrow4
      have G4 := hide g4
      clear H2 G2 b2 hrow3 g3 hrow4 g4
      go_wp2
      go_roundw
      case rel => exact ⟨j + 1, q + 1 + 1, by omega, by go_num, by go_num, by have := HQ.out; omega, H4.out, G4.out⟩
      case measure => simp [intOf]; omega
    · go_wp2
      go_ret
      have hjn : j = n := by omega
      subst hjn
      exact ⟨by rw [HQ.out, show ((1 + j * 2 : Nat) : Int) = 1 + (j : Int) * 2 by omega]; rfl, hg⟩
end Go.Proofs.YtkhnkockdfmkgabGreatDoor
namespace Go.Proofs.YtkhnkockdfmkgabGreatDoor
open Go.RowKit M
set_option linter.unusedVariables false

/-- A row of marks in block g, none of them frozen. -/
def RowMF (w : World) (k0 g n : Nat) : Prop := g < w.heap.size ∧ ∀ j, j < n → w.cell? ⟨g, j, none⟩ = some (.string (mt (k0 + j))) ∧ w.frozen? ⟨g, j, none⟩ = false
theorem RowMF.of {w w' : World} {k0 g n : Nat} (h : RowMF w k0 g n) (hs' : w.heap.size ≤ w'.heap.size) (hb : w'.heap[g]? = w.heap[g]?) : RowMF w' k0 g n := by
  have hc : ∀ o, w'.cell? ⟨g, o, none⟩ = w.cell? ⟨g, o, none⟩ := fun o => World.cell?_of_block (a := ⟨g, o, none⟩) hb
  have hf : ∀ o, w'.frozen? ⟨g, o, none⟩ = w.frozen? ⟨g, o, none⟩ := fun o => World.frozen?_of_block (a := ⟨g, o, none⟩) hb
  exact ⟨Nat.lt_of_lt_of_le h.1 hs', fun j hj => by rw [hc, hf]; exact h.2 j hj⟩
theorem RowMF.next {w w' : World} {k0 g n : Nat} (h : RowMF w k0 g n) (hb : Below w.heap.size w w') : RowMF w' k0 g n := h.of hb.size (hb.block g h.1)
/-- The first ones are marked. -/
def MarkedF (w : World) (k0 g n : Nat) : Prop := ∀ j, j < n → w.cell? ⟨g, j, none⟩ = some (.string (mt (k0 + j)))
theorem MarkedF.next {w w' : World} {k0 g n : Nat} (h : MarkedF w k0 g n) (hg : g < w.heap.size) (hb : Below w.heap.size w w') : MarkedF w' k0 g n := fun j hj => by rw [hb.cell (p := ⟨g, j, none⟩) hg]; exact h j hj
theorem MarkedF.set {w : World} {k0 g n : Nat} (h : MarkedF w k0 g n) {u : Value} (hc : w.cell? ⟨g, n, none⟩ = some u) (x : ByteArray) (hx : x = mt (k0 + n)) : MarkedF (w.setCell ⟨g, n, none⟩ (.string x)) k0 g (n + 1) := fun j hj => by
  by_cases e : n = j
  · subst e; rw [World.cell?_setCell_same _ _ _ hc, hx]
  · rw [World.cell?_setCell_other _ _ _ _ (fun e' => e (congrArg Addr.off e'))]
    exact h j (by omega)

set_option maxHeartbeats 2000000 in
theorem markHeadS_from (k0 g n cap : Nat) (hk1 : 1 ≤ k0) (hk2 : k0 ≤ 50000000) (w : World) (h : RowC w g (n * 2)) (hn : n ≤ 1048576) :
    Calls Tryz.prog 31 #[.slice (some ⟨g, 0, none⟩) n cap, .int .i64 k0] w fun e w' => e = .returned (.int .i64 ((k0 + n * 2 : Nat) : Int)) ∧ RowMF w' k0 g (n * 2) ∧ w.grownBy w' (some g) := by
  go_enter Tryz.func31, Tryz.ntmps31
  go_wp2
  go_loopw [1, 5] (fun kv i wr => ∃ j q : Nat, j ≤ n ∧ i = .int .i64 j ∧ kv = .int .i64 q ∧ q = k0 + j * 2 ∧ RowC wr g (n * 2) ∧ MarkedF wr k0 g (j * 2) ∧ w.grownBy wr (some g)) (fun _ i _ => n - (intOf i).toNat)
  case atStart => exact ⟨0, k0, Nat.zero_le _, rfl, rfl, rfl, h, fun j hj => absurd hj (by omega), grownG_refl _ _⟩
  case round =>
    obtain ⟨j, q, hj, rfl, rfl, hq, hrow, hmk, hg⟩ := hrel
    have hq3 : q ≤ 90000000 := by omega
    have hq1 : 1 ≤ q := by omega
    have HQ := hide hq
    clear hq
    by_cases hlt : j < n
    · go_wp2_with fail
      refine (markText_any q hq1 (by omega) wr).mono ?_
      rintro e w1 ⟨rfl, b1⟩
      have hrow1 := hrow.of b1.size (b1.block g hrow.1)
      have hmk1 := hmk.next hrow.1 b1
      have g1 := grownG_next hg b1
      obtain ⟨⟨u0, kc0⟩, f0⟩ := hrow1.2 (j * 2) (by omega)
      have hrow2 := hrow1.set (j * 2) (.string (mt q))
      have hmk2 := hmk1.set kc0 (mt q) (by rw [HQ.out])
      have g2 := grownG_set g1 (j * 2) (.string (mt q))
      have H2 := hide hrow2
      have M2 := hide hmk2
      have G2 := hide g2
      clear hrow hg b1 hrow1 g1 hrow2 g2 hmk hmk1 hmk2
      go_wp2_with fail
      refine (markText_any (q + 1) (by omega) (by omega) _).mono ?_
      rintro e w2 ⟨rfl, b2⟩
      have hrow3 := H2.out.of b2.size (b2.block g H2.out.1)
      have hmk3 := M2.out.next H2.out.1 b2
      have g3 := grownG_next G2.out b2
      obtain ⟨⟨u1, k1⟩, f1⟩ := hrow3.2 (j * 2 + 1) (by omega)
      have hrow4 := hrow3.set (j * 2 + 1) (.string (mt (q + 1)))
      have hmk4 := hmk3.set k1 (mt (q + 1)) (by rw [HQ.out]; congr 1)
      have g4 := grownG_set g3 (j * 2 + 1) (.string (mt (q + 1)))
      have H4 := hide hrow4
      have M4 := hide hmk4
      have G4 := hide g4
      clear H2 G2 M2 b2 hrow3 g3 hrow4 g4 hmk3 hmk4
      go_wp2
      go_roundw
      case rel => exact ⟨j + 1, q + 1 + 1, by omega, by go_num, by go_num, by have := HQ.out; omega, H4.out, by have := M4.out; rwa [show j * 2 + 1 + 1 = (j + 1) * 2 by omega] at this, G4.out⟩
      case measure => simp [intOf]; omega
    · go_wp2
      go_ret
      have hjn : j = n := by omega
      subst hjn
      exact ⟨by rw [HQ.out]; rfl, ⟨hrow.1, fun i hi => ⟨hmk i hi, (hrow.2 i hi).2⟩⟩, hg⟩
set_option maxHeartbeats 400000 in
theorem markHeadS_noneF (k0 : Nat) (a : Option Addr) (cap : Nat) (w : World) :
    Calls Tryz.prog 31 #[.slice a 0 cap, .int .i64 k0] w fun e w' => e = .returned (.int .i64 k0) ∧ w' = w := by
  go_enter Tryz.func31, Tryz.ntmps31
  go_wp2
  go_loopw [1, 5] (fun kv i wr => i = .int .i64 0 ∧ kv = .int .i64 k0 ∧ wr = w) (fun _ i _ => 0)
  case atStart => exact ⟨rfl, rfl, rfl⟩
  case round =>
    obtain ⟨rfl, rfl, rfl⟩ := hrel
    go_wp2
    go_ret
    exact ⟨rfl, rfl⟩
set_option maxHeartbeats 400000 in
theorem heldHeadS_noneF (k0 : Nat) (a : Option Addr) (cap : Nat) (w : World) :
    Calls Tryz.prog 33 #[.slice a 0 cap, .int .i64 k0] w fun e w' => e = .returned (.int .i64 k0) ∧ w' = w := by
  go_enter Tryz.func33, Tryz.ntmps33
  go_wp2
  go_loopw [1, 5] (fun kv i wr => i = .int .i64 0 ∧ kv = .int .i64 k0 ∧ wr = w) (fun _ i _ => 0)
  case atStart => exact ⟨rfl, rfl, rfl⟩
  case round =>
    obtain ⟨rfl, rfl, rfl⟩ := hrel
    go_wp2
    go_ret
    exact ⟨rfl, rfl⟩

set_option maxHeartbeats 4000000 in
set_option maxRecDepth 100000 in
theorem heldHeadS_from (k0 g n cap : Nat) (hk1 : 1 ≤ k0) (hk2 : k0 ≤ 50000000) (hn : n ≤ 1048576) (w : World) (h : RowMF w k0 g (n * 2)) :
    Calls Tryz.prog 33 #[.slice (some ⟨g, 0, none⟩) n cap, .int .i64 k0] w fun e w' => e = .returned (.int .i64 ((k0 + n * 2 : Nat) : Int)) ∧ Below w.heap.size w w' := by
  have HR0 := hide h
  clear h
  go_enter Tryz.func33, Tryz.ntmps33
  go_wp2
  go_loopw [1, 5] (fun kv i wr => ∃ j q : Nat, j ≤ n ∧ i = .int .i64 j ∧ kv = .int .i64 q ∧ q = k0 + j * 2 ∧ Below w.heap.size w wr) (fun _ i _ => n - (intOf i).toNat)
  case atStart => exact ⟨0, k0, Nat.zero_le _, rfl, rfl, rfl, Below.refl _ _⟩
  case round =>
    obtain ⟨j, q, hj, rfl, rfl, hq, hbe⟩ := hrel
    have hq3 : q ≤ 90000000 := by omega
    have hq1 : 1 ≤ q := by omega
    have HQ := hide hq
    by_cases hlt : j < n
    · have HM := hide (fun W => markText_any q hq1 (by omega) W)
      have HM2 := hide (fun W => markText_any (q + 1) (by omega) (by omega) W)
      have HR := hide (HR0.out.next hbe)
      have hcx := (HR.out.2 (j * 2) (by omega)).1
      have hcy := (HR.out.2 (j * 2 + 1) (by omega)).1
      have e1 : k0 + j * 2 = q := by omega
      have e2 : k0 + (j * 2 + 1) = q + 1 := by omega
      rw [e1] at hcx
      rw [e2] at hcy
      have hg1 := HR.out.1
      have hi0 : (0 : Int) ≤ (j : Int) := by omega
      have hi1 : (j : Int) < (n : Int) := by omega
      clear hq e1 e2
      go_wp2
      go_region_held3 (fun w' => w'.cell? ⟨g, j * 2, none⟩ = some (.string (mt q)) ∧ w'.cell? ⟨g, j * 2 + 1, none⟩ = some (.string (mt (q + 1)))) (first | go_keep | (exact ⟨(b1.cell (p := ⟨g, j * 2, none⟩) (by first | omega | (simp; omega))).trans (by assumption), (b1.cell (p := ⟨g, j * 2 + 1, none⟩) (by first | omega | (simp; omega))).trans (by assumption)⟩)) ((go_at_call 30; refine (HM.out _).mono ?_; rintro e w1 ⟨rfl, b1⟩))
      all_goals
        have hb1 : Below wr.heap.size wr w1 := ((Below.refl wr.heap.size wr).drew).trans b1
        have hcz := (hb1.cell (p := ⟨g, j * 2 + 1, none⟩) hg1).trans hcy
        have hc1 := hbe.trans (hb1.mono hbe.size)
        have hg2 : g < w1.heap.size := Nat.lt_of_lt_of_le hg1 hb1.size
        clear b1
        go_wp2
        go_region_held3 (fun w' => w'.cell? ⟨g, j * 2 + 1, none⟩ = some (.string (mt (q + 1)))) (first | go_keep | (exact (b2.cell (p := ⟨g, j * 2 + 1, none⟩) (by first | omega | (simp; omega))).trans (by assumption))) ((go_at_call 30; refine (HM2.out _).mono ?_; rintro e w2 ⟨rfl, b2⟩))
        all_goals
          have hb2 : Below w1.heap.size w1 w2 := ((Below.refl w1.heap.size w1).drew).trans b2
          go_wp2
          go_roundw
          case rel => exact ⟨j + 1, q + 1 + 1, by omega, by go_num, by go_num, by have := HQ.out; omega, hc1.trans (hb2.mono hc1.size)⟩
          case measure => simp [intOf]; omega
    · have hjn : j = n := by omega
      subst hjn
      go_wp2
      go_ret
      exact ⟨by rw [HQ.out]; rfl, hbe⟩
end Go.Proofs.YtkhnkockdfmkgabGreatDoor
