/-
  What the laws' own helps on slices of bytes do: copies, the same.
  What the laws' own helps do that mark bytes.
  What the laws' own helps on slices of numbers do: copies, the same.
  What the laws' own help does that marks numbers.
  A slice of integers as the row hands it in.
  Numbers as the row hands them in.
-/
import Derived.Test.YthicgbocgdijlaaDoorByts
import Derived.Test.YthicgbocgdijlaaDoorRet
import Derived.Test.YthicgbocgdijlaaDoorOwnY
import Derived.Test.YthicgbocgdijlaaDoorMarkHeads
import Derived.Test.YthicgbocgdijlaaDoorMathCutB
import Derived.WalkSpells
import Derived.WalkLawsBesides
import Derived.Deep.Light
import Derived.Deep.QuietTactic
import Derived.Test.YthicgbocgdijlaaDoorRows
import Derived.OpenShut
import Derived.WalkKit
namespace Go.Proofs.YthicgbocgdijlaaDoor
open Go.RowKit
set_option linter.unusedVariables false

theorem info_u8 : (Tryd.prog.info? 5).map (fun i => (i.zero, i.size, i.bytes)) = some (some (.int .u8 0), 1, 1) := by kernel_rfl

/-- A new row of bytes, none of them frozen. -/
def NewB (w : World) (N : Nat) (l : List UInt8) : Prop := w.rowIs N 5 l.length (fun j => .int .u8 (l.getD j 0).toNat)
theorem NewB.byt {w : World} {N C : Nat} {l : List UInt8} (h : NewB w N l) (hN : N < C) : Byt w C (some ⟨N, 0, none⟩) l := fun _ =>
  ⟨N, 0, rfl, hN, fun j hj => by rw [Nat.zero_add, World.rowIs.cell h hj]; simp [List.getD, List.getElem?_eq_getElem hj]⟩
theorem NewB.next {w w' : World} {N : Nat} {l : List UInt8} (h : NewB w N l) (hb : Below w.heap.size w w') : NewB w' N l := World.rowIs.of_block h (hb.block _ (World.rowIs.lt h))

set_option maxHeartbeats 400000 in
theorem toByteS_any (a : Option Addr) (l : List UInt8) (cap B : Nat) (w : World) (h : Byt w B a l) (hB : B ≤ w.heap.size) (hl : l.length ≤ 1048576) :
    Calls Tryd.prog 8 #[.slice a l.length cap] w fun e w' => e = .returned (.slice (some ⟨w.heap.size, 0, none⟩) l.length l.length) ∧ NewB w' w.heap.size l ∧ Below w.heap.size w w' ∧ w.heap.size < w'.heap.size := by
  have hmk := run_make_row' (P := Tryd.prog) 22 5 (.int .u8 0) 1 Tryd.underlying22 info_u8 rfl .i64 .i64 l.length (by omega) (by omega) w
  go_enter Tryd.func8, Tryd.ntmps8
  go_wp2
  clear hmk
  go_loopw [4] (fun i wr => ∃ k : Nat, k ≤ l.length ∧ i = .int .i64 k ∧ wr.rowIs w.heap.size 5 l.length (fun j => if j < k then .int .u8 (l.getD j 0).toNat else .int .u8 0) ∧ Below w.heap.size w wr) (fun i _ => l.length - (intOf i).toNat)
  case atStart => exact ⟨0, Nat.zero_le _, rfl, (World.rowIs_made w _ _ _).congr (fun i _ => by simp), (Below.refl _ _).alloc (Nat.le_refl _) _⟩
  case round =>
    obtain ⟨k, hk, rfl, hrow, hbe⟩ := hrel
    by_cases hlt : k < l.length
    · obtain ⟨b, o, rfl, hb, hc⟩ := h (by omega)
      have hcx := (hbe.cell (p := ⟨b, o + k, none⟩) (Nat.lt_of_lt_of_le hb hB)).trans (hc k hlt)
      have hcn := hrow.cell hlt
      have hfn := hrow.frozen k
      have hrow2 := (hrow.set k (.int .u8 (l[k]).toNat)).congr (g := fun j => if j < k + 1 then .int .u8 (l.getD j 0).toNat else .int .u8 0) (fun j hj => by
        by_cases e : j = k
        · subst e; simp [List.getD, List.getElem?_eq_getElem hlt]
        · simp only [e, if_false]
          by_cases e2 : j < k
          · rw [if_pos e2, if_pos (by omega)]
          · rw [if_neg e2, if_neg (by omega)])
      have HR : Hid _ := hrow2
      clear hrow2
      go_wp2
      go_roundw
      case rel => exact ⟨k + 1, by omega, by go_num, HR.out, hbe.setCell (Nat.le_refl _) _⟩
      case measure => simp [intOf]; omega
    · go_wp2
      go_ret
      refine ⟨rfl, hrow.congr (fun j hj => by rw [if_pos (by omega)]), hbe, hrow.lt⟩

def sameY (l m : List UInt8) : Bool := decide (l = m)
theorem sameY_refl (l : List UInt8) : sameY l l = true := by simp [sameY]
theorem sameY_len {l m : List UInt8} (h : ¬ l.length = m.length) : sameY l m = false := by
  simp only [sameY, decide_eq_false_iff_not]; intro e; exact h (by rw [e])
theorem sameY_not {l m : List UInt8} (k : Nat) (h1 : k < l.length) (h2 : k < m.length) (h : ¬ l[k] = m[k]) : sameY l m = false := by
  simp only [sameY, decide_eq_false_iff_not]; intro e; subst e; exact h rfl
theorem sameY_all {l m : List UInt8} (hl : l.length = m.length) (k : Nat) (hk : ¬ k < l.length) (h : l.take k = m.take k) : sameY l m = true := by
  rw [List.take_of_length_le (by omega), List.take_of_length_le (by omega)] at h
  simp [sameY, h]
theorem take_sameY {l m : List UInt8} (k : Nat) (h1 : k < l.length) (h2 : k < m.length) (h0 : l.take k = m.take k) (h : l[k] = m[k]) : l.take (k + 1) = m.take (k + 1) := by
  rw [List.take_succ_eq_append_getElem h1, List.take_succ_eq_append_getElem h2, h0, h]

set_option maxHeartbeats 400000 in
theorem eqByteS_any (a b : Option Addr) (l m : List UInt8) (cap cap' B C : Nat) (w : World) (h : Byt w B a l) (h' : Byt w C b m) (hl : l.length ≤ maxLen) (hl' : m.length ≤ maxLen) :
    Calls Tryd.prog 10 #[.slice a l.length cap, .slice b m.length cap'] w fun e w' => e = .returned (.bool (sameY l m)) ∧ ∀ D, Below D w w' := by
  unfold maxLen at hl hl'
  by_cases hlen : l.length = m.length
  · have HL : Hid (l.length = m.length) := hlen
    go_enter Tryd.func10, Tryd.ntmps10
    rw [← hlen]
    clear hlen
    go_wp2
    go_loopw [5] (fun i wr => ∃ k n : Nat, k ≤ l.length ∧ i = .int .i64 k ∧ l.take k = m.take k ∧ wr = w.drewN n) (fun i _ => l.length - (intOf i).toNat)
    case atStart => exact ⟨0, 0, Nat.zero_le _, rfl, rfl, rfl⟩
    case round =>
      obtain ⟨k, n, hk, rfl, ht, rfl⟩ := hrel
      have HT : Hid (l.take k = m.take k) := ht
      clear ht
      by_cases hlt : k < l.length
      · have hlt' : k < m.length := by have := HL.out; omega
        obtain ⟨b1, o1, rfl, hb1, hc1⟩ := h (by omega)
        obtain ⟨b2, o2, rfl, hb2, hc2⟩ := h' (by have := HL.out; omega)
        have hcx := hc1 k hlt
        have hcy := hc2 k hlt'
        by_cases he : l[k] = m[k]
        · have e1 : (((l[k]).toNat : Int) != (m[k]).toNat) = false := by rw [he]; simp
          have HE : Hid (l[k] = m[k]) := he
          clear he
          go_wp2
          go_quiet (fail)
          go_wp2
          go_roundw
          case rel => exact ⟨k + 1, n + nq, by omega, by go_num, take_sameY k hlt hlt' HT.out HE.out, rfl⟩
          case measure => simp [intOf]; omega
        · have e1 : (((l[k]).toNat : Int) != (m[k]).toNat) = true := by
            rw [bne_iff_ne]; intro e; exact he (UInt8.toNat_inj.1 (by omega))
          have HE : Hid (sameY l m = false) := sameY_not k hlt hlt' he
          clear he
          go_wp2
          go_quiet (fail)
          go_wp2
          go_ret
          exact ⟨ret_bool HE.out.symm, fun D => below_drewN (below_drewN (Below.refl _ _) _) _⟩
      · go_wp2
        go_ret
        exact ⟨ret_bool (sameY_all HL.out k hlt HT.out).symm, fun D => below_drewN (Below.refl _ _) _⟩
  · have HS := sameY_len hlen
    go_enter Tryd.func10, Tryd.ntmps10
    go_wp2
    go_ret
    exact ⟨ret_bool HS.symm, fun D => Below.refl _ _⟩
end Go.Proofs.YthicgbocgdijlaaDoor
namespace Go.Proofs.YthicgbocgdijlaaDoor
open Go.RowKit M
set_option linter.unusedVariables false

theorem OwnY.row {w : World} {B : Nat} {v : Value} {l : List UInt8} (h : OwnY w B v l) : ∃ g c, v = .slice (some ⟨g, 0, none⟩) l.length c ∧ B ≤ g ∧ RowC w g l.length := by
  obtain ⟨g, cap, cur, fz, hv, hB, hg, hfz, h1, h2, h3, h4⟩ := h
  refine ⟨g, cap, hv, hB, (Array.getElem?_eq_some_iff.1 hg).1, fun j hj => ⟨⟨cur[j]'(by omega), by simp [World.cell?, hg, show j < cur.size by omega]⟩, ?_⟩⟩
  obtain ⟨lo, hi⟩ := fz
  simp only [World.frozen?, hg, Bool.and_eq_false_iff, decide_eq_false_iff_not]
  simp only at hfz
  omega

def bm (j : Nat) : Int := ((j + 1) % 256 : Nat)
/-- The row in block g holds n marks. -/
def Bms (w : World) (g n : Nat) : Prop := g < w.heap.size ∧ ∀ j, j < n → w.cell? ⟨g, j, none⟩ = some (.int .u8 (bm j))
theorem Bms.of {w w' : World} {g n : Nat} (h : Bms w g n) (hs : w.heap.size ≤ w'.heap.size) (hb : w'.heap[g]? = w.heap[g]?) : Bms w' g n := ⟨Nat.lt_of_lt_of_le h.1 hs, fun j hj => (World.cell?_of_block (a := ⟨g, j, none⟩) hb).trans (h.2 j hj)⟩
theorem Bms.next {w w' : World} {g n : Nat} (h : Bms w g n) (hb : Below w.heap.size w w') : Bms w' g n := h.of hb.size (hb.block g h.1)
theorem Bms.snoc {w : World} {g n k : Nat} (h : Bms w g k) (hr : RowC w g n) (hk : k < n) : Bms (w.setCell ⟨g, k, none⟩ (.int .u8 (bm k))) g (k + 1) := ⟨by simpa using h.1, fun j hj => by
  by_cases e : k = j
  · subst e
    obtain ⟨⟨u, hu⟩, _⟩ := hr.2 k hk
    exact World.cell?_setCell_same _ _ _ hu
  · exact (World.cell?_setCell_other _ _ _ _ (fun e' => e (congrArg Addr.off e'))).trans (h.2 j (by omega))⟩

theorem wrap_bm (j : Nat) : IntKind.wrap .u8 ((j : Int) + 1) = bm j := by
  unfold bm
  simp [IntKind.wrap, IntKind.bits, IntKind.signed]

set_option maxHeartbeats 1000000 in
theorem markByteS_any (g n cap : Nat) (w : World) (h : RowC w g n) (hn : n ≤ 1073741824) :
    Calls Tryd.prog 16 #[.slice (some ⟨g, 0, none⟩) n cap, .int .i64 1] w fun e w' => e = .returned (.int .i64 (1 + (n : Int))) ∧ w.grownBy w' (some g) ∧ Bms w' g n := by
  go_enter Tryd.func16, Tryd.ntmps16
  go_wp2
  go_loopw [1, 5] (fun kv i wr => ∃ j : Nat, j ≤ n ∧ i = .int .i64 j ∧ kv = .int .i64 ((j : Int) + 1) ∧ RowC wr g n ∧ w.grownBy wr (some g) ∧ Bms wr g j) (fun _ i _ => n - (intOf i).toNat)
  case atStart => exact ⟨0, Nat.zero_le _, rfl, rfl, h, grownG_refl _ _, h.1, fun j hj => absurd hj (Nat.not_lt_zero _)⟩
  case round =>
    obtain ⟨j, hj, rfl, rfl, hrow, hg, hm⟩ := hrel
    by_cases hlt : j < n
    · obtain ⟨⟨u0, k0⟩, f0⟩ := hrow.2 j hlt
      have HR := hide (hrow.set j (.int .u8 (bm j)))
      have HG := hide (grownG_set hg j (.int .u8 (bm j)))
      have HM := hide (hm.snoc hrow hlt)
      have hwr := wrap_bm j
      clear hrow hg hm
      go_wp2
      go_roundw
      case rel => exact ⟨j + 1, by omega, by go_num, by go_num, HR.out, HG.out, HM.out⟩
      case measure => simp [intOf]; omega
    · go_wp2
      go_ret
      have hjn : j = n := by omega
      subst hjn
      exact ⟨by rw [Int.add_comm]; rfl, hg, hm⟩

set_option maxHeartbeats 1000000 in
theorem heldByteS_any (g n cap : Nat) (w : World) (h : Bms w g n) (hn : n ≤ 1073741824) :
    Calls Tryd.prog 17 #[.slice (some ⟨g, 0, none⟩) n cap, .int .i64 1] w fun e w' => e = .returned (.int .i64 (1 + (n : Int))) ∧ ∀ D, Below D w w' := by
  go_enter Tryd.func17, Tryd.ntmps17
  go_wp2
  go_loopw [1, 5] (fun kv i wr => ∃ j m : Nat, j ≤ n ∧ i = .int .i64 j ∧ kv = .int .i64 ((j : Int) + 1) ∧ wr = w.drewN m) (fun _ i _ => n - (intOf i).toNat)
  case atStart => exact ⟨0, 0, Nat.zero_le _, rfl, rfl, rfl⟩
  case round =>
    obtain ⟨j, m, hj, rfl, rfl, rfl⟩ := hrel
    by_cases hlt : j < n
    · have hc := h.2 j hlt
      have hwr := wrap_bm j
      go_wp2
      go_roundw
      case rel => exact ⟨j + 1, m, by omega, by go_num, by go_num, rfl⟩
      case measure => simp [intOf]; omega
    · go_wp2
      go_ret
      have hjn : j = n := by omega
      subst hjn
      exact ⟨by rw [Int.add_comm]; rfl, fun D => below_drewN (Below.refl _ _) _⟩
end Go.Proofs.YthicgbocgdijlaaDoor
namespace Go.Proofs.YthicgbocgdijlaaDoor
open Go.RowKit
set_option linter.unusedVariables false

theorem info_int : (Tryd.prog.info? 3).map (fun i => (i.zero, i.size, i.bytes)) = some (some (.int .i64 0), 1, 8) := by kernel_rfl

/-- A new row of numbers, none of them frozen. -/
def NewI (w : World) (N : Nat) (l : List Int) : Prop := w.rowIs N 3 l.length (fun j => .int .i64 (l.getD j 0))
theorem NewI.ints {w : World} {N C : Nat} {l : List Int} (h : NewI w N l) (hN : N < C) : Ints w C (some ⟨N, 0, none⟩) l := fun _ =>
  ⟨N, 0, rfl, hN, fun j hj => by rw [Nat.zero_add, World.rowIs.cell h hj]; simp [List.getD, List.getElem?_eq_getElem hj]⟩
theorem NewI.next {w w' : World} {N : Nat} {l : List Int} (h : NewI w N l) (hb : Below w.heap.size w w') : NewI w' N l := World.rowIs.of_block h (hb.block _ (World.rowIs.lt h))

set_option maxHeartbeats 400000 in
theorem toIntS_any (a : Option Addr) (l : List Int) (cap B : Nat) (w : World) (h : Ints w B a l) (hB : B ≤ w.heap.size) (hl : l.length ≤ 1048576) :
    Calls Tryd.prog 12 #[.slice a l.length cap] w fun e w' => e = .returned (.slice (some ⟨w.heap.size, 0, none⟩) l.length l.length) ∧ NewI w' w.heap.size l ∧ Below w.heap.size w w' ∧ w.heap.size < w'.heap.size := by
  have hmk := run_make_row' (P := Tryd.prog) 28 3 (.int .i64 0) 8 Tryd.underlying28 info_int rfl .i64 .i64 l.length (by omega) (by omega) w
  go_enter Tryd.func12, Tryd.ntmps12
  go_wp2
  clear hmk
  go_loopw [4] (fun i wr => ∃ k : Nat, k ≤ l.length ∧ i = .int .i64 k ∧ wr.rowIs w.heap.size 3 l.length (fun j => if j < k then .int .i64 (l.getD j 0) else .int .i64 0) ∧ Below w.heap.size w wr) (fun i _ => l.length - (intOf i).toNat)
  case atStart => exact ⟨0, Nat.zero_le _, rfl, (World.rowIs_made w _ _ _).congr (fun i _ => by simp), (Below.refl _ _).alloc (Nat.le_refl _) _⟩
  case round =>
    obtain ⟨k, hk, rfl, hrow, hbe⟩ := hrel
    by_cases hlt : k < l.length
    · obtain ⟨b, o, rfl, hb, hc⟩ := h (by omega)
      have hcx := (hbe.cell (p := ⟨b, o + k, none⟩) (Nat.lt_of_lt_of_le hb hB)).trans (hc k hlt)
      have hcn := hrow.cell hlt
      have hfn := hrow.frozen k
      have hrow2 := (hrow.set k (.int .i64 l[k])).congr (g := fun j => if j < k + 1 then .int .i64 (l.getD j 0) else .int .i64 0) (fun j hj => by
        by_cases e : j = k
        · subst e; simp [List.getD, List.getElem?_eq_getElem hlt]
        · simp only [e, if_false]
          by_cases e2 : j < k
          · rw [if_pos e2, if_pos (by omega)]
          · rw [if_neg e2, if_neg (by omega)])
      have HR : Hid _ := hrow2
      clear hrow2
      go_wp2
      go_roundw
      case rel => exact ⟨k + 1, by omega, by go_num, HR.out, hbe.setCell (Nat.le_refl _) _⟩
      case measure => simp [intOf]; omega
    · go_wp2
      go_ret
      refine ⟨rfl, hrow.congr (fun j hj => by rw [if_pos (by omega)]), hbe, hrow.lt⟩

def sameI (l m : List Int) : Bool := decide (l = m)
theorem sameI_refl (l : List Int) : sameI l l = true := by simp [sameI]
theorem sameI_len {l m : List Int} (h : ¬ l.length = m.length) : sameI l m = false := by
  simp only [sameI, decide_eq_false_iff_not]; intro e; exact h (by rw [e])
theorem sameI_not {l m : List Int} (k : Nat) (h1 : k < l.length) (h2 : k < m.length) (h : ¬ l[k] = m[k]) : sameI l m = false := by
  simp only [sameI, decide_eq_false_iff_not]; intro e; subst e; exact h rfl
theorem sameI_all {l m : List Int} (hl : l.length = m.length) (k : Nat) (hk : ¬ k < l.length) (h : l.take k = m.take k) : sameI l m = true := by
  rw [List.take_of_length_le (by omega), List.take_of_length_le (by omega)] at h
  simp [sameI, h]
theorem take_sameI {l m : List Int} (k : Nat) (h1 : k < l.length) (h2 : k < m.length) (h0 : l.take k = m.take k) (h : l[k] = m[k]) : l.take (k + 1) = m.take (k + 1) := by
  rw [List.take_succ_eq_append_getElem h1, List.take_succ_eq_append_getElem h2, h0, h]

set_option maxHeartbeats 400000 in
theorem eqIntS_any (a b : Option Addr) (l m : List Int) (cap cap' B C : Nat) (w : World) (h : Ints w B a l) (h' : Ints w C b m) (hl : l.length ≤ maxLen) (hl' : m.length ≤ maxLen) :
    Calls Tryd.prog 14 #[.slice a l.length cap, .slice b m.length cap'] w fun e w' => e = .returned (.bool (sameI l m)) ∧ ∀ D, Below D w w' := by
  unfold maxLen at hl hl'
  by_cases hlen : l.length = m.length
  · have HL : Hid (l.length = m.length) := hlen
    go_enter Tryd.func14, Tryd.ntmps14
    rw [← hlen]
    clear hlen
    go_wp2
    go_loopw [5] (fun i wr => ∃ k n : Nat, k ≤ l.length ∧ i = .int .i64 k ∧ l.take k = m.take k ∧ wr = w.drewN n) (fun i _ => l.length - (intOf i).toNat)
    case atStart => exact ⟨0, 0, Nat.zero_le _, rfl, rfl, rfl⟩
    case round =>
      obtain ⟨k, n, hk, rfl, ht, rfl⟩ := hrel
      have HT : Hid (l.take k = m.take k) := ht
      clear ht
      by_cases hlt : k < l.length
      · have hlt' : k < m.length := by have := HL.out; omega
        obtain ⟨b1, o1, rfl, hb1, hc1⟩ := h (by omega)
        obtain ⟨b2, o2, rfl, hb2, hc2⟩ := h' (by have := HL.out; omega)
        have hcx := hc1 k hlt
        have hcy := hc2 k hlt'
        by_cases he : l[k] = m[k]
        · have e1 : (l[k] != m[k]) = false := by rw [he]; simp
          have HE : Hid (l[k] = m[k]) := he
          clear he
          go_wp2
          go_quiet (fail)
          go_wp2
          go_roundw
          case rel => exact ⟨k + 1, n + nq, by omega, by go_num, take_sameI k hlt hlt' HT.out HE.out, rfl⟩
          case measure => simp [intOf]; omega
        · have e1 : (l[k] != m[k]) = true := by rw [bne_iff_ne]; exact he
          have HE : Hid (sameI l m = false) := sameI_not k hlt hlt' he
          clear he
          go_wp2
          go_quiet (fail)
          go_wp2
          go_ret
          exact ⟨ret_bool HE.out.symm, fun D => below_drewN (below_drewN (Below.refl _ _) _) _⟩
      · go_wp2
        go_ret
        exact ⟨ret_bool (sameI_all HL.out k hlt HT.out).symm, fun D => below_drewN (Below.refl _ _) _⟩
  · have HS := sameI_len hlen
    go_enter Tryd.func14, Tryd.ntmps14
    go_wp2
    go_ret
    exact ⟨ret_bool HS.symm, fun D => Below.refl _ _⟩
end Go.Proofs.YthicgbocgdijlaaDoor
namespace Go.Proofs.YthicgbocgdijlaaDoor
open Go.RowKit
set_option linter.unusedVariables false

theorem NewI.row {w : World} {N : Nat} {l : List Int} (h : NewI w N l) : RowC w N l.length :=
  ⟨World.rowIs.lt h, fun j hj => ⟨⟨_, World.rowIs.cell h hj⟩, World.rowIs.frozen h j⟩⟩

set_option maxHeartbeats 1000000 in
theorem markIntS_any (g n cap : Nat) (w : World) (h : RowC w g n) (hn : n ≤ 1073741824) (k : Nat) (hk : k ≤ 1073741824) :
    Calls Tryd.prog 15 #[.slice (some ⟨g, 0, none⟩) n cap, .int .i64 k] w fun e w' => e = .returned (.int .i64 ((k + n : Nat) : Int)) ∧ w.grownBy w' (some g) := by
  go_enter Tryd.func15, Tryd.ntmps15
  go_wp2
  go_loopw [1, 5] (fun kv i wr => ∃ j : Nat, j ≤ n ∧ i = .int .i64 j ∧ kv = .int .i64 ((k : Int) + j) ∧ RowC wr g n ∧ w.grownBy wr (some g)) (fun _ i _ => n - (intOf i).toNat)
  case atStart => exact ⟨0, Nat.zero_le _, rfl, by simp, h, grownG_refl _ _⟩
  case round =>
    obtain ⟨j, hj, rfl, rfl, hrow, hg⟩ := hrel
    by_cases hlt : j < n
    · obtain ⟨⟨u0, k0⟩, f0⟩ := hrow.2 j hlt
      have HR := hide (hrow.set j (.int .i64 ((k : Int) + j)))
      have HG := hide (grownG_set hg j (.int .i64 ((k : Int) + j)))
      clear hrow hg
      go_wp2
      go_roundw
      case rel => exact ⟨j + 1, by omega, by go_num, by go_num, HR.out, HG.out⟩
      case measure => simp [intOf]; omega
    · go_wp2
      go_ret
      have hjn : j = n := by omega
      subst hjn
      exact ⟨by simp, hg⟩
end Go.Proofs.YthicgbocgdijlaaDoor
namespace Go.Proofs.YthicgbocgdijlaaDoor
open Go.RowKit

/-- What the walk is told of a slice of integers that came in: it is nil; or it leads to a row of 'cap' cells, the numbers 'zs' (the first 'len' are its elements), each fitting its kind. -/
def IsRow (k : IntKind) (w : World) (a : Option Addr) (len cap : Nat) (zs : List Int) : Prop :=
  (a = none ∧ len = 0 ∧ cap = 0 ∧ zs = []) ∨
  ∃ x, a = some x ∧ len ≤ cap ∧ cap ≤ maxLen ∧ zs.length = cap ∧ (∀ i, i < zs.length → w.cell? (x.add i) = some (.int k (zs.getD i 0))) ∧ ∀ n ∈ zs, (Lit.int k n).wf = true
end Go.Proofs.YthicgbocgdijlaaDoor
namespace Go.Proofs.YthicgbocgdijlaaDoor
open Go.RowKit

theorem ints_of_row {w : World} {a : Option Addr} {len cap : Nat} {zs : List Int} (h : IsRow .i64 w a len cap zs) : ∃ l : List Int, l.length = len ∧ Ints w w.heap.size a l ∧ len ≤ cap ∧ cap ≤ maxLen := by
  rcases h with ⟨rfl, rfl, rfl, rfl⟩ | ⟨x, rfl, hl, hm, hz, hcell, hwz⟩
  · exact ⟨[], rfl, fun h => absurd h (Nat.lt_irrefl _), Nat.le_refl _, Nat.zero_le _⟩
  · have hlen : (zs.take len).length = len := by rw [List.length_take]; omega
    refine ⟨zs.take len, hlen, fun h0 => ?_, hl, hm⟩
    obtain ⟨b, off, spot⟩ := x
    have hc := hcell 0 (by omega)
    have hspot : spot = none := by simpa [Addr.add] using World.cell?_spot hc
    subst hspot
    have hb : b < w.heap.size := by
      have := World.block_lt_of_cell? w _ hc
      simpa [Addr.add] using this
    refine ⟨b, off, rfl, hb, fun j hj => ?_⟩
    have hj' : j < zs.length := by rw [hlen] at hj; omega
    have h1 := hcell j hj'
    have e : (⟨b, off, none⟩ : Addr).add j = ⟨b, off + j, none⟩ := by unfold Addr.add; split <;> simp_all
    rw [e] at h1
    rw [h1, List.getElem_take]
    simp [List.getD, List.getElem?_eq_getElem hj']
end Go.Proofs.YthicgbocgdijlaaDoor
