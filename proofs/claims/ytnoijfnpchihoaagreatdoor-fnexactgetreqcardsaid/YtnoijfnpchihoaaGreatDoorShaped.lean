/-
  What the laws' own helps do that mark bytes.
  Whether two lists of heads are the same, by the laws' own helps.
  Plain facts on requests that are the same, and on texts that are.
  Whether two requests are the same, by the laws' own help.
  What the laws' own helps on slices of bytes do: copies, the same.
  A slice of integers as the row hands it in.
  Bytes as the row hands them in.
  The walk of the law FnExactGetReq: for all bytes it returns true, and turns nothing that was there.
  The wrap of a row that lists variables, with the world's shape handed on.
-/
import Derived.Test.YtnoijfnpchihoaaGreatDoorOwnY
import Derived.Test.YtnoijfnpchihoaaGreatDoorMarkRows
import Derived.Test.YtnoijfnpchihoaaGreatDoorEqByts
import Derived.Test.YtnoijfnpchihoaaGreatDoorSpecPl
import Derived.Deep.RegionHeld3
import Derived.Test.YtnoijfnpchihoaaGreatDoorLower
import Derived.Test.YtnoijfnpchihoaaGreatDoorRows
import Derived.OpenShut
import Derived.WalkKit
import Derived.Test.YtnoijfnpchihoaaGreatDoorSpecGetReq
import Derived.Test.YtnoijfnpchihoaaGreatDoorHeldReq
import Derived.Test.YtnoijfnpchihoaaGreatDoorMathRound
import Derived.HandedShaped
import Derived.Handed
namespace Go.Proofs.YtnoijfnpchihoaaGreatDoor
open Go.RowKit M
set_option linter.unusedVariables false

theorem OwnY.row {w : World} {B : Nat} {v : Value} {l : List UInt8} (h : OwnY w B v l) : ∃ g c, v = .slice (some ⟨g, 0, none⟩) l.length c ∧ B ≤ g ∧ RowC w g l.length := by
  obtain ⟨g, cap, cur, fz, hv, hB, hg, hfz, h1, h2, h3, h4⟩ := h
  refine ⟨g, cap, hv, hB, (Array.getElem?_eq_some_iff.1 hg).1, fun j hj => ⟨⟨cur[j]'(by omega), by simp [World.cell?, hg, show j < cur.size by omega]⟩, ?_⟩⟩
  obtain ⟨lo, hi⟩ := fz
  simp only [World.frozen?, hg, Bool.and_eq_false_iff, decide_eq_false_iff_not]
  simp only at hfz
  omega

def bm (j : Nat) : Int := ((j + 1) % 256 : Nat)
/-- The row in block g holds n marks. -/
def Bms (w : World) (g n : Nat) : Prop := g < w.heap.size ∧ ∀ j, j < n → w.cell? ⟨g, j, none⟩ = some (.int .u8 (bm j))
theorem Bms.of {w w' : World} {g n : Nat} (h : Bms w g n) (hs : w.heap.size ≤ w'.heap.size) (hb : w'.heap[g]? = w.heap[g]?) : Bms w' g n := ⟨Nat.lt_of_lt_of_le h.1 hs, fun j hj => (World.cell?_of_block (a := ⟨g, j, none⟩) hb).trans (h.2 j hj)⟩
theorem Bms.next {w w' : World} {g n : Nat} (h : Bms w g n) (hb : Below w.heap.size w w') : Bms w' g n := h.of hb.size (hb.block g h.1)
theorem Bms.snoc {w : World} {g n k : Nat} (h : Bms w g k) (hr : RowC w g n) (hk : k < n) : Bms (w.setCell ⟨g, k, none⟩ (.int .u8 (bm k))) g (k + 1) := ⟨by simpa using h.1, fun j hj => by
  by_cases e : k = j
  · subst e
    obtain ⟨⟨u, hu⟩, _⟩ := hr.2 k hk
    exact World.cell?_setCell_same _ _ _ hu
  · exact (World.cell?_setCell_other _ _ _ _ (fun e' => e (congrArg Addr.off e'))).trans (h.2 j (by omega))⟩

theorem wrap_bm (j : Nat) : IntKind.wrap .u8 ((j : Int) + 1) = bm j := by
  unfold bm
  simp [IntKind.wrap, IntKind.bits, IntKind.signed]

set_option maxHeartbeats 1000000 in
theorem markByteS_any (g n cap : Nat) (w : World) (h : RowC w g n) (hn : n ≤ 1073741824) :
    Calls Tryz.prog 31 #[.slice (some ⟨g, 0, none⟩) n cap, .int .i64 1] w fun e w' => e = .returned (.int .i64 (1 + (n : Int))) ∧ w.grownBy w' (some g) ∧ Bms w' g n := by
  go_enter Tryz.func31, Tryz.ntmps31
  go_wp2
  go_loopw [1, 5] (fun kv i wr => ∃ j : Nat, j ≤ n ∧ i = .int .i64 j ∧ kv = .int .i64 ((j : Int) + 1) ∧ RowC wr g n ∧ w.grownBy wr (some g) ∧ Bms wr g j) (fun _ i _ => n - (intOf i).toNat)
  case atStart => exact ⟨0, Nat.zero_le _, rfl, rfl, h, grownG_refl _ _, h.1, fun j hj => absurd hj (Nat.not_lt_zero _)⟩
  case round =>
    obtain ⟨j, hj, rfl, rfl, hrow, hg, hm⟩ := hrel
    by_cases hlt : j < n
    · obtain ⟨⟨u0, k0⟩, f0⟩ := hrow.2 j hlt
      have HR := hide (hrow.set j (.int .u8 (bm j)))
      have HG := hide (grownG_set hg j (.int .u8 (bm j)))
      have HM := hide (hm.snoc hrow hlt)
      have hwr := wrap_bm j
      clear hrow hg hm
      go_wp2
      go_roundw
      case rel => exact ⟨j + 1, by omega, by go_num, by go_num, HR.out, HG.out, HM.out⟩
      case measure => simp [intOf]; omega
    · go_wp2
      go_ret
      have hjn : j = n := by omega
      subst hjn
      exact ⟨by rw [Int.add_comm]; rfl, hg, hm⟩
end Go.Proofs.YtnoijfnpchihoaaGreatDoor
namespace Go.Proofs.YtnoijfnpchihoaaGreatDoor
open Go.RowKit M
set_option linter.unusedVariables false

set_option maxHeartbeats 400000 in
theorem eqHead_any (x y u v : ByteArray) (w : World) :
    Calls Tryz.prog 99 #[.agg #[.string x, .string y], .agg #[.string u, .string v]] w fun e w' => e = .returned (.bool (decide (((x, y) : Hd) = (u, v)))) ∧ Below w.heap.size w w' := by
  go_enter Tryz.func99, Tryz.ntmps99
  go_wp2
  all_goals go_ret
  · rename_i h1
    refine ⟨ret_bool ?_, ((Below.refl _ _).alloc (Nat.le_refl _) _).alloc (by simp) _⟩
    have : ¬ x = u := fun e => by subst e; simp at h1
    simp [this]
  · rename_i h1 h2
    refine ⟨ret_bool ?_, ((Below.refl _ _).alloc (Nat.le_refl _) _).alloc (by simp) _⟩
    have : ¬ y = v := fun e => by subst e; simp at h2
    simp [this]
  · rename_i h1 h2
    refine ⟨ret_bool ?_, ((Below.refl _ _).alloc (Nat.le_refl _) _).alloc (by simp) _⟩
    have e1 : x = u := strInj (by simpa using h1)
    have e2 : y = v := strInj (by simpa using h2)
    simp [e1, e2]

set_option maxHeartbeats 400000 in
theorem eqHeadS_any (a b : Option Addr) (ss tt : List Hd) (cap cap' B C : Nat) (w : World) (h : Hds w B a ss) (h' : Hds w C b tt) (hB : B ≤ w.heap.size) (hC : C ≤ w.heap.size) (hl : ss.length ≤ maxLen) (hl' : tt.length ≤ maxLen) :
    Calls Tryz.prog 65 #[.slice a ss.length cap, .slice b tt.length cap'] w fun e w' => e = .returned (.bool (sameH ss tt)) ∧ Below w.heap.size w w' := by
  unfold maxLen at hl hl'
  by_cases hlen : ss.length = tt.length
  · have HL : Hid (ss.length = tt.length) := hlen
    go_enter Tryz.func65, Tryz.ntmps65
    rw [← hlen]
    clear hlen
    go_wp2
    go_loopw [5] (fun i wr => ∃ k : Nat, k ≤ ss.length ∧ i = .int .i64 k ∧ ss.take k = tt.take k ∧ Below w.heap.size w wr) (fun i _ => ss.length - (intOf i).toNat)
    case atStart => exact ⟨0, Nat.zero_le _, rfl, rfl, Below.refl _ _⟩
    case round =>
      obtain ⟨k, hk, rfl, ht, hbe⟩ := hrel
      have HT : Hid (ss.take k = tt.take k) := ht
      clear ht
      by_cases hlt : k < ss.length
      · have hlt' : k < tt.length := by have := HL.out; omega
        obtain ⟨b1, o1, rfl, hb1, hc1⟩ := (h.below hbe hB) (by omega)
        obtain ⟨b2, o2, rfl, hb2, hc2⟩ := (h'.below hbe hC) (by have := HL.out; omega)
        have hcx := (hc1 k hlt).1
        have hcx2 := (hc1 k hlt).2
        have hcy := (hc2 k hlt').1
        have hcy2 := (hc2 k hlt').2
        clear hc1 hc2
        have hl1 : b1 < wr.drew.heap.size := by have := hbe.size; show b1 < wr.heap.size; omega
        have hl2 : b2 < wr.drew.heap.size := by have := hbe.size; show b2 < wr.heap.size; omega
        have hq := eqHead_any ss[k].1 ss[k].2 tt[k].1 tt[k].2 wr.drew
        have hbd : Below w.heap.size w wr.drew := ⟨hbe.os, hbe.tape, hbe.output, hbe.size, hbe.block⟩
        by_cases he : ss[k] = tt[k]
        · have hd : decide (((ss[k].1, ss[k].2) : Hd) = (tt[k].1, tt[k].2)) = true := decide_eq_true he
          rw [hd] at hq
          have HE : Hid (ss[k] = tt[k]) := he
          clear hd he
          go_wp2
          go_region_held3 (fun W => W.cell? ⟨b1, o1 + k * 2, none⟩ = some (.string ss[k].1) ∧ W.cell? ⟨b1, o1 + k * 2 + 1, none⟩ = some (.string ss[k].2) ∧ W.cell? ⟨b2, o2 + k * 2, none⟩ = some (.string tt[k].1) ∧ W.cell? ⟨b2, o2 + k * 2 + 1, none⟩ = some (.string tt[k].2)) (first | exact ⟨hcx, hcx2, hcy, hcy2⟩ | exact ⟨(hb3.cell (p := ⟨b1, o1 + k * 2, none⟩) hl1).trans hcx, (hb3.cell (p := ⟨b1, o1 + k * 2 + 1, none⟩) hl1).trans hcx2, (hb3.cell (p := ⟨b2, o2 + k * 2, none⟩) hl2).trans hcy, (hb3.cell (p := ⟨b2, o2 + k * 2 + 1, none⟩) hl2).trans hcy2⟩) ((go_at_call 99; refine hq.mono ?_; rintro e w1 ⟨rfl, hb3⟩))
          all_goals
            have c1 := hbd.trans (hb3.mono hbd.size)
            clear hq hb3
            go_wp2
            go_roundw
            case rel => exact ⟨k + 1, by omega, by go_num, take_sameH k hlt hlt' HT.out HE.out, c1⟩
            case measure => simp [intOf]; omega
        · have hd : decide (((ss[k].1, ss[k].2) : Hd) = (tt[k].1, tt[k].2)) = false := decide_eq_false he
          rw [hd] at hq
          have HE : Hid (sameH ss tt = false) := sameH_not k hlt hlt' he
          clear hd he
          go_wp2
          go_region_held3 (fun W => W.cell? ⟨b1, o1 + k * 2, none⟩ = some (.string ss[k].1) ∧ W.cell? ⟨b1, o1 + k * 2 + 1, none⟩ = some (.string ss[k].2) ∧ W.cell? ⟨b2, o2 + k * 2, none⟩ = some (.string tt[k].1) ∧ W.cell? ⟨b2, o2 + k * 2 + 1, none⟩ = some (.string tt[k].2)) (first | exact ⟨hcx, hcx2, hcy, hcy2⟩ | exact ⟨(hb3.cell (p := ⟨b1, o1 + k * 2, none⟩) hl1).trans hcx, (hb3.cell (p := ⟨b1, o1 + k * 2 + 1, none⟩) hl1).trans hcx2, (hb3.cell (p := ⟨b2, o2 + k * 2, none⟩) hl2).trans hcy, (hb3.cell (p := ⟨b2, o2 + k * 2 + 1, none⟩) hl2).trans hcy2⟩) ((go_at_call 99; refine hq.mono ?_; rintro e w1 ⟨rfl, hb3⟩))
          all_goals
            have c1 := hbd.trans (hb3.mono hbd.size)
            clear hq hb3
            go_wp2
            go_ret
            exact ⟨ret_bool HE.out.symm, c1⟩
      · go_wp2
        go_ret
        exact ⟨ret_bool (sameH_all HL.out k hlt HT.out).symm, hbe⟩
  · have HS := sameH_len hlen
    go_enter Tryz.func65, Tryz.ntmps65
    go_wp2
    go_ret
    exact ⟨ret_bool HS.symm, Below.refl _ _⟩
end Go.Proofs.YtnoijfnpchihoaaGreatDoor
namespace Go.Proofs.YtnoijfnpchihoaaGreatDoor
open Go.RowKit M
set_option linter.unusedVariables false

theorem sameR_m {a b : Rq} (h : ¬ a.m = b.m) : sameR a b = false := by simp [sameR, h]
theorem sameR_p {a b : Rq} (h : ¬ a.p = b.p) : sameR a b = false := by simp [sameR, h]
theorem sameR_h {a b : Rq} (h : sameH a.hs b.hs = false) : sameR a b = false := by simp [sameR, h]
theorem sameR_b {a b : Rq} (h : ¬ a.b = b.b) : sameR a b = false := by simp [sameR, h]
theorem sameR_all {a b : Rq} (h1 : a.m = b.m) (h2 : a.p = b.p) (h3 : sameH a.hs b.hs = true) (h4 : a.b = b.b) : sameR a b = true := by simp [sameR, h1, h2, h3, h4]

theorem neStr {x y : ByteArray} (h : ¬ x = y) : (x.toList == y.toList) = false := by
  rw [beq_eq_false_iff_ne]; exact fun e => h (strInj e)
theorem eqStr {x y : ByteArray} (h : x = y) : (x.toList == y.toList) = true := by rw [h]; simp
end Go.Proofs.YtnoijfnpchihoaaGreatDoor
namespace Go.Proofs.YtnoijfnpchihoaaGreatDoor
open Go.RowKit M
set_option linter.unusedVariables false

set_option maxHeartbeats 1000000 in
theorem eqReq_any (a b : Option Addr) (r s : Rq) (cap cap' B C : Nat) (w : World) (h : Hds w B a r.hs) (h' : Hds w C b s.hs) (hB : B ≤ w.heap.size) (hC : C ≤ w.heap.size) (hl : r.hs.length ≤ maxLen) (hl' : s.hs.length ≤ maxLen) :
    Calls Tryz.prog 29 #[.agg #[.string r.m, .string r.p, .slice a r.hs.length cap, .string r.b], .agg #[.string s.m, .string s.p, .slice b s.hs.length cap', .string s.b]] w fun e w' => e = .returned (.bool (sameR r s)) ∧ Below w.heap.size w w' := by
  have HM : Hid (¬ r.m = s.m → sameR r s = false) := sameR_m
  have HP : Hid (¬ r.p = s.p → sameR r s = false) := sameR_p
  have HH : Hid (sameH r.hs s.hs = false → sameR r s = false) := sameR_h
  have HBd : Hid (¬ r.b = s.b → sameR r s = false) := sameR_b
  have HA : Hid (r.m = s.m → r.p = s.p → sameH r.hs s.hs = true → r.b = s.b → sameR r s = true) := sameR_all
  generalize sameR r s = z at *
  obtain ⟨rm, rp, hs, rb⟩ := r
  obtain ⟨sm, sp, ts, sb⟩ := s
  simp only at *
  by_cases h1 : rm = sm
  · by_cases h2 : rp = sp
    · have e1 := eqStr h1
      have e2 := eqStr h2
      have hb0 : Below w.heap.size w ((w.alloc (Obj.cells #[Value.string rm, Value.string rp, Value.slice a hs.length cap, Value.string rb] 26)).alloc (Obj.cells #[Value.string sm, Value.string sp, Value.slice b ts.length cap', Value.string sb] 26)) := ((Below.refl _ _).alloc (Nat.le_refl _) _).alloc (by simp) _
      have hE := eqHeadS_any a b hs ts cap cap' B C _ (h.below hb0 hB) (h'.below hb0 hC) (by simp; omega) (by simp; omega) hl hl'
      have HA' : Hid (sameH hs ts = true → rb = sb → z = true) := fun h3 h4 => HA.out h1 h2 h3 h4
      clear h1 h2 HA
      cases h3 : sameH hs ts
      · have hz := HH.out h3
        rw [h3] at hE
        subst hz
        clear h3
        go_enter Tryz.func29, Tryz.ntmps29
        go_wp2_with fail
        refine hE.mono ?_
        rintro e w1 ⟨rfl, hb1⟩
        have c1 := hb0.trans (hb1.mono hb0.size)
        go_wp2
        go_ret
        exact ⟨rfl, c1⟩
      · rw [h3] at hE
        by_cases h4 : rb = sb
        · have e4 := eqStr h4
          have hz := HA'.out h3 h4
          subst hz
          clear h3 h4
          go_enter Tryz.func29, Tryz.ntmps29
          go_wp2_with fail
          refine hE.mono ?_
          rintro e w1 ⟨rfl, hb1⟩
          have c1 := hb0.trans (hb1.mono hb0.size)
          obtain ⟨hc, hf⟩ := bcell hb1
          go_wp2
          go_ret
          exact ⟨rfl, c1⟩
        · have e4 := neStr h4
          have hz := HBd.out h4
          subst hz
          clear h3 h4
          go_enter Tryz.func29, Tryz.ntmps29
          go_wp2_with fail
          refine hE.mono ?_
          rintro e w1 ⟨rfl, hb1⟩
          have c1 := hb0.trans (hb1.mono hb0.size)
          obtain ⟨hc, hf⟩ := bcell hb1
          go_wp2
          go_ret
          exact ⟨rfl, c1⟩
    · have e1 := eqStr h1
      have e2 := neStr h2
      have hz := HP.out h2
      subst hz
      clear h1 h2
      go_enter Tryz.func29, Tryz.ntmps29
      go_wp2
      go_ret
      exact ⟨rfl, ((Below.refl _ _).alloc (Nat.le_refl _) _).alloc (by simp) _⟩
  · have e1 := neStr h1
    have hz := HM.out h1
    subst hz
    clear h1
    go_enter Tryz.func29, Tryz.ntmps29
    go_wp2
    go_ret
    exact ⟨rfl, ((Below.refl _ _).alloc (Nat.le_refl _) _).alloc (by simp) _⟩
end Go.Proofs.YtnoijfnpchihoaaGreatDoor
namespace Go.Proofs.YtnoijfnpchihoaaGreatDoor
open Go.RowKit
set_option linter.unusedVariables false

theorem info_u8 : (Tryz.prog.info? 5).map (fun i => (i.zero, i.size, i.bytes)) = some (some (.int .u8 0), 1, 1) := by kernel_rfl

/-- A new row of bytes, none of them frozen. -/
def NewB (w : World) (N : Nat) (l : List UInt8) : Prop := w.rowIs N 5 l.length (fun j => .int .u8 (l.getD j 0).toNat)
theorem NewB.byt {w : World} {N C : Nat} {l : List UInt8} (h : NewB w N l) (hN : N < C) : Byt w C (some ⟨N, 0, none⟩) l := fun _ =>
  ⟨N, 0, rfl, hN, fun j hj => by rw [Nat.zero_add, World.rowIs.cell h hj]; simp [List.getD, List.getElem?_eq_getElem hj]⟩
theorem NewB.next {w w' : World} {N : Nat} {l : List UInt8} (h : NewB w N l) (hb : Below w.heap.size w w') : NewB w' N l := World.rowIs.of_block h (hb.block _ (World.rowIs.lt h))

set_option maxHeartbeats 400000 in
theorem toByteS_any (a : Option Addr) (l : List UInt8) (cap B : Nat) (w : World) (h : Byt w B a l) (hB : B ≤ w.heap.size) (hl : l.length ≤ 1048576) :
    Calls Tryz.prog 28 #[.slice a l.length cap] w fun e w' => e = .returned (.slice (some ⟨w.heap.size, 0, none⟩) l.length l.length) ∧ NewB w' w.heap.size l ∧ Below w.heap.size w w' ∧ w.heap.size < w'.heap.size := by
  have hmk := run_make_row' (P := Tryz.prog) 22 5 (.int .u8 0) 1 Tryz.underlying22 info_u8 rfl .i64 .i64 l.length (by omega) (by omega) w
  go_enter Tryz.func28, Tryz.ntmps28
  go_wp2
  clear hmk
  go_loopw [4] (fun i wr => ∃ k : Nat, k ≤ l.length ∧ i = .int .i64 k ∧ wr.rowIs w.heap.size 5 l.length (fun j => if j < k then .int .u8 (l.getD j 0).toNat else .int .u8 0) ∧ Below w.heap.size w wr) (fun i _ => l.length - (intOf i).toNat)
  case atStart => exact ⟨0, Nat.zero_le _, rfl, (World.rowIs_made w _ _ _).congr (fun i _ => by simp), (Below.refl _ _).alloc (Nat.le_refl _) _⟩
  case round =>
    obtain ⟨k, hk, rfl, hrow, hbe⟩ := hrel
    by_cases hlt : k < l.length
    · obtain ⟨b, o, rfl, hb, hc⟩ := h (by omega)
      have hcx := (hbe.cell (p := ⟨b, o + k, none⟩) (Nat.lt_of_lt_of_le hb hB)).trans (hc k hlt)
      have hcn := hrow.cell hlt
      have hfn := hrow.frozen k
      have hrow2 := (hrow.set k (.int .u8 (l[k]).toNat)).congr (g := fun j => if j < k + 1 then .int .u8 (l.getD j 0).toNat else .int .u8 0) (fun j hj => by
        by_cases e : j = k
        · subst e; simp [List.getD, List.getElem?_eq_getElem hlt]
        · simp only [e, if_false]
          by_cases e2 : j < k
          · rw [if_pos e2, if_pos (by omega)]
          · rw [if_neg e2, if_neg (by omega)])
      have HR : Hid _ := hrow2
      clear hrow2
      go_wp2
      go_roundw
      case rel => exact ⟨k + 1, by omega, by go_num, HR.out, hbe.setCell (Nat.le_refl _) _⟩
      case measure => simp [intOf]; omega
    · go_wp2
      go_ret
      refine ⟨rfl, hrow.congr (fun j hj => by rw [if_pos (by omega)]), hbe, hrow.lt⟩
end Go.Proofs.YtnoijfnpchihoaaGreatDoor
namespace Go.Proofs.YtnoijfnpchihoaaGreatDoor
open Go.RowKit

/-- What the walk is told of a slice of integers that came in: it is nil; or it leads to a row of 'cap' cells, the numbers 'zs' (the first 'len' are its elements), each fitting its kind. -/
def IsRow (k : IntKind) (w : World) (a : Option Addr) (len cap : Nat) (zs : List Int) : Prop :=
  (a = none ∧ len = 0 ∧ cap = 0 ∧ zs = []) ∨
  ∃ x, a = some x ∧ len ≤ cap ∧ cap ≤ maxLen ∧ zs.length = cap ∧ (∀ i, i < zs.length → w.cell? (x.add i) = some (.int k (zs.getD i 0))) ∧ ∀ n ∈ zs, (Lit.int k n).wf = true
end Go.Proofs.YtnoijfnpchihoaaGreatDoor
namespace Go.Proofs.YtnoijfnpchihoaaGreatDoor
open Go.RowKit

theorem byt_of_row {w : World} {a : Option Addr} {len cap : Nat} {zs : List Int} (h : IsRow .u8 w a len cap zs) : ∃ l : List UInt8, l.length = len ∧ Byt w w.heap.size a l ∧ len ≤ cap ∧ cap ≤ maxLen := by
  rcases h with ⟨rfl, rfl, rfl, rfl⟩ | ⟨x, rfl, hl, hm, hz, hcell, hwz⟩
  · exact ⟨[], rfl, Byt.nil _ _ _, Nat.le_refl _, Nat.zero_le _⟩
  · have hlen : ((zs.take len).map fun z => UInt8.ofNat z.toNat).length = len := by rw [List.length_map, List.length_take]; omega
    refine ⟨(zs.take len).map fun z => UInt8.ofNat z.toNat, hlen, fun h0 => ?_, hl, hm⟩
    obtain ⟨b, off, spot⟩ := x
    have hc := hcell 0 (by omega)
    have hspot : spot = none := by simpa [Addr.add] using World.cell?_spot hc
    subst hspot
    have hb : b < w.heap.size := by
      have := World.block_lt_of_cell? w _ hc
      simpa [Addr.add] using this
    refine ⟨b, off, rfl, hb, fun j hj => ?_⟩
    have hj' : j < zs.length := by rw [hlen] at hj; omega
    have h1 := hcell j hj'
    have e : (⟨b, off, none⟩ : Addr).add j = ⟨b, off + j, none⟩ := by unfold Addr.add; split <;> simp_all
    rw [e] at h1
    have hg : zs.getD j 0 = zs[j] := by simp [List.getD, List.getElem?_eq_getElem hj']
    rw [hg] at h1
    have hb8 := bounds_u8 (hwz zs[j] (List.getElem_mem hj'))
    rw [h1]
    simp only [List.getElem_map, List.getElem_take, UInt8.toNat_ofNat']
    congr 2
    omega
end Go.Proofs.YtnoijfnpchihoaaGreatDoor
namespace Go.Proofs.YtnoijfnpchihoaaGreatDoor
open Go.RowKit M
set_option linter.unusedVariables false

theorem getR_heads (l : List UInt8) : (getR l).1.hs.length ≤ 8 := by
  by_cases h : (getR l).2.2 = 0
  · exact (req_parts (getR_ok h).1).2.2.2.1
  · rw [(getR_bad h).1]; exact Nat.zero_le _
theorem NewB.row {w : World} {N : Nat} {l : List UInt8} (h : NewB w N l) : RowC w N l.length :=
  ⟨World.rowIs.lt h, fun j hj => ⟨⟨_, World.rowIs.cell h hj⟩, World.rowIs.frozen h j⟩⟩
theorem belowO {w w' : World} {v : Value} {C : Nat} (h : w.grownBy w' v.ownBlock) (hC : ∀ g, v.ownBlock = some g → C ≤ g) (hz : C ≤ w.heap.size) : Below C w w' :=
  ⟨h.os, h.tape, h.output, h.size, fun k hk => h.block k (by omega) (fun e => by have := hC k e.symm; omega)⟩
theorem belowGo {w w' : World} {g C : Nat} (h : w.grownBy w' (some g)) (hC : C ≤ g) (hg : g < w.heap.size) : Below C w w' :=
  ⟨h.os, h.tape, h.output, h.size, fun k hk => h.block k (by omega) (fun e => by have := Option.some.inj e; omega)⟩
theorem BoxR.of {w w' : World} {N : Nat} {a : Option Addr} {cap : Nat} {r : Rq} (h : BoxR w N a cap r) (hs : w.heap.size ≤ w'.heap.size) (hb : w'.heap[N]? = w.heap[N]?) : BoxR w' N a cap r := by
  have hc : ∀ o, w'.cell? ⟨N, o, none⟩ = w.cell? ⟨N, o, none⟩ := fun o => World.cell?_of_block (a := ⟨N, o, none⟩) hb
  obtain ⟨h0, h1, h2, h3, h4⟩ := h
  exact ⟨Nat.lt_of_lt_of_le h0 hs, by rw [hc]; exact h1, by rw [hc]; exact h2, by rw [hc]; exact h3, by rw [hc]; exact h4⟩

set_option maxRecDepth 100000 in
set_option maxHeartbeats 4000000 in
theorem FnExactGetReq_walk (a : Option Addr) (len cap : Nat) (zs : List Int) (w : World) (h : IsRow .u8 w a len cap zs) (hL : laidMet Tryz.prog Rows.fnExactGetReqRow.laid w) (mx : Int) (hmx : w.cell? ⟨0, 0, none⟩ = some (.int .i64 mx)) :
    Calls Tryz.prog 6 #[.slice a len cap] w fun e w' => e = .returned (.bool true) ∧ Below w.heap.size w w' := by
  clear hL
  obtain ⟨l, rfl, hy, hlc, hcm⟩ := byt_of_row h
  have h0 : 0 < w.heap.size := World.block_lt_of_cell? w _ hmx
  clear h
  have HY := hide hy
  have HX := hide hmx
  have HX0 := hide h0
  clear hy hmx h0
  have hcm' := hcm
  unfold maxLen at hcm'
  by_cases h2 : l.length ≤ 1048576
  · have h2' : ¬ ((1048576 : Int) < l.length) := by omega
    have hlm : l.length ≤ maxLen := by unfold maxLen; omega
    have HTo := hide (fun (W : World) (hc : Below w.heap.size w W) => toByteS_any a l cap w.heap.size W (HY.out.below hc (Nat.le_refl _)) hc.size h2)
    have HSp := hide (fun (g : Nat) (W : World) (h : Byt W W.heap.size (some ⟨g, 0, none⟩) l) => specGetReq_any g 0 l l.length W h h2 (Nat.le_refl _) hlm)
    have HIm := hide (fun (g : Nat) (W : World) (h : Byt W W.heap.size (some ⟨g, 0, none⟩) l) (hc : Below w.heap.size w W) => getReq_any g 0 l l.length mx W h h2 (Nat.le_refl _) hlm (Nat.lt_of_lt_of_le HX0.out hc.size) ((hc.cell (p := ⟨0, 0, none⟩) HX0.out).trans HX.out))
    have hn8 := getR_heads l
    obtain ⟨R, P, C, hG⟩ : ∃ R P C, getR l = (R, P, C) := ⟨_, _, _, rfl⟩
    rw [hG] at HSp HIm hn8
    have hn8' : R.hs.length ≤ 8 := hn8
    have hnm : R.hs.length ≤ maxLen := by unfold maxLen; omega
    clear hG hn8
    go_enter Tryz.func6, Tryz.ntmps6
    go_wp2_with fail
    refine (HTo.out w (Below.refl _ _)).mono ?_
    rintro e w1 ⟨rfl, n1, c1, z1⟩
    have i1 := n1.byt z1
    clear n1
    go_wp2_with fail
    refine (HSp.out _ w1 i1).mono ?_
    rintro e w2 ⟨⟨hv2, rfl, r2⟩, b2⟩
    obtain ⟨a2, k2, rfl, d2⟩ := RowsH.hds r2
    have c2 := c1.trans (b2.mono c1.size)
    have C2 := hide c2
    clear i1 b2 z1 HSp r2
    obtain ⟨w3, hw3⟩ : ∃ w3, w2.alloc (Obj.cells #[.string R.m, .string R.p, .slice a2 R.hs.length k2, .string R.b] 26) = w3 := ⟨_, rfl⟩
    have c3 := c2.alloc c2.size (Obj.cells #[.string R.m, .string R.p, .slice a2 R.hs.length k2, .string R.b] 26)
    have BW3 := hide (BoxR.made w2 a2 k2 R 26)
    have d3 := d2.alloc (Nat.le_refl _) (Obj.cells #[.string R.m, .string R.p, .slice a2 R.hs.length k2, .string R.b] 26)
    have z3 : w3.heap.size = w2.heap.size + 1 := by rw [← hw3]; simp
    rw [hw3] at c3 BW3 d3
    have D3 := hide d3
    have Z3 := hide z3
    clear c2 d2 d3 z3
    go_wp2_with fail
    refine (HTo.out w3 c3).mono ?_
    rintro e w4 ⟨rfl, n4, b4, z4⟩
    have c4 := c3.trans (b4.mono c3.size)
    have N4 := hide n4
    have BW4 := hide (BW3.out.next b4)
    have D4 := hide (D3.out.below b4 (by have := Z3.out; omega))
    clear hw3 BW3 D3
    go_wp2_with fail
    refine (HIm.out _ w4 (n4.byt z4) c4).mono ?_
    rintro e w5 ⟨⟨hv5, rfl, r5⟩, b5⟩
    obtain ⟨a5, k5, rfl, d5⟩ := RowsH.hds r5
    have Hown : Hid (∀ g, (Value.slice a5 R.hs.length k5).ownBlock = some g → w4.heap.size ≤ g ∧ g < w5.heap.size) := hide (fun g hg => World.ownsRow.lt r5 g hg)
    have c5 := c4.trans (b5.mono c4.size)
    have N5 := hide (N4.out.next b5)
    have BW5 := hide (BW4.out.next b5)
    have zb4 : w2.heap.size ≤ w4.heap.size := by have := Z3.out; omega
    have D5 := hide (D4.out.below b5 zb4)
    have Zb := hide b5.size
    have Z4 := hide z4
    clear b4 b5 n4 N4 BW4 D4 zb4
    obtain ⟨w6, hw6⟩ : ∃ w6, w5.alloc (Obj.cells #[.string R.m, .string R.p, .slice a5 R.hs.length k5, .string R.b] 26) = w6 := ⟨_, rfl⟩
    have b6 : Below w5.heap.size w5 (w5.alloc (Obj.cells #[.string R.m, .string R.p, .slice a5 R.hs.length k5, .string R.b] 26)) := (Below.refl _ _).alloc (Nat.le_refl _) _
    have BG6 := hide (BoxR.made w5 a5 k5 R 26)
    rw [hw6] at b6 BG6
    have c6 := c5.trans (b6.mono c5.size)
    have N6 := hide (N5.out.next b6)
    have BW6 := hide (BW5.out.next b6)
    have D6 := hide (D5.out.below b6 (by have := Z3.out; have := Zb.out; have := Z4.out; omega))
    have R6 := hide (ownsH_below r5 b6)
    have E6 := hide (d5.below b6 (Nat.le_refl _))
    have z6 : w6.heap.size = w5.heap.size + 1 := by rw [← hw6]; simp
    have Z6 := hide z6
    have hle6 : w2.heap.size ≤ w6.heap.size := by have := Z3.out; have := Zb.out; have := Z4.out; omega
    have hle6' : w5.heap.size ≤ w6.heap.size := by omega
    obtain ⟨_, x0, x1, x2, x3⟩ := BW6.out
    obtain ⟨_, y0, y1, y2, y3⟩ := BG6.out
    clear b6 N5 BW5 D5 r5 d5 z6 z4
    go_wp2_with fail
    refine (eqReq_any _ _ R R _ _ _ _ w6 E6.out D6.out hle6' hle6 hnm hnm).mono ?_
    rintro e w7 ⟨rfl, b7⟩
    rw [sameR_refl]
    have c7 := c6.trans (b7.mono c6.size)
    have N7 := hide (N6.out.next b7)
    have BW7 := hide (BW6.out.next b7)
    have BG7 := hide (BG6.out.next b7)
    have D7 := hide (D6.out.below b7 hle6)
    have R7 := hide (ownsH_below R6.out b7)
    have E7 := hide (E6.out.below b7 hle6')
    have Z7 := hide b7.size
    clear hw6 x0 x1 x2 x3 y0 y1 y2 y3 N6 BW6 BG6 D6 R6 E6 b7 hle6 hle6'
    go_wp2_with fail
    refine (HTo.out w7 c7).mono ?_
    rintro e w8 ⟨rfl, n8, b8, z8⟩
    have c8 := c7.trans (b8.mono c7.size)
    have N8 := hide (N7.out.next b8)
    have BW8 := hide (BW7.out.next b8)
    have BG8 := hide (BG7.out.next b8)
    have D8 := hide (D7.out.below b8 (by have := Z3.out; have := Zb.out; have := Z4.out; have := Z6.out; have := Z7.out; omega))
    have R8 := hide (ownsH_below R7.out b8)
    have E8 := hide (E7.out.below b8 (by have := Z6.out; have := Z7.out; omega))
    have I8 := hide (n8.byt z8)
    have Z8 := hide b8.size
    clear n8 b8 z8 N7 BW7 BG7 D7 R7 E7
    go_wp2_with fail
    refine (eqByteS_any _ _ l l _ _ _ _ w8 (N8.out.byt (Nat.lt_succ_self _)) I8.out hlm hlm).mono ?_
    rintro e w9 ⟨rfl, b9⟩
    rw [sameY_refl]
    have c9 := c8.trans (b9 _)
    have N9 := hide (N8.out.next (b9 _))
    have BW9 := hide (BW8.out.next (b9 _))
    have BG9 := hide (BG8.out.next (b9 _))
    have zz8 : w2.heap.size ≤ w8.heap.size ∧ w5.heap.size < w8.heap.size := by have := Z3.out; have := Zb.out; have := Z4.out; have := Z6.out; have := Z7.out; have := Z8.out; omega
    have D9 := hide (D8.out.below (b9 w8.heap.size) zz8.1)
    have R9 := hide (ownsH_below R8.out (b9 _))
    have E9 := hide (E8.out.below (b9 w8.heap.size) (Nat.le_of_lt zz8.2))
    have Z9 := hide (b9 0).size
    clear b9 N8 BW8 BG8 D8 R8 E8 I8 zz8
    go_wp2_with fail
    refine (markByteS_any _ l.length _ w9 N9.out.row (by omega)).mono ?_
    rintro e wa ⟨rfl, ga, _⟩
    have hga : Below (w2.heap.size + 1) w9 wa := belowGo ga (Nat.le_of_eq Z3.out.symm) N9.out.row.1
    have zz9 : w2.heap.size < w9.heap.size ∧ w3.heap.size < w4.heap.size ∧ w4.heap.size ≤ w5.heap.size ∧ w5.heap.size < w9.heap.size := by have := Z3.out; have := Zb.out; have := Z4.out; have := Z6.out; have := Z7.out; have := Z8.out; have := Z9.out; omega
    have ca := c9.trans (hga.mono (Nat.le_succ_of_le C2.out.size))
    have BWa := hide (BW9.out.below hga (Nat.lt_succ_self _))
    have BGa := hide (BG9.out.of (w' := wa) ga.size (ga.block _ zz9.2.2.2 (fun e => by have := Option.some.inj e; omega)))
    have Da := hide (D9.out.below hga (Nat.le_succ _))
    have Ra := hide (RowsH.same (w' := wa) R9.out (fun k hk hk2 => ga.block k hk2 (fun e => by have := Option.some.inj e; omega)))
    obtain ⟨aa, ka, hva, da⟩ := RowsH.hds Ra.out
    cases hva
    have Ea := hide da
    have Za := hide ga.size
    have Zz9 := hide zz9
    have hla : w2.heap.size ≤ wa.heap.size := by have := ga.size; omega
    clear ga hga N9 BW9 BG9 D9 R9 E9 zz9 da
    have hnn : ¬ (1 + (l.length : Int) < 0) := by omega
    obtain ⟨_, x0, x1, x2, x3⟩ := BWa.out
    obtain ⟨_, y0, y1, y2, y3⟩ := BGa.out
    go_wp2_with fail
    refine (eqReq_any _ _ R R _ _ _ _ wa Ea.out Da.out (Nat.le_refl _) hla hnm hnm).mono ?_
    rintro e wb ⟨rfl, bb⟩
    rw [sameR_refl]
    have cb := ca.trans (bb.mono ca.size)
    have BWb := hide (BWa.out.next bb)
    have BGb := hide (BGa.out.next bb)
    have Db := hide (Da.out.below bb hla)
    have Rb := hide (ownsH_below Ra.out bb)
    have Zb2 := hide bb.size
    clear x0 x1 x2 x3 y0 y1 y2 y3 bb BWa BGa Da Ra Ea hla hnn
    obtain ⟨_, y0, y1, y2, y3⟩ := BGb.out
    go_wp2_with fail
    refine (markReq_own R _ _ w4.heap.size wb Rb.out (by omega)).mono ?_
    rintro e wc ⟨rfl, hc, gc⟩
    have zzb : w2.heap.size < w4.heap.size ∧ w4.heap.size ≤ w5.heap.size ∧ w5.heap.size < wb.heap.size := by have := Zz9.out; have := Za.out; have := Zb2.out; have := Z3.out; omega
    have hbc : Below w4.heap.size wb wc := belowO gc (fun g hg => (Hown.out g hg).1) (by omega)
    have cc := cb.trans (hbc.mono (by have := C2.out.size; omega))
    have BWc := hide (BWb.out.below hbc zzb.1)
    have BGc := hide (BGb.out.of (w' := wc) gc.size (gc.block _ zzb.2.2 (fun e => by have := Hown.out _ e.symm; omega)))
    have Dc := hide (Db.out.below hbc (Nat.le_of_lt zzb.1))
    have Hc := hide hc
    have zc := gc.size
    have zzc : w2.heap.size < w4.heap.size ∧ w4.heap.size ≤ w5.heap.size ∧ w5.heap.size < wc.heap.size := by omega
    have Zzc := hide zzc
    clear gc hbc BWb BGb Db Rb hc y0 y1 y2 y3 zzb zzc zc
    obtain ⟨_, y0, y1, y2, y3⟩ := BGc.out
    go_wp2_with fail
    refine (heldReq_own R _ _ wc Hc.out (by omega)).mono ?_
    rintro e wd ⟨rfl, bd⟩
    have cd := cc.trans (bd.mono cc.size)
    have BWd := hide (BWc.out.next bd)
    have BGd := hide (BGc.out.next bd)
    have Dd := hide (Dc.out.below bd (by have := Zzc.out; omega))
    have Hd' := hide (Hc.out.next bd)
    have Zd := hide bd.size
    clear bd BWc BGc Dc Hc y0 y1 y2 y3
    have hn2 : ¬ (1 + (R.hs.length : Int) * 2 < 0) := by omega
    go_wp2_with fail
    refine (HTo.out wd cd).mono ?_
    rintro e we ⟨rfl, ne, be, ze⟩
    have ce := cd.trans (be.mono cd.size)
    have BWe := hide (BWd.out.next be)
    have BGe := hide (BGd.out.next be)
    have De := hide (Dd.out.below be (by have := Zzc.out; have := Zd.out; omega))
    have He' := hide (Hd'.out.next be)
    have Ze := hide be.size
    clear be BWd BGd Dd Hd'
    go_wp2_with fail
    refine (HIm.out _ we (ne.byt ze) ce).mono ?_
    rintro e wf ⟨⟨hvf, rfl, rf⟩, bf⟩
    obtain ⟨af, kf, rfl, df⟩ := RowsH.hds rf
    have cf := ce.trans (bf.mono ce.size)
    have BWf := hide (BWe.out.next bf)
    have BGf := hide (BGe.out.next bf)
    have Df := hide (De.out.below bf (by have := Zzc.out; have := Zd.out; have := Ze.out; omega))
    have Hf' := hide (He'.out.next bf)
    have Zf := hide bf.size
    clear bf ne ze BWe BGe De He' rf
    obtain ⟨wg, hwg⟩ : ∃ wg, wf.alloc (Obj.cells #[.string R.m, .string R.p, .slice af R.hs.length kf, .string R.b] 26) = wg := ⟨_, rfl⟩
    have bg : Below wf.heap.size wf (wf.alloc (Obj.cells #[.string R.m, .string R.p, .slice af R.hs.length kf, .string R.b] 26)) := (Below.refl _ _).alloc (Nat.le_refl _) _
    have BHg := hide (BoxR.made wf af kf R 26)
    rw [hwg] at bg BHg
    have cg := cf.trans (bg.mono cf.size)
    have BWg := hide (BWf.out.next bg)
    have BGg := hide (BGf.out.next bg)
    have hlg : w2.heap.size ≤ wf.heap.size := by have := Zzc.out; have := Zd.out; have := Ze.out; have := Zf.out; omega
    have Dg := hide (Df.out.below bg hlg)
    have Eg := hide (df.below bg (Nat.le_refl _))
    have Hg' := hide (Hf'.out.next bg)
    have hlg2 : w2.heap.size ≤ wg.heap.size := Nat.le_trans hlg bg.size
    have hlg3 : wf.heap.size ≤ wg.heap.size := bg.size
    obtain ⟨_, x0, x1, x2, x3⟩ := BWg.out
    obtain ⟨_, y0, y1, y2, y3⟩ := BHg.out
    clear bg BWf BGf Df Hf' df hlg
    go_wp2_with fail
    refine (eqReq_any _ _ R R _ _ _ _ wg Eg.out Dg.out hlg3 hlg2 hnm hnm).mono ?_
    rintro e wh ⟨rfl, bh⟩
    rw [sameR_refl]
    have ch := cg.trans (bh.mono cg.size)
    have BGh := hide (BGg.out.next bh)
    have Hh' := hide (Hg'.out.next bh)
    clear hwg bh x0 x1 x2 x3 y0 y1 y2 y3 BGg Hg' Dg Eg
    obtain ⟨_, y0, y1, y2, y3⟩ := BGh.out
    go_wp2_with fail
    refine (heldReq_own R _ _ wh Hh'.out (by omega)).mono ?_
    rintro e wi ⟨rfl, bi⟩
    have ci := ch.trans (bi.mono ch.size)
    clear bi
    go_wp2
    go_ret
    exact ⟨rfl, ci⟩
  · have h2' : (1048576 : Int) < l.length := by omega
    go_enter Tryz.func6, Tryz.ntmps6
    go_wp2
    go_ret
    exact ⟨rfl, Below.refl _ _⟩
end Go.Proofs.YtnoijfnpchihoaaGreatDoor
namespace Go.Proofs.YtnoijfnpchihoaaGreatDoor

theorem returns_and_shaped {H : Type} {enc : TypeId × Value → H} {a : Assume} {C : Checked} {os : Os} {f : FuncId} {fn : Func} {s : ChangeSpec} {conds : List PathCond} {apart fresh handsOn again : Bool} {X : World → Array Value → Prop}
    (hX : ∀ (w w' : World) (args : Array Value), w.heap = w'.heap → X w args → X w' args)
    (own : ownKnob C.prog.godebug = none) (started : os.Started) (noInit : C.prog.inits.idxOf? f = none) (hfn : C.prog.funcs[f]? = some fn)
    (witness : ∃ (w : World) (tape : Tape) (i : Input), w.os = os ∧ (w.forCall tape i).Shaped C.prog ∧ i.vars = [] ∧ Input.okWide C.prog (w.forCall tape i) .any w.heap.size f i ∧
      ((s.pre enc C.prog fn conds apart (w.forCall tape i).memory i.args ∧ X (w.forCall tape i).memory i.args) ∧ sizedMet enc C.prog fn (OpenSpec.ofChange s) apart (w.forCall tape i).memory i.args) ∧ a.holds C.prog (lone (Frame.enter C.prog f i.args .normal) [] (w.forCall tape i)))
    (walk : ∀ (W : World) (base : Nat) (args : Array Value) (ds gs : List (DataW H)) (before : List MemPlace),
      (∀ (j : Nat) t v, fn.params[j]? = some t → args[j]? = some v → Value.okWide C.prog W .any base t v) →
      DataW.Whole enc C.prog fn.params.toList s.vars apart W args.toList ds gs before →
      conds.all (PathCond.test C.prog ⟨fn.params.toList, ds, s.plain.varTypes C.prog, gs⟩) = true →
      (DataW.weightsEach C.prog (fn.params.toList ++ s.plain.varTypes C.prog) (ds ++ gs)).all (· ≤ reachBytes) = true → X W args → W.ShapedOpen C.prog →
      a.holds C.prog (lone (Frame.enter C.prog f args .normal) [] W) →
      Calls C.prog f args W fun e W' => ∃ v, e = .returned v ∧ s.post enc C.prog fn apart fresh handsOn again W args v W') :
    ReturnsInHanded a C os f .any (fun w args => (s.pre enc C.prog fn conds apart w args ∧ X w args) ∧ sizedMet enc C.prog fn (OpenSpec.ofChange s) apart w args) (s.post enc C.prog fn apart fresh handsOn again) := by
  refine returnsInHanded_of_calls own started noInit witness ?_
  intro w tape i _ hsh _ hok hpre hholds
  obtain ⟨_, _, _, fn', hfn', _, _, _, _, hval⟩ := hok
  obtain rfl : fn' = fn := Option.some.inj (hfn'.symm.trans hfn)
  obtain ⟨⟨⟨ds, gs, before, hw, hc⟩, hx⟩, hz⟩ := hpre
  have hw' := DataW.Whole.of_heap (w' := w.forCall tape i) (by rfl) hw
  refine (walk (w.forCall tape i) w.heap.size i.args ds gs before hval hw' hc (hz.weights hw) (hX _ _ _ (by rfl) hx) hsh hholds).mono fun e W' ⟨v, he, hp⟩ => ?_
  subst he
  exact ChangeSpec.post_blind hp
end Go.Proofs.YtnoijfnpchihoaaGreatDoor
