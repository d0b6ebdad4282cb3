/-
  What strings.Cut does at one byte.
  What the program's marks do: a mark stands in an array.
-/
import Derived.Test.YtfhcniifennfbaaGreatDoorMathMark2
import Derived.Test.YtfhcniifennfbaaGreatDoorSliceEq
import Derived.Test.YtfhcniifennfbaaGreatDoorShelf
import Derived.WalkKit
import Derived.WalkSpells
import Derived.WalkLawsBesides
import Derived.Deep.Light
import Derived.Deep.QuietTactic
import Derived.BigQuiet
import Derived.Test.YtfhcniifennfbaaGreatDoorMathHex
import Derived.Test.YtfhcniifennfbaaGreatDoorKinds
namespace Go.Proofs.YtfhcniifennfbaaGreatDoor
open Go.RowKit M
set_option linter.unusedVariables false

theorem bytes_of (s : ByteArray) (l : List UInt8) (h : s.data.toList = l) : s = bytesOf l := by
  apply ByteArray.ext; apply Array.ext'; rw [h]; rfl
theorem below_drewC (w : World) (n : Nat) : Below w.heap.size w (w.drewN n) := ⟨rfl, rfl, rfl, Nat.le_refl _, fun _ _ => rfl⟩
theorem ret_three {a a' b b' : ByteArray} {c c' : Bool} (h1 : a = a') (h2 : b = b') (h3 : c = c') : Ending.returned (.tuple #[.string a, .string b, .bool c]) = .returned (.tuple #[.string a', .string b', .bool c']) := by rw [h1, h2, h3]

set_option maxHeartbeats 1000000 in
theorem cutLite_one (s : ByteArray) (c : UInt8) (w : World) (hs : s.size ≤ maxLen) :
    Calls Tryz.prog 233 #[.string s, .string ⟨#[c]⟩] w fun e w' => e = .returned (.tuple #[.string (bytesOf (upTo c s.data.toList)), .string (bytesOf (fromB c s.data.toList).tail), .bool (!(fromB c s.data.toList).isEmpty)]) ∧ Below w.heap.size w w' := by
  unfold maxLen at hs
  have el : s.data.toList.length = s.size := Array.length_toList
  have HI := hide (fun W : World => Tryz.stringslite_Index_one s c W)
  have hix : Lib.indexByte s.data.toList c = if fromB c s.data.toList = [] then -1 else ((upTo c s.data.toList).length : Int) := indexByte_upTo _ c
  have hup := upTo_end c s.data.toList
  by_cases hf : fromB c s.data.toList = []
  · rw [if_pos hf] at hix
    rw [hix] at HI
    have e := upTo_from c s.data.toList
    rw [hf, List.append_nil] at e
    have HR := hide (ret_three (bytes_of s _ e.symm) (show (⟨#[]⟩ : ByteArray) = bytesOf (fromB c s.data.toList).tail by rw [hf]; rfl) (show false = !(fromB c s.data.toList).isEmpty by rw [hf]; rfl))
    clear hix hf e hup el
    go_enter Tryz.func233, Tryz.ntmps233
    go_wp2_with fail
    refine (HI.out w).mono ?_
    rintro e w1 ⟨rfl, hw1⟩
    obtain rfl := hw1.symm
    go_wp2
    go_ret3
    exact ⟨HR.out, Below.refl _ _⟩
  · rw [if_neg hf] at hix
    rw [hix] at HI
    have hlt : (upTo c s.data.toList).length < s.size := by
      have h1 := hup.1
      have h2 : (upTo c s.data.toList).length ≠ s.data.toList.length := fun e => hf (hup.2.1 e)
      omega
    have x1 := extract_upTo s c 0
    have x2 := drop_upTo s c 0
    rw [List.drop_zero, Nat.zero_add] at x1 x2
    have HR := hide (ret_three (bytes_of _ _ x1) (bytes_of _ _ ((extract_rest s ((upTo c s.data.toList).length + 1)).trans x2)) (show true = !(fromB c s.data.toList).isEmpty by cases hq : fromB c s.data.toList with | nil => exact absurd hq hf | cons _ _ => rfl))
    obtain ⟨n, hn⟩ : ∃ n, (upTo c s.data.toList).length = n := ⟨_, rfl⟩
    rw [hn] at HI hlt HR
    have hn1 : (n : Int) + 1 ≤ s.size := by omega
    have hn2 : (n : Int) ≤ s.size := by omega
    have hw : IntKind.i64.wrap ((n : Int) + 1) = (n : Int) + 1 := by rw [IntKind.wrap_i64]; omega
    clear hix hf hup el x1 x2 hn
    go_enter Tryz.func233, Tryz.ntmps233
    go_wp2_with fail
    refine (HI.out w).mono ?_
    rintro e w1 ⟨rfl, hw1⟩
    obtain rfl := hw1.symm
    go_wp2
    go_quiet (fail)
    go_wp2
    go_ret3
    exact ⟨HR.out, below_drewC w nq⟩

set_option maxHeartbeats 1000000 in
theorem cut_any (s : ByteArray) (c : UInt8) (w : World) (hs : s.size ≤ maxLen) :
    Calls Tryz.prog 206 #[.string s, .string ⟨#[c]⟩] w fun e w' => e = .returned (.tuple #[.string (bytesOf (upTo c s.data.toList)), .string (bytesOf (fromB c s.data.toList).tail), .bool (!(fromB c s.data.toList).isEmpty)]) ∧ Below w.heap.size w w' := by
  go_enter Tryz.func206, Tryz.ntmps206
  go_wp2_with fail
  refine (cutLite_one s c w hs).mono ?_
  rintro e w1 ⟨rfl, b1⟩
  go_wp2
  go_ret3
  exact ⟨rfl, b1⟩
end Go.Proofs.YtfhcniifennfbaaGreatDoor
namespace Go.Proofs.YtfhcniifennfbaaGreatDoor
open Go.RowKit M
set_option linter.unusedVariables false

/-- A byte of a mark, as its array has it. -/
def vT (m : List UInt8) (i : Nat) : Int := ((m.getD i 0).toNat : Int)
/-- A mark in its block: ten bytes, and how many are used. -/
structure Tm (w : World) (b : Nat) (m : List UInt8) : Prop where
  lt : b < w.heap.size
  bs : ∀ i, i < 10 → w.cell? ⟨b, i, none⟩ = some (.int .u8 (m.getD i 0).toNat)
  us : w.cell? ⟨b, 10, none⟩ = some (.int .i64 m.length)
  fz : ∀ k, w.frozen? ⟨b, k, none⟩ = false
theorem Tm.alloc {w : World} {b : Nat} {m : List UInt8} (h : Tm w b m) (o : Obj) : Tm (w.alloc o) b m :=
  ⟨by have := h.lt; simp; omega, fun i hi => (World.cell?_alloc_past o b i h.lt).trans (h.bs i hi), (World.cell?_alloc_past o b 10 h.lt).trans h.us, fun k => (World.frozen?_alloc_past o b k h.lt).trans (h.fz k)⟩
theorem Tm.add {w : World} {b : Nat} {m : List UInt8} (h : Tm w b m) (c : UInt8) (hm : m.length < 10) : Tm ((w.setCell ⟨b, m.length, none⟩ (.int .u8 c.toNat)).setCell ⟨b, 10, none⟩ (.int .i64 ((m.length + 1 : Nat) : Int))) b (m ++ [c]) := by
  have hne : (⟨b, 10, none⟩ : Addr) ≠ ⟨b, m.length, none⟩ := fun e => by have := congrArg Addr.off e; simp at this; omega
  refine ⟨by simpa using h.lt, fun i hi => ?_, ?_, fun k => by rw [World.frozen?_setCell, World.frozen?_setCell]; exact h.fz k⟩
  · have h10 : (⟨b, 10, none⟩ : Addr) ≠ ⟨b, i, none⟩ := fun e => by have := congrArg Addr.off e; simp at this; omega
    rw [World.cell?_setCell_other _ _ _ _ h10]
    by_cases e : m.length = i
    · subst e
      rw [World.cell?_setCell_same _ _ _ (h.bs m.length hm)]
      simp [List.getD]
    · have hi2 : (⟨b, m.length, none⟩ : Addr) ≠ ⟨b, i, none⟩ := fun e' => e (congrArg Addr.off e')
      rw [World.cell?_setCell_other _ _ _ _ hi2, h.bs i hi]
      congr 4
      by_cases hl : i < m.length
      · simp [List.getD, List.getElem?_append_left hl]
      · simp only [List.getD]
        rw [List.getElem?_eq_none (by omega), List.getElem?_eq_none (by simp; omega)]
  · rw [World.cell?_setCell_same _ _ _ ((World.cell?_setCell_other _ _ _ _ (Ne.symm hne)).trans h.us)]
    simp

theorem Tm.drew {w : World} {b : Nat} {m : List UInt8} (h : Tm w b m) : Tm w.drew b m := ⟨h.lt, h.bs, h.us, h.fz⟩
theorem below_drewT {B : Nat} {w w1 : World} (h : Below B w w1) : Below B w w1.drew := ⟨h.os, h.tape, h.output, h.size, h.block⟩

set_option maxHeartbeats 2000000 in
theorem add_yes (b : Nat) (m : List UInt8) (c : UInt8) (w : World) (h : Tm w b m) (hm : m.length < 10) (hc : anyB (c.toNat : Int) [0] = true) :
    Calls Tryz.prog 235 #[.pointer (some ⟨b, 0, none⟩), .int .u8 c.toNat] w fun e w' => e = .returned (.bool true) ∧ Tm w' b (m ++ [c]) ∧ Below b w w' := by
  have h10 : ((m.length : Int) == 10) = false := by apply beq_eq_false_iff_ne.2; omega
  have hu := h.us
  have H := hide h
  have HC := hide hc
  have hfz := h.fz
  have hlt := h.lt
  clear h hc
  obtain ⟨k, hk⟩ : ∃ k, m.length = k := ⟨_, rfl⟩
  rw [hk] at hu h10 hm
  go_enter Tryz.func235, Tryz.ntmps235
  go_wp2_with (go_at_call 127; refine (isOneOf_any _ [0] 1 _ 0 1 _ rfl (by decide) (cells1 _ 0 161)).mono ?_; rintro e w' ⟨rfl, rfl⟩; rw [HC.out])
  have T2 := H.out.alloc (Obj.cells #[Value.int IntKind.i64 0] 161)
  have B2 : Below b w (w.alloc (Obj.cells #[Value.int IntKind.i64 0] 161)) := (Below.refl _ _).alloc (by omega) _
  obtain ⟨w2, hw2⟩ : ∃ w2, w.alloc (Obj.cells #[Value.int IntKind.i64 0] 161) = w2 := ⟨_, rfl⟩
  rw [hw2] at T2 B2 ⊢
  clear hw2 hu hfz hlt H
  have HT2 := hide T2
  have hu := T2.us
  have hfz := T2.fz
  have hck := T2.bs k hm
  rw [hk] at hu
  clear T2
  have hkk : k < 10 := hm
  go_region_with (fail)
  go_wp2
  go_ret
  have e1 : ((k : Int) + 1) = ((m.length + 1 : Nat) : Int) := by rw [hk]; simp
  rw [e1, ← hk]
  exact ⟨rfl, (HT2.out.add c (by omega)).drew, below_drewT ((B2.setCell (Nat.le_refl _) _).setCell (Nat.le_refl _) _)⟩

set_option maxHeartbeats 2000000 in
theorem add_full (b : Nat) (m : List UInt8) (c : UInt8) (w : World) (h : Tm w b m) (hm : m.length = 10) :
    Calls Tryz.prog 235 #[.pointer (some ⟨b, 0, none⟩), .int .u8 c.toNat] w fun e w' => e = .returned (.bool false) ∧ Below b w w' := by
  have hu := h.us
  rw [hm] at hu
  clear h hm
  go_enter Tryz.func235, Tryz.ntmps235
  go_wp2
  go_ret
  exact ⟨rfl, Below.refl _ _⟩

set_option maxHeartbeats 2000000 in
theorem add_no (b : Nat) (m : List UInt8) (c : UInt8) (w : World) (h : Tm w b m) (hm : m.length < 10) (hc : anyB (c.toNat : Int) [0] = false) :
    Calls Tryz.prog 235 #[.pointer (some ⟨b, 0, none⟩), .int .u8 c.toNat] w fun e w' => e = .returned (.bool false) ∧ Below b w w' := by
  have h10 : ((m.length : Int) == 10) = false := by apply beq_eq_false_iff_ne.2; omega
  have hu := h.us
  have HC := hide hc
  have hlt := h.lt
  clear h hc
  obtain ⟨k, hk⟩ : ∃ k, m.length = k := ⟨_, rfl⟩
  rw [hk] at hu h10 hm
  clear hk
  go_enter Tryz.func235, Tryz.ntmps235
  go_wp2_with (go_at_call 127; refine (isOneOf_any _ [0] 1 _ 0 1 _ rfl (by decide) (cells1 _ 0 161)).mono ?_; rintro e w' ⟨rfl, rfl⟩; rw [HC.out])
  go_ret
  exact ⟨rfl, (Below.refl _ _).alloc (by omega) _⟩

theorem Tm.made (w : World) (T : TypeId) : Tm (w.alloc (Obj.cells #[.int .u8 0, .int .u8 0, .int .u8 0, .int .u8 0, .int .u8 0, .int .u8 0, .int .u8 0, .int .u8 0, .int .u8 0, .int .u8 0, .int .i64 0] T)) w.heap.size [] :=
  ⟨by simp, fun i hi => by
    match i, hi with
    | 0, _ => simp
    | 1, _ => simp
    | 2, _ => simp
    | 3, _ => simp
    | 4, _ => simp
    | 5, _ => simp
    | 6, _ => simp
    | 7, _ => simp
    | 8, _ => simp
    | 9, _ => simp, by simp, fun k => World.frozen?_alloc_new w _ _ k⟩
theorem Tm.next {w w' : World} {b L : Nat} {m : List UInt8} (h : Tm w b m) (hb : Below L w w') (hL : b < L) : Tm w' b m :=
  ⟨Nat.lt_of_lt_of_le h.lt hb.size, fun i hi => (hb.cell (p := ⟨b, i, none⟩) hL).trans (h.bs i hi), (hb.cell (p := ⟨b, 10, none⟩) hL).trans h.us, fun k => (hb.frozen (p := ⟨b, k, none⟩) hL).trans (h.fz k)⟩

theorem cutPre_any (s : ByteArray) (c : UInt8) (w : World) :
    Calls Tryz.prog 97 #[.string s, .string ⟨#[c]⟩] w fun e w' => e = .returned (.tuple #[.string (bytesOf (if s.data.toList.head? = some c then s.data.toList.drop 1 else s.data.toList)), .bool (decide (s.data.toList.head? = some c))]) ∧ w' = w := by
  have h := Tryz.strings_CutPrefix s ⟨#[c]⟩ w
  have e1 : (⟨#[c]⟩ : ByteArray).data.toList = [c] := rfl
  rw [e1, prefix_c] at h
  by_cases hh : s.data.toList.head? = some c
  · rw [trimPrefix_yes hh] at h
    rw [if_pos hh]
    exact h
  · rw [trimPrefix_no hh] at h
    rw [if_neg hh]
    exact h

theorem slice_10 (N k : Nat) (hk : k ≤ 10) (W : World) : (Instr.sliceAt 229 (.pointer (some ⟨N, 0, none⟩)) none (some (.int .i64 (k : Int))) none).run Tryz.prog W = .ok (.slice (some ⟨N, 0, none⟩) k 10) W := by
  have hal : Tryz.prog.arrayLen 229 = 10 := by kernel_rfl
  have hel : Tryz.prog.underlying 229 = some (.array 10 5) := by kernel_rfl
  have h := run_sliceAt_array_h (P := Tryz.prog) W 229 ⟨N, 0, none⟩ (by simp [Program.arrayLen, Program.elem, hel]) .i64 (k : Int) (by omega) (by rw [hal]; omega)
  rw [h]
  go_simp

set_option maxRecDepth 100000 in
set_option maxHeartbeats 2000000 in
theorem text_any (m : List UInt8) (w : World) (hm : m.length ≤ 10) :
    Calls Tryz.prog 210 #[.agg #[.int .u8 (vT m 0), .int .u8 (vT m 1), .int .u8 (vT m 2), .int .u8 (vT m 3), .int .u8 (vT m 4), .int .u8 (vT m 5), .int .u8 (vT m 6), .int .u8 (vT m 7), .int .u8 (vT m 8), .int .u8 (vT m 9), .int .i64 m.length]] w fun e w' => e = .returned (.string (bytesOf (tagL m))) ∧ Below w.heap.size w w' := by
  have hc : ∀ W : World, W = w.alloc (Obj.cells #[.int .u8 (vT m 0), .int .u8 (vT m 1), .int .u8 (vT m 2), .int .u8 (vT m 3), .int .u8 (vT m 4), .int .u8 (vT m 5), .int .u8 (vT m 6), .int .u8 (vT m 7), .int .u8 (vT m 8), .int .u8 (vT m 9), .int .i64 m.length] 231) → (convert 124 9 (.slice (some ⟨w.heap.size, 0, none⟩) m.length 10)).run Tryz.prog W = .ok (.string ⟨m.toArray⟩) W := by
    rintro W rfl
    refine conv_row (fun j hj => ⟨?_, World.frozen?_alloc_new w _ _ j⟩) rfl
    have hj10 : j < 10 := by omega
    have e : (m[j].toNat : Int) = vT m j := by simp [vT, List.getD, List.getElem?_eq_getElem hj]
    rw [e]
    match j, hj10 with
    | 0, _ => simp
    | 1, _ => simp
    | 2, _ => simp
    | 3, _ => simp
    | 4, _ => simp
    | 5, _ => simp
    | 6, _ => simp
    | 7, _ => simp
    | 8, _ => simp
    | 9, _ => simp
  have hc' := hc _ rfl
  clear hc
  have HR : Hid ((⟨#[34]⟩ : ByteArray) ++ ⟨m.toArray⟩ ++ ⟨#[34]⟩ = bytesOf (tagL m)) := by
    apply ByteArray.ext
    simp [bytesOf, tagL]
  obtain ⟨k, hk⟩ : ∃ k, m.length = k := ⟨_, rfl⟩
  rw [hk] at hc' hm ⊢
  have hsl := slice_10 w.heap.size k hm
  go_enter Tryz.func210, Tryz.ntmps210
  go_wp2
  go_ret
  rw [HR.out]
  exact ⟨rfl, (Below.refl _ _).alloc (Nat.le_refl _) _⟩
end Go.Proofs.YtfhcniifennfbaaGreatDoor
