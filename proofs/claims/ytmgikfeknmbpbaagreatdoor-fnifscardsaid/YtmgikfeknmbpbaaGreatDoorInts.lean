/-
  The library's table of powers of ten, as the row lists it; that it stays where only new memory is laid.
  What the program's NumText does.
  What impl.condOk and impl.condText do.
  Slices of texts: what they hold, and that it stays.
  What impl.listText and impl.IfText do.
  IfText on both sides, over views.
  Texts of lists that are drawn and bent: spec.DrawParseIf.
  Rows of numbers that a call makes.
  Tokens that are drawn, and what is asked of lists.
  Lists, tokens and a tag that are drawn: spec.DrawEvalIf.
  What laws.sameIf does.
  Slices of numbers: what they hold, and that it stays.
-/
import Derived.Test.YtmgikfeknmbpbaaGreatDoorRows
import Derived.Test.YtmgikfeknmbpbaaGreatDoorShelf
import Derived.WalkKit
import Derived.WalkLawsBesides
import Derived.Lib.AppendIntMem
import Derived.Stop.LaidErr
import Derived.Test.YtmgikfeknmbpbaaGreatDoorMathNum
import Derived.Test.YtmgikfeknmbpbaaGreatDoorCutIf1
import Derived.Test.YtmgikfeknmbpbaaGreatDoorSpecSameIf
import Derived.WalkSpells
import Derived.Deep.Light
import Derived.Deep.QuietTactic
import Derived.Deep.OwnRows
import Derived.Lib.Join
import Derived.Test.YtmgikfeknmbpbaaGreatDoorSpecIfText
import Derived.Test.YtmgikfeknmbpbaaGreatDoorAnyIf
import Derived.Deep.RegionHeld3
import Derived.Test.YtmgikfeknmbpbaaGreatDoorProg
import Derived.Test.YtmgikfeknmbpbaaGreatDoorGenRow
import Derived.Test.YtmgikfeknmbpbaaGreatDoorGenLeaf
import Derived.Test.YtmgikfeknmbpbaaGreatDoorAt7
import Derived.Laws.StructEq
namespace Go.Proofs.YtmgikfeknmbpbaaGreatDoor
open Go.RowKit

theorem pow_glob : Tryz.prog.globalNamed "internal/strconv.uint64pow10" = some 3 := by kernel_rfl
theorem pow_data : (Rows.laid_internal_strconv_uint64pow10 : DataW Unit) = Lib.tabData .u64 Lib.pow10Tab := by kernel_rfl

def PowTab (w : World) : Prop := Lib.TabIs Tryz.prog w "internal/strconv.uint64pow10" .u64 Lib.pow10Tab

theorem PowTab.lt {w : World} (h : PowTab w) : 3 < w.heap.size := by
  have h' : w.var? Tryz.prog "internal/strconv.uint64pow10" = some _ := h
  unfold World.var? at h'
  rw [pow_glob] at h'
  simp only [Option.bind_some] at h'
  rcases Nat.lt_or_ge 3 w.heap.size with h1 | h1
  · exact h1
  · rw [Array.getElem?_eq_none h1] at h'
    simp at h'

theorem PowTab.below {w w' : World} (h : PowTab w) (hb : Below w.heap.size w w') : PowTab w' := var?_below hb pow_glob h.lt h

theorem powTab_of {W : World} {rest : List (String × DataW Unit)} (h : laidMet Tryz.prog (("internal/strconv.uint64pow10", Rows.laid_internal_strconv_uint64pow10) :: rest) W) : PowTab W := by
  rw [pow_data] at h
  exact Lib.tabIs_of_head pow_glob (t := 158) (n := 20) (e := 146) (by kernel_rfl) (by kernel_rfl) (by kernel_rfl) (by kernel_rfl) (by kernel_rfl) h
end Go.Proofs.YtmgikfeknmbpbaaGreatDoor
namespace Go.Proofs.YtmgikfeknmbpbaaGreatDoor
open Go.RowKit M

theorem itoa_pos (m : Nat) : Lib.itoa (m : Int) = Lib.decDigits m := by
  unfold Lib.itoa
  rw [if_neg (by omega), Int.toNat_natCast]

theorem itoa_calls (m : Nat) (w : World) (hn : (m : Int) ≤ 9223372036854775807) (ht : PowTab w) :
    Calls Tryz.prog 80 #[.int .i64 m] w fun e w' => e = .returned (.string ⟨(Lib.decDigits m).toArray⟩) ∧ Below w.heap.size w w' := by
  refine (Tryz.strconv_Itoa (m : Int) (by omega) hn w ht).mono ?_
  rintro e w' ⟨rfl, k, os, rfl⟩
  rw [itoa_pos]
  exact ⟨rfl, Lib.below_grow _ w (Nat.le_refl _) k os⟩

set_option maxHeartbeats 400000 in
theorem numText_any (n : Int) (w : World) (hn : n ≤ 9223372036854775807) (ht : PowTab w) :
    Calls Tryz.prog 63 #[.int .i64 n] w fun e w' => e = .returned (.string ⟨(Lib.decDigits n.toNat).toArray⟩) ∧ Below w.heap.size w w' := by
  by_cases h : n < 0
  · have e : n.toNat = 0 := by omega
    have e0 : max n 0 = ((0 : Nat) : Int) := by omega
    rw [e]
    go_enter Tryz.func63, Tryz.ntmps63
    go_wp2_with fail
    rw [show (0 : Int) = ((0 : Nat) : Int) from rfl]
    refine (itoa_calls 0 w (by omega) ht).mono ?_
    rintro e w' ⟨rfl, hb⟩
    go_wp2
    go_ret
    exact ⟨rfl, hb⟩
  · obtain ⟨m, rfl⟩ := Int.eq_ofNat_of_zero_le (by omega : 0 ≤ n)
    rw [Int.toNat_natCast]
    go_enter Tryz.func63, Tryz.ntmps63
    go_wp2_with fail
    refine (itoa_calls m w hn ht).mono ?_
    rintro e w' ⟨rfl, hb⟩
    go_wp2
    go_ret
    exact ⟨rfl, hb⟩
end Go.Proofs.YtmgikfeknmbpbaaGreatDoor
namespace Go.Proofs.YtmgikfeknmbpbaaGreatDoor
open Go.RowKit M
set_option linter.unusedVariables false

theorem bytes_backI (s : ByteArray) : bytesOf s.data.toList = s := ByteArray.ext (by simp [bytesOf])
theorem ret_boolI {a b : Bool} (h : a = b) : (Ending.returned (.bool a) : Ending) = .returned (.bool b) := by rw [h]
theorem emptyBI (s : ByteArray) : s.toList.isEmpty = decide (s.data.toList = []) := by
  rw [ByteArray.toList_eq]
  cases s.data.toList <;> simp
/-- Whether one can be told. -/
def okBn (c : Cn) : Bool := if c.tg.data.toList = [] then inB c.tk 1 9999 else decide (c.tk = 0) && (match cutT c.tg.data.toList with | some (m, r) => decide (0 < m.length) && decide (r = []) | none => false)
theorem okBn_iff (c : Cn) : okBn c = true ↔ okC c := by
  unfold okBn okC
  by_cases h : c.tg.data.toList = []
  · rw [if_pos h]
    constructor
    · intro e
      unfold inB at e
      simp at e
      exact .inl ⟨h, e.1, e.2⟩
    · rintro (⟨_, h1, h2⟩ | ⟨_, m, h1, _⟩)
      · unfold inB; simp; omega
      · rw [h1] at h; exact absurd h (tag_ne m)
  · rw [if_neg h]
    constructor
    · intro e
      rw [Bool.and_eq_true] at e
      obtain ⟨e1, e2⟩ := e
      cases hc : cutT c.tg.data.toList with
      | none => rw [hc] at e2; cases e2
      | some p =>
        obtain ⟨m, r⟩ := p
        rw [hc] at e2
        simp only [Bool.and_eq_true, decide_eq_true_eq] at e2
        obtain ⟨q1, q2, q3⟩ := cutT_in hc
        rw [e2.2, List.append_nil] at q3
        exact .inr ⟨by simpa using e1, m, by rw [← q3, bytes_backI], List.length_pos_iff.1 e2.1, q1, q2⟩
    · rintro (⟨h1, _⟩ | ⟨h1, m, h2, h3, h4, h5⟩)
      · exact absurd h1 h
      · have hc : cutT c.tg.data.toList = some (m, []) := by
          have := cutT_tag (r := []) h4 h5
          rw [List.append_nil] at this
          rw [h2]
          exact this
        rw [hc, h1]
        simp [List.length_pos_iff.2 h3]

set_option maxRecDepth 100000 in
set_option maxHeartbeats 4000000 in
theorem condOk_any (c : Cn) (w : World) (htg : c.tg.size ≤ 1048576) :
    Calls Tryz.prog 38 #[.agg #[.bool c.no, .int .i64 c.tk, .string c.tg]] w fun e w' => e = .returned (.bool (okBn c)) ∧ Below w.heap.size w w' := by
  obtain ⟨no, tk, tg⟩ := c
  simp only at htg
  have hb0 := (Below.refl w.heap.size w).alloc (Nat.le_refl _) (Obj.cells #[.bool no, .int .i64 tk, .string tg] 57)
  have HB := hide hb0
  have HX := hide (BoxV.made w [.bool no, .int .i64 tk, .string tg] 57)
  have HE := hide (show okBn ⟨no, tk, tg⟩ = if tg.data.toList = [] then inB tk 1 9999 else decide (tk = 0) && (match cutT tg.data.toList with | some (m, r) => decide (0 < m.length) && decide (r = []) | none => false) from rfl)
  have hE0 := emptyBI tg
  generalize okBn ⟨no, tk, tg⟩ = res at *
  clear hb0
  show Calls Tryz.prog 38 #[.agg #[.bool no, .int .i64 tk, .string tg]] w _
  by_cases h : tg.data.toList = []
  · rw [if_pos h] at HE
    rw [decide_eq_true h] at hE0
    have HT := hide (fun W => tokenOk_any tk W)
    generalize inB tk 1 9999 = z at *
    clear h HX
    go_enter Tryz.func38, Tryz.ntmps38
    go_wp2_with fail
    refine (HT.out _).mono ?_
    rintro e w1 ⟨rfl, hw⟩
    subst hw
    go_wp2
    go_ret
    exact ⟨ret_boolI HE.out.symm, HB.out⟩
  · rw [if_neg h] at HE
    rw [decide_eq_false h] at hE0
    have htl : tg.data.toList.length ≤ 1048576 := by rw [Array.length_toList]; exact htg
    clear h
    have hq : ∃ (t r : ByteArray) (ok : Bool), (∀ W, Calls Tryz.prog 62 #[.string tg] W fun e w' => e = .returned (.tuple #[.string t, .string r, .bool ok]) ∧ Below W.heap.size W w') ∧ res = (decide (tk = 0) && (ok && r.toList.isEmpty)) := by
      cases hc : cutT tg.data.toList with
      | none =>
        have h1 := fun W => cutFull_none tg.data.toList W htl hc
        rw [bytes_backI] at h1
        rw [hc] at HE
        exact ⟨_, _, _, h1, by rw [HE.out]; rfl⟩
      | some p =>
        obtain ⟨m, r⟩ := p
        have h1 := fun W => cutFull_some tg.data.toList m r W htl hc
        rw [bytes_backI] at h1
        rw [hc] at HE
        exact ⟨_, _, _, h1, by rw [HE.out, emptyBI]; rfl⟩
    obtain ⟨t, r, ok, hF, hres⟩ := hq
    have HF := hide hF
    have HR := hide hres
    obtain ⟨em, hem⟩ : ∃ z, r.toList.isEmpty = z := ⟨_, rfl⟩
    rw [hem] at HR
    clear hF hres HE htl
    go_enter Tryz.func38, Tryz.ntmps38
    go_wp2_with fail
    refine (HF.out _).mono ?_
    rintro e w1 ⟨rfl, b1⟩
    have HC := hide (HB.out.trans (b1.mono HB.out.size))
    have q1 := ((HX.out.next b1).2 1 _ rfl).1
    clear b1 HX HF
    by_cases hz : tk = 0
    · have hz1 : (tk == 0) = true := by simpa using hz
      rw [decide_eq_true hz] at HR
      clear hz
      cases ok
      · go_wp2
        go_ret
        exact ⟨ret_boolI (by rw [HR.out]; rfl), HC.out⟩
      · go_wp2
        go_ret
        exact ⟨ret_boolI (by rw [HR.out]; rfl), HC.out⟩
    · have hz1 : (tk == 0) = false := by simpa using hz
      rw [decide_eq_false hz] at HR
      clear hz
      go_wp2
      go_ret
      exact ⟨ret_boolI (by rw [HR.out]; rfl), HC.out⟩

set_option maxRecDepth 100000 in
set_option maxHeartbeats 4000000 in
theorem condText_any (c : Cn) (w : World) (htk : c.tk ≤ 9223372036854775807) (htg : c.tg.size ≤ 1048576) (ht : PowTab w) :
    Calls Tryz.prog 39 #[.agg #[.bool c.no, .int .i64 c.tk, .string c.tg]] w fun e w' => e = .returned (.string (bytesOf (condT c))) ∧ Below w.heap.size w w' := by
  obtain ⟨no, tk, tg⟩ := c
  simp only at htk htg
  have hb0 := (Below.refl w.heap.size w).alloc (Nat.le_refl _) (Obj.cells #[.bool no, .int .i64 tk, .string tg] 57)
  have HQ := hide (numText_any tk (w.alloc (Obj.cells #[.bool no, .int .i64 tk, .string tg] 57)) htk (ht.below hb0))
  have HB := hide hb0
  have HX := hide (BoxV.made w [.bool no, .int .i64 tk, .string tg] 57)
  have HE := hide (show condT ⟨no, tk, tg⟩ = (if no = true then notL else []) ++ (if tg.data.toList = [] then 60 :: (Lib.decDigits tk.toNat ++ [62]) else 91 :: (tg.data.toList ++ [93])) from rfl)
  have hE0 := emptyBI tg
  have hdl := dec_le tk htk
  have HDL := hide hdl
  generalize Lib.decDigits tk.toNat = d at *
  clear hb0 hdl ht
  show Calls Tryz.prog 39 #[.agg #[.bool no, .int .i64 tk, .string tg]] w _
  by_cases h : tg.data.toList = []
  · rw [if_pos h] at HE
    rw [decide_eq_true h] at hE0
    have hds : (⟨d.toArray⟩ : ByteArray).size ≤ 20 := HDL.out
    obtain ⟨D, hD⟩ : ∃ z : ByteArray, (⟨d.toArray⟩ : ByteArray) = z := ⟨_, rfl⟩
    have HD := hide (show D.data.toList = d by rw [← hD])
    rw [hD] at HQ hds
    clear h hD
    cases no
    · have HR := hide (show (⟨#[60]⟩ : ByteArray) ++ D ++ ⟨#[62]⟩ = bytesOf (condT ⟨false, tk, tg⟩) by rw [HE.out, ← HD.out]; apply ByteArray.ext; simp [bytesOf])
      go_enter Tryz.func39, Tryz.ntmps39
      go_wp2_with fail
      refine HQ.out.mono ?_
      rintro e w1 ⟨rfl, b1⟩
      have HC := hide (HB.out.trans (b1.mono HB.out.size))
      have q0 := ((HX.out.next b1).2 0 _ rfl).1
      clear b1
      go_wp2
      go_ret
      exact ⟨congrArg (fun s => Ending.returned (Value.string s)) HR.out, HC.out⟩
    · have HR := hide (show (⟨#[78, 111, 116, 32]⟩ : ByteArray) ++ (⟨#[60]⟩ ++ D ++ ⟨#[62]⟩) = bytesOf (condT ⟨true, tk, tg⟩) by rw [HE.out, ← HD.out]; apply ByteArray.ext; simp [bytesOf, notL])
      go_enter Tryz.func39, Tryz.ntmps39
      go_wp2_with fail
      refine HQ.out.mono ?_
      rintro e w1 ⟨rfl, b1⟩
      have HC := hide (HB.out.trans (b1.mono HB.out.size))
      have q0 := ((HX.out.next b1).2 0 _ rfl).1
      clear b1
      go_wp2
      go_ret
      exact ⟨congrArg (fun s => Ending.returned (Value.string s)) HR.out, HC.out⟩
  · rw [if_neg h] at HE
    rw [decide_eq_false h] at hE0
    clear h
    cases no
    · have HR := hide (show (⟨#[91]⟩ : ByteArray) ++ tg ++ ⟨#[93]⟩ = bytesOf (condT ⟨false, tk, tg⟩) by rw [HE.out]; apply ByteArray.ext; simp [bytesOf])
      go_enter Tryz.func39, Tryz.ntmps39
      go_wp2
      go_ret
      exact ⟨congrArg (fun s => Ending.returned (Value.string s)) HR.out, HB.out⟩
    · have HR := hide (show (⟨#[78, 111, 116, 32]⟩ : ByteArray) ++ (⟨#[91]⟩ ++ tg ++ ⟨#[93]⟩) = bytesOf (condT ⟨true, tk, tg⟩) by rw [HE.out]; apply ByteArray.ext; simp [bytesOf, notL])
      go_enter Tryz.func39, Tryz.ntmps39
      go_wp2
      go_ret
      exact ⟨congrArg (fun s => Ending.returned (Value.string s)) HR.out, HB.out⟩
end Go.Proofs.YtmgikfeknmbpbaaGreatDoor
namespace Go.Proofs.YtmgikfeknmbpbaaGreatDoor
open Go.RowKit

/-- The texts that a slice holds, in a block below B. -/
def Strs (w : World) (B : Nat) (a : Option Addr) (ss : List ByteArray) : Prop :=
  0 < ss.length → ∃ b o, a = some ⟨b, o, none⟩ ∧ b < B ∧ ∀ j (hj : j < ss.length), w.cell? ⟨b, o + j, none⟩ = some (.string ss[j])

theorem Strs.below {w w' : World} {B C : Nat} {a : Option Addr} {ss : List ByteArray} (h : Strs w B a ss) (hb : Below C w w') (hB : B ≤ C) : Strs w' B a ss := fun h0 => by
  obtain ⟨b, o, e, hbB, hc⟩ := h h0
  exact ⟨b, o, e, hbB, fun j hj => (hb.cell (p := ⟨b, o + j, none⟩) (Nat.lt_of_lt_of_le hbB hB)).trans (hc j hj)⟩

theorem Strs.mono {w : World} {B C : Nat} {a : Option Addr} {ss : List ByteArray} (h : Strs w B a ss) (hB : B ≤ C) : Strs w C a ss := fun h0 => by
  obtain ⟨b, o, e, hbB, hc⟩ := h h0
  exact ⟨b, o, e, Nat.lt_of_lt_of_le hbB hB, hc⟩

theorem Strs.take {w : World} {B : Nat} {a : Option Addr} {ss : List ByteArray} (h : Strs w B a ss) (k : Nat) : Strs w B a (ss.take k) := fun h0 => by
  have hl : (ss.take k).length ≤ ss.length := by rw [List.length_take]; omega
  obtain ⟨b, o, e, hbB, hc⟩ := h (by omega)
  exact ⟨b, o, e, hbB, fun j hj => by rw [hc j (by omega), List.getElem_take]⟩

theorem info_str : (Tryz.prog.info? 9).map (fun i => (i.zero, i.size, i.bytes)) = some (some (.string ByteArray.empty), 1, 16) := by kernel_rfl

/-- A row of texts that the call made, as a slice. -/
theorem Strs.row {w : World} {N n C : Nat} {ss : List ByteArray} {f : Nat → Value} (h : w.rowIs N 9 n f) (hn : ss.length ≤ n) (hf : ∀ j (hj : j < ss.length), f j = .string ss[j]) (hN : N < C) : Strs w C (some ⟨N, 0, none⟩) ss := fun _ =>
  ⟨N, 0, rfl, hN, fun j hj => by rw [Nat.zero_add, h.cell (by omega), hf j hj]⟩

/-- All of them short enough. -/
def Short (ss : List ByteArray) : Prop := ∀ s ∈ ss, s.size ≤ maxLen
theorem Short.at {ss : List ByteArray} (h : Short ss) (k : Nat) (hk : k < ss.length) : (ss[k]).size ≤ maxLen := h _ (List.getElem_mem hk)

def sumS (ss : List ByteArray) : Nat := (ss.map (·.size)).sum
theorem sumS_snoc (ss : List ByteArray) (k : Nat) (hk : k < ss.length) : sumS (ss.take (k + 1)) = sumS (ss.take k) + (ss[k]).size := by
  unfold sumS
  rw [List.take_succ_eq_append_getElem hk, List.map_append, List.sum_append]
  simp only [List.map_cons, List.map_nil, List.sum_cons, List.sum_nil, Nat.add_zero]
theorem sumS_all (ss : List ByteArray) (k : Nat) (hk : ¬ k < ss.length) : ss.take k = ss := List.take_of_length_le (by omega)
theorem sumS_mem (ss : List ByteArray) (s : ByteArray) (h : s ∈ ss) : s.size ≤ sumS ss := by
  induction ss with
  | nil => cases h
  | cons x l ih =>
    simp only [sumS, List.map_cons, List.sum_cons] at *
    rcases List.mem_cons.1 h with rfl | h
    · omega
    · have := ih h; omega

theorem str_inj {a b : ByteArray} (h : a.toList = b.toList) : a = b := by
  rw [ByteArray.toList_eq, ByteArray.toList_eq] at h
  exact ByteArray.ext (Array.ext' h)

/-- Whether two lists of texts are the same. -/
def sameL (ss tt : List ByteArray) : Bool := decide (ss = tt)
theorem sameL_refl (ss : List ByteArray) : sameL ss ss = true := by simp [sameL]
theorem sameL_len {ss tt : List ByteArray} (h : ¬ ss.length = tt.length) : sameL ss tt = false := by
  simp only [sameL, decide_eq_false_iff_not]; intro e; exact h (by rw [e])
theorem sameL_not {ss tt : List ByteArray} (k : Nat) (h1 : k < ss.length) (h2 : k < tt.length) (h : ¬ ss[k] = tt[k]) : sameL ss tt = false := by
  simp only [sameL, decide_eq_false_iff_not]; intro e; subst e; exact h rfl
theorem sameL_all {ss tt : List ByteArray} (hl : ss.length = tt.length) (k : Nat) (hk : ¬ k < ss.length) (h : ss.take k = tt.take k) : sameL ss tt = true := by
  rw [List.take_of_length_le (by omega), List.take_of_length_le (by omega)] at h
  simp [sameL, h]
theorem take_same {ss tt : List ByteArray} (k : Nat) (h1 : k < ss.length) (h2 : k < tt.length) (h0 : ss.take k = tt.take k) (h : ss[k] = tt[k]) : ss.take (k + 1) = tt.take (k + 1) := by
  rw [List.take_succ_eq_append_getElem h1, List.take_succ_eq_append_getElem h2, h0, h]
end Go.Proofs.YtmgikfeknmbpbaaGreatDoor
namespace Go.Proofs.YtmgikfeknmbpbaaGreatDoor
open Go.RowKit M
set_option linter.unusedVariables false

theorem join_is (xs : List (List UInt8)) : Lib.join xs [32] = joinT xs := rfl
/-- A row of texts that is being filled. -/
def rowT (ts : List ByteArray) (k : Nat) : Nat → Value := fun j => if j < k then .string (ts.getD j ByteArray.empty) else .string ByteArray.empty
theorem rowT_next (ts : List ByteArray) (k : Nat) (hk : k < ts.length) (j : Nat) : (if j = k then Value.string ts[k] else rowT ts k j) = rowT ts (k + 1) j := by
  unfold rowT
  by_cases e : j = k
  · subst e; simp [List.getD, List.getElem?_eq_getElem hk]
  · simp only [e, if_false]
    by_cases e2 : j < k
    · rw [if_pos e2, if_pos (by omega)]
    · rw [if_neg e2, if_neg (by omega)]
theorem condT_len {c : Cn} (h : okC c) (htg : c.tg.size ≤ 1048576) : (condT c).length ≤ 1048602 := by
  rw [← oneT_ok h]
  have := oneT_len (c := c) (by rcases h with ⟨_, h1, h2⟩ | ⟨h1, _⟩ <;> omega)
  omega
theorem listT_len {cs : List Cn} (h : okLs cs) (htg : ∀ c ∈ cs, c.tg.size ≤ 1048576) : (joinT (cs.map condT)).length ≤ 4194412 := by
  have h1 := joinT_len (cs.map condT)
  rw [List.map_map] at h1
  have h2 := sum_le ((fun x : List UInt8 => x.length + 1) ∘ condT) (fun _ => 1048603) cs (fun c hc => by
    have := condT_len (h.2.2 c hc) (htg c hc)
    simp only [Function.comp]
    omega)
  have h3 : (cs.map fun _ => 1048603).sum = 1048603 * cs.length := by
    clear h h1 h2 htg
    induction cs with
    | nil => rfl
    | cons x r ih => rw [List.map_cons, List.sum_cons, ih, List.length_cons, Nat.mul_add]; omega
  have := h.2.1
  omega
theorem wrap_text (l : List UInt8) : (⟨#[40]⟩ : ByteArray) ++ bytesOf l ++ ⟨#[41]⟩ = bytesOf (40 :: (l ++ [41])) := by
  apply ByteArray.ext
  simp [bytesOf]
/-- What one list is told as. -/
def ListIs (cs : List Cn) (e : Ending) : Prop := ∃ s z, e = .returned (.tuple #[.string s, .bool z]) ∧ (z = true → okLs cs ∧ s = bytesOf (listT cs)) ∧ (z = false → ¬ okLs cs)
theorem listIs_no {cs : List Cn} (h : ¬ okLs cs) (s : ByteArray) : ListIs cs (.returned (.tuple #[.string s, .bool false])) := ⟨s, false, rfl, fun e => (by cases e), fun _ => h⟩
theorem listIs_yes {cs : List Cn} {s : ByteArray} (h : okLs cs) (hs : s = bytesOf (listT cs)) : ListIs cs (.returned (.tuple #[.string s, .bool true])) := ⟨s, true, rfl, fun _ => ⟨h, hs⟩, fun e => (by cases e)⟩

set_option maxRecDepth 100000 in
set_option maxHeartbeats 8000000 in
theorem listText_any (cs : List Cn) (pa : Option Addr) (pc B : Nat) (w : World) (h : Cns w B pa cs) (hB : B ≤ w.heap.size) (hl : cs.length ≤ 1048576) (htg : ∀ c ∈ cs, c.tg.size ≤ 1048576) (hwf : ∀ c ∈ cs, wfC c) (ht : PowTab w) :
    Calls Tryz.prog 21 #[.slice pa cs.length pc] w fun e w' => ListIs cs e ∧ Below w.heap.size w w' := by
  have HH := hide h
  have HTG := hide htg
  have HWF := hide hwf
  have HPT := hide (fun W (hb : Below w.heap.size w W) => ht.below hb)
  clear h htg hwf ht
  by_cases hln : 1 ≤ cs.length ∧ cs.length ≤ 4
  rotate_left
  · have HN := hide (show ¬ okLs cs from fun e => hln ⟨e.1, e.2.1⟩)
    by_cases h1 : cs.length < 1
    · have h2 : (cs.length : Int) < 1 := by omega
      clear hln h1
      go_enter Tryz.func21, Tryz.ntmps21
      go_wp2
      go_ret2
      exact ⟨listIs_no HN.out _, Below.refl _ _⟩
    · have h2 : ¬ (cs.length : Int) < 1 := by omega
      have h3 : (4 : Int) < (cs.length : Int) := by omega
      clear hln h1
      go_enter Tryz.func21, Tryz.ntmps21
      go_wp2
      go_ret2
      exact ⟨listIs_no HN.out _, Below.refl _ _⟩
  obtain ⟨hl1, hl4⟩ := hln
  have h2 : ¬ (cs.length : Int) < 1 := by omega
  have h3 : ¬ (4 : Int) < (cs.length : Int) := by omega
  have hmk := fun w => run_make_row' (P := Tryz.prog) 40 9 (.string ByteArray.empty) 16 Tryz.underlying40 info_str rfl .i64 .i64 cs.length (by omega) (by omega) w
  obtain ⟨ts, hts⟩ : ∃ z, cs.map (fun c => bytesOf (condT c)) = z := ⟨_, rfl⟩
  have htl : ts.length = cs.length := by rw [← hts, List.length_map]
  have HTS := hide (show ∀ k (hk : k < cs.length) (hk2 : k < ts.length), ts[k] = bytesOf (condT cs[k]) from fun k hk hk2 => by subst hts; rw [List.getElem_map])
  have HTM := hide (show ts.map (·.data.toList) = cs.map condT by subst hts; rw [List.map_map]; rfl)
  have HTL := hide htl
  clear hts htl
  go_enter Tryz.func21, Tryz.ntmps21
  go_wp2
  clear hmk
  go_loopw [20] (fun i wr => ∃ k : Nat, k ≤ cs.length ∧ i = .int .i64 k ∧ Hid (∀ j (hj : j < cs.length), j < k → okC cs[j]) ∧ Hid (wr.rowIs w.heap.size 9 cs.length (rowT ts k)) ∧ Below w.heap.size w wr) (fun i _ => cs.length - (intOf i).toNat)
  case atStart => exact ⟨0, Nat.zero_le _, rfl, fun j _ hj => absurd hj (Nat.not_lt_zero _), (World.rowIs_made w _ _ _).congr (fun i _ => by simp [rowT]), (Below.refl _ _).alloc (Nat.le_refl _) _⟩
  case round =>
    obtain ⟨k, hk, rfl, HOK, HROW, hbe⟩ := hrel
    by_cases hlt : k < cs.length
    · have hkt : k < ts.length := by have := HTL.out; omega
      obtain ⟨b, o, rfl, hb, hc⟩ := HH.out (by omega)
      obtain ⟨d0, d1, d2⟩ := hc k hlt
      have hbw : b < w.heap.size := by omega
      have q0 := (hbe.cell (p := ⟨b, o + k * 3, none⟩) hbw).trans d0
      have q1 := (hbe.cell (p := ⟨b, o + k * 3 + 1, none⟩) hbw).trans d1
      have q2 := (hbe.cell (p := ⟨b, o + k * 3 + 2, none⟩) hbw).trans d2
      have hx1 := HTG.out _ (List.getElem_mem hlt)
      have hx2 : cs[k].tk ≤ 9223372036854775807 := HWF.out _ (List.getElem_mem hlt)
      have HTK := hide (HTS.out k hlt hkt)
      have HNO := hide (fun (e : okBn cs[k] = false) => show ¬ okLs cs from fun h => by
        have := (okBn_iff cs[k]).2 (h.2.2 _ (List.getElem_mem hlt))
        rw [e] at this
        cases this)
      have HYE := hide (fun (e : okBn cs[k] = true) => show ∀ j (hj : j < cs.length), j < k + 1 → okC cs[j] from fun j hj hjk => if h : j = k then by subst h; exact (okBn_iff _).1 e else HOK.out j hj (by omega))
      obtain ⟨x, hx⟩ : ∃ x, cs[k] = x := ⟨_, rfl⟩
      rw [hx] at q0 q1 q2 hx1 hx2 HTK HNO HYE
      clear hc hx d0 d1 d2
      have hb1 := (Below.refl wr.heap.size wr).alloc (Nat.le_refl _) (Obj.cells #[.bool x.no, .int .i64 x.tk, .string x.tg] 57)
      have HB1 := hide (hbe.trans (hb1.mono hbe.size))
      have HX := hide (BoxV.made wr [.bool x.no, .int .i64 x.tk, .string x.tg] 57)
      have HQ := hide (condOk_any x (wr.alloc (Obj.cells #[.bool x.no, .int .i64 x.tk, .string x.tg] 57)) hx1)
      have HROW1 := hide (HROW.out.of_block (hb1.block _ HROW.out.lt))
      obtain ⟨z, hz⟩ : ∃ z, okBn x = z := ⟨_, rfl⟩
      rw [hz] at HQ HNO HYE
      clear hz hb1 HROW
      go_wp2_with fail
      refine HQ.out.mono ?_
      rintro e w1 ⟨rfl, b1⟩
      have HB2 := hide (HB1.out.trans (b1.mono HB1.out.size))
      have HX1 := hide (HX.out.next b1)
      have HROW2 := hide (HROW1.out.of_block (b1.block _ HROW1.out.lt))
      have y0 := (HX1.out.2 0 _ rfl).1
      have y1 := (HX1.out.2 1 _ rfl).1
      have y2 := (HX1.out.2 2 _ rfl).1
      clear b1 HQ HX HROW1 HB1 q0 q1 q2
      cases z
      · have HN := hide (HNO.out rfl)
        go_wp2
        go_ret2
        exact ⟨listIs_no HN.out _, HB2.out⟩
      · have HY := hide (HYE.out rfl)
        have HQ2 := hide (condText_any x w1 hx2 hx1 (HPT.out w1 HB2.out))
        clear HNO HYE
        go_wp2_with fail
        refine HQ2.out.mono ?_
        rintro e w2 ⟨rfl, b2⟩
        have hrow3 := HROW2.out.of_block (b2.block _ HROW2.out.lt)
        have hcn := hrow3.cell hlt
        have hfn := hrow3.frozen k
        have hrow4 := (hrow3.set k (.string (bytesOf (condT x)))).congr (g := rowT ts (k + 1)) (fun j hj => by
          rw [← rowT_next ts k hkt j, HTK.out])
        have HR4 := hide hrow4
        have HB3 := hide ((HB2.out.trans (b2.mono HB2.out.size)).setCell (p := ⟨w.heap.size, k, none⟩) (Nat.le_refl _) (.string (bytesOf (condT x))))
        clear hrow4 hrow3 b2 HB2 HQ2 HROW2 y0 y1 y2
        go_wp2
        go_roundw
        case rel => exact ⟨k + 1, by omega, by go_num, HY, HR4, HB3.out⟩
        case measure => simp [intOf]; omega
    · have HOKL := hide (show okLs cs from ⟨hl1, hl4, fun c hc => by
        obtain ⟨j, hj, rfl⟩ := List.mem_iff_getElem.1 hc
        exact HOK.out j hj (by omega)⟩)
      have hlen := listT_len HOKL.out HTG.out
      have hJ := Tryz.strings_Join w.heap.size 0 cs.length ts ⟨#[32]⟩ wr (fun j x hx => by
        have hj : j < ts.length := (List.getElem?_eq_some_iff.1 hx).1
        have hjc : j < cs.length := by have := HTL.out; omega
        rw [Nat.zero_add, HROW.out.cell hjc]
        unfold rowT
        rw [if_pos (by omega)]
        rw [List.getD_eq_getElem?_getD, hx]; rfl) HROW.out.lt (by have := HTL.out; omega) (by have := HTL.out; omega) (by
          rw [HTM.out]
          show (Lib.join _ [32]).length ≤ _
          rw [join_is]
          omega)
      rw [HTL.out, HTM.out] at hJ
      rw [show Lib.join (cs.map condT) (⟨#[32]⟩ : ByteArray).data.toList = joinT (cs.map condT) from rfl] at hJ
      have HJ := hide hJ
      have HW := hide (wrap_text (joinT (cs.map condT)))
      have HBL := hide (show bytesOf (40 :: (joinT (cs.map condT) ++ [41])) = bytesOf (listT cs) from rfl)
      obtain ⟨J, hJe⟩ : ∃ z : ByteArray, (⟨(joinT (cs.map condT)).toArray⟩ : ByteArray) = z := ⟨_, rfl⟩
      have hJs : J.size ≤ 4194412 := by rw [← hJe]; exact hlen
      have HW2 := hide (show ⟨#[40]⟩ ++ J ++ ⟨#[41]⟩ = bytesOf (listT cs) by rw [← hJe]; exact HW.out)
      rw [hJe] at HJ
      clear hJ hJe hlen HW HBL
      go_wp2_with fail
      refine HJ.out.mono ?_
      rintro e w2 ⟨rfl, b2⟩
      have HC := hide (hbe.trans (b2.mono hbe.size))
      clear b2
      go_wp2
      go_ret2
      exact ⟨listIs_yes HOKL.out HW2.out, HC.out⟩

theorem ifT_len {ls : List (List Cn)} (h : okIf ls) (htg : ∀ cs ∈ ls, ∀ c ∈ cs, c.tg.size ≤ 1048576) : (joinT (ls.map listT)).length ≤ 20000000 := by
  have h1 := joinT_len (ls.map listT)
  rw [List.map_map] at h1
  have h2 := sum_le ((fun x : List UInt8 => x.length + 1) ∘ listT) (fun _ => 4194415) ls (fun cs hc => by
    have := listT_len (h.2.2 cs hc) (htg cs hc)
    simp only [Function.comp, listT, List.length_cons, List.length_append, List.length_nil]
    omega)
  have h3 : (ls.map fun _ => 4194415).sum = 4194415 * ls.length := by
    clear h h1 h2 htg
    induction ls with
    | nil => rfl
    | cons x r ih => rw [List.map_cons, List.sum_cons, ih, List.length_cons, Nat.mul_add]; omega
  have := h.2.1
  omega
/-- What lists are told as. -/
def TxtE (ls : List (List Cn)) (e : Ending) : Prop := ∃ s, e = .returned (.string s) ∧ (okIf ls → s = bytesOf (ifT ls)) ∧ (¬ okIf ls → s = ⟨#[]⟩)
theorem txtE_no {ls : List (List Cn)} (h : ¬ okIf ls) : TxtE ls (.returned (.string ⟨#[]⟩)) := ⟨_, rfl, fun e => absurd e h, fun _ => rfl⟩
theorem txtE_yes {ls : List (List Cn)} {s : ByteArray} (h : okIf ls) (hs : s = bytesOf (ifT ls)) : TxtE ls (.returned (.string s)) := ⟨_, rfl, fun _ => hs, fun e => absurd h e⟩

set_option maxRecDepth 100000 in
set_option maxHeartbeats 8000000 in
theorem ifText_any (ls : List (List Cn)) (a : Option Addr) (cap B : Nat) (w : World) (h : Cnss w B a ls) (hB : B ≤ w.heap.size) (hl : ls.length ≤ 1048576) (hl2 : ∀ cs ∈ ls, cs.length ≤ 1048576) (htg : ∀ cs ∈ ls, ∀ c ∈ cs, c.tg.size ≤ 1048576) (hwf : ∀ cs ∈ ls, ∀ c ∈ cs, wfC c) (ht : PowTab w) :
    Calls Tryz.prog 6 #[.slice a ls.length cap] w fun e w' => TxtE ls e ∧ Below w.heap.size w w' := by
  have HH := hide h
  have HTG := hide htg
  have HWF := hide hwf
  have HL2 := hide hl2
  have HPT := hide (fun W (hb : Below w.heap.size w W) => ht.below hb)
  clear h htg hwf ht hl2
  by_cases hln : ls.length ≤ 4
  rotate_left
  · have HN := hide (show ¬ okIf ls from fun e => hln e.2.1)
    have h3 : (4 : Int) < (ls.length : Int) := by omega
    clear hln
    go_enter Tryz.func6, Tryz.ntmps6
    go_wp2
    go_ret
    exact ⟨txtE_no HN.out, Below.refl _ _⟩
  have h3 : ¬ (4 : Int) < (ls.length : Int) := by omega
  have hmk := fun w => run_make_row' (P := Tryz.prog) 40 9 (.string ByteArray.empty) 16 Tryz.underlying40 info_str rfl .i64 .i64 ls.length (by omega) (by omega) w
  obtain ⟨ts, hts⟩ : ∃ z, ls.map (fun c => bytesOf (listT c)) = z := ⟨_, rfl⟩
  have htl : ts.length = ls.length := by rw [← hts, List.length_map]
  have HTS := hide (show ∀ k (hk : k < ls.length) (hk2 : k < ts.length), ts[k] = bytesOf (listT ls[k]) from fun k hk hk2 => by subst hts; rw [List.getElem_map])
  have HTM := hide (show ts.map (·.data.toList) = ls.map listT by subst hts; rw [List.map_map]; rfl)
  have HTL := hide htl
  clear hts htl
  go_enter Tryz.func6, Tryz.ntmps6
  go_wp2
  clear hmk
  go_loopw [16] (fun i wr => ∃ k : Nat, k ≤ ls.length ∧ i = .int .i64 k ∧ Hid (∀ j (hj : j < ls.length), j < k → okLs ls[j]) ∧ Hid (wr.rowIs w.heap.size 9 ls.length (rowT ts k)) ∧ Below w.heap.size w wr) (fun i _ => ls.length - (intOf i).toNat)
  case atStart => exact ⟨0, Nat.zero_le _, rfl, fun j _ hj => absurd hj (Nat.not_lt_zero _), (World.rowIs_made w _ _ _).congr (fun i _ => by simp [rowT]), (Below.refl _ _).alloc (Nat.le_refl _) _⟩
  case round =>
    obtain ⟨k, hk, rfl, HOK, HROW, hbe⟩ := hrel
    by_cases hlt : k < ls.length
    · have hkt : k < ts.length := by have := HTL.out; omega
      obtain ⟨b, o, rfl, hb, hc⟩ := HH.out (by omega)
      obtain ⟨pa, pc, d0, hin⟩ := hc k hlt
      have hbw : b < w.heap.size := by omega
      have q0 := (hbe.cell (p := ⟨b, o + k, none⟩) hbw).trans d0
      have HTK := hide (HTS.out k hlt hkt)
      have HQ := hide (listText_any ls[k] pa pc B wr (hin.ps.below hbe hB) (Nat.le_trans hB hbe.size) (HL2.out _ (List.getElem_mem hlt)) (HTG.out _ (List.getElem_mem hlt)) (HWF.out _ (List.getElem_mem hlt)) (HPT.out wr hbe))
      have HNO := hide (fun (e : ¬ okLs ls[k]) => show ¬ okIf ls from fun h => e (h.2.2 _ (List.getElem_mem hlt)))
      have HYE := hide (fun (e : okLs ls[k]) => show ∀ j (hj : j < ls.length), j < k + 1 → okLs ls[j] from fun j hj hjk => if h : j = k then by subst h; exact e else HOK.out j hj (by omega))
      obtain ⟨cs, hx⟩ : ∃ x, ls[k] = x := ⟨_, rfl⟩
      rw [hx] at q0 HTK HNO HYE HQ
      clear hc hx d0 hin
      go_wp2_with fail
      refine HQ.out.mono ?_
      rintro e w1 ⟨⟨s, z, rfl, hy, hn⟩, b1⟩
      have HB2 := hide (hbe.trans (b1.mono hbe.size))
      have HROW2 := hide (HROW.out.of_block (b1.block _ HROW.out.lt))
      clear b1 HQ HROW q0
      cases z
      · have HN := hide (HNO.out (hn rfl))
        clear hy hn
        go_wp2
        go_ret
        exact ⟨txtE_no HN.out, HB2.out⟩
      · obtain ⟨hy1, hy2⟩ := hy rfl
        have HY := hide (HYE.out hy1)
        have hcn := HROW2.out.cell hlt
        have hfn := HROW2.out.frozen k
        have hrow4 := (HROW2.out.set k (.string s)).congr (g := rowT ts (k + 1)) (fun j hj => by
          rw [← rowT_next ts k hkt j, HTK.out, hy2])
        have HR4 := hide hrow4
        have HB3 := hide (HB2.out.setCell (p := ⟨w.heap.size, k, none⟩) (Nat.le_refl _) (.string s))
        clear hrow4 HB2 HROW2 HNO HYE hy hn hy1 hy2
        go_wp2
        go_roundw
        case rel => exact ⟨k + 1, by omega, by go_num, HY, HR4, HB3.out⟩
        case measure => simp [intOf]; omega
    · have HALL := hide (show ∀ cs ∈ ls, okLs cs from fun c hc => by
        obtain ⟨j, hj, rfl⟩ := List.mem_iff_getElem.1 hc
        exact HOK.out j hj (by omega))
      have hlen : (joinT (ls.map listT)).length ≤ 20000000 := by
        by_cases h0 : ls.length = 0
        · have : ls = [] := List.eq_nil_of_length_eq_zero h0
          subst this
          simp [joinT]
        · exact ifT_len ⟨by omega, hln, HALL.out⟩ HTG.out
      have hJ := Tryz.strings_Join w.heap.size 0 ls.length ts ⟨#[32]⟩ wr (fun j x hx => by
        have hj : j < ts.length := (List.getElem?_eq_some_iff.1 hx).1
        have hjc : j < ls.length := by have := HTL.out; omega
        rw [Nat.zero_add, HROW.out.cell hjc]
        unfold rowT
        rw [if_pos (by omega)]
        rw [List.getD_eq_getElem?_getD, hx]; rfl) HROW.out.lt (by have := HTL.out; omega) (by have := HTL.out; omega) (by
          rw [HTM.out]
          show (Lib.join _ [32]).length ≤ _
          rw [join_is]
          omega)
      rw [HTL.out, HTM.out] at hJ
      rw [show Lib.join (ls.map listT) (⟨#[32]⟩ : ByteArray).data.toList = joinT (ls.map listT) from rfl] at hJ
      have HJ := hide hJ
      have HRET := hide (show TxtE ls (.returned (.string ⟨(joinT (ls.map listT)).toArray⟩)) from by
        by_cases h0 : ls.length = 0
        · have : ls = [] := List.eq_nil_of_length_eq_zero h0
          subst this
          exact txtE_no (fun e => by have := e.1; simp at this)
        · exact txtE_yes ⟨by omega, hln, HALL.out⟩ rfl)
      obtain ⟨J, hJe⟩ : ∃ z : ByteArray, (⟨(joinT (ls.map listT)).toArray⟩ : ByteArray) = z := ⟨_, rfl⟩
      rw [hJe] at HJ HRET
      clear hJ hJe hlen
      go_wp2_with fail
      refine HJ.out.mono ?_
      rintro e w2 ⟨rfl, b2⟩
      have HC := hide (hbe.trans (b2.mono hbe.size))
      clear b2
      go_wp2
      go_ret
      exact ⟨HRET.out, HC.out⟩
end Go.Proofs.YtmgikfeknmbpbaaGreatDoor
namespace Go.Proofs.YtmgikfeknmbpbaaGreatDoor
open Go.RowKit M
set_option linter.unusedVariables false

theorem txt_is (ls : List (List Cn)) : ∃ s, TxtIs ls s := by
  by_cases h : okIf ls
  · exact ⟨_, fun _ => rfl, fun e => absurd h e⟩
  · exact ⟨_, fun e => absurd e h, fun _ => rfl⟩
theorem specIfText_gen (l : List (List Cn)) (tt : ByteArray) (htt : TxtIs l tt) (u : Value) (W : World) (h : View W W.heap.size u (.l (l.map dCs))) (hsz : szRs (l.map dCs) ≤ 1048576) (hwf : ∀ cs ∈ l, ∀ c ∈ cs, wfC c) :
    Calls Tryz.prog 13 #[u] W fun e w' => e = .returned (.string tt) ∧ Below W.heap.size W w' := by
  obtain ⟨a, cap, rfl, h1, h2, h3, h4⟩ := cnss_of_view h
  refine (specIfText_any l a cap W.heap.size W h4 (Nat.le_refl _) hsz hwf).mono ?_
  rintro e w' ⟨⟨s, rfl, hs⟩, hb⟩
  exact ⟨by rw [hs.same htt], hb⟩
theorem ifText_gen (l : List (List Cn)) (tt : ByteArray) (htt : TxtIs l tt) (u : Value) (W : World) (h : View W W.heap.size u (.l (l.map dCs))) (hsz : szRs (l.map dCs) ≤ 1048576) (hwf : ∀ cs ∈ l, ∀ c ∈ cs, wfC c) (ht : PowTab W) :
    Calls Tryz.prog 6 #[u] W fun e w' => e = .returned (.string tt) ∧ Below W.heap.size W w' := by
  obtain ⟨a, cap, rfl, h1, h2, h3, h4⟩ := cnss_of_view h
  have hs := cns_small hsz
  refine (ifText_any l a cap W.heap.size W h4 (Nat.le_refl _) hs.1 (fun cs hcs => (hs.2 cs hcs).1) (fun cs hcs => (hs.2 cs hcs).2) hwf ht).mono ?_
  rintro e w' ⟨⟨s, rfl, hs⟩, hb⟩
  exact ⟨by rw [TxtIs.same hs htt], hb⟩
end Go.Proofs.YtmgikfeknmbpbaaGreatDoor
namespace Go.Proofs.YtmgikfeknmbpbaaGreatDoor
open Go.RowKit M
set_option linter.unusedVariables false

theorem below_thenI {w w1 w2 : World} {k N : Nat} (h : Below k w w1) (g : w1.grownBy w2 (some N)) (h1 : k ≤ N) (h2 : k ≤ w1.heap.size) : Below k w w2 := h.trans (grown_below g h1 h2)
theorem txt_size {ls : List (List Cn)} {s : ByteArray} {m k z : Nat} (h : TxtIs ls s) (h1 : ls.length ≤ m) (h2 : ∀ cs ∈ ls, cs.length ≤ k) (h3 : ∀ cs ∈ ls, ∀ c ∈ cs, c.tg.size ≤ z) (hwf : ∀ cs ∈ ls, ∀ c ∈ cs, wfC c) : s.size ≤ m * (3 + k * (27 + z)) := by
  by_cases e : okIf ls
  · rw [h.1 e, bytesOf_size, ← oneI_ok e]
    exact oneI_few h1 h2 h3 hwf
  · rw [h.2 e]; exact Nat.zero_le _
theorem few_sz {m k : Nat} {ls : List (List Cn)} (h : FewI m k ls) : szRs (ls.map dCs) ≤ m * (1 + k * 201) := sz_few h.1 (fun cs hc => (h.2 cs hc).1) (fun cs hc c hx => ((h.2 cs hc).2 c hx).1)
theorem few_wf {m k : Nat} {ls : List (List Cn)} (h : FewI m k ls) : ∀ cs ∈ ls, ∀ c ∈ cs, wfC c := fun cs hc c hx => by
  have := ((h.2 cs hc).2 c hx).2.2
  unfold wfC; omega
theorem few_txt {m k : Nat} {ls : List (List Cn)} {s : ByteArray} (h : FewI m k ls) (ht : TxtIs ls s) : s.size ≤ m * (3 + k * 227) := txt_size ht h.1 (fun cs hc => (h.2 cs hc).1) (fun cs hc c hx => ((h.2 cs hc).2 c hx).1) (few_wf h)
def piD : List ByteArray := [⟨#[]⟩, ⟨#[40, 41]⟩, ⟨#[40, 60, 49, 62, 41, 40, 60, 50, 62, 41]⟩, ⟨#[40, 60, 49, 62, 41, 32, 32, 40, 60, 50, 62, 41]⟩, ⟨#[40, 60, 48, 62, 41]⟩, ⟨#[40, 60, 49, 48, 48, 48, 48, 62, 41]⟩, ⟨#[40, 78, 111, 116, 32, 60, 49, 62, 41]⟩, ⟨#[40, 110, 111, 116, 32, 60, 49, 62, 41]⟩, ⟨#[40, 91, 118, 49, 93, 41]⟩, ⟨#[40, 91, 34, 34, 93, 41]⟩, ⟨#[40, 91, 34, 118, 49, 34, 93, 32, 60, 50, 62, 41]⟩, ⟨#[40, 60, 49, 62, 32, 60, 50, 62, 32, 60, 51, 62, 32, 60, 52, 62, 32, 60, 53, 62, 41]⟩, ⟨#[40, 60, 49, 62, 41, 32]⟩, ⟨#[40, 60, 49, 62]⟩, ⟨#[60, 49, 62]⟩, ⟨#[40, 78, 111, 116, 32, 78, 111, 116, 32, 60, 49, 62, 41]⟩, ⟨#[40, 60, 49, 62, 32, 32, 60, 50, 62, 41]⟩, ⟨#[40, 60, 48, 49, 62, 41]⟩]
def inE : List ByteArray := [⟨#[32]⟩, ⟨#[40]⟩, ⟨#[41]⟩, ⟨#[60]⟩, ⟨#[120]⟩]

set_option maxRecDepth 100000 in
set_option maxHeartbeats 4000000 in
theorem drawParseIf_any {w : World} {B : Nat} {a : Option Addr} {len : Nat} {zs : List Int} (h : CodeIn w B a len zs) (cap : Nat) :
    Calls Tryz.prog 7 #[.slice a len cap] w fun e w' => (∃ t : ByteArray, e = .returned (.string t) ∧ t.size ≤ 2000) ∧ Below w.heap.size w w' := by
  have HC := hide h
  have hB := h.hB
  clear h
  go_enter Tryz.func7, Tryz.ntmps7
  go_wp2_with fail
  refine (newDX HC.out cap).mono ?_
  rintro e w1 ⟨rfl, dx1, b1⟩
  have D1 := hide dx1
  have z1 := b1.size
  have hN1 : w.heap.size < w1.heap.size := dx1.lt
  have C1 := hide b1
  clear dx1 b1
  go_wp2_with fail
  refine (l14Draw_any D1.out).mono ?_
  rintro e w2 ⟨⟨ls, g, n, c, H, ss, rfl, hf, _, hR⟩, dx2, g2⟩
  have z2 := g2.size
  have C2 := hide (below_thenI C1.out g2 (Nat.le_refl _) (by omega))
  have D2 := hide dx2
  obtain ⟨s, htt⟩ := txt_is ls
  have HNT := hide (specIfText_gen ls s htt _ w2 (hR.r.done.vw (Nat.le_refl _)) (Nat.le_trans (few_sz hf) (by decide)) (few_wf hf))
  have hsz : s.size ≤ 2 * (3 + 2 * 227) := few_txt hf htt
  clear dx2 g2 C1 D1 htt hf hR
  go_wp2_with fail
  refine HNT.out.mono ?_
  rintro e w3 ⟨rfl, b3⟩
  have z3 := b3.size
  have C3 := hide (C2.out.trans (b3.mono (by omega)))
  have D3 := hide (D2.out.other (w' := w3) b3.size (fun k hk => b3.block k (by have := D2.out.lt; omega)))
  clear b3 C2 D2 HNT
  go_wp2_with fail
  refine (l1BelowX D3.out 4 (by decide) (by decide)).mono ?_
  rintro e w4 ⟨⟨k, rfl, hk⟩, dx4, g4⟩
  have z4 := g4.size
  have D4 := hide dx4
  have C4 := hide (below_thenI C3.out g4 (Nat.le_refl _) (by omega))
  clear dx4 g4 C3 D3
  by_cases k0 : k = 0
  · subst k0
    go_wp2_with fail
    refine (strNewQ D4.out 40 piD _ _ 18 _ rfl rfl rfl (by decide) (by decide) (by decide)).mono ?_
    rintro e w5 ⟨⟨t, rfl, ht⟩, _, g5⟩
    have C5 := hide (below_thenI C4.out g5 (Nat.le_refl _) (by omega))
    go_wp2
    go_ret
    exact ⟨⟨t, rfl, by omega⟩, C5.out⟩
  · have e0 : ((k : Int) == 0) = false := by apply beq_eq_false_iff_ne.2; omega
    by_cases k1 : k = 1
    · subst k1
      have hi : IntKind.i64.wrap ((s.size : Int) + 1) = (s.size : Int) + 1 := by rw [IntKind.wrap_i64]; omega
      go_wp2_with fail
      refine (l1BelowX D4.out ((s.size : Int) + 1) (by omega) (by omega)).mono ?_
      rintro e w5 ⟨⟨j, rfl, hj⟩, dx5, g5⟩
      have z5 := g5.size
      have D5 := hide dx5
      have C5 := hide (below_thenI C4.out g5 (Nat.le_refl _) (by omega))
      have hj1 : (0 : Int) ≤ (j : Int) := by omega
      have hj2 : (j : Int) ≤ (s.size : Int) := by omega
      have hjn : j ≤ s.size := by omega
      have x1 : (s.extract 0 j).size ≤ s.size := by rw [ByteArray.size_extract]; omega
      have x2 : (s.extract j s.size).size ≤ s.size := by rw [ByteArray.size_extract]; omega
      obtain ⟨pa, hpa⟩ : ∃ pa, s.extract 0 j = pa := ⟨_, rfl⟩
      obtain ⟨pb, hpb⟩ : ∃ pb, s.extract j s.size = pb := ⟨_, rfl⟩
      rw [hpa] at x1
      rw [hpb] at x2
      clear dx5 g5 C4 D4
      go_wp2
      go_region_held3 (fun _ => True) (trivial) ((go_at_call 25; refine (strNewQ (w := w5.drew) (D5.out.other (w' := w5.drew) (Nat.le_refl _) (fun _ _ => rfl)) 20 inE _ _ 5 _ rfl rfl rfl (by decide) (by decide) (by decide)).mono ?_; rintro e w6 ⟨⟨t, rfl, ht⟩, _, g6⟩; (have q1 : ¬ (9223372036854775807 < pa.size + t.size) := (by omega)); (have q2 : ¬ (9223372036854775807 < pa.size + t.size + pb.size) := (by omega))))
      all_goals
        have C6 := hide (below_thenI (w1 := w5.drew) (below_drewG C5.out) g6 (Nat.le_refl _) (by show _ ≤ w5.heap.size; omega))
        go_wp2
        go_ret
        exact ⟨⟨_, rfl, by rw [ByteArray.size_append, ByteArray.size_append]; omega⟩, C6.out⟩
    · have e1 : ((k : Int) == 1) = false := by apply beq_eq_false_iff_ne.2; omega
      go_wp2
      go_ret
      exact ⟨⟨s, rfl, by omega⟩, C4.out⟩
end Go.Proofs.YtmgikfeknmbpbaaGreatDoor
namespace Go.Proofs.YtmgikfeknmbpbaaGreatDoor
open Go.RowKit M
set_option linter.unusedVariables false

def ci (n : Int) : List Value := [.int .i64 n]
theorem ci_len : ∀ x, (ci x).length = 1 := fun _ => rfl
theorem infoI : (Tryz.prog.info? 3).map (fun i => (i.zero, i.size, i.bytes)) = some (some (.int .i64 0), 1, 8) := by kernel_rfl
theorem view_of_ints {w : World} {B g n c : Nat} {l : List Int} (h : OwnG 3 1 ci w B (.slice (some ⟨g, 0, none⟩) n c) l) : View w w.heap.size (.slice (some ⟨g, 0, none⟩) n c) (.l (l.map dI)) := by
  obtain ⟨e1, e2, e3, e4, e5, e6, e7⟩ := h.row ci_len
  have e : n = (l.map dI).length := by rw [List.length_map]; exact e1
  rw [e]
  refine .row g 0 c 1 _ (fun j i => match l[j]? with | some s => .int .i64 s | none => .bool false) e5 (by rw [← e]; exact e2) e3 (fun r hr => by obtain ⟨x, _, rfl⟩ := List.mem_map.1 hr; rfl) (fun j i x hx => ?_) (fun j i x hx => ?_)
  all_goals
    unfold cellAt at hx
    by_cases hj : j < l.length
    · rw [map_at dI l j hj] at hx
      match i with
      | 0 => cases hx; rw [List.getElem?_eq_getElem hj]; first | exact .c _ | (have := e7 j hj 0 _ rfl; simpa using this)
      | i + 1 => cases hx
    · rw [List.getElem?_eq_none (by simp; omega)] at hx; cases hx

theorem own_of_ints {w : World} {B g n c : Nat} {l : List Int} (h : OwnG 3 1 ci w B (.slice (some ⟨g, 0, none⟩) n c) l) : Own w (.slice (some ⟨g, 0, none⟩) n c) (.l (l.map dI)) (fun y => y = g) := by
  obtain ⟨e1, e2, e3, e4, e5, e6, e7⟩ := h.row ci_len
  have e : n = (l.map dI).length := by rw [List.length_map]; exact e1
  rw [e]
  refine .row g 0 c 1 _ (fun j i => match l[j]? with | some s => .int .i64 s | none => .bool false) (fun _ _ _ => False) _ rfl e5 (by rw [← e]; exact e2) e3 (fun r hr => by obtain ⟨x, _, rfl⟩ := List.mem_map.1 hr; rfl) (fun j i x hx => ?_) (fun j i x hx => ?_) (fun j i y hy => hy.elim) (fun j i j' i' y _ hy => hy.elim)
  all_goals
    unfold cellAt at hx
    by_cases hj : j < l.length
    · rw [map_at dI l j hj] at hx
      match i with
      | 0 => cases hx; rw [List.getElem?_eq_getElem hj]; first | exact .c _ _ | (have := e7 j hj 0 _ rfl; exact ⟨by simpa using this, e6 _⟩)
      | i + 1 => cases hx
    · rw [List.getElem?_eq_none (by simp; omega)] at hx; cases hx
end Go.Proofs.YtmgikfeknmbpbaaGreatDoor
namespace Go.Proofs.YtmgikfeknmbpbaaGreatDoor
open Go.RowKit M
set_option linter.unusedVariables false

theorem infoId : (Tryz.prog.info? 3).map (fun i => (i.zero, i.size, i.bytes)) = some (some (.int .i64 0), 1, 8) := by kernel_rfl

set_option maxRecDepth 100000 in
set_option maxHeartbeats 4000000 in
theorem l13Tokens_any {w : World} {N : Nat} {a : Option Addr} {len cap : Nat} {zs : List Int} (h : DX w N a len cap zs) :
    Calls Tryz.prog 30 #[.pointer (some ⟨N, 0, none⟩)] w fun e w' => (∃ (ks : List Int) (g n c : Nat), e = .returned (.slice (some ⟨g, 0, none⟩) n c) ∧ ks.length ≤ 6 ∧ OwnG 3 1 ci w' w.heap.size (.slice (some ⟨g, 0, none⟩) n c) ks) ∧ DX w' N a len cap zs ∧ w.grownBy w' (some N) := by
  have hNl := h.lt
  have DA := hide (h.alloc (Obj.cells #[] 3))
  have OA := hide (OwnG.made (tE := 3) (K := 1) (cs := ci) w w.heap.size (Nat.le_refl _))
  have GA := hide (grown_alloc (grown_refl w (some N)) (Obj.cells #[] 3))
  obtain ⟨wA, hwA⟩ : ∃ wA, w.alloc (Obj.cells #[] 3) = wA := ⟨_, rfl⟩
  rw [hwA] at DA OA GA
  clear h
  go_enter Tryz.func30, Tryz.ntmps30
  go_wp2_with fail
  clear hwA
  refine (l1BelowX DA.out 6 (by decide) (by decide)).mono ?_
  rintro e w1 ⟨⟨k1, rfl, hk1⟩, dx1, g1⟩
  have D1 := hide dx1
  have G1 := hide (grown_trans GA.out g1)
  have O1 := hide (OA.out.grown g1 hNl)
  clear dx1 g1 DA GA OA
  go_wp2
  go_loopw [3, 4] (fun v i wr => ∃ (k m : Nat) (ks : List Int) (g n c : Nat), i = .int .i64 k ∧ v = .slice (some ⟨g, 0, none⟩) n c ∧ m + k ≤ 6 ∧ Hid (ks.length = m) ∧ Hid (OwnG 3 1 ci wr w.heap.size (.slice (some ⟨g, 0, none⟩) n c) ks) ∧ Hid (DX wr N a len cap zs) ∧ Hid (w.grownBy wr (some N))) (fun _ i _ => (intOf i).toNat)
  case atStart => exact ⟨k1, 0, [], _, _, _, rfl, rfl, by omega, hide rfl, O1, D1, G1⟩
  case round =>
    obtain ⟨k, m, ks, g, n, c, rfl, rfl, hmk, HL, HO, HD, HG⟩ := hrel
    by_cases h0 : 0 < k
    · have h0' : (0 : Int) < k := by omega
      go_wp2_with fail
      refine (l1BelowX HD.out 9 (by decide) (by decide)).mono ?_
      rintro e w2 ⟨⟨x, rfl, hx⟩, dx2, g2⟩
      have bA := (Below.refl w2.heap.size w2).alloc (Nat.le_refl _) (Obj.cells #[.int .i64 (1 + (x : Int))] 3)
      have hg2 := grown_trans HG.out g2
      have hzw := hg2.size
      have O7 := hide ((HO.out.grown g2 hNl).next bA)
      have D7 := hide (dx2.below bA)
      have G7 := hide (grown_belowQ hg2 bA hg2.size)
      have hz7 := G7.out.size
      have hN7 := D7.out.lt
      have hln : ks.length + 1 ≤ 100000000000 := by have := HL.out; omega
      clear bA dx2 g2 hg2 HO HD HG
      go_wp2_with (at_builtin; refine wp_append_gen 30 Tryz.underlying30 (.int .i64 0) 8 infoId rfl (by decide) (by decide) rfl _ _ rfl w.heap.size _ ks rfl O7.out ci_len _ (1 + (x : Int)) rfl (fun i v hv => by match i with | 0 => (cases hv; simp) | i + 1 => cases hv) (fun v hv => by simp only [ci, List.mem_cons, List.not_mem_nil, or_false] at hv; subst hv; rfl) hln hz7 ?_)
      intro g9 n9 c9 w9 hn9 hO9 hb9 hg9 _
      have O9 := hide hO9
      have D9 := hide (D7.out.other hb9.size (fun i hi => hb9.block i (by omega)))
      have G9 := hide (grown_belowQ G7.out hb9 (Nat.le_refl _))
      have HLE := hide (show (ks ++ [1 + (x : Int)]).length = m + 1 from by rw [List.length_append, HL.out]; rfl)
      clear hO9 hb9 hg9 hn9 O7 D7 G7
      go_wp2
      go_roundw
      case rel => exact ⟨k - 1, m + 1, _, g9, n9, c9, by go_num, rfl, by omega, HLE, O9, D9, G9⟩
      case measure => simp [intOf]; omega
    · have h0' : ¬ (0 : Int) < k := by omega
      go_wp2
      go_ret
      exact ⟨⟨ks, g, n, c, rfl, by have := HL.out; omega, HO.out⟩, HD.out, HG.out⟩
end Go.Proofs.YtmgikfeknmbpbaaGreatDoor
namespace Go.Proofs.YtmgikfeknmbpbaaGreatDoor
open Go.RowKit M
set_option linter.unusedVariables false

def AnyE (B : Nat) (e : Ending) (w' : World) : Prop := ∃ (ls : List (List Cn)) (v : Value) (ks : List Int) (g n c : Nat) (s : ByteArray), e = .returned (.tuple #[v, .slice (some ⟨g, 0, none⟩) n c, .string s]) ∧ FewI 7 3 ls ∧ Own w' v (.l (ls.map dCs)) (IvG B w'.heap.size) ∧ ks.length ≤ 6 ∧ OwnG 3 1 ci w' B (.slice (some ⟨g, 0, none⟩) n c) ks
set_option maxRecDepth 100000 in
set_option maxHeartbeats 4000000 in
theorem drawEvalIf_any {w : World} {B : Nat} {a : Option Addr} {len : Nat} {zs : List Int} (h : CodeIn w B a len zs) (cap : Nat) :
    Calls Tryz.prog 10 #[.slice a len cap] w fun e w' => AnyE w.heap.size e w' ∧ Below w.heap.size w w' := by
  have HC := hide h
  clear h
  go_enter Tryz.func10, Tryz.ntmps10
  go_wp2_with fail
  refine (newDX HC.out cap).mono ?_
  rintro e w1 ⟨rfl, hd1, b1⟩
  have hN1 : w.heap.size < w1.heap.size := hd1.lt
  have HB1 := hide b1
  have HD1 := hide hd1
  clear hd1 b1
  go_wp2_with fail
  refine (l14Any_any HD1.out).mono ?_
  rintro e w2 ⟨⟨ls, v, rfl, hf, ho⟩, hd2, hg2⟩
  have HF := hide hf
  have HO2 := hide ho
  have HD2 := hide hd2
  have HG2 := hide hg2
  clear hf ho hd2 hg2 HD1
  go_wp2_with fail
  refine (l13Tokens_any HD2.out).mono ?_
  rintro e w3 ⟨⟨ks, g, n, c, rfl, hk, hk3⟩, hd3, hg3⟩
  have hz2 := HG2.out.size
  have hz3 := hg3.size
  have HK := hide hk
  have HO3 := hide (HO2.out.turn (turn_of_grown hg3) (fun y hy e => by have h1 := hy.1; have e : y = w.heap.size := e; omega))
  have HK3 := hide (World.ownsRow.mono hk3 (show w1.heap.size ≤ w2.heap.size from hz2))
  have HD3 := hide hd3
  have HG3 := hide (grown_trans HG2.out hg3)
  clear hk hk3 hd3 hg3 HO2 HD2 HG2
  go_wp2_with fail
  refine (strNewQ HD3.out 30 [⟨#[34, 118, 49, 34]⟩, ⟨#[34, 118, 50, 34]⟩, ⟨#[]⟩] _ _ 3 _ rfl rfl rfl (by decide) (by decide) (by decide)).mono ?_
  rintro e w4 ⟨⟨s, rfl, hs⟩, hd4, hg4⟩
  have hz4 := hg4.size
  have HR := hide (show AnyE w.heap.size (.returned (.tuple #[v, .slice (some ⟨g, 0, none⟩) n c, .string s])) w4 ∧ Below w.heap.size w w4 from
    ⟨⟨ls, v, ks, g, n, c, s, rfl, HF.out, (HO3.out.turn (turn_of_grown hg4) (fun y hy e => by have h1 := hy.1; have e : y = w.heap.size := e; omega)).up (by omega) (by omega), HK.out, World.ownsRow.mono (OwnG.grown (B := w1.heap.size) HK3.out hg4 (by omega)) (by omega)⟩,
      HB1.out.trans (grown_below (grown_trans HG3.out hg4) (Nat.le_refl _) (by omega))⟩)
  clear hs hd4 hg4 HO3 HK3 HD3 HG3
  go_wp2
  refine bodyPost_ret (v := .tuple #[v, .slice (some ⟨g, 0, none⟩) n c, .string s]) ?_ rfl HR.out
  simp [results, Tryz.results10, go_sem]
end Go.Proofs.YtmgikfeknmbpbaaGreatDoor
namespace Go.Proofs.YtmgikfeknmbpbaaGreatDoor
open Go.RowKit M
set_option linter.unusedVariables false

set_option maxRecDepth 100000 in
set_option maxHeartbeats 8000000 in
theorem sameIf_any (p q : Option Addr) (a b : List (List Cn)) (ca cb B C : Nat) (w : World) (h : Cnss w B p a) (h' : Cnss w C q b) (hla : a.length ≤ 1048576) (hlb : b.length ≤ 1048576) (hna : ∀ cs ∈ a, cs.length ≤ 1048576) (hnb : ∀ cs ∈ b, cs.length ≤ 1048576) :
    Calls Tryz.prog 12 #[.slice p a.length ca, .slice q b.length cb] w fun e w' => (∃ z : Bool, e = .returned (.bool z) ∧ (z = true ↔ a = b)) ∧ Below w.heap.size w w' := by
  have HH := hide h
  have HH' := hide h'
  have HNA := hide hna
  have HNB := hide hnb
  clear h h' hna hnb
  by_cases hl : a.length = b.length
  rotate_left
  · have HN := hide (show ¬ a = b from fun e => hl (by rw [e]))
    have hl1 : ((a.length : Int) == (b.length : Int)) = false := by rw [beq_eq_false_iff_ne]; omega
    have hl2 : ((a.length : Int) != (b.length : Int)) = true := by rw [bne_iff_ne]; omega
    go_enter Tryz.func12, Tryz.ntmps12
    go_wp2
    go_ret
    exact ⟨⟨_, rfl, ⟨fun e => (by cases e), fun e => absurd e HN.out⟩⟩, Below.refl _ _⟩
  have hl1 : ((a.length : Int) == (b.length : Int)) = true := by rw [beq_iff_eq]; omega
  have hl2 : ((a.length : Int) != (b.length : Int)) = false := by rw [hl]; simp
  have HL := hide hl
  clear hl
  go_enter Tryz.func12, Tryz.ntmps12
  go_wp2
  go_loopw [5] (fun i wr => ∃ k n : Nat, k ≤ a.length ∧ i = .int .i64 k ∧ Hid (a.take k = b.take k) ∧ wr = w.drewN n) (fun i _ => a.length - (intOf i).toNat)
  case atStart => exact ⟨0, 0, Nat.zero_le _, rfl, rfl, rfl⟩
  case round =>
    obtain ⟨k, n, hk, rfl, HT, hw⟩ := hrel
    subst hw
    by_cases hlt : k < a.length
    · have hltb : k < b.length := by have := HL.out; omega
      obtain ⟨b1, o1, rfl, hb1, hc1⟩ := HH.out (by omega)
      obtain ⟨b2, o2, rfl, hb2, hc2⟩ := HH'.out (by omega)
      obtain ⟨pa, pc, x0, hin1⟩ := hc1 k hlt
      obtain ⟨pb, pd, y0, hin2⟩ := hc2 k hltb
      have HIN1 := hide hin1.ps
      have HIN2 := hide hin2.ps
      have hn1 := HNA.out _ (List.getElem_mem hlt)
      have hn2 := HNB.out _ (List.getElem_mem hltb)
      have HNE := hide (fun e => take_not hlt hltb e)
      have HSM := hide (fun e => take_sameI hlt hltb HT.out e)
      have d0 : (w.drewN n).cell? ⟨b1, o1 + k, none⟩ = some (.slice pa a[k].length pc) := x0
      have d1 : (w.drewN n).cell? ⟨b2, o2 + k, none⟩ = some (.slice pb b[k].length pd) := y0
      clear hc1 hc2 hin1 hin2
      have hi0 : (0 : Int) ≤ (k : Int) := by omega
      have hi1 : (k : Int) < (a.length : Int) := by omega
      have hi2 : (k : Int) < (b.length : Int) := by omega
      obtain ⟨cs, hcs⟩ : ∃ z, a[k] = z := ⟨_, rfl⟩
      obtain ⟨ds, hds⟩ : ∃ z, b[k] = z := ⟨_, rfl⟩
      rw [hcs] at HNE HSM HIN1 hn1 x0 d0
      rw [hds] at HNE HSM HIN2 hn2 y0 d1
      clear hcs hds
      by_cases hm : cs.length = ds.length
      rotate_left
      · have HN := hide (HNE.out (fun e => hm (by rw [e])))
        have hm1 : ((cs.length : Int) == (ds.length : Int)) = false := by rw [beq_eq_false_iff_ne]; omega
        have hm2 : ((cs.length : Int) != (ds.length : Int)) = true := by rw [bne_iff_ne]; omega
        clear hm
        go_wp2
        go_quiet (fail)
        go_wp2
        go_ret
        exact ⟨⟨_, rfl, ⟨fun e => (by cases e), fun e => absurd e HN.out⟩⟩, below_drewN (below_drewN (Below.refl _ _) _) _⟩
      have hm1 : ((cs.length : Int) == (ds.length : Int)) = true := by rw [beq_iff_eq]; omega
      have hm2 : ((cs.length : Int) != (ds.length : Int)) = false := by rw [hm]; simp
      have HM := hide hm
      clear hm
      go_wp2
      go_quiet (fail)
      go_wp2
      go_loopw [6] (fun i wr => ∃ j m : Nat, j ≤ cs.length ∧ i = .int .i64 j ∧ Hid (cs.take j = ds.take j) ∧ wr = w.drewN m) (fun i _ => cs.length - (intOf i).toNat)
      case atStart => exact ⟨0, n + nq, Nat.zero_le _, rfl, rfl, by simp⟩
      case round =>
        obtain ⟨j, m, hj, rfl, HTJ, hw⟩ := hrel
        subst hw
        have e0 : (w.drewN m).cell? ⟨b1, o1 + k, none⟩ = some (.slice pa cs.length pc) := x0
        have e1 : (w.drewN m).cell? ⟨b2, o2 + k, none⟩ = some (.slice pb ds.length pd) := y0
        by_cases hjl : j < cs.length
        · have hjd : j < ds.length := by have := HM.out; omega
          obtain ⟨b3, o3, rfl, hb3, hc3⟩ := HIN1.out (by omega)
          obtain ⟨b4, o4, rfl, hb4, hc4⟩ := HIN2.out (by omega)
          obtain ⟨u0, u1, u2⟩ := hc3 j hjl
          obtain ⟨v0, v1, v2⟩ := hc4 j hjd
          have HNJ := hide (fun e => HNE.out (take_not hjl hjd e))
          have HSJ := hide (fun e => take_sameI hjl hjd HTJ.out e)
          clear hc3 hc4
          obtain ⟨x, hx⟩ : ∃ z, cs[j] = z := ⟨_, rfl⟩
          obtain ⟨y, hy⟩ : ∃ z, ds[j] = z := ⟨_, rfl⟩
          rw [hx] at HNJ HSJ u0 u1 u2
          rw [hy] at HNJ HSJ v0 v1 v2
          clear hx hy
          have f0 : (w.drewN m).cell? ⟨b3, o3 + j * 3, none⟩ = some (.bool x.no) := u0
          have f1 : (w.drewN m).cell? ⟨b3, o3 + j * 3 + 1, none⟩ = some (.int .i64 x.tk) := u1
          have f2 : (w.drewN m).cell? ⟨b3, o3 + j * 3 + 2, none⟩ = some (.string x.tg) := u2
          have g0 : (w.drewN m).cell? ⟨b4, o4 + j * 3, none⟩ = some (.bool y.no) := v0
          have g1 : (w.drewN m).cell? ⟨b4, o4 + j * 3 + 1, none⟩ = some (.int .i64 y.tk) := v1
          have g2 : (w.drewN m).cell? ⟨b4, o4 + j * 3 + 2, none⟩ = some (.string y.tg) := v2
          have hj0 : (0 : Int) ≤ (j : Int) := by omega
          have hj1 : (j : Int) < (cs.length : Int) := by omega
          have hj2 : (j : Int) < (ds.length : Int) := by omega
          by_cases q0 : x.no = y.no
          · by_cases q1 : x.tk = y.tk
            · by_cases q2 : x.tg.toList = y.tg.toList
              · have HN := hide (HSJ.out (cn_eq q0 q1 q2))
                go_wp2
                go_quiet (fail)
                go_wp2
                go_roundw
                case rel => exact ⟨j + 1, m + nq, by omega, by go_num, HN, by simp⟩
                case measure => simp [intOf]; omega
              · have HN := hide (HNJ.out (ne_tg q2))
                go_wp2
                go_quiet (fail)
                go_wp2
                go_ret
                exact ⟨⟨_, rfl, ⟨fun e => (by cases e), fun e => absurd e HN.out⟩⟩, below_drewN (below_drewN (Below.refl _ _) _) _⟩
            · have HN := hide (HNJ.out (fun e => q1 (by rw [e])))
              go_wp2
              go_quiet (fail)
              go_wp2
              go_ret
              exact ⟨⟨_, rfl, ⟨fun e => (by cases e), fun e => absurd e HN.out⟩⟩, below_drewN (below_drewN (Below.refl _ _) _) _⟩
          · have HN := hide (HNJ.out (fun e => q0 (by rw [e])))
            go_wp2
            go_quiet (fail)
            go_wp2
            go_ret
            exact ⟨⟨_, rfl, ⟨fun e => (by cases e), fun e => absurd e HN.out⟩⟩, below_drewN (below_drewN (Below.refl _ _) _) _⟩
        · have HE := hide (HSM.out (by
            have h1 := HTJ.out
            rw [List.take_of_length_le (by omega), List.take_of_length_le (by have := HM.out; omega)] at h1
            exact h1))
          go_wp2
          go_roundw
          case rel => exact ⟨k + 1, m, by omega, by go_num, HE, rfl⟩
          case measure => simp [intOf]; omega
    · have HE := hide (show a = b by
        have h1 := HT.out
        rw [List.take_of_length_le (by omega), List.take_of_length_le (by have := HL.out; omega)] at h1
        exact h1)
      go_wp2
      go_ret
      exact ⟨⟨_, rfl, ⟨fun _ => HE.out, fun _ => rfl⟩⟩, below_drewN (Below.refl _ _) _⟩
end Go.Proofs.YtmgikfeknmbpbaaGreatDoor
namespace Go.Proofs.YtmgikfeknmbpbaaGreatDoor
open Go.RowKit

/-- The numbers that a slice holds, in a block below B. -/
def Ints (w : World) (B : Nat) (a : Option Addr) (l : List Int) : Prop :=
  0 < l.length → ∃ b o, a = some ⟨b, o, none⟩ ∧ b < B ∧ ∀ j (hj : j < l.length), w.cell? ⟨b, o + j, none⟩ = some (.int .i64 l[j])

theorem Ints.below {w w' : World} {B C : Nat} {a : Option Addr} {l : List Int} (h : Ints w B a l) (hb : Below C w w') (hB : B ≤ C) : Ints w' B a l := fun h0 => by
  obtain ⟨b, o, e, hbB, hc⟩ := h h0
  exact ⟨b, o, e, hbB, fun j hj => (hb.cell (p := ⟨b, o + j, none⟩) (Nat.lt_of_lt_of_le hbB hB)).trans (hc j hj)⟩
theorem Ints.mono {w : World} {B C : Nat} {a : Option Addr} {l : List Int} (h : Ints w B a l) (hB : B ≤ C) : Ints w C a l := fun h0 => by
  obtain ⟨b, o, e, hbB, hc⟩ := h h0
  exact ⟨b, o, e, Nat.lt_of_lt_of_le hbB hB, hc⟩
end Go.Proofs.YtmgikfeknmbpbaaGreatDoor
