/-
  The library's table of powers of ten, as the row lists it; that it stays where only new memory is laid.
  What the program's NumText does.
  What impl.condOk and impl.condText do.
  Slices of texts: what they hold, and that it stays.
  What impl.listText and impl.IfText do.
  IfText on both sides, over views.
  A help of the laws, by program (tools/gen_help.py): Sz1 of Cond.
  A help of the laws, by program (tools/gen_help.py): Szz of Cond.
  A help of the laws, by program (tools/gen_help.py): Szz of CondS.
  A help of the laws, by program (tools/gen_help.py): To1 of Cond.
  A help of the laws, by program (tools/gen_help.py): Too of Cond.
  A help of the laws, by program (tools/gen_help.py): Too of CondS.
-/
import Derived.Test.YtmgikfeknmbpbaaDoorRows
import Derived.Test.YtmgikfeknmbpbaaDoorShelf
import Derived.WalkKit
import Derived.WalkLawsBesides
import Derived.Lib.AppendIntMem
import Derived.Stop.LaidErr
import Derived.Test.YtmgikfeknmbpbaaDoorMathNum
import Derived.Test.YtmgikfeknmbpbaaDoorCutIf1
import Derived.Test.YtmgikfeknmbpbaaDoorMathSmall
import Derived.WalkSpells
import Derived.Deep.Light
import Derived.Deep.QuietTactic
import Derived.Deep.OwnRows
import Derived.Lib.Join
import Derived.Test.YtmgikfeknmbpbaaDoorSpecIfText
import Derived.Deep.RegionHeld3
namespace Go.Proofs.YtmgikfeknmbpbaaDoor
open Go.RowKit

theorem pow_glob : Tryd.prog.globalNamed "internal/strconv.uint64pow10" = some 5 := by kernel_rfl
theorem pow_data : (Rows.laid_internal_strconv_uint64pow10 : DataW Unit) = Lib.tabData .u64 Lib.pow10Tab := by kernel_rfl

def PowTab (w : World) : Prop := Lib.TabIs Tryd.prog w "internal/strconv.uint64pow10" .u64 Lib.pow10Tab

theorem PowTab.lt {w : World} (h : PowTab w) : 5 < w.heap.size := by
  have h' : w.var? Tryd.prog "internal/strconv.uint64pow10" = some _ := h
  unfold World.var? at h'
  rw [pow_glob] at h'
  simp only [Option.bind_some] at h'
  rcases Nat.lt_or_ge 5 w.heap.size with h1 | h1
  · exact h1
  · rw [Array.getElem?_eq_none h1] at h'
    simp at h'

theorem PowTab.below {w w' : World} (h : PowTab w) (hb : Below w.heap.size w w') : PowTab w' := var?_below hb pow_glob h.lt h

theorem powTab_of {W : World} {rest : List (String × DataW Unit)} (h : laidMet Tryd.prog (("internal/strconv.uint64pow10", Rows.laid_internal_strconv_uint64pow10) :: rest) W) : PowTab W := by
  rw [pow_data] at h
  exact Lib.tabIs_of_head pow_glob (t := 147) (n := 20) (e := 132) (by kernel_rfl) (by kernel_rfl) (by kernel_rfl) (by kernel_rfl) (by kernel_rfl) h
end Go.Proofs.YtmgikfeknmbpbaaDoor
namespace Go.Proofs.YtmgikfeknmbpbaaDoor
open Go.RowKit M

theorem itoa_pos (m : Nat) : Lib.itoa (m : Int) = Lib.decDigits m := by
  unfold Lib.itoa
  rw [if_neg (by omega), Int.toNat_natCast]

theorem itoa_calls (m : Nat) (w : World) (hn : (m : Int) ≤ 9223372036854775807) (ht : PowTab w) :
    Calls Tryd.prog 69 #[.int .i64 m] w fun e w' => e = .returned (.string ⟨(Lib.decDigits m).toArray⟩) ∧ Below w.heap.size w w' := by
  refine (Tryd.strconv_Itoa (m : Int) (by omega) hn w ht).mono ?_
  rintro e w' ⟨rfl, k, os, rfl⟩
  rw [itoa_pos]
  exact ⟨rfl, Lib.below_grow _ w (Nat.le_refl _) k os⟩

set_option maxHeartbeats 400000 in
theorem numText_any (n : Int) (w : World) (hn : n ≤ 9223372036854775807) (ht : PowTab w) :
    Calls Tryd.prog 56 #[.int .i64 n] w fun e w' => e = .returned (.string ⟨(Lib.decDigits n.toNat).toArray⟩) ∧ Below w.heap.size w w' := by
  by_cases h : n < 0
  · have e : n.toNat = 0 := by omega
    have e0 : max n 0 = ((0 : Nat) : Int) := by omega
    rw [e]
    go_enter Tryd.func56, Tryd.ntmps56
    go_wp2_with fail
    rw [show (0 : Int) = ((0 : Nat) : Int) from rfl]
    refine (itoa_calls 0 w (by omega) ht).mono ?_
    rintro e w' ⟨rfl, hb⟩
    go_wp2
    go_ret
    exact ⟨rfl, hb⟩
  · obtain ⟨m, rfl⟩ := Int.eq_ofNat_of_zero_le (by omega : 0 ≤ n)
    rw [Int.toNat_natCast]
    go_enter Tryd.func56, Tryd.ntmps56
    go_wp2_with fail
    refine (itoa_calls m w hn ht).mono ?_
    rintro e w' ⟨rfl, hb⟩
    go_wp2
    go_ret
    exact ⟨rfl, hb⟩
end Go.Proofs.YtmgikfeknmbpbaaDoor
namespace Go.Proofs.YtmgikfeknmbpbaaDoor
open Go.RowKit M
set_option linter.unusedVariables false

theorem bytes_backI (s : ByteArray) : bytesOf s.data.toList = s := ByteArray.ext (by simp [bytesOf])
theorem ret_boolI {a b : Bool} (h : a = b) : (Ending.returned (.bool a) : Ending) = .returned (.bool b) := by rw [h]
theorem emptyBI (s : ByteArray) : s.toList.isEmpty = decide (s.data.toList = []) := by
  rw [ByteArray.toList_eq]
  cases s.data.toList <;> simp
/-- Whether one can be told. -/
def okBn (c : Cn) : Bool := if c.tg.data.toList = [] then inB c.tk 1 9999 else decide (c.tk = 0) && (match cutT c.tg.data.toList with | some (m, r) => decide (0 < m.length) && decide (r = []) | none => false)
theorem okBn_iff (c : Cn) : okBn c = true ↔ okC c := by
  unfold okBn okC
  by_cases h : c.tg.data.toList = []
  · rw [if_pos h]
    constructor
    · intro e
      unfold inB at e
      simp at e
      exact .inl ⟨h, e.1, e.2⟩
    · rintro (⟨_, h1, h2⟩ | ⟨_, m, h1, _⟩)
      · unfold inB; simp; omega
      · rw [h1] at h; exact absurd h (tag_ne m)
  · rw [if_neg h]
    constructor
    · intro e
      rw [Bool.and_eq_true] at e
      obtain ⟨e1, e2⟩ := e
      cases hc : cutT c.tg.data.toList with
      | none => rw [hc] at e2; cases e2
      | some p =>
        obtain ⟨m, r⟩ := p
        rw [hc] at e2
        simp only [Bool.and_eq_true, decide_eq_true_eq] at e2
        obtain ⟨q1, q2, q3⟩ := cutT_in hc
        rw [e2.2, List.append_nil] at q3
        exact .inr ⟨by simpa using e1, m, by rw [← q3, bytes_backI], List.length_pos_iff.1 e2.1, q1, q2⟩
    · rintro (⟨h1, _⟩ | ⟨h1, m, h2, h3, h4, h5⟩)
      · exact absurd h1 h
      · have hc : cutT c.tg.data.toList = some (m, []) := by
          have := cutT_tag (r := []) h4 h5
          rw [List.append_nil] at this
          rw [h2]
          exact this
        rw [hc, h1]
        simp [List.length_pos_iff.2 h3]

set_option maxRecDepth 100000 in
set_option maxHeartbeats 4000000 in
theorem condOk_any (c : Cn) (w : World) (htg : c.tg.size ≤ 1048576) :
    Calls Tryd.prog 41 #[.agg #[.bool c.no, .int .i64 c.tk, .string c.tg]] w fun e w' => e = .returned (.bool (okBn c)) ∧ Below w.heap.size w w' := by
  obtain ⟨no, tk, tg⟩ := c
  simp only at htg
  have hb0 := (Below.refl w.heap.size w).alloc (Nat.le_refl _) (Obj.cells #[.bool no, .int .i64 tk, .string tg] 48)
  have HB := hide hb0
  have HX := hide (BoxV.made w [.bool no, .int .i64 tk, .string tg] 48)
  have HE := hide (show okBn ⟨no, tk, tg⟩ = if tg.data.toList = [] then inB tk 1 9999 else decide (tk = 0) && (match cutT tg.data.toList with | some (m, r) => decide (0 < m.length) && decide (r = []) | none => false) from rfl)
  have hE0 := emptyBI tg
  generalize okBn ⟨no, tk, tg⟩ = res at *
  clear hb0
  show Calls Tryd.prog 41 #[.agg #[.bool no, .int .i64 tk, .string tg]] w _
  by_cases h : tg.data.toList = []
  · rw [if_pos h] at HE
    rw [decide_eq_true h] at hE0
    have HT := hide (fun W => tokenOk_any tk W)
    generalize inB tk 1 9999 = z at *
    clear h HX
    go_enter Tryd.func41, Tryd.ntmps41
    go_wp2_with fail
    refine (HT.out _).mono ?_
    rintro e w1 ⟨rfl, hw⟩
    subst hw
    go_wp2
    go_ret
    exact ⟨ret_boolI HE.out.symm, HB.out⟩
  · rw [if_neg h] at HE
    rw [decide_eq_false h] at hE0
    have htl : tg.data.toList.length ≤ 1048576 := by rw [Array.length_toList]; exact htg
    clear h
    have hq : ∃ (t r : ByteArray) (ok : Bool), (∀ W, Calls Tryd.prog 51 #[.string tg] W fun e w' => e = .returned (.tuple #[.string t, .string r, .bool ok]) ∧ Below W.heap.size W w') ∧ res = (decide (tk = 0) && (ok && r.toList.isEmpty)) := by
      cases hc : cutT tg.data.toList with
      | none =>
        have h1 := fun W => cutFull_none tg.data.toList W htl hc
        rw [bytes_backI] at h1
        rw [hc] at HE
        exact ⟨_, _, _, h1, by rw [HE.out]; rfl⟩
      | some p =>
        obtain ⟨m, r⟩ := p
        have h1 := fun W => cutFull_some tg.data.toList m r W htl hc
        rw [bytes_backI] at h1
        rw [hc] at HE
        exact ⟨_, _, _, h1, by rw [HE.out, emptyBI]; rfl⟩
    obtain ⟨t, r, ok, hF, hres⟩ := hq
    have HF := hide hF
    have HR := hide hres
    obtain ⟨em, hem⟩ : ∃ z, r.toList.isEmpty = z := ⟨_, rfl⟩
    rw [hem] at HR
    clear hF hres HE htl
    go_enter Tryd.func41, Tryd.ntmps41
    go_wp2_with fail
    refine (HF.out _).mono ?_
    rintro e w1 ⟨rfl, b1⟩
    have HC := hide (HB.out.trans (b1.mono HB.out.size))
    have q1 := ((HX.out.next b1).2 1 _ rfl).1
    clear b1 HX HF
    by_cases hz : tk = 0
    · have hz1 : (tk == 0) = true := by simpa using hz
      rw [decide_eq_true hz] at HR
      clear hz
      cases ok
      · go_wp2
        go_ret
        exact ⟨ret_boolI (by rw [HR.out]; rfl), HC.out⟩
      · go_wp2
        go_ret
        exact ⟨ret_boolI (by rw [HR.out]; rfl), HC.out⟩
    · have hz1 : (tk == 0) = false := by simpa using hz
      rw [decide_eq_false hz] at HR
      clear hz
      go_wp2
      go_ret
      exact ⟨ret_boolI (by rw [HR.out]; rfl), HC.out⟩

set_option maxRecDepth 100000 in
set_option maxHeartbeats 4000000 in
theorem condText_any (c : Cn) (w : World) (htk : c.tk ≤ 9223372036854775807) (htg : c.tg.size ≤ 1048576) (ht : PowTab w) :
    Calls Tryd.prog 42 #[.agg #[.bool c.no, .int .i64 c.tk, .string c.tg]] w fun e w' => e = .returned (.string (bytesOf (condT c))) ∧ Below w.heap.size w w' := by
  obtain ⟨no, tk, tg⟩ := c
  simp only at htk htg
  have hb0 := (Below.refl w.heap.size w).alloc (Nat.le_refl _) (Obj.cells #[.bool no, .int .i64 tk, .string tg] 48)
  have HQ := hide (numText_any tk (w.alloc (Obj.cells #[.bool no, .int .i64 tk, .string tg] 48)) htk (ht.below hb0))
  have HB := hide hb0
  have HX := hide (BoxV.made w [.bool no, .int .i64 tk, .string tg] 48)
  have HE := hide (show condT ⟨no, tk, tg⟩ = (if no = true then notL else []) ++ (if tg.data.toList = [] then 60 :: (Lib.decDigits tk.toNat ++ [62]) else 91 :: (tg.data.toList ++ [93])) from rfl)
  have hE0 := emptyBI tg
  have hdl := dec_le tk htk
  have HDL := hide hdl
  generalize Lib.decDigits tk.toNat = d at *
  clear hb0 hdl ht
  show Calls Tryd.prog 42 #[.agg #[.bool no, .int .i64 tk, .string tg]] w _
  by_cases h : tg.data.toList = []
  · rw [if_pos h] at HE
    rw [decide_eq_true h] at hE0
    have hds : (⟨d.toArray⟩ : ByteArray).size ≤ 20 := HDL.out
    obtain ⟨D, hD⟩ : ∃ z : ByteArray, (⟨d.toArray⟩ : ByteArray) = z := ⟨_, rfl⟩
    have HD := hide (show D.data.toList = d by rw [← hD])
    rw [hD] at HQ hds
    clear h hD
    cases no
    · have HR := hide (show (⟨#[60]⟩ : ByteArray) ++ D ++ ⟨#[62]⟩ = bytesOf (condT ⟨false, tk, tg⟩) by rw [HE.out, ← HD.out]; apply ByteArray.ext; simp [bytesOf])
      go_enter Tryd.func42, Tryd.ntmps42
      go_wp2_with fail
      refine HQ.out.mono ?_
      rintro e w1 ⟨rfl, b1⟩
      have HC := hide (HB.out.trans (b1.mono HB.out.size))
      have q0 := ((HX.out.next b1).2 0 _ rfl).1
      clear b1
      go_wp2
      go_ret
      exact ⟨congrArg (fun s => Ending.returned (Value.string s)) HR.out, HC.out⟩
    · have HR := hide (show (⟨#[78, 111, 116, 32]⟩ : ByteArray) ++ (⟨#[60]⟩ ++ D ++ ⟨#[62]⟩) = bytesOf (condT ⟨true, tk, tg⟩) by rw [HE.out, ← HD.out]; apply ByteArray.ext; simp [bytesOf, notL])
      go_enter Tryd.func42, Tryd.ntmps42
      go_wp2_with fail
      refine HQ.out.mono ?_
      rintro e w1 ⟨rfl, b1⟩
      have HC := hide (HB.out.trans (b1.mono HB.out.size))
      have q0 := ((HX.out.next b1).2 0 _ rfl).1
      clear b1
      go_wp2
      go_ret
      exact ⟨congrArg (fun s => Ending.returned (Value.string s)) HR.out, HC.out⟩
  · rw [if_neg h] at HE
    rw [decide_eq_false h] at hE0
    clear h
    cases no
    · have HR := hide (show (⟨#[91]⟩ : ByteArray) ++ tg ++ ⟨#[93]⟩ = bytesOf (condT ⟨false, tk, tg⟩) by rw [HE.out]; apply ByteArray.ext; simp [bytesOf])
      go_enter Tryd.func42, Tryd.ntmps42
      go_wp2
      go_ret
      exact ⟨congrArg (fun s => Ending.returned (Value.string s)) HR.out, HB.out⟩
    · have HR := hide (show (⟨#[78, 111, 116, 32]⟩ : ByteArray) ++ (⟨#[91]⟩ ++ tg ++ ⟨#[93]⟩) = bytesOf (condT ⟨true, tk, tg⟩) by rw [HE.out]; apply ByteArray.ext; simp [bytesOf, notL])
      go_enter Tryd.func42, Tryd.ntmps42
      go_wp2
      go_ret
      exact ⟨congrArg (fun s => Ending.returned (Value.string s)) HR.out, HB.out⟩
end Go.Proofs.YtmgikfeknmbpbaaDoor
namespace Go.Proofs.YtmgikfeknmbpbaaDoor
open Go.RowKit

/-- The texts that a slice holds, in a block below B. -/
def Strs (w : World) (B : Nat) (a : Option Addr) (ss : List ByteArray) : Prop :=
  0 < ss.length → ∃ b o, a = some ⟨b, o, none⟩ ∧ b < B ∧ ∀ j (hj : j < ss.length), w.cell? ⟨b, o + j, none⟩ = some (.string ss[j])

theorem Strs.below {w w' : World} {B C : Nat} {a : Option Addr} {ss : List ByteArray} (h : Strs w B a ss) (hb : Below C w w') (hB : B ≤ C) : Strs w' B a ss := fun h0 => by
  obtain ⟨b, o, e, hbB, hc⟩ := h h0
  exact ⟨b, o, e, hbB, fun j hj => (hb.cell (p := ⟨b, o + j, none⟩) (Nat.lt_of_lt_of_le hbB hB)).trans (hc j hj)⟩

theorem Strs.mono {w : World} {B C : Nat} {a : Option Addr} {ss : List ByteArray} (h : Strs w B a ss) (hB : B ≤ C) : Strs w C a ss := fun h0 => by
  obtain ⟨b, o, e, hbB, hc⟩ := h h0
  exact ⟨b, o, e, Nat.lt_of_lt_of_le hbB hB, hc⟩

theorem Strs.take {w : World} {B : Nat} {a : Option Addr} {ss : List ByteArray} (h : Strs w B a ss) (k : Nat) : Strs w B a (ss.take k) := fun h0 => by
  have hl : (ss.take k).length ≤ ss.length := by rw [List.length_take]; omega
  obtain ⟨b, o, e, hbB, hc⟩ := h (by omega)
  exact ⟨b, o, e, hbB, fun j hj => by rw [hc j (by omega), List.getElem_take]⟩

theorem info_str : (Tryd.prog.info? 9).map (fun i => (i.zero, i.size, i.bytes)) = some (some (.string ByteArray.empty), 1, 16) := by kernel_rfl

/-- A row of texts that the call made, as a slice. -/
theorem Strs.row {w : World} {N n C : Nat} {ss : List ByteArray} {f : Nat → Value} (h : w.rowIs N 9 n f) (hn : ss.length ≤ n) (hf : ∀ j (hj : j < ss.length), f j = .string ss[j]) (hN : N < C) : Strs w C (some ⟨N, 0, none⟩) ss := fun _ =>
  ⟨N, 0, rfl, hN, fun j hj => by rw [Nat.zero_add, h.cell (by omega), hf j hj]⟩

/-- All of them short enough. -/
def Short (ss : List ByteArray) : Prop := ∀ s ∈ ss, s.size ≤ maxLen
theorem Short.at {ss : List ByteArray} (h : Short ss) (k : Nat) (hk : k < ss.length) : (ss[k]).size ≤ maxLen := h _ (List.getElem_mem hk)

def sumS (ss : List ByteArray) : Nat := (ss.map (·.size)).sum
theorem sumS_snoc (ss : List ByteArray) (k : Nat) (hk : k < ss.length) : sumS (ss.take (k + 1)) = sumS (ss.take k) + (ss[k]).size := by
  unfold sumS
  rw [List.take_succ_eq_append_getElem hk, List.map_append, List.sum_append]
  simp only [List.map_cons, List.map_nil, List.sum_cons, List.sum_nil, Nat.add_zero]
theorem sumS_all (ss : List ByteArray) (k : Nat) (hk : ¬ k < ss.length) : ss.take k = ss := List.take_of_length_le (by omega)
theorem sumS_mem (ss : List ByteArray) (s : ByteArray) (h : s ∈ ss) : s.size ≤ sumS ss := by
  induction ss with
  | nil => cases h
  | cons x l ih =>
    simp only [sumS, List.map_cons, List.sum_cons] at *
    rcases List.mem_cons.1 h with rfl | h
    · omega
    · have := ih h; omega

theorem str_inj {a b : ByteArray} (h : a.toList = b.toList) : a = b := by
  rw [ByteArray.toList_eq, ByteArray.toList_eq] at h
  exact ByteArray.ext (Array.ext' h)

/-- Whether two lists of texts are the same. -/
def sameL (ss tt : List ByteArray) : Bool := decide (ss = tt)
theorem sameL_refl (ss : List ByteArray) : sameL ss ss = true := by simp [sameL]
theorem sameL_len {ss tt : List ByteArray} (h : ¬ ss.length = tt.length) : sameL ss tt = false := by
  simp only [sameL, decide_eq_false_iff_not]; intro e; exact h (by rw [e])
theorem sameL_not {ss tt : List ByteArray} (k : Nat) (h1 : k < ss.length) (h2 : k < tt.length) (h : ¬ ss[k] = tt[k]) : sameL ss tt = false := by
  simp only [sameL, decide_eq_false_iff_not]; intro e; subst e; exact h rfl
theorem sameL_all {ss tt : List ByteArray} (hl : ss.length = tt.length) (k : Nat) (hk : ¬ k < ss.length) (h : ss.take k = tt.take k) : sameL ss tt = true := by
  rw [List.take_of_length_le (by omega), List.take_of_length_le (by omega)] at h
  simp [sameL, h]
theorem take_same {ss tt : List ByteArray} (k : Nat) (h1 : k < ss.length) (h2 : k < tt.length) (h0 : ss.take k = tt.take k) (h : ss[k] = tt[k]) : ss.take (k + 1) = tt.take (k + 1) := by
  rw [List.take_succ_eq_append_getElem h1, List.take_succ_eq_append_getElem h2, h0, h]
end Go.Proofs.YtmgikfeknmbpbaaDoor
namespace Go.Proofs.YtmgikfeknmbpbaaDoor
open Go.RowKit M
set_option linter.unusedVariables false

theorem join_is (xs : List (List UInt8)) : Lib.join xs [32] = joinT xs := rfl
/-- A row of texts that is being filled. -/
def rowT (ts : List ByteArray) (k : Nat) : Nat → Value := fun j => if j < k then .string (ts.getD j ByteArray.empty) else .string ByteArray.empty
theorem rowT_next (ts : List ByteArray) (k : Nat) (hk : k < ts.length) (j : Nat) : (if j = k then Value.string ts[k] else rowT ts k j) = rowT ts (k + 1) j := by
  unfold rowT
  by_cases e : j = k
  · subst e; simp [List.getD, List.getElem?_eq_getElem hk]
  · simp only [e, if_false]
    by_cases e2 : j < k
    · rw [if_pos e2, if_pos (by omega)]
    · rw [if_neg e2, if_neg (by omega)]
theorem condT_len {c : Cn} (h : okC c) (htg : c.tg.size ≤ 1048576) : (condT c).length ≤ 1048602 := by
  rw [← oneT_ok h]
  have := oneT_len (c := c) (by rcases h with ⟨_, h1, h2⟩ | ⟨h1, _⟩ <;> omega)
  omega
theorem listT_len {cs : List Cn} (h : okLs cs) (htg : ∀ c ∈ cs, c.tg.size ≤ 1048576) : (joinT (cs.map condT)).length ≤ 4194412 := by
  have h1 := joinT_len (cs.map condT)
  rw [List.map_map] at h1
  have h2 := sum_le ((fun x : List UInt8 => x.length + 1) ∘ condT) (fun _ => 1048603) cs (fun c hc => by
    have := condT_len (h.2.2 c hc) (htg c hc)
    simp only [Function.comp]
    omega)
  have h3 : (cs.map fun _ => 1048603).sum = 1048603 * cs.length := by
    clear h h1 h2 htg
    induction cs with
    | nil => rfl
    | cons x r ih => rw [List.map_cons, List.sum_cons, ih, List.length_cons, Nat.mul_add]; omega
  have := h.2.1
  omega
theorem wrap_text (l : List UInt8) : (⟨#[40]⟩ : ByteArray) ++ bytesOf l ++ ⟨#[41]⟩ = bytesOf (40 :: (l ++ [41])) := by
  apply ByteArray.ext
  simp [bytesOf]
/-- What one list is told as. -/
def ListIs (cs : List Cn) (e : Ending) : Prop := ∃ s z, e = .returned (.tuple #[.string s, .bool z]) ∧ (z = true → okLs cs ∧ s = bytesOf (listT cs)) ∧ (z = false → ¬ okLs cs)
theorem listIs_no {cs : List Cn} (h : ¬ okLs cs) (s : ByteArray) : ListIs cs (.returned (.tuple #[.string s, .bool false])) := ⟨s, false, rfl, fun e => (by cases e), fun _ => h⟩
theorem listIs_yes {cs : List Cn} {s : ByteArray} (h : okLs cs) (hs : s = bytesOf (listT cs)) : ListIs cs (.returned (.tuple #[.string s, .bool true])) := ⟨s, true, rfl, fun _ => ⟨h, hs⟩, fun e => (by cases e)⟩

set_option maxRecDepth 100000 in
set_option maxHeartbeats 8000000 in
theorem listText_any (cs : List Cn) (pa : Option Addr) (pc B : Nat) (w : World) (h : Cns w B pa cs) (hB : B ≤ w.heap.size) (hl : cs.length ≤ 1048576) (htg : ∀ c ∈ cs, c.tg.size ≤ 1048576) (hwf : ∀ c ∈ cs, wfC c) (ht : PowTab w) :
    Calls Tryd.prog 25 #[.slice pa cs.length pc] w fun e w' => ListIs cs e ∧ Below w.heap.size w w' := by
  have HH := hide h
  have HTG := hide htg
  have HWF := hide hwf
  have HPT := hide (fun W (hb : Below w.heap.size w W) => ht.below hb)
  clear h htg hwf ht
  by_cases hln : 1 ≤ cs.length ∧ cs.length ≤ 4
  rotate_left
  · have HN := hide (show ¬ okLs cs from fun e => hln ⟨e.1, e.2.1⟩)
    by_cases h1 : cs.length < 1
    · have h2 : (cs.length : Int) < 1 := by omega
      clear hln h1
      go_enter Tryd.func25, Tryd.ntmps25
      go_wp2
      go_ret2
      exact ⟨listIs_no HN.out _, Below.refl _ _⟩
    · have h2 : ¬ (cs.length : Int) < 1 := by omega
      have h3 : (4 : Int) < (cs.length : Int) := by omega
      clear hln h1
      go_enter Tryd.func25, Tryd.ntmps25
      go_wp2
      go_ret2
      exact ⟨listIs_no HN.out _, Below.refl _ _⟩
  obtain ⟨hl1, hl4⟩ := hln
  have h2 : ¬ (cs.length : Int) < 1 := by omega
  have h3 : ¬ (4 : Int) < (cs.length : Int) := by omega
  have hmk := fun w => run_make_row' (P := Tryd.prog) 50 9 (.string ByteArray.empty) 16 Tryd.underlying50 info_str rfl .i64 .i64 cs.length (by omega) (by omega) w
  obtain ⟨ts, hts⟩ : ∃ z, cs.map (fun c => bytesOf (condT c)) = z := ⟨_, rfl⟩
  have htl : ts.length = cs.length := by rw [← hts, List.length_map]
  have HTS := hide (show ∀ k (hk : k < cs.length) (hk2 : k < ts.length), ts[k] = bytesOf (condT cs[k]) from fun k hk hk2 => by subst hts; rw [List.getElem_map])
  have HTM := hide (show ts.map (·.data.toList) = cs.map condT by subst hts; rw [List.map_map]; rfl)
  have HTL := hide htl
  clear hts htl
  go_enter Tryd.func25, Tryd.ntmps25
  go_wp2
  clear hmk
  go_loopw [20] (fun i wr => ∃ k : Nat, k ≤ cs.length ∧ i = .int .i64 k ∧ Hid (∀ j (hj : j < cs.length), j < k → okC cs[j]) ∧ Hid (wr.rowIs w.heap.size 9 cs.length (rowT ts k)) ∧ Below w.heap.size w wr) (fun i _ => cs.length - (intOf i).toNat)
  case atStart => exact ⟨0, Nat.zero_le _, rfl, fun j _ hj => absurd hj (Nat.not_lt_zero _), (World.rowIs_made w _ _ _).congr (fun i _ => by simp [rowT]), (Below.refl _ _).alloc (Nat.le_refl _) _⟩
  case round =>
    obtain ⟨k, hk, rfl, HOK, HROW, hbe⟩ := hrel
    by_cases hlt : k < cs.length
    · have hkt : k < ts.length := by have := HTL.out; omega
      obtain ⟨b, o, rfl, hb, hc⟩ := HH.out (by omega)
      obtain ⟨d0, d1, d2⟩ := hc k hlt
      have hbw : b < w.heap.size := by omega
      have q0 := (hbe.cell (p := ⟨b, o + k * 3, none⟩) hbw).trans d0
      have q1 := (hbe.cell (p := ⟨b, o + k * 3 + 1, none⟩) hbw).trans d1
      have q2 := (hbe.cell (p := ⟨b, o + k * 3 + 2, none⟩) hbw).trans d2
      have hx1 := HTG.out _ (List.getElem_mem hlt)
      have hx2 : cs[k].tk ≤ 9223372036854775807 := HWF.out _ (List.getElem_mem hlt)
      have HTK := hide (HTS.out k hlt hkt)
      have HNO := hide (fun (e : okBn cs[k] = false) => show ¬ okLs cs from fun h => by
        have := (okBn_iff cs[k]).2 (h.2.2 _ (List.getElem_mem hlt))
        rw [e] at this
        cases this)
      have HYE := hide (fun (e : okBn cs[k] = true) => show ∀ j (hj : j < cs.length), j < k + 1 → okC cs[j] from fun j hj hjk => if h : j = k then by subst h; exact (okBn_iff _).1 e else HOK.out j hj (by omega))
      obtain ⟨x, hx⟩ : ∃ x, cs[k] = x := ⟨_, rfl⟩
      rw [hx] at q0 q1 q2 hx1 hx2 HTK HNO HYE
      clear hc hx d0 d1 d2
      have hb1 := (Below.refl wr.heap.size wr).alloc (Nat.le_refl _) (Obj.cells #[.bool x.no, .int .i64 x.tk, .string x.tg] 48)
      have HB1 := hide (hbe.trans (hb1.mono hbe.size))
      have HX := hide (BoxV.made wr [.bool x.no, .int .i64 x.tk, .string x.tg] 48)
      have HQ := hide (condOk_any x (wr.alloc (Obj.cells #[.bool x.no, .int .i64 x.tk, .string x.tg] 48)) hx1)
      have HROW1 := hide (HROW.out.of_block (hb1.block _ HROW.out.lt))
      obtain ⟨z, hz⟩ : ∃ z, okBn x = z := ⟨_, rfl⟩
      rw [hz] at HQ HNO HYE
      clear hz hb1 HROW
      go_wp2_with fail
      refine HQ.out.mono ?_
      rintro e w1 ⟨rfl, b1⟩
      have HB2 := hide (HB1.out.trans (b1.mono HB1.out.size))
      have HX1 := hide (HX.out.next b1)
      have HROW2 := hide (HROW1.out.of_block (b1.block _ HROW1.out.lt))
      have y0 := (HX1.out.2 0 _ rfl).1
      have y1 := (HX1.out.2 1 _ rfl).1
      have y2 := (HX1.out.2 2 _ rfl).1
      clear b1 HQ HX HROW1 HB1 q0 q1 q2
      cases z
      · have HN := hide (HNO.out rfl)
        go_wp2
        go_ret2
        exact ⟨listIs_no HN.out _, HB2.out⟩
      · have HY := hide (HYE.out rfl)
        have HQ2 := hide (condText_any x w1 hx2 hx1 (HPT.out w1 HB2.out))
        clear HNO HYE
        go_wp2_with fail
        refine HQ2.out.mono ?_
        rintro e w2 ⟨rfl, b2⟩
        have hrow3 := HROW2.out.of_block (b2.block _ HROW2.out.lt)
        have hcn := hrow3.cell hlt
        have hfn := hrow3.frozen k
        have hrow4 := (hrow3.set k (.string (bytesOf (condT x)))).congr (g := rowT ts (k + 1)) (fun j hj => by
          rw [← rowT_next ts k hkt j, HTK.out])
        have HR4 := hide hrow4
        have HB3 := hide ((HB2.out.trans (b2.mono HB2.out.size)).setCell (p := ⟨w.heap.size, k, none⟩) (Nat.le_refl _) (.string (bytesOf (condT x))))
        clear hrow4 hrow3 b2 HB2 HQ2 HROW2 y0 y1 y2
        go_wp2
        go_roundw
        case rel => exact ⟨k + 1, by omega, by go_num, HY, HR4, HB3.out⟩
        case measure => simp [intOf]; omega
    · have HOKL := hide (show okLs cs from ⟨hl1, hl4, fun c hc => by
        obtain ⟨j, hj, rfl⟩ := List.mem_iff_getElem.1 hc
        exact HOK.out j hj (by omega)⟩)
      have hlen := listT_len HOKL.out HTG.out
      have hJ := Tryd.strings_Join w.heap.size 0 cs.length ts ⟨#[32]⟩ wr (fun j x hx => by
        have hj : j < ts.length := (List.getElem?_eq_some_iff.1 hx).1
        have hjc : j < cs.length := by have := HTL.out; omega
        rw [Nat.zero_add, HROW.out.cell hjc]
        unfold rowT
        rw [if_pos (by omega)]
        rw [List.getD_eq_getElem?_getD, hx]; rfl) HROW.out.lt (by have := HTL.out; omega) (by have := HTL.out; omega) (by
          rw [HTM.out]
          show (Lib.join _ [32]).length ≤ _
          rw [join_is]
          omega)
      rw [HTL.out, HTM.out] at hJ
      rw [show Lib.join (cs.map condT) (⟨#[32]⟩ : ByteArray).data.toList = joinT (cs.map condT) from rfl] at hJ
      have HJ := hide hJ
      have HW := hide (wrap_text (joinT (cs.map condT)))
      have HBL := hide (show bytesOf (40 :: (joinT (cs.map condT) ++ [41])) = bytesOf (listT cs) from rfl)
      obtain ⟨J, hJe⟩ : ∃ z : ByteArray, (⟨(joinT (cs.map condT)).toArray⟩ : ByteArray) = z := ⟨_, rfl⟩
      have hJs : J.size ≤ 4194412 := by rw [← hJe]; exact hlen
      have HW2 := hide (show ⟨#[40]⟩ ++ J ++ ⟨#[41]⟩ = bytesOf (listT cs) by rw [← hJe]; exact HW.out)
      rw [hJe] at HJ
      clear hJ hJe hlen HW HBL
      go_wp2_with fail
      refine HJ.out.mono ?_
      rintro e w2 ⟨rfl, b2⟩
      have HC := hide (hbe.trans (b2.mono hbe.size))
      clear b2
      go_wp2
      go_ret2
      exact ⟨listIs_yes HOKL.out HW2.out, HC.out⟩

theorem ifT_len {ls : List (List Cn)} (h : okIf ls) (htg : ∀ cs ∈ ls, ∀ c ∈ cs, c.tg.size ≤ 1048576) : (joinT (ls.map listT)).length ≤ 20000000 := by
  have h1 := joinT_len (ls.map listT)
  rw [List.map_map] at h1
  have h2 := sum_le ((fun x : List UInt8 => x.length + 1) ∘ listT) (fun _ => 4194415) ls (fun cs hc => by
    have := listT_len (h.2.2 cs hc) (htg cs hc)
    simp only [Function.comp, listT, List.length_cons, List.length_append, List.length_nil]
    omega)
  have h3 : (ls.map fun _ => 4194415).sum = 4194415 * ls.length := by
    clear h h1 h2 htg
    induction ls with
    | nil => rfl
    | cons x r ih => rw [List.map_cons, List.sum_cons, ih, List.length_cons, Nat.mul_add]; omega
  have := h.2.1
  omega
/-- What lists are told as. -/
def TxtE (ls : List (List Cn)) (e : Ending) : Prop := ∃ s, e = .returned (.string s) ∧ (okIf ls → s = bytesOf (ifT ls)) ∧ (¬ okIf ls → s = ⟨#[]⟩)
theorem txtE_no {ls : List (List Cn)} (h : ¬ okIf ls) : TxtE ls (.returned (.string ⟨#[]⟩)) := ⟨_, rfl, fun e => absurd e h, fun _ => rfl⟩
theorem txtE_yes {ls : List (List Cn)} {s : ByteArray} (h : okIf ls) (hs : s = bytesOf (ifT ls)) : TxtE ls (.returned (.string s)) := ⟨_, rfl, fun _ => hs, fun e => absurd h e⟩

set_option maxRecDepth 100000 in
set_option maxHeartbeats 8000000 in
theorem ifText_any (ls : List (List Cn)) (a : Option Addr) (cap B : Nat) (w : World) (h : Cnss w B a ls) (hB : B ≤ w.heap.size) (hl : ls.length ≤ 1048576) (hl2 : ∀ cs ∈ ls, cs.length ≤ 1048576) (htg : ∀ cs ∈ ls, ∀ c ∈ cs, c.tg.size ≤ 1048576) (hwf : ∀ cs ∈ ls, ∀ c ∈ cs, wfC c) (ht : PowTab w) :
    Calls Tryd.prog 13 #[.slice a ls.length cap] w fun e w' => TxtE ls e ∧ Below w.heap.size w w' := by
  have HH := hide h
  have HTG := hide htg
  have HWF := hide hwf
  have HL2 := hide hl2
  have HPT := hide (fun W (hb : Below w.heap.size w W) => ht.below hb)
  clear h htg hwf ht hl2
  by_cases hln : ls.length ≤ 4
  rotate_left
  · have HN := hide (show ¬ okIf ls from fun e => hln e.2.1)
    have h3 : (4 : Int) < (ls.length : Int) := by omega
    clear hln
    go_enter Tryd.func13, Tryd.ntmps13
    go_wp2
    go_ret
    exact ⟨txtE_no HN.out, Below.refl _ _⟩
  have h3 : ¬ (4 : Int) < (ls.length : Int) := by omega
  have hmk := fun w => run_make_row' (P := Tryd.prog) 50 9 (.string ByteArray.empty) 16 Tryd.underlying50 info_str rfl .i64 .i64 ls.length (by omega) (by omega) w
  obtain ⟨ts, hts⟩ : ∃ z, ls.map (fun c => bytesOf (listT c)) = z := ⟨_, rfl⟩
  have htl : ts.length = ls.length := by rw [← hts, List.length_map]
  have HTS := hide (show ∀ k (hk : k < ls.length) (hk2 : k < ts.length), ts[k] = bytesOf (listT ls[k]) from fun k hk hk2 => by subst hts; rw [List.getElem_map])
  have HTM := hide (show ts.map (·.data.toList) = ls.map listT by subst hts; rw [List.map_map]; rfl)
  have HTL := hide htl
  clear hts htl
  go_enter Tryd.func13, Tryd.ntmps13
  go_wp2
  clear hmk
  go_loopw [16] (fun i wr => ∃ k : Nat, k ≤ ls.length ∧ i = .int .i64 k ∧ Hid (∀ j (hj : j < ls.length), j < k → okLs ls[j]) ∧ Hid (wr.rowIs w.heap.size 9 ls.length (rowT ts k)) ∧ Below w.heap.size w wr) (fun i _ => ls.length - (intOf i).toNat)
  case atStart => exact ⟨0, Nat.zero_le _, rfl, fun j _ hj => absurd hj (Nat.not_lt_zero _), (World.rowIs_made w _ _ _).congr (fun i _ => by simp [rowT]), (Below.refl _ _).alloc (Nat.le_refl _) _⟩
  case round =>
    obtain ⟨k, hk, rfl, HOK, HROW, hbe⟩ := hrel
    by_cases hlt : k < ls.length
    · have hkt : k < ts.length := by have := HTL.out; omega
      obtain ⟨b, o, rfl, hb, hc⟩ := HH.out (by omega)
      obtain ⟨pa, pc, d0, hin⟩ := hc k hlt
      have hbw : b < w.heap.size := by omega
      have q0 := (hbe.cell (p := ⟨b, o + k, none⟩) hbw).trans d0
      have HTK := hide (HTS.out k hlt hkt)
      have HQ := hide (listText_any ls[k] pa pc B wr (hin.ps.below hbe hB) (Nat.le_trans hB hbe.size) (HL2.out _ (List.getElem_mem hlt)) (HTG.out _ (List.getElem_mem hlt)) (HWF.out _ (List.getElem_mem hlt)) (HPT.out wr hbe))
      have HNO := hide (fun (e : ¬ okLs ls[k]) => show ¬ okIf ls from fun h => e (h.2.2 _ (List.getElem_mem hlt)))
      have HYE := hide (fun (e : okLs ls[k]) => show ∀ j (hj : j < ls.length), j < k + 1 → okLs ls[j] from fun j hj hjk => if h : j = k then by subst h; exact e else HOK.out j hj (by omega))
      obtain ⟨cs, hx⟩ : ∃ x, ls[k] = x := ⟨_, rfl⟩
      rw [hx] at q0 HTK HNO HYE HQ
      clear hc hx d0 hin
      go_wp2_with fail
      refine HQ.out.mono ?_
      rintro e w1 ⟨⟨s, z, rfl, hy, hn⟩, b1⟩
      have HB2 := hide (hbe.trans (b1.mono hbe.size))
      have HROW2 := hide (HROW.out.of_block (b1.block _ HROW.out.lt))
      clear b1 HQ HROW q0
      cases z
      · have HN := hide (HNO.out (hn rfl))
        clear hy hn
        go_wp2
        go_ret
        exact ⟨txtE_no HN.out, HB2.out⟩
      · obtain ⟨hy1, hy2⟩ := hy rfl
        have HY := hide (HYE.out hy1)
        have hcn := HROW2.out.cell hlt
        have hfn := HROW2.out.frozen k
        have hrow4 := (HROW2.out.set k (.string s)).congr (g := rowT ts (k + 1)) (fun j hj => by
          rw [← rowT_next ts k hkt j, HTK.out, hy2])
        have HR4 := hide hrow4
        have HB3 := hide (HB2.out.setCell (p := ⟨w.heap.size, k, none⟩) (Nat.le_refl _) (.string s))
        clear hrow4 HB2 HROW2 HNO HYE hy hn hy1 hy2
        go_wp2
        go_roundw
        case rel => exact ⟨k + 1, by omega, by go_num, HY, HR4, HB3.out⟩
        case measure => simp [intOf]; omega
    · have HALL := hide (show ∀ cs ∈ ls, okLs cs from fun c hc => by
        obtain ⟨j, hj, rfl⟩ := List.mem_iff_getElem.1 hc
        exact HOK.out j hj (by omega))
      have hlen : (joinT (ls.map listT)).length ≤ 20000000 := by
        by_cases h0 : ls.length = 0
        · have : ls = [] := List.eq_nil_of_length_eq_zero h0
          subst this
          simp [joinT]
        · exact ifT_len ⟨by omega, hln, HALL.out⟩ HTG.out
      have hJ := Tryd.strings_Join w.heap.size 0 ls.length ts ⟨#[32]⟩ wr (fun j x hx => by
        have hj : j < ts.length := (List.getElem?_eq_some_iff.1 hx).1
        have hjc : j < ls.length := by have := HTL.out; omega
        rw [Nat.zero_add, HROW.out.cell hjc]
        unfold rowT
        rw [if_pos (by omega)]
        rw [List.getD_eq_getElem?_getD, hx]; rfl) HROW.out.lt (by have := HTL.out; omega) (by have := HTL.out; omega) (by
          rw [HTM.out]
          show (Lib.join _ [32]).length ≤ _
          rw [join_is]
          omega)
      rw [HTL.out, HTM.out] at hJ
      rw [show Lib.join (ls.map listT) (⟨#[32]⟩ : ByteArray).data.toList = joinT (ls.map listT) from rfl] at hJ
      have HJ := hide hJ
      have HRET := hide (show TxtE ls (.returned (.string ⟨(joinT (ls.map listT)).toArray⟩)) from by
        by_cases h0 : ls.length = 0
        · have : ls = [] := List.eq_nil_of_length_eq_zero h0
          subst this
          exact txtE_no (fun e => by have := e.1; simp at this)
        · exact txtE_yes ⟨by omega, hln, HALL.out⟩ rfl)
      obtain ⟨J, hJe⟩ : ∃ z : ByteArray, (⟨(joinT (ls.map listT)).toArray⟩ : ByteArray) = z := ⟨_, rfl⟩
      rw [hJe] at HJ HRET
      clear hJ hJe hlen
      go_wp2_with fail
      refine HJ.out.mono ?_
      rintro e w2 ⟨rfl, b2⟩
      have HC := hide (hbe.trans (b2.mono hbe.size))
      clear b2
      go_wp2
      go_ret
      exact ⟨HRET.out, HC.out⟩
end Go.Proofs.YtmgikfeknmbpbaaDoor
namespace Go.Proofs.YtmgikfeknmbpbaaDoor
open Go.RowKit M
set_option linter.unusedVariables false

theorem txt_is (ls : List (List Cn)) : ∃ s, TxtIs ls s := by
  by_cases h : okIf ls
  · exact ⟨_, fun _ => rfl, fun e => absurd h e⟩
  · exact ⟨_, fun e => absurd e h, fun _ => rfl⟩
theorem specIfText_gen (l : List (List Cn)) (tt : ByteArray) (htt : TxtIs l tt) (u : Value) (W : World) (h : View W W.heap.size u (.l (l.map dCs))) (hsz : szRs (l.map dCs) ≤ 1048576) (hwf : ∀ cs ∈ l, ∀ c ∈ cs, wfC c) :
    Calls Tryd.prog 11 #[u] W fun e w' => e = .returned (.string tt) ∧ Below W.heap.size W w' := by
  obtain ⟨a, cap, rfl, h1, h2, h3, h4⟩ := cnss_of_view h
  refine (specIfText_any l a cap W.heap.size W h4 (Nat.le_refl _) hsz hwf).mono ?_
  rintro e w' ⟨⟨s, rfl, hs⟩, hb⟩
  exact ⟨by rw [hs.same htt], hb⟩
theorem ifText_gen (l : List (List Cn)) (tt : ByteArray) (htt : TxtIs l tt) (u : Value) (W : World) (h : View W W.heap.size u (.l (l.map dCs))) (hsz : szRs (l.map dCs) ≤ 1048576) (hwf : ∀ cs ∈ l, ∀ c ∈ cs, wfC c) (ht : PowTab W) :
    Calls Tryd.prog 13 #[u] W fun e w' => e = .returned (.string tt) ∧ Below W.heap.size W w' := by
  obtain ⟨a, cap, rfl, h1, h2, h3, h4⟩ := cnss_of_view h
  have hs := cns_small hsz
  refine (ifText_any l a cap W.heap.size W h4 (Nat.le_refl _) hs.1 (fun cs hcs => (hs.2 cs hcs).1) (fun cs hcs => (hs.2 cs hcs).2) hwf ht).mono ?_
  rintro e w' ⟨⟨s, rfl, hs⟩, hb⟩
  exact ⟨by rw [TxtIs.same hs htt], hb⟩
end Go.Proofs.YtmgikfeknmbpbaaDoor
namespace Go.Proofs.YtmgikfeknmbpbaaDoor
open Go.RowKit M
set_option linter.unusedVariables false

set_option maxRecDepth 100000 in
set_option maxHeartbeats 4000000 in
theorem szCond_gen (x : Cn) (left B : Nat) (w : World) (hB : B ≤ w.heap.size) (hok : okR (dCn x)) (hleft : left ≤ 1048576) :
    Calls Tryd.prog 38 #[.agg #[.bool x.no, .int .i64 x.tk, .string x.tg], .int .i64 left] w fun e w' => (∃ z : Int, e = .returned (.int .i64 z) ∧ (z < 0 ∨ ∃ m : Nat, z = m ∧ szR (dCn x) + m = left)) ∧ Below w.heap.size w w' := by
  have K0 := hide (show Below w.heap.size w (w.alloc (Obj.cells #[.bool x.no, .int .i64 x.tk, .string x.tg] 70)) from (Below.refl _ _).alloc (Nat.le_refl _) _)
  have X0 := hide (BoxV.made w [.bool x.no, .int .i64 x.tk, .string x.tg] 70)
  have hsum : szR (dCn x) = (x.tg).size := by simp [dCn, szR, szF, szV]
  have HS := hide hsum
  clear hsum
  have s2 : (x.tg).size ≤ maxLen := okR_mem hok (.c (.string (x.tg))) (by simp [dCn])
  unfold maxLen at s2
  clear hok
  go_enter Tryd.func38, Tryd.ntmps38
  by_cases q2 : left < (x.tg).size
  · go_wp2
    go_ret
    exact ⟨⟨_, rfl, .inl (by omega)⟩, K0.out⟩
  obtain ⟨m2, hm2⟩ : ∃ m : Nat, (x.tg).size + m = left := ⟨left - (x.tg).size, by omega⟩
  have e2 : (left : Int) - ((x.tg).size : Int) = (m2 : Int) := by omega
  have hn2 : m2 ≤ 1048576 := by omega
  have E2 := hide hm2
  clear hm2 q2
  go_wp2
  go_ret
  exact ⟨⟨_, rfl, .inr ⟨m2, rfl, by rw [HS.out]; have := E2.out; omega⟩⟩, K0.out⟩
end Go.Proofs.YtmgikfeknmbpbaaDoor
namespace Go.Proofs.YtmgikfeknmbpbaaDoor
open Go.RowKit M
set_option linter.unusedVariables false

set_option maxRecDepth 100000 in
set_option maxHeartbeats 4000000 in
theorem szCondS_gen (l : List Cn) (v : Value) (left B : Nat) (w : World) (h : View w B v (.l (l.map dCn))) (hB : B ≤ w.heap.size) (hok : okF (.l (l.map dCn))) (hleft : left ≤ 1048576) :
    Calls Tryd.prog 21 #[v, .int .i64 left] w fun e w' => (∃ z : Int, e = .returned (.int .i64 z) ∧ (z < 0 ∨ ∃ m : Nat, z = m ∧ szRs (l.map dCn) + m = left)) ∧ Below w.heap.size w w' := by
  obtain ⟨a, cap, rfl, hl, hm, _, hat⟩ := h.rows 3 (fun _ => rfl)
  have hl2 : l.length ≤ maxLen := Nat.le_trans hl hm
  unfold maxLen at hl2
  by_cases hlt0 : left < l.length
  · go_enter Tryd.func21, Tryd.ntmps21
    go_wp2
    go_ret
    exact ⟨⟨_, rfl, .inl (by omega)⟩, Below.refl _ _⟩
  · have HAT := hide hat
    have HOK := hide hok.1
    clear h hat hok
    go_enter Tryd.func21, Tryd.ntmps21
    go_wp2
    go_loopw [1, 5] (fun lv i wr => ∃ k m : Nat, k ≤ l.length ∧ i = .int .i64 k ∧ lv = .int .i64 m ∧ Hid (szRs ((l.take k).map dCn) + (l.length - k) + m = left) ∧ Below w.heap.size w wr) (fun _ i _ => l.length - (intOf i).toNat)
    case atStart => exact ⟨0, left - l.length, Nat.zero_le _, rfl, by congr 1; omega, (by show _ = _; simp [szRs]; omega), Below.refl _ _⟩
    case round =>
      obtain ⟨k, m, hk, rfl, rfl, HM, hbe⟩ := hrel
      by_cases hlt : k < l.length
      · obtain ⟨b, o, C, rfl, hb, hc⟩ := HAT.out (by omega)
        have hck := hc k hlt
        have HS2 := hide (szAtF_next dCn l k hlt)
        have hbw : b < w.heap.size := Nat.lt_of_lt_of_le hb hB
        have hm1 : m ≤ 1048576 := by have := HM.out; omega
        have hokx := (okRs_mem _ HOK.out _ (List.mem_map_of_mem (f := dCn) (List.getElem_mem hlt))).1
        obtain ⟨x, hx⟩ : ∃ x, l[k] = x := ⟨_, rfl⟩
        rw [hx] at hck HS2 hokx
        clear hx hc
        have c0 : wr.cell? ⟨b, o + k * 3, none⟩ = some (.bool x.no) := by
          obtain ⟨c, v⟩ := hck 0 (.c (.bool x.no)) rfl
          rw [v.inv] at c
          simp only [Nat.add_zero] at c
          exact (hbe.cell (p := ⟨b, o + k * 3, none⟩) hbw).trans c
        have c1 : wr.cell? ⟨b, o + k * 3 + 1, none⟩ = some (.int .i64 x.tk) := by
          obtain ⟨c, v⟩ := hck 1 (.c (.int .i64 x.tk)) rfl
          rw [v.inv] at c
          exact (hbe.cell (p := ⟨b, o + k * 3 + 1, none⟩) hbw).trans c
        have c2 : wr.cell? ⟨b, o + k * 3 + 2, none⟩ = some (.string x.tg) := by
          obtain ⟨c, v⟩ := hck 2 (.c (.string x.tg)) rfl
          rw [v.inv] at c
          exact (hbe.cell (p := ⟨b, o + k * 3 + 2, none⟩) hbw).trans c
        clear hck
        have HC := hide (szCond_gen x m B wr (Nat.le_trans hB hbe.size) hokx hm1)
        clear hokx
        go_wp2_with fail
        refine HC.out.mono ?_
        rintro e w1 ⟨⟨z, rfl, hz⟩, hb1⟩
        have c9 := hbe.trans (hb1.mono hbe.size)
        rcases hz with hz | ⟨m', rfl, hm'⟩
        · go_wp2
          go_ret
          exact ⟨⟨_, rfl, .inl (by omega)⟩, c9⟩
        · have HM' := hide hm'
          clear hm'
          go_wp2
          go_roundw
          case rel => exact ⟨k + 1, m', by omega, by go_num, rfl, (by show _ = _; rw [HS2.out]; have := HM.out; have := HM'.out; omega), c9⟩
          case measure => simp [intOf]; omega
      · have HM2 := HM.out
        rw [List.take_of_length_le (by omega)] at HM2
        have HM3 := hide HM2
        clear HM2
        go_wp2
        go_ret
        exact ⟨⟨m, rfl, .inr ⟨m, rfl, by have := HM3.out; omega⟩⟩, hbe⟩
end Go.Proofs.YtmgikfeknmbpbaaDoor
namespace Go.Proofs.YtmgikfeknmbpbaaDoor
open Go.RowKit M
set_option linter.unusedVariables false

set_option maxRecDepth 100000 in
set_option maxHeartbeats 4000000 in
theorem szCondSS_gen (l : List (List Cn)) (v : Value) (left B : Nat) (w : World) (h : View w B v (.l (l.map dCs))) (hB : B ≤ w.heap.size) (hok : okF (.l (l.map dCs))) (hleft : left ≤ 1048576) :
    Calls Tryd.prog 10 #[v, .int .i64 left] w fun e w' => (∃ z : Int, e = .returned (.int .i64 z) ∧ (z < 0 ∨ ∃ m : Nat, z = m ∧ szRs (l.map dCs) + m = left)) ∧ Below w.heap.size w w' := by
  obtain ⟨a, cap, rfl, hl, hm, _, hat⟩ := h.rows 1 (fun _ => rfl)
  have hl2 : l.length ≤ maxLen := Nat.le_trans hl hm
  unfold maxLen at hl2
  by_cases hlt0 : left < l.length
  · go_enter Tryd.func10, Tryd.ntmps10
    go_wp2
    go_ret
    exact ⟨⟨_, rfl, .inl (by omega)⟩, Below.refl _ _⟩
  · have HAT := hide hat
    have HOK := hide hok.1
    clear h hat hok
    go_enter Tryd.func10, Tryd.ntmps10
    go_wp2
    go_loopw [1, 5] (fun lv i wr => ∃ k m : Nat, k ≤ l.length ∧ i = .int .i64 k ∧ lv = .int .i64 m ∧ Hid (szRs ((l.take k).map dCs) + (l.length - k) + m = left) ∧ Below w.heap.size w wr) (fun _ i _ => l.length - (intOf i).toNat)
    case atStart => exact ⟨0, left - l.length, Nat.zero_le _, rfl, by congr 1; omega, (by show _ = _; simp [szRs]; omega), Below.refl _ _⟩
    case round =>
      obtain ⟨k, m, hk, rfl, rfl, HM, hbe⟩ := hrel
      by_cases hlt : k < l.length
      · obtain ⟨b, o, C, rfl, hb, hc⟩ := HAT.out (by omega)
        have hck := hc k hlt
        have HS2 := hide (szAtF_next dCs l k hlt)
        have hbw : b < w.heap.size := Nat.lt_of_lt_of_le hb hB
        have hm1 : m ≤ 1048576 := by have := HM.out; omega
        have hokx := (okRs_mem _ HOK.out _ (List.mem_map_of_mem (f := dCs) (List.getElem_mem hlt))).1
        obtain ⟨x, hx⟩ : ∃ x, l[k] = x := ⟨_, rfl⟩
        rw [hx] at hck HS2 hokx
        clear hx hc
        obtain ⟨c0, v0⟩ := hck 0 (.l (x.map dCn)) rfl
        simp only [Nat.mul_one, Nat.add_zero] at c0
        have c0 := (hbe.cell (p := ⟨b, o + k, none⟩) hbw).trans c0
        clear hck
        have hokx := okR_mem hokx (.l (x.map dCn)) (by simp [dCs])
        rw [show szR (dCs x) = szR [.l (x.map dCn)] from rfl, show szR [.l (x.map dCn)] = szRs (x.map dCn) from by simp [szR, szF]] at HS2
        have HC := hide (szCondS_gen x (C k 0) m B wr (v0.stays hbe hB) (Nat.le_trans hB hbe.size) hokx hm1)
        clear hokx v0
        go_wp2_with fail
        refine HC.out.mono ?_
        rintro e w1 ⟨⟨z, rfl, hz⟩, hb1⟩
        have c9 := hbe.trans (hb1.mono hbe.size)
        rcases hz with hz | ⟨m', rfl, hm'⟩
        · go_wp2
          go_ret
          exact ⟨⟨_, rfl, .inl (by omega)⟩, c9⟩
        · have HM' := hide hm'
          clear hm'
          go_wp2
          go_roundw
          case rel => exact ⟨k + 1, m', by omega, by go_num, rfl, (by show _ = _; rw [HS2.out]; have := HM.out; have := HM'.out; omega), c9⟩
          case measure => simp [intOf]; omega
      · have HM2 := HM.out
        rw [List.take_of_length_le (by omega)] at HM2
        have HM3 := hide HM2
        clear HM2
        go_wp2
        go_ret
        exact ⟨⟨m, rfl, .inr ⟨m, rfl, by have := HM3.out; omega⟩⟩, hbe⟩
end Go.Proofs.YtmgikfeknmbpbaaDoor
namespace Go.Proofs.YtmgikfeknmbpbaaDoor
open Go.RowKit M
set_option linter.unusedVariables false

set_option maxRecDepth 100000 in
set_option maxHeartbeats 4000000 in
theorem toCond_gen (x : Cn) (B : Nat) (w : World) (hB : B ≤ w.heap.size) (hsz : szR (dCn x) ≤ 1048576) :
    Calls Tryd.prog 40 #[.agg #[.bool x.no, .int .i64 x.tk, .string x.tg]] w fun e w' => e = .returned (.agg #[.bool x.no, .int .i64 x.tk, .string x.tg]) ∧ Below w.heap.size w w' := by
  go_enter Tryd.func40, Tryd.ntmps40
  go_wp2
  refine bodyPost_ret (v := .agg #[.bool x.no, .int .i64 x.tk, .string x.tg]) (by simp [results, Tryd.results40, go_sem]) rfl ⟨rfl, ?_⟩
  repeat' refine Below.setCell ?_ (by simp; try omega) _
  exact (((Below.refl _ _).alloc (Nat.le_refl _) _).alloc (by simp) _).alloc (by simp; omega) _
end Go.Proofs.YtmgikfeknmbpbaaDoor
namespace Go.Proofs.YtmgikfeknmbpbaaDoor
open Go.RowKit M
set_option linter.unusedVariables false

theorem infoCond_gen : (Tryd.prog.info? 48).map (fun i => (i.zero, i.size, i.bytes)) = some (some (.agg #[.bool false, .int .i64 0, .string ByteArray.empty]), 3, 32) := by kernel_rfl
theorem makeCondS_gen (n : Nat) (hn : n ≤ 1048577) (w : World) :
    (Instr.makeSlice 36 (.int .i64 (n : Int)) (.int .i64 (n : Int))).run Tryd.prog w = .ok (.slice (some ⟨w.heap.size, 0, none⟩) n n) (w.alloc (.cells (madeCells #[.bool false, .int .i64 0, .string ByteArray.empty] (n * 3)) 48)) := by
  obtain ⟨i, hi, hz, hs, hb⟩ := info_parts infoCond_gen
  have hr := run_make (P := Tryd.prog) w 36 48 i _ Tryd.underlying36 hi hz .i64 .i64 n n (by omega) (Int.le_refl _) (by rw [hb]; omega) (by omega)
  simp only [Int.toNat_natCast, hs] at hr
  exact hr

set_option maxRecDepth 100000 in
set_option maxHeartbeats 4000000 in
theorem toCondS_gen (l : List Cn) (v : Value) (B : Nat) (w : World) (h : View w B v (.l (l.map dCn))) (hB : B ≤ w.heap.size) (hsz : szRs (l.map dCn) ≤ 1048576) :
    Calls Tryd.prog 24 #[v] w fun e w' => (∃ p : Nat, e = .returned (.slice (some ⟨p, 0, none⟩) l.length l.length) ∧ Own w' (.slice (some ⟨p, 0, none⟩) l.length l.length) (.l (l.map dCn)) (IvG w.heap.size w'.heap.size)) ∧ Below w.heap.size w w' := by
  obtain ⟨a, cap, rfl, hl, hm, _, hat⟩ := h.rows 3 (fun _ => rfl)
  have hn : l.length ≤ 1048576 := by have := szRs_len (l.map dCn); rw [List.length_map] at this; omega
  have HAT := hide hat
  have HSZ := hide hsz
  have hmk := makeCondS_gen l.length (by omega) w
  have hm0 := MadeG.start w #[.bool false, .int .i64 0, .string ByteArray.empty] l.length 3 48 (rowsF dCn l)
  have HM0 := hide hm0
  clear hm0
  clear h hat hsz
  go_enter Tryd.func24, Tryd.ntmps24
  go_wp2
  clear hmk
  go_loopw [4] (fun i wr => ∃ k : Nat, k ≤ l.length ∧ i = .int .i64 k ∧ Hid (MadeG wr w.heap.size 3 l.length (rowsF dCn l) k) ∧ Below w.heap.size w wr) (fun i _ => l.length - (intOf i).toNat)
  case atStart => exact ⟨0, Nat.zero_le _, rfl, HM0, (Below.refl _ _).alloc (Nat.le_refl _) _⟩
  case round =>
    obtain ⟨k, hk, rfl, HR, hbe⟩ := hrel
    by_cases hlt : k < l.length
    · obtain ⟨b, o, C, rfl, hb, hc⟩ := HAT.out (by omega)
      have hck := hc k hlt
      have hbw : b < w.heap.size := Nat.lt_of_lt_of_le hb hB
      have hsx := szRs_mem _ _ (List.mem_map_of_mem (f := dCn) (List.getElem_mem hlt))
      have hrk := rowsF_at (f := dCn) l k hlt
      obtain ⟨x, hx⟩ : ∃ x, l[k] = x := ⟨_, rfl⟩
      rw [hx] at hck hsx hrk
      clear hx hc
      have c0 : wr.cell? ⟨b, o + k * 3, none⟩ = some (.bool x.no) := by
        obtain ⟨c, v⟩ := hck 0 (.c (.bool x.no)) rfl
        rw [v.inv] at c
        simp only [Nat.add_zero] at c
        exact (hbe.cell (p := ⟨b, o + k * 3, none⟩) hbw).trans c
      have c1 : wr.cell? ⟨b, o + k * 3 + 1, none⟩ = some (.int .i64 x.tk) := by
        obtain ⟨c, v⟩ := hck 1 (.c (.int .i64 x.tk)) rfl
        rw [v.inv] at c
        exact (hbe.cell (p := ⟨b, o + k * 3 + 1, none⟩) hbw).trans c
      have c2 : wr.cell? ⟨b, o + k * 3 + 2, none⟩ = some (.string x.tg) := by
        obtain ⟨c, v⟩ := hck 2 (.c (.string x.tg)) rfl
        rw [v.inv] at c
        exact (hbe.cell (p := ⟨b, o + k * 3 + 2, none⟩) hbw).trans c
      clear hck
      have HC := hide (toCond_gen x B wr (Nat.le_trans hB hbe.size) (by have := HSZ.out; omega))
      go_wp2_with fail
      refine HC.out.mono ?_
      rintro e w1 ⟨rfl, b1⟩
      have HR2 := HR.out.next b1 hlt [.bool x.no, .int .i64 x.tk, .string x.tg] rfl (fun i y => False) (fun i y hy => by
        rw [hrk] at hy
        match i with
        | 0 => cases hy; exact ⟨_, rfl, .c _ _⟩
        | 1 => cases hy; exact ⟨_, rfl, .c _ _⟩
        | 2 => cases hy; exact ⟨_, rfl, .c _ _⟩
        | i + 3 => cases hy) (fun i y hy => by exact hy.elim) (fun i i' y hne hy hy' => by exact hy.elim)
      have hm1 := HR.out.next0 b1
      obtain ⟨e0, d0, f0⟩ := hm1.cell hlt 0 (by decide)
      simp only [Nat.add_zero] at d0 f0
      obtain ⟨e1, d1, f1⟩ := hm1.cell hlt 1 (by decide)
      obtain ⟨e2, d2, f2⟩ := hm1.cell hlt 2 (by decide)
      have HR3 := hide HR2
      have c9 := hbe.trans (b1.mono hbe.size)
      clear HR2 HR hm1 HC
      go_wp2
      go_roundw
      case rel => exact ⟨k + 1, by omega, by go_num, HR3, (((c9.setCell (Nat.le_refl _) _).setCell (Nat.le_refl _) _).setCell (Nat.le_refl _) _)⟩
      case measure => simp [intOf]; omega
    · have hk2 : k = l.length := by omega
      subst hk2
      have HO := hide (HR.out.done (rows := l.map dCn) (by rw [List.length_map]) (by unfold maxLen; omega) (fun r hr => by obtain ⟨x, _, rfl⟩ := List.mem_map.1 hr; rfl) (fun j hj => by rw [rowsF_at l j (by simpa using hj)]; simp))
      go_wp2
      go_ret
      exact ⟨⟨_, rfl, HO.out⟩, hbe⟩
end Go.Proofs.YtmgikfeknmbpbaaDoor
namespace Go.Proofs.YtmgikfeknmbpbaaDoor
open Go.RowKit M
set_option linter.unusedVariables false

theorem infoCondS_gen : (Tryd.prog.info? 36).map (fun i => (i.zero, i.size, i.bytes)) = some (some (.slice none 0 0), 1, 24) := by kernel_rfl
theorem makeCondSS_gen (n : Nat) (hn : n ≤ 1048577) (w : World) :
    (Instr.makeSlice 22 (.int .i64 (n : Int)) (.int .i64 (n : Int))).run Tryd.prog w = .ok (.slice (some ⟨w.heap.size, 0, none⟩) n n) (w.alloc (.cells (madeCells #[.slice none 0 0] (n * 1)) 36)) := by
  obtain ⟨i, hi, hz, hs, hb⟩ := info_parts infoCondS_gen
  have hr := run_make (P := Tryd.prog) w 22 36 i _ Tryd.underlying22 hi hz .i64 .i64 n n (by omega) (Int.le_refl _) (by rw [hb]; omega) (by omega)
  simp only [Int.toNat_natCast, hs] at hr
  exact hr

set_option maxRecDepth 100000 in
set_option maxHeartbeats 4000000 in
theorem toCondSS_gen (l : List (List Cn)) (v : Value) (B : Nat) (w : World) (h : View w B v (.l (l.map dCs))) (hB : B ≤ w.heap.size) (hsz : szRs (l.map dCs) ≤ 1048576) :
    Calls Tryd.prog 12 #[v] w fun e w' => (∃ p : Nat, e = .returned (.slice (some ⟨p, 0, none⟩) l.length l.length) ∧ Own w' (.slice (some ⟨p, 0, none⟩) l.length l.length) (.l (l.map dCs)) (IvG w.heap.size w'.heap.size)) ∧ Below w.heap.size w w' := by
  obtain ⟨a, cap, rfl, hl, hm, _, hat⟩ := h.rows 1 (fun _ => rfl)
  have hn : l.length ≤ 1048576 := by have := szRs_len (l.map dCs); rw [List.length_map] at this; omega
  have HAT := hide hat
  have HSZ := hide hsz
  have hmk := makeCondSS_gen l.length (by omega) w
  have hm0 := MadeG.start w #[.slice none 0 0] l.length 1 36 (rowsF dCs l)
  simp only [Nat.mul_one] at hm0
  have HM0 := hide hm0
  clear hm0
  clear h hat hsz
  go_enter Tryd.func12, Tryd.ntmps12
  go_wp2
  clear hmk
  go_loopw [4] (fun i wr => ∃ k : Nat, k ≤ l.length ∧ i = .int .i64 k ∧ Hid (MadeG wr w.heap.size 1 l.length (rowsF dCs l) k) ∧ Below w.heap.size w wr) (fun i _ => l.length - (intOf i).toNat)
  case atStart => exact ⟨0, Nat.zero_le _, rfl, HM0, (Below.refl _ _).alloc (Nat.le_refl _) _⟩
  case round =>
    obtain ⟨k, hk, rfl, HR, hbe⟩ := hrel
    by_cases hlt : k < l.length
    · obtain ⟨b, o, C, rfl, hb, hc⟩ := HAT.out (by omega)
      have hck := hc k hlt
      have hbw : b < w.heap.size := Nat.lt_of_lt_of_le hb hB
      have hsx := szRs_mem _ _ (List.mem_map_of_mem (f := dCs) (List.getElem_mem hlt))
      have hrk := rowsF_at (f := dCs) l k hlt
      obtain ⟨x, hx⟩ : ∃ x, l[k] = x := ⟨_, rfl⟩
      rw [hx] at hck hsx hrk
      clear hx hc
      obtain ⟨c0, v0⟩ := hck 0 (.l (x.map dCn)) rfl
      simp only [Nat.mul_one, Nat.add_zero] at c0
      have c0 := (hbe.cell (p := ⟨b, o + k, none⟩) hbw).trans c0
      clear hck
      rw [show szR (dCs x) = szR [.l (x.map dCn)] from rfl, show szR [.l (x.map dCn)] = szRs (x.map dCn) from by simp [szR, szF]] at hsx
      have HC := hide (toCondS_gen x (C k 0) B wr (v0.stays hbe hB) (Nat.le_trans hB hbe.size) (by have := HSZ.out; omega))
      clear v0
      go_wp2_with fail
      refine HC.out.mono ?_
      rintro e w1 ⟨⟨p0, rfl, o0⟩, b1⟩
      have HR2 := HR.out.next b1 hlt [.slice (some ⟨p0, 0, none⟩) (x).length (x).length] rfl (fun i y => (i = 0 ∧ IvG wr.heap.size w1.heap.size y)) (fun i y hy => by
        rw [hrk] at hy
        match i with
        | 0 => cases hy; exact ⟨_, rfl, o0.wide (fun y hy => ⟨rfl, hy⟩)⟩
        | i + 1 => cases hy) (fun i y hy => by unfold IvG at hy; omega) (fun i i' y hne hy hy' => by unfold IvG at hy hy'; omega)
      have hm1 := HR.out.next0 b1
      obtain ⟨e0, d0, f0⟩ := hm1.cell hlt 0 (by decide)
      simp only [Nat.mul_one, Nat.add_zero] at d0 f0
      simp only [Nat.mul_one] at HR2
      have HR3 := hide HR2
      have c9 := hbe.trans (b1.mono hbe.size)
      clear HR2 HR hm1 HC o0
      go_wp2
      go_roundw
      case rel => exact ⟨k + 1, by omega, by go_num, HR3, (c9.setCell (Nat.le_refl _) _)⟩
      case measure => simp [intOf]; omega
    · have hk2 : k = l.length := by omega
      subst hk2
      have HO := hide (HR.out.done (rows := l.map dCs) (by rw [List.length_map]) (by unfold maxLen; omega) (fun r hr => by obtain ⟨x, _, rfl⟩ := List.mem_map.1 hr; rfl) (fun j hj => by rw [rowsF_at l j (by simpa using hj)]; simp))
      go_wp2
      go_ret
      exact ⟨⟨_, rfl, HO.out⟩, hbe⟩
end Go.Proofs.YtmgikfeknmbpbaaDoor
