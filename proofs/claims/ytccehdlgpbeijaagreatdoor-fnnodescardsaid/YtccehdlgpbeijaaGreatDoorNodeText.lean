/-
  What writing a text into a strings.Builder does that the call made itself.
  What the program's Escape does.
  What a type switch on a mark finds.
  What the texts of the program's marks are.
  What the program's NodeText does.
-/
import Derived.Test.YtccehdlgpbeijaaGreatDoorBld
import Derived.Lib.AppendStr
import Derived.Test.YtccehdlgpbeijaaGreatDoorRowsP
import Derived.Test.YtccehdlgpbeijaaGreatDoorSpecMark2
import Derived.Test.YtccehdlgpbeijaaGreatDoorShelf
import Derived.Test.YtccehdlgpbeijaaGreatDoorRows
import Derived.WalkKit
import Derived.Laws.Entries
import Derived.Tactics
import Derived.Deep.RegionHeld3
import Derived.Test.YtccehdlgpbeijaaGreatDoorParseNum
import Derived.Test.YtccehdlgpbeijaaGreatDoorMathNodeT
import Derived.Shelf.Strings.BuilderK
namespace Go.Proofs.YtccehdlgpbeijaaGreatDoor
open Go.RowKit

theorem strCells_bytes (s : ByteArray) : Lib.strCells s = Lib.byteCells s.data.toList := rfl

set_option maxHeartbeats 2000000 in
set_option maxRecDepth 100000 in
theorem writeString_any (B b : Nat) (l : List UInt8) (s : ByteArray) (w : World) (h : Lib.IsBuilder 75 5 B b (Lib.byteCells l) w) (hlen : l.length + s.size ≤ 140737488355328) (hBw : B ≤ w.heap.size) :
    Calls Tryz.prog 45 #[.pointer (some ⟨b, 0, none⟩), .string s] w fun e w' => e = .returned (.tuple #[.int .i64 s.size, .nilIface]) ∧ Lib.IsBuilder 75 5 B b (Lib.byteCells (l ++ s.data.toList)) w' ∧ Below B w w' := by
  obtain ⟨i0, hi, hz0, hz1, hz2⟩ := info_parts info_byte
  go_enter Tryz.func45, Tryz.ntmps45
  go_wp2_with fail
  refine (copyCheck_any B b _ w h).mono ?_
  rintro e w1 ⟨rfl, h1, hb1⟩
  have hlt := h1.lt
  obtain ⟨hB, v, hbk, hown, hne⟩ := h1
  rw [Lib.byteCells_length] at hown
  have c0 : w1.cell? ⟨b, 0, none⟩ = some (.pointer (some ⟨b, 0, none⟩)) := by rw [Lib.cell_of_heap hbk]; rfl
  have c1 : w1.cell? ⟨b, 1, none⟩ = some v := by rw [Lib.cell_of_heap hbk]; rfl
  go_wp2_with (at_builtin; refine Lib.wpList_append_own_string _ rfl _ _ 22 9 rfl B 5 i0 Tryz.underlying22 Tryz.underlying9 hi hz0 hz1 hz2 _ _ _ rfl hown s rfl ?c3 ?c4 ?c5 ?_)
  case c3 => unfold maxLen; omega
  case c4 => omega
  case c5 => have := hb1.size; omega
  intro v' w2 hown' hgrow _
  have hb2 : w2.heap[b]? = some (.cells #[.pointer (some ⟨b, 0, none⟩), v] 75 (0, 0)) := by
    rw [hgrow.block b hlt (fun e => hne e.symm)]
    exact hbk
  have d0 : w2.cell? ⟨b, 0, none⟩ = some (.pointer (some ⟨b, 0, none⟩)) := by rw [Lib.cell_of_heap hb2]; rfl
  have d1 : w2.cell? ⟨b, 1, none⟩ = some v := by rw [Lib.cell_of_heap hb2]; rfl
  have f1 : w2.frozen? ⟨b, 1, none⟩ = false := Lib.frozen_of_heap hb2 1
  obtain ⟨ao, n', cap, rfl⟩ : ∃ ao n' cap, v' = .slice ao n' cap := by
    rcases hown'.2 with ⟨hv, _⟩ | ⟨g, cap, cur, hv, _⟩
    · exact ⟨_, _, _, hv⟩
    · exact ⟨_, _, _, hv⟩
  go_wp2
  go_ret2
  refine ⟨rfl, .inr ?_, ?_⟩
  · refine Lib.BuilderAt.put (T := 75) (e := 5) hB hb2 (bs' := Lib.byteCells (l ++ s.data.toList)) ?_ (by decide)
    rw [Lib.byteCells_length, List.length_append, Lib.byteCells_append, ← strCells_bytes, show s.data.toList.length = s.size from Array.length_toList]
    exact hown'
  · exact (hb1.grown hgrow (by have := hb1.size; omega) (fun k hk => (hown.lt k hk).1)).setCell (p := ⟨b, 1, none⟩) hB _
end Go.Proofs.YtccehdlgpbeijaaGreatDoor
namespace Go.Proofs.YtccehdlgpbeijaaGreatDoor
open Go.RowKit M
set_option linter.unusedVariables false

/-- What a byte is told as, where it does not stand as it is. -/
def escW (c : UInt8) : ByteArray :=
  if c = 38 then ⟨#[38, 97, 109, 112, 59]⟩ else if c = 60 then ⟨#[38, 108, 116, 59]⟩ else if c = 62 then ⟨#[38, 103, 116, 59]⟩ else if c = 34 then ⟨#[38, 113, 117, 111, 116, 59]⟩ else ⟨#[]⟩

theorem escW_ways (c : UInt8) : (escW c = ⟨#[]⟩ ∧ escB c = [c]) ∨ (escW c = ⟨#[38, 97, 109, 112, 59]⟩ ∧ escB c = [38, 97, 109, 112, 59]) ∨ (escW c = ⟨#[38, 108, 116, 59]⟩ ∧ escB c = [38, 108, 116, 59]) ∨ (escW c = ⟨#[38, 103, 116, 59]⟩ ∧ escB c = [38, 103, 116, 59]) ∨ (escW c = ⟨#[38, 113, 117, 111, 116, 59]⟩ ∧ escB c = [38, 113, 117, 111, 116, 59]) := by
  unfold escW escB
  by_cases h1 : c = 38
  · simp [h1]
  by_cases h2 : c = 60
  · simp [h2]
  by_cases h3 : c = 62
  · simp [h3]
  by_cases h4 : c = 34
  · simp [h4]
  · simp [h1, h2, h3, h4]

theorem ret_strB {a b : ByteArray} (h : a = b) : Ending.returned (.string a) = .returned (.string b) := by rw [h]

set_option maxHeartbeats 1000000 in
theorem escaped_any (c : UInt8) (w : World) :
    Calls Tryz.prog 66 #[.int .u8 c.toNat] w fun e w' => e = .returned (.string (escW c)) ∧ w' = w := by
  have e1 := is_u8 c 38 38 rfl
  have e2 := is_u8 c 60 60 rfl
  have e3 := is_u8 c 62 62 rfl
  have e4 := is_u8 c 34 34 rfl
  by_cases h1 : c = 38
  · have HE : Hid (escW c = ⟨#[38, 97, 109, 112, 59]⟩) := by show escW c = _; simp [escW, h1]
    rw [decide_eq_true h1] at e1
    clear h1 e2 e3 e4
    go_enter Tryz.func66, Tryz.ntmps66
    go_wp2
    go_ret
    exact ⟨ret_strB HE.out.symm, rfl⟩
  rw [decide_eq_false h1] at e1
  by_cases h2 : c = 60
  · have HE : Hid (escW c = ⟨#[38, 108, 116, 59]⟩) := by show escW c = _; simp [escW, h2]
    rw [decide_eq_true h2] at e2
    clear h1 h2 e3 e4
    go_enter Tryz.func66, Tryz.ntmps66
    go_wp2
    go_ret
    exact ⟨ret_strB HE.out.symm, rfl⟩
  rw [decide_eq_false h2] at e2
  by_cases h3 : c = 62
  · have HE : Hid (escW c = ⟨#[38, 103, 116, 59]⟩) := by show escW c = _; simp [escW, h3]
    rw [decide_eq_true h3] at e3
    clear h1 h2 h3 e4
    go_enter Tryz.func66, Tryz.ntmps66
    go_wp2
    go_ret
    exact ⟨ret_strB HE.out.symm, rfl⟩
  rw [decide_eq_false h3] at e3
  by_cases h4 : c = 34
  · have HE : Hid (escW c = ⟨#[38, 113, 117, 111, 116, 59]⟩) := by show escW c = _; simp [escW, h4]
    rw [decide_eq_true h4] at e4
    clear h1 h2 h3 h4
    go_enter Tryz.func66, Tryz.ntmps66
    go_wp2
    go_ret
    exact ⟨ret_strB HE.out.symm, rfl⟩
  rw [decide_eq_false h4] at e4
  have HE : Hid (escW c = ⟨#[]⟩) := by show escW c = _; simp [escW, h1, h2, h3, h4]
  clear h1 h2 h3 h4
  go_enter Tryz.func66, Tryz.ntmps66
  go_wp2
  go_ret
  exact ⟨ret_strB HE.out.symm, rfl⟩

set_option maxHeartbeats 2000000 in
theorem escape_any (s : ByteArray) (w : World) (hs : s.size ≤ 1099511627776) :
    Calls Tryz.prog 46 #[.string s] w fun e w' => e = .returned (.string (bytesOf (escL s.data.toList))) ∧ Below w.heap.size w w' := by
  go_enter Tryz.func46, Tryz.ntmps46
  go_wp2
  go_loopw [4] (fun i wr => ∃ k : Nat, k ≤ s.size ∧ i = .int .i64 k ∧ (escL (s.data.toList.take k)).length ≤ 6 * k ∧ Lib.IsBuilder 75 5 w.heap.size w.heap.size (Lib.byteCells (escL (s.data.toList.take k))) wr ∧ Below w.heap.size w wr) (fun i _ => s.size - (intOf i).toNat)
  case atStart => exact ⟨0, Nat.zero_le _, rfl, Nat.zero_le _, Lib.fresh_isBuilder _ _ w, (Below.refl _ _).alloc (Nat.le_refl _) _⟩
  case round =>
    obtain ⟨k, hk, rfl, hn6, hI, hbe⟩ := hrel
    by_cases hlt : k < s.size
    · have HL : Hid (escL (s.data.toList.take (k + 1)) = escL (s.data.toList.take k) ++ escB s[k]) := escL_snoc s k hlt
      have HK : Hid ((escL (s.data.toList.take (k + 1))).length ≤ 6 * (k + 1)) := by
        have h3 := escB_length s[k]
        show (escL (s.data.toList.take (k + 1))).length ≤ 6 * (k + 1)
        rw [HL.out, List.length_append]; omega
      have hw5 := escW_ways s[k]
      have HEs : Hid (∀ W : World, Calls Tryz.prog 66 #[.int .u8 (s[k]).toNat] W fun e w' => e = .returned (.string (escW s[k])) ∧ w' = W) := fun W => escaped_any s[k] W
      rcases hw5 with ⟨hw, hb⟩ | ⟨hw, hb⟩ | ⟨hw, hb⟩ | ⟨hw, hb⟩ | ⟨hw, hb⟩
      · rw [hw] at HEs
        have HB := hb
        rw [HB] at HL
        clear hw hb HB
        go_wp2_with fail
        refine (HEs.out wr).mono ?_
        rintro e w1 ⟨rfl, hw1⟩
        obtain rfl := hw1.symm
        go_wp2_with fail
        refine (writeByte_any w.heap.size w.heap.size _ s[k] wr hI (by omega) hbe.size).mono ?_
        rintro e w2 ⟨rfl, I2, b2⟩
        rw [← HL.out] at I2
        go_wp2
        go_roundw
        case rel => exact ⟨k + 1, by omega, by go_num, HK.out, I2, hbe.trans b2⟩
        case measure => simp [intOf]; omega
      all_goals
        rw [hw] at HEs
        rw [hb] at HL
        clear hw hb
        go_wp2_with fail
        refine (HEs.out wr).mono ?_
        rintro e w1 ⟨rfl, hw1⟩
        obtain rfl := hw1.symm
        go_wp2_with fail
        refine (writeString_any w.heap.size w.heap.size _ _ wr hI (by have : ∀ n, n ≤ 6 → (escL (s.data.toList.take k)).length + n ≤ 140737488355328 := fun n hn => by omega
                                                                      exact this _ (by decide)) hbe.size).mono ?_
        rintro e w2 ⟨rfl, I2, b2⟩
        have I3 : Lib.IsBuilder 75 5 w.heap.size w.heap.size (Lib.byteCells (escL (s.data.toList.take (k + 1)))) w2 := by rw [HL.out]; exact I2
        clear I2
        go_wp2
        go_roundw
        case rel => exact ⟨k + 1, by omega, by go_num, HK.out, I3, hbe.trans b2⟩
        case measure => simp [intOf]; omega
    · go_wp2_with fail
      refine (Tryz.Builder_String_any w.heap.size w.heap.size _ wr hI hbe.size).mono ?_
      rintro e w1 ⟨rfl, b1⟩
      go_wp2
      go_ret
      exact ⟨ret_strB (by rw [take_all s k hlt]; rfl), hbe.trans b1⟩
end Go.Proofs.YtccehdlgpbeijaaGreatDoor
namespace Go.Proofs.YtccehdlgpbeijaaGreatDoor
open Go.RowKit

theorem assert_same {w : World} {t xt : TypeId} {fs : Array Field} {v : Value} (hu : Tryz.prog.underlying t = some (.struct fs)) :
    (Instr.typeAssert (.iface t v) xt t true).run Tryz.prog w = .ok (.tuple #[v, .bool true]) w := by
  simp [Instr.typeAssert, run_underlying hu]
theorem assert_other {w : World} {t u xt : TypeId} {fs : Array Field} {v z : Value} (hu : Tryz.prog.underlying u = some (.struct fs)) (hne : t ≠ u) (hz : (Tryz.prog.info? u).map (·.zero) = some (some z)) :
    (Instr.typeAssert (.iface t v) xt u true).run Tryz.prog w = .ok (.tuple #[z, .bool false]) w := by
  obtain ⟨j, hj, hz'⟩ := Option.map_eq_some_iff.1 hz
  simp [Instr.typeAssert, run_underlying hu, hne, typeInfo, zeroValue, hj, hz']

def zOpen : Value := .agg #[.string ⟨#[]⟩, .bool false, .string ⟨#[]⟩]
def zOne : Value := .agg #[.string ⟨#[]⟩]
theorem is_open (v : Value) (xt : TypeId) (w : World) : (Instr.typeAssert (.iface 80 v) xt 80 true).run Tryz.prog w = .ok (.tuple #[v, .bool true]) w := assert_same Tryz.underlying80
theorem is_close (v : Value) (xt : TypeId) (w : World) : (Instr.typeAssert (.iface 83 v) xt 83 true).run Tryz.prog w = .ok (.tuple #[v, .bool true]) w := assert_same Tryz.underlying83
theorem is_empty (v : Value) (xt : TypeId) (w : World) : (Instr.typeAssert (.iface 72 v) xt 72 true).run Tryz.prog w = .ok (.tuple #[v, .bool true]) w := assert_same Tryz.underlying72
theorem is_text (v : Value) (xt : TypeId) (w : World) : (Instr.typeAssert (.iface 102 v) xt 102 true).run Tryz.prog w = .ok (.tuple #[v, .bool true]) w := assert_same Tryz.underlying102
theorem not_open {t : TypeId} (h : t ≠ 80) (v : Value) (xt : TypeId) (w : World) : (Instr.typeAssert (.iface t v) xt 80 true).run Tryz.prog w = .ok (.tuple #[zOpen, .bool false]) w := assert_other Tryz.underlying80 h (by kernel_rfl)
theorem not_close {t : TypeId} (h : t ≠ 83) (v : Value) (xt : TypeId) (w : World) : (Instr.typeAssert (.iface t v) xt 83 true).run Tryz.prog w = .ok (.tuple #[zOne, .bool false]) w := assert_other Tryz.underlying83 h (by kernel_rfl)
theorem not_empty {t : TypeId} (h : t ≠ 72) (v : Value) (xt : TypeId) (w : World) : (Instr.typeAssert (.iface t v) xt 72 true).run Tryz.prog w = .ok (.tuple #[zOpen, .bool false]) w := assert_other Tryz.underlying72 h (by kernel_rfl)
end Go.Proofs.YtccehdlgpbeijaaGreatDoor
namespace Go.Proofs.YtccehdlgpbeijaaGreatDoor
open Go.RowKit M
set_option linter.unusedVariables false

/-- A piece's text, of its parts. -/
def spT (has : Bool) (ns : List UInt8) : List UInt8 := if has then spcS ++ escL ns ++ [34] else []
theorem ret_val {a b : Value} (h : a = b) : Ending.returned a = .returned b := by rw [h]
theorem isI (k z : Int) : (k == z) = decide (k = z) := by rw [Bool.eq_iff_iff]; simp

theorem spc_join (l : List UInt8) : (⟨#[32, 120, 109, 108, 110, 115, 61, 34]⟩ : ByteArray) ++ bytesOf l ++ ⟨#[34]⟩ = bytesOf (spcS ++ l ++ [34]) := by
  apply ByteArray.ext
  simp [bytesOf, spcS]
theorem spT_len (has : Bool) (ns : List UInt8) : (spT has ns).length ≤ 9 + 6 * ns.length := by
  have := escL_le ns
  unfold spT
  split
  · simp [spcS]; omega
  · simp

set_option maxHeartbeats 2000000 in
theorem spaceText_any (has : Bool) (ns : ByteArray) (w : World) (hs : ns.size ≤ 1099511627776) :
    Calls Tryz.prog 64 #[.agg #[.bool has, .string ns]] w fun e w' => e = .returned (.string (bytesOf (spT has ns.data.toList))) ∧ Below w.heap.size w w' := by
  cases has
  · have HR := hide (show (⟨#[]⟩ : ByteArray) = bytesOf (spT false ns.data.toList) from rfl)
    go_enter Tryz.func64, Tryz.ntmps64
    go_wp2
    go_ret
    exact ⟨ret_strB HR.out, (Below.refl _ _).alloc (Nat.le_refl _) _⟩
  · have HR := hide (spc_join (escL ns.data.toList))
    have hz : (bytesOf (escL ns.data.toList)).size ≤ 6 * ns.size := by
      rw [bytesOf_size]
      have h1 := escL_le ns.data.toList
      have h2 : ns.data.toList.length = ns.size := Array.length_toList
      omega
    have HE := hide (fun W : World => escape_any ns W hs)
    obtain ⟨x, hx⟩ : ∃ x, bytesOf (escL ns.data.toList) = x := ⟨_, rfl⟩
    rw [hx] at HR hz HE
    have q1 : ¬ (9223372036854775807 < 8 + x.size) := by omega
    have q2 : ¬ (9223372036854775807 < 8 + x.size + 1) := by omega
    clear hx
    go_enter Tryz.func64, Tryz.ntmps64
    go_wp2_with fail
    refine (HE.out _).mono ?_
    rintro e w1 ⟨rfl, b1⟩
    go_wp2
    go_ret
    exact ⟨ret_strB (by rw [HR.out]; rfl), ((Below.refl _ _).alloc (Nat.le_refl _) _).trans (b1.mono (by simp))⟩

theorem open_join (n : ByteArray) (x : List UInt8) : (⟨#[60]⟩ : ByteArray) ++ n ++ bytesOf x ++ ⟨#[62]⟩ = bytesOf ([60] ++ n.data.toList ++ x ++ [62]) := by
  apply ByteArray.ext
  simp [bytesOf]
theorem empty_join (n : ByteArray) (x : List UInt8) : (⟨#[60]⟩ : ByteArray) ++ n ++ bytesOf x ++ ⟨#[47, 62]⟩ = bytesOf ([60] ++ n.data.toList ++ x ++ [47, 62]) := by
  apply ByteArray.ext
  simp [bytesOf]
theorem close_join (n : ByteArray) : (⟨#[60, 47]⟩ : ByteArray) ++ n ++ ⟨#[62]⟩ = bytesOf ([60, 47] ++ n.data.toList ++ [62]) := by
  apply ByteArray.ext
  simp [bytesOf]

set_option maxRecDepth 100000 in
set_option maxHeartbeats 2000000 in
theorem markText_open (name ns : ByteArray) (has : Bool) (w : World) (hn : name.size ≤ 1099511627776) (hs : ns.size ≤ 1099511627776) :
    Calls Tryz.prog 44 #[.iface 80 (.agg #[.string name, .bool has, .string ns])] w fun e w' => e = .returned (.string (bytesOf ([60] ++ name.data.toList ++ spT has ns.data.toList ++ [62]))) ∧ Below w.heap.size w w' := by
  have HR := hide (open_join name (spT has ns.data.toList))
  have hz : (bytesOf (spT has ns.data.toList)).size ≤ 9 + 6 * ns.size := by
    rw [bytesOf_size]
    have h1 := spT_len has ns.data.toList
    have h2 : ns.data.toList.length = ns.size := Array.length_toList
    omega
  have HE := hide (fun W : World => spaceText_any has ns W hs)
  obtain ⟨x, hx⟩ : ∃ x, bytesOf (spT has ns.data.toList) = x := ⟨_, rfl⟩
  rw [hx] at HR hz HE
  have q1 : ¬ (9223372036854775807 < 1 + name.size) := by omega
  have q2 : ¬ (9223372036854775807 < 1 + name.size + x.size) := by omega
  have q3 : ¬ (9223372036854775807 < 1 + name.size + x.size + 1) := by omega
  clear hx
  have t1 := is_open (.agg #[.string name, .bool has, .string ns]) 99 w
  go_enter Tryz.func44, Tryz.ntmps44
  go_wp2
  go_region_held3 (fun W => W.cell? ⟨w.heap.size, 0, none⟩ = some (.string name) ∧ W.cell? ⟨w.heap.size, 1, none⟩ = some (.bool has) ∧ W.cell? ⟨w.heap.size, 2, none⟩ = some (.string ns)) (first | go_keep | exact ⟨(b1.cell (p := ⟨w.heap.size, 0, none⟩) (by simp)).trans (by simp), (b1.cell (p := ⟨w.heap.size, 1, none⟩) (by simp)).trans (by simp), (b1.cell (p := ⟨w.heap.size, 2, none⟩) (by simp)).trans (by simp)⟩) ((go_at_call 64; refine (HE.out _).mono ?_; rintro e w1 ⟨rfl, b1⟩))
  go_wp2
  go_ret
  exact ⟨ret_strB HR.out, ((Below.refl _ _).alloc (Nat.le_refl _) _).drew.trans (b1.mono (by simp))⟩

set_option maxRecDepth 100000 in
set_option maxHeartbeats 2000000 in
theorem markText_empty (name ns : ByteArray) (has : Bool) (w : World) (hn : name.size ≤ 1099511627776) (hs : ns.size ≤ 1099511627776) :
    Calls Tryz.prog 44 #[.iface 72 (.agg #[.string name, .bool has, .string ns])] w fun e w' => e = .returned (.string (bytesOf ([60] ++ name.data.toList ++ spT has ns.data.toList ++ [47, 62]))) ∧ Below w.heap.size w w' := by
  have HR := hide (empty_join name (spT has ns.data.toList))
  have hz : (bytesOf (spT has ns.data.toList)).size ≤ 9 + 6 * ns.size := by
    rw [bytesOf_size]
    have h1 := spT_len has ns.data.toList
    have h2 : ns.data.toList.length = ns.size := Array.length_toList
    omega
  have HE := hide (fun W : World => spaceText_any has ns W hs)
  obtain ⟨x, hx⟩ : ∃ x, bytesOf (spT has ns.data.toList) = x := ⟨_, rfl⟩
  rw [hx] at HR hz HE
  have q1 : ¬ (9223372036854775807 < 1 + name.size) := by omega
  have q2 : ¬ (9223372036854775807 < 1 + name.size + x.size) := by omega
  have q3 : ¬ (9223372036854775807 < 1 + name.size + x.size + 2) := by omega
  clear hx
  have t1 := not_open (t := 72) (by decide) (.agg #[.string name, .bool has, .string ns]) 99 w
  have t2 := not_close (t := 72) (by decide) (.agg #[.string name, .bool has, .string ns]) 99 w
  have t3 := is_empty (.agg #[.string name, .bool has, .string ns]) 99 w
  go_enter Tryz.func44, Tryz.ntmps44
  go_wp2
  go_region_held3 (fun W => W.cell? ⟨w.heap.size, 0, none⟩ = some (.string name) ∧ W.cell? ⟨w.heap.size, 1, none⟩ = some (.bool has) ∧ W.cell? ⟨w.heap.size, 2, none⟩ = some (.string ns)) (first | go_keep | exact ⟨(b1.cell (p := ⟨w.heap.size, 0, none⟩) (by simp)).trans (by simp), (b1.cell (p := ⟨w.heap.size, 1, none⟩) (by simp)).trans (by simp), (b1.cell (p := ⟨w.heap.size, 2, none⟩) (by simp)).trans (by simp)⟩) ((go_at_call 64; refine (HE.out _).mono ?_; rintro e w1 ⟨rfl, b1⟩))
  go_wp2
  go_ret
  exact ⟨ret_strB HR.out, ((Below.refl _ _).alloc (Nat.le_refl _) _).drew.trans (b1.mono (by simp))⟩

set_option maxRecDepth 100000 in
set_option maxHeartbeats 2000000 in
theorem markText_close (name : ByteArray) (w : World) (hn : name.size ≤ 1099511627776) :
    Calls Tryz.prog 44 #[.iface 83 (.agg #[.string name])] w fun e w' => e = .returned (.string (bytesOf ([60, 47] ++ name.data.toList ++ [62]))) ∧ Below w.heap.size w w' := by
  have HR := hide (close_join name)
  have q1 : ¬ (9223372036854775807 < 2 + name.size) := by omega
  have q2 : ¬ (9223372036854775807 < 2 + name.size + 1) := by omega
  have t1 := not_open (t := 83) (by decide) (.agg #[.string name]) 99 w
  have t2 := is_close (.agg #[.string name]) 99 w
  go_enter Tryz.func44, Tryz.ntmps44
  go_wp2
  go_ret
  exact ⟨ret_strB HR.out, (Below.refl _ _).alloc (Nat.le_refl _) _⟩

set_option maxRecDepth 100000 in
set_option maxHeartbeats 2000000 in
theorem markText_text (s : ByteArray) (w : World) (hs : s.size ≤ 1099511627776) :
    Calls Tryz.prog 44 #[.iface 102 (.agg #[.string s])] w fun e w' => e = .returned (.string (bytesOf (escL s.data.toList))) ∧ Below w.heap.size w w' := by
  have HE := hide (fun W : World => escape_any s W hs)
  have t1 := not_open (t := 102) (by decide) (.agg #[.string s]) 99 w
  have t2 := not_close (t := 102) (by decide) (.agg #[.string s]) 99 w
  have t3 := not_empty (t := 102) (by decide) (.agg #[.string s]) 99 w
  have t4 := is_text (.agg #[.string s]) 99 w
  go_enter Tryz.func44, Tryz.ntmps44
  go_wp2_with fail
  refine (HE.out _).mono ?_
  rintro e w1 ⟨rfl, b1⟩
  go_wp2
  go_ret
  exact ⟨rfl, ((Below.refl _ _).alloc (Nat.le_refl _) _).trans (b1.mono (by simp))⟩
end Go.Proofs.YtccehdlgpbeijaaGreatDoor
namespace Go.Proofs.YtccehdlgpbeijaaGreatDoor
open Go.RowKit M
set_option linter.unusedVariables false

theorem spT_spN (ns o : ByteArray) : spT (decide (¬ ns = o)) ns.data.toList = spN ns o := by
  unfold spT spN
  by_cases h : ns = o <;> simp [h]

def TwS (K : Nat) : Prop := ∀ (n : Nd) (o : ByteArray) (a : Option Addr) (cap B : Nat) (w : World), cntL n.ks < K → Nds w B a n.ks → B ≤ w.heap.size → n.szN ≤ 1048576 → o.size ≤ 1048576 →
    Calls Tryz.prog 25 #[.string o, .agg #[.string n.ns, .string n.nm, .string n.tx, .slice a n.ks.length cap]] w fun e w' => e = .returned (.string (bytesOf (n.txt o))) ∧ Below w.heap.size w w'

set_option maxRecDepth 100000 in
set_option maxHeartbeats 4000000 in
theorem textWithin_step (K : Nat) (ih : TwS K) : TwS (K + 1) := by
  intro n o a cap B w hn h hB hs ho
  have HI : Hid (TwS K) := ih
  clear ih
  have HX := hide (BoxN.made w a cap n 26)
  rw [szN_ks] at hs
  have HT := hide (txt_ks n o)
  have HL := hide (txt_len n o)
  rw [szN_ks] at HL
  generalize n.txt o = R at *
  obtain ⟨ra, rb, rc, ks⟩ := n
  simp only [Nd.ns, Nd.nm, Nd.tx, Nd.ks] at *
  have HB0 : Hid (Below w.heap.size w (w.alloc (Obj.cells #[Value.string ra, Value.string rb, Value.string rc, Value.slice a ks.length cap] 26))) := (Below.refl _ _).alloc (Nat.le_refl _) _
  have HH := hide h
  clear h
  have hne : ∃ q : Bool, (ra.toList == o.toList) = q ∧ decide (¬ ra = o) = !q := by
    by_cases e : ra = o
    · exact ⟨true, eqStrN e, by simp [e]⟩
    · exact ⟨false, neStrN e, by simp [e]⟩
  obtain ⟨q, hq1, hq2⟩ := hne
  have HSP : Hid (spT (!q) ra.data.toList = spN ra o) := by rw [← hq2]; exact spT_spN ra o
  clear hq2
  by_cases he : rc.size = 0 ∧ ks.length = 0
  · have h8 := emptyT he.1
    have hks : ks = [] := List.eq_nil_of_length_eq_zero he.2
    have HR := hide (HT.out.trans (if_pos he))
    subst hks
    simp only [List.length_nil] at *
    clear HT
    go_enter Tryz.func25, Tryz.ntmps25
    go_wp2_with fail
    refine (markText_empty rb ra (!q) _ (by omega) (by omega)).mono ?_
    rintro e w1 ⟨rfl, b1⟩
    go_wp2
    go_ret
    have hf : bytesOf ([60] ++ rb.data.toList ++ spT (!q) ra.data.toList ++ [47, 62]) = bytesOf R := by rw [HSP.out, HR.out]
    exact ⟨ret_strB (by rw [← hf]; simp), (HB0.out.alloc HB0.out.size _).trans (b1.mono (by simp; omega))⟩
  · have HR := hide (HT.out.trans (if_neg he))
    clear HT
    have HL2 := hide (txtL_len ks ra)
    have hway : rc.toList.isEmpty = false ∨ (rc.toList.isEmpty = true ∧ ((ks.length : Int) == 0) = false) := by
      by_cases e : rc.size = 0
      · exact .inr ⟨emptyT e, by rw [beq_eq_false_iff_ne]; omega⟩
      · exact .inl (emptyF e)
    have HE2 := hide he
    clear he
    have htop : ∃ top, top = [60] ++ rb.data.toList ++ spT (!q) ra.data.toList ++ [62] := ⟨_, rfl⟩
    obtain ⟨top, htop⟩ := htop
    have hR2 : R = top ++ escL rc.data.toList ++ txtL ks ra ++ ([60, 47] ++ rb.data.toList ++ [62]) := by rw [HR.out, htop, HSP.out]
    have HR2 := hide hR2
    have hRl : top.length + (escL rc.data.toList).length + (txtL ks ra).length ≤ 1000000000 := by
      have := HL.out
      rw [hR2] at this
      simp only [List.length_append] at this
      omega
    have HTOP := hide htop
    clear htop hR2 HR
    have hmo := fun W : World => markText_open rb ra (!q) W (by omega) (by omega)
    rw [← HTOP.out] at hmo
    have HMO := hide hmo
    clear hmo
    have I0 : Lib.IsBuilder 75 5 (w.heap.size + 1 + 1) (w.heap.size + 1 + 1) (Lib.byteCells []) (((w.alloc (Obj.cells #[Value.string ra, Value.string rb, Value.string rc, Value.slice a ks.length cap] 26)).alloc (Obj.cells #[Value.bool (!q), Value.string ra] 69)).alloc (Obj.cells #[Value.pointer none, Value.slice none 0 0] 75)) := by
      have := Lib.fresh_isBuilder 75 5 ((w.alloc (Obj.cells #[Value.string ra, Value.string rb, Value.string rc, Value.slice a ks.length cap] 26)).alloc (Obj.cells #[Value.bool (!q), Value.string ra] 69))
      simp at this
      exact this
    have HI0 := hide I0
    clear I0
    have X2 := hide (HX.out.alloc (Obj.cells #[Value.bool (!q), Value.string ra] 69))
    have hs2 : ((w.alloc (Obj.cells #[Value.string ra, Value.string rb, Value.string rc, Value.slice a ks.length cap] 26)).alloc (Obj.cells #[Value.bool (!q), Value.string ra] 69)).heap.size = w.heap.size + 1 + 1 := by simp
    have hA : Hid (Below (w.heap.size + 1 + 1) ((w.alloc (Obj.cells #[Value.string ra, Value.string rb, Value.string rc, Value.slice a ks.length cap] 26)).alloc (Obj.cells #[Value.bool (!q), Value.string ra] 69)) (((w.alloc (Obj.cells #[Value.string ra, Value.string rb, Value.string rc, Value.slice a ks.length cap] 26)).alloc (Obj.cells #[Value.bool (!q), Value.string ra] 69)).alloc (Obj.cells #[Value.pointer none, Value.slice none 0 0] 75))) := by
      have := (Below.refl ((w.alloc (Obj.cells #[Value.string ra, Value.string rb, Value.string rc, Value.slice a ks.length cap] 26)).alloc (Obj.cells #[Value.bool (!q), Value.string ra] 69)).heap.size ((w.alloc (Obj.cells #[Value.string ra, Value.string rb, Value.string rc, Value.slice a ks.length cap] 26)).alloc (Obj.cells #[Value.bool (!q), Value.string ra] 69))).alloc (Nat.le_refl _) (Obj.cells #[Value.pointer none, Value.slice none 0 0] 75)
      rw [hs2] at this
      exact this
    clear hs2
    have hcells : ∀ W' : World, Below (w.heap.size + 1 + 1) ((w.alloc (Obj.cells #[Value.string ra, Value.string rb, Value.string rc, Value.slice a ks.length cap] 26)).alloc (Obj.cells #[Value.bool (!q), Value.string ra] 69)) W' → W'.cell? ⟨w.heap.size, 0, none⟩ = some (.string ra) ∧ W'.cell? ⟨w.heap.size, 1, none⟩ = some (.string rb) ∧ W'.cell? ⟨w.heap.size, 2, none⟩ = some (.string rc) ∧ W'.cell? ⟨w.heap.size, 3, none⟩ = some (.slice a ks.length cap) := fun W' hb => by
      have := X2.out.keep hb (by omega)
      exact ⟨this.c0, this.c1, this.c2, this.c3⟩
    have HCE := hide hcells
    clear hcells
    have HSZ : Hid (∀ W' : World, Below (w.heap.size + 1 + 1) ((w.alloc (Obj.cells #[Value.string ra, Value.string rb, Value.string rc, Value.slice a ks.length cap] 26)).alloc (Obj.cells #[Value.bool (!q), Value.string ra] 69)) W' → w.heap.size + 1 + 1 ≤ W'.heap.size) := fun W' hb => by have := hb.size; simpa using this
    have HBW : Hid (∀ W' : World, Below (w.heap.size + 1 + 1) ((w.alloc (Obj.cells #[Value.string ra, Value.string rb, Value.string rc, Value.slice a ks.length cap] 26)).alloc (Obj.cells #[Value.bool (!q), Value.string ra] 69)) W' → Below w.heap.size w W') := fun W' hb => (HB0.out.alloc HB0.out.size _).trans (hb.mono (by omega))
    rcases hway with h8 | ⟨h8, h9⟩
    all_goals
      go_enter Tryz.func25, Tryz.ntmps25
      go_wp2_with fail
      refine (HMO.out _).mono ?_
      rintro e w1 ⟨rfl, b1⟩
      have I1 := bld_below HI0.out b1
      have c1 := hA.out.trans (b1.mono (by simp))
      go_wp2_with fail
      refine (writeString_any (w.heap.size + 1 + 1) (w.heap.size + 1 + 1) [] (bytesOf top) w1 I1 (by rw [bytesOf_size, List.length_nil]; omega) (HSZ.out _ c1)).mono ?_
      rintro e w2 ⟨rfl, I2', b2⟩
      have I2 : Lib.IsBuilder 75 5 (w.heap.size + 1 + 1) (w.heap.size + 1 + 1) (Lib.byteCells top) w2 := by simpa [bytesOf] using I2'
      have c2 := c1.trans b2
      obtain ⟨y0, y1, y2, y3⟩ := HCE.out _ c2
      clear b1 I1 b2 I2'
      go_wp2_with fail
      refine (escape_any rc w2 (by omega)).mono ?_
      rintro e w3 ⟨rfl, b3⟩
      have I3 := bld_below I2 b3
      have c3 := c2.trans (b3.mono (HSZ.out _ c2))
      clear y0 y1 y2 y3 I2 b3
      go_wp2_with fail
      refine (writeString_any (w.heap.size + 1 + 1) (w.heap.size + 1 + 1) _ (bytesOf (escL rc.data.toList)) w3 I3 (by rw [bytesOf_size]; omega) (HSZ.out _ c3)).mono ?_
      rintro e w4 ⟨rfl, I4, b4⟩
      have c4 := c3.trans b4
      have I5 : Lib.IsBuilder 75 5 (w.heap.size + 1 + 1) (w.heap.size + 1 + 1) (Lib.byteCells (top ++ escL rc.data.toList)) w4 := by simpa [bytesOf] using I4
      clear I3 I4 b4
      obtain ⟨y0, y1, y2, y3⟩ := HCE.out _ c4
      go_wp2
      go_loopw [45] (fun i wr => ∃ k : Nat, k ≤ ks.length ∧ i = .int .i64 k ∧ Lib.IsBuilder 75 5 (w.heap.size + 1 + 1) (w.heap.size + 1 + 1) (Lib.byteCells (top ++ escL rc.data.toList ++ txtL (ks.take k) ra)) wr ∧ Below (w.heap.size + 1 + 1) ((w.alloc (Obj.cells #[Value.string ra, Value.string rb, Value.string rc, Value.slice a ks.length cap] 26)).alloc (Obj.cells #[Value.bool (!q), Value.string ra] 69)) wr) (fun i _ => ks.length - (intOf i).toNat)
      case atStart => exact ⟨0, Nat.zero_le _, rfl, by simpa [txtL] using I5, c4⟩
      case round =>
        obtain ⟨k, hk, rfl, hI, hbe⟩ := hrel
        obtain ⟨y0, y1, y2, y3⟩ := HCE.out _ hbe
        have hq1 : (txtL (ks.take k) ra).length ≤ 1000000000 := by
          have h1 := txtL_len (ks.take k) ra
          have h2 := szL_take ks k
          have h3 : (ks.take k).length ≤ ks.length := by rw [List.length_take]; omega
          omega
        have hwr := HSZ.out _ hbe
        by_cases hlt : k < ks.length
        · obtain ⟨b, o', rfl, hb, hc⟩ := (HH.out.stays (HBW.out _ hbe) hB).at (by omega)
          obtain ⟨ak, ck, hx0, hx1, hx2, hx3, hkx⟩ := hc k hlt
          clear hc
          have hcn : cntL (ks[k]).ks < K := by have := cntL_at ks k hlt; omega
          have hks : (ks[k]).szN ≤ 1048576 := by have := szL_mem ks _ (List.getElem_mem hlt); omega
          have hq2 : ((ks[k]).txt ra).length ≤ 1000000000 := by have := txt_len ks[k] ra; omega
          have HTL := hide (txtL_snoc ks k hlt ra)
          have HBA := hide ((Below.refl wr.heap.size wr).alloc (Nat.le_refl _) (Obj.cells #[.string (ks[k]).ns, .string (ks[k]).nm, .string (ks[k]).tx, .slice ak (ks[k]).ks.length ck] 26))
          have hBw : B ≤ wr.heap.size := by omega
          have HQ := hide (HI.out ks[k] ra ak ck B _ hcn (hkx.stays HBA.out hBw) (Nat.le_trans hBw HBA.out.size) hks (by omega))
          have hIa := bld_below hI HBA.out
          have c5 := hbe.trans (HBA.out.mono hwr)
          have ya := (HCE.out _ c5).1
          have hlw : w.heap.size < wr.heap.size := by omega
          have hlw2 : ¬ w.heap.size = wr.heap.size := by omega
          generalize (ks[k]).txt ra = tk at *
          go_wp2_with fail
          refine HQ.out.mono ?_
          rintro e w5 ⟨rfl, b5⟩
          have I6 := bld_below hIa b5
          have c6 := c5.trans (b5.mono (HSZ.out _ c5))
          clear hIa b5 y0 y1 y2 y3 ya
          go_wp2_with fail
          refine (writeString_any (w.heap.size + 1 + 1) (w.heap.size + 1 + 1) _ (bytesOf tk) w5 I6 (by rw [bytesOf_size]; simp only [List.length_append]; omega) (HSZ.out _ c6)).mono ?_
          rintro e w6 ⟨rfl, I7, b6⟩
          have I8 : Lib.IsBuilder 75 5 (w.heap.size + 1 + 1) (w.heap.size + 1 + 1) (Lib.byteCells (top ++ escL rc.data.toList ++ txtL (ks.take (k + 1)) ra)) w6 := by rw [HTL.out, ← List.append_assoc]; simpa [bytesOf] using I7
          clear I7 I6
          go_wp2
          go_roundw
          case rel => exact ⟨k + 1, by omega, by go_num, I8, c6.trans b6⟩
          case measure => simp [intOf]; omega
        · have htk : ks.take k = ks := List.take_of_length_le (by omega)
          rw [htk] at hI hq1
          clear htk
          go_wp2_with fail
          refine (markText_close rb wr (by omega)).mono ?_
          rintro e w5 ⟨rfl, b5⟩
          have I6 := bld_below hI b5
          have c6 := hbe.trans (b5.mono hwr)
          clear y0 y1 y2 y3 b5
          have hcl : (bytesOf ([60, 47] ++ rb.data.toList ++ [62])).size ≤ 1048580 := by
            have h4 : rb.data.toList.length = rb.size := Array.length_toList
            rw [bytesOf_size]
            simp only [List.length_append, List.length_cons, List.length_nil]
            omega
          have HTD : Hid ((bytesOf ([60, 47] ++ rb.data.toList ++ [62])).data.toList = [60, 47] ++ rb.data.toList ++ [62]) := rfl
          generalize bytesOf ([60, 47] ++ rb.data.toList ++ [62]) = cl at *
          go_wp2_with fail
          refine (writeString_any (w.heap.size + 1 + 1) (w.heap.size + 1 + 1) _ cl w5 I6 (by simp only [List.length_append]; omega) (HSZ.out _ c6)).mono ?_
          rintro e w6 ⟨rfl, I7, b6⟩
          have c7 := c6.trans b6
          rw [HTD.out, ← HR2.out] at I7
          clear I6 b6
          go_wp2_with fail
          refine (Tryz.Builder_String_any (w.heap.size + 1 + 1) (w.heap.size + 1 + 1) _ w6 I7 (HSZ.out _ c7)).mono ?_
          rintro e w7 ⟨rfl, b7⟩
          go_wp2
          go_ret
          exact ⟨ret_strB rfl, HBW.out _ (c7.trans b7)⟩

theorem textWithin_all : ∀ K, TwS K := by
  intro K
  induction K with
  | zero => intro n o a cap B w hn; exact absurd hn (Nat.not_lt_zero _)
  | succ K ih => exact textWithin_step K ih


set_option maxHeartbeats 1000000 in
theorem nodeText_any (n : Nd) (a : Option Addr) (cap B : Nat) (w : World) (h : Nds w B a n.ks) (hB : B ≤ w.heap.size) (hs : n.szN ≤ 1048576) :
    Calls Tryz.prog 7 #[.agg #[.string n.ns, .string n.nm, .string n.tx, .slice a n.ks.length cap]] w fun e w' => e = .returned (.string (nodeT n)) ∧ Below w.heap.size w w' := by
  have HB0 : Hid (Below w.heap.size w (w.alloc (Obj.cells #[Value.string n.ns, Value.string n.nm, Value.string n.tx, Value.slice a n.ks.length cap] 26))) := (Below.refl _ _).alloc (Nat.le_refl _) _
  have HX := hide (BoxN.made w a cap n 26)
  have HH := hide h
  have hq := nodeOk_any n a cap B _ (h.stays HB0.out hB) (Nat.le_trans hB HB0.out.size) (short_sz n hs)
  have hz : nodeT n = if nodeB n then bytesOf (n.txt ByteArray.empty) else ByteArray.empty := rfl
  clear h
  generalize nodeT n = R at *
  generalize nodeB n = ok at *
  cases ok
  · simp only [Bool.false_eq_true, if_false] at hz
    subst hz
    go_enter Tryz.func7, Tryz.ntmps7
    go_wp2_with fail
    refine hq.mono ?_
    rintro e w1 ⟨rfl, b1⟩
    have c1 := HB0.out.trans (b1.mono HB0.out.size)
    go_wp2
    go_ret
    exact ⟨rfl, c1⟩
  · simp only [if_true] at hz
    subst hz
    go_enter Tryz.func7, Tryz.ntmps7
    go_wp2_with fail
    refine hq.mono ?_
    rintro e w1 ⟨rfl, b1⟩
    have c1 := HB0.out.trans (b1.mono HB0.out.size)
    have x1 := HX.out.next b1
    obtain ⟨_, x10, x11, x12, x13⟩ := x1
    have HQ := hide (textWithin_all (cntL n.ks + 1) n ByteArray.empty a cap B w1 (Nat.lt_succ_self _) (HH.out.stays c1 hB) (Nat.le_trans hB c1.size) hs (by decide))
    clear hq b1
    go_wp2_with fail
    refine HQ.out.mono ?_
    rintro e w2 ⟨rfl, b2⟩
    have c2 := c1.trans (b2.mono c1.size)
    go_wp2
    go_ret
    exact ⟨rfl, c2⟩
end Go.Proofs.YtccehdlgpbeijaaGreatDoor
