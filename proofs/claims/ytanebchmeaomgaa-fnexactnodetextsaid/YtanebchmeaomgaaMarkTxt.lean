/-
  What the texts of the program's marks are.
-/
import Derived.Test.YtanebchmeaomgaaMathPieces
import Derived.Test.YtanebchmeaomgaaHide
import Derived.Test.YtanebchmeaomgaaEscape
import Derived.Test.YtanebchmeaomgaaAsserts7
import Derived.Deep.RegionHeld3
namespace Go.Proofs.Ytanebchmeaomgaa
open Go.RowKit M
set_option linter.unusedVariables false

/-- A piece's text, of its parts. -/
def spT (has : Bool) (ns : List UInt8) : List UInt8 := if has then spcS ++ escL ns ++ [34] else []
theorem ret_val {a b : Value} (h : a = b) : Ending.returned a = .returned b := by rw [h]
theorem isI (k z : Int) : (k == z) = decide (k = z) := by rw [Bool.eq_iff_iff]; simp

theorem spc_join (l : List UInt8) : (⟨#[32, 120, 109, 108, 110, 115, 61, 34]⟩ : ByteArray) ++ bytesOf l ++ ⟨#[34]⟩ = bytesOf (spcS ++ l ++ [34]) := by
  apply ByteArray.ext
  simp [bytesOf, spcS]
theorem spT_len (has : Bool) (ns : List UInt8) : (spT has ns).length ≤ 9 + 6 * ns.length := by
  have := escL_le ns
  unfold spT
  split
  · simp [spcS]; omega
  · simp

set_option maxHeartbeats 2000000 in
theorem spaceText_any (has : Bool) (ns : ByteArray) (w : World) (hs : ns.size ≤ 1099511627776) :
    Calls Try.prog 37 #[.agg #[.bool has, .string ns]] w fun e w' => e = .returned (.string (bytesOf (spT has ns.data.toList))) ∧ Below w.heap.size w w' := by
  cases has
  · have HR := hide (show (⟨#[]⟩ : ByteArray) = bytesOf (spT false ns.data.toList) from rfl)
    go_enter Try.func37, Try.ntmps37
    go_wp2
    go_ret
    exact ⟨ret_strB HR.out, (Below.refl _ _).alloc (Nat.le_refl _) _⟩
  · have HR := hide (spc_join (escL ns.data.toList))
    have hz : (bytesOf (escL ns.data.toList)).size ≤ 6 * ns.size := by
      rw [bytesOf_size]
      have h1 := escL_le ns.data.toList
      have h2 : ns.data.toList.length = ns.size := Array.length_toList
      omega
    have HE := hide (fun W : World => escape_any ns W hs)
    obtain ⟨x, hx⟩ : ∃ x, bytesOf (escL ns.data.toList) = x := ⟨_, rfl⟩
    rw [hx] at HR hz HE
    have q1 : ¬ (9223372036854775807 < 8 + x.size) := by omega
    have q2 : ¬ (9223372036854775807 < 8 + x.size + 1) := by omega
    clear hx
    go_enter Try.func37, Try.ntmps37
    go_wp2_with fail
    refine (HE.out _).mono ?_
    rintro e w1 ⟨rfl, b1⟩
    go_wp2
    go_ret
    exact ⟨ret_strB (by rw [HR.out]; rfl), ((Below.refl _ _).alloc (Nat.le_refl _) _).trans (b1.mono (by simp))⟩

theorem open_join (n : ByteArray) (x : List UInt8) : (⟨#[60]⟩ : ByteArray) ++ n ++ bytesOf x ++ ⟨#[62]⟩ = bytesOf ([60] ++ n.data.toList ++ x ++ [62]) := by
  apply ByteArray.ext
  simp [bytesOf]
theorem empty_join (n : ByteArray) (x : List UInt8) : (⟨#[60]⟩ : ByteArray) ++ n ++ bytesOf x ++ ⟨#[47, 62]⟩ = bytesOf ([60] ++ n.data.toList ++ x ++ [47, 62]) := by
  apply ByteArray.ext
  simp [bytesOf]
theorem close_join (n : ByteArray) : (⟨#[60, 47]⟩ : ByteArray) ++ n ++ ⟨#[62]⟩ = bytesOf ([60, 47] ++ n.data.toList ++ [62]) := by
  apply ByteArray.ext
  simp [bytesOf]

set_option maxRecDepth 100000 in
set_option maxHeartbeats 2000000 in
theorem markText_open (name ns : ByteArray) (has : Bool) (w : World) (hn : name.size ≤ 1099511627776) (hs : ns.size ≤ 1099511627776) :
    Calls Try.prog 28 #[.iface 62 (.agg #[.string name, .bool has, .string ns])] w fun e w' => e = .returned (.string (bytesOf ([60] ++ name.data.toList ++ spT has ns.data.toList ++ [62]))) ∧ Below w.heap.size w w' := by
  have HR := hide (open_join name (spT has ns.data.toList))
  have hz : (bytesOf (spT has ns.data.toList)).size ≤ 9 + 6 * ns.size := by
    rw [bytesOf_size]
    have h1 := spT_len has ns.data.toList
    have h2 : ns.data.toList.length = ns.size := Array.length_toList
    omega
  have HE := hide (fun W : World => spaceText_any has ns W hs)
  obtain ⟨x, hx⟩ : ∃ x, bytesOf (spT has ns.data.toList) = x := ⟨_, rfl⟩
  rw [hx] at HR hz HE
  have q1 : ¬ (9223372036854775807 < 1 + name.size) := by omega
  have q2 : ¬ (9223372036854775807 < 1 + name.size + x.size) := by omega
  have q3 : ¬ (9223372036854775807 < 1 + name.size + x.size + 1) := by omega
  clear hx
  have t1 := is_open (.agg #[.string name, .bool has, .string ns]) 69 w
  go_enter Try.func28, Try.ntmps28
  go_wp2
  go_region_held3 (fun W => W.cell? ⟨w.heap.size, 0, none⟩ = some (.string name) ∧ W.cell? ⟨w.heap.size, 1, none⟩ = some (.bool has) ∧ W.cell? ⟨w.heap.size, 2, none⟩ = some (.string ns)) (first | go_keep | exact ⟨(b1.cell (p := ⟨w.heap.size, 0, none⟩) (by simp)).trans (by simp), (b1.cell (p := ⟨w.heap.size, 1, none⟩) (by simp)).trans (by simp), (b1.cell (p := ⟨w.heap.size, 2, none⟩) (by simp)).trans (by simp)⟩) ((go_at_call 37; refine (HE.out _).mono ?_; rintro e w1 ⟨rfl, b1⟩))
  go_wp2
  go_ret
  exact ⟨ret_strB HR.out, ((Below.refl _ _).alloc (Nat.le_refl _) _).drew.trans (b1.mono (by simp))⟩

set_option maxRecDepth 100000 in
set_option maxHeartbeats 2000000 in
theorem markText_empty (name ns : ByteArray) (has : Bool) (w : World) (hn : name.size ≤ 1099511627776) (hs : ns.size ≤ 1099511627776) :
    Calls Try.prog 28 #[.iface 53 (.agg #[.string name, .bool has, .string ns])] w fun e w' => e = .returned (.string (bytesOf ([60] ++ name.data.toList ++ spT has ns.data.toList ++ [47, 62]))) ∧ Below w.heap.size w w' := by
  have HR := hide (empty_join name (spT has ns.data.toList))
  have hz : (bytesOf (spT has ns.data.toList)).size ≤ 9 + 6 * ns.size := by
    rw [bytesOf_size]
    have h1 := spT_len has ns.data.toList
    have h2 : ns.data.toList.length = ns.size := Array.length_toList
    omega
  have HE := hide (fun W : World => spaceText_any has ns W hs)
  obtain ⟨x, hx⟩ : ∃ x, bytesOf (spT has ns.data.toList) = x := ⟨_, rfl⟩
  rw [hx] at HR hz HE
  have q1 : ¬ (9223372036854775807 < 1 + name.size) := by omega
  have q2 : ¬ (9223372036854775807 < 1 + name.size + x.size) := by omega
  have q3 : ¬ (9223372036854775807 < 1 + name.size + x.size + 2) := by omega
  clear hx
  have t1 := not_open (t := 53) (by decide) (.agg #[.string name, .bool has, .string ns]) 69 w
  have t2 := not_close (t := 53) (by decide) (.agg #[.string name, .bool has, .string ns]) 69 w
  have t3 := is_empty (.agg #[.string name, .bool has, .string ns]) 69 w
  go_enter Try.func28, Try.ntmps28
  go_wp2
  go_region_held3 (fun W => W.cell? ⟨w.heap.size, 0, none⟩ = some (.string name) ∧ W.cell? ⟨w.heap.size, 1, none⟩ = some (.bool has) ∧ W.cell? ⟨w.heap.size, 2, none⟩ = some (.string ns)) (first | go_keep | exact ⟨(b1.cell (p := ⟨w.heap.size, 0, none⟩) (by simp)).trans (by simp), (b1.cell (p := ⟨w.heap.size, 1, none⟩) (by simp)).trans (by simp), (b1.cell (p := ⟨w.heap.size, 2, none⟩) (by simp)).trans (by simp)⟩) ((go_at_call 37; refine (HE.out _).mono ?_; rintro e w1 ⟨rfl, b1⟩))
  go_wp2
  go_ret
  exact ⟨ret_strB HR.out, ((Below.refl _ _).alloc (Nat.le_refl _) _).drew.trans (b1.mono (by simp))⟩

set_option maxRecDepth 100000 in
set_option maxHeartbeats 2000000 in
theorem markText_close (name : ByteArray) (w : World) (hn : name.size ≤ 1099511627776) :
    Calls Try.prog 28 #[.iface 64 (.agg #[.string name])] w fun e w' => e = .returned (.string (bytesOf ([60, 47] ++ name.data.toList ++ [62]))) ∧ Below w.heap.size w w' := by
  have HR := hide (close_join name)
  have q1 : ¬ (9223372036854775807 < 2 + name.size) := by omega
  have q2 : ¬ (9223372036854775807 < 2 + name.size + 1) := by omega
  have t1 := not_open (t := 64) (by decide) (.agg #[.string name]) 69 w
  have t2 := is_close (.agg #[.string name]) 69 w
  go_enter Try.func28, Try.ntmps28
  go_wp2
  go_ret
  exact ⟨ret_strB HR.out, (Below.refl _ _).alloc (Nat.le_refl _) _⟩

set_option maxRecDepth 100000 in
set_option maxHeartbeats 2000000 in
theorem markText_text (s : ByteArray) (w : World) (hs : s.size ≤ 1099511627776) :
    Calls Try.prog 28 #[.iface 72 (.agg #[.string s])] w fun e w' => e = .returned (.string (bytesOf (escL s.data.toList))) ∧ Below w.heap.size w w' := by
  have HE := hide (fun W : World => escape_any s W hs)
  have t1 := not_open (t := 72) (by decide) (.agg #[.string s]) 69 w
  have t2 := not_close (t := 72) (by decide) (.agg #[.string s]) 69 w
  have t3 := not_empty (t := 72) (by decide) (.agg #[.string s]) 69 w
  have t4 := is_text (.agg #[.string s]) 69 w
  go_enter Try.func28, Try.ntmps28
  go_wp2_with fail
  refine (HE.out _).mono ?_
  rintro e w1 ⟨rfl, b1⟩
  go_wp2
  go_ret
  exact ⟨rfl, ((Below.refl _ _).alloc (Nat.le_refl _) _).trans (b1.mono (by simp))⟩
end Go.Proofs.Ytanebchmeaomgaa
