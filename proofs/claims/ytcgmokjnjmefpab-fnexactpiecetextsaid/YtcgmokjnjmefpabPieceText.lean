/-
  What the program's PieceText does.
-/
import Derived.Test.YtcgmokjnjmefpabMathPieces
import Derived.Test.YtcgmokjnjmefpabHide
import Derived.Test.YtcgmokjnjmefpabEscape
import Derived.Test.YtcgmokjnjmefpabAsserts7
import Derived.Deep.RegionHeld3
namespace Go.Proofs.Ytcgmokjnjmefpab
open Go.RowKit M
set_option linter.unusedVariables false

/-- A piece's text, of its parts. -/
def spT (has : Bool) (ns : List UInt8) : List UInt8 := if has then spcS ++ escL ns ++ [34] else []
/-- A piece as a mark. -/
def markV (p : Pce) : Value :=
  if p.k = 1 then .iface 37 (.agg #[.string p.name, .bool p.has, .string p.ns]) else if p.k = 2 then .iface 40 (.agg #[.string p.name])
  else if p.k = 3 then .iface 41 (.agg #[.string p.name, .bool p.has, .string p.ns]) else .iface 43 (.agg #[.string p.s])
def PcV (p : Pce) : Value := .agg #[.int .i64 p.k, .string p.name, .string p.ns, .bool p.has, .string p.s]

theorem ret_val {a b : Value} (h : a = b) : Ending.returned a = .returned b := by rw [h]
theorem isI (k z : Int) : (k == z) = decide (k = z) := by rw [Bool.eq_iff_iff]; simp

set_option maxHeartbeats 2000000 in
theorem markOf_any (p : Pce) (w : World) :
    Calls Try.prog 10 #[.agg #[.int .i64 p.k, .string p.name, .string p.ns, .bool p.has, .string p.s]] w fun e w' => e = .returned (markV p) ∧ Below w.heap.size w w' := by
  obtain ⟨k, name, ns, has, s⟩ := p
  have e1 := isI k 1
  have e2 := isI k 2
  have e3 := isI k 3
  by_cases h1 : k = 1
  · have HV := hide (show Value.iface 37 (.agg #[.string name, .bool has, .string ns]) = markV ⟨k, name, ns, has, s⟩ by simp [markV, h1])
    rw [decide_eq_true h1] at e1
    clear h1 e2 e3
    go_enter Try.func10, Try.ntmps10
    go_wp2
    go_ret
    exact ⟨ret_val HV.out, (Below.refl _ _).alloc (Nat.le_refl _) _⟩
  rw [decide_eq_false h1] at e1
  by_cases h2 : k = 2
  · have HV := hide (show Value.iface 40 (.agg #[.string name]) = markV ⟨k, name, ns, has, s⟩ by simp [markV, h2])
    rw [decide_eq_true h2] at e2
    clear h1 h2 e3
    go_enter Try.func10, Try.ntmps10
    go_wp2
    go_ret
    exact ⟨ret_val HV.out, (Below.refl _ _).alloc (Nat.le_refl _) _⟩
  rw [decide_eq_false h2] at e2
  by_cases h3 : k = 3
  · have HV := hide (show Value.iface 41 (.agg #[.string name, .bool has, .string ns]) = markV ⟨k, name, ns, has, s⟩ by simp [markV, h3])
    rw [decide_eq_true h3] at e3
    clear h1 h2 h3
    go_enter Try.func10, Try.ntmps10
    go_wp2
    go_ret
    exact ⟨ret_val HV.out, (Below.refl _ _).alloc (Nat.le_refl _) _⟩
  rw [decide_eq_false h3] at e3
  have HV := hide (show Value.iface 43 (.agg #[.string s]) = markV ⟨k, name, ns, has, s⟩ by simp [markV, h1, h2, h3])
  clear h1 h2 h3
  go_enter Try.func10, Try.ntmps10
  go_wp2
  go_ret
  exact ⟨ret_val HV.out, (Below.refl _ _).alloc (Nat.le_refl _) _⟩

theorem spc_join (l : List UInt8) : (⟨#[32, 120, 109, 108, 110, 115, 61, 34]⟩ : ByteArray) ++ bytesOf l ++ ⟨#[34]⟩ = bytesOf (spcS ++ l ++ [34]) := by
  apply ByteArray.ext
  simp [bytesOf, spcS]
theorem spT_len (has : Bool) (ns : List UInt8) : (spT has ns).length ≤ 9 + 6 * ns.length := by
  have := escL_le ns
  unfold spT
  split
  · simp [spcS]; omega
  · simp

set_option maxHeartbeats 2000000 in
theorem spaceText_any (has : Bool) (ns : ByteArray) (w : World) (hs : ns.size ≤ 1099511627776) :
    Calls Try.prog 11 #[.agg #[.bool has, .string ns]] w fun e w' => e = .returned (.string (bytesOf (spT has ns.data.toList))) ∧ Below w.heap.size w w' := by
  cases has
  · have HR := hide (show (⟨#[]⟩ : ByteArray) = bytesOf (spT false ns.data.toList) from rfl)
    go_enter Try.func11, Try.ntmps11
    go_wp2
    go_ret
    exact ⟨ret_strB HR.out, (Below.refl _ _).alloc (Nat.le_refl _) _⟩
  · have HR := hide (spc_join (escL ns.data.toList))
    have hz : (bytesOf (escL ns.data.toList)).size ≤ 6 * ns.size := by
      rw [bytesOf_size]
      have h1 := escL_le ns.data.toList
      have h2 : ns.data.toList.length = ns.size := Array.length_toList
      omega
    have HE := hide (fun W : World => escape_any ns W hs)
    obtain ⟨x, hx⟩ : ∃ x, bytesOf (escL ns.data.toList) = x := ⟨_, rfl⟩
    rw [hx] at HR hz HE
    have q1 : ¬ (9223372036854775807 < 8 + x.size) := by omega
    have q2 : ¬ (9223372036854775807 < 8 + x.size + 1) := by omega
    clear hx
    go_enter Try.func11, Try.ntmps11
    go_wp2_with fail
    refine (HE.out _).mono ?_
    rintro e w1 ⟨rfl, b1⟩
    go_wp2
    go_ret
    exact ⟨ret_strB (by rw [HR.out]; rfl), ((Below.refl _ _).alloc (Nat.le_refl _) _).trans (b1.mono (by simp))⟩

theorem open_join (n : ByteArray) (x : List UInt8) : (⟨#[60]⟩ : ByteArray) ++ n ++ bytesOf x ++ ⟨#[62]⟩ = bytesOf ([60] ++ n.data.toList ++ x ++ [62]) := by
  apply ByteArray.ext
  simp [bytesOf]
theorem empty_join (n : ByteArray) (x : List UInt8) : (⟨#[60]⟩ : ByteArray) ++ n ++ bytesOf x ++ ⟨#[47, 62]⟩ = bytesOf ([60] ++ n.data.toList ++ x ++ [47, 62]) := by
  apply ByteArray.ext
  simp [bytesOf]
theorem close_join (n : ByteArray) : (⟨#[60, 47]⟩ : ByteArray) ++ n ++ ⟨#[62]⟩ = bytesOf ([60, 47] ++ n.data.toList ++ [62]) := by
  apply ByteArray.ext
  simp [bytesOf]

set_option maxRecDepth 100000 in
set_option maxHeartbeats 2000000 in
theorem markText_open (name ns : ByteArray) (has : Bool) (w : World) (hn : name.size ≤ 1099511627776) (hs : ns.size ≤ 1099511627776) :
    Calls Try.prog 9 #[.iface 37 (.agg #[.string name, .bool has, .string ns])] w fun e w' => e = .returned (.string (bytesOf ([60] ++ name.data.toList ++ spT has ns.data.toList ++ [62]))) ∧ Below w.heap.size w w' := by
  have HR := hide (open_join name (spT has ns.data.toList))
  have hz : (bytesOf (spT has ns.data.toList)).size ≤ 9 + 6 * ns.size := by
    rw [bytesOf_size]
    have h1 := spT_len has ns.data.toList
    have h2 : ns.data.toList.length = ns.size := Array.length_toList
    omega
  have HE := hide (fun W : World => spaceText_any has ns W hs)
  obtain ⟨x, hx⟩ : ∃ x, bytesOf (spT has ns.data.toList) = x := ⟨_, rfl⟩
  rw [hx] at HR hz HE
  have q1 : ¬ (9223372036854775807 < 1 + name.size) := by omega
  have q2 : ¬ (9223372036854775807 < 1 + name.size + x.size) := by omega
  have q3 : ¬ (9223372036854775807 < 1 + name.size + x.size + 1) := by omega
  clear hx
  have t1 := is_open (.agg #[.string name, .bool has, .string ns]) 32 w
  go_enter Try.func9, Try.ntmps9
  go_wp2
  go_region_held3 (fun W => W.cell? ⟨w.heap.size, 0, none⟩ = some (.string name) ∧ W.cell? ⟨w.heap.size, 1, none⟩ = some (.bool has) ∧ W.cell? ⟨w.heap.size, 2, none⟩ = some (.string ns)) (first | go_keep | exact ⟨(b1.cell (p := ⟨w.heap.size, 0, none⟩) (by simp)).trans (by simp), (b1.cell (p := ⟨w.heap.size, 1, none⟩) (by simp)).trans (by simp), (b1.cell (p := ⟨w.heap.size, 2, none⟩) (by simp)).trans (by simp)⟩) ((go_at_call 11; refine (HE.out _).mono ?_; rintro e w1 ⟨rfl, b1⟩))
  go_wp2
  go_ret
  exact ⟨ret_strB HR.out, ((Below.refl _ _).alloc (Nat.le_refl _) _).drew.trans (b1.mono (by simp))⟩

set_option maxRecDepth 100000 in
set_option maxHeartbeats 2000000 in
theorem markText_empty (name ns : ByteArray) (has : Bool) (w : World) (hn : name.size ≤ 1099511627776) (hs : ns.size ≤ 1099511627776) :
    Calls Try.prog 9 #[.iface 41 (.agg #[.string name, .bool has, .string ns])] w fun e w' => e = .returned (.string (bytesOf ([60] ++ name.data.toList ++ spT has ns.data.toList ++ [47, 62]))) ∧ Below w.heap.size w w' := by
  have HR := hide (empty_join name (spT has ns.data.toList))
  have hz : (bytesOf (spT has ns.data.toList)).size ≤ 9 + 6 * ns.size := by
    rw [bytesOf_size]
    have h1 := spT_len has ns.data.toList
    have h2 : ns.data.toList.length = ns.size := Array.length_toList
    omega
  have HE := hide (fun W : World => spaceText_any has ns W hs)
  obtain ⟨x, hx⟩ : ∃ x, bytesOf (spT has ns.data.toList) = x := ⟨_, rfl⟩
  rw [hx] at HR hz HE
  have q1 : ¬ (9223372036854775807 < 1 + name.size) := by omega
  have q2 : ¬ (9223372036854775807 < 1 + name.size + x.size) := by omega
  have q3 : ¬ (9223372036854775807 < 1 + name.size + x.size + 2) := by omega
  clear hx
  have t1 := not_open (t := 41) (by decide) (.agg #[.string name, .bool has, .string ns]) 32 w
  have t2 := not_close (t := 41) (by decide) (.agg #[.string name, .bool has, .string ns]) 32 w
  have t3 := is_empty (.agg #[.string name, .bool has, .string ns]) 32 w
  go_enter Try.func9, Try.ntmps9
  go_wp2
  go_region_held3 (fun W => W.cell? ⟨w.heap.size, 0, none⟩ = some (.string name) ∧ W.cell? ⟨w.heap.size, 1, none⟩ = some (.bool has) ∧ W.cell? ⟨w.heap.size, 2, none⟩ = some (.string ns)) (first | go_keep | exact ⟨(b1.cell (p := ⟨w.heap.size, 0, none⟩) (by simp)).trans (by simp), (b1.cell (p := ⟨w.heap.size, 1, none⟩) (by simp)).trans (by simp), (b1.cell (p := ⟨w.heap.size, 2, none⟩) (by simp)).trans (by simp)⟩) ((go_at_call 11; refine (HE.out _).mono ?_; rintro e w1 ⟨rfl, b1⟩))
  go_wp2
  go_ret
  exact ⟨ret_strB HR.out, ((Below.refl _ _).alloc (Nat.le_refl _) _).drew.trans (b1.mono (by simp))⟩

set_option maxRecDepth 100000 in
set_option maxHeartbeats 2000000 in
theorem markText_close (name : ByteArray) (w : World) (hn : name.size ≤ 1099511627776) :
    Calls Try.prog 9 #[.iface 40 (.agg #[.string name])] w fun e w' => e = .returned (.string (bytesOf ([60, 47] ++ name.data.toList ++ [62]))) ∧ Below w.heap.size w w' := by
  have HR := hide (close_join name)
  have q1 : ¬ (9223372036854775807 < 2 + name.size) := by omega
  have q2 : ¬ (9223372036854775807 < 2 + name.size + 1) := by omega
  have t1 := not_open (t := 40) (by decide) (.agg #[.string name]) 32 w
  have t2 := is_close (.agg #[.string name]) 32 w
  go_enter Try.func9, Try.ntmps9
  go_wp2
  go_ret
  exact ⟨ret_strB HR.out, (Below.refl _ _).alloc (Nat.le_refl _) _⟩

set_option maxRecDepth 100000 in
set_option maxHeartbeats 2000000 in
theorem markText_text (s : ByteArray) (w : World) (hs : s.size ≤ 1099511627776) :
    Calls Try.prog 9 #[.iface 43 (.agg #[.string s])] w fun e w' => e = .returned (.string (bytesOf (escL s.data.toList))) ∧ Below w.heap.size w w' := by
  have HE := hide (fun W : World => escape_any s W hs)
  have t1 := not_open (t := 43) (by decide) (.agg #[.string s]) 32 w
  have t2 := not_close (t := 43) (by decide) (.agg #[.string s]) 32 w
  have t3 := not_empty (t := 43) (by decide) (.agg #[.string s]) 32 w
  have t4 := is_text (.agg #[.string s]) 32 w
  go_enter Try.func9, Try.ntmps9
  go_wp2_with fail
  refine (HE.out _).mono ?_
  rintro e w1 ⟨rfl, b1⟩
  go_wp2
  go_ret
  exact ⟨rfl, ((Below.refl _ _).alloc (Nat.le_refl _) _).trans (b1.mono (by simp))⟩

/-- How great a piece may be. -/
def FitP (p : Pce) : Prop := p.name.size ≤ 1099511627776 ∧ p.ns.size ≤ 1099511627776 ∧ p.s.size ≤ 1099511627776

theorem markText_any (p : Pce) (w : World) (h : FitP p) :
    Calls Try.prog 9 #[markV p] w fun e w' => e = .returned (.string (bytesOf (markT p))) ∧ Below w.heap.size w w' := by
  obtain ⟨h1, h2, h3⟩ := h
  unfold markV markT
  by_cases k1 : p.k = 1
  · rw [if_pos k1, if_pos k1]; exact markText_open p.name p.ns p.has w h1 h2
  rw [if_neg k1, if_neg k1]
  by_cases k2 : p.k = 2
  · rw [if_pos k2, if_pos k2]; exact markText_close p.name w h1
  rw [if_neg k2, if_neg k2]
  by_cases k3 : p.k = 3
  · rw [if_pos k3, if_pos k3]; exact markText_empty p.name p.ns p.has w h1 h2
  rw [if_neg k3, if_neg k3]
  exact markText_text p.s w h3

set_option maxRecDepth 100000 in
set_option maxHeartbeats 2000000 in
theorem pieceText_any (p : Pce) (w : World) (h : FitP p) :
    Calls Try.prog 7 #[.agg #[.int .i64 p.k, .string p.name, .string p.ns, .bool p.has, .string p.s]] w fun e w' => e = .returned (.string (bytesOf (markT p))) ∧ Below w.heap.size w w' := by
  have HM := hide (fun W : World => markOf_any p W)
  have HT := hide (fun W : World => markText_any p W h)
  obtain ⟨v, hv⟩ : ∃ v, markV p = v := ⟨_, rfl⟩
  rw [hv] at HM HT
  clear hv
  go_enter Try.func7, Try.ntmps7
  go_wp2_with fail
  refine (HM.out _).mono ?_
  rintro e w1 ⟨rfl, b1⟩
  have c1 : Below w.heap.size w w1 := ((Below.refl _ _).alloc (Nat.le_refl _) _).trans (b1.mono (by simp))
  go_wp2_with fail
  refine (HT.out _).mono ?_
  rintro e w2 ⟨rfl, b2⟩
  go_wp2
  go_ret
  exact ⟨rfl, c1.trans (b2.mono c1.size)⟩
end Go.Proofs.Ytcgmokjnjmefpab
