/-
  What the specification's NumText does.
  Plain facts on a text without the blanks at its ends: no program in sight.
  Plain facts on quoted texts: no program in sight.
  Plain facts on numbers read of their digits: no program in sight.
  Plain facts on marked texts: escaped, and back: no program in sight.
  Plain facts on lists of marks: no program in sight.
  Plain facts on numbers read of their digits to the base 16: no program in sight.
  Numbers come back of their digits; what is trimmed, and made small, stays: no program in sight.
  What the specification's TagText does.
  The laws' marks, as texts.
  Data as memory holds them: leafs, and rows of rows of leafs; their sizes, and what they are when they are marked.
  What turns none but certain blocks.
-/
import Derived.Test.YtmgikfeknmbpbaaGreatDoorMathNum
import Derived.Lib.Atoi
import Derived.Lib.IndexMore
import Derived.WalkKit
import Derived.Below
namespace Go.Proofs.YtmgikfeknmbpbaaGreatDoor
open Go.RowKit M

/-- string([]byte of one byte). -/
theorem conv_one (W : World) (x : Int) : (convert 22 9 (.slice (some ⟨W.heap.size, 0, none⟩) 1 1)).run Tryz.prog (W.alloc (.cells #[.int .u8 x] 5)) = .ok (.string ⟨#[UInt8.ofNat x.toNat]⟩) (W.alloc (.cells #[.int .u8 x] 5)) := by
  have h := run_convert_bytes_arg (P := Tryz.prog) (W.alloc (.cells #[.int .u8 x] 5)) 22 5 Tryz.underlying22 Tryz.underlying5 W.heap.size 0 1 1 [x] rfl (by
    intro i hi
    obtain rfl : i = 0 := by omega
    simp) 9 Tryz.underlying9
  exact h

theorem cat_one (c : UInt8) (t : List UInt8) : (⟨#[c]⟩ : ByteArray) ++ ⟨t.toArray⟩ = ⟨(c :: t).toArray⟩ := by
  apply ByteArray.ext
  simp

theorem low_form (m : Nat) : UInt8.ofNat (48 + m % 10) = decLow m := rfl
theorem low_form' (m : Nat) : 48 + UInt8.ofNat (m % 10) = decLow m := by
  unfold decLow
  rw [UInt8.ofNat_add]; rfl

set_option maxHeartbeats 1000000 in
theorem specNumText_pos (N : Nat) (w : World) (hN : N ≤ 9223372036854775807) :
    Calls Tryz.prog 55 #[.int .i64 N] w fun e w' => e = .returned (.string ⟨(Lib.decDigits N).toArray⟩) ∧ Below w.heap.size w w' := by
  have hcv := conv_one
  go_enter Tryz.func55, Tryz.ntmps55
  go_wp2
  go_loopw [0, 3] (fun n v wr => ∃ (m : Nat) (t : List UInt8), n = .int .i64 m ∧ v = .string ⟨t.toArray⟩ ∧ m ≤ 9223372036854775807 ∧ t.length + m ≤ N + 1 ∧ Lib.decDigits N = decAhead m ++ t ∧ Below w.heap.size w wr) (fun n _ _ => (intOf n).toNat)
  case atStart => exact ⟨N, [decLow N], rfl, by rw [low_form], hN, by simp; omega, decDigits_ahead N, (Below.refl _ _).alloc (Nat.le_refl _) _⟩
  case round =>
    obtain ⟨m, t, rfl, rfl, hm, ht, hd, hbe⟩ := hrel
    have HD : Hid (Lib.decDigits N = decAhead m ++ t) := hd; clear hd
    by_cases h9 : 9 < m
    · have h9' : (9 : Int) < (m : Int) := by omega
      go_wp2
      go_roundw
      case rel =>
        refine ⟨m / 10, decLow (m / 10) :: t, by go_num, by rw [low_form', cat_one], by omega, by simp; omega, ?_, hbe.alloc hbe.size _⟩
        rw [HD.out, decAhead_step m h9, List.append_assoc]; rfl
      case measure => simp [intOf]; omega
    · go_wp2
      go_ret
      exact ⟨ret_str (by rw [HD.out, decAhead_end m h9]; rfl), hbe⟩

set_option maxHeartbeats 400000 in
theorem specNumText_neg (n : Int) (w : World) (hn : n < 0) :
    Calls Tryz.prog 55 #[.int .i64 n] w fun e w' => e = .returned (.string ⟨(Lib.decDigits 0).toArray⟩) ∧ Below w.heap.size w w' := by
  have hcv := conv_one
  go_enter Tryz.func55, Tryz.ntmps55
  go_wp2
  go_loopw [0, 3] (fun n v wr => n = .int .i64 0 ∧ v = .string ⟨#[48]⟩ ∧ Below w.heap.size w wr) (fun n _ _ => (intOf n).toNat)
  case atStart => exact ⟨rfl, rfl, (Below.refl _ _).alloc (Nat.le_refl _) _⟩
  case round =>
    obtain ⟨rfl, rfl, hbe⟩ := hrel
    go_wp2
    go_ret
    exact ⟨ret_str (l := [48]) (by rw [decDigits_ahead]; rfl), hbe⟩

theorem specNumText_any (n : Int) (w : World) (hn : n ≤ 9223372036854775807) :
    Calls Tryz.prog 55 #[.int .i64 n] w fun e w' => e = .returned (.string ⟨(Lib.decDigits n.toNat).toArray⟩) ∧ Below w.heap.size w w' := by
  by_cases h : n < 0
  · have e : n.toNat = 0 := by omega
    rw [e]; exact specNumText_neg n w h
  · obtain ⟨m, rfl⟩ := Int.eq_ofNat_of_zero_le (by omega : 0 ≤ n)
    rw [Int.toNat_natCast]
    exact specNumText_pos m w (by omega)
end Go.Proofs.YtmgikfeknmbpbaaGreatDoor
namespace Go.Proofs.YtmgikfeknmbpbaaGreatDoor.M

def bl (c : UInt8) : Bool := isB (c.toNat : Int) 1
def trimL (l : List UInt8) : List UInt8 := ((l.dropWhile bl).reverse.dropWhile bl).reverse

theorem trimL_front (c : UInt8) (r : List UInt8) (h : bl c = true) : trimL (c :: r) = trimL r := by
  simp [trimL, h]

theorem dropWhile_append_single (p : UInt8 → Bool) (l : List UInt8) (c : UInt8) (h : p c = true) : (l ++ [c]).dropWhile p = if l.dropWhile p = [] then [] else l.dropWhile p ++ [c] := by
  induction l with
  | nil => simp [h]
  | cons a r ih =>
    simp only [List.cons_append, List.dropWhile_cons]
    cases p a <;> simp [ih]

theorem trimL_back (l : List UInt8) (c : UInt8) (h : bl c = true) : trimL (l ++ [c]) = trimL l := by
  unfold trimL
  rw [dropWhile_append_single bl l c h]
  by_cases e : l.dropWhile bl = []
  · simp [e]
  · simp [e, h]

theorem dropWhile_head (p : UInt8 → Bool) (c : UInt8) (r : List UInt8) (h : p c = false) : (c :: r).dropWhile p = c :: r := by
  simp [h]

theorem trimL_nil : trimL [] = [] := rfl

theorem trimL_done (l : List UInt8) (h0 : 0 < l.length) (hf : bl l[0] = false) (hb : bl (l[l.length - 1]) = false) : trimL l = l := by
  have e1 : l.dropWhile bl = l := by
    cases l with
    | nil => simp at h0
    | cons c r => exact dropWhile_head bl c r hf
  have e2 : l.reverse.dropWhile bl = l.reverse := by
    have hne : l ≠ [] := by intro e; simp [e] at h0
    have hl : l.getLast hne = l[l.length - 1] := List.getLast_eq_getElem hne
    have e3 : l.reverse = l.getLast hne :: l.dropLast.reverse := by
      conv => lhs; rw [← List.dropLast_concat_getLast hne]
      simp
    rw [e3]
    exact dropWhile_head bl _ _ (by rw [hl]; exact hb)
  rw [trimL, e1, e2, List.reverse_reverse]

/-- A text cut: its bytes from a up to b. -/
def cut (s : ByteArray) (a b : Nat) : List UInt8 := (s.data.toList.take b).drop a

theorem cut_all (s : ByteArray) : cut s 0 s.size = s.data.toList := by
  have e : s.data.toList.length = s.size := Array.length_toList
  unfold cut
  rw [List.drop_zero, List.take_of_length_le (by omega)]

theorem cut_length (s : ByteArray) (a b : Nat) (hb : b ≤ s.size) : (cut s a b).length = b - a := by
  have e : s.data.toList.length = s.size := Array.length_toList
  unfold cut
  rw [List.length_drop, List.length_take]
  omega

theorem cut_get (s : ByteArray) (a b i : Nat) (hb : b ≤ s.size) (hi : a + i < b) : (cut s a b)[i]'(by rw [cut_length s a b hb]; omega) = s[a + i] := by
  simp only [cut, List.getElem_drop, List.getElem_take]
  rfl

theorem cut_front (s : ByteArray) (a b : Nat) (hb : b ≤ s.size) (h : a < b) : cut s a b = s[a] :: cut s (a + 1) b := by
  have e : s.data.toList.length = s.size := Array.length_toList
  unfold cut
  rw [List.drop_eq_getElem_cons (by rw [List.length_take]; omega), List.getElem_take]
  rfl

theorem cut_back (s : ByteArray) (a b : Nat) (hb : b ≤ s.size) (h : a < b) : cut s a b = cut s a (b - 1) ++ [s[b - 1]] := by
  have e : s.data.toList.length = s.size := Array.length_toList
  obtain ⟨c, rfl⟩ : ∃ c, b = c + 1 := ⟨b - 1, by omega⟩
  simp only [Nat.add_sub_cancel]
  unfold cut
  rw [List.take_succ_eq_append_getElem (by omega), List.drop_append_of_le_length (by rw [List.length_take]; omega)]
  rfl

theorem cut_empty (s : ByteArray) (a b : Nat) (h : b ≤ a) : cut s a b = [] := by
  unfold cut
  rw [List.drop_eq_nil_iff, List.length_take]
  omega

theorem cut_trim_front (s : ByteArray) (a b : Nat) (hb : b ≤ s.size) (h : a < b) (hc : bl s[a] = true) : trimL (cut s a b) = trimL (cut s (a + 1) b) := by
  rw [cut_front s a b hb h, trimL_front _ _ hc]

theorem cut_trim_back (s : ByteArray) (a b : Nat) (hb : b ≤ s.size) (h : a < b) (hc : bl s[b - 1] = true) : trimL (cut s a b) = trimL (cut s a (b - 1)) := by
  rw [cut_back s a b hb h, trimL_back _ _ hc]

theorem cut_trim_done (s : ByteArray) (a b : Nat) (hb : b ≤ s.size) (h : a < b) (hf : bl s[a] = false) (hl : bl s[b - 1] = false) : trimL (cut s a b) = cut s a b := by
  have e := cut_length s a b hb
  apply trimL_done
  · rw [cut_get s a b 0 hb (by omega)]; exact hf
  · have := cut_get s a b (b - a - 1) hb (by omega)
    simp only [e]
    rw [this]
    have e2 : a + (b - a - 1) = b - 1 := by omega
    simp only [e2]; exact hl

theorem extract_cut (s : ByteArray) (a b : Nat) : (s.extract a b).data.toList = cut s a b := by
  unfold cut
  rw [ByteArray.data_extract, Array.toList_extract]
  simp [List.extract_eq_take_drop, List.drop_take]

theorem cut_cut (s : ByteArray) (a b c d : Nat) (hb : b ≤ s.size) (hd : a + d ≤ b) : cut (s.extract a b) c d = cut s (a + c) (a + d) := by
  have e : s.data.toList.length = s.size := Array.length_toList
  unfold cut
  rw [extract_cut]
  unfold cut
  apply List.ext_getElem
  · simp only [List.length_drop, List.length_take]; omega
  · intro i h1 h2
    simp only [List.getElem_drop, List.getElem_take, Nat.add_assoc]

theorem anyB_bl (c : UInt8) : anyB (c.toNat : Int) [1] = bl c := by simp [anyB, bl]

theorem size_extract (s : ByteArray) (a b : Nat) (hb : b ≤ s.size) : (s.extract a b).size = b - a := by
  have e : (s.extract a b).data.toList.length = (s.extract a b).size := Array.length_toList
  rw [← e, extract_cut, cut_length s a b hb]

theorem step_front (t : ByteArray) (l : List UInt8) (h0 : 0 < t.size) (hb : bl t[0] = true) (H : trimL t.data.toList = l) : trimL (t.extract 1 t.size).data.toList = l := by
  rw [extract_cut, ← cut_trim_front t 0 t.size (Nat.le_refl _) h0 hb, cut_all, H]

theorem step_back (t : ByteArray) (l : List UInt8) (h0 : 0 < t.size) (hb : bl t[t.size - 1] = true) (H : trimL t.data.toList = l) : trimL (t.extract 0 (t.size - 1)).data.toList = l := by
  rw [extract_cut, ← cut_trim_back t 0 t.size (Nat.le_refl _) h0 hb, cut_all, H]

theorem step_back_head (t : ByteArray) (h0 : 0 < t.size) (hf : bl t[0] = false) (h : 0 < (t.extract 0 (t.size - 1)).size) : bl (t.extract 0 (t.size - 1))[0] = false := by
  have e : (t.extract 0 (t.size - 1))[0] = t[0] := by
    rw [ByteArray.getElem_extract]
  rw [e]; exact hf

theorem step_done (t : ByteArray) (l : List UInt8) (h0 : 0 < t.size) (hf : bl t[0] = false) (hb : bl t[t.size - 1] = false) (H : trimL t.data.toList = l) : t.data.toList = l := by
  rw [← H, ← cut_all t]
  exact (cut_trim_done t 0 t.size (Nat.le_refl _) h0 hf hb).symm

theorem step_none (t : ByteArray) (l : List UInt8) (h0 : ¬ 0 < t.size) (H : trimL t.data.toList = l) : t.data.toList = l := by
  have e : t.data.toList = [] := by rw [← cut_all t]; exact cut_empty _ _ _ (by omega)
  rw [← H, e]; rfl

end Go.Proofs.YtmgikfeknmbpbaaGreatDoor.M
namespace Go.Proofs.YtmgikfeknmbpbaaGreatDoor.M

/-- These bytes, as a text. -/
def bytesOf (l : List UInt8) : ByteArray := ⟨l.toArray⟩
theorem bytesOf_append (l m : List UInt8) : bytesOf l ++ bytesOf m = bytesOf (l ++ m) := by
  apply ByteArray.ext
  simp [bytesOf]

theorem bytesOf_size (l : List UInt8) : (bytesOf l).size = l.length := by
  show l.toArray.size = l.length
  simp

/-- A digit of sixteen, a large one. -/
def digL (n : Nat) : UInt8 := if n < 10 then UInt8.ofNat (48 + n) else UInt8.ofNat (55 + n)
theorem digL_lo (n : Nat) (h : n < 10) : (digL n).toNat = 48 + n := by
  unfold digL; rw [if_pos h]; simp; omega
theorem digL_hi (n : Nat) (h : ¬ n < 10) (h' : n < 16) : (digL n).toNat = 55 + n := by
  unfold digL; rw [if_neg h]; simp; omega

/-- Whether a byte stays as it is in a quoted text. -/
def freeB (c : Int) : Bool := ((((((isB c 2 || isB c 3) || isB c 4) || c == 45) || c == 46) || c == 95) || c == 126)
def quoteB (c : UInt8) : List UInt8 := if freeB (c.toNat : Int) then [c] else [37, digL (c.toNat / 16), digL (c.toNat % 16)]
def quoteL (l : List UInt8) : List UInt8 := l.flatMap quoteB

theorem quoteB_yes {c : UInt8} (h : freeB (c.toNat : Int) = true) : quoteB c = [c] := by unfold quoteB; rw [if_pos h]
theorem quoteB_no {c : UInt8} (h : freeB (c.toNat : Int) = false) : quoteB c = [37, digL (c.toNat / 16), digL (c.toNat % 16)] := by unfold quoteB; rw [if_neg (by simp [h])]

theorem quoteL_snoc (s : ByteArray) (k : Nat) (h : k < s.size) : quoteL (s.data.toList.take (k + 1)) = quoteL (s.data.toList.take k) ++ quoteB s[k] := by
  rw [take_snoc s k h]; simp [quoteL]

theorem quoteB_length (c : UInt8) : (quoteB c).length ≤ 3 := by unfold quoteB; split <;> simp
theorem quoteL_le (l : List UInt8) : (quoteL l).length ≤ 3 * l.length := by
  induction l with
  | nil => simp [quoteL]
  | cons c l ih =>
    have := quoteB_length c
    simp only [quoteL, List.flatMap_cons, List.length_append, List.length_cons] at *
    omega

theorem hex_at (n : Nat) (h : n < 16) : (⟨#[48, 49, 50, 51, 52, 53, 54, 55, 56, 57, 65, 66, 67, 68, 69, 70]⟩ : ByteArray)[n]'(by show n < 16; exact h) = digL n := by
  have key : ∀ i : Fin 16, (⟨#[48, 49, 50, 51, 52, 53, 54, 55, 56, 57, 65, 66, 67, 68, 69, 70]⟩ : ByteArray)[i.val]'(by show i.val < 16; exact i.isLt) = digL i.val := by decide
  exact key ⟨n, h⟩

end Go.Proofs.YtmgikfeknmbpbaaGreatDoor.M
namespace Go.Proofs.YtmgikfeknmbpbaaGreatDoor.M

/-- The worth of decimal digits, the first one the greatest, behind a number. -/
def decValF (n : Nat) (l : List UInt8) : Nat := l.foldl (fun n c => n * 10 + (c.toNat - 48)) n
def decVal (l : List UInt8) : Nat := decValF 0 l

theorem decVal_snoc (l : List UInt8) (c : UInt8) : decVal (l ++ [c]) = decVal l * 10 + (c.toNat - 48) := by
  simp [decVal, decValF]

def digs (l : List UInt8) : Bool := allB l [4]

theorem digs_cons (c : UInt8) (r : List UInt8) : digs (c :: r) = true → (48 ≤ c.toNat ∧ c.toNat ≤ 57) ∧ digs r = true := by
  intro h
  have h1 : isB (c.toNat : Int) 4 = true ∧ digs r = true := by simpa [digs, allB, anyB] using h
  refine ⟨?_, h1.2⟩
  have := h1.1; simp [isB] at this; omega

theorem decFrom_val (l : List UInt8) : ∀ n, digs l = true → Lib.decFrom n l = some (decValF n l) := by
  induction l with
  | nil => intro n _; rfl
  | cons c r ih =>
    intro n h
    obtain ⟨h1, h2⟩ := digs_cons c r h
    have hd : Lib.digitVal c = some (c.toNat - 48) := by unfold Lib.digitVal; rw [if_pos h1]
    simp only [Lib.decFrom, hd]
    exact ih _ h2

theorem atoi_val (l : List UInt8) (h : digs l = true) (h0 : 1 ≤ l.length) : Lib.atoi l = some (decVal l : Int) := by
  match l, h, h0 with
  | c :: r, h, _ =>
    obtain ⟨h1, _⟩ := digs_cons c r h
    have e45 : (c == 45) = false := by
      rw [beq_eq_false_iff_ne]; intro e; subst e; exact absurd h1.1 (by decide)
    have e43 : (c == 43) = false := by
      rw [beq_eq_false_iff_ne]; intro e; subst e; exact absurd h1.1 (by decide)
    simp only [Lib.atoi, e45, e43]
    simp [Lib.decNat, decFrom_val _ _ h, decVal]

theorem decVal_lt (l : List UInt8) (h : digs l = true) : decVal l < 10 ^ l.length := by
  have := Lib.decFrom_lt l 0 _ (decFrom_val l 0 h)
  simpa [decVal] using this

theorem pow_le8 {k : Nat} (h : k ≤ 8) : 10 ^ k ≤ 100000000 := by
  have := Nat.pow_le_pow_right (show 0 < 10 by decide) h
  exact this

/-- What ParseNum answers. -/
def parseOk (l : List UInt8) (most : Int) : Prop := 1 ≤ l.length ∧ l.length ≤ 7 ∧ digs l = true ∧ ¬ (1 < l.length ∧ l.head? = some 48) ∧ (decVal l : Int) ≤ most
def parseB (l : List UInt8) (most : Int) : Bool := decide (1 ≤ l.length) && (decide (l.length ≤ 7) && (digs l && (!(decide (1 < l.length) && l.head? == some 48) && decide ((decVal l : Int) ≤ most))))
theorem parseB_iff (l : List UInt8) (most : Int) : parseB l most = true ↔ parseOk l most := by
  simp only [parseB, parseOk, Bool.and_eq_true, decide_eq_true_eq, Bool.not_eq_true', Bool.and_eq_false_iff, decide_eq_false_iff_not]
  constructor
  · rintro ⟨a, b, c, d, e⟩
    refine ⟨a, b, c, ?_, e⟩
    rintro ⟨x, y⟩
    rcases d with d | d
    · exact d x
    · simp [y] at d
  · rintro ⟨a, b, c, d, e⟩
    refine ⟨a, b, c, ?_, e⟩
    by_cases x : 1 < l.length
    · right
      rw [beq_eq_false_iff_ne]
      exact fun y => d ⟨x, y⟩
    · exact .inl x
def parseNum (l : List UInt8) (most : Int) : Int × Bool := if parseB l most then ((decVal l : Int), true) else (0, false)
theorem parseNum_no {l : List UInt8} {most : Int} (h : ¬ parseOk l most) : parseNum l most = (0, false) := if_neg (fun e => h ((parseB_iff l most).1 e))
theorem parseNum_yes {l : List UInt8} {most : Int} (h : parseOk l most) : parseNum l most = ((decVal l : Int), true) := if_pos ((parseB_iff l most).2 h)

theorem digs_snoc (s : ByteArray) (k : Nat) (h : k < s.size) (h0 : digs (s.data.toList.take k) = true) (h2 : isB (s[k].toNat : Int) 4 = true) : digs (s.data.toList.take (k + 1)) = true :=
  allB_snoc s [4] k h h0 (by rw [anyB_one, h2]; rfl)
theorem digs_not (s : ByteArray) (k : Nat) (h : k < s.size) (h2 : isB (s[k].toNat : Int) 4 = false) : digs s.data.toList = false :=
  allB_not s [4] k h (by rw [anyB_one, h2]; rfl)
theorem decVal_step (s : ByteArray) (k : Nat) (h : k < s.size) : decVal (s.data.toList.take (k + 1)) = decVal (s.data.toList.take k) * 10 + (s[k].toNat - 48) := by
  rw [take_snoc s k h, decVal_snoc]
theorem isB4 {c : Int} (h : isB c 4 = true) : 48 ≤ c ∧ c ≤ 57 := by simp [isB] at h; omega
theorem head_get (s : ByteArray) (h : 0 < s.size) : s.data.toList.head? = some s[0] := by
  have e : s.data.toList.length = s.size := Array.length_toList
  rw [List.head?_eq_getElem?, List.getElem?_eq_getElem (by omega)]; rfl
theorem len_list (s : ByteArray) : s.data.toList.length = s.size := Array.length_toList

theorem not_size {s : ByteArray} {most : Int} (h : inB (s.size : Int) 1 7 = false) : ¬ parseOk s.data.toList most := by
  intro hp
  have e := len_list s
  have h1 : 1 ≤ s.size ∧ s.size ≤ 7 := by have := hp.1; have := hp.2.1; omega
  simp [inB] at h
  omega
theorem not_nought {s : ByteArray} {most : Int} (h0 : 0 < s.size) (h1 : 1 < s.size) (hz : (((s[0]).toNat : Int) == 48) = true) : ¬ parseOk s.data.toList most := by
  intro hp
  refine hp.2.2.2.1 ⟨by rw [len_list]; exact h1, ?_⟩
  rw [head_get s h0]
  have : (s[0]).toNat = 48 := by simp at hz; omega
  congr 1
  exact UInt8.toNat_inj.1 this
theorem not_most {l : List UInt8} {most : Int} (h : most < (decVal l : Int)) : ¬ parseOk l most := fun hp => by have := hp.2.2.2.2; omega
theorem not_digs {l : List UInt8} {most : Int} (h : digs l = false) : ¬ parseOk l most := fun hp => by have := hp.2.2.1; rw [h] at this; cases this
theorem is_ok {s : ByteArray} {most : Int} (h0 : 0 < s.size) (h : inB (s.size : Int) 1 7 = true) (hd : digs s.data.toList = true) (hz : 1 < s.size → (((s[0]).toNat : Int) == 48) = false) (hm : ¬ most < (decVal s.data.toList : Int)) : parseOk s.data.toList most := by
  have e := len_list s
  have h1 : 1 ≤ s.size ∧ s.size ≤ 7 := by simp [inB] at h; omega
  refine ⟨by omega, by omega, hd, ?_, by omega⟩
  rintro ⟨h2, h3⟩
  rw [head_get s h0] at h3
  have h4 := hz (by omega)
  have h5 : s[0] = 48 := Option.some.inj h3
  rw [h5] at h4
  simp at h4

end Go.Proofs.YtmgikfeknmbpbaaGreatDoor.M
namespace Go.Proofs.YtmgikfeknmbpbaaGreatDoor.M

/-- A byte, escaped. -/
def escB (c : UInt8) : List UInt8 :=
  if c = 38 then [38, 97, 109, 112, 59] else if c = 60 then [38, 108, 116, 59] else if c = 62 then [38, 103, 116, 59] else if c = 34 then [38, 113, 117, 111, 116, 59] else [c]
def escL (l : List UInt8) : List UInt8 := l.flatMap escB

theorem escL_snoc (s : ByteArray) (k : Nat) (h : k < s.size) : escL (s.data.toList.take (k + 1)) = escL (s.data.toList.take k) ++ escB s[k] := by
  rw [take_snoc s k h]; simp [escL]
theorem escB_length (c : UInt8) : (escB c).length ≤ 6 := by
  unfold escB; split; · simp
  split; · simp
  split; · simp
  split <;> simp
theorem escL_le (l : List UInt8) : (escL l).length ≤ 6 * l.length := by
  induction l with
  | nil => simp [escL]
  | cons c l ih =>
    have := escB_length c
    simp only [escL, List.flatMap_cons, List.length_append, List.length_cons] at *
    omega
theorem escL_cons (c : UInt8) (l : List UInt8) : escL (c :: l) = escB c ++ escL l := by simp [escL]

/-- What stands ahead of the first such byte; and from it on. -/
def upTo (c : UInt8) (l : List UInt8) : List UInt8 := l.takeWhile (· != c)
def fromB (c : UInt8) (l : List UInt8) : List UInt8 := l.dropWhile (· != c)
theorem fromB_le (c : UInt8) (l : List UInt8) : (fromB c l).length ≤ l.length := by
  induction l with
  | nil => simp [fromB]
  | cons b l ih =>
    simp only [fromB, List.dropWhile_cons] at *
    split
    · simp; omega
    · simp
theorem upTo_from (c : UInt8) (l : List UInt8) : upTo c l ++ fromB c l = l := List.takeWhile_append_dropWhile
theorem upTo_cons_eq (c : UInt8) (l : List UInt8) : upTo c (c :: l) = [] := by simp [upTo]
theorem fromB_cons_eq (c : UInt8) (l : List UInt8) : fromB c (c :: l) = c :: l := by simp [fromB]
theorem upTo_cons_ne {b c : UInt8} (l : List UInt8) (h : b ≠ c) : upTo c (b :: l) = b :: upTo c l := by simp [upTo, h]
theorem fromB_cons_ne {b c : UInt8} (l : List UInt8) (h : b ≠ c) : fromB c (b :: l) = fromB c l := by simp [fromB, h]
theorem fromB_head {c x : UInt8} {l q : List UInt8} (h : fromB c l = x :: q) : x = c := by
  induction l with
  | nil => simp [fromB] at h
  | cons b l ih =>
    by_cases e : b = c
    · subst e; rw [fromB_cons_eq] at h; exact (List.cons.inj h).1.symm
    · rw [fromB_cons_ne l e] at h; exact ih h

/-- The byte that a name stands for. -/
def entL (l : List UInt8) : Option UInt8 :=
  if l = [97, 109, 112] then some 38 else if l = [108, 116] then some 60 else if l = [103, 116] then some 62 else if l = [113, 117, 111, 116] then some 34 else if l = [97, 112, 111, 115] then some 39
  else if l.head? = some 35 then (if (parseNum l.tail 126).2 && decide (32 ≤ (parseNum l.tail 126).1) then some (UInt8.ofNat (decVal l.tail)) else none)
  else none

/-- What these bytes are, not escaped. -/
def unesc : List UInt8 → Option (List UInt8)
  | [] => some []
  | c :: r => if c = 60 then none else if c = 38 then
      (if fromB 59 r = [] then none else
       match entL (upTo 59 r) with
       | some b => (unesc (fromB 59 r).tail).map (b :: ·)
       | none => none)
    else (unesc r).map (c :: ·)
termination_by l => l.length
decreasing_by
  · have := fromB_le 59 r
    simp only [List.length_tail, List.length_cons]
    omega
  · simp

/-- .. as the two answers. -/
def unescR (l : List UInt8) : List UInt8 × Bool := match unesc l with | some x => (x, true) | none => ([], false)

theorem unesc_nil : unesc [] = some [] := by rw [unesc]
theorem unesc_plain {c : UInt8} (r : List UInt8) (h : c ≠ 60) (h2 : c ≠ 38) : unesc (c :: r) = (unesc r).map (c :: ·) := by
  rw [unesc]; simp [h, h2]
theorem unesc_open (r : List UInt8) : unesc (60 :: r) = none := by
  rw [unesc]; simp
theorem unesc_short (r : List UInt8) (h : fromB 59 r = []) : unesc (38 :: r) = none := by
  rw [unesc]; simp [h]
theorem unesc_bad (r : List UInt8) (h : entL (upTo 59 r) = none) : unesc (38 :: r) = none := by
  rw [unesc]; simp [h]
theorem unesc_ent (r q : List UInt8) (x b : UInt8) (h : fromB 59 r = x :: q) (hb : entL (upTo 59 r) = some b) : unesc (38 :: r) = (unesc q).map (b :: ·) := by
  rw [unesc]; simp [h, hb]

/-- What is read so far, and what is left: together all. -/
def UeAt (l rest acc : List UInt8) : Prop := acc.length + rest.length ≤ l.length ∧ unesc l = (unesc rest).map (acc ++ ·)

theorem UeAt.start (l : List UInt8) : UeAt l l [] := ⟨by simp, by simp⟩
theorem UeAt.plain {l r acc : List UInt8} {c : UInt8} (h : UeAt l (c :: r) acc) (h1 : c ≠ 60) (h2 : c ≠ 38) : UeAt l r (acc ++ [c]) := by
  obtain ⟨a, b⟩ := h
  refine ⟨by simp at a ⊢; omega, ?_⟩
  rw [b, unesc_plain r h1 h2, Option.map_map]
  congr 1
  funext x
  simp [Function.comp]
theorem UeAt.ent {l r q acc : List UInt8} {x b : UInt8} (h : UeAt l (38 :: r) acc) (hq : fromB 59 r = x :: q) (hb : entL (upTo 59 r) = some b) : UeAt l q (acc ++ [b]) := by
  obtain ⟨a, e⟩ := h
  have := fromB_le 59 r
  rw [hq] at this
  refine ⟨by simp at a this ⊢; omega, ?_⟩
  rw [e, unesc_ent r q x b hq hb, Option.map_map]
  congr 1
  funext x
  simp [Function.comp]
theorem UeAt.no {l rest acc : List UInt8} (h : UeAt l rest acc) (hn : unesc rest = none) : unescR l = ([], false) := by
  unfold unescR; rw [h.2, hn]; rfl
theorem UeAt.done {l acc : List UInt8} (h : UeAt l [] acc) : unescR l = (acc, true) := by
  unfold unescR; rw [h.2, unesc_nil]; simp

theorem unesc_le (l : List UInt8) : ∀ x, unesc l = some x → x.length ≤ l.length := by
  induction hn : l.length using Nat.strongRecOn generalizing l with
  | _ n ih =>
    subst hn
    intro x hx
    match l, ih, hx with
    | [], _, hx => rw [unesc_nil] at hx; simp at hx; simp [← hx]
    | c :: r, ih, hx =>
      by_cases h60 : c = 60
      · subst h60; rw [unesc_open] at hx; cases hx
      by_cases h38 : c = 38
      · subst h38
        match hf : fromB 59 r with
        | [] => rw [unesc_short r hf] at hx; cases hx
        | y :: q =>
          match he : entL (upTo 59 r) with
          | none => rw [unesc_bad r he] at hx; cases hx
          | some b =>
            rw [unesc_ent r q y b hf he] at hx
            obtain ⟨z, hz, rfl⟩ := Option.map_eq_some_iff.1 hx
            have h1 := fromB_le 59 r
            rw [hf] at h1
            have := ih q.length (by simp at h1 ⊢; omega) q rfl z hz
            simp at h1 ⊢; omega
      · rw [unesc_plain r h60 h38] at hx
        obtain ⟨z, hz, rfl⟩ := Option.map_eq_some_iff.1 hx
        have := ih r.length (by simp) r rfl z hz
        simp; omega

theorem unescR_le (l : List UInt8) : (unescR l).1.length ≤ l.length := by
  unfold unescR
  cases h : unesc l with
  | none => simp
  | some x => exact unesc_le l x h

/-- What is escaped comes back. -/
theorem unesc_escB (c : UInt8) (r : List UInt8) : unesc (escB c ++ r) = (unesc r).map (c :: ·) := by
  unfold escB
  split
  · rename_i h; subst h
    exact unesc_ent _ r 59 38 (by simp [fromB]) (by simp [upTo, entL])
  split
  · rename_i h; subst h
    exact unesc_ent _ r 59 60 (by simp [fromB]) (by simp [upTo, entL])
  split
  · rename_i h; subst h
    exact unesc_ent _ r 59 62 (by simp [fromB]) (by simp [upTo, entL])
  split
  · rename_i h; subst h
    exact unesc_ent _ r 59 34 (by simp [fromB]) (by simp [upTo, entL])
  · exact unesc_plain r (by assumption) (by assumption)

theorem unesc_escL (l : List UInt8) : unesc (escL l) = some l := by
  induction l with
  | nil => exact unesc_nil
  | cons c r ih => rw [escL_cons, unesc_escB, ih]; rfl
theorem unescR_escL (l : List UInt8) : unescR (escL l) = (l, true) := by unfold unescR; rw [unesc_escL]

theorem escB_none (c : UInt8) : ∀ x ∈ escB c, x ≠ 60 ∧ x ≠ 34 ∧ x ≠ 62 := by
  intro x hx
  unfold escB at hx
  split at hx
  · simp at hx; rcases hx with h | h | h | h | h <;> (subst h; decide)
  split at hx
  · simp at hx; rcases hx with h | h | h | h <;> (subst h; decide)
  split at hx
  · simp at hx; rcases hx with h | h | h | h <;> (subst h; decide)
  split at hx
  · simp at hx; rcases hx with h | h | h | h | h | h <;> (subst h; decide)
  · simp at hx; subst hx; exact ⟨by assumption, by assumption, by assumption⟩
theorem escL_none (l : List UInt8) : ∀ x ∈ escL l, x ≠ 60 ∧ x ≠ 34 ∧ x ≠ 62 := by
  intro x hx
  obtain ⟨c, _, hc⟩ := List.mem_flatMap.1 hx
  exact escB_none c x hc

theorem upTo_all {c : UInt8} {l : List UInt8} (h : ∀ x ∈ l, x ≠ c) (r : List UInt8) : upTo c (l ++ c :: r) = l ∧ fromB c (l ++ c :: r) = c :: r := by
  induction l with
  | nil => exact ⟨upTo_cons_eq c r, fromB_cons_eq c r⟩
  | cons b l ih =>
    obtain ⟨i1, i2⟩ := ih (fun x hx => h x (List.mem_cons_of_mem _ hx))
    have hb := h b (List.mem_cons_self ..)
    rw [List.cons_append, upTo_cons_ne _ hb, fromB_cons_ne _ hb, i1, i2]
    exact ⟨rfl, rfl⟩
theorem upTo_none {c : UInt8} {l : List UInt8} (h : ∀ x ∈ l, x ≠ c) : upTo c l = l ∧ fromB c l = [] := by
  induction l with
  | nil => exact ⟨rfl, rfl⟩
  | cons b l ih =>
    obtain ⟨i1, i2⟩ := ih (fun x hx => h x (List.mem_cons_of_mem _ hx))
    have hb := h b (List.mem_cons_self ..)
    rw [upTo_cons_ne _ hb, fromB_cons_ne _ hb, i1, i2]
    exact ⟨rfl, rfl⟩

/-- What the library's Cut and Index at one byte are. -/
theorem indexByte_upTo (l : List UInt8) (c : UInt8) : Lib.indexByte l c = if fromB c l = [] then -1 else ((upTo c l).length : Int) := by
  induction l with
  | nil => rfl
  | cons b l ih =>
    by_cases h : b = c
    · subst h
      rw [fromB_cons_eq, upTo_cons_eq]
      simp [Lib.indexByte]
    · rw [fromB_cons_ne l h, upTo_cons_ne l h]
      have hb : (b == c) = false := by simp [h]
      show (if b == c then 0 else if Lib.indexByte l c == -1 then -1 else Lib.indexByte l c + 1) = _
      rw [hb, ih]
      by_cases h2 : fromB c l = []
      · simp [h2]
      · simp only [h2, if_false]
        rw [if_neg (by simp)]
        simp
theorem cut_one (l : List UInt8) (c : UInt8) : Lib.cut l [c] = (upTo c l, (fromB c l).tail, !(fromB c l).isEmpty) := by
  have hi : Lib.index l [c] = Lib.indexByte l c := Lib.index_one l c
  have e := upTo_from c l
  unfold Lib.cut
  rw [hi, indexByte_upTo]
  cases hf : fromB c l with
  | nil =>
    rw [hf, List.append_nil] at e
    simp [e]
  | cons x q =>
    rw [hf] at e
    clear hf
    generalize upTo c l = p at e ⊢
    subst e
    simp

/-- The numeric ones, as the program asks. -/
theorem parse_more (d : List UInt8) : ((parseNum d 255).2 && decide (32 ≤ (parseNum d 255).1 ∧ (parseNum d 255).1 ≤ 126)) = ((parseNum d 126).2 && decide (32 ≤ (parseNum d 126).1)) := by
  by_cases h : parseOk d 126
  · have h' : parseOk d 255 := ⟨h.1, h.2.1, h.2.2.1, h.2.2.2.1, by have := h.2.2.2.2; omega⟩
    rw [parseNum_yes h, parseNum_yes h']
    have := h.2.2.2.2
    simp; omega
  · by_cases h' : parseOk d 255
    · rw [parseNum_no h, parseNum_yes h']
      have : ¬ (decVal d : Int) ≤ 126 := fun e => h ⟨h'.1, h'.2.1, h'.2.2.1, h'.2.2.2.1, e⟩
      simp; omega
    · rw [parseNum_no h, parseNum_no h']
      rfl
end Go.Proofs.YtmgikfeknmbpbaaGreatDoor.M
namespace Go.Proofs.YtmgikfeknmbpbaaGreatDoor.M

/-- A mark of what stands within it. -/
def tagL (m : List UInt8) : List UInt8 := 34 :: (m ++ [34])
def innB (m : List UInt8) : Bool := decide (m.length ≤ 10) && allB m [0]
/-- The mark ahead: what stands within it, and what stands behind. -/
def cutT : List UInt8 → Option (List UInt8 × List UInt8)
  | [] => none
  | c :: t => if c = 34 then (if fromB 34 t = [] then none else if innB (upTo 34 t) = true then some (upTo 34 t, (fromB 34 t).tail) else none) else none
/-- Marks, one behind the other, as they are read. -/
def tgs : Nat → List UInt8 → List (List UInt8) → Option (List (List UInt8))
  | 0, _, _ => none
  | f + 1, l, acc =>
    match cutT (trimL l) with
    | none => none
    | some (m, rest) =>
      if acc.length = 5 then none
      else if trimL rest = [] then some (acc ++ [tagL m])
      else if (trimL rest).head? = some 44 then tgs f (trimL rest).tail (acc ++ [tagL m])
      else none
/-- A text cut at commas that stand in no mark. -/
def addH (p : List UInt8) : List (List UInt8) → List (List UInt8)
  | [] => [p]
  | x :: q => (p ++ x) :: q
def spq : Bool → List UInt8 → List (List UInt8)
  | _, [] => [[]]
  | b, c :: r => if c = 44 ∧ b = false then [] :: spq false r else addH [c] (spq (if c = 34 then !b else b) r)
def tagB (x : List UInt8) : Bool := match cutT x with | some (_, []) => true | _ => false

theorem addH_add (a b : List UInt8) (L : List (List UInt8)) : addH a (addH b L) = addH (a ++ b) L := by
  cases L <;> simp [addH]
theorem addH_nil (L : List (List UInt8)) (h : L ≠ []) : addH [] L = L := by
  cases L with
  | nil => exact absurd rfl h
  | cons x q => simp [addH]
theorem addH_ne (a : List UInt8) (L : List (List UInt8)) : addH a L ≠ [] := by cases L <;> simp [addH]
theorem spq_ne (b : Bool) (l : List UInt8) : spq b l ≠ [] := by
  cases l with
  | nil => simp [spq]
  | cons c r => rw [spq]; split; simp; exact addH_ne _ _
theorem spq_in (m r : List UInt8) (h : 34 ∉ m) : spq true (m ++ r) = addH m (spq true r) := by
  induction m with
  | nil => exact (addH_nil _ (spq_ne _ _)).symm
  | cons c q ih =>
    have h1 : ¬ c = 34 := fun e => h (by simp [e])
    rw [List.cons_append, spq, if_neg (by simp), if_neg h1, ih (fun e => h (List.mem_cons_of_mem _ e)), addH_add]
    rfl
theorem spq_out (m r : List UInt8) (h : 34 ∉ m) (h4 : 44 ∉ m) : spq false (m ++ r) = addH m (spq false r) := by
  induction m with
  | nil => exact (addH_nil _ (spq_ne _ _)).symm
  | cons c q ih =>
    have h1 : ¬ c = 34 := fun e => h (by simp [e])
    have h2 : ¬ c = 44 := fun e => h4 (by simp [e])
    rw [List.cons_append, spq, if_neg (by simp [h2]), if_neg h1, ih (fun e => h (List.mem_cons_of_mem _ e)) (fun e => h4 (List.mem_cons_of_mem _ e)), addH_add]
    rfl
theorem spq_tag (m r : List UInt8) (h : 34 ∉ m) : spq false (tagL m ++ r) = addH (tagL m) (spq false r) := by
  have e : tagL m ++ r = 34 :: (m ++ 34 :: r) := by simp [tagL]
  rw [e, spq, if_neg (by simp), if_pos rfl, Bool.not_false, spq_in m _ h, spq, if_neg (by simp), if_pos rfl, Bool.not_true, addH_add, addH_add]
  simp [tagL]
theorem spq_comma (b r : List UInt8) (h : 34 ∉ b) (h4 : 44 ∉ b) : spq false (b ++ 44 :: r) = b :: spq false r := by
  rw [spq_out b _ h h4, spq, if_pos ⟨rfl, rfl⟩]
  simp [addH]

/-! Blanks. -/
def bls (l : List UInt8) : Prop := ∀ x ∈ l, bl x = true
theorem bl_not34 {x : UInt8} (h : bl x = true) : ¬ x = 34 := fun e => by rw [e] at h; exact absurd h (by decide)
theorem bl_not44 {x : UInt8} (h : bl x = true) : ¬ x = 44 := fun e => by rw [e] at h; exact absurd h (by decide)
theorem bls_34 {l : List UInt8} (h : bls l) : 34 ∉ l := fun e => bl_not34 (h _ e) rfl
theorem bls_44 {l : List UInt8} (h : bls l) : 44 ∉ l := fun e => bl_not44 (h _ e) rfl
theorem bls_app {a b : List UInt8} (ha : bls a) (hb : bls b) : bls (a ++ b) := fun x hx => (List.mem_append.1 hx).elim (ha x) (hb x)
def rtr (l : List UInt8) : List UInt8 := (l.reverse.dropWhile bl).reverse
theorem trim_rtr (l : List UInt8) : trimL l = rtr (l.dropWhile bl) := rfl
theorem dropw_bls (b r : List UInt8) (h : bls b) : (b ++ r).dropWhile bl = r.dropWhile bl := by
  induction b with
  | nil => rfl
  | cons c q ih => rw [List.cons_append, List.dropWhile_cons, if_pos (h c (by simp)), ih (fun x hx => h x (List.mem_cons_of_mem _ hx))]
theorem rtr_bls (r b : List UInt8) (h : bls b) : rtr (r ++ b) = rtr r := by
  unfold rtr
  rw [List.reverse_append, dropw_bls _ _ (fun x hx => h x (by simpa using hx))]
theorem trim_front (b r : List UInt8) (h : bls b) : trimL (b ++ r) = trimL r := by rw [trim_rtr, dropw_bls b r h, trim_rtr]
theorem trim_end (r b : List UInt8) (h : bls b) : trimL (r ++ b) = trimL r := by
  rw [trim_rtr, trim_rtr]
  induction r with
  | nil =>
    have e : b.dropWhile bl = [] := by
      have := dropw_bls b [] h
      simpa using this
    rw [List.nil_append, e]; rfl
  | cons c q ih =>
    rw [List.cons_append, List.dropWhile_cons, List.dropWhile_cons]
    split
    · exact ih
    · rw [← List.cons_append, rtr_bls _ _ h]
theorem trim_bls {l : List UInt8} (h : bls l) : trimL l = [] := by
  have := trim_front l [] h
  rw [List.append_nil] at this
  rw [this]; rfl
theorem dropw_parts (l : List UInt8) : ∃ b, bls b ∧ l = b ++ l.dropWhile bl := by
  induction l with
  | nil => exact ⟨[], (fun x hx => by cases hx), rfl⟩
  | cons c q ih =>
    obtain ⟨b, hb, e⟩ := ih
    rw [List.dropWhile_cons]
    split
    · rename_i hc
      refine ⟨c :: b, fun x hx => ?_, by rw [List.cons_append, ← e]⟩
      rcases List.mem_cons.1 hx with rfl | hx
      · exact hc
      · exact hb x hx
    · exact ⟨[], (fun x hx => by cases hx), rfl⟩
theorem rtr_parts (l : List UInt8) : ∃ b, bls b ∧ l = rtr l ++ b := by
  obtain ⟨b, hb, e⟩ := dropw_parts l.reverse
  refine ⟨b.reverse, fun x hx => hb x (by simpa using hx), ?_⟩
  have := congrArg List.reverse e
  rw [List.reverse_reverse, List.reverse_append] at this
  exact this
theorem trim_parts (l : List UInt8) : ∃ b1 b2, bls b1 ∧ bls b2 ∧ l = b1 ++ (trimL l ++ b2) := by
  obtain ⟨b1, h1, e1⟩ := dropw_parts l
  obtain ⟨b2, h2, e2⟩ := rtr_parts (l.dropWhile bl)
  refine ⟨b1, b2, h1, h2, ?_⟩
  rw [trim_rtr, ← e2]
  exact e1
theorem dropw_head (l : List UInt8) (a : UInt8) (r : List UInt8) (h : l.dropWhile bl = a :: r) : bl a = false := by
  induction l with
  | nil => cases h
  | cons c q ih =>
    rw [List.dropWhile_cons] at h
    split at h
    · exact ih h
    · rename_i hc
      cases h
      simpa using hc
theorem rtr_app (v : List UInt8) (c : UInt8) (y : List UInt8) (h : bl c = false) : rtr (v ++ c :: y) = v ++ c :: rtr y := by
  unfold rtr
  have e : (v ++ c :: y).reverse = y.reverse ++ c :: v.reverse := by simp
  rw [e]
  have : ∀ z : List UInt8, (z ++ c :: v.reverse).dropWhile bl = z.dropWhile bl ++ c :: v.reverse := by
    intro z
    induction z with
    | nil => simp [h]
    | cons a q ih =>
      rw [List.cons_append, List.dropWhile_cons, List.dropWhile_cons]
      split
      · exact ih
      · rfl
  rw [this]
  simp
theorem rtr_ne (b : List UInt8) (c : UInt8) (y : List UInt8) (h : bl c = false) : rtr (b ++ c :: y) ≠ [] := by rw [rtr_app _ _ _ h]; simp
theorem trim_head {l : List UInt8} {a : UInt8} {r : List UInt8} (h : trimL l = a :: r) : bl a = false := by
  rw [trim_rtr] at h
  cases hd : l.dropWhile bl with
  | nil => rw [hd] at h; cases h
  | cons c q =>
    have hc := dropw_head l c q hd
    rw [hd] at h
    have := rtr_app [] c q hc
    rw [List.nil_append, List.nil_append] at this
    rw [this] at h
    cases h
    exact hc
theorem trim_cons (c : UInt8) (y : List UInt8) (h : bl c = false) : trimL (c :: y) = c :: rtr y := by
  rw [trim_rtr, dropWhile_head bl c y h]
  exact rtr_app [] c y h
theorem trim_none {l : List UInt8} (h : trimL l = []) : bls l := by
  obtain ⟨b1, b2, h1, h2, e⟩ := trim_parts l
  rw [h, List.nil_append] at e
  rw [e]; exact bls_app h1 h2
theorem trim_trim (l : List UInt8) : trimL (trimL l) = trimL l := by
  obtain ⟨b1, b2, h1, h2, e⟩ := trim_parts l
  conv => rhs; rw [e]
  rw [trim_front _ _ h1, trim_end _ _ h2]

/-! A mark ahead. -/
theorem upTo_not (c : UInt8) (l : List UInt8) : c ∉ upTo c l := by
  induction l with
  | nil => simp [upTo]
  | cons b l ih =>
    by_cases e : b = c
    · subst e; rw [upTo_cons_eq]; simp
    · rw [upTo_cons_ne l e]
      intro h
      rcases List.mem_cons.1 h with rfl | h
      · exact e rfl
      · exact ih h
theorem fromB_nil {c : UInt8} {l : List UInt8} (h : fromB c l = []) : c ∉ l := by
  have e := upTo_from c l
  rw [h, List.append_nil] at e
  rw [← e]; exact upTo_not c l
theorem upTo_app (c : UInt8) (m r : List UInt8) (h : c ∉ m) : upTo c (m ++ c :: r) = m ∧ fromB c (m ++ c :: r) = c :: r := by
  induction m with
  | nil => exact ⟨upTo_cons_eq c r, fromB_cons_eq c r⟩
  | cons b q ih =>
    have h1 : b ≠ c := fun e => h (by simp [e])
    obtain ⟨i1, i2⟩ := ih (fun e => h (List.mem_cons_of_mem _ e))
    rw [List.cons_append, upTo_cons_ne _ h1, fromB_cons_ne _ h1, i1, i2]
    exact ⟨rfl, rfl⟩
theorem fromB_part {c : UInt8} {l : List UInt8} (h : fromB c l ≠ []) : l = upTo c l ++ c :: (fromB c l).tail := by
  have e := upTo_from c l
  cases hf : fromB c l with
  | nil => exact absurd hf h
  | cons x q =>
    have := fromB_head hf
    subst this
    rw [hf] at e
    exact e.symm
theorem cutT_of (m y : List UInt8) (h : 34 ∉ m) : cutT (tagL m ++ y) = if innB m = true then some (m, y) else none := by
  have e : tagL m ++ y = 34 :: (m ++ 34 :: y) := by simp [tagL]
  obtain ⟨e1, e2⟩ := upTo_app 34 m y h
  rw [e, cutT, if_pos rfl, e1, e2, if_neg (by simp)]
  rfl
theorem cutT_some {x m y : List UInt8} (h : cutT x = some (m, y)) : x = tagL m ++ y ∧ 34 ∉ m ∧ innB m = true := by
  cases x with
  | nil => cases h
  | cons c t =>
    rw [cutT] at h
    split at h
    · rename_i hc
      subst hc
      split at h
      · cases h
      · rename_i hf
        split at h
        · rename_i hi
          cases h
          refine ⟨?_, upTo_not _ _, hi⟩
          have := fromB_part hf
          simp [tagL]
          exact this
        · cases h
    · cases h
theorem tagB_more (m y : List UInt8) (h : 34 ∉ m) (hy : y ≠ []) : tagB (tagL m ++ y) = false := by
  unfold tagB
  rw [cutT_of m y h]
  split
  · rename_i e
    split at e
    · cases e; exact absurd rfl hy
    · cases e
  · rfl
theorem tagB_one (m : List UInt8) (h : 34 ∉ m) (hi : innB m = true) : tagB (tagL m) = true := by
  unfold tagB
  have := cutT_of m [] h
  rw [List.append_nil, if_pos hi] at this
  rw [this]
theorem tagB_none {x : List UInt8} (h : cutT x = none) : tagB x = false := by unfold tagB; rw [h]
theorem trim_tag (m y : List UInt8) : trimL (tagL m ++ y) = tagL m ++ rtr y := by
  have e : tagL m ++ y = 34 :: (m ++ 34 :: y) := by simp [tagL]
  rw [e, trim_cons _ _ (by decide), rtr_app m 34 y (by decide)]
  simp [tagL]

theorem tgs_trim (f : Nat) (a b : List UInt8) (acc : List (List UInt8)) (h : trimL a = trimL b) : tgs f a acc = tgs f b acc := by
  cases f with
  | zero => rw [tgs, tgs]
  | succ f => rw [tgs, tgs, h]

/-- The first part of a text, where no mark is ahead. -/
theorem first_bad {l : List UInt8} (h : cutT (trimL l) = none) : ∃ x q, spq false l = x :: q ∧ tagB (trimL x) = false := by
  obtain ⟨b1, b2, h1, h2, e⟩ := trim_parts l
  cases ht : trimL l with
  | nil =>
    have hb := trim_none ht
    refine ⟨l, [], ?_, by rw [ht]; rfl⟩
    have := spq_out l [] (bls_34 hb) (bls_44 hb)
    rw [List.append_nil] at this
    rw [this]; simp [spq, addH]
  | cons c t =>
    have hc := trim_head ht
    rw [ht] at e h
    by_cases hq : c = 34
    · subst hq
      by_cases hf : fromB 34 t = []
      · have hn := fromB_nil hf
        refine ⟨l, [], ?_, by rw [ht]; exact tagB_none h⟩
        have hn2 : 34 ∉ t ++ b2 := fun hm => (List.mem_append.1 hm).elim hn (bls_34 h2)
        have e2 := spq_in (t ++ b2) [] hn2
        rw [List.append_nil] at e2
        rw [e, spq_out b1 _ (bls_34 h1) (bls_44 h1), List.cons_append, spq, if_neg (by simp), if_pos rfl, Bool.not_false, e2, spq, addH_add, addH_add]
        simp [addH]
      · have e3 := fromB_part hf
        have hn := upTo_not 34 t
        obtain ⟨m, hm⟩ : ∃ m, upTo 34 t = m := ⟨_, rfl⟩
        obtain ⟨y, hy⟩ : ∃ y, (fromB 34 t).tail = y := ⟨_, rfl⟩
        rw [hm, hy] at e3
        rw [hm] at hn
        have e4 : (34 : UInt8) :: t = tagL m ++ y := by rw [e3]; simp [tagL]
        rw [e4] at e h
        rw [cutT_of m y hn] at h
        have hi : ¬ innB m = true := fun e => by rw [if_pos e] at h; cases h
        have e5 : spq false l = addH (b1 ++ tagL m) (spq false (y ++ b2)) := by
          rw [e, spq_out b1 _ (bls_34 h1) (bls_44 h1), List.append_assoc, spq_tag m _ hn, addH_add]
        cases hs : spq false (y ++ b2) with
        | nil => exact absurd hs (spq_ne _ _)
        | cons x q =>
          rw [hs] at e5
          refine ⟨_, _, e5, ?_⟩
          rw [List.append_assoc, trim_front _ _ h1, trim_tag]
          apply tagB_none
          rw [cutT_of m _ hn, if_neg hi]
    · by_cases h44 : c = 44
      · subst h44
        refine ⟨b1, spq false (t ++ b2), ?_, by rw [trim_bls h1]; rfl⟩
        rw [e, List.cons_append, spq_comma b1 _ (bls_34 h1) (bls_44 h1)]
      · have e5 : spq false l = addH (b1 ++ [c]) (spq false (t ++ b2)) := by
          rw [e, spq_out b1 _ (bls_34 h1) (bls_44 h1), List.cons_append, spq, if_neg (by simp [h44]), if_neg hq, addH_add]
        cases hs : spq false (t ++ b2) with
        | nil => exact absurd hs (spq_ne _ _)
        | cons x q =>
          rw [hs] at e5
          refine ⟨_, _, e5, ?_⟩
          rw [List.append_assoc, trim_front _ _ h1, List.singleton_append, trim_cons _ _ hc]
          apply tagB_none
          rw [cutT, if_neg hq]

/-- Both readings are one. -/
theorem tgs_spq : ∀ (f : Nat) (l : List UInt8) (acc : List (List UInt8)), l.length < f → acc.length ≤ 5 →
    tgs f l acc = if ((spq false l).map trimL).all tagB = true ∧ acc.length + (spq false l).length ≤ 5 then some (acc ++ (spq false l).map trimL) else none := by
  intro f
  induction f with
  | zero => intro l acc h; omega
  | succ f ih =>
    intro l acc hl ha
    rw [tgs]
    cases hc : cutT (trimL l) with
    | none =>
      obtain ⟨x, q, e, hb⟩ := first_bad hc
      rw [e, if_neg (by simp [hb])]
    | some p =>
      obtain ⟨m, rest⟩ := p
      obtain ⟨e1, hn, hi⟩ := cutT_some hc
      obtain ⟨b1, b2, h1, h2, e⟩ := trim_parts l
      rw [e1] at e
      have e5 : spq false l = addH (b1 ++ tagL m) (spq false (rest ++ b2)) := by
        rw [e, spq_out b1 _ (bls_34 h1) (bls_44 h1), List.append_assoc, spq_tag m _ hn, addH_add]
      have htr : trimL (rest ++ b2) = trimL rest := trim_end _ _ h2
      have hpos : 0 < (spq false l).length := List.length_pos_iff.2 (spq_ne _ _)
      by_cases h5 : acc.length = 5
      · rw [if_neg (by omega)]; simp only [h5, if_true]
      · simp only [h5, if_false]
        by_cases hr0 : trimL rest = []
        · have hb : bls (rest ++ b2) := trim_none (by rw [htr, hr0])
          have e6 := spq_out (rest ++ b2) [] (bls_34 hb) (bls_44 hb)
          rw [List.append_nil] at e6
          rw [e6, spq] at e5
          have e7 : spq false l = [b1 ++ (tagL m ++ (rest ++ b2))] := by rw [e5]; simp [addH]
          have e8 : trimL (b1 ++ (tagL m ++ (rest ++ b2))) = tagL m := by
            rw [trim_front _ _ h1, trim_end _ _ hb]
            have := trim_tag m []
            rw [List.append_nil] at this
            rw [this]; simp [rtr]
          rw [e7, if_pos hr0, if_pos]
          · simp [e8]
          · simp [e8, tagB_one m hn hi]; omega
        · simp only [hr0, if_false]
          cases ht : trimL rest with
          | nil => exact absurd ht hr0
          | cons c r1 =>
            have hcb := trim_head ht
            obtain ⟨b3, b4, h3, h4, e9⟩ := trim_parts rest
            rw [ht] at e9
            by_cases h44 : c = 44
            · subst h44
              have e10 : rest ++ b2 = b3 ++ 44 :: (r1 ++ (b4 ++ b2)) := by rw [e9]; simp
              have e11 : spq false l = (b1 ++ (tagL m ++ b3)) :: spq false (r1 ++ (b4 ++ b2)) := by
                rw [e5, e10, spq_comma b3 _ (bls_34 h3) (bls_44 h3)]; simp [addH]
              have e12 : trimL (b1 ++ (tagL m ++ b3)) = tagL m := by
                rw [trim_front _ _ h1, trim_end _ _ h3]
                have := trim_tag m []
                rw [List.append_nil] at this
                rw [this]; simp [rtr]
              have hlen : (r1 ++ (b4 ++ b2)).length < l.length := by
                rw [e, e9]; simp [tagL]; omega
              simp only [List.head?_cons, if_true, List.tail_cons]
              rw [tgs_trim f r1 (r1 ++ (b4 ++ b2)) _ (trim_end _ _ (bls_app h4 h2)).symm, ih _ _ (by omega) (by simp; omega), e11]
              have ea : (acc ++ [tagL m]).length + (spq false (r1 ++ (b4 ++ b2))).length = acc.length + ((b1 ++ (tagL m ++ b3)) :: spq false (r1 ++ (b4 ++ b2))).length := by simp; omega
              rw [ea]
              simp only [List.map_cons, List.all_cons, e12, tagB_one m hn hi, Bool.true_and, List.append_assoc, List.singleton_append]
            · have e10 : rest ++ b2 = b3 ++ c :: (r1 ++ (b4 ++ b2)) := by rw [e9]; simp
              have : ¬ (c :: r1).head? = some 44 := by simp [h44]
              simp only [this, if_false]
              obtain ⟨b', hb'⟩ : ∃ b' : Bool, (if c = 34 then !false else false) = b' := ⟨_, rfl⟩
              have e11 : spq false (rest ++ b2) = addH (b3 ++ [c]) (spq b' (r1 ++ (b4 ++ b2))) := by
                rw [e10, spq_out b3 _ (bls_34 h3) (bls_44 h3), spq, if_neg (by simp [h44]), hb', addH_add]
              rw [e11, addH_add] at e5
              cases hs : spq b' (r1 ++ (b4 ++ b2)) with
              | nil => exact absurd hs (spq_ne _ _)
              | cons x q =>
                rw [hs] at e5
                have e12 : tagB (trimL ((b1 ++ tagL m ++ (b3 ++ [c])) ++ x)) = false := by
                  have e13 : (b1 ++ tagL m ++ (b3 ++ [c])) ++ x = b1 ++ (tagL m ++ (b3 ++ c :: x)) := by simp
                  rw [e13, trim_front _ _ h1, trim_tag]
                  exact tagB_more m _ hn (rtr_ne _ _ _ hcb)
                rw [e5, addH, if_neg]
                intro hh
                have := hh.1
                rw [List.map_cons, List.all_cons, e12] at this
                cases this
/-- What ParseTags tells, as the document has it. -/
def tagsR (l : List UInt8) : List (List UInt8) × Bool :=
  if l = [42] then ([[42]], true) else match tgs (l.length + 1) l [] with | some x => (x, true) | none => ([], false)
theorem tagsR_star : tagsR [42] = ([[42]], true) := rfl
theorem tagsR_some {l : List UInt8} {x : List (List UInt8)} (h : ¬ l = [42]) (h1 : tgs (l.length + 1) l [] = some x) : tagsR l = (x, true) := by unfold tagsR; rw [if_neg h, h1]
theorem tagsR_none {l : List UInt8} (h : ¬ l = [42]) (h1 : tgs (l.length + 1) l [] = none) : tagsR l = ([], false) := by unfold tagsR; rw [if_neg h, h1]
theorem tagsR_spec {l : List UInt8} (h : ¬ l = [42]) : tagsR l = if ((spq false l).map trimL).all tagB = true ∧ (spq false l).length ≤ 5 then ((spq false l).map trimL, true) else ([], false) := by
  have e := tgs_spq (l.length + 1) l [] (by omega) (by simp)
  rw [List.length_nil, Nat.zero_add, List.nil_append] at e
  by_cases hh : ((spq false l).map trimL).all tagB = true ∧ (spq false l).length ≤ 5
  · rw [if_pos hh] at e ⊢; exact tagsR_some h e
  · rw [if_neg hh] at e ⊢; exact tagsR_none h e
end Go.Proofs.YtmgikfeknmbpbaaGreatDoor.M
namespace Go.Proofs.YtmgikfeknmbpbaaGreatDoor.M

/-- The worth of a digit to the base 16. -/
def hexW (c : UInt8) : Nat := if isB (c.toNat : Int) 4 then c.toNat - 48 else if isB (c.toNat : Int) 5 then c.toNat - 87 else c.toNat - 55
def isHex (c : UInt8) : Bool := anyB (c.toNat : Int) [4, 5, 6]
def hexVal (l : List UInt8) : Nat := l.foldl (fun n c => n * 16 + hexW c) 0
def hexs (l : List UInt8) : Bool := allB l [4, 5, 6]

theorem hexVal_snoc (l : List UInt8) (c : UInt8) : hexVal (l ++ [c]) = hexVal l * 16 + hexW c := by
  simp [hexVal]

theorem isHex_cases {c : UInt8} (h : isHex c = true) : isB (c.toNat : Int) 4 = true ∨ (isB (c.toNat : Int) 4 = false ∧ isB (c.toNat : Int) 5 = true) ∨ (isB (c.toNat : Int) 4 = false ∧ isB (c.toNat : Int) 5 = false ∧ isB (c.toNat : Int) 6 = true) := by
  unfold isHex anyB at h
  cases h4 : isB (c.toNat : Int) 4 <;> cases h5 : isB (c.toNat : Int) 5 <;> cases h6 : isB (c.toNat : Int) 6 <;> simp_all

theorem isB5 {c : Int} (h : isB c 5 = true) : 97 ≤ c ∧ c ≤ 102 := by simp [isB] at h; omega
theorem isB6 {c : Int} (h : isB c 6 = true) : 65 ≤ c ∧ c ≤ 70 := by simp [isB] at h; omega

theorem hexW_4 {c : UInt8} (h : isB (c.toNat : Int) 4 = true) : hexW c = c.toNat - 48 := by simp [hexW, h]
theorem hexW_5 {c : UInt8} (h4 : isB (c.toNat : Int) 4 = false) (h : isB (c.toNat : Int) 5 = true) : hexW c = c.toNat - 87 := by simp [hexW, h4, h]
theorem hexW_6 {c : UInt8} (h4 : isB (c.toNat : Int) 4 = false) (h5 : isB (c.toNat : Int) 5 = false) : hexW c = c.toNat - 55 := by simp [hexW, h4, h5]

theorem hexW_lt {c : UInt8} (h : isHex c = true) : hexW c < 16 := by
  rcases isHex_cases h with h4 | ⟨h4, h5⟩ | ⟨h4, h5, h6⟩
  · have := isB4 h4; rw [hexW_4 h4]; omega
  · have := isB5 h5; rw [hexW_5 h4 h5]; omega
  · have := isB6 h6; rw [hexW_6 h4 h5]; omega

theorem hexs_get (s : ByteArray) (h : hexs s.data.toList = true) (k : Nat) (hk : k < s.size) : isHex s[k] = true := by
  have h1 := (List.all_eq_true.1 h) s[k] (by
    have e := len_list s
    have h' : k < s.data.toList.length := by omega
    exact List.getElem_mem h')
  exact h1

theorem hexs_snoc (s : ByteArray) (k : Nat) (h : k < s.size) (h0 : hexs (s.data.toList.take k) = true) (h2 : isHex s[k] = true) : hexs (s.data.toList.take (k + 1)) = true :=
  allB_snoc s [4, 5, 6] k h h0 (by rw [show anyB (s[k].toNat : Int) [4, 5, 6] = true from h2]; rfl)
theorem hexs_not (s : ByteArray) (k : Nat) (h : k < s.size) (h2 : isHex s[k] = false) : hexs s.data.toList = false :=
  allB_not s [4, 5, 6] k h (by rw [show anyB (s[k].toNat : Int) [4, 5, 6] = false from h2]; rfl)
theorem hexVal_step (s : ByteArray) (k : Nat) (h : k < s.size) : hexVal (s.data.toList.take (k + 1)) = hexVal (s.data.toList.take k) * 16 + hexW s[k] := by
  rw [take_snoc s k h, hexVal_snoc]

theorem hexVal_lt (s : ByteArray) (k : Nat) (hk : k ≤ s.size) (h : hexs (s.data.toList.take k) = true) : hexVal (s.data.toList.take k) < 16 ^ k := by
  induction k with
  | zero => simp [hexVal]
  | succ k ih =>
    have hk' : k < s.size := by omega
    have h1 : hexs (s.data.toList.take k) = true ∧ isHex s[k] = true := by
      rw [take_snoc s k hk'] at h
      simpa [hexs, allB, isHex] using h
    have := ih (by omega) h1.1
    have := hexW_lt h1.2
    rw [hexVal_step s k hk', Nat.pow_succ]
    omega

theorem pow16_le {k : Nat} (h : k ≤ 5) : 16 ^ k ≤ 1048576 := Nat.pow_le_pow_right (show 0 < 16 by decide) h

/-- What ParseHex answers. -/
def hexB (l : List UInt8) : Bool := decide (1 ≤ l.length) && (decide (l.length ≤ 4) && hexs l)
def parseHex (l : List UInt8) : Int × Bool := if hexB l then ((hexVal l : Int), true) else (0, false)
theorem parseHex_yes {s : ByteArray} (h : inB (s.size : Int) 1 4 = true) (hd : hexs s.data.toList = true) : parseHex s.data.toList = ((hexVal s.data.toList : Int), true) := by
  have e := len_list s
  have h1 : 1 ≤ s.size ∧ s.size ≤ 4 := by simp [inB] at h; omega
  apply if_pos
  simp only [hexB, hd, Bool.and_true, Bool.and_eq_true, decide_eq_true_eq]
  omega
theorem parseHex_size {s : ByteArray} (h : inB (s.size : Int) 1 4 = false) : parseHex s.data.toList = (0, false) := by
  have e := len_list s
  have h1 : ¬ (1 ≤ s.size ∧ s.size ≤ 4) := by simp [inB] at h; omega
  apply if_neg
  intro hp
  simp only [hexB, Bool.and_eq_true, decide_eq_true_eq] at hp
  omega
theorem parseHex_no {l : List UInt8} (h : hexs l = false) : parseHex l = (0, false) := by
  apply if_neg
  simp [hexB, h]

/-- The specification's digit: below 0 where it is none. -/
def hexOf (c : UInt8) : Int := if isHex c then (hexW c : Int) else -1
theorem hexOf_yes {c : UInt8} (h : isHex c = true) : hexOf c = (hexW c : Int) := if_pos h
theorem hexOf_no {c : UInt8} (h : isHex c = false) : hexOf c = -1 := if_neg (by simp [h])

end Go.Proofs.YtmgikfeknmbpbaaGreatDoor.M
namespace Go.Proofs.YtmgikfeknmbpbaaGreatDoor.M

theorem dec_small (u : Nat) (h : u < 10) : Lib.decDigits u = [UInt8.ofNat (48 + u)] := by
  rw [Lib.decDigits, dif_pos h]
theorem dec_great (u : Nat) (h : ¬ u < 10) : Lib.decDigits u = Lib.decDigits (u / 10) ++ [UInt8.ofNat (48 + u % 10)] := by
  rw [Lib.decDigits, dif_neg h]

theorem digs_append (a b : List UInt8) : digs (a ++ b) = (digs a && digs b) := by simp [digs, allB]
theorem digs_one (d : Nat) (h : d < 10) : digs [UInt8.ofNat (48 + d)] = true := by
  have e : (UInt8.ofNat (48 + d)).toNat = 48 + d := by rw [UInt8.toNat_ofNat']; omega
  have h1 : isB ((UInt8.ofNat (48 + d)).toNat : Int) 4 = true := by
    rw [e]; simp [isB]; omega
  simpa [digs, allB, anyB] using h1
theorem val_one (d : Nat) (h : d < 10) : (UInt8.ofNat (48 + d)).toNat - 48 = d := by
  rw [UInt8.toNat_ofNat']; omega

theorem head_app {a b : List UInt8} (h : a ≠ []) : (a ++ b).head? = a.head? := by
  cases a with
  | nil => exact absurd rfl h
  | cons c r => rfl

theorem dec_back (n : Nat) : ∀ u, u ≤ n → decVal (Lib.decDigits u) = u ∧ digs (Lib.decDigits u) = true ∧ 1 ≤ (Lib.decDigits u).length ∧ (0 < u → (Lib.decDigits u).head? ≠ some 48) := by
  induction n with
  | zero =>
    intro u hu
    obtain rfl : u = 0 := by omega
    rw [dec_small 0 (by decide)]
    exact ⟨by decide, by decide, by decide, fun h => absurd h (by decide)⟩
  | succ n ih =>
    intro u hu
    by_cases h : u < 10
    · rw [dec_small u h]
      refine ⟨?_, digs_one u h, by simp, ?_⟩
      · simp only [decVal, decValF, List.foldl_cons, List.foldl_nil]
        rw [val_one u h]; omega
      · intro h0 e
        have e2 : UInt8.ofNat (48 + u) = 48 := Option.some.inj e
        have := val_one u h
        rw [e2] at this
        simp at this
        omega
    · obtain ⟨h1, h2, h3, h4⟩ := ih (u / 10) (by omega)
      rw [dec_great u h]
      refine ⟨?_, ?_, ?_, ?_⟩
      · rw [decVal_snoc, h1, val_one _ (by omega)]; omega
      · rw [digs_append, h2, digs_one _ (by omega)]; rfl
      · simp
      · intro _
        have hne : Lib.decDigits (u / 10) ≠ [] := by intro e; rw [e] at h3; simp at h3
        rw [head_app hne]
        exact h4 (by omega)

theorem dec_len (k : Nat) : ∀ u, u < 10 ^ (k + 1) → (Lib.decDigits u).length ≤ k + 1 := by
  induction k with
  | zero => intro u hu; rw [dec_small u (by simpa using hu)]; simp
  | succ k ih =>
    intro u hu
    by_cases h : u < 10
    · rw [dec_small u h]; simp
    · rw [dec_great u h]
      have := ih (u / 10) (by rw [Nat.pow_succ] at hu; omega)
      simp; omega

/-- A number below 10000000 comes back of its digits. -/
theorem parse_dec (n : Nat) (most : Int) (h : n < 10000000) (hm : (n : Int) ≤ most) : parseNum (Lib.decDigits n) most = ((n : Int), true) := by
  obtain ⟨h1, h2, h3, h4⟩ := dec_back n n (Nat.le_refl _)
  have h5 := dec_len 6 n (by omega)
  rw [parseNum_yes ⟨h3, h5, h2, ?_, by rw [h1]; exact hm⟩, h1]
  rintro ⟨ha, hb⟩
  refine h4 ?_ hb
  rcases Nat.eq_zero_or_pos n with e | e
  · subst e
    rw [dec_small 0 (by decide)] at ha
    simp at ha
  · exact e

theorem snoc_of {l : List UInt8} (h : l ≠ []) : ∃ m c, l = m ++ [c] := ⟨l.dropLast, l.getLast h, (List.dropLast_concat_getLast h).symm⟩

theorem dec_of (n : Nat) : ∀ l : List UInt8, l.length = n → l ≠ [] → digs l = true → l.head? ≠ some 48 → Lib.decDigits (decVal l) = l ∧ 1 ≤ decVal l := by
  induction n with
  | zero => intro l hl hne; exact absurd (List.length_eq_zero_iff.1 hl) hne
  | succ n ih =>
    intro l hl hne hd hh
    obtain ⟨m, c, rfl⟩ := snoc_of hne
    rw [digs_append] at hd
    have hc : 48 ≤ c.toNat ∧ c.toNat ≤ 57 := (digs_cons c [] (by simp at hd; exact hd.2)).1
    have ec : UInt8.ofNat (48 + (c.toNat - 48)) = c := by
      apply UInt8.toNat_inj.1
      rw [UInt8.toNat_ofNat']; omega
    rw [decVal_snoc]
    by_cases hm : m = []
    · subst hm
      have hv : decVal [] = 0 := rfl
      have hc48 : c.toNat ≠ 48 := by
        intro e
        apply hh
        show some c = some 48
        congr 1
        exact UInt8.toNat_inj.1 e
      rw [hv, dec_small _ (by omega)]
      refine ⟨?_, by omega⟩
      rw [Nat.zero_mul, Nat.zero_add, ec]; rfl
    · have hh2 : m.head? ≠ some 48 := by
        rwa [head_app hm] at hh
      obtain ⟨h1, h2⟩ := ih m (by simp at hl; exact hl) hm (by simp at hd; exact hd.1) hh2
      rw [dec_great _ (by omega)]
      have e1 : (decVal m * 10 + (c.toNat - 48)) / 10 = decVal m := by omega
      have e2 : (decVal m * 10 + (c.toNat - 48)) % 10 = c.toNat - 48 := by omega
      rw [e1, e2, h1, ec]
      exact ⟨rfl, by omega⟩

/-- What ParseNum reads has just these digits. -/
theorem dec_parse {l : List UInt8} {most : Int} (h : parseOk l most) : Lib.decDigits (decVal l) = l := by
  obtain ⟨h1, _, hd, hz, _⟩ := h
  have hne : l ≠ [] := by intro e; rw [e] at h1; simp at h1
  by_cases hh : l.head? = some 48
  · have hlen : l.length = 1 := by
      rcases Nat.lt_or_ge 1 l.length with g | g
      · exact absurd ⟨g, hh⟩ hz
      · omega
    obtain ⟨c, rfl⟩ := List.length_eq_one_iff.1 hlen
    have : c = 48 := Option.some.inj hh
    subst this
    rw [show decVal [48] = 0 from by decide, dec_small 0 (by decide)]
    rfl
  · exact (dec_of l.length l rfl hne hd hh).1

theorem parseOk_of {l : List UInt8} {most : Int} (h : (parseNum l most).2 = true) : parseOk l most ∧ parseNum l most = ((decVal l : Int), true) := by
  cases hb : parseB l most
  · rw [parseNum_no (fun hp => by rw [(parseB_iff l most).2 hp] at hb; cases hb)] at h
    cases h
  · have hp := (parseB_iff l most).1 hb
    exact ⟨hp, parseNum_yes hp⟩

theorem hexCh_ok : ∀ d : Fin 16, isHex (hexCh d.val) = true ∧ hexW (hexCh d.val) = d.val := by decide +kernel
theorem hexs_append (a b : List UInt8) : hexs (a ++ b) = (hexs a && hexs b) := by simp [hexs, allB]
theorem hexs_one (c : UInt8) : hexs [c] = isHex c := by simp [hexs, allB, isHex]

theorem hex_back (f : Nat) : ∀ m, m < 16 ^ (f + 1) → hexVal (hexDig (f + 1) m) = m ∧ hexs (hexDig (f + 1) m) = true ∧ 1 ≤ (hexDig (f + 1) m).length := by
  induction f with
  | zero =>
    intro m hm
    have hm' : m < 16 := by simpa using hm
    have hk := hexCh_ok ⟨m, hm'⟩
    have h2 : hexW (hexCh m) = m := hk.2
    simp only [hexDig, if_pos hm']
    rw [hexs_one]
    refine ⟨?_, hk.1, by simp⟩
    simp only [hexVal, List.foldl_cons, List.foldl_nil]
    rw [h2]; omega
  | succ f ih =>
    intro m hm
    by_cases h : m < 16
    · have hk := hexCh_ok ⟨m, h⟩
      have h2 : hexW (hexCh m) = m := hk.2
      have e : hexDig (f + 1 + 1) m = [hexCh m] := by simp only [hexDig, if_pos h]
      rw [e, hexs_one]
      refine ⟨?_, hk.1, by simp⟩
      simp only [hexVal, List.foldl_cons, List.foldl_nil]
      rw [h2]; omega
    · have e : hexDig (f + 1 + 1) m = hexDig (f + 1) (m / 16) ++ [hexCh (m % 16)] := by
        rw [hexDig, if_neg h]
      obtain ⟨h1, h2, h3⟩ := ih (m / 16) (by rw [Nat.pow_succ] at hm; omega)
      have := hexCh_ok ⟨m % 16, by omega⟩
      rw [e, hexVal_snoc, hexs_append, h1, h2, hexs_one, this.1, this.2]
      refine ⟨?_, rfl, by simp⟩
      show m / 16 * 16 + m % 16 = m
      omega

theorem hex_len (k : Nat) : ∀ f m, m < 16 ^ (k + 1) → (hexDig f m).length ≤ k + 1 := by
  induction k with
  | zero =>
    intro f m hm
    have hm' : m < 16 := by simpa using hm
    cases f with
    | zero => simp [hexDig]
    | succ f => simp only [hexDig, if_pos hm']; simp
  | succ k ih =>
    intro f m hm
    cases f with
    | zero => simp [hexDig]
    | succ f =>
      by_cases h : m < 16
      · simp only [hexDig, if_pos h]; simp
      · have e : hexDig (f + 1) m = hexDig f (m / 16) ++ [hexCh (m % 16)] := by rw [hexDig, if_neg h]
        have := ih f (m / 16) (by rw [Nat.pow_succ] at hm; omega)
        rw [e]
        simp; omega

/-- A number below 65536 comes back of its digits to the base 16. -/
theorem parse_hex (n : Nat) (h : n < 65536) : parseHex (hexDigits n) = ((n : Int), true) := by
  obtain ⟨h1, h2, h3⟩ := hex_back 15 n (by omega)
  have h4 := hex_len 3 16 n (by omega)
  have hb : hexB (hexDigits n) = true := by
    simp only [hexB, Bool.and_eq_true, decide_eq_true_eq]
    exact ⟨h3, h4, h2⟩
  show (if hexB (hexDigits n) then _ else _) = _
  rw [if_pos hb]
  show ((hexVal (hexDig 16 n) : Int), true) = _
  rw [h1]

theorem dropWhile_not (p : UInt8 → Bool) (l : List UInt8) (c : UInt8) (r : List UInt8) (h : l.dropWhile p = c :: r) : p c = false := by
  induction l with
  | nil => simp at h
  | cons a t ih =>
    rw [List.dropWhile_cons] at h
    cases e : p a
    · rw [e] at h
      simp at h
      rw [← h.1]; exact e
    · rw [e] at h
      exact ih h
theorem dropWhile_suffix (p : UInt8 → Bool) (l : List UInt8) : ∃ t, l = t ++ l.dropWhile p := ⟨l.takeWhile p, (List.takeWhile_append_dropWhile).symm⟩

theorem dropWhile_len (p : UInt8 → Bool) (l : List UInt8) : (l.dropWhile p).length ≤ l.length := by
  obtain ⟨t, ht⟩ := dropWhile_suffix p l
  have := congrArg List.length ht
  rw [List.length_append] at this
  omega
theorem trim_len (l : List UInt8) : (trimL l).length ≤ l.length := by
  unfold trimL
  rw [List.length_reverse]
  refine Nat.le_trans (dropWhile_len _ _) ?_
  rw [List.length_reverse]
  exact dropWhile_len _ _

theorem trim_idem (l : List UInt8) : trimL (trimL l) = trimL l := by
  by_cases e : trimL l = []
  · rw [e]; rfl
  · have h0 : 0 < (trimL l).length := List.length_pos_iff.2 e
    -- the last one is no blank
    have hlast : bl ((trimL l)[(trimL l).length - 1]) = false := by
      obtain ⟨m, c, hm⟩ := snoc_of e
      have h1 : (l.dropWhile bl).reverse.dropWhile bl = c :: m.reverse := by
        have h2 : (trimL l).reverse = (l.dropWhile bl).reverse.dropWhile bl := by unfold trimL; rw [List.reverse_reverse]
        rw [← h2, hm]; simp
      have h3 := dropWhile_not bl _ _ _ h1
      have h4 : (trimL l)[(trimL l).length - 1] = c := by
        have : ∀ (x : List UInt8) (hx : x = m ++ [c]) (hl : x.length - 1 < x.length), x[x.length - 1] = c := by
          intro x hx hl
          subst hx
          simp
        exact this _ hm _
      rw [h4]; exact h3
    -- the first one is no blank
    have hfirst : bl ((trimL l)[0]) = false := by
      obtain ⟨t, ht⟩ := dropWhile_suffix bl (l.dropWhile bl).reverse
      have h1 : l.dropWhile bl = trimL l ++ t.reverse := by
        have := congrArg List.reverse ht
        rw [List.reverse_reverse, List.reverse_append] at this
        exact this
      have h2 : ∀ (x : List UInt8) (hx : x = trimL l) (hl : 0 < x.length), bl x[0] = false := by
        intro x hx hl
        cases x with
        | nil => simp at hl
        | cons c r =>
          rw [← hx] at h1
          exact dropWhile_not bl l c (r ++ t.reverse) h1
      exact h2 _ rfl h0
    exact trimL_done _ h0 hfirst hlast
theorem low_idem (l : List UInt8) : lowL (lowL l) = lowL l := by
  simp only [lowL, List.map_map]
  apply List.map_congr_left
  intro c _
  show lowB (lowB c) = lowB c
  cases h : isB (c.toNat : Int) 3
  · rw [lowB_no c h, lowB_no c h]
  · apply lowB_no
    have h1 := lowB_yes c h
    have h2 := isB3 h
    have e : ((lowB c).toNat : Int) = (c.toNat : Int) + 32 := by rw [h1]; simp
    rw [e]
    simp [isB]; omega

end Go.Proofs.YtmgikfeknmbpbaaGreatDoor.M
namespace Go.Proofs.YtmgikfeknmbpbaaGreatDoor
open Go.RowKit M
set_option linter.unusedVariables false

/-- The mark of a number. -/
def verL (n : Int) : List UInt8 := 118 :: Lib.decDigits n.toNat
theorem verL_cat (n : Int) : (⟨#[34, 118]⟩ : ByteArray) ++ ⟨(Lib.decDigits n.toNat).toArray⟩ ++ ⟨#[34]⟩ = bytesOf (tagL (verL n)) := by
  apply ByteArray.ext
  simp [bytesOf, tagL, verL]

theorem specTagText_any (n : Int) (w : World) (hn : n ≤ 9223372036854775807) :
    Calls Tryz.prog 44 #[.int .i64 n] w fun e w' => e = .returned (.string (bytesOf (tagL (verL n)))) ∧ Below w.heap.size w w' := by
  have HN := hide (specNumText_any n w hn)
  have HR := hide (verL_cat n)
  obtain ⟨d, hd⟩ : ∃ d : ByteArray, (⟨(Lib.decDigits n.toNat).toArray⟩ : ByteArray) = d := ⟨_, rfl⟩
  have hds : d.size ≤ 100 := by
    rw [← hd]
    show (bytesOf (Lib.decDigits n.toNat)).size ≤ 100
    rw [bytesOf_size]
    have := dec_len 18 n.toNat (by omega)
    omega
  rw [hd] at HN HR
  clear hd
  go_enter Tryz.func44, Tryz.ntmps44
  go_wp2_with fail
  refine HN.out.mono ?_
  rintro e w1 ⟨rfl, b1⟩
  go_wp2
  go_ret
  rw [HR.out]
  exact ⟨rfl, b1⟩
end Go.Proofs.YtmgikfeknmbpbaaGreatDoor
namespace Go.Proofs.YtmgikfeknmbpbaaGreatDoor
open Go.RowKit M
set_option linter.unusedVariables false

def dg (m : Nat) : UInt8 := UInt8.ofNat (48 + m % 10)
/-- The digits of a number, the last behind. -/
def mtL (n : Nat) : List UInt8 := if h : n = 0 then [] else mtL (n / 10) ++ [dg n]
termination_by n
decreasing_by omega
/-- The mark of a number. -/
def mt (n : Nat) : ByteArray := bytesOf (109 :: mtL n)

theorem mtL_zero : mtL 0 = [] := by rw [mtL]; simp
theorem mtL_step (n : Nat) (h : 0 < n) : mtL n = mtL (n / 10) ++ [dg n] := by rw [mtL, dif_neg (by omega)]
end Go.Proofs.YtmgikfeknmbpbaaGreatDoor
namespace Go.Proofs.YtmgikfeknmbpbaaGreatDoor
open Go.RowKit M
set_option linter.unusedVariables false

/-- A leaf: a cell's value, or a slice: of each element its leafs. -/
inductive Lf where
  | c (v : Value)
  | l (rows : List (List Lf))

/-- What an int or a byte is marked with. -/
def mkI (kd : IntKind) (k : Nat) : Int := match kd with
  | .u8 => ((k % 256 : Nat) : Int)
  | _ => (k : Int)
def mkV (k : Nat) : Value → Value
  | .int kd _ => .int kd (mkI kd k)
  | .bool _ => .bool ((k : Int) % 3 == 0)
  | .string _ => .string (mt k)
  | v => v
def szV : Value → Nat
  | .string s => s.size
  | _ => 0
def okV : Value → Prop
  | .string s => s.size ≤ maxLen
  | .int k n => (Lit.int k n).wf = true
  | _ => True

mutual
/-- How many marks it takes. -/
def cntF : Lf → Nat
  | .c _ => 1
  | .l rows => cntRs rows
def cntRs : List (List Lf) → Nat
  | [] => 0
  | r :: rs => cntR r + cntRs rs
def cntR : List Lf → Nat
  | [] => 0
  | x :: r => cntF x + cntR r
end
mutual
/-- Its size, as the laws count it. -/
def szF : Lf → Nat
  | .c v => szV v
  | .l rows => szRs rows
def szRs : List (List Lf) → Nat
  | [] => 0
  | r :: rs => 1 + szR r + szRs rs
def szR : List Lf → Nat
  | [] => 0
  | x :: r => szF x + szR r
end
mutual
/-- Its texts are short enough, and no element has more than twelve leafs. -/
def okF : Lf → Prop
  | .c v => okV v
  | .l rows => okRs rows ∧ rows.length ≤ maxLen
def okRs : List (List Lf) → Prop
  | [] => True
  | r :: rs => (okR r ∧ r.length ≤ 12) ∧ okRs rs
def okR : List Lf → Prop
  | [] => True
  | x :: r => okF x ∧ okR r
end
mutual
/-- Marked, from k on. -/
def mkF (k : Nat) : Lf → Lf
  | .c v => .c (mkV k v)
  | .l rows => .l (mkRs k rows)
def mkRs (k : Nat) : List (List Lf) → List (List Lf)
  | [] => []
  | r :: rs => mkR k r :: mkRs (k + cntR r) rs
def mkR (k : Nat) : List Lf → List Lf
  | [] => []
  | x :: r => mkF k x :: mkR (k + cntF x) r
end

mutual
theorem cnt_leF : ∀ x : Lf, okF x → cntF x ≤ 1 + 12 * szF x
  | .c v, _ => by unfold cntF; omega
  | .l rows, h => by
    unfold okF at h
    unfold cntF szF
    have := cnt_leRs rows h.1
    omega
theorem cnt_leRs : ∀ rows : List (List Lf), okRs rows → cntRs rows ≤ 12 * szRs rows
  | [], _ => by unfold cntRs; omega
  | r :: rs, h => by
    unfold okRs at h
    unfold cntRs szRs
    have h1 := cnt_leR r h.1.1
    have h2 := cnt_leRs rs h.2
    have h3 := h.1.2
    omega
theorem cnt_leR : ∀ r : List Lf, okR r → cntR r ≤ r.length + 12 * szR r
  | [], _ => by unfold cntR; omega
  | x :: r, h => by
    unfold okR at h
    unfold cntR szR
    have h1 := cnt_leF x h.1
    have h2 := cnt_leR r h.2
    rw [List.length_cons]
    omega
end

theorem cntRs_cons (r : List Lf) (rs : List (List Lf)) : cntRs (r :: rs) = cntR r + cntRs rs := by rw [cntRs]
theorem szRs_cons (r : List Lf) (rs : List (List Lf)) : szRs (r :: rs) = 1 + szR r + szRs rs := by rw [szRs]
theorem cntRs_append (a b : List (List Lf)) : cntRs (a ++ b) = cntRs a + cntRs b := by
  induction a with
  | nil => show cntRs b = cntRs [] + cntRs b; rw [cntRs]; omega
  | cons r a ih => rw [List.cons_append, cntRs_cons, cntRs_cons, ih]; omega
theorem szRs_append (a b : List (List Lf)) : szRs (a ++ b) = szRs a + szRs b := by
  induction a with
  | nil => show szRs b = szRs [] + szRs b; rw [szRs]; omega
  | cons r a ih => rw [List.cons_append, szRs_cons, szRs_cons, ih]; omega
theorem cntRs_one (r : List Lf) : cntRs [r] = cntR r := by rw [cntRs_cons, cntRs]; omega
theorem szRs_one (r : List Lf) : szRs [r] = 1 + szR r := by rw [szRs_cons, szRs]; omega
theorem mkRs_length (k : Nat) (rows : List (List Lf)) : (mkRs k rows).length = rows.length := by
  induction rows generalizing k with
  | nil => rw [mkRs]
  | cons r rs ih => rw [mkRs, List.length_cons, List.length_cons, ih]
theorem mkR_length (k : Nat) (r : List Lf) : (mkR k r).length = r.length := by
  induction r generalizing k with
  | nil => rw [mkR]
  | cons x r ih => rw [mkR, List.length_cons, List.length_cons, ih]
theorem szRs_mem (rows : List (List Lf)) (r : List Lf) (h : r ∈ rows) : szR r ≤ szRs rows := by
  induction rows with
  | nil => cases h
  | cons x l ih =>
    rw [szRs_cons]
    rcases List.mem_cons.1 h with rfl | h
    · omega
    · have := ih h; omega
theorem szRs_len (rows : List (List Lf)) : rows.length ≤ szRs rows := by
  induction rows with
  | nil => exact Nat.zero_le _
  | cons x l ih => rw [szRs_cons, List.length_cons]; omega
theorem okRs_mem (rows : List (List Lf)) (h : okRs rows) (r : List Lf) (hr : r ∈ rows) : okR r ∧ r.length ≤ 12 := by
  induction rows with
  | nil => cases hr
  | cons x l ih =>
    unfold okRs at h
    rcases List.mem_cons.1 hr with rfl | hr
    · exact h.1
    · exact ih h.2 hr
theorem okRs_of (rows : List (List Lf)) (h : ∀ r ∈ rows, okR r ∧ r.length ≤ 12) : okRs rows := by
  induction rows with
  | nil => unfold okRs; trivial
  | cons x l ih => unfold okRs; exact ⟨h x (List.mem_cons_self ..), ih fun r hr => h r (List.mem_cons_of_mem _ hr)⟩

section typed
variable {α : Type} (f : α → List Lf)
/-- Where the marks of element j begin. -/
def kAtF (k0 : Nat) (l : List α) (j : Nat) : Nat := k0 + cntRs ((l.take j).map f)
theorem kAtF_zero (k0 : Nat) (l : List α) : kAtF f k0 l 0 = k0 := by simp [kAtF, cntRs]
theorem kAtF_all (k0 : Nat) (l : List α) : kAtF f k0 l l.length = k0 + cntRs (l.map f) := by simp [kAtF]
theorem kAtF_next (k0 : Nat) (l : List α) (j : Nat) (hj : j < l.length) : kAtF f k0 l (j + 1) = kAtF f k0 l j + cntR (f l[j]) := by
  unfold kAtF
  rw [List.take_succ_eq_append_getElem hj, List.map_append, cntRs_append, List.map_cons, List.map_nil, cntRs_one]
  omega
theorem kAtF_le (k0 : Nat) (l : List α) (j : Nat) : k0 ≤ kAtF f k0 l j ∧ kAtF f k0 l j ≤ k0 + cntRs (l.map f) := by
  unfold kAtF
  have h : cntRs ((l.take j).map f) + cntRs ((l.drop j).map f) = cntRs (l.map f) := by
    rw [← cntRs_append, ← List.map_append, List.take_append_drop]
  omega
theorem szAtF_next (l : List α) (j : Nat) (hj : j < l.length) : szRs ((l.take (j + 1)).map f) = szRs ((l.take j).map f) + 1 + szR (f l[j]) := by
  rw [List.take_succ_eq_append_getElem hj, List.map_append, szRs_append, List.map_cons, List.map_nil, szRs_one]
  omega
theorem mkRs_at (k0 : Nat) (l : List α) (j : Nat) (hj : j < l.length) : (mkRs k0 (l.map f))[j]? = some (mkR (kAtF f k0 l j) (f l[j])) := by
  induction l generalizing k0 j with
  | nil => cases hj
  | cons x l ih =>
    rw [List.map_cons, mkRs]
    cases j with
    | zero => rw [kAtF_zero]; rfl
    | succ j =>
      rw [List.getElem?_cons_succ, ih (k0 + cntR (f x)) j (by simpa using hj)]
      have e : kAtF f (k0 + cntR (f x)) l j = kAtF f k0 (x :: l) (j + 1) := by
        unfold kAtF
        rw [List.take_succ_cons, List.map_cons, cntRs_cons]
        omega
      rw [e]
      rfl
theorem map_at (l : List α) (j : Nat) (hj : j < l.length) : (l.map f)[j]? = some (f l[j]) := by
  rw [List.getElem?_map, List.getElem?_eq_getElem hj]
  rfl
end typed
end Go.Proofs.YtmgikfeknmbpbaaGreatDoor
namespace Go.Proofs.YtmgikfeknmbpbaaGreatDoor
open Go.RowKit
set_option linter.unusedVariables false

/-- No block that was there is turned, but those of S. -/
structure Turn (S : Nat → Prop) (w w' : World) : Prop where
  os : w'.os = w.os
  tape : w'.tape = w.tape
  output : w'.output = w.output
  size : w.heap.size ≤ w'.heap.size
  block : ∀ i, i < w.heap.size → ¬ S i → w'.heap[i]? = w.heap[i]?
theorem Turn.refl (S : Nat → Prop) (w : World) : Turn S w w := ⟨rfl, rfl, rfl, Nat.le_refl _, fun _ _ _ => rfl⟩
theorem Turn.trans {S : Nat → Prop} {a b c : World} (h : Turn S a b) (k : Turn S b c) : Turn S a c :=
  ⟨k.os.trans h.os, k.tape.trans h.tape, k.output.trans h.output, Nat.le_trans h.size k.size, fun i hi hS => (k.block i (Nat.lt_of_lt_of_le hi h.size) hS).trans (h.block i hi hS)⟩
theorem Turn.wide {S T : Nat → Prop} {a b : World} (h : Turn S a b) (hT : ∀ x, S x → T x) : Turn T a b := ⟨h.os, h.tape, h.output, h.size, fun i hi hS => h.block i hi (fun e => hS (hT i e))⟩
theorem Turn.of_below {S : Nat → Prop} {a b : World} (h : Below a.heap.size a b) : Turn S a b := ⟨h.os, h.tape, h.output, h.size, fun i hi _ => h.block i hi⟩
theorem Turn.set {S : Nat → Prop} (w : World) (p : Addr) (v : Value) (h : S p.block) : Turn S w (w.setCell p v) := ⟨rfl, rfl, rfl, by simp, fun i _ hS => Below.heap_setCell w p v i (fun e => hS (by rw [e]; exact h))⟩
theorem Turn.below {S : Nat → Prop} {a b : World} {C : Nat} (h : Turn S a b) (hC : ∀ x, S x → C ≤ x) (hz : C ≤ a.heap.size) : Below C a b := ⟨h.os, h.tape, h.output, h.size, fun i hi => h.block i (by omega) (fun e => by have := hC i e; omega)⟩
theorem Turn.cell {S : Nat → Prop} {a b : World} (h : Turn S a b) {i : Nat} (hi : i < a.heap.size) (hS : ¬ S i) (o : Nat) : b.cell? ⟨i, o, none⟩ = a.cell? ⟨i, o, none⟩ := by
  have := h.block i hi hS
  simp only [World.cell?, this]
theorem Turn.frozen {S : Nat → Prop} {a b : World} (h : Turn S a b) {i : Nat} (hi : i < a.heap.size) (hS : ¬ S i) (o : Nat) : b.frozen? ⟨i, o, none⟩ = a.frozen? ⟨i, o, none⟩ := by
  have := h.block i hi hS
  simp only [World.frozen?, this]
end Go.Proofs.YtmgikfeknmbpbaaGreatDoor
