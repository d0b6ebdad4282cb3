/-
  Plain facts on quoted texts: no program in sight.
  Plain facts on the bytes of a request: no program in sight.
  Plain facts on where a head ends: no program in sight.
  Plain facts on numbers' digits: no program in sight.
  Plain facts on numbers read of their digits: no program in sight.
  Plain facts on numbers read of their digits to the base 16: no program in sight.
-/
import Derived.Test.YtnoijfnpchihoaaGreatDoorMathSmall
import Derived.Test.YtnoijfnpchihoaaGreatDoorMathReq
import Derived.Lib.ItoaNum
import Derived.Lib.Index
import Derived.Lib.IndexMore
import Derived.Lib.Atoi
namespace Go.Proofs.YtnoijfnpchihoaaGreatDoor.M

/-- These bytes, as a text. -/
def bytesOf (l : List UInt8) : ByteArray := ⟨l.toArray⟩
theorem bytesOf_append (l m : List UInt8) : bytesOf l ++ bytesOf m = bytesOf (l ++ m) := by
  apply ByteArray.ext
  simp [bytesOf]

theorem bytesOf_size (l : List UInt8) : (bytesOf l).size = l.length := by
  show l.toArray.size = l.length
  simp

/-- A digit of sixteen, a large one. -/
def digL (n : Nat) : UInt8 := if n < 10 then UInt8.ofNat (48 + n) else UInt8.ofNat (55 + n)
theorem digL_lo (n : Nat) (h : n < 10) : (digL n).toNat = 48 + n := by
  unfold digL; rw [if_pos h]; simp; omega
theorem digL_hi (n : Nat) (h : ¬ n < 10) (h' : n < 16) : (digL n).toNat = 55 + n := by
  unfold digL; rw [if_neg h]; simp; omega

/-- Whether a byte stays as it is in a quoted text. -/
def freeB (c : Int) : Bool := ((((((isB c 2 || isB c 3) || isB c 4) || c == 45) || c == 46) || c == 95) || c == 126)
def quoteB (c : UInt8) : List UInt8 := if freeB (c.toNat : Int) then [c] else [37, digL (c.toNat / 16), digL (c.toNat % 16)]
def quoteL (l : List UInt8) : List UInt8 := l.flatMap quoteB

theorem quoteB_yes {c : UInt8} (h : freeB (c.toNat : Int) = true) : quoteB c = [c] := by unfold quoteB; rw [if_pos h]
theorem quoteB_no {c : UInt8} (h : freeB (c.toNat : Int) = false) : quoteB c = [37, digL (c.toNat / 16), digL (c.toNat % 16)] := by unfold quoteB; rw [if_neg (by simp [h])]

theorem quoteL_snoc (s : ByteArray) (k : Nat) (h : k < s.size) : quoteL (s.data.toList.take (k + 1)) = quoteL (s.data.toList.take k) ++ quoteB s[k] := by
  rw [take_snoc s k h]; simp [quoteL]

theorem quoteB_length (c : UInt8) : (quoteB c).length ≤ 3 := by unfold quoteB; split <;> simp
theorem quoteL_le (l : List UInt8) : (quoteL l).length ≤ 3 * l.length := by
  induction l with
  | nil => simp [quoteL]
  | cons c l ih =>
    have := quoteB_length c
    simp only [quoteL, List.flatMap_cons, List.length_append, List.length_cons] at *
    omega

theorem hex_at (n : Nat) (h : n < 16) : (⟨#[48, 49, 50, 51, 52, 53, 54, 55, 56, 57, 65, 66, 67, 68, 69, 70]⟩ : ByteArray)[n]'(by show n < 16; exact h) = digL n := by
  have key : ∀ i : Fin 16, (⟨#[48, 49, 50, 51, 52, 53, 54, 55, 56, 57, 65, 66, 67, 68, 69, 70]⟩ : ByteArray)[i.val]'(by show i.val < 16; exact i.isLt) = digL i.val := by decide
  exact key ⟨n, h⟩

end Go.Proofs.YtnoijfnpchihoaaGreatDoor.M
namespace Go.Proofs.YtnoijfnpchihoaaGreatDoor.M

def crlf : List UInt8 := [13, 10]
def proto : List UInt8 := [72, 84, 84, 80, 47, 49, 46, 49]
def lenTag : List UInt8 := [99, 111, 110, 116, 101, 110, 116, 45, 108, 101, 110, 103, 116, 104, 58, 32]
/-- The line of a head, and of all heads. -/
def hdTxt (h : Hd) : List UInt8 := h.1.data.toList ++ ([58, 32] ++ (h.2.data.toList ++ crlf))
def hdsTxt (hs : List Hd) : List UInt8 := hs.flatMap hdTxt
/-- The first line. -/
def topTxt (r : Rq) : List UInt8 := r.m.data.toList ++ ([32] ++ (r.p.data.toList ++ ([32] ++ (proto ++ crlf))))
/-- What stands ahead of the body, with this line on it. -/
def frontL (r : Rq) (line : List UInt8) : List UInt8 := topTxt r ++ (hdsTxt r.hs ++ (line ++ crlf))
def lenLine (n : Nat) : List UInt8 := lenTag ++ (Lib.decDigits n ++ crlf)
def bodyLine (b : ByteArray) : List UInt8 := if b.size = 0 then [] else lenLine b.size
def put0 (r : Rq) (line body : List UInt8) : List UInt8 := if reqB r = true ∧ (frontL r line).length ≤ 400 then frontL r line ++ body else []
/-- The bytes of a request. -/
def putL (r : Rq) : List UInt8 := put0 r (bodyLine r.b) r.b.data.toList

theorem hdsTxt_snoc (hs : List Hd) (k : Nat) (h : k < hs.length) : hdsTxt (hs.take (k + 1)) = hdsTxt (hs.take k) ++ hdTxt hs[k] := by
  unfold hdsTxt
  rw [List.take_succ_eq_append_getElem h, List.flatMap_append]
  simp only [List.flatMap_cons, List.flatMap_nil, List.append_nil]

theorem hdTxt_len (h : Hd) : (hdTxt h).length = szH h + 4 := by
  have e1 : h.1.data.toList.length = h.1.size := Array.length_toList
  have e2 : h.2.data.toList.length = h.2.size := Array.length_toList
  simp only [hdTxt, crlf, szH, List.length_append, List.length_cons, List.length_nil]
  omega
theorem hdsTxt_len (hs : List Hd) : (hdsTxt hs).length = sumH hs + 4 * hs.length := by
  induction hs with
  | nil => rfl
  | cons h r ih =>
    have := hdTxt_len h
    simp only [hdsTxt, sumH, List.flatMap_cons, List.length_append, List.map_cons, List.sum_cons, List.length_cons] at *
    omega

theorem sumH_take (hs : List Hd) (k : Nat) : sumH (hs.take k) ≤ sumH hs := by
  have e : sumH hs = sumH (hs.take k) + sumH (hs.drop k) := by
    unfold sumH
    rw [← List.sum_append, ← List.map_append, List.take_append_drop]
  omega

theorem bytes_app (a b : ByteArray) : a ++ b = bytesOf (a.data.toList ++ b.data.toList) := by
  apply ByteArray.ext
  simp [bytesOf]
theorem bytesOf_list (l : List UInt8) : (bytesOf l).data.toList = l := rfl
end Go.Proofs.YtnoijfnpchihoaaGreatDoor.M
namespace Go.Proofs.YtnoijfnpchihoaaGreatDoor.M

/-- Two line's ends. -/
def two4 : List UInt8 := [13, 10, 13, 10]
/-- The place behind the first two line's ends, one behind the other, among the first 400 bytes. -/
def heL (l : List UInt8) : Int := if 0 ≤ Lib.index (l.take 400) two4 then Lib.index (l.take 400) two4 + 4 else -1

theorem prefix_take (p m : List UInt8) : p.isPrefixOf m = decide (m.take p.length = p) := by
  rw [Bool.eq_iff_iff]
  simp only [List.isPrefixOf_iff_prefix, decide_eq_true_eq, List.prefix_iff_eq_take]
  exact eq_comm

theorem occ_at (l : List UInt8) (k : Nat) (h4 : k + 4 ≤ 400) : Lib.occAt (l.take 400) two4 k = decide ((l.drop k).take 4 = two4) := by
  unfold Lib.occAt
  rw [prefix_take]
  have e : ((l.take 400).drop k).take two4.length = (l.drop k).take 4 := by
    rw [List.drop_take, List.take_take]
    congr 1
    show min 4 (400 - k) = 4
    omega
  rw [e]

theorem occ_past (l : List UInt8) (k : Nat) (h : l.length < k + 4 ∨ 400 < k + 4) : Lib.occAt (l.take 400) two4 k = false := by
  unfold Lib.occAt
  rw [prefix_take, decide_eq_false_iff_not]
  intro e
  have := congrArg List.length e
  simp only [List.length_take, List.length_drop] at this
  have h4 : two4.length = 4 := rfl
  omega

theorem heL_at {l : List UInt8} {k : Nat} (h : k + 4 ≤ l.length) (h4 : k + 4 ≤ 400) (h0 : ∀ j, j < k → Lib.occAt (l.take 400) two4 j = false) (h1 : (l.drop k).take 4 = two4) : heL l = k + 4 := by
  have hi : Lib.index (l.take 400) two4 = k := Lib.index_first (by rw [List.length_take]; omega) (by rw [occ_at l k h4]; simp [h1]) h0
  unfold heL
  rw [hi, if_pos (by omega)]

theorem heL_none {l : List UInt8} {k : Nat} (h : ¬ (k + 3 < l.length ∧ k + 3 < 400)) (h0 : ∀ j, j < k → Lib.occAt (l.take 400) two4 j = false) : heL l = -1 := by
  have hi : Lib.index (l.take 400) two4 = -1 := Lib.index_none fun j _ => by
    by_cases e : j < k
    · exact h0 j e
    · exact occ_past l j (by omega)
  unfold heL
  rw [hi, if_neg (by omega)]

theorem two4_str (m : List UInt8) : ((⟨m.toArray⟩ : ByteArray).toList == [13, 10, 13, 10]) = decide (m = two4) := by
  rw [ByteArray.toList_eq]
  show (m.toArray.toList == two4) = _
  by_cases h : m = two4 <;> simp [h]

theorem two4_beq (m : List UInt8) : (m == [13, 10, 13, 10]) = decide (m = two4) := by
  show (m == two4) = _
  by_cases h : m = two4 <;> simp [h]

theorem heL_bd (l : List UInt8) : -1 ≤ heL l ∧ heL l ≤ 400 ∧ heL l ≤ l.length ∧ (heL l = -1 ∨ 4 ≤ heL l) := by
  unfold heL
  by_cases h : 0 ≤ Lib.index (l.take 400) two4
  · rw [if_pos h]
    obtain ⟨k, hk⟩ : ∃ k : Nat, Lib.index (l.take 400) two4 = k := ⟨_, (Int.toNat_of_nonneg h).symm⟩
    have hr := Lib.index_room (l.take 400) two4 h
    have h4 : two4.length = 4 := rfl
    have hle : k + 4 ≤ (l.take 400).length := by rw [hk, h4] at hr; omega
    rw [List.length_take] at hle
    rw [hk]
    omega
  · rw [if_neg h]
    omega
end Go.Proofs.YtnoijfnpchihoaaGreatDoor.M
namespace Go.Proofs.YtnoijfnpchihoaaGreatDoor.M

/-- The digits ahead of the last one. -/
def decAhead (m : Nat) : List UInt8 := if m < 10 then [] else Lib.decDigits (m / 10)
def decLow (m : Nat) : UInt8 := UInt8.ofNat (48 + m % 10)

theorem decDigits_ahead (m : Nat) : Lib.decDigits m = decAhead m ++ [decLow m] := by
  rw [Lib.decDigits]
  unfold decAhead decLow
  by_cases h : m < 10
  · rw [dif_pos h, if_pos h, Nat.mod_eq_of_lt h]; rfl
  · rw [dif_neg h, if_neg h]

theorem decAhead_step (m : Nat) (h : 9 < m) : decAhead m = decAhead (m / 10) ++ [decLow (m / 10)] := by
  rw [← decDigits_ahead]
  unfold decAhead
  rw [if_neg (by omega)]

theorem decAhead_end (m : Nat) (h : ¬ 9 < m) : decAhead m = [] := by
  unfold decAhead
  rw [if_pos (by omega)]

theorem decLow_toNat (m : Nat) : (decLow m).toNat = 48 + m % 10 := by
  unfold decLow
  rw [UInt8.toNat_ofNat']
  omega

/-- A digit to the base 16. -/
def hexCh (d : Nat) : UInt8 := if d < 10 then UInt8.ofNat (48 + d) else UInt8.ofNat (87 + d)
/-- The digits to the base 16, f of them at most. -/
def hexDig : Nat → Nat → List UInt8
  | 0, _ => []
  | f + 1, m => if m < 16 then [hexCh m] else hexDig f (m / 16) ++ [hexCh (m % 16)]
def hexDigits (m : Nat) : List UInt8 := hexDig 16 m
/-- The digits ahead of the last one. -/
def hexAhead (f m : Nat) : List UInt8 := if m < 16 then [] else hexDig f (m / 16)

theorem hexDig_ahead (f m : Nat) : hexDig (f + 1) m = hexAhead f m ++ [hexCh (m % 16)] := by
  unfold hexAhead
  simp only [hexDig]
  by_cases h : m < 16
  · rw [if_pos h, if_pos h, Nat.mod_eq_of_lt h]; rfl
  · rw [if_neg h, if_neg h]

theorem hexAhead_step (f m : Nat) (h : 15 < m) : hexAhead (f + 1) m = hexAhead f (m / 16) ++ [hexCh (m / 16 % 16)] := by
  rw [← hexDig_ahead]
  unfold hexAhead
  rw [if_neg (by omega)]

theorem hexAhead_end (f m : Nat) (h : ¬ 15 < m) : hexAhead f m = [] := by
  unfold hexAhead
  rw [if_pos (by omega)]

theorem hexCh_toNat (d : Nat) (h : d < 16) : (hexCh d).toNat = if d < 10 then 48 + d else 87 + d := by
  unfold hexCh
  split
  · rw [UInt8.toNat_ofNat']; omega
  · rw [UInt8.toNat_ofNat']; omega

end Go.Proofs.YtnoijfnpchihoaaGreatDoor.M
namespace Go.Proofs.YtnoijfnpchihoaaGreatDoor.M

/-- The worth of decimal digits, the first one the greatest, behind a number. -/
def decValF (n : Nat) (l : List UInt8) : Nat := l.foldl (fun n c => n * 10 + (c.toNat - 48)) n
def decVal (l : List UInt8) : Nat := decValF 0 l

theorem decVal_snoc (l : List UInt8) (c : UInt8) : decVal (l ++ [c]) = decVal l * 10 + (c.toNat - 48) := by
  simp [decVal, decValF]

def digs (l : List UInt8) : Bool := allB l [4]

theorem digs_cons (c : UInt8) (r : List UInt8) : digs (c :: r) = true → (48 ≤ c.toNat ∧ c.toNat ≤ 57) ∧ digs r = true := by
  intro h
  have h1 : isB (c.toNat : Int) 4 = true ∧ digs r = true := by simpa [digs, allB, anyB] using h
  refine ⟨?_, h1.2⟩
  have := h1.1; simp [isB] at this; omega

theorem decFrom_val (l : List UInt8) : ∀ n, digs l = true → Lib.decFrom n l = some (decValF n l) := by
  induction l with
  | nil => intro n _; rfl
  | cons c r ih =>
    intro n h
    obtain ⟨h1, h2⟩ := digs_cons c r h
    have hd : Lib.digitVal c = some (c.toNat - 48) := by unfold Lib.digitVal; rw [if_pos h1]
    simp only [Lib.decFrom, hd]
    exact ih _ h2

theorem atoi_val (l : List UInt8) (h : digs l = true) (h0 : 1 ≤ l.length) : Lib.atoi l = some (decVal l : Int) := by
  match l, h, h0 with
  | c :: r, h, _ =>
    obtain ⟨h1, _⟩ := digs_cons c r h
    have e45 : (c == 45) = false := by
      rw [beq_eq_false_iff_ne]; intro e; subst e; exact absurd h1.1 (by decide)
    have e43 : (c == 43) = false := by
      rw [beq_eq_false_iff_ne]; intro e; subst e; exact absurd h1.1 (by decide)
    simp only [Lib.atoi, e45, e43]
    simp [Lib.decNat, decFrom_val _ _ h, decVal]

theorem decVal_lt (l : List UInt8) (h : digs l = true) : decVal l < 10 ^ l.length := by
  have := Lib.decFrom_lt l 0 _ (decFrom_val l 0 h)
  simpa [decVal] using this

theorem pow_le8 {k : Nat} (h : k ≤ 8) : 10 ^ k ≤ 100000000 := by
  have := Nat.pow_le_pow_right (show 0 < 10 by decide) h
  exact this

/-- What ParseNum answers. -/
def parseOk (l : List UInt8) (most : Int) : Prop := 1 ≤ l.length ∧ l.length ≤ 7 ∧ digs l = true ∧ ¬ (1 < l.length ∧ l.head? = some 48) ∧ (decVal l : Int) ≤ most
def parseB (l : List UInt8) (most : Int) : Bool := decide (1 ≤ l.length) && (decide (l.length ≤ 7) && (digs l && (!(decide (1 < l.length) && l.head? == some 48) && decide ((decVal l : Int) ≤ most))))
theorem parseB_iff (l : List UInt8) (most : Int) : parseB l most = true ↔ parseOk l most := by
  simp only [parseB, parseOk, Bool.and_eq_true, decide_eq_true_eq, Bool.not_eq_true', Bool.and_eq_false_iff, decide_eq_false_iff_not]
  constructor
  · rintro ⟨a, b, c, d, e⟩
    refine ⟨a, b, c, ?_, e⟩
    rintro ⟨x, y⟩
    rcases d with d | d
    · exact d x
    · simp [y] at d
  · rintro ⟨a, b, c, d, e⟩
    refine ⟨a, b, c, ?_, e⟩
    by_cases x : 1 < l.length
    · right
      rw [beq_eq_false_iff_ne]
      exact fun y => d ⟨x, y⟩
    · exact .inl x
def parseNum (l : List UInt8) (most : Int) : Int × Bool := if parseB l most then ((decVal l : Int), true) else (0, false)
theorem parseNum_no {l : List UInt8} {most : Int} (h : ¬ parseOk l most) : parseNum l most = (0, false) := if_neg (fun e => h ((parseB_iff l most).1 e))
theorem parseNum_yes {l : List UInt8} {most : Int} (h : parseOk l most) : parseNum l most = ((decVal l : Int), true) := if_pos ((parseB_iff l most).2 h)

theorem digs_snoc (s : ByteArray) (k : Nat) (h : k < s.size) (h0 : digs (s.data.toList.take k) = true) (h2 : isB (s[k].toNat : Int) 4 = true) : digs (s.data.toList.take (k + 1)) = true :=
  allB_snoc s [4] k h h0 (by rw [anyB_one, h2]; rfl)
theorem digs_not (s : ByteArray) (k : Nat) (h : k < s.size) (h2 : isB (s[k].toNat : Int) 4 = false) : digs s.data.toList = false :=
  allB_not s [4] k h (by rw [anyB_one, h2]; rfl)
theorem decVal_step (s : ByteArray) (k : Nat) (h : k < s.size) : decVal (s.data.toList.take (k + 1)) = decVal (s.data.toList.take k) * 10 + (s[k].toNat - 48) := by
  rw [take_snoc s k h, decVal_snoc]
theorem isB4 {c : Int} (h : isB c 4 = true) : 48 ≤ c ∧ c ≤ 57 := by simp [isB] at h; omega
theorem head_get (s : ByteArray) (h : 0 < s.size) : s.data.toList.head? = some s[0] := by
  have e : s.data.toList.length = s.size := Array.length_toList
  rw [List.head?_eq_getElem?, List.getElem?_eq_getElem (by omega)]; rfl
theorem len_list (s : ByteArray) : s.data.toList.length = s.size := Array.length_toList

theorem not_size {s : ByteArray} {most : Int} (h : inB (s.size : Int) 1 7 = false) : ¬ parseOk s.data.toList most := by
  intro hp
  have e := len_list s
  have h1 : 1 ≤ s.size ∧ s.size ≤ 7 := by have := hp.1; have := hp.2.1; omega
  simp [inB] at h
  omega
theorem not_nought {s : ByteArray} {most : Int} (h0 : 0 < s.size) (h1 : 1 < s.size) (hz : (((s[0]).toNat : Int) == 48) = true) : ¬ parseOk s.data.toList most := by
  intro hp
  refine hp.2.2.2.1 ⟨by rw [len_list]; exact h1, ?_⟩
  rw [head_get s h0]
  have : (s[0]).toNat = 48 := by simp at hz; omega
  congr 1
  exact UInt8.toNat_inj.1 this
theorem not_most {l : List UInt8} {most : Int} (h : most < (decVal l : Int)) : ¬ parseOk l most := fun hp => by have := hp.2.2.2.2; omega
theorem not_digs {l : List UInt8} {most : Int} (h : digs l = false) : ¬ parseOk l most := fun hp => by have := hp.2.2.1; rw [h] at this; cases this
theorem is_ok {s : ByteArray} {most : Int} (h0 : 0 < s.size) (h : inB (s.size : Int) 1 7 = true) (hd : digs s.data.toList = true) (hz : 1 < s.size → (((s[0]).toNat : Int) == 48) = false) (hm : ¬ most < (decVal s.data.toList : Int)) : parseOk s.data.toList most := by
  have e := len_list s
  have h1 : 1 ≤ s.size ∧ s.size ≤ 7 := by simp [inB] at h; omega
  refine ⟨by omega, by omega, hd, ?_, by omega⟩
  rintro ⟨h2, h3⟩
  rw [head_get s h0] at h3
  have h4 := hz (by omega)
  have h5 : s[0] = 48 := Option.some.inj h3
  rw [h5] at h4
  simp at h4

end Go.Proofs.YtnoijfnpchihoaaGreatDoor.M
namespace Go.Proofs.YtnoijfnpchihoaaGreatDoor.M

/-- The worth of a digit to the base 16. -/
def hexW (c : UInt8) : Nat := if isB (c.toNat : Int) 4 then c.toNat - 48 else if isB (c.toNat : Int) 5 then c.toNat - 87 else c.toNat - 55
def isHex (c : UInt8) : Bool := anyB (c.toNat : Int) [4, 5, 6]
def hexVal (l : List UInt8) : Nat := l.foldl (fun n c => n * 16 + hexW c) 0
def hexs (l : List UInt8) : Bool := allB l [4, 5, 6]

theorem hexVal_snoc (l : List UInt8) (c : UInt8) : hexVal (l ++ [c]) = hexVal l * 16 + hexW c := by
  simp [hexVal]

theorem isHex_cases {c : UInt8} (h : isHex c = true) : isB (c.toNat : Int) 4 = true ∨ (isB (c.toNat : Int) 4 = false ∧ isB (c.toNat : Int) 5 = true) ∨ (isB (c.toNat : Int) 4 = false ∧ isB (c.toNat : Int) 5 = false ∧ isB (c.toNat : Int) 6 = true) := by
  unfold isHex anyB at h
  cases h4 : isB (c.toNat : Int) 4 <;> cases h5 : isB (c.toNat : Int) 5 <;> cases h6 : isB (c.toNat : Int) 6 <;> simp_all

theorem isB5 {c : Int} (h : isB c 5 = true) : 97 ≤ c ∧ c ≤ 102 := by simp [isB] at h; omega
theorem isB6 {c : Int} (h : isB c 6 = true) : 65 ≤ c ∧ c ≤ 70 := by simp [isB] at h; omega

theorem hexW_4 {c : UInt8} (h : isB (c.toNat : Int) 4 = true) : hexW c = c.toNat - 48 := by simp [hexW, h]
theorem hexW_5 {c : UInt8} (h4 : isB (c.toNat : Int) 4 = false) (h : isB (c.toNat : Int) 5 = true) : hexW c = c.toNat - 87 := by simp [hexW, h4, h]
theorem hexW_6 {c : UInt8} (h4 : isB (c.toNat : Int) 4 = false) (h5 : isB (c.toNat : Int) 5 = false) : hexW c = c.toNat - 55 := by simp [hexW, h4, h5]

theorem hexW_lt {c : UInt8} (h : isHex c = true) : hexW c < 16 := by
  rcases isHex_cases h with h4 | ⟨h4, h5⟩ | ⟨h4, h5, h6⟩
  · have := isB4 h4; rw [hexW_4 h4]; omega
  · have := isB5 h5; rw [hexW_5 h4 h5]; omega
  · have := isB6 h6; rw [hexW_6 h4 h5]; omega

theorem hexs_get (s : ByteArray) (h : hexs s.data.toList = true) (k : Nat) (hk : k < s.size) : isHex s[k] = true := by
  have h1 := (List.all_eq_true.1 h) s[k] (by
    have e := len_list s
    have h' : k < s.data.toList.length := by omega
    exact List.getElem_mem h')
  exact h1

theorem hexs_snoc (s : ByteArray) (k : Nat) (h : k < s.size) (h0 : hexs (s.data.toList.take k) = true) (h2 : isHex s[k] = true) : hexs (s.data.toList.take (k + 1)) = true :=
  allB_snoc s [4, 5, 6] k h h0 (by rw [show anyB (s[k].toNat : Int) [4, 5, 6] = true from h2]; rfl)
theorem hexs_not (s : ByteArray) (k : Nat) (h : k < s.size) (h2 : isHex s[k] = false) : hexs s.data.toList = false :=
  allB_not s [4, 5, 6] k h (by rw [show anyB (s[k].toNat : Int) [4, 5, 6] = false from h2]; rfl)
theorem hexVal_step (s : ByteArray) (k : Nat) (h : k < s.size) : hexVal (s.data.toList.take (k + 1)) = hexVal (s.data.toList.take k) * 16 + hexW s[k] := by
  rw [take_snoc s k h, hexVal_snoc]

theorem hexVal_lt (s : ByteArray) (k : Nat) (hk : k ≤ s.size) (h : hexs (s.data.toList.take k) = true) : hexVal (s.data.toList.take k) < 16 ^ k := by
  induction k with
  | zero => simp [hexVal]
  | succ k ih =>
    have hk' : k < s.size := by omega
    have h1 : hexs (s.data.toList.take k) = true ∧ isHex s[k] = true := by
      rw [take_snoc s k hk'] at h
      simpa [hexs, allB, isHex] using h
    have := ih (by omega) h1.1
    have := hexW_lt h1.2
    rw [hexVal_step s k hk', Nat.pow_succ]
    omega

theorem pow16_le {k : Nat} (h : k ≤ 5) : 16 ^ k ≤ 1048576 := Nat.pow_le_pow_right (show 0 < 16 by decide) h

/-- What ParseHex answers. -/
def hexB (l : List UInt8) : Bool := decide (1 ≤ l.length) && (decide (l.length ≤ 4) && hexs l)
def parseHex (l : List UInt8) : Int × Bool := if hexB l then ((hexVal l : Int), true) else (0, false)
theorem parseHex_yes {s : ByteArray} (h : inB (s.size : Int) 1 4 = true) (hd : hexs s.data.toList = true) : parseHex s.data.toList = ((hexVal s.data.toList : Int), true) := by
  have e := len_list s
  have h1 : 1 ≤ s.size ∧ s.size ≤ 4 := by simp [inB] at h; omega
  apply if_pos
  simp only [hexB, hd, Bool.and_true, Bool.and_eq_true, decide_eq_true_eq]
  omega
theorem parseHex_size {s : ByteArray} (h : inB (s.size : Int) 1 4 = false) : parseHex s.data.toList = (0, false) := by
  have e := len_list s
  have h1 : ¬ (1 ≤ s.size ∧ s.size ≤ 4) := by simp [inB] at h; omega
  apply if_neg
  intro hp
  simp only [hexB, Bool.and_eq_true, decide_eq_true_eq] at hp
  omega
theorem parseHex_no {l : List UInt8} (h : hexs l = false) : parseHex l = (0, false) := by
  apply if_neg
  simp [hexB, h]

/-- The specification's digit: below 0 where it is none. -/
def hexOf (c : UInt8) : Int := if isHex c then (hexW c : Int) else -1
theorem hexOf_yes {c : UInt8} (h : isHex c = true) : hexOf c = (hexW c : Int) := if_pos h
theorem hexOf_no {c : UInt8} (h : isHex c = false) : hexOf c = -1 := if_neg (by simp [h])

end Go.Proofs.YtnoijfnpchihoaaGreatDoor.M
