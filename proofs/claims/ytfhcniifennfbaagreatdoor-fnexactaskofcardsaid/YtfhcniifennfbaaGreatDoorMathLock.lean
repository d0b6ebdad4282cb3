/-
  Plain facts on bytes, their kinds, and texts of them: no program in sight.
  Plain facts on a text without the blanks at its ends: no program in sight.
  Plain facts on small names: no program in sight.
  Plain facts on requests: which are right, and their heads: no program in sight.
  What is asked: its parts.
  What is known of things, and things: no program in sight.
  Slices of texts: what they hold, and that it stays.
  Whether a list of texts stands under another.
  Plain facts on quoted texts: no program in sight.
  Plain facts on names and paths: no program in sight.
  Plain facts on the text of a path: no program in sight.
  Locks: no program in sight.
-/
import Derived.Lib.Bytealg
import GoSem.Op.String
import Derived.Test.YtfhcniifennfbaaGreatDoorRows
import Derived.WalkKit
import Derived.WalkSpells
import Derived.WalkLawsBesides
import Derived.Deep.Light
import Derived.Deep.QuietTactic
import Derived.Deep.OwnRows
import Derived.Lib.Join
namespace Go.Proofs.YtfhcniifennfbaaGreatDoor.M

/-- Whether a byte is of a kind, as the document has it. -/
def isB (c k : Int) : Bool :=
  if k = 0 then decide (32 ≤ c) && decide (c ≤ 126)
  else if k = 1 then (c == 32) || (c == 9)
  else if k = 2 then decide (97 ≤ c) && decide (c ≤ 122)
  else if k = 3 then decide (65 ≤ c) && decide (c ≤ 90)
  else if k = 4 then decide (48 ≤ c) && decide (c ≤ 57)
  else if k = 5 then decide (97 ≤ c) && decide (c ≤ 102)
  else if k = 6 then decide (65 ≤ c) && decide (c ≤ 70)
  else if k = 7 then c == 45
  else false

def anyB (c : Int) (ks : List Int) : Bool := ks.any (isB c)
def allB (l : List UInt8) (ks : List Int) : Bool := l.all fun c => anyB (c.toNat : Int) ks

theorem take_snoc (s : ByteArray) (k : Nat) (h : k < s.size) : s.data.toList.take (k + 1) = s.data.toList.take k ++ [s[k]] := by
  rw [List.take_succ_eq_append_getElem (by simpa using h)]; rfl

theorem take_all (s : ByteArray) (k : Nat) (h : ¬ k < s.size) : s.data.toList.take k = s.data.toList := by
  rw [List.take_of_length_le]
  have : s.data.toList.length = s.size := Array.length_toList
  omega

theorem anyB_snoc (c : Int) (ks : List Int) (k : Nat) (h : k < ks.length) (h0 : anyB c (ks.take k) = false) (h1 : isB c ks[k] = false) : anyB c (ks.take (k + 1)) = false := by
  unfold anyB at *
  rw [List.take_succ_eq_append_getElem h, List.any_append, h0]
  simp [h1]

theorem anyB_of (c : Int) (ks : List Int) (k : Nat) (h : k < ks.length) (h1 : isB c ks[k] = true) : anyB c ks = true := by
  unfold anyB
  rw [List.any_eq_true]
  exact ⟨_, List.getElem_mem h, h1⟩

theorem allB_snoc (s : ByteArray) (ks : List Int) (k : Nat) (h : k < s.size) (h0 : allB (s.data.toList.take k) ks = true) (h2 : (!anyB (s[k].toNat : Int) ks) = false) : allB (s.data.toList.take (k + 1)) ks = true := by
  have h1 : anyB (s[k].toNat : Int) ks = true := by simpa using h2
  rw [take_snoc s k h]
  unfold allB at *
  rw [List.all_append, h0]
  simp [h1]

theorem allB_not (s : ByteArray) (ks : List Int) (k : Nat) (h : k < s.size) (h2 : (!anyB (s[k].toNat : Int) ks) = true) : allB s.data.toList ks = false := by
  have h1 : anyB (s[k].toNat : Int) ks = false := by simpa using h2
  have hm : s[k] ∈ s.data.toList := by
    have e : s.data.toList.length = s.size := Array.length_toList
    have h' : k < s.data.toList.length := by omega
    exact List.getElem_mem h'
  unfold allB
  rw [List.all_eq_false]
  exact ⟨_, hm, by simp [h1]⟩

/-- Whether a number lies between two. -/
def inB (x a b : Int) : Bool := decide (a ≤ x) && decide (x ≤ b)
theorem inB_plain (c : Int) : inB c 32 126 = anyB c [0] := by simp [inB, anyB, isB]
theorem inB_small (c : Int) : inB c 97 122 = isB c 2 := by simp [inB, isB]
theorem inB_large (c : Int) : inB c 65 90 = isB c 3 := by simp [inB, isB]
theorem inB_digit (c : Int) : inB c 48 57 = isB c 4 := by simp [inB, isB]
theorem inB_hexs (c : Int) : inB c 97 102 = isB c 5 := by simp [inB, isB]
theorem inB_hexl (c : Int) : inB c 65 70 = isB c 6 := by simp [inB, isB]
theorem anyB_one (c k : Int) : anyB c [k] = isB c k := by simp [anyB]

theorem set_last (pre t : List UInt8) (n : Nat) (h : pre.length = n + 1) (c : UInt8) : ∃ q : List UInt8, q.length = n ∧ (pre ++ t).set n c = q ++ c :: t := by
  refine ⟨pre.take n, by rw [List.length_take]; omega, ?_⟩
  have e : pre = pre.take n ++ [pre[n]] := by
    conv => lhs; rw [← List.take_append_drop n pre]
    rw [List.drop_eq_getElem_cons (by omega), List.drop_of_length_le (by omega)]
  have e2 : pre ++ t = pre.take n ++ (pre[n] :: t) := by
    conv => lhs; rw [e]
    rw [List.append_assoc]; rfl
  have l2 : (pre.take n).length = n := by rw [List.length_take]; omega
  rw [e2, List.set_append_right _ _ (by omega), l2, Nat.sub_self, List.set_cons_zero]

/-- A large letter as a small one. -/
def lowB (c : UInt8) : UInt8 := if isB (c.toNat : Int) 3 then c + 32 else c
def lowL (l : List UInt8) : List UInt8 := l.map lowB

theorem lowB_yes (c : UInt8) (h : isB (c.toNat : Int) 3 = true) : (lowB c).toNat = c.toNat + 32 := by
  have h' : 65 ≤ c.toNat ∧ c.toNat ≤ 90 := by simp [isB] at h; omega
  unfold lowB
  rw [if_pos h, UInt8.toNat_add]
  have : (32 : UInt8).toNat = 32 := rfl
  omega

theorem lowB_no (c : UInt8) (h : isB (c.toNat : Int) 3 = false) : lowB c = c := by
  unfold lowB
  rw [if_neg (by simp [h])]

theorem isB3 {c : Int} (h : isB c 3 = true) : 65 ≤ c ∧ c ≤ 90 := by simp [isB] at h; omega

theorem lowL_snoc (s : ByteArray) (k : Nat) (h : k < s.size) : lowL (s.data.toList.take (k + 1)) = lowL (s.data.toList.take k) ++ [lowB s[k]] := by
  rw [take_snoc s k h]; simp [lowL]

/-- The first k made small, the rest as it was. -/
def mixL (l : List UInt8) (k : Nat) : List UInt8 := lowL (l.take k) ++ l.drop k
theorem mixL_length (l : List UInt8) (k : Nat) : (mixL l k).length = l.length := by
  simp only [mixL, lowL, List.length_append, List.length_map, List.length_take, List.length_drop]; omega
theorem mixL_zero (l : List UInt8) : mixL l 0 = l := by simp [mixL, lowL]
theorem mixL_all (l : List UInt8) (k : Nat) (h : l.length ≤ k) : mixL l k = lowL l := by
  simp [mixL, List.take_of_length_le h, List.drop_of_length_le h]
theorem mixL_get (l : List UInt8) (k : Nat) (h : k < l.length) (h' : k < (mixL l k).length) : (mixL l k)[k] = l[k] := by
  have e : (lowL (l.take k)).length = k := by simp only [lowL, List.length_map, List.length_take]; omega
  simp only [mixL]
  rw [List.getElem_append_right (by omega)]
  simp only [e, Nat.sub_self, List.getElem_drop, Nat.add_zero]
theorem mixL_succ (l : List UInt8) (k : Nat) (h : k < l.length) : mixL l (k + 1) = (mixL l k).set k (lowB l[k]) := by
  have e : (lowL (l.take k)).length = k := by simp only [lowL, List.length_map, List.length_take]; omega
  simp only [mixL]
  rw [List.set_append_right _ _ (by omega), e, Nat.sub_self, List.drop_eq_getElem_cons h, List.set_cons_zero, List.take_succ_eq_append_getElem h]
  simp only [lowL, List.map_append, List.map_cons, List.map_nil, List.append_assoc, List.singleton_append]

end Go.Proofs.YtfhcniifennfbaaGreatDoor.M
namespace Go.Proofs.YtfhcniifennfbaaGreatDoor.M

def bl (c : UInt8) : Bool := isB (c.toNat : Int) 1
def trimL (l : List UInt8) : List UInt8 := ((l.dropWhile bl).reverse.dropWhile bl).reverse

theorem trimL_front (c : UInt8) (r : List UInt8) (h : bl c = true) : trimL (c :: r) = trimL r := by
  simp [trimL, h]

theorem dropWhile_append_single (p : UInt8 → Bool) (l : List UInt8) (c : UInt8) (h : p c = true) : (l ++ [c]).dropWhile p = if l.dropWhile p = [] then [] else l.dropWhile p ++ [c] := by
  induction l with
  | nil => simp [h]
  | cons a r ih =>
    simp only [List.cons_append, List.dropWhile_cons]
    cases p a <;> simp [ih]

theorem trimL_back (l : List UInt8) (c : UInt8) (h : bl c = true) : trimL (l ++ [c]) = trimL l := by
  unfold trimL
  rw [dropWhile_append_single bl l c h]
  by_cases e : l.dropWhile bl = []
  · simp [e]
  · simp [e, h]

theorem dropWhile_head (p : UInt8 → Bool) (c : UInt8) (r : List UInt8) (h : p c = false) : (c :: r).dropWhile p = c :: r := by
  simp [h]

theorem trimL_nil : trimL [] = [] := rfl

theorem trimL_done (l : List UInt8) (h0 : 0 < l.length) (hf : bl l[0] = false) (hb : bl (l[l.length - 1]) = false) : trimL l = l := by
  have e1 : l.dropWhile bl = l := by
    cases l with
    | nil => simp at h0
    | cons c r => exact dropWhile_head bl c r hf
  have e2 : l.reverse.dropWhile bl = l.reverse := by
    have hne : l ≠ [] := by intro e; simp [e] at h0
    have hl : l.getLast hne = l[l.length - 1] := List.getLast_eq_getElem hne
    have e3 : l.reverse = l.getLast hne :: l.dropLast.reverse := by
      conv => lhs; rw [← List.dropLast_concat_getLast hne]
      simp
    rw [e3]
    exact dropWhile_head bl _ _ (by rw [hl]; exact hb)
  rw [trimL, e1, e2, List.reverse_reverse]

/-- A text cut: its bytes from a up to b. -/
def cut (s : ByteArray) (a b : Nat) : List UInt8 := (s.data.toList.take b).drop a

theorem cut_all (s : ByteArray) : cut s 0 s.size = s.data.toList := by
  have e : s.data.toList.length = s.size := Array.length_toList
  unfold cut
  rw [List.drop_zero, List.take_of_length_le (by omega)]

theorem cut_length (s : ByteArray) (a b : Nat) (hb : b ≤ s.size) : (cut s a b).length = b - a := by
  have e : s.data.toList.length = s.size := Array.length_toList
  unfold cut
  rw [List.length_drop, List.length_take]
  omega

theorem cut_get (s : ByteArray) (a b i : Nat) (hb : b ≤ s.size) (hi : a + i < b) : (cut s a b)[i]'(by rw [cut_length s a b hb]; omega) = s[a + i] := by
  simp only [cut, List.getElem_drop, List.getElem_take]
  rfl

theorem cut_front (s : ByteArray) (a b : Nat) (hb : b ≤ s.size) (h : a < b) : cut s a b = s[a] :: cut s (a + 1) b := by
  have e : s.data.toList.length = s.size := Array.length_toList
  unfold cut
  rw [List.drop_eq_getElem_cons (by rw [List.length_take]; omega), List.getElem_take]
  rfl

theorem cut_back (s : ByteArray) (a b : Nat) (hb : b ≤ s.size) (h : a < b) : cut s a b = cut s a (b - 1) ++ [s[b - 1]] := by
  have e : s.data.toList.length = s.size := Array.length_toList
  obtain ⟨c, rfl⟩ : ∃ c, b = c + 1 := ⟨b - 1, by omega⟩
  simp only [Nat.add_sub_cancel]
  unfold cut
  rw [List.take_succ_eq_append_getElem (by omega), List.drop_append_of_le_length (by rw [List.length_take]; omega)]
  rfl

theorem cut_empty (s : ByteArray) (a b : Nat) (h : b ≤ a) : cut s a b = [] := by
  unfold cut
  rw [List.drop_eq_nil_iff, List.length_take]
  omega

theorem cut_trim_front (s : ByteArray) (a b : Nat) (hb : b ≤ s.size) (h : a < b) (hc : bl s[a] = true) : trimL (cut s a b) = trimL (cut s (a + 1) b) := by
  rw [cut_front s a b hb h, trimL_front _ _ hc]

theorem cut_trim_back (s : ByteArray) (a b : Nat) (hb : b ≤ s.size) (h : a < b) (hc : bl s[b - 1] = true) : trimL (cut s a b) = trimL (cut s a (b - 1)) := by
  rw [cut_back s a b hb h, trimL_back _ _ hc]

theorem cut_trim_done (s : ByteArray) (a b : Nat) (hb : b ≤ s.size) (h : a < b) (hf : bl s[a] = false) (hl : bl s[b - 1] = false) : trimL (cut s a b) = cut s a b := by
  have e := cut_length s a b hb
  apply trimL_done
  · rw [cut_get s a b 0 hb (by omega)]; exact hf
  · have := cut_get s a b (b - a - 1) hb (by omega)
    simp only [e]
    rw [this]
    have e2 : a + (b - a - 1) = b - 1 := by omega
    simp only [e2]; exact hl

theorem extract_cut (s : ByteArray) (a b : Nat) : (s.extract a b).data.toList = cut s a b := by
  unfold cut
  rw [ByteArray.data_extract, Array.toList_extract]
  simp [List.extract_eq_take_drop, List.drop_take]

theorem cut_cut (s : ByteArray) (a b c d : Nat) (hb : b ≤ s.size) (hd : a + d ≤ b) : cut (s.extract a b) c d = cut s (a + c) (a + d) := by
  have e : s.data.toList.length = s.size := Array.length_toList
  unfold cut
  rw [extract_cut]
  unfold cut
  apply List.ext_getElem
  · simp only [List.length_drop, List.length_take]; omega
  · intro i h1 h2
    simp only [List.getElem_drop, List.getElem_take, Nat.add_assoc]

theorem anyB_bl (c : UInt8) : anyB (c.toNat : Int) [1] = bl c := by simp [anyB, bl]

theorem size_extract (s : ByteArray) (a b : Nat) (hb : b ≤ s.size) : (s.extract a b).size = b - a := by
  have e : (s.extract a b).data.toList.length = (s.extract a b).size := Array.length_toList
  rw [← e, extract_cut, cut_length s a b hb]

theorem step_front (t : ByteArray) (l : List UInt8) (h0 : 0 < t.size) (hb : bl t[0] = true) (H : trimL t.data.toList = l) : trimL (t.extract 1 t.size).data.toList = l := by
  rw [extract_cut, ← cut_trim_front t 0 t.size (Nat.le_refl _) h0 hb, cut_all, H]

theorem step_back (t : ByteArray) (l : List UInt8) (h0 : 0 < t.size) (hb : bl t[t.size - 1] = true) (H : trimL t.data.toList = l) : trimL (t.extract 0 (t.size - 1)).data.toList = l := by
  rw [extract_cut, ← cut_trim_back t 0 t.size (Nat.le_refl _) h0 hb, cut_all, H]

theorem step_back_head (t : ByteArray) (h0 : 0 < t.size) (hf : bl t[0] = false) (h : 0 < (t.extract 0 (t.size - 1)).size) : bl (t.extract 0 (t.size - 1))[0] = false := by
  have e : (t.extract 0 (t.size - 1))[0] = t[0] := by
    rw [ByteArray.getElem_extract]
  rw [e]; exact hf

theorem step_done (t : ByteArray) (l : List UInt8) (h0 : 0 < t.size) (hf : bl t[0] = false) (hb : bl t[t.size - 1] = false) (H : trimL t.data.toList = l) : t.data.toList = l := by
  rw [← H, ← cut_all t]
  exact (cut_trim_done t 0 t.size (Nat.le_refl _) h0 hf hb).symm

theorem step_none (t : ByteArray) (l : List UInt8) (h0 : ¬ 0 < t.size) (H : trimL t.data.toList = l) : t.data.toList = l := by
  have e : t.data.toList = [] := by rw [← cut_all t]; exact cut_empty _ _ _ (by omega)
  rw [← H, e]; rfl

end Go.Proofs.YtfhcniifennfbaaGreatDoor.M
namespace Go.Proofs.YtfhcniifennfbaaGreatDoor.M

/-- A small name: a small letter, then small letters, digits and hyphens, at most 20 in all. -/
def smB : List UInt8 → Bool
  | [] => false
  | c :: r => decide ((c :: r).length ≤ 20) && isB (c.toNat : Int) 2 && allB (c :: r) [2, 4, 7]

/-- What the specification asks of the byte at place i. -/
def okAt (i : Nat) (c : Int) : Bool := isB c 2 || (i != 0 && (isB c 4 || c == 45))

theorem anyB_3 (c : Int) : anyB c [2, 4, 7] = (isB c 2 || (isB c 4 || c == 45)) := by
  simp [anyB, isB]

theorem okAt_any {i : Nat} {c : Int} (h : okAt i c = true) : anyB c [2, 4, 7] = true := by
  rw [anyB_3]
  unfold okAt at h
  cases h1 : isB c 2 <;> simp_all

theorem ok1 {k : Nat} {c : Int} (h : isB c 2 = true) : okAt k c = true := by simp [okAt, h]
theorem no2 {k : Nat} {c : Int} (h : ¬ isB c 2 = true) (h1 : k = 0) : okAt k c = false := by simp [okAt, h1]; simpa using h
theorem ok3 {k : Nat} {c : Int} (h1 : ¬ k = 0) (h2 : isB c 4 = true) : okAt k c = true := by simp [okAt, h1, h2]
theorem no4 {k : Nat} {c : Int} (h : ¬ isB c 2 = true) (h1 : ¬ k = 0) (h2 : ¬ isB c 4 = true) (h3 : ((k : Int) == 0) = true ∨ (c != 45) = true) : okAt k c = false := by
  rcases h3 with h3 | h3
  · simp at h3; exact absurd h3 h1
  · simp at h h2 h3; simp [okAt, h, h2, h3]
theorem ok5 {k : Nat} {c : Int} (h1 : ¬ k = 0) (h3 : ((k : Int) == 0) = false ∧ (c != 45) = false) : okAt k c = true := by
  obtain ⟨_, h3⟩ := h3
  simp at h3
  simp [okAt, h1, h3]

theorem smB_notL (l : List UInt8) (k : Nat) (h' : k < l.length) (h1 : okAt k (l[k].toNat : Int) = false) : smB l = false := by
  match l, k, h', h1 with
  | c :: r, 0, h', h1 =>
    have h2 : okAt 0 (c.toNat : Int) = false := h1
    simp [okAt] at h2
    simp [smB, h2]
  | c :: r, k + 1, h', h1 =>
    simp only [List.getElem_cons_succ] at h1
    have h2 : anyB (r[k]'(by simpa using h')).toNat [2, 4, 7] = false := by
      rw [anyB_3]; simpa [okAt] using h1
    have h3 : allB (c :: r) [2, 4, 7] = false := by
      unfold allB
      rw [List.all_eq_false]
      exact ⟨_, List.mem_cons_of_mem _ (List.getElem_mem (by simpa using h')), by simp [h2]⟩
    simp [smB, h3]

theorem smB_not (s : ByteArray) (k : Nat) (h : k < s.size) (h1 : okAt k (s[k].toNat : Int) = false) : smB s.data.toList = false := by
  have e : s.data.toList.length = s.size := Array.length_toList
  exact smB_notL s.data.toList k (by omega) h1

theorem smB_allL (l : List UInt8) (h2 : ∀ i (hi : i < l.length), okAt i (l[i].toNat : Int) = true) : smB l = inB (l.length : Int) 1 20 := by
  match l, h2 with
  | [], _ => simp [smB, inB]
  | c :: r, h2 =>
    have h0 : okAt 0 (c.toNat : Int) = true := h2 0 (by simp)
    have h3 : isB (c.toNat : Int) 2 = true := by simpa [okAt] using h0
    have h4 : allB (c :: r) [2, 4, 7] = true := by
      unfold allB
      rw [List.all_eq_true]
      intro x hx
      obtain ⟨i, hi, rfl⟩ := List.mem_iff_getElem.1 hx
      exact okAt_any (h2 i hi)
    simp only [smB, h3, h4, inB]
    rw [Bool.and_true, Bool.and_true, Bool.eq_iff_iff]
    simp
    omega

theorem smB_all (s : ByteArray) (h : ∀ i (hi : i < s.size), okAt i (s[i].toNat : Int) = true) : smB s.data.toList = inB (s.size : Int) 1 20 := by
  have e : s.data.toList.length = s.size := Array.length_toList
  rw [← e]
  exact smB_allL s.data.toList fun i hi => h i (by omega)

theorem smB_implL (l : List UInt8) (h0 : 0 < l.length) (h1 : l.length ≤ 20) : smB l = (isB (l[0].toNat : Int) 2 && allB l [2, 4, 7]) := by
  match l, h0, h1 with
  | c :: r, h0, h1 =>
    have h1' : r.length + 1 ≤ 20 := by simpa using h1
    show smB (c :: r) = (isB (c.toNat : Int) 2 && allB (c :: r) [2, 4, 7])
    simp [smB, h1']

/-- The program's own way to it. -/
theorem smB_impl (s : ByteArray) (h0 : 0 < s.size) (h1 : s.size ≤ 20) : smB s.data.toList = (isB ((s[0]).toNat : Int) 2 && allB s.data.toList [2, 4, 7]) := by
  have e : s.data.toList.length = s.size := Array.length_toList
  exact smB_implL s.data.toList (by omega) (by omega)

theorem smB_longL (l : List UInt8) (h : l.length < 1 ∨ 20 < l.length) : smB l = false := by
  match l, h with
  | [], _ => rfl
  | c :: r, h =>
    have h' : ¬ r.length + 1 ≤ 20 := by simp at h; omega
    simp [smB, h']

theorem smB_long (s : ByteArray) (h : s.size < 1 ∨ 20 < s.size) : smB s.data.toList = false := by
  have e : s.data.toList.length = s.size := Array.length_toList
  exact smB_longL _ (by omega)

end Go.Proofs.YtfhcniifennfbaaGreatDoor.M
namespace Go.Proofs.YtfhcniifennfbaaGreatDoor.M

/-- A head: its name, its value. -/
abbrev Hd := ByteArray × ByteArray
/-- A request. -/
structure Rq where
  m : ByteArray
  p : ByteArray
  hs : List Hd
  b : ByteArray
deriving DecidableEq

def lenName : ByteArray := ⟨#[99, 111, 110, 116, 101, 110, 116, 45, 108, 101, 110, 103, 116, 104]⟩
def codName : ByteArray := ⟨#[116, 114, 97, 110, 115, 102, 101, 114, 45, 101, 110, 99, 111, 100, 105, 110, 103]⟩

def methB (s : ByteArray) : Bool := allB s.data.toList [3] && inB s.size 1 9
def tgtB (l : List UInt8) : Bool := l.all fun c => inB (c.toNat : Int) 33 126
def targB (s : ByteArray) : Bool := tgtB s.data.toList && inB s.size 1 80
def valB (s : ByteArray) : Bool := decide (s.size ≤ 60) && (allB s.data.toList [0] && decide (trimL s.data.toList = s.data.toList))
def hdB (h : Hd) : Bool := smB h.1.data.toList && valB h.2
def hdFree (h : Hd) : Bool := hdB h && (!decide (h.1 = lenName) && !decide (h.1 = codName))
def hdsB (hs : List Hd) : Bool := hs.all hdFree && decide (hs.length ≤ 8)
def reqB (r : Rq) : Bool := methB r.m && (targB r.p && (hdsB r.hs && decide (r.b.size ≤ 200)))

theorem tgtB_snoc (s : ByteArray) (k : Nat) (h : k < s.size) (h0 : tgtB (s.data.toList.take k) = true) (h1 : inB (s[k].toNat : Int) 33 126 = true) : tgtB (s.data.toList.take (k + 1)) = true := by
  rw [take_snoc s k h]
  unfold tgtB at *
  rw [List.all_append, h0]
  simp [h1]
theorem tgtB_not (s : ByteArray) (k : Nat) (h : k < s.size) (h1 : inB (s[k].toNat : Int) 33 126 = false) : tgtB s.data.toList = false := by
  have hm : s[k] ∈ s.data.toList := by
    have e : s.data.toList.length = s.size := Array.length_toList
    have h' : k < s.data.toList.length := by omega
    exact List.getElem_mem h'
  unfold tgtB
  rw [List.all_eq_false]
  exact ⟨_, hm, by simp [h1]⟩

theorem indexByte_nonneg (l : List UInt8) (c : UInt8) : decide (0 ≤ Lib.indexByte l c) = l.contains c := by
  induction l with
  | nil => rfl
  | cons b l ih =>
    have hge := Lib.indexByte_ge l c
    have hc : (b == c) = (c == b) := by rw [Bool.beq_comm]
    simp only [List.contains_cons]
    rw [← ih]
    have e : Lib.indexByte (b :: l) c = if b == c then 0 else if Lib.indexByte l c == -1 then -1 else Lib.indexByte l c + 1 := rfl
    rw [e, hc]
    cases hb : (c == b)
    · by_cases h1 : Lib.indexByte l c = -1
      · rw [h1]; rfl
      · have h2 : (Lib.indexByte l c == -1) = false := by rw [beq_eq_false_iff_ne]; exact h1
        rw [h2, Bool.eq_iff_iff]
        simp only [Bool.false_eq_true, if_false, Bool.false_or, decide_eq_true_eq]
        omega
    · simp

/-- Plain without a blank: what a target is made of. -/
theorem tgt_plain (l : List UInt8) : (allB l [0] && !l.contains 32) = tgtB l := by
  induction l with
  | nil => rfl
  | cons c r ih =>
    have e1 : allB (c :: r) [0] = (anyB (c.toNat : Int) [0] && allB r [0]) := rfl
    have e2 : tgtB (c :: r) = (inB (c.toNat : Int) 33 126 && tgtB r) := rfl
    rw [e1, e2, ← ih, List.contains_cons]
    have h : (anyB (c.toNat : Int) [0] && !((32 : UInt8) == c)) = inB (c.toNat : Int) 33 126 := by
      by_cases hc : c = 32
      · subst hc; decide
      · have h32 : ¬ c.toNat = 32 := fun e => hc (UInt8.toNat_inj.1 (by rw [e]; rfl))
        have hb : ((32 : UInt8) == c) = false := by rw [beq_eq_false_iff_ne]; exact fun e => hc e.symm
        rw [hb]
        rw [Bool.eq_iff_iff]
        simp [anyB, isB, inB]
        omega
    rw [← h]
    cases anyB (c.toNat : Int) [0] <;> cases ((32 : UInt8) == c) <;> cases allB r [0] <;> simp

theorem hdsB_snoc (hs : List Hd) (k : Nat) (h : k < hs.length) (h0 : (hs.take k).all hdFree = true) (h1 : hdFree hs[k] = true) : (hs.take (k + 1)).all hdFree = true := by
  rw [List.take_succ_eq_append_getElem h, List.all_append, h0]
  simp [h1]
theorem hdsB_not (hs : List Hd) (k : Nat) (h : k < hs.length) (h1 : hdFree hs[k] = false) : hdsB hs = false := by
  have : hs.all hdFree = false := by
    rw [List.all_eq_false]
    exact ⟨_, List.getElem_mem h, by simp [h1]⟩
  simp [hdsB, this]
theorem hdsB_all (hs : List Hd) (k : Nat) (h : ¬ k < hs.length) (h0 : (hs.take k).all hdFree = true) : hdsB hs = decide (hs.length ≤ 8) := by
  rw [List.take_of_length_le (by omega)] at h0
  simp [hdsB, h0]
theorem hdsB_long (hs : List Hd) (h : ¬ hs.length ≤ 8) : hdsB hs = false := by simp [hdsB, h]

/-- The first of this name. -/
def hdOf : List Hd → ByteArray → ByteArray × Bool
  | [], _ => (ByteArray.empty, false)
  | h :: r, n => if h.1 = n then (h.2, true) else hdOf r n

theorem hdOf_at (hs : List Hd) (k : Nat) (hk : k < hs.length) (n : ByteArray) (h0 : hdOf hs n = hdOf (hs.drop k) n) (h : hs[k].1 = n) : hdOf hs n = (hs[k].2, true) := by
  rw [h0, List.drop_eq_getElem_cons hk, hdOf, if_pos h]
theorem hdOf_next (hs : List Hd) (k : Nat) (hk : k < hs.length) (n : ByteArray) (h0 : hdOf hs n = hdOf (hs.drop k) n) (h : ¬ hs[k].1 = n) : hdOf hs n = hdOf (hs.drop (k + 1)) n := by
  rw [h0, List.drop_eq_getElem_cons hk, hdOf, if_neg h]
theorem hdOf_end (hs : List Hd) (k : Nat) (hk : ¬ k < hs.length) (n : ByteArray) (h0 : hdOf hs n = hdOf (hs.drop k) n) : hdOf hs n = (ByteArray.empty, false) := by
  rw [h0, List.drop_of_length_le (by omega), hdOf]

/-- How much a head has, and all of them. -/
def szH (h : Hd) : Nat := h.1.size + h.2.size
def sumH (hs : List Hd) : Nat := (hs.map szH).sum
theorem sumH_snoc (hs : List Hd) (k : Nat) (hk : k < hs.length) : sumH (hs.take (k + 1)) = sumH (hs.take k) + szH hs[k] := by
  unfold sumH
  rw [List.take_succ_eq_append_getElem hk, List.map_append, List.sum_append]
  simp only [List.map_cons, List.map_nil, List.sum_cons, List.sum_nil, Nat.add_zero]
theorem sumH_mem (hs : List Hd) (h : Hd) (hm : h ∈ hs) : h.1.size ≤ sumH hs ∧ h.2.size ≤ sumH hs := by
  induction hs with
  | nil => cases hm
  | cons x l ih =>
    simp only [sumH, List.map_cons, List.sum_cons, szH] at *
    rcases List.mem_cons.1 hm with rfl | hm
    · omega
    · have := ih hm; omega

theorem take_sameH {ss tt : List Hd} (k : Nat) (h1 : k < ss.length) (h2 : k < tt.length) (h0 : ss.take k = tt.take k) (h : ss[k] = tt[k]) : ss.take (k + 1) = tt.take (k + 1) := by
  rw [List.take_succ_eq_append_getElem h1, List.take_succ_eq_append_getElem h2, h0, h]
def sameH (ss tt : List Hd) : Bool := decide (ss = tt)
theorem sameH_refl (ss : List Hd) : sameH ss ss = true := by simp [sameH]
theorem sameH_len {ss tt : List Hd} (h : ¬ ss.length = tt.length) : sameH ss tt = false := by
  simp only [sameH, decide_eq_false_iff_not]; intro e; exact h (by rw [e])
theorem sameH_not {ss tt : List Hd} (k : Nat) (h1 : k < ss.length) (h2 : k < tt.length) (h : ¬ ss[k] = tt[k]) : sameH ss tt = false := by
  simp only [sameH, decide_eq_false_iff_not]; intro e; subst e; exact h rfl
theorem sameH_all {ss tt : List Hd} (hl : ss.length = tt.length) (k : Nat) (hk : ¬ k < ss.length) (h : ss.take k = tt.take k) : sameH ss tt = true := by
  rw [List.take_of_length_le (by omega), List.take_of_length_le (by omega)] at h
  simp [sameH, h]
/-- Whether two requests are the same. -/
def sameR (a b : Rq) : Bool := decide (a.m = b.m) && (decide (a.p = b.p) && (sameH a.hs b.hs && decide (a.b = b.b)))
theorem sameR_iff (a b : Rq) : sameR a b = true ↔ a = b := by
  cases a; cases b
  simp [sameR, sameH]
theorem sameR_refl (a : Rq) : sameR a a = true := (sameR_iff a a).2 rfl
end Go.Proofs.YtfhcniifennfbaaGreatDoor.M
namespace Go.Proofs.YtfhcniifennfbaaGreatDoor.M

/-- What is read of a request. -/
structure Ak where
  pa : List ByteArray
  to : List ByteArray
  de : Bool
  ov : Bool
  tk : List Int
  co : Int
end Go.Proofs.YtfhcniifennfbaaGreatDoor.M
namespace Go.Proofs.YtfhcniifennfbaaGreatDoor.M

/-- What is known: its space, its name, its value. -/
abbrev Pp := ByteArray × ByteArray × ByteArray
/-- A thing. -/
structure Rs where
  pa : List ByteArray
  co : Bool
  bo : ByteArray
  ve : Int
  ps : List Pp
deriving DecidableEq

def szP (p : Pp) : Nat := p.1.size + p.2.1.size + p.2.2.size
def sumP (ps : List Pp) : Nat := (ps.map szP).sum
theorem sumP_snoc (ps : List Pp) (k : Nat) (hk : k < ps.length) : sumP (ps.take (k + 1)) = sumP (ps.take k) + szP ps[k] := by
  unfold sumP
  rw [List.take_succ_eq_append_getElem hk, List.map_append, List.sum_append]
  simp only [List.map_cons, List.map_nil, List.sum_cons, List.sum_nil, Nat.add_zero]
theorem sumP_mem (ps : List Pp) (p : Pp) (h : p ∈ ps) : szP p ≤ sumP ps := by
  induction ps with
  | nil => cases h
  | cons x l ih =>
    simp only [sumP, List.map_cons, List.sum_cons] at *
    rcases List.mem_cons.1 h with rfl | h
    · omega
    · have := ih h; omega

def sameP (ss tt : List Pp) : Bool := decide (ss = tt)
theorem sameP_refl (ss : List Pp) : sameP ss ss = true := by simp [sameP]
theorem sameP_len {ss tt : List Pp} (h : ¬ ss.length = tt.length) : sameP ss tt = false := by
  simp only [sameP, decide_eq_false_iff_not]; intro e; exact h (by rw [e])
theorem sameP_not {ss tt : List Pp} (k : Nat) (h1 : k < ss.length) (h2 : k < tt.length) (h : ¬ ss[k] = tt[k]) : sameP ss tt = false := by
  simp only [sameP, decide_eq_false_iff_not]; intro e; subst e; exact h rfl
theorem sameP_all {ss tt : List Pp} (hl : ss.length = tt.length) (k : Nat) (hk : ¬ k < ss.length) (h : ss.take k = tt.take k) : sameP ss tt = true := by
  rw [List.take_of_length_le (by omega), List.take_of_length_le (by omega)] at h
  simp [sameP, h]
theorem take_sameP {ss tt : List Pp} (k : Nat) (h1 : k < ss.length) (h2 : k < tt.length) (h0 : ss.take k = tt.take k) (h : ss[k] = tt[k]) : ss.take (k + 1) = tt.take (k + 1) := by
  rw [List.take_succ_eq_append_getElem h1, List.take_succ_eq_append_getElem h2, h0, h]

def sumL (ss : List ByteArray) : Nat := (ss.map (·.size)).sum
def szR (r : Rs) : Nat := r.pa.length + sumL r.pa + r.bo.size + (r.ps.length + sumP r.ps)
def sumR (rs : List Rs) : Nat := (rs.map szR).sum
theorem sumR_snoc (rs : List Rs) (k : Nat) (hk : k < rs.length) : sumR (rs.take (k + 1)) = sumR (rs.take k) + szR rs[k] := by
  unfold sumR
  rw [List.take_succ_eq_append_getElem hk, List.map_append, List.sum_append]
  simp only [List.map_cons, List.map_nil, List.sum_cons, List.sum_nil, Nat.add_zero]
theorem sumR_mem (rs : List Rs) (r : Rs) (h : r ∈ rs) : szR r ≤ sumR rs := by
  induction rs with
  | nil => cases h
  | cons x l ih =>
    simp only [sumR, List.map_cons, List.sum_cons] at *
    rcases List.mem_cons.1 h with rfl | h
    · omega
    · have := ih h; omega

def sameT (ss tt : List Rs) : Bool := decide (ss = tt)
theorem sameT_refl (ss : List Rs) : sameT ss ss = true := by simp [sameT]
theorem sameT_len {ss tt : List Rs} (h : ¬ ss.length = tt.length) : sameT ss tt = false := by
  simp only [sameT, decide_eq_false_iff_not]; intro e; exact h (by rw [e])
theorem sameT_not {ss tt : List Rs} (k : Nat) (h1 : k < ss.length) (h2 : k < tt.length) (h : ¬ ss[k] = tt[k]) : sameT ss tt = false := by
  simp only [sameT, decide_eq_false_iff_not]; intro e; subst e; exact h rfl
theorem sameT_all {ss tt : List Rs} (hl : ss.length = tt.length) (k : Nat) (hk : ¬ k < ss.length) (h : ss.take k = tt.take k) : sameT ss tt = true := by
  rw [List.take_of_length_le (by omega), List.take_of_length_le (by omega)] at h
  simp [sameT, h]
theorem take_sameT {ss tt : List Rs} (k : Nat) (h1 : k < ss.length) (h2 : k < tt.length) (h0 : ss.take k = tt.take k) (h : ss[k] = tt[k]) : ss.take (k + 1) = tt.take (k + 1) := by
  rw [List.take_succ_eq_append_getElem h1, List.take_succ_eq_append_getElem h2, h0, h]
end Go.Proofs.YtfhcniifennfbaaGreatDoor.M
namespace Go.Proofs.YtfhcniifennfbaaGreatDoor
open Go.RowKit

/-- The texts that a slice holds, in a block below B. -/
def Strs (w : World) (B : Nat) (a : Option Addr) (ss : List ByteArray) : Prop :=
  0 < ss.length → ∃ b o, a = some ⟨b, o, none⟩ ∧ b < B ∧ ∀ j (hj : j < ss.length), w.cell? ⟨b, o + j, none⟩ = some (.string ss[j])

theorem Strs.below {w w' : World} {B C : Nat} {a : Option Addr} {ss : List ByteArray} (h : Strs w B a ss) (hb : Below C w w') (hB : B ≤ C) : Strs w' B a ss := fun h0 => by
  obtain ⟨b, o, e, hbB, hc⟩ := h h0
  exact ⟨b, o, e, hbB, fun j hj => (hb.cell (p := ⟨b, o + j, none⟩) (Nat.lt_of_lt_of_le hbB hB)).trans (hc j hj)⟩

theorem Strs.mono {w : World} {B C : Nat} {a : Option Addr} {ss : List ByteArray} (h : Strs w B a ss) (hB : B ≤ C) : Strs w C a ss := fun h0 => by
  obtain ⟨b, o, e, hbB, hc⟩ := h h0
  exact ⟨b, o, e, Nat.lt_of_lt_of_le hbB hB, hc⟩

theorem Strs.take {w : World} {B : Nat} {a : Option Addr} {ss : List ByteArray} (h : Strs w B a ss) (k : Nat) : Strs w B a (ss.take k) := fun h0 => by
  have hl : (ss.take k).length ≤ ss.length := by rw [List.length_take]; omega
  obtain ⟨b, o, e, hbB, hc⟩ := h (by omega)
  exact ⟨b, o, e, hbB, fun j hj => by rw [hc j (by omega), List.getElem_take]⟩

theorem info_str : (Tryz.prog.info? 9).map (fun i => (i.zero, i.size, i.bytes)) = some (some (.string ByteArray.empty), 1, 16) := by kernel_rfl

/-- A row of texts that the call made, as a slice. -/
theorem Strs.row {w : World} {N n C : Nat} {ss : List ByteArray} {f : Nat → Value} (h : w.rowIs N 9 n f) (hn : ss.length ≤ n) (hf : ∀ j (hj : j < ss.length), f j = .string ss[j]) (hN : N < C) : Strs w C (some ⟨N, 0, none⟩) ss := fun _ =>
  ⟨N, 0, rfl, hN, fun j hj => by rw [Nat.zero_add, h.cell (by omega), hf j hj]⟩

/-- All of them short enough. -/
def Short (ss : List ByteArray) : Prop := ∀ s ∈ ss, s.size ≤ maxLen
theorem Short.at {ss : List ByteArray} (h : Short ss) (k : Nat) (hk : k < ss.length) : (ss[k]).size ≤ maxLen := h _ (List.getElem_mem hk)

def sumS (ss : List ByteArray) : Nat := (ss.map (·.size)).sum
theorem sumS_snoc (ss : List ByteArray) (k : Nat) (hk : k < ss.length) : sumS (ss.take (k + 1)) = sumS (ss.take k) + (ss[k]).size := by
  unfold sumS
  rw [List.take_succ_eq_append_getElem hk, List.map_append, List.sum_append]
  simp only [List.map_cons, List.map_nil, List.sum_cons, List.sum_nil, Nat.add_zero]
theorem sumS_all (ss : List ByteArray) (k : Nat) (hk : ¬ k < ss.length) : ss.take k = ss := List.take_of_length_le (by omega)
theorem sumS_mem (ss : List ByteArray) (s : ByteArray) (h : s ∈ ss) : s.size ≤ sumS ss := by
  induction ss with
  | nil => cases h
  | cons x l ih =>
    simp only [sumS, List.map_cons, List.sum_cons] at *
    rcases List.mem_cons.1 h with rfl | h
    · omega
    · have := ih h; omega

theorem str_inj {a b : ByteArray} (h : a.toList = b.toList) : a = b := by
  rw [ByteArray.toList_eq, ByteArray.toList_eq] at h
  exact ByteArray.ext (Array.ext' h)

/-- Whether two lists of texts are the same. -/
def sameL (ss tt : List ByteArray) : Bool := decide (ss = tt)
theorem sameL_refl (ss : List ByteArray) : sameL ss ss = true := by simp [sameL]
theorem sameL_len {ss tt : List ByteArray} (h : ¬ ss.length = tt.length) : sameL ss tt = false := by
  simp only [sameL, decide_eq_false_iff_not]; intro e; exact h (by rw [e])
theorem sameL_not {ss tt : List ByteArray} (k : Nat) (h1 : k < ss.length) (h2 : k < tt.length) (h : ¬ ss[k] = tt[k]) : sameL ss tt = false := by
  simp only [sameL, decide_eq_false_iff_not]; intro e; subst e; exact h rfl
theorem sameL_all {ss tt : List ByteArray} (hl : ss.length = tt.length) (k : Nat) (hk : ¬ k < ss.length) (h : ss.take k = tt.take k) : sameL ss tt = true := by
  rw [List.take_of_length_le (by omega), List.take_of_length_le (by omega)] at h
  simp [sameL, h]
theorem take_same {ss tt : List ByteArray} (k : Nat) (h1 : k < ss.length) (h2 : k < tt.length) (h0 : ss.take k = tt.take k) (h : ss[k] = tt[k]) : ss.take (k + 1) = tt.take (k + 1) := by
  rw [List.take_succ_eq_append_getElem h1, List.take_succ_eq_append_getElem h2, h0, h]
end Go.Proofs.YtfhcniifennfbaaGreatDoor
namespace Go.Proofs.YtfhcniifennfbaaGreatDoor

/-- Whether the first list stands under the second. -/
def underB (ss tt : List ByteArray) : Bool := decide (tt.length < ss.length) && sameL (ss.take tt.length) tt

end Go.Proofs.YtfhcniifennfbaaGreatDoor
namespace Go.Proofs.YtfhcniifennfbaaGreatDoor.M

/-- These bytes, as a text. -/
def bytesOf (l : List UInt8) : ByteArray := ⟨l.toArray⟩
theorem bytesOf_append (l m : List UInt8) : bytesOf l ++ bytesOf m = bytesOf (l ++ m) := by
  apply ByteArray.ext
  simp [bytesOf]

theorem bytesOf_size (l : List UInt8) : (bytesOf l).size = l.length := by
  show l.toArray.size = l.length
  simp

/-- A digit of sixteen, a large one. -/
def digL (n : Nat) : UInt8 := if n < 10 then UInt8.ofNat (48 + n) else UInt8.ofNat (55 + n)
theorem digL_lo (n : Nat) (h : n < 10) : (digL n).toNat = 48 + n := by
  unfold digL; rw [if_pos h]; simp; omega
theorem digL_hi (n : Nat) (h : ¬ n < 10) (h' : n < 16) : (digL n).toNat = 55 + n := by
  unfold digL; rw [if_neg h]; simp; omega

/-- Whether a byte stays as it is in a quoted text. -/
def freeB (c : Int) : Bool := ((((((isB c 2 || isB c 3) || isB c 4) || c == 45) || c == 46) || c == 95) || c == 126)
def quoteB (c : UInt8) : List UInt8 := if freeB (c.toNat : Int) then [c] else [37, digL (c.toNat / 16), digL (c.toNat % 16)]
def quoteL (l : List UInt8) : List UInt8 := l.flatMap quoteB

theorem quoteB_yes {c : UInt8} (h : freeB (c.toNat : Int) = true) : quoteB c = [c] := by unfold quoteB; rw [if_pos h]
theorem quoteB_no {c : UInt8} (h : freeB (c.toNat : Int) = false) : quoteB c = [37, digL (c.toNat / 16), digL (c.toNat % 16)] := by unfold quoteB; rw [if_neg (by simp [h])]

theorem quoteL_snoc (s : ByteArray) (k : Nat) (h : k < s.size) : quoteL (s.data.toList.take (k + 1)) = quoteL (s.data.toList.take k) ++ quoteB s[k] := by
  rw [take_snoc s k h]; simp [quoteL]

theorem quoteB_length (c : UInt8) : (quoteB c).length ≤ 3 := by unfold quoteB; split <;> simp
theorem quoteL_le (l : List UInt8) : (quoteL l).length ≤ 3 * l.length := by
  induction l with
  | nil => simp [quoteL]
  | cons c l ih =>
    have := quoteB_length c
    simp only [quoteL, List.flatMap_cons, List.length_append, List.length_cons] at *
    omega

theorem hex_at (n : Nat) (h : n < 16) : (⟨#[48, 49, 50, 51, 52, 53, 54, 55, 56, 57, 65, 66, 67, 68, 69, 70]⟩ : ByteArray)[n]'(by show n < 16; exact h) = digL n := by
  have key : ∀ i : Fin 16, (⟨#[48, 49, 50, 51, 52, 53, 54, 55, 56, 57, 65, 66, 67, 68, 69, 70]⟩ : ByteArray)[i.val]'(by show i.val < 16; exact i.isLt) = digL i.val := by decide
  exact key ⟨n, h⟩

end Go.Proofs.YtfhcniifennfbaaGreatDoor.M
namespace Go.Proofs.YtfhcniifennfbaaGreatDoor.M

/-- Whether a text is a name, as the document has it. -/
def noSlash (l : List UInt8) : Bool := l.all fun c => !(c == 47)
def nameB (s : ByteArray) : Bool := noSlash s.data.toList && (inB s.size 1 8 && (allB s.data.toList [0] && (!(s.toList == [46]) && !(s.toList == [46, 46]))))

theorem noSlash_snoc (s : ByteArray) (k : Nat) (h : k < s.size) (h0 : noSlash (s.data.toList.take k) = true) (h1 : ¬ s[k] = 47) : noSlash (s.data.toList.take (k + 1)) = true := by
  rw [take_snoc s k h]
  unfold noSlash at *
  rw [List.all_append, h0]
  simp [h1]

theorem mem_at (s : ByteArray) (k : Nat) (h : k < s.size) : s[k] ∈ s.data.toList := by
  have e : s.data.toList.length = s.size := Array.length_toList
  have h' : k < s.data.toList.length := by omega
  exact List.getElem_mem h'

theorem noSlash_not (s : ByteArray) (k : Nat) (h : k < s.size) (h1 : s[k] = 47) : noSlash s.data.toList = false := by
  unfold noSlash
  rw [List.all_eq_false]
  exact ⟨_, mem_at s k h, by simp [h1]⟩

theorem u8_47 {c : UInt8} (h : ((c.toNat : Int) == 47) = true) : c = 47 := by
  have h' : c.toNat = 47 := by simp at h; omega
  exact UInt8.toNat_inj.1 (by rw [h']; rfl)

theorem okc_of {c : UInt8} (h : (32 ≤ (c.toNat : Int) ∧ (c.toNat : Int) ≤ 126) ∧ ((c.toNat : Int) == 47) = false) : anyB (c.toNat : Int) [0] = true ∧ ¬ c = 47 := by
  refine ⟨?_, fun e => by rw [e] at h; exact absurd h.2 (by decide)⟩
  simp [anyB, isB]
  omega

theorem okc_not {c : UInt8} (h : ((c.toNat : Int) < 32 ∨ 126 < (c.toNat : Int)) ∨ ((c.toNat : Int) == 47) = true) (h' : anyB (c.toNat : Int) [0] = true ∧ ¬ c = 47) : False := by
  have h0 := h'.1
  simp [anyB, isB] at h0
  rcases h with h | h
  · omega
  · exact h'.2 (u8_47 h)

theorem noSlash_no (s : ByteArray) (k : Nat) (h : k < s.size) (h1 : ((s[k].toNat : Int) == 47) = true) : nameB s = false := by
  unfold nameB; rw [noSlash_not s k h (u8_47 h1)]; rfl

theorem plain_no (s : ByteArray) (k : Nat) (h : k < s.size) (h1 : anyB (s[k].toNat : Int) [0] = false) : nameB s = false := by
  unfold nameB; rw [allB_not s [0] k h (by simp [h1])]; simp

theorem nameB_all (s : ByteArray) (h0 : noSlash s.data.toList = true) (h1 : inB s.size 1 8 = true) (h2 : allB s.data.toList [0] = true) (h3 : ¬ s.toList = [46]) (h4 : ¬ s.toList = [46, 46]) : nameB s = true := by
  unfold nameB; simp [h0, h1, h2, h3, h4]

end Go.Proofs.YtfhcniifennfbaaGreatDoor.M
namespace Go.Proofs.YtfhcniifennfbaaGreatDoor.M

/-- Whether these are the names of a path, as the document has it. -/
def pathB (ss : List ByteArray) : Bool := ss.all nameB && decide (ss.length ≤ 4)
def qB (s : ByteArray) : ByteArray := bytesOf (quoteL s.data.toList)
def tellL (ss : List ByteArray) : List UInt8 := ss.flatMap fun s => 47 :: quoteL s.data.toList
/-- The text of a path. -/
def ptextL (ss : List ByteArray) : List UInt8 := if pathB ss then (if ss = [] then [47] else tellL ss) else []

theorem ptextL_not {ss : List ByteArray} (h : pathB ss = false) : ptextL ss = [] := by simp [ptextL, h]
theorem ptextL_nil : ptextL [] = [47] := by simp [ptextL, pathB]
theorem ptextL_some {ss : List ByteArray} (h : pathB ss = true) (h0 : ss ≠ []) : ptextL ss = tellL ss := by simp [ptextL, h, h0]

theorem tellL_snoc (ss : List ByteArray) (k : Nat) (h : k < ss.length) : tellL (ss.take (k + 1)) = tellL (ss.take k) ++ [47] ++ quoteL (ss[k]).data.toList := by
  unfold tellL
  rw [List.take_succ_eq_append_getElem h, List.flatMap_append]
  simp only [List.flatMap_cons, List.flatMap_nil, List.append_nil, List.append_assoc, List.singleton_append]

theorem nameB_size {s : ByteArray} (h : nameB s = true) : s.size ≤ 8 := by
  unfold nameB at h
  simp only [Bool.and_eq_true, inB, decide_eq_true_eq] at h
  omega

theorem pathB_name {ss : List ByteArray} (h : pathB ss = true) (k : Nat) (hk : k < ss.length) : nameB ss[k] = true := by
  unfold pathB at h
  simp only [Bool.and_eq_true, List.all_eq_true] at h
  exact h.1 _ (List.getElem_mem hk)
theorem pathB_len {ss : List ByteArray} (h : pathB ss = true) : ss.length ≤ 4 := by
  unfold pathB at h
  simp only [Bool.and_eq_true, decide_eq_true_eq] at h
  exact h.2

theorem quote_short {s : ByteArray} (h : s.size ≤ 8) : (quoteL s.data.toList).length ≤ 24 := by
  have := quoteL_le s.data.toList
  have e : s.data.toList.length = s.size := Array.length_toList
  omega

theorem tellL_le {ss : List ByteArray} (h : pathB ss = true) (k : Nat) (hk : k ≤ ss.length) : (tellL (ss.take k)).length ≤ 25 * k := by
  induction k with
  | zero => simp [tellL]
  | succ k ih =>
    rw [tellL_snoc ss k hk]
    have h1 := ih (by omega)
    have h2 := quote_short (nameB_size (pathB_name h k hk))
    simp only [List.length_append, List.length_cons, List.length_nil]
    omega

theorem tellL_join (ss : List ByteArray) (h : ss ≠ []) : [47] ++ Lib.join ((ss.map qB).map (·.data.toList)) [47] = tellL ss := by
  cases ss with
  | nil => exact absurd rfl h
  | cons s r =>
    rw [List.map_cons, List.map_cons, Lib.join_cons]
    simp only [tellL, Lib.joinTail, List.map_map, List.flatMap]
    simp only [Function.comp_def, qB, bytesOf, List.cons_append, List.nil_append, List.map_cons, List.flatten_cons]

theorem join_le {ss : List ByteArray} (h : pathB ss = true) : (Lib.join ((ss.map qB).map (·.data.toList)) [47]).length ≤ 100 := by
  by_cases h0 : ss = []
  · subst h0; simp [Lib.join]
  · have e := congrArg List.length (tellL_join ss h0)
    have h1 := tellL_le h ss.length (Nat.le_refl _)
    rw [List.take_length] at h1
    have := pathB_len h
    simp only [List.length_append, List.length_cons, List.length_nil] at e
    omega
end Go.Proofs.YtfhcniifennfbaaGreatDoor.M
namespace Go.Proofs.YtfhcniifennfbaaGreatDoor
open Go.RowKit

namespace M
/-- A lock. -/
structure Lk where
  tk : Int
  pa : List ByteArray
  de : Bool
  sh : Bool
  un : Int
deriving DecidableEq
end M
open M

def szK (r : Lk) : Nat := r.pa.length + sumS r.pa
def sumK (rs : List Lk) : Nat := (rs.map szK).sum
theorem sumK_snoc (rs : List Lk) (k : Nat) (hk : k < rs.length) : sumK (rs.take (k + 1)) = sumK (rs.take k) + szK rs[k] := by
  unfold sumK
  rw [List.take_succ_eq_append_getElem hk, List.map_append, List.sum_append]
  simp only [List.map_cons, List.map_nil, List.sum_cons, List.sum_nil, Nat.add_zero]
theorem sumK_mem (rs : List Lk) (r : Lk) (h : r ∈ rs) : szK r ≤ sumK rs := by
  induction rs with
  | nil => cases h
  | cons x l ih =>
    simp only [sumK, List.map_cons, List.sum_cons] at *
    rcases List.mem_cons.1 h with rfl | h
    · omega
    · have := ih h; omega
theorem sumK_append (a b : List Lk) : sumK (a ++ b) = sumK a + sumK b := by simp [sumK]
theorem sumK_sub {a b : List Lk} (h : List.Sublist a b) : sumK a ≤ sumK b := by
  induction h with
  | slnil => exact Nat.le_refl _
  | cons x _ ih => simp only [sumK, List.map_cons, List.sum_cons] at *; omega
  | cons_cons x _ ih => simp only [sumK, List.map_cons, List.sum_cons] at *; omega

def sameK (ss tt : List Lk) : Bool := decide (ss = tt)
theorem sameK_refl (ss : List Lk) : sameK ss ss = true := by simp [sameK]
theorem sameK_len {ss tt : List Lk} (h : ¬ ss.length = tt.length) : sameK ss tt = false := by
  simp only [sameK, decide_eq_false_iff_not]; intro e; exact h (by rw [e])
theorem sameK_not {ss tt : List Lk} (k : Nat) (h1 : k < ss.length) (h2 : k < tt.length) (h : ¬ ss[k] = tt[k]) : sameK ss tt = false := by
  simp only [sameK, decide_eq_false_iff_not]; intro e; subst e; exact h rfl
theorem sameK_all {ss tt : List Lk} (hl : ss.length = tt.length) (k : Nat) (hk : ¬ k < ss.length) (h : ss.take k = tt.take k) : sameK ss tt = true := by
  rw [List.take_of_length_le (by omega), List.take_of_length_le (by omega)] at h
  simp [sameK, h]
theorem take_sameK {ss tt : List Lk} (k : Nat) (h1 : k < ss.length) (h2 : k < tt.length) (h0 : ss.take k = tt.take k) (h : ss[k] = tt[k]) : ss.take (k + 1) = tt.take (k + 1) := by
  rw [List.take_succ_eq_append_getElem h1, List.take_succ_eq_append_getElem h2, h0, h]

/-- Whether it is a lock. -/
def lockB (x : Lk) : Bool := inB x.tk 1 9999 && (pathB x.pa && inB x.un 0 9999999)
/-- Whether it covers a path. -/
def covB (x : Lk) (p : List ByteArray) : Bool := sameL x.pa p || (x.de && underB p x.pa)
def clashB (a b : Lk) : Bool := (!a.sh || !b.sh) && (covB a b.pa || covB b a.pa)
/-- Whether two of one list bar each other. -/
def barB (a b : Lk) : Bool := decide (a.tk = b.tk) || clashB a b
theorem clashB_comm (a b : Lk) : clashB a b = clashB b a := by
  unfold clashB
  rw [Bool.or_comm (!a.sh), Bool.or_comm (covB a b.pa)]
/-- Whether lock i is right, and bars none ahead of it. -/
def okLkAt (l : List Lk) (i : Nat) : Bool := match l[i]? with
  | none => true
  | some x => lockB x && (l.take i).all fun y => !barB y x
def locksB (l : List Lk) : Bool := decide (l.length ≤ 6) && (List.range l.length).all (okLkAt l)
end Go.Proofs.YtfhcniifennfbaaGreatDoor
