/-
  Plain facts on bytes, their kinds, and texts of them: no program in sight.
  Plain facts on a text without the blanks at its ends: no program in sight.
  Plain facts on small names: no program in sight.
-/
namespace Go.Proofs.YtnoijfnpchihoaaGreatDoor.M

/-- Whether a byte is of a kind, as the document has it. -/
def isB (c k : Int) : Bool :=
  if k = 0 then decide (32 ≤ c) && decide (c ≤ 126)
  else if k = 1 then (c == 32) || (c == 9)
  else if k = 2 then decide (97 ≤ c) && decide (c ≤ 122)
  else if k = 3 then decide (65 ≤ c) && decide (c ≤ 90)
  else if k = 4 then decide (48 ≤ c) && decide (c ≤ 57)
  else if k = 5 then decide (97 ≤ c) && decide (c ≤ 102)
  else if k = 6 then decide (65 ≤ c) && decide (c ≤ 70)
  else if k = 7 then c == 45
  else false

def anyB (c : Int) (ks : List Int) : Bool := ks.any (isB c)
def allB (l : List UInt8) (ks : List Int) : Bool := l.all fun c => anyB (c.toNat : Int) ks

theorem take_snoc (s : ByteArray) (k : Nat) (h : k < s.size) : s.data.toList.take (k + 1) = s.data.toList.take k ++ [s[k]] := by
  rw [List.take_succ_eq_append_getElem (by simpa using h)]; rfl

theorem take_all (s : ByteArray) (k : Nat) (h : ¬ k < s.size) : s.data.toList.take k = s.data.toList := by
  rw [List.take_of_length_le]
  have : s.data.toList.length = s.size := Array.length_toList
  omega

theorem anyB_snoc (c : Int) (ks : List Int) (k : Nat) (h : k < ks.length) (h0 : anyB c (ks.take k) = false) (h1 : isB c ks[k] = false) : anyB c (ks.take (k + 1)) = false := by
  unfold anyB at *
  rw [List.take_succ_eq_append_getElem h, List.any_append, h0]
  simp [h1]

theorem anyB_of (c : Int) (ks : List Int) (k : Nat) (h : k < ks.length) (h1 : isB c ks[k] = true) : anyB c ks = true := by
  unfold anyB
  rw [List.any_eq_true]
  exact ⟨_, List.getElem_mem h, h1⟩

theorem allB_snoc (s : ByteArray) (ks : List Int) (k : Nat) (h : k < s.size) (h0 : allB (s.data.toList.take k) ks = true) (h2 : (!anyB (s[k].toNat : Int) ks) = false) : allB (s.data.toList.take (k + 1)) ks = true := by
  have h1 : anyB (s[k].toNat : Int) ks = true := by simpa using h2
  rw [take_snoc s k h]
  unfold allB at *
  rw [List.all_append, h0]
  simp [h1]

theorem allB_not (s : ByteArray) (ks : List Int) (k : Nat) (h : k < s.size) (h2 : (!anyB (s[k].toNat : Int) ks) = true) : allB s.data.toList ks = false := by
  have h1 : anyB (s[k].toNat : Int) ks = false := by simpa using h2
  have hm : s[k] ∈ s.data.toList := by
    have e : s.data.toList.length = s.size := Array.length_toList
    have h' : k < s.data.toList.length := by omega
    exact List.getElem_mem h'
  unfold allB
  rw [List.all_eq_false]
  exact ⟨_, hm, by simp [h1]⟩

/-- Whether a number lies between two. -/
def inB (x a b : Int) : Bool := decide (a ≤ x) && decide (x ≤ b)
theorem inB_plain (c : Int) : inB c 32 126 = anyB c [0] := by simp [inB, anyB, isB]
theorem inB_small (c : Int) : inB c 97 122 = isB c 2 := by simp [inB, isB]
theorem inB_large (c : Int) : inB c 65 90 = isB c 3 := by simp [inB, isB]
theorem inB_digit (c : Int) : inB c 48 57 = isB c 4 := by simp [inB, isB]
theorem inB_hexs (c : Int) : inB c 97 102 = isB c 5 := by simp [inB, isB]
theorem inB_hexl (c : Int) : inB c 65 70 = isB c 6 := by simp [inB, isB]
theorem anyB_one (c k : Int) : anyB c [k] = isB c k := by simp [anyB]

theorem set_last (pre t : List UInt8) (n : Nat) (h : pre.length = n + 1) (c : UInt8) : ∃ q : List UInt8, q.length = n ∧ (pre ++ t).set n c = q ++ c :: t := by
  refine ⟨pre.take n, by rw [List.length_take]; omega, ?_⟩
  have e : pre = pre.take n ++ [pre[n]] := by
    conv => lhs; rw [← List.take_append_drop n pre]
    rw [List.drop_eq_getElem_cons (by omega), List.drop_of_length_le (by omega)]
  have e2 : pre ++ t = pre.take n ++ (pre[n] :: t) := by
    conv => lhs; rw [e]
    rw [List.append_assoc]; rfl
  have l2 : (pre.take n).length = n := by rw [List.length_take]; omega
  rw [e2, List.set_append_right _ _ (by omega), l2, Nat.sub_self, List.set_cons_zero]

/-- A large letter as a small one. -/
def lowB (c : UInt8) : UInt8 := if isB (c.toNat : Int) 3 then c + 32 else c
def lowL (l : List UInt8) : List UInt8 := l.map lowB

theorem lowB_yes (c : UInt8) (h : isB (c.toNat : Int) 3 = true) : (lowB c).toNat = c.toNat + 32 := by
  have h' : 65 ≤ c.toNat ∧ c.toNat ≤ 90 := by simp [isB] at h; omega
  unfold lowB
  rw [if_pos h, UInt8.toNat_add]
  have : (32 : UInt8).toNat = 32 := rfl
  omega

theorem lowB_no (c : UInt8) (h : isB (c.toNat : Int) 3 = false) : lowB c = c := by
  unfold lowB
  rw [if_neg (by simp [h])]

theorem isB3 {c : Int} (h : isB c 3 = true) : 65 ≤ c ∧ c ≤ 90 := by simp [isB] at h; omega

theorem lowL_snoc (s : ByteArray) (k : Nat) (h : k < s.size) : lowL (s.data.toList.take (k + 1)) = lowL (s.data.toList.take k) ++ [lowB s[k]] := by
  rw [take_snoc s k h]; simp [lowL]

/-- The first k made small, the rest as it was. -/
def mixL (l : List UInt8) (k : Nat) : List UInt8 := lowL (l.take k) ++ l.drop k
theorem mixL_length (l : List UInt8) (k : Nat) : (mixL l k).length = l.length := by
  simp only [mixL, lowL, List.length_append, List.length_map, List.length_take, List.length_drop]; omega
theorem mixL_zero (l : List UInt8) : mixL l 0 = l := by simp [mixL, lowL]
theorem mixL_all (l : List UInt8) (k : Nat) (h : l.length ≤ k) : mixL l k = lowL l := by
  simp [mixL, List.take_of_length_le h, List.drop_of_length_le h]
theorem mixL_get (l : List UInt8) (k : Nat) (h : k < l.length) (h' : k < (mixL l k).length) : (mixL l k)[k] = l[k] := by
  have e : (lowL (l.take k)).length = k := by simp only [lowL, List.length_map, List.length_take]; omega
  simp only [mixL]
  rw [List.getElem_append_right (by omega)]
  simp only [e, Nat.sub_self, List.getElem_drop, Nat.add_zero]
theorem mixL_succ (l : List UInt8) (k : Nat) (h : k < l.length) : mixL l (k + 1) = (mixL l k).set k (lowB l[k]) := by
  have e : (lowL (l.take k)).length = k := by simp only [lowL, List.length_map, List.length_take]; omega
  simp only [mixL]
  rw [List.set_append_right _ _ (by omega), e, Nat.sub_self, List.drop_eq_getElem_cons h, List.set_cons_zero, List.take_succ_eq_append_getElem h]
  simp only [lowL, List.map_append, List.map_cons, List.map_nil, List.append_assoc, List.singleton_append]

end Go.Proofs.YtnoijfnpchihoaaGreatDoor.M
namespace Go.Proofs.YtnoijfnpchihoaaGreatDoor.M

def bl (c : UInt8) : Bool := isB (c.toNat : Int) 1
def trimL (l : List UInt8) : List UInt8 := ((l.dropWhile bl).reverse.dropWhile bl).reverse

theorem trimL_front (c : UInt8) (r : List UInt8) (h : bl c = true) : trimL (c :: r) = trimL r := by
  simp [trimL, h]

theorem dropWhile_append_single (p : UInt8 → Bool) (l : List UInt8) (c : UInt8) (h : p c = true) : (l ++ [c]).dropWhile p = if l.dropWhile p = [] then [] else l.dropWhile p ++ [c] := by
  induction l with
  | nil => simp [h]
  | cons a r ih =>
    simp only [List.cons_append, List.dropWhile_cons]
    cases p a <;> simp [ih]

theorem trimL_back (l : List UInt8) (c : UInt8) (h : bl c = true) : trimL (l ++ [c]) = trimL l := by
  unfold trimL
  rw [dropWhile_append_single bl l c h]
  by_cases e : l.dropWhile bl = []
  · simp [e]
  · simp [e, h]

theorem dropWhile_head (p : UInt8 → Bool) (c : UInt8) (r : List UInt8) (h : p c = false) : (c :: r).dropWhile p = c :: r := by
  simp [h]

theorem trimL_nil : trimL [] = [] := rfl

theorem trimL_done (l : List UInt8) (h0 : 0 < l.length) (hf : bl l[0] = false) (hb : bl (l[l.length - 1]) = false) : trimL l = l := by
  have e1 : l.dropWhile bl = l := by
    cases l with
    | nil => simp at h0
    | cons c r => exact dropWhile_head bl c r hf
  have e2 : l.reverse.dropWhile bl = l.reverse := by
    have hne : l ≠ [] := by intro e; simp [e] at h0
    have hl : l.getLast hne = l[l.length - 1] := List.getLast_eq_getElem hne
    have e3 : l.reverse = l.getLast hne :: l.dropLast.reverse := by
      conv => lhs; rw [← List.dropLast_concat_getLast hne]
      simp
    rw [e3]
    exact dropWhile_head bl _ _ (by rw [hl]; exact hb)
  rw [trimL, e1, e2, List.reverse_reverse]

/-- A text cut: its bytes from a up to b. -/
def cut (s : ByteArray) (a b : Nat) : List UInt8 := (s.data.toList.take b).drop a

theorem cut_all (s : ByteArray) : cut s 0 s.size = s.data.toList := by
  have e : s.data.toList.length = s.size := Array.length_toList
  unfold cut
  rw [List.drop_zero, List.take_of_length_le (by omega)]

theorem cut_length (s : ByteArray) (a b : Nat) (hb : b ≤ s.size) : (cut s a b).length = b - a := by
  have e : s.data.toList.length = s.size := Array.length_toList
  unfold cut
  rw [List.length_drop, List.length_take]
  omega

theorem cut_get (s : ByteArray) (a b i : Nat) (hb : b ≤ s.size) (hi : a + i < b) : (cut s a b)[i]'(by rw [cut_length s a b hb]; omega) = s[a + i] := by
  simp only [cut, List.getElem_drop, List.getElem_take]
  rfl

theorem cut_front (s : ByteArray) (a b : Nat) (hb : b ≤ s.size) (h : a < b) : cut s a b = s[a] :: cut s (a + 1) b := by
  have e : s.data.toList.length = s.size := Array.length_toList
  unfold cut
  rw [List.drop_eq_getElem_cons (by rw [List.length_take]; omega), List.getElem_take]
  rfl

theorem cut_back (s : ByteArray) (a b : Nat) (hb : b ≤ s.size) (h : a < b) : cut s a b = cut s a (b - 1) ++ [s[b - 1]] := by
  have e : s.data.toList.length = s.size := Array.length_toList
  obtain ⟨c, rfl⟩ : ∃ c, b = c + 1 := ⟨b - 1, by omega⟩
  simp only [Nat.add_sub_cancel]
  unfold cut
  rw [List.take_succ_eq_append_getElem (by omega), List.drop_append_of_le_length (by rw [List.length_take]; omega)]
  rfl

theorem cut_empty (s : ByteArray) (a b : Nat) (h : b ≤ a) : cut s a b = [] := by
  unfold cut
  rw [List.drop_eq_nil_iff, List.length_take]
  omega

theorem cut_trim_front (s : ByteArray) (a b : Nat) (hb : b ≤ s.size) (h : a < b) (hc : bl s[a] = true) : trimL (cut s a b) = trimL (cut s (a + 1) b) := by
  rw [cut_front s a b hb h, trimL_front _ _ hc]

theorem cut_trim_back (s : ByteArray) (a b : Nat) (hb : b ≤ s.size) (h : a < b) (hc : bl s[b - 1] = true) : trimL (cut s a b) = trimL (cut s a (b - 1)) := by
  rw [cut_back s a b hb h, trimL_back _ _ hc]

theorem cut_trim_done (s : ByteArray) (a b : Nat) (hb : b ≤ s.size) (h : a < b) (hf : bl s[a] = false) (hl : bl s[b - 1] = false) : trimL (cut s a b) = cut s a b := by
  have e := cut_length s a b hb
  apply trimL_done
  · rw [cut_get s a b 0 hb (by omega)]; exact hf
  · have := cut_get s a b (b - a - 1) hb (by omega)
    simp only [e]
    rw [this]
    have e2 : a + (b - a - 1) = b - 1 := by omega
    simp only [e2]; exact hl

theorem extract_cut (s : ByteArray) (a b : Nat) : (s.extract a b).data.toList = cut s a b := by
  unfold cut
  rw [ByteArray.data_extract, Array.toList_extract]
  simp [List.extract_eq_take_drop, List.drop_take]

theorem cut_cut (s : ByteArray) (a b c d : Nat) (hb : b ≤ s.size) (hd : a + d ≤ b) : cut (s.extract a b) c d = cut s (a + c) (a + d) := by
  have e : s.data.toList.length = s.size := Array.length_toList
  unfold cut
  rw [extract_cut]
  unfold cut
  apply List.ext_getElem
  · simp only [List.length_drop, List.length_take]; omega
  · intro i h1 h2
    simp only [List.getElem_drop, List.getElem_take, Nat.add_assoc]

theorem anyB_bl (c : UInt8) : anyB (c.toNat : Int) [1] = bl c := by simp [anyB, bl]

theorem size_extract (s : ByteArray) (a b : Nat) (hb : b ≤ s.size) : (s.extract a b).size = b - a := by
  have e : (s.extract a b).data.toList.length = (s.extract a b).size := Array.length_toList
  rw [← e, extract_cut, cut_length s a b hb]

theorem step_front (t : ByteArray) (l : List UInt8) (h0 : 0 < t.size) (hb : bl t[0] = true) (H : trimL t.data.toList = l) : trimL (t.extract 1 t.size).data.toList = l := by
  rw [extract_cut, ← cut_trim_front t 0 t.size (Nat.le_refl _) h0 hb, cut_all, H]

theorem step_back (t : ByteArray) (l : List UInt8) (h0 : 0 < t.size) (hb : bl t[t.size - 1] = true) (H : trimL t.data.toList = l) : trimL (t.extract 0 (t.size - 1)).data.toList = l := by
  rw [extract_cut, ← cut_trim_back t 0 t.size (Nat.le_refl _) h0 hb, cut_all, H]

theorem step_back_head (t : ByteArray) (h0 : 0 < t.size) (hf : bl t[0] = false) (h : 0 < (t.extract 0 (t.size - 1)).size) : bl (t.extract 0 (t.size - 1))[0] = false := by
  have e : (t.extract 0 (t.size - 1))[0] = t[0] := by
    rw [ByteArray.getElem_extract]
  rw [e]; exact hf

theorem step_done (t : ByteArray) (l : List UInt8) (h0 : 0 < t.size) (hf : bl t[0] = false) (hb : bl t[t.size - 1] = false) (H : trimL t.data.toList = l) : t.data.toList = l := by
  rw [← H, ← cut_all t]
  exact (cut_trim_done t 0 t.size (Nat.le_refl _) h0 hf hb).symm

theorem step_none (t : ByteArray) (l : List UInt8) (h0 : ¬ 0 < t.size) (H : trimL t.data.toList = l) : t.data.toList = l := by
  have e : t.data.toList = [] := by rw [← cut_all t]; exact cut_empty _ _ _ (by omega)
  rw [← H, e]; rfl

end Go.Proofs.YtnoijfnpchihoaaGreatDoor.M
namespace Go.Proofs.YtnoijfnpchihoaaGreatDoor.M

/-- A small name: a small letter, then small letters, digits and hyphens, at most 20 in all. -/
def smB : List UInt8 → Bool
  | [] => false
  | c :: r => decide ((c :: r).length ≤ 20) && isB (c.toNat : Int) 2 && allB (c :: r) [2, 4, 7]

/-- What the specification asks of the byte at place i. -/
def okAt (i : Nat) (c : Int) : Bool := isB c 2 || (i != 0 && (isB c 4 || c == 45))

theorem anyB_3 (c : Int) : anyB c [2, 4, 7] = (isB c 2 || (isB c 4 || c == 45)) := by
  simp [anyB, isB]

theorem okAt_any {i : Nat} {c : Int} (h : okAt i c = true) : anyB c [2, 4, 7] = true := by
  rw [anyB_3]
  unfold okAt at h
  cases h1 : isB c 2 <;> simp_all

theorem ok1 {k : Nat} {c : Int} (h : isB c 2 = true) : okAt k c = true := by simp [okAt, h]
theorem no2 {k : Nat} {c : Int} (h : ¬ isB c 2 = true) (h1 : k = 0) : okAt k c = false := by simp [okAt, h1]; simpa using h
theorem ok3 {k : Nat} {c : Int} (h1 : ¬ k = 0) (h2 : isB c 4 = true) : okAt k c = true := by simp [okAt, h1, h2]
theorem no4 {k : Nat} {c : Int} (h : ¬ isB c 2 = true) (h1 : ¬ k = 0) (h2 : ¬ isB c 4 = true) (h3 : ((k : Int) == 0) = true ∨ (c != 45) = true) : okAt k c = false := by
  rcases h3 with h3 | h3
  · simp at h3; exact absurd h3 h1
  · simp at h h2 h3; simp [okAt, h, h2, h3]
theorem ok5 {k : Nat} {c : Int} (h1 : ¬ k = 0) (h3 : ((k : Int) == 0) = false ∧ (c != 45) = false) : okAt k c = true := by
  obtain ⟨_, h3⟩ := h3
  simp at h3
  simp [okAt, h1, h3]

theorem smB_notL (l : List UInt8) (k : Nat) (h' : k < l.length) (h1 : okAt k (l[k].toNat : Int) = false) : smB l = false := by
  match l, k, h', h1 with
  | c :: r, 0, h', h1 =>
    have h2 : okAt 0 (c.toNat : Int) = false := h1
    simp [okAt] at h2
    simp [smB, h2]
  | c :: r, k + 1, h', h1 =>
    simp only [List.getElem_cons_succ] at h1
    have h2 : anyB (r[k]'(by simpa using h')).toNat [2, 4, 7] = false := by
      rw [anyB_3]; simpa [okAt] using h1
    have h3 : allB (c :: r) [2, 4, 7] = false := by
      unfold allB
      rw [List.all_eq_false]
      exact ⟨_, List.mem_cons_of_mem _ (List.getElem_mem (by simpa using h')), by simp [h2]⟩
    simp [smB, h3]

theorem smB_not (s : ByteArray) (k : Nat) (h : k < s.size) (h1 : okAt k (s[k].toNat : Int) = false) : smB s.data.toList = false := by
  have e : s.data.toList.length = s.size := Array.length_toList
  exact smB_notL s.data.toList k (by omega) h1

theorem smB_allL (l : List UInt8) (h2 : ∀ i (hi : i < l.length), okAt i (l[i].toNat : Int) = true) : smB l = inB (l.length : Int) 1 20 := by
  match l, h2 with
  | [], _ => simp [smB, inB]
  | c :: r, h2 =>
    have h0 : okAt 0 (c.toNat : Int) = true := h2 0 (by simp)
    have h3 : isB (c.toNat : Int) 2 = true := by simpa [okAt] using h0
    have h4 : allB (c :: r) [2, 4, 7] = true := by
      unfold allB
      rw [List.all_eq_true]
      intro x hx
      obtain ⟨i, hi, rfl⟩ := List.mem_iff_getElem.1 hx
      exact okAt_any (h2 i hi)
    simp only [smB, h3, h4, inB]
    rw [Bool.and_true, Bool.and_true, Bool.eq_iff_iff]
    simp
    omega

theorem smB_all (s : ByteArray) (h : ∀ i (hi : i < s.size), okAt i (s[i].toNat : Int) = true) : smB s.data.toList = inB (s.size : Int) 1 20 := by
  have e : s.data.toList.length = s.size := Array.length_toList
  rw [← e]
  exact smB_allL s.data.toList fun i hi => h i (by omega)

theorem smB_implL (l : List UInt8) (h0 : 0 < l.length) (h1 : l.length ≤ 20) : smB l = (isB (l[0].toNat : Int) 2 && allB l [2, 4, 7]) := by
  match l, h0, h1 with
  | c :: r, h0, h1 =>
    have h1' : r.length + 1 ≤ 20 := by simpa using h1
    show smB (c :: r) = (isB (c.toNat : Int) 2 && allB (c :: r) [2, 4, 7])
    simp [smB, h1']

/-- The program's own way to it. -/
theorem smB_impl (s : ByteArray) (h0 : 0 < s.size) (h1 : s.size ≤ 20) : smB s.data.toList = (isB ((s[0]).toNat : Int) 2 && allB s.data.toList [2, 4, 7]) := by
  have e : s.data.toList.length = s.size := Array.length_toList
  exact smB_implL s.data.toList (by omega) (by omega)

theorem smB_longL (l : List UInt8) (h : l.length < 1 ∨ 20 < l.length) : smB l = false := by
  match l, h with
  | [], _ => rfl
  | c :: r, h =>
    have h' : ¬ r.length + 1 ≤ 20 := by simp at h; omega
    simp [smB, h']

theorem smB_long (s : ByteArray) (h : s.size < 1 ∨ 20 < s.size) : smB s.data.toList = false := by
  have e : s.data.toList.length = s.size := Array.length_toList
  exact smB_longL _ (by omega)

end Go.Proofs.YtnoijfnpchihoaaGreatDoor.M
