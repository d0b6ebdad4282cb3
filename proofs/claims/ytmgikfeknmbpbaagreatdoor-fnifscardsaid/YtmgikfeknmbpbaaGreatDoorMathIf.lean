/-
  Lists of what must be: how they are read, and how they are told; no program in sight.
-/
import Derived.Test.YtmgikfeknmbpbaaGreatDoorTurn
namespace Go.Proofs.YtmgikfeknmbpbaaGreatDoor.M
set_option linter.unusedVariables false

/-- What must be: whether not, a Token, a mark. -/
structure Cn where
  no : Bool
  tk : Int
  tg : ByteArray

def notL : List UInt8 := [78, 111, 116, 32]
def cutNot (l : List UInt8) : Bool × List UInt8 := if notL.isPrefixOf l = true then (true, l.drop 4) else (false, l)
/-- A Token of its digits. -/
def numC (d : List UInt8) : Option Int := if (parseNum d 9999).2 = true ∧ 1 ≤ (parseNum d 9999).1 then some (parseNum d 9999).1 else none
def tokC (no : Bool) (l : List UInt8) : Option (Cn × List UInt8) :=
  if fromB 62 l = [] then none else match numC (upTo 62 l) with
    | none => none
    | some n => some (⟨no, n, ⟨#[]⟩⟩, (fromB 62 l).tail)
def tagC (no : Bool) (l : List UInt8) : Option (Cn × List UInt8) :=
  match cutT l with
  | none => none
  | some (m, r) => if m = [] then none else if r.head? = some 93 then some (⟨no, 0, bytesOf (tagL m)⟩, r.tail) else none
def bodyC (no : Bool) (l : List UInt8) : Option (Cn × List UInt8) :=
  if l.head? = some 60 then tokC no l.tail else if l.head? = some 91 then tagC no l.tail else none
/-- One, and what stands behind. -/
def condL (l : List UInt8) : Option (Cn × List UInt8) := bodyC (cutNot l).1 (cutNot l).2

theorem fromB_len {c : UInt8} {l : List UInt8} (h : fromB c l ≠ []) : (fromB c l).tail.length + 1 ≤ l.length := by
  have h1 := fromB_le c l
  cases hf : fromB c l with
  | nil => exact absurd hf h
  | cons a r => rw [hf] at h1; simpa using h1
theorem cutT_len {l m r : List UInt8} (h : cutT l = some (m, r)) : r.length + 2 ≤ l.length := by
  cases l with
  | nil => cases h
  | cons c t =>
    rw [cutT] at h
    split at h
    · split at h
      · cases h
      · rename_i hf
        split at h
        · cases h
          have := fromB_len hf
          rw [List.length_cons]; omega
        · cases h
    · cases h
theorem bodyC_len {no : Bool} {l r : List UInt8} {c : Cn} (h : bodyC no l = some (c, r)) : r.length < l.length := by
  unfold bodyC at h
  have ht : l ≠ [] → l.tail.length + 1 = l.length := fun hl => by cases l with | nil => exact absurd rfl hl | cons a q => simp
  split at h
  · rename_i hh
    have hl : l ≠ [] := fun e => by rw [e] at hh; cases hh
    have := ht hl
    unfold tokC at h
    split at h
    · cases h
    · rename_i hf
      have := fromB_len hf
      split at h
      · cases h
      · cases h; omega
  · split at h
    · rename_i hh
      have hl : l ≠ [] := fun e => by rw [e] at hh; cases hh
      have := ht hl
      unfold tagC at h
      split at h
      · cases h
      · rename_i m q hc
        have := cutT_len hc
        split at h
        · cases h
        · split at h
          · cases h
            rw [List.length_tail]; omega
          · cases h
    · cases h
theorem cutNot_len (l : List UInt8) : (cutNot l).2.length ≤ l.length := by
  unfold cutNot
  split
  · simp
  · exact Nat.le_refl _
theorem condL_len {l r : List UInt8} {c : Cn} (h : condL l = some (c, r)) : r.length < l.length := by
  have h1 := bodyC_len h
  have h2 := cutNot_len l
  omega

/-- Several, with one blank between. -/
def condsL (l : List UInt8) : Option (List Cn × List UInt8) :=
  match h : condL l with
  | none => none
  | some (c, r) => if r.head? = some 32 then (condsL r.tail).map fun x => (c :: x.1, x.2) else some ([c], r)
termination_by l.length
decreasing_by
  have := condL_len h
  rw [List.length_tail]; omega
theorem condsL_none {l : List UInt8} (h : condL l = none) : condsL l = none := by
  rw [condsL]; split
  · rfl
  · rename_i h2; rw [h] at h2; cases h2
theorem condsL_some {l r : List UInt8} {c : Cn} (h : condL l = some (c, r)) : condsL l = if r.head? = some 32 then (condsL r.tail).map fun x => (c :: x.1, x.2) else some ([c], r) := by
  rw [condsL]; split
  · rename_i h2; rw [h] at h2; cases h2
  · rename_i h2; rw [h] at h2; cases h2; rfl
theorem condsL_end {l r : List UInt8} {c : Cn} (h : condL l = some (c, r)) (hr : ¬ r.head? = some 32) : condsL l = some ([c], r) := by rw [condsL_some h, if_neg hr]
theorem condsL_next {l r : List UInt8} {c : Cn} (h : condL l = some (c, r)) (hr : r.head? = some 32) : condsL l = (condsL r.tail).map fun x => (c :: x.1, x.2) := by rw [condsL_some h, if_pos hr]
theorem condsL_len (n : Nat) : ∀ l : List UInt8, l.length < n → ∀ cs r, condsL l = some (cs, r) → r.length < l.length ∧ 0 < cs.length := by
  induction n with
  | zero => intro l hl; exact absurd hl (Nat.not_lt_zero _)
  | succ n ih =>
    intro l hl cs r h
    cases hc : condL l with
    | none => rw [condsL_none hc] at h; cases h
    | some x =>
      obtain ⟨c, q⟩ := x
      have hq := condL_len hc
      by_cases hh : q.head? = some 32
      · rw [condsL_next hc hh] at h
        cases hd : condsL q.tail with
        | none => rw [hd] at h; cases h
        | some y =>
          obtain ⟨ds, z⟩ := y
          rw [hd] at h
          cases h
          have h1 := ih q.tail (by rw [List.length_tail]; omega) ds z hd
          rw [List.length_tail] at h1
          exact ⟨by show z.length < l.length; omega, by simp⟩
      · rw [condsL_end hc hh] at h
        cases h
        exact ⟨hq, by simp⟩
/-- One list, with its brackets, of four at most. -/
def listL (l : List UInt8) : Option (List Cn × List UInt8) :=
  if l.head? = some 40 then match condsL l.tail with
    | none => none
    | some (cs, r) => if cs.length ≤ 4 ∧ r.head? = some 41 then some (cs, r.tail) else none
  else none
theorem listL_len {l r : List UInt8} {cs : List Cn} (h : listL l = some (cs, r)) : r.length < l.length := by
  unfold listL at h
  split at h
  · split at h
    · cases h
    · rename_i q hq
      split at h
      · cases h
        have h1 := (condsL_len _ l.tail (Nat.lt_succ_self _) _ _ hq).1
        have h2 : l.tail.length ≤ l.length := by simp
        have h3 : q.tail.length ≤ q.length := by simp
        omega
      · cases h
  · cases h
def blk (l : List UInt8) : List UInt8 := l.dropWhile (· == 32)
theorem blk_len (l : List UInt8) : (blk l).length ≤ l.length := dropWhile_len _ _
/-- Several, with blanks between. -/
def listsL (l : List UInt8) : Option (List (List Cn)) :=
  match h : listL l with
  | none => none
  | some (cs, r) => if r = [] then some [cs] else (listsL (blk r)).map (cs :: ·)
termination_by l.length
decreasing_by
  have := listL_len h
  have := blk_len r
  omega
theorem listsL_none {l : List UInt8} (h : listL l = none) : listsL l = none := by
  rw [listsL]; split
  · rfl
  · rename_i h2; rw [h] at h2; cases h2
theorem listsL_end {l : List UInt8} {cs : List Cn} (h : listL l = some (cs, [])) : listsL l = some [cs] := by
  rw [listsL]; split
  · rename_i h2; rw [h] at h2; cases h2
  · rename_i h2; rw [h] at h2; cases h2; rfl
theorem listsL_next {l r : List UInt8} {cs : List Cn} (h : listL l = some (cs, r)) (hr : r ≠ []) : listsL l = (listsL (blk r)).map (cs :: ·) := by
  rw [listsL]; split
  · rename_i h2; rw [h] at h2; cases h2
  · rename_i h2; rw [h] at h2; cases h2; rw [if_neg hr]
/-- What is read of a text. -/
def ifL (l : List UInt8) : Option (List (List Cn)) := (listsL l).bind fun ls => if ls.length ≤ 4 then some ls else none

/-! How they are told. -/
def condT (c : Cn) : List UInt8 := (if c.no = true then notL else []) ++ (if c.tg.data.toList = [] then 60 :: (Lib.decDigits c.tk.toNat ++ [62]) else 91 :: (c.tg.data.toList ++ [93]))
/-- One that can be told. -/
def okC (c : Cn) : Prop := (c.tg.data.toList = [] ∧ 1 ≤ c.tk ∧ c.tk ≤ 9999) ∨ (c.tk = 0 ∧ ∃ m, c.tg = bytesOf (tagL m) ∧ m ≠ [] ∧ 34 ∉ m ∧ innB m = true)
def joinT (ts : List (List UInt8)) : List UInt8 := (ts.intersperse [32]).flatten
def listT (cs : List Cn) : List UInt8 := 40 :: (joinT (cs.map condT) ++ [41])
def ifT (ls : List (List Cn)) : List UInt8 := joinT (ls.map listT)
def okLs (cs : List Cn) : Prop := 1 ≤ cs.length ∧ cs.length ≤ 4 ∧ ∀ c ∈ cs, okC c
def okIf (ls : List (List Cn)) : Prop := 1 ≤ ls.length ∧ ls.length ≤ 4 ∧ ∀ cs ∈ ls, okLs cs

theorem cutT_tag {m r : List UInt8} (h : 34 ∉ m) (hi : innB m = true) : cutT (tagL m ++ r) = some (m, r) := by
  have e : tagL m ++ r = 34 :: (m ++ 34 :: r) := by simp [tagL]
  obtain ⟨h1, h2⟩ := upTo_all (c := 34) (l := m) (fun x hx e => h (e ▸ hx)) r
  rw [e, cutT, if_pos rfl, h2, if_neg (by simp), h1, if_pos hi]
  rfl
theorem upTo_no34 (c : UInt8) (l : List UInt8) : c ∉ upTo c l := by
  induction l with
  | nil => simp [upTo]
  | cons a r ih =>
    by_cases h : a = c
    · subst h; rw [upTo_cons_eq]; simp
    · rw [upTo_cons_ne r h]
      intro e
      rcases List.mem_cons.1 e with e | e
      · exact h e.symm
      · exact ih e
theorem cutT_in {l m r : List UInt8} (h : cutT l = some (m, r)) : 34 ∉ m ∧ innB m = true ∧ l = tagL m ++ r := by
  cases l with
  | nil => cases h
  | cons c t =>
    rw [cutT] at h
    split at h
    · rename_i hc
      split at h
      · cases h
      · rename_i hf
        split at h
        · rename_i hi
          cases h
          refine ⟨fun e => ?_, hi, ?_⟩
          · exact upTo_no34 34 t e
          · have hu := upTo_from 34 t
            cases hq : fromB 34 t with
            | nil => exact absurd hq hf
            | cons a q =>
              have ha := fromB_head hq
              rw [hq, ha] at hu
              rw [hc]
              simp only [tagL, List.tail_cons, List.cons_append, List.append_assoc, List.nil_append]
              rw [hu]
        · cases h
    · cases h
theorem digs_no {l : List UInt8} (h : digs l = true) : ∀ x ∈ l, x ≠ 62 := fun x hx e => by
  subst e
  induction l with
  | nil => cases hx
  | cons c r ih =>
    obtain ⟨h1, h2⟩ := digs_cons c r h
    rcases List.mem_cons.1 hx with e | hx
    · rw [← e] at h1; exact absurd h1.2 (by decide)
    · exact ih h2 hx
theorem numC_dec {n : Int} (h1 : 1 ≤ n) (h2 : n ≤ 9999) : numC (Lib.decDigits n.toNat) = some n := by
  have h := parse_dec n.toNat 9999 (by omega) (by omega)
  unfold numC
  rw [h]
  have e : ((n.toNat : Nat) : Int) = n := by omega
  simp only [e]
  exact if_pos ⟨trivial, h1⟩
theorem numC_in {d : List UInt8} {n : Int} (h : numC d = some n) : 1 ≤ n ∧ n ≤ 9999 := by
  unfold numC at h
  split at h
  · rename_i hp
    obtain ⟨h1, h2⟩ := hp
    obtain ⟨h3, h4⟩ := parseOk_of h1
    cases h
    refine ⟨h2, ?_⟩
    rw [h4]
    exact h3.2.2.2.2
  · cases h
theorem cutNot_yes (l : List UInt8) : cutNot (notL ++ l) = (true, l) := by
  unfold cutNot
  rw [if_pos (by simp [notL])]
  simp [notL]
theorem cutNot_no {l : List UInt8} (h : l.head? ≠ some 78) : cutNot l = (false, l) := by
  unfold cutNot
  rw [if_neg]
  cases l with
  | nil => simp [notL]
  | cons c r =>
    intro e
    simp [notL] at e
    exact h (by simp [← e.1])
theorem tag_ne (m : List UInt8) : tagL m ≠ [] := by simp [tagL]
theorem bodyC_back {c : Cn} (h : okC c) (q : List UInt8) : bodyC c.no ((if c.tg.data.toList = [] then 60 :: (Lib.decDigits c.tk.toNat ++ [62]) else 91 :: (c.tg.data.toList ++ [93])) ++ q) = some (c, q) := by
  obtain ⟨no, tk, tg⟩ := c
  rcases h with ⟨h1, h2, h3⟩ | ⟨h1, m, h2, h3, h4, h5⟩
  · simp only at h1 h2 h3 ⊢
    rw [if_pos h1]
    have hd := (dec_back tk.toNat tk.toNat (Nat.le_refl _)).2.1
    obtain ⟨u1, u2⟩ := upTo_all (c := 62) (l := Lib.decDigits tk.toNat) (digs_no hd) q
    have e : (60 :: (Lib.decDigits tk.toNat ++ [62])) ++ q = 60 :: (Lib.decDigits tk.toNat ++ 62 :: q) := by simp
    rw [e, bodyC, List.head?_cons, if_pos rfl, List.tail_cons, tokC, u1, u2, if_neg (by simp), numC_dec h2 h3]
    have e2 : tg = ⟨#[]⟩ := by
      apply ByteArray.ext
      exact Array.toList_inj.1 h1
    rw [e2]
    rfl
  · simp only at h1 h2 ⊢
    subst h1 h2
    have e1 : (bytesOf (tagL m)).data.toList = tagL m := rfl
    rw [e1, if_neg (tag_ne m)]
    have e : (91 :: (tagL m ++ [93])) ++ q = 91 :: (tagL m ++ 93 :: q) := by simp
    rw [e, bodyC, List.head?_cons, if_neg (by simp), if_pos rfl, List.tail_cons, tagC, cutT_tag h4 h5]
    simp [h3]
theorem condL_back {c : Cn} (h : okC c) (q : List UInt8) : condL (condT c ++ q) = some (c, q) := by
  unfold condT condL
  have hb := bodyC_back h q
  cases hn : c.no
  · rw [if_neg (by simp), List.nil_append]
    rw [hn] at hb
    rw [cutNot_no (by split <;> simp)]
    exact hb
  · rw [if_pos rfl, List.append_assoc, cutNot_yes]
    rw [hn] at hb
    exact hb
theorem joinT_one (a : List UInt8) : joinT [a] = a := by simp [joinT]
theorem joinT_cons (a b : List UInt8) (r : List (List UInt8)) : joinT (a :: b :: r) = a ++ 32 :: joinT (b :: r) := by simp [joinT]
theorem condsL_back (q : List UInt8) (hq : ¬ q.head? = some 32) : ∀ cs : List Cn, cs ≠ [] → (∀ c ∈ cs, okC c) → condsL (joinT (cs.map condT) ++ q) = some (cs, q)
  | [], h, _ => absurd rfl h
  | [c], _, h => by
    rw [List.map_cons, List.map_nil, joinT_one]
    exact condsL_end (condL_back (h c (by simp)) q) hq
  | c :: d :: r, _, h => by
    have ih := condsL_back q hq (d :: r) (by simp) (fun x hx => h x (List.mem_cons_of_mem _ hx))
    rw [List.map_cons, List.map_cons, joinT_cons, ← List.map_cons, List.append_assoc, List.cons_append]
    rw [condsL_next (condL_back (h c (by simp)) _) rfl, List.tail_cons, ih]
    rfl
theorem listL_back {cs : List Cn} (h : okLs cs) (q : List UInt8) : listL (listT cs ++ q) = some (cs, q) := by
  have e : listT cs ++ q = 40 :: (joinT (cs.map condT) ++ 41 :: q) := by simp [listT]
  have hne : cs ≠ [] := fun e => by have := h.1; rw [e] at this; simp at this
  rw [e, listL, List.head?_cons, if_pos rfl, List.tail_cons, condsL_back (41 :: q) (by simp) cs hne h.2.2]
  simp [h.2.1]
theorem listsL_back : ∀ ls : List (List Cn), ls ≠ [] → (∀ cs ∈ ls, okLs cs) → listsL (ifT ls) = some ls
  | [], h, _ => absurd rfl h
  | [a], _, h => by
    have := listL_back (h a (by simp)) []
    rw [List.append_nil] at this
    unfold ifT
    rw [List.map_cons, List.map_nil, joinT_one]
    exact listsL_end this
  | a :: b :: r, _, h => by
    have ih := listsL_back (b :: r) (by simp) (fun x hx => h x (List.mem_cons_of_mem _ hx))
    unfold ifT at *
    rw [List.map_cons, List.map_cons, joinT_cons, ← List.map_cons]
    rw [listsL_next (listL_back (h a (by simp)) _) (by simp)]
    have hb : blk (32 :: joinT ((b :: r).map listT)) = joinT ((b :: r).map listT) := by
      unfold blk
      rw [List.dropWhile_cons, if_pos (by decide)]
      cases hj : joinT ((b :: r).map listT) with
      | nil => rfl
      | cons x y =>
        have : x = 40 := by
          cases r with
          | nil => rw [List.map_cons, List.map_nil, joinT_one, listT] at hj; cases hj; rfl
          | cons d r' => rw [List.map_cons, List.map_cons, joinT_cons, listT] at hj; cases hj; rfl
        rw [this, List.dropWhile_cons, if_neg (by decide)]
    rw [hb, ih]
    rfl
/-- They come back of their text. -/
theorem ifL_back {ls : List (List Cn)} (h : okIf ls) : ifL (ifT ls) = some ls := by
  unfold ifL
  rw [listsL_back ls (fun e => by have := h.1; rw [e] at this; simp at this) h.2.2]
  show (if ls.length ≤ 4 then some ls else none) = some ls
  rw [if_pos h.2.1]
/-! What is read can be told. -/
theorem condL_ok {l r : List UInt8} {c : Cn} (h : condL l = some (c, r)) : okC c := by
  unfold condL bodyC at h
  split at h
  · unfold tokC at h
    split at h
    · cases h
    · split at h
      · cases h
      · rename_i n hn
        cases h
        exact .inl ⟨rfl, numC_in hn⟩
  · split at h
    · unfold tagC at h
      split at h
      · cases h
      · rename_i m q hc
        split at h
        · cases h
        · rename_i hm
          split at h
          · cases h
            exact .inr ⟨rfl, m, rfl, hm, (cutT_in hc).1, (cutT_in hc).2.1⟩
          · cases h
    · cases h
theorem condsL_ok (n : Nat) : ∀ l : List UInt8, l.length < n → ∀ cs r, condsL l = some (cs, r) → ∀ c ∈ cs, okC c := by
  induction n with
  | zero => intro l hl; exact absurd hl (Nat.not_lt_zero _)
  | succ n ih =>
    intro l hl cs r h
    cases hc : condL l with
    | none => rw [condsL_none hc] at h; cases h
    | some x =>
      obtain ⟨c, q⟩ := x
      have hq := condL_len hc
      have hk := condL_ok hc
      by_cases hh : q.head? = some 32
      · rw [condsL_next hc hh] at h
        cases hd : condsL q.tail with
        | none => rw [hd] at h; cases h
        | some y =>
          obtain ⟨ds, z⟩ := y
          rw [hd] at h
          cases h
          have h1 := ih q.tail (by rw [List.length_tail]; omega) ds z hd
          intro x hx
          rcases List.mem_cons.1 hx with rfl | hx
          · exact hk
          · exact h1 x hx
      · rw [condsL_end hc hh] at h
        cases h
        intro x hx
        rcases List.mem_cons.1 hx with rfl | hx
        · exact hk
        · cases hx
theorem listL_ok {l r : List UInt8} {cs : List Cn} (h : listL l = some (cs, r)) : okLs cs := by
  unfold listL at h
  split at h
  · split at h
    · cases h
    · rename_i q hq
      split at h
      · rename_i hc
        cases h
        exact ⟨(condsL_len _ l.tail (Nat.lt_succ_self _) _ _ hq).2, hc.1, condsL_ok _ l.tail (Nat.lt_succ_self _) _ _ hq⟩
      · cases h
  · cases h
theorem listsL_ok (n : Nat) : ∀ l : List UInt8, l.length < n → ∀ ls, listsL l = some ls → 1 ≤ ls.length ∧ ∀ cs ∈ ls, okLs cs := by
  induction n with
  | zero => intro l hl; exact absurd hl (Nat.not_lt_zero _)
  | succ n ih =>
    intro l hl ls h
    cases hc : listL l with
    | none => rw [listsL_none hc] at h; cases h
    | some x =>
      obtain ⟨c, q⟩ := x
      have hq := listL_len hc
      have hk := listL_ok hc
      by_cases hh : q = []
      · subst hh
        rw [listsL_end hc] at h
        cases h
        refine ⟨by simp, fun x hx => ?_⟩
        rcases List.mem_cons.1 hx with rfl | hx
        · exact hk
        · cases hx
      · rw [listsL_next hc hh] at h
        cases hd : listsL (blk q) with
        | none => rw [hd] at h; cases h
        | some ds =>
          rw [hd] at h
          cases h
          have h1 := ih (blk q) (by have := blk_len q; omega) ds hd
          refine ⟨by simp, fun x hx => ?_⟩
          rcases List.mem_cons.1 hx with rfl | hx
          · exact hk
          · exact h1.2 x hx
theorem ifL_ok {l : List UInt8} {ls : List (List Cn)} (h : ifL l = some ls) : okIf ls := by
  unfold ifL at h
  cases hd : listsL l with
  | none => rw [hd] at h; cases h
  | some ds =>
    rw [hd] at h
    simp only [Option.bind_some] at h
    split at h
    · rename_i hc
      cases h
      have := listsL_ok _ l (Nat.lt_succ_self _) _ hd
      exact ⟨this.1, hc, this.2⟩
    · cases h
end Go.Proofs.YtmgikfeknmbpbaaGreatDoor.M
