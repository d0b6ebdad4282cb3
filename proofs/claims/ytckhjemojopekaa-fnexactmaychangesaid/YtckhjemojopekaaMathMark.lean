/-
  Plain facts on marked texts: escaped, and back: no program in sight.
-/
import Derived.Test.YtckhjemojopekaaGenMath
import Derived.Test.YtckhjemojopekaaMathParse
import Derived.Lib.IndexMore
namespace Go.Proofs.Ytckhjemojopekaa.M

/-- A byte, escaped. -/
def escB (c : UInt8) : List UInt8 :=
  if c = 38 then [38, 97, 109, 112, 59] else if c = 60 then [38, 108, 116, 59] else if c = 62 then [38, 103, 116, 59] else if c = 34 then [38, 113, 117, 111, 116, 59] else [c]
def escL (l : List UInt8) : List UInt8 := l.flatMap escB

theorem escL_snoc (s : ByteArray) (k : Nat) (h : k < s.size) : escL (s.data.toList.take (k + 1)) = escL (s.data.toList.take k) ++ escB s[k] := by
  rw [take_snoc s k h]; simp [escL]
theorem escB_length (c : UInt8) : (escB c).length ≤ 6 := by
  unfold escB; split; · simp
  split; · simp
  split; · simp
  split <;> simp
theorem escL_le (l : List UInt8) : (escL l).length ≤ 6 * l.length := by
  induction l with
  | nil => simp [escL]
  | cons c l ih =>
    have := escB_length c
    simp only [escL, List.flatMap_cons, List.length_append, List.length_cons] at *
    omega
theorem escL_cons (c : UInt8) (l : List UInt8) : escL (c :: l) = escB c ++ escL l := by simp [escL]

/-- What stands ahead of the first such byte; and from it on. -/
def upTo (c : UInt8) (l : List UInt8) : List UInt8 := l.takeWhile (· != c)
def fromB (c : UInt8) (l : List UInt8) : List UInt8 := l.dropWhile (· != c)
theorem fromB_le (c : UInt8) (l : List UInt8) : (fromB c l).length ≤ l.length := by
  induction l with
  | nil => simp [fromB]
  | cons b l ih =>
    simp only [fromB, List.dropWhile_cons] at *
    split
    · simp; omega
    · simp
theorem upTo_from (c : UInt8) (l : List UInt8) : upTo c l ++ fromB c l = l := List.takeWhile_append_dropWhile
theorem upTo_cons_eq (c : UInt8) (l : List UInt8) : upTo c (c :: l) = [] := by simp [upTo]
theorem fromB_cons_eq (c : UInt8) (l : List UInt8) : fromB c (c :: l) = c :: l := by simp [fromB]
theorem upTo_cons_ne {b c : UInt8} (l : List UInt8) (h : b ≠ c) : upTo c (b :: l) = b :: upTo c l := by simp [upTo, h]
theorem fromB_cons_ne {b c : UInt8} (l : List UInt8) (h : b ≠ c) : fromB c (b :: l) = fromB c l := by simp [fromB, h]
theorem fromB_head {c x : UInt8} {l q : List UInt8} (h : fromB c l = x :: q) : x = c := by
  induction l with
  | nil => simp [fromB] at h
  | cons b l ih =>
    by_cases e : b = c
    · subst e; rw [fromB_cons_eq] at h; exact (List.cons.inj h).1.symm
    · rw [fromB_cons_ne l e] at h; exact ih h

/-- The byte that a name stands for. -/
def entL (l : List UInt8) : Option UInt8 :=
  if l = [97, 109, 112] then some 38 else if l = [108, 116] then some 60 else if l = [103, 116] then some 62 else if l = [113, 117, 111, 116] then some 34 else if l = [97, 112, 111, 115] then some 39
  else if l.head? = some 35 then (if (parseNum l.tail 126).2 && decide (32 ≤ (parseNum l.tail 126).1) then some (UInt8.ofNat (decVal l.tail)) else none)
  else none

/-- What these bytes are, not escaped. -/
def unesc : List UInt8 → Option (List UInt8)
  | [] => some []
  | c :: r => if c = 60 then none else if c = 38 then
      (if fromB 59 r = [] then none else
       match entL (upTo 59 r) with
       | some b => (unesc (fromB 59 r).tail).map (b :: ·)
       | none => none)
    else (unesc r).map (c :: ·)
termination_by l => l.length
decreasing_by
  · have := fromB_le 59 r
    simp only [List.length_tail, List.length_cons]
    omega
  · simp

/-- .. as the two answers. -/
def unescR (l : List UInt8) : List UInt8 × Bool := match unesc l with | some x => (x, true) | none => ([], false)

theorem unesc_nil : unesc [] = some [] := by rw [unesc]
theorem unesc_plain {c : UInt8} (r : List UInt8) (h : c ≠ 60) (h2 : c ≠ 38) : unesc (c :: r) = (unesc r).map (c :: ·) := by
  rw [unesc]; simp [h, h2]
theorem unesc_open (r : List UInt8) : unesc (60 :: r) = none := by
  rw [unesc]; simp
theorem unesc_short (r : List UInt8) (h : fromB 59 r = []) : unesc (38 :: r) = none := by
  rw [unesc]; simp [h]
theorem unesc_bad (r : List UInt8) (h : entL (upTo 59 r) = none) : unesc (38 :: r) = none := by
  rw [unesc]; simp [h]
theorem unesc_ent (r q : List UInt8) (x b : UInt8) (h : fromB 59 r = x :: q) (hb : entL (upTo 59 r) = some b) : unesc (38 :: r) = (unesc q).map (b :: ·) := by
  rw [unesc]; simp [h, hb]

/-- What is read so far, and what is left: together all. -/
def UeAt (l rest acc : List UInt8) : Prop := acc.length + rest.length ≤ l.length ∧ unesc l = (unesc rest).map (acc ++ ·)

theorem UeAt.start (l : List UInt8) : UeAt l l [] := ⟨by simp, by simp⟩
theorem UeAt.plain {l r acc : List UInt8} {c : UInt8} (h : UeAt l (c :: r) acc) (h1 : c ≠ 60) (h2 : c ≠ 38) : UeAt l r (acc ++ [c]) := by
  obtain ⟨a, b⟩ := h
  refine ⟨by simp at a ⊢; omega, ?_⟩
  rw [b, unesc_plain r h1 h2, Option.map_map]
  congr 1
  funext x
  simp [Function.comp]
theorem UeAt.ent {l r q acc : List UInt8} {x b : UInt8} (h : UeAt l (38 :: r) acc) (hq : fromB 59 r = x :: q) (hb : entL (upTo 59 r) = some b) : UeAt l q (acc ++ [b]) := by
  obtain ⟨a, e⟩ := h
  have := fromB_le 59 r
  rw [hq] at this
  refine ⟨by simp at a this ⊢; omega, ?_⟩
  rw [e, unesc_ent r q x b hq hb, Option.map_map]
  congr 1
  funext x
  simp [Function.comp]
theorem UeAt.no {l rest acc : List UInt8} (h : UeAt l rest acc) (hn : unesc rest = none) : unescR l = ([], false) := by
  unfold unescR; rw [h.2, hn]; rfl
theorem UeAt.done {l acc : List UInt8} (h : UeAt l [] acc) : unescR l = (acc, true) := by
  unfold unescR; rw [h.2, unesc_nil]; simp

theorem unesc_le (l : List UInt8) : ∀ x, unesc l = some x → x.length ≤ l.length := by
  induction hn : l.length using Nat.strongRecOn generalizing l with
  | _ n ih =>
    subst hn
    intro x hx
    match l, ih, hx with
    | [], _, hx => rw [unesc_nil] at hx; simp at hx; simp [← hx]
    | c :: r, ih, hx =>
      by_cases h60 : c = 60
      · subst h60; rw [unesc_open] at hx; cases hx
      by_cases h38 : c = 38
      · subst h38
        match hf : fromB 59 r with
        | [] => rw [unesc_short r hf] at hx; cases hx
        | y :: q =>
          match he : entL (upTo 59 r) with
          | none => rw [unesc_bad r he] at hx; cases hx
          | some b =>
            rw [unesc_ent r q y b hf he] at hx
            obtain ⟨z, hz, rfl⟩ := Option.map_eq_some_iff.1 hx
            have h1 := fromB_le 59 r
            rw [hf] at h1
            have := ih q.length (by simp at h1 ⊢; omega) q rfl z hz
            simp at h1 ⊢; omega
      · rw [unesc_plain r h60 h38] at hx
        obtain ⟨z, hz, rfl⟩ := Option.map_eq_some_iff.1 hx
        have := ih r.length (by simp) r rfl z hz
        simp; omega

theorem unescR_le (l : List UInt8) : (unescR l).1.length ≤ l.length := by
  unfold unescR
  cases h : unesc l with
  | none => simp
  | some x => exact unesc_le l x h

/-- What is escaped comes back. -/
theorem unesc_escB (c : UInt8) (r : List UInt8) : unesc (escB c ++ r) = (unesc r).map (c :: ·) := by
  unfold escB
  split
  · rename_i h; subst h
    exact unesc_ent _ r 59 38 (by simp [fromB]) (by simp [upTo, entL])
  split
  · rename_i h; subst h
    exact unesc_ent _ r 59 60 (by simp [fromB]) (by simp [upTo, entL])
  split
  · rename_i h; subst h
    exact unesc_ent _ r 59 62 (by simp [fromB]) (by simp [upTo, entL])
  split
  · rename_i h; subst h
    exact unesc_ent _ r 59 34 (by simp [fromB]) (by simp [upTo, entL])
  · exact unesc_plain r (by assumption) (by assumption)

theorem unesc_escL (l : List UInt8) : unesc (escL l) = some l := by
  induction l with
  | nil => exact unesc_nil
  | cons c r ih => rw [escL_cons, unesc_escB, ih]; rfl
theorem unescR_escL (l : List UInt8) : unescR (escL l) = (l, true) := by unfold unescR; rw [unesc_escL]

theorem escB_none (c : UInt8) : ∀ x ∈ escB c, x ≠ 60 ∧ x ≠ 34 ∧ x ≠ 62 := by
  intro x hx
  unfold escB at hx
  split at hx
  · simp at hx; rcases hx with h | h | h | h | h <;> (subst h; decide)
  split at hx
  · simp at hx; rcases hx with h | h | h | h <;> (subst h; decide)
  split at hx
  · simp at hx; rcases hx with h | h | h | h <;> (subst h; decide)
  split at hx
  · simp at hx; rcases hx with h | h | h | h | h | h <;> (subst h; decide)
  · simp at hx; subst hx; exact ⟨by assumption, by assumption, by assumption⟩
theorem escL_none (l : List UInt8) : ∀ x ∈ escL l, x ≠ 60 ∧ x ≠ 34 ∧ x ≠ 62 := by
  intro x hx
  obtain ⟨c, _, hc⟩ := List.mem_flatMap.1 hx
  exact escB_none c x hc

theorem upTo_all {c : UInt8} {l : List UInt8} (h : ∀ x ∈ l, x ≠ c) (r : List UInt8) : upTo c (l ++ c :: r) = l ∧ fromB c (l ++ c :: r) = c :: r := by
  induction l with
  | nil => exact ⟨upTo_cons_eq c r, fromB_cons_eq c r⟩
  | cons b l ih =>
    obtain ⟨i1, i2⟩ := ih (fun x hx => h x (List.mem_cons_of_mem _ hx))
    have hb := h b (List.mem_cons_self ..)
    rw [List.cons_append, upTo_cons_ne _ hb, fromB_cons_ne _ hb, i1, i2]
    exact ⟨rfl, rfl⟩
theorem upTo_none {c : UInt8} {l : List UInt8} (h : ∀ x ∈ l, x ≠ c) : upTo c l = l ∧ fromB c l = [] := by
  induction l with
  | nil => exact ⟨rfl, rfl⟩
  | cons b l ih =>
    obtain ⟨i1, i2⟩ := ih (fun x hx => h x (List.mem_cons_of_mem _ hx))
    have hb := h b (List.mem_cons_self ..)
    rw [upTo_cons_ne _ hb, fromB_cons_ne _ hb, i1, i2]
    exact ⟨rfl, rfl⟩

/-- What the library's Cut and Index at one byte are. -/
theorem indexByte_upTo (l : List UInt8) (c : UInt8) : Lib.indexByte l c = if fromB c l = [] then -1 else ((upTo c l).length : Int) := by
  induction l with
  | nil => rfl
  | cons b l ih =>
    by_cases h : b = c
    · subst h
      rw [fromB_cons_eq, upTo_cons_eq]
      simp [Lib.indexByte]
    · rw [fromB_cons_ne l h, upTo_cons_ne l h]
      have hb : (b == c) = false := by simp [h]
      show (if b == c then 0 else if Lib.indexByte l c == -1 then -1 else Lib.indexByte l c + 1) = _
      rw [hb, ih]
      by_cases h2 : fromB c l = []
      · simp [h2]
      · simp only [h2, if_false]
        rw [if_neg (by simp)]
        simp
theorem cut_one (l : List UInt8) (c : UInt8) : Lib.cut l [c] = (upTo c l, (fromB c l).tail, !(fromB c l).isEmpty) := by
  have hi : Lib.index l [c] = Lib.indexByte l c := Lib.index_one l c
  have e := upTo_from c l
  unfold Lib.cut
  rw [hi, indexByte_upTo]
  cases hf : fromB c l with
  | nil =>
    rw [hf, List.append_nil] at e
    simp [e]
  | cons x q =>
    rw [hf] at e
    clear hf
    generalize upTo c l = p at e ⊢
    subst e
    simp

/-- The numeric ones, as the program asks. -/
theorem parse_more (d : List UInt8) : ((parseNum d 255).2 && decide (32 ≤ (parseNum d 255).1 ∧ (parseNum d 255).1 ≤ 126)) = ((parseNum d 126).2 && decide (32 ≤ (parseNum d 126).1)) := by
  by_cases h : parseOk d 126
  · have h' : parseOk d 255 := ⟨h.1, h.2.1, h.2.2.1, h.2.2.2.1, by have := h.2.2.2.2; omega⟩
    rw [parseNum_yes h, parseNum_yes h']
    have := h.2.2.2.2
    simp; omega
  · by_cases h' : parseOk d 255
    · rw [parseNum_no h, parseNum_yes h']
      have : ¬ (decVal d : Int) ≤ 126 := fun e => h ⟨h'.1, h'.2.1, h'.2.2.1, h'.2.2.2.1, e⟩
      simp; omega
    · rw [parseNum_no h, parseNum_no h']
      rfl
end Go.Proofs.Ytckhjemojopekaa.M
