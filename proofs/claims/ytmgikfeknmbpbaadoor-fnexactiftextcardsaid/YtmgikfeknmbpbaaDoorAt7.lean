/-
  Plain facts on marks and texts one behind the other: no program in sight.
  Plain facts on how a text is read back, a byte at a time, by places: no program in sight.
  Names ahead in a text, by places: no program in sight.
  Bytes held against a constant, in the forms that a walk wants; texts held against a constant.
  What the specification's l1In does; a byte as an int.
  What the specification's l7At does.
-/
import Derived.Test.YtmgikfeknmbpbaaDoorMathMark
import Derived.Test.YtmgikfeknmbpbaaDoorMathSmall
import Derived.Test.YtmgikfeknmbpbaaDoorMathQuote
import Derived.Test.YtmgikfeknmbpbaaDoorRows
import Derived.Test.YtmgikfeknmbpbaaDoorMath
import Derived.WalkKit
import Derived.WalkSpells
import Derived.WalkLawsBesides
import Derived.Deep.Light
import Derived.Test.YtmgikfeknmbpbaaDoorHide
namespace Go.Proofs.YtmgikfeknmbpbaaDoor.M

/-- A piece. -/
structure Pce where
  k : Int
  name : ByteArray
  ns : ByteArray
  has : Bool
  s : ByteArray
deriving DecidableEq

def noB : ByteArray := ⟨#[]⟩
def spcS : List UInt8 := [32, 120, 109, 108, 110, 115, 61, 34]

/-- What a piece's text is. -/
def spcT (p : Pce) : List UInt8 := if p.has then spcS ++ escL p.ns.data.toList ++ [34] else []
def markT (p : Pce) : List UInt8 :=
  if p.k = 1 then [60] ++ p.name.data.toList ++ spcT p ++ [62]
  else if p.k = 2 then [60, 47] ++ p.name.data.toList ++ [62]
  else if p.k = 3 then [60] ++ p.name.data.toList ++ spcT p ++ [47, 62]
  else escL p.s.data.toList

/-- A name ahead, and what is behind it. -/
def nameP (c : UInt8) : Bool := anyB (c.toNat : Int) [2, 4, 7]
def nmL (l : List UInt8) : List UInt8 := l.takeWhile nameP
def nmR (l : List UInt8) : List UInt8 := l.dropWhile nameP

def closeP (n : List UInt8) : Pce := ⟨2, bytesOf n, noB, false, noB⟩
def openP (k : Int) (n : List UInt8) (sp : Bool × List UInt8) : Pce := ⟨k, bytesOf n, bytesOf sp.2, sp.1, noB⟩
def textP (t : List UInt8) : Pce := ⟨4, noB, noB, false, bytesOf t⟩

def closeL (r : List UInt8) : Option (Pce × List UInt8) :=
  if smB (nmL r) && [62].isPrefixOf (nmR r) then some (closeP (nmL r), (nmR r).drop 1) else none
def spcL (r : List UInt8) : Option ((Bool × List UInt8) × List UInt8) :=
  if spcS.isPrefixOf r then
    (if fromB 34 (r.drop 8) = [] then none else
     match unesc (upTo 34 (r.drop 8)) with
     | some ns => if ns.length ≤ 20 then some ((true, ns), (fromB 34 (r.drop 8)).tail) else none
     | none => none)
  else some ((false, []), r)
def endM (n : List UInt8) (sp : Bool × List UInt8) (q : List UInt8) : Option (Pce × List UInt8) :=
  if [47, 62].isPrefixOf q then some (openP 3 n sp, q.drop 2) else if [62].isPrefixOf q then some (openP 1 n sp, q.drop 1) else none
def openL (r : List UInt8) : Option (Pce × List UInt8) :=
  if smB (nmL r) then
    (match spcL (nmR r) with
     | some x => endM (nmL r) x.1 x.2
     | none => none)
  else none
def textL7 (l : List UInt8) : Option (Pce × List UInt8) :=
  match unesc (upTo 60 l) with
  | some t => some (textP t, fromB 60 l)
  | none => none
def markL (l : List UInt8) : Option (Pce × List UInt8) :=
  if [60, 47].isPrefixOf l then closeL (l.drop 2) else if [60].isPrefixOf l then openL (l.drop 1) else textL7 l

theorem nmR_le (l : List UInt8) : (nmR l).length ≤ l.length := by
  induction l with
  | nil => simp [nmR]
  | cons b l ih =>
    simp only [nmR, List.dropWhile_cons] at *
    split
    · simp; omega
    · simp
theorem nm_from (l : List UInt8) : nmL l ++ nmR l = l := List.takeWhile_append_dropWhile
theorem nmL_le (l : List UInt8) : (nmL l).length ≤ l.length := by
  have := congrArg List.length (nm_from l)
  rw [List.length_append] at this
  omega

theorem closeL_le {r q : List UInt8} {p : Pce} (h : closeL r = some (p, q)) : q.length ≤ r.length := by
  unfold closeL at h
  split at h
  · obtain ⟨_, rfl⟩ := Prod.mk.inj (Option.some.inj h)
    have := nmR_le r
    simp; omega
  · cases h
theorem spcL_le {r q : List UInt8} {sp : Bool × List UInt8} (h : spcL r = some (sp, q)) : q.length ≤ r.length ∧ sp.2.length ≤ 20 := by
  unfold spcL at h
  split at h
  · split at h
    · cases h
    · split at h
      · split at h
        · obtain ⟨rfl, rfl⟩ := Prod.mk.inj (Option.some.inj h)
          have := fromB_le 34 (r.drop 8)
          simp at this ⊢
          refine ⟨by omega, by assumption⟩
        · cases h
      · cases h
  · obtain ⟨rfl, rfl⟩ := Prod.mk.inj (Option.some.inj h)
    exact ⟨Nat.le_refl _, Nat.zero_le _⟩
theorem endM_le {n r q : List UInt8} {sp : Bool × List UInt8} {p : Pce} (h : endM n sp r = some (p, q)) : q.length ≤ r.length := by
  unfold endM at h
  split at h
  · obtain ⟨_, rfl⟩ := Prod.mk.inj (Option.some.inj h); simp
  split at h
  · obtain ⟨_, rfl⟩ := Prod.mk.inj (Option.some.inj h); simp
  · cases h
theorem openL_le {r q : List UInt8} {p : Pce} (h : openL r = some (p, q)) : q.length ≤ r.length := by
  unfold openL at h
  split at h
  · split at h
    · rename_i x hx
      have h1 := endM_le h
      have h2 := (spcL_le (sp := x.1) (q := x.2) hx).1
      have h3 := nmR_le r
      omega
    · cases h
  · cases h

theorem pre60 (l : List UInt8) : [60].isPrefixOf l = decide (l.head? = some 60) := by
  cases l with
  | nil => rfl
  | cons c r =>
    simp [List.isPrefixOf]
    rw [Bool.beq_eq_decide_eq]
    by_cases h : c = 60
    · simp [h]
    · simp [h, Ne.symm h]

theorem markL_lt {l q : List UInt8} {p : Pce} (hl : l ≠ []) (h : markL l = some (p, q)) : q.length < l.length := by
  have h0 : 0 < l.length := List.length_pos_iff.2 hl
  unfold markL at h
  split at h
  · have := closeL_le h
    simp at this; omega
  split at h
  · have := openL_le h
    simp at this; omega
  · rename_i h60
    unfold textL7 at h
    split at h
    · obtain ⟨_, rfl⟩ := Prod.mk.inj (Option.some.inj h)
      match l, hl, h60 with
      | c :: r, _, h60 =>
        have hc : c ≠ 60 := fun e => h60 (by rw [pre60]; simp [e])
        rw [fromB_cons_ne r hc]
        have := fromB_le 60 r
        simp; omega
    · cases h

set_option linter.unusedVariables false in
/-- All pieces. -/
def pcsL (l : List UInt8) : Option (List Pce) :=
  if hl : l = [] then some [] else
  match h : markL l with
  | some x => (pcsL x.2).map (x.1 :: ·)
  | none => none
termination_by l.length
decreasing_by exact markL_lt hl h

theorem pcsL_nil : pcsL [] = some [] := by rw [pcsL]; simp
theorem pcsL_none {l : List UInt8} (hl : l ≠ []) (h : markL l = none) : pcsL l = none := by
  rw [pcsL]; simp only [hl, dif_neg, not_false_eq_true]; split <;> simp_all
theorem pcsL_some {l q : List UInt8} {p : Pce} (hl : l ≠ []) (h : markL l = some (p, q)) : pcsL l = (pcsL q).map (p :: ·) := by
  rw [pcsL]; simp only [hl, dif_neg, not_false_eq_true]; split <;> simp_all

/-- What Pieces answers. -/
def pcsR (l : List UInt8) : List Pce × Bool :=
  if allB l [0] then (match pcsL l with | some ps => if ps.length ≤ 60 then (ps, true) else ([], false) | none => ([], false)) else ([], false)

/-- What is read so far, and what is left. -/
def PcAt (l rest : List UInt8) (acc : List Pce) : Prop := rest.length ≤ l.length ∧ acc.length ≤ 60 ∧ pcsL l = (pcsL rest).map (acc ++ ·)

theorem PcAt.start (l : List UInt8) : PcAt l l [] := ⟨Nat.le_refl _, Nat.zero_le _, by simp⟩
theorem PcAt.step {l rest q : List UInt8} {acc : List Pce} {p : Pce} (h : PcAt l rest acc) (hr : rest ≠ []) (hm : markL rest = some (p, q)) (h60 : acc.length < 60) : PcAt l q (acc ++ [p]) := by
  obtain ⟨a, b, c⟩ := h
  have := markL_lt hr hm
  refine ⟨by omega, by simp; omega, ?_⟩
  rw [c, pcsL_some hr hm, Option.map_map]
  congr 1
  funext x
  simp [Function.comp]
theorem PcAt.bad {l rest : List UInt8} {acc : List Pce} (h : PcAt l rest acc) (hr : rest ≠ []) (hm : markL rest = none) : pcsR l = ([], false) := by
  unfold pcsR
  rw [h.2.2, pcsL_none hr hm]
  simp
theorem PcAt.many {l rest : List UInt8} {acc : List Pce} (h : PcAt l rest acc) (hr : rest ≠ []) (h60 : acc.length = 60) : pcsR l = ([], false) := by
  unfold pcsR
  rw [h.2.2]
  cases hm : markL rest with
  | none => rw [pcsL_none hr hm]; simp
  | some x =>
    rw [pcsL_some (p := x.1) (q := x.2) hr hm]
    cases hq : pcsL x.2 with
    | none => simp
    | some ps => simp; omega
theorem PcAt.done {l : List UInt8} {acc : List Pce} (h : PcAt l [] acc) (hp : allB l [0] = true) : pcsR l = (acc, true) := by
  unfold pcsR
  rw [h.2.2, pcsL_nil, if_pos hp]
  simp [h.2.1]
theorem pcsR_not {l : List UInt8} (hp : allB l [0] = false) : pcsR l = ([], false) := by
  unfold pcsR; rw [if_neg (by simp [hp])]

/-- How great what is read is. -/
def pcSize (p : Pce) : Nat := p.name.size + p.ns.size + p.s.size
theorem smB_le {l : List UInt8} (h : smB l = true) : l.length ≤ 20 := by
  match l, h with
  | c :: r, h => simp [smB] at h; simpa using h.1.1
theorem pc_name (p : Pce) : p.name.size ≤ pcSize p ∧ p.ns.size ≤ pcSize p ∧ p.s.size ≤ pcSize p := by unfold pcSize; omega
theorem markL_size {l q : List UInt8} {p : Pce} (h : markL l = some (p, q)) : pcSize p ≤ 40 + l.length := by
  have key : ∀ {r n : List UInt8} {k : Int} {sp : Bool × List UInt8}, smB n = true → sp.2.length ≤ 20 → pcSize (openP k n sp) ≤ 40 := by
    intro r n k sp hn hs
    have := smB_le hn
    simp only [pcSize, openP, bytesOf_size, noB]
    show n.length + sp.2.length + 0 ≤ 40
    omega
  unfold markL at h
  split at h
  · unfold closeL at h
    split at h
    · rename_i hh
      rw [Bool.and_eq_true] at hh
      obtain ⟨rfl, _⟩ := Prod.mk.inj (Option.some.inj h)
      have := smB_le hh.1
      simp only [pcSize, closeP, bytesOf_size, noB]
      show (nmL (l.drop 2)).length + 0 + 0 ≤ _
      omega
    · cases h
  split at h
  · unfold openL at h
    split at h
    · rename_i hn
      split at h
      · rename_i x hx
        have hs := (spcL_le (sp := x.1) (q := x.2) hx).2
        unfold endM at h
        split at h
        · obtain ⟨rfl, _⟩ := Prod.mk.inj (Option.some.inj h)
          have := key (r := []) (k := 3) hn hs; omega
        split at h
        · obtain ⟨rfl, _⟩ := Prod.mk.inj (Option.some.inj h)
          have := key (r := []) (k := 1) hn hs; omega
        · cases h
      · cases h
    · cases h
  · unfold textL7 at h
    split at h
    · rename_i t ht
      obtain ⟨rfl, _⟩ := Prod.mk.inj (Option.some.inj h)
      have h1 := unesc_le _ _ ht
      have h2 := congrArg List.length (upTo_from 60 l)
      rw [List.length_append] at h2
      simp only [pcSize, textP, bytesOf_size, noB]
      show 0 + 0 + t.length ≤ _
      omega
    · cases h
end Go.Proofs.YtmgikfeknmbpbaaDoor.M
namespace Go.Proofs.YtmgikfeknmbpbaaDoor.M

/-- The first byte of a text, and what stands behind it. -/
def stepL : List UInt8 → Option (UInt8 × List UInt8)
  | [] => none
  | c :: r => if c = 60 then none else if c = 38 then
      (if fromB 59 r = [] then none else (match entL (upTo 59 r) with | some b => some (b, (fromB 59 r).tail) | none => none))
    else some (c, r)

theorem stepL_open (r : List UInt8) : stepL (60 :: r) = none := by simp [stepL]
theorem stepL_plain {c : UInt8} (r : List UInt8) (h : c ≠ 60) (h2 : c ≠ 38) : stepL (c :: r) = some (c, r) := by simp [stepL, h, h2]
theorem stepL_short (r : List UInt8) (h : fromB 59 r = []) : stepL (38 :: r) = none := by simp [stepL, h]
theorem stepL_bad (r : List UInt8) (h : entL (upTo 59 r) = none) : stepL (38 :: r) = none := by simp [stepL, h]
theorem stepL_ent (r : List UInt8) (b : UInt8) (h : fromB 59 r ≠ []) (hb : entL (upTo 59 r) = some b) : stepL (38 :: r) = some (b, (fromB 59 r).tail) := by simp [stepL, h, hb]

theorem unesc_none {l : List UInt8} (hl : l ≠ []) (h : stepL l = none) : unesc l = none := by
  match l, hl with
  | c :: r, _ =>
    by_cases h60 : c = 60
    · subst h60; exact unesc_open r
    by_cases h38 : c = 38
    · subst h38
      by_cases hf : fromB 59 r = []
      · exact unesc_short r hf
      · cases he : entL (upTo 59 r) with
        | none => exact unesc_bad r he
        | some b => rw [stepL_ent r b hf he] at h; cases h
    · rw [stepL_plain r h60 h38] at h; cases h
theorem unesc_some {l q : List UInt8} {b : UInt8} (h : stepL l = some (b, q)) : unesc l = (unesc q).map (b :: ·) ∧ q.length < l.length := by
  match l, h with
  | c :: r, h =>
    by_cases h60 : c = 60
    · subst h60; rw [stepL_open] at h; cases h
    by_cases h38 : c = 38
    · subst h38
      cases hf : fromB 59 r with
      | nil => rw [stepL_short r hf] at h; cases h
      | cons x t =>
        cases he : entL (upTo 59 r) with
        | none => rw [stepL_bad r he] at h; cases h
        | some b' =>
          rw [stepL_ent r b' (by rw [hf]; simp) he, hf] at h
          obtain ⟨rfl, rfl⟩ := Prod.mk.inj (Option.some.inj h)
          have := fromB_le 59 r
          rw [hf] at this
          exact ⟨unesc_ent r _ x _ hf he, by simp at this ⊢; omega⟩
    · rw [stepL_plain r h60 h38] at h
      obtain ⟨rfl, rfl⟩ := Prod.mk.inj (Option.some.inj h)
      exact ⟨unesc_plain _ h60 h38, by simp⟩

theorem UeAt.step {l rest q acc : List UInt8} {b : UInt8} (h : UeAt l rest acc) (hs : stepL rest = some (b, q)) : UeAt l q (acc ++ [b]) := by
  obtain ⟨a, e⟩ := h
  obtain ⟨e1, e2⟩ := unesc_some hs
  refine ⟨by simp; omega, ?_⟩
  rw [e, e1, Option.map_map]
  congr 1
  funext x
  simp [Function.comp]
theorem UeAt.bad {l rest acc : List UInt8} (h : UeAt l rest acc) (hr : rest ≠ []) (hs : stepL rest = none) : unescR l = ([], false) := h.no (unesc_none hr hs)

/-- Up to the first such byte, by places. -/
theorem upTo_ne {c : UInt8} {l : List UInt8} : ∀ x ∈ upTo c l, x ≠ c := by
  induction l with
  | nil => intro x hx; simp [upTo] at hx
  | cons b l ih =>
    intro x hx
    by_cases h : b = c
    · subst h; rw [upTo_cons_eq] at hx; cases hx
    · rw [upTo_cons_ne l h] at hx
      rcases List.mem_cons.1 hx with rfl | hx
      · exact h
      · exact ih x hx
theorem upTo_end (c : UInt8) (l : List UInt8) : (upTo c l).length ≤ l.length ∧ ((upTo c l).length = l.length ↔ fromB c l = []) := by
  have e := congrArg List.length (upTo_from c l)
  rw [List.length_append] at e
  refine ⟨by omega, ?_⟩
  constructor
  · intro h; exact List.length_eq_zero_iff.1 (by omega)
  · intro h; rw [h] at e; simp at e; exact e
theorem upTo_get (c : UInt8) (l : List UInt8) (j : Nat) (hj : j < l.length) (hle : j ≤ (upTo c l).length) : l[j] = c ↔ j = (upTo c l).length := by
  have e := upTo_from c l
  constructor
  · intro h
    apply Classical.byContradiction
    intro hn
    have hj' : j < (upTo c l).length := by omega
    have h2 : l[j] = (upTo c l)[j] := by
      have : (upTo c l ++ fromB c l)[j]'(by rw [e]; exact hj) = (upTo c l)[j] := List.getElem_append_left hj'
      rw [← this]; congr 1; exact e.symm
    exact upTo_ne _ (List.getElem_mem hj') (h2.symm.trans h)
  · intro h
    cases hf : fromB c l with
    | nil =>
      have := (upTo_end c l).2.2 hf
      omega
    | cons x q =>
      have hx := fromB_head hf
      have : (upTo c l ++ fromB c l)[j]'(by rw [e]; exact hj) = x := by
        rw [List.getElem_append_right (by omega)]
        simp [h, hf]
      rw [← hx, ← this]; congr 1; exact e.symm
theorem upTo_at (s : ByteArray) (c : UInt8) (a k : Nat) (ha : a ≤ k) (hk : k < s.size) (hle : k ≤ a + (upTo c (s.data.toList.drop a)).length) : s[k] = c ↔ k = a + (upTo c (s.data.toList.drop a)).length := by
  have el : s.data.toList.length = s.size := Array.length_toList
  have h := upTo_get c (s.data.toList.drop a) (k - a) (by rw [List.length_drop]; omega) (by omega)
  have h2 : (s.data.toList.drop a)[k - a]'(by rw [List.length_drop]; omega) = s[k] := by
    rw [List.getElem_drop]
    have : a + (k - a) = k := by omega
    simp only [this]
    rfl
  rw [h2] at h
  rw [h]
  omega
theorem upTo_len (s : ByteArray) (c : UInt8) (a : Nat) (ha : a ≤ s.size) : a + (upTo c (s.data.toList.drop a)).length ≤ s.size ∧ (a + (upTo c (s.data.toList.drop a)).length = s.size ↔ fromB c (s.data.toList.drop a) = []) := by
  have el : s.data.toList.length = s.size := Array.length_toList
  obtain ⟨h1, h2⟩ := upTo_end c (s.data.toList.drop a)
  rw [List.length_drop] at h1 h2
  refine ⟨by omega, ?_⟩
  rw [← h2]
  omega
theorem extract_list (s : ByteArray) (a b : Nat) : (s.extract a b).data.toList = (s.data.toList.drop a).take (b - a) := by
  have h1 : (s.extract a b).data = s.data.extract a b := by simp
  rw [h1, Array.toList_extract]
theorem extract_upTo (s : ByteArray) (c : UInt8) (a : Nat) : (s.extract a (a + (upTo c (s.data.toList.drop a)).length)).data.toList = upTo c (s.data.toList.drop a) := by
  rw [extract_list, show a + (upTo c (s.data.toList.drop a)).length - a = (upTo c (s.data.toList.drop a)).length by omega]
  have e := upTo_from c (s.data.toList.drop a)
  generalize upTo c (s.data.toList.drop a) = p at e ⊢
  rw [← e]
  simp
theorem drop_upTo (s : ByteArray) (c : UInt8) (a : Nat) : s.data.toList.drop (a + (upTo c (s.data.toList.drop a)).length + 1) = (fromB c (s.data.toList.drop a)).tail := by
  have e := upTo_from c (s.data.toList.drop a)
  rw [Nat.add_assoc, ← List.drop_drop]
  generalize upTo c (s.data.toList.drop a) = p at e ⊢
  generalize fromB c (s.data.toList.drop a) = q at e ⊢
  rw [← e]
  simp
theorem extract_rest (s : ByteArray) (a : Nat) : (s.extract a s.size).data.toList = s.data.toList.drop a := by
  have el : s.data.toList.length = s.size := Array.length_toList
  rw [extract_list, List.take_of_length_le (by rw [List.length_drop]; omega)]
theorem drop_cons (s : ByteArray) (k : Nat) (h : k < s.size) : s.data.toList.drop k = s[k] :: s.data.toList.drop (k + 1) := by
  have e : s.data.toList.length = s.size := Array.length_toList
  rw [List.drop_eq_getElem_cons (by omega)]
  rfl
theorem drop_none (s : ByteArray) (k : Nat) (h : ¬ k < s.size) : s.data.toList.drop k = [] := by
  have e : s.data.toList.length = s.size := Array.length_toList
  exact List.drop_of_length_le (by omega)

/-- The names that stand for bytes. -/
theorem ent_amp : entL [97, 109, 112] = some 38 := by simp [entL]
theorem ent_lt : entL [108, 116] = some 60 := by simp [entL]
theorem ent_gt : entL [103, 116] = some 62 := by simp [entL]
theorem ent_quot : entL [113, 117, 111, 116] = some 34 := by simp [entL]
theorem ent_apos : entL [97, 112, 111, 115] = some 39 := by simp [entL]
def entFree (l : List UInt8) : Prop := l ≠ [97, 109, 112] ∧ l ≠ [108, 116] ∧ l ≠ [103, 116] ∧ l ≠ [113, 117, 111, 116] ∧ l ≠ [97, 112, 111, 115]
theorem ent_num {l : List UInt8} (h : entFree l) (h35 : l.head? = some 35) : entL l = if (parseNum l.tail 126).2 && decide (32 ≤ (parseNum l.tail 126).1) then some (UInt8.ofNat (decVal l.tail)) else none := by
  obtain ⟨h1, h2, h3, h4, h5⟩ := h
  unfold entL
  rw [if_neg h1, if_neg h2, if_neg h3, if_neg h4, if_neg h5, if_pos h35]
theorem ent_not {l : List UInt8} (h : entFree l) (h35 : l.head? ≠ some 35) : entL l = none := by
  obtain ⟨h1, h2, h3, h4, h5⟩ := h
  unfold entL
  rw [if_neg h1, if_neg h2, if_neg h3, if_neg h4, if_neg h5, if_neg h35]
end Go.Proofs.YtmgikfeknmbpbaaDoor.M
namespace Go.Proofs.YtmgikfeknmbpbaaDoor.M

theorem nmL_all (l : List UInt8) : ∀ x ∈ nmL l, nameP x = true := by
  induction l with
  | nil => intro x hx; simp [nmL] at hx
  | cons b l ih =>
    intro x hx
    cases h : nameP b
    · simp [nmL, h] at hx
    · have e : nmL (b :: l) = b :: nmL l := by simp [nmL, h]
      rw [e] at hx
      rcases List.mem_cons.1 hx with rfl | hx
      · exact h
      · exact ih x hx
theorem nmR_head {l q : List UInt8} {c : UInt8} (h : nmR l = c :: q) : nameP c = false := by
  induction l with
  | nil => simp [nmR] at h
  | cons b l ih =>
    cases hb : nameP b
    · have e : nmR (b :: l) = b :: l := by simp [nmR, hb]
      rw [e] at h
      rw [← (List.cons.inj h).1]; exact hb
    · have e : nmR (b :: l) = nmR l := by simp [nmR, hb]
      rw [e] at h
      exact ih h
theorem nm_len (l : List UInt8) : (nmL l).length + (nmR l).length = l.length := by
  have := congrArg List.length (nm_from l)
  rwa [List.length_append] at this
theorem nm_get (l : List UInt8) (j : Nat) (hj : j < l.length) (hle : j ≤ (nmL l).length) : nameP l[j] = decide (j < (nmL l).length) := by
  have e := nm_from l
  by_cases h : j < (nmL l).length
  · rw [decide_eq_true h]
    have h2 : l[j] = (nmL l)[j] := by
      have : (nmL l ++ nmR l)[j]'(by rw [e]; exact hj) = (nmL l)[j] := List.getElem_append_left h
      rw [← this]; congr 1; exact e.symm
    rw [h2]
    exact nmL_all l _ (List.getElem_mem h)
  · rw [decide_eq_false h]
    cases hf : nmR l with
    | nil =>
      have := nm_len l
      rw [hf] at this
      simp at this
      omega
    | cons x q =>
      have : (nmL l ++ nmR l)[j]'(by rw [e]; exact hj) = x := by
        rw [List.getElem_append_right (by omega)]
        have hj0 : j - (nmL l).length = 0 := by omega
        simp [hj0, hf]
      have h2 : l[j] = x := by rw [← this]; congr 1; exact e.symm
      rw [h2]
      exact nmR_head hf
theorem nm_at (s : ByteArray) (a k : Nat) (ha : a ≤ k) (hk : k < s.size) (hle : k ≤ a + (nmL (s.data.toList.drop a)).length) : nameP s[k] = decide (k < a + (nmL (s.data.toList.drop a)).length) := by
  have el : s.data.toList.length = s.size := Array.length_toList
  have h := nm_get (s.data.toList.drop a) (k - a) (by rw [List.length_drop]; omega) (by omega)
  have h2 : (s.data.toList.drop a)[k - a]'(by rw [List.length_drop]; omega) = s[k] := by
    rw [List.getElem_drop]
    have : a + (k - a) = k := by omega
    simp only [this]
    rfl
  rw [h2] at h
  rw [h, Bool.eq_iff_iff]
  simp
  omega
theorem nm_take (s : ByteArray) (a : Nat) : (s.extract a (a + (nmL (s.data.toList.drop a)).length)).data.toList = nmL (s.data.toList.drop a) := by
  rw [extract_list, show a + (nmL (s.data.toList.drop a)).length - a = (nmL (s.data.toList.drop a)).length by omega]
  have e := nm_from (s.data.toList.drop a)
  generalize nmL (s.data.toList.drop a) = p at e ⊢
  rw [← e]
  simp
theorem nm_drop (s : ByteArray) (a : Nat) : s.data.toList.drop (a + (nmL (s.data.toList.drop a)).length) = nmR (s.data.toList.drop a) := by
  have e := nm_from (s.data.toList.drop a)
  rw [← List.drop_drop]
  generalize nmL (s.data.toList.drop a) = p at e ⊢
  generalize nmR (s.data.toList.drop a) = q at e ⊢
  rw [← e]
  simp
theorem nm_size (s : ByteArray) (a : Nat) (ha : a ≤ s.size) : a + (nmL (s.data.toList.drop a)).length ≤ s.size := by
  have el : s.data.toList.length = s.size := Array.length_toList
  have h := nm_len (s.data.toList.drop a)
  rw [List.length_drop] at h
  omega

/-- Pieces as they are read. -/
def CanonP (p : Pce) : Prop :=
  ((p.k = 1 ∨ p.k = 3) ∧ p.s = noB) ∨ (p.k = 2 ∧ p.ns = noB ∧ p.has = false ∧ p.s = noB) ∨ (p.k = 4 ∧ p.name = noB ∧ p.ns = noB ∧ p.has = false)
theorem markL_canon {l q : List UInt8} {p : Pce} (h : markL l = some (p, q)) : CanonP p := by
  unfold markL at h
  split at h
  · unfold closeL at h
    split at h
    · obtain ⟨rfl, _⟩ := Prod.mk.inj (Option.some.inj h)
      exact .inr (.inl ⟨rfl, rfl, rfl, rfl⟩)
    · cases h
  split at h
  · unfold openL at h
    split at h
    · split at h
      · unfold endM at h
        split at h
        · obtain ⟨rfl, _⟩ := Prod.mk.inj (Option.some.inj h)
          exact .inl ⟨.inr rfl, rfl⟩
        split at h
        · obtain ⟨rfl, _⟩ := Prod.mk.inj (Option.some.inj h)
          exact .inl ⟨.inl rfl, rfl⟩
        · cases h
      · cases h
    · cases h
  · unfold textL7 at h
    split at h
    · obtain ⟨rfl, _⟩ := Prod.mk.inj (Option.some.inj h)
      exact .inr (.inr ⟨rfl, rfl, rfl, rfl⟩)
    · cases h
end Go.Proofs.YtmgikfeknmbpbaaDoor.M
namespace Go.Proofs.YtmgikfeknmbpbaaDoor.M

theorem is_u8 (c d : UInt8) (z : Int) (hz : z = (d.toNat : Int)) : ((c.toNat : Int) == z) = decide (c = d) := by
  subst hz
  by_cases h : c = d
  · subst h; simp
  · rw [decide_eq_false h, beq_eq_false_iff_ne]
    exact fun e => h (UInt8.toNat_inj.1 (by omega))
theorem isn_u8 (c d : UInt8) (z : Int) (hz : z = (d.toNat : Int)) : ((c.toNat : Int) != z) = !decide (c = d) := by
  show (!((c.toNat : Int) == z)) = _
  rw [is_u8 c d z hz]


theorem eq_bytes (s : ByteArray) (l : List UInt8) : decide (s = ⟨l.toArray⟩) = decide (s.data.toList = l) := by
  by_cases h : s.data.toList = l
  · rw [decide_eq_true h, decide_eq_true]
    apply ByteArray.ext
    rw [← h]
  · rw [decide_eq_false h, decide_eq_false]
    intro e; exact h (by rw [e])
end Go.Proofs.YtmgikfeknmbpbaaDoor.M
namespace Go.Proofs.YtmgikfeknmbpbaaDoor
open Go.RowKit M

set_option maxHeartbeats 400000 in
theorem l1In_any (x a b : Int) (w : World) :
    Calls Tryd.prog 60 #[.int .i64 x, .int .i64 a, .int .i64 b] w fun e w' => e = .returned (.bool (inB x a b)) ∧ w' = w := by
  go_enter Tryd.func60, Tryd.ntmps60
  go_wp2
  all_goals
    go_ret
    refine ⟨ret_bool ?_, rfl⟩
    go_light
    unfold inB
    simp_all
    try omega

theorem wrap64_u8 (c : UInt8) : wrap64 (c.toNat : Int) = c.toNat := by
  have := c.toNat_lt
  unfold wrap64
  omega
end Go.Proofs.YtmgikfeknmbpbaaDoor
namespace Go.Proofs.YtmgikfeknmbpbaaDoor
open Go.RowKit M
set_option linter.unusedVariables false

theorem eqL3 (s : ByteArray) (l : List UInt8) : (s.toList == l) = decide (s.data.toList = l) := by
  rw [ByteArray.toList_eq, Bool.eq_iff_iff]; simp
theorem isPre_take (p l : List UInt8) : p.isPrefixOf l = decide (l.take p.length = p) := by
  rw [Bool.eq_iff_iff]
  simp only [List.isPrefixOf_iff_prefix, decide_eq_true_eq]
  constructor
  · rintro ⟨t, rfl⟩; simp
  · intro h
    refine ⟨l.drop p.length, ?_⟩
    have h2 := List.take_append_drop p.length l
    rw [h] at h2
    exact h2

set_option maxHeartbeats 1000000 in
theorem l7At_no (s t : ByteArray) (a : Nat) (w : World) (ha : a ≤ s.size) (hs : s.size ≤ 1099511627776) (ht : t.size ≤ 100) (h : ¬ a + t.size ≤ s.size) :
    Calls Tryd.prog 29 #[.string s, .int .i64 a, .string t] w fun e w' => e = .returned (.bool false) ∧ w' = w := by
  have h' : ¬ (a : Int) + t.size ≤ s.size := by omega
  go_enter Tryd.func29, Tryd.ntmps29
  go_wp2
  go_ret
  exact ⟨rfl, rfl⟩
set_option maxHeartbeats 1000000 in
theorem l7At_yes (s t : ByteArray) (a : Nat) (w : World) (ha : a ≤ s.size) (hs : s.size ≤ 1099511627776) (ht : t.size ≤ 100) (h : a + t.size ≤ s.size) :
    Calls Tryd.prog 29 #[.string s, .int .i64 a, .string t] w fun e w' => e = .returned (.bool (t.data.toList.isPrefixOf (s.data.toList.drop a))) ∧ w' = w := by
  have h' : (a : Int) + t.size ≤ s.size := by omega
  go_enter Tryd.func29, Tryd.ntmps29
  go_wp2
  go_ret
  refine ⟨ret_bool ?_, rfl⟩
  have e : t.data.toList.length = t.size := Array.length_toList
  rw [eqL3, isPre_take, extract_list, ByteArray.toList_eq, e, show a + t.size - a = t.size by omega]

theorem l7At_any (s t : ByteArray) (p : List UInt8) (hp : t.data.toList = p) (a : Nat) (w : World) (ha : a ≤ s.size) (hs : s.size ≤ 1099511627776) (ht : t.size ≤ 100) :
    Calls Tryd.prog 29 #[.string s, .int .i64 a, .string t] w fun e w' => e = .returned (.bool (p.isPrefixOf (s.data.toList.drop a))) ∧ w' = w := by
  subst hp
  by_cases h : a + t.size ≤ s.size
  · exact l7At_yes s t a w ha hs ht h
  · have e1 : t.data.toList.length = t.size := Array.length_toList
    have e2 : s.data.toList.length = s.size := Array.length_toList
    have : t.data.toList.isPrefixOf (s.data.toList.drop a) = false := by
      rw [isPre_take, decide_eq_false]
      intro e
      have := congrArg List.length e
      rw [List.length_take, List.length_drop] at this
      omega
    rw [this]
    exact l7At_no s t a w ha hs ht h
end Go.Proofs.YtmgikfeknmbpbaaDoor
