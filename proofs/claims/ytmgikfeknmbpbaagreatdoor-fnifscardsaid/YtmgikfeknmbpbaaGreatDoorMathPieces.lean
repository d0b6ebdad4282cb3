/-
  Plain facts on marks and texts one behind the other: no program in sight.
-/
import Derived.Test.YtmgikfeknmbpbaaGreatDoorTurn
import Derived.Test.YtmgikfeknmbpbaaGreatDoorMathSmall
namespace Go.Proofs.YtmgikfeknmbpbaaGreatDoor.M

/-- A piece. -/
structure Pce where
  k : Int
  name : ByteArray
  ns : ByteArray
  has : Bool
  s : ByteArray
deriving DecidableEq

def noB : ByteArray := ⟨#[]⟩
def spcS : List UInt8 := [32, 120, 109, 108, 110, 115, 61, 34]

/-- What a piece's text is. -/
def spcT (p : Pce) : List UInt8 := if p.has then spcS ++ escL p.ns.data.toList ++ [34] else []
def markT (p : Pce) : List UInt8 :=
  if p.k = 1 then [60] ++ p.name.data.toList ++ spcT p ++ [62]
  else if p.k = 2 then [60, 47] ++ p.name.data.toList ++ [62]
  else if p.k = 3 then [60] ++ p.name.data.toList ++ spcT p ++ [47, 62]
  else escL p.s.data.toList

/-- A name ahead, and what is behind it. -/
def nameP (c : UInt8) : Bool := anyB (c.toNat : Int) [2, 4, 7]
def nmL (l : List UInt8) : List UInt8 := l.takeWhile nameP
def nmR (l : List UInt8) : List UInt8 := l.dropWhile nameP

def closeP (n : List UInt8) : Pce := ⟨2, bytesOf n, noB, false, noB⟩
def openP (k : Int) (n : List UInt8) (sp : Bool × List UInt8) : Pce := ⟨k, bytesOf n, bytesOf sp.2, sp.1, noB⟩
def textP (t : List UInt8) : Pce := ⟨4, noB, noB, false, bytesOf t⟩

def closeL (r : List UInt8) : Option (Pce × List UInt8) :=
  if smB (nmL r) && [62].isPrefixOf (nmR r) then some (closeP (nmL r), (nmR r).drop 1) else none
def spcL (r : List UInt8) : Option ((Bool × List UInt8) × List UInt8) :=
  if spcS.isPrefixOf r then
    (if fromB 34 (r.drop 8) = [] then none else
     match unesc (upTo 34 (r.drop 8)) with
     | some ns => if ns.length ≤ 20 then some ((true, ns), (fromB 34 (r.drop 8)).tail) else none
     | none => none)
  else some ((false, []), r)
def endM (n : List UInt8) (sp : Bool × List UInt8) (q : List UInt8) : Option (Pce × List UInt8) :=
  if [47, 62].isPrefixOf q then some (openP 3 n sp, q.drop 2) else if [62].isPrefixOf q then some (openP 1 n sp, q.drop 1) else none
def openL (r : List UInt8) : Option (Pce × List UInt8) :=
  if smB (nmL r) then
    (match spcL (nmR r) with
     | some x => endM (nmL r) x.1 x.2
     | none => none)
  else none
def textL7 (l : List UInt8) : Option (Pce × List UInt8) :=
  match unesc (upTo 60 l) with
  | some t => some (textP t, fromB 60 l)
  | none => none
def markL (l : List UInt8) : Option (Pce × List UInt8) :=
  if [60, 47].isPrefixOf l then closeL (l.drop 2) else if [60].isPrefixOf l then openL (l.drop 1) else textL7 l

theorem nmR_le (l : List UInt8) : (nmR l).length ≤ l.length := by
  induction l with
  | nil => simp [nmR]
  | cons b l ih =>
    simp only [nmR, List.dropWhile_cons] at *
    split
    · simp; omega
    · simp
theorem nm_from (l : List UInt8) : nmL l ++ nmR l = l := List.takeWhile_append_dropWhile
theorem nmL_le (l : List UInt8) : (nmL l).length ≤ l.length := by
  have := congrArg List.length (nm_from l)
  rw [List.length_append] at this
  omega

theorem closeL_le {r q : List UInt8} {p : Pce} (h : closeL r = some (p, q)) : q.length ≤ r.length := by
  unfold closeL at h
  split at h
  · obtain ⟨_, rfl⟩ := Prod.mk.inj (Option.some.inj h)
    have := nmR_le r
    simp; omega
  · cases h
theorem spcL_le {r q : List UInt8} {sp : Bool × List UInt8} (h : spcL r = some (sp, q)) : q.length ≤ r.length ∧ sp.2.length ≤ 20 := by
  unfold spcL at h
  split at h
  · split at h
    · cases h
    · split at h
      · split at h
        · obtain ⟨rfl, rfl⟩ := Prod.mk.inj (Option.some.inj h)
          have := fromB_le 34 (r.drop 8)
          simp at this ⊢
          refine ⟨by omega, by assumption⟩
        · cases h
      · cases h
  · obtain ⟨rfl, rfl⟩ := Prod.mk.inj (Option.some.inj h)
    exact ⟨Nat.le_refl _, Nat.zero_le _⟩
theorem endM_le {n r q : List UInt8} {sp : Bool × List UInt8} {p : Pce} (h : endM n sp r = some (p, q)) : q.length ≤ r.length := by
  unfold endM at h
  split at h
  · obtain ⟨_, rfl⟩ := Prod.mk.inj (Option.some.inj h); simp
  split at h
  · obtain ⟨_, rfl⟩ := Prod.mk.inj (Option.some.inj h); simp
  · cases h
theorem openL_le {r q : List UInt8} {p : Pce} (h : openL r = some (p, q)) : q.length ≤ r.length := by
  unfold openL at h
  split at h
  · split at h
    · rename_i x hx
      have h1 := endM_le h
      have h2 := (spcL_le (sp := x.1) (q := x.2) hx).1
      have h3 := nmR_le r
      omega
    · cases h
  · cases h

theorem pre60 (l : List UInt8) : [60].isPrefixOf l = decide (l.head? = some 60) := by
  cases l with
  | nil => rfl
  | cons c r =>
    simp [List.isPrefixOf]
    rw [Bool.beq_eq_decide_eq]
    by_cases h : c = 60
    · simp [h]
    · simp [h, Ne.symm h]

theorem markL_lt {l q : List UInt8} {p : Pce} (hl : l ≠ []) (h : markL l = some (p, q)) : q.length < l.length := by
  have h0 : 0 < l.length := List.length_pos_iff.2 hl
  unfold markL at h
  split at h
  · have := closeL_le h
    simp at this; omega
  split at h
  · have := openL_le h
    simp at this; omega
  · rename_i h60
    unfold textL7 at h
    split at h
    · obtain ⟨_, rfl⟩ := Prod.mk.inj (Option.some.inj h)
      match l, hl, h60 with
      | c :: r, _, h60 =>
        have hc : c ≠ 60 := fun e => h60 (by rw [pre60]; simp [e])
        rw [fromB_cons_ne r hc]
        have := fromB_le 60 r
        simp; omega
    · cases h

set_option linter.unusedVariables false in
/-- All pieces. -/
def pcsL (l : List UInt8) : Option (List Pce) :=
  if hl : l = [] then some [] else
  match h : markL l with
  | some x => (pcsL x.2).map (x.1 :: ·)
  | none => none
termination_by l.length
decreasing_by exact markL_lt hl h

theorem pcsL_nil : pcsL [] = some [] := by rw [pcsL]; simp
theorem pcsL_none {l : List UInt8} (hl : l ≠ []) (h : markL l = none) : pcsL l = none := by
  rw [pcsL]; simp only [hl, dif_neg, not_false_eq_true]; split <;> simp_all
theorem pcsL_some {l q : List UInt8} {p : Pce} (hl : l ≠ []) (h : markL l = some (p, q)) : pcsL l = (pcsL q).map (p :: ·) := by
  rw [pcsL]; simp only [hl, dif_neg, not_false_eq_true]; split <;> simp_all

/-- What Pieces answers. -/
def pcsR (l : List UInt8) : List Pce × Bool :=
  if allB l [0] then (match pcsL l with | some ps => if ps.length ≤ 60 then (ps, true) else ([], false) | none => ([], false)) else ([], false)

/-- What is read so far, and what is left. -/
def PcAt (l rest : List UInt8) (acc : List Pce) : Prop := rest.length ≤ l.length ∧ acc.length ≤ 60 ∧ pcsL l = (pcsL rest).map (acc ++ ·)

theorem PcAt.start (l : List UInt8) : PcAt l l [] := ⟨Nat.le_refl _, Nat.zero_le _, by simp⟩
theorem PcAt.step {l rest q : List UInt8} {acc : List Pce} {p : Pce} (h : PcAt l rest acc) (hr : rest ≠ []) (hm : markL rest = some (p, q)) (h60 : acc.length < 60) : PcAt l q (acc ++ [p]) := by
  obtain ⟨a, b, c⟩ := h
  have := markL_lt hr hm
  refine ⟨by omega, by simp; omega, ?_⟩
  rw [c, pcsL_some hr hm, Option.map_map]
  congr 1
  funext x
  simp [Function.comp]
theorem PcAt.bad {l rest : List UInt8} {acc : List Pce} (h : PcAt l rest acc) (hr : rest ≠ []) (hm : markL rest = none) : pcsR l = ([], false) := by
  unfold pcsR
  rw [h.2.2, pcsL_none hr hm]
  simp
theorem PcAt.many {l rest : List UInt8} {acc : List Pce} (h : PcAt l rest acc) (hr : rest ≠ []) (h60 : acc.length = 60) : pcsR l = ([], false) := by
  unfold pcsR
  rw [h.2.2]
  cases hm : markL rest with
  | none => rw [pcsL_none hr hm]; simp
  | some x =>
    rw [pcsL_some (p := x.1) (q := x.2) hr hm]
    cases hq : pcsL x.2 with
    | none => simp
    | some ps => simp; omega
theorem PcAt.done {l : List UInt8} {acc : List Pce} (h : PcAt l [] acc) (hp : allB l [0] = true) : pcsR l = (acc, true) := by
  unfold pcsR
  rw [h.2.2, pcsL_nil, if_pos hp]
  simp [h.2.1]
theorem pcsR_not {l : List UInt8} (hp : allB l [0] = false) : pcsR l = ([], false) := by
  unfold pcsR; rw [if_neg (by simp [hp])]

/-- How great what is read is. -/
def pcSize (p : Pce) : Nat := p.name.size + p.ns.size + p.s.size
theorem smB_le {l : List UInt8} (h : smB l = true) : l.length ≤ 20 := by
  match l, h with
  | c :: r, h => simp [smB] at h; simpa using h.1.1
theorem pc_name (p : Pce) : p.name.size ≤ pcSize p ∧ p.ns.size ≤ pcSize p ∧ p.s.size ≤ pcSize p := by unfold pcSize; omega
theorem markL_size {l q : List UInt8} {p : Pce} (h : markL l = some (p, q)) : pcSize p ≤ 40 + l.length := by
  have key : ∀ {r n : List UInt8} {k : Int} {sp : Bool × List UInt8}, smB n = true → sp.2.length ≤ 20 → pcSize (openP k n sp) ≤ 40 := by
    intro r n k sp hn hs
    have := smB_le hn
    simp only [pcSize, openP, bytesOf_size, noB]
    show n.length + sp.2.length + 0 ≤ 40
    omega
  unfold markL at h
  split at h
  · unfold closeL at h
    split at h
    · rename_i hh
      rw [Bool.and_eq_true] at hh
      obtain ⟨rfl, _⟩ := Prod.mk.inj (Option.some.inj h)
      have := smB_le hh.1
      simp only [pcSize, closeP, bytesOf_size, noB]
      show (nmL (l.drop 2)).length + 0 + 0 ≤ _
      omega
    · cases h
  split at h
  · unfold openL at h
    split at h
    · rename_i hn
      split at h
      · rename_i x hx
        have hs := (spcL_le (sp := x.1) (q := x.2) hx).2
        unfold endM at h
        split at h
        · obtain ⟨rfl, _⟩ := Prod.mk.inj (Option.some.inj h)
          have := key (r := []) (k := 3) hn hs; omega
        split at h
        · obtain ⟨rfl, _⟩ := Prod.mk.inj (Option.some.inj h)
          have := key (r := []) (k := 1) hn hs; omega
        · cases h
      · cases h
    · cases h
  · unfold textL7 at h
    split at h
    · rename_i t ht
      obtain ⟨rfl, _⟩ := Prod.mk.inj (Option.some.inj h)
      have h1 := unesc_le _ _ ht
      have h2 := congrArg List.length (upTo_from 60 l)
      rw [List.length_append] at h2
      simp only [pcSize, textP, bytesOf_size, noB]
      show 0 + 0 + t.length ≤ _
      omega
    · cases h
end Go.Proofs.YtmgikfeknmbpbaaGreatDoor.M
