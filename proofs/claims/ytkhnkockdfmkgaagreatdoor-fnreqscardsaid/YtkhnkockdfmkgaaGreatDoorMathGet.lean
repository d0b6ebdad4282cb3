/-
  Plain facts on how a request is read: no program in sight.
-/
import Derived.Test.YtkhnkockdfmkgaaGreatDoorMathPut
import Derived.Test.YtkhnkockdfmkgaaGreatDoorMathEnd
import Derived.Test.YtkhnkockdfmkgaaGreatDoorMathChunk
import Derived.Lib.IndexBytes
namespace Go.Proofs.YtkhnkockdfmkgaaGreatDoor.M

/-- What stands ahead of the first byte c, and behind it. -/
def cut1 (c : UInt8) : List UInt8 → Option (List UInt8 × List UInt8)
  | [] => none
  | x :: r => if x = c then some ([], r) else (cut1 c r).map fun p => (x :: p.1, p.2)
/-- What stands ahead of the first line's end, and behind it. -/
def cut2 : List UInt8 → Option (List UInt8 × List UInt8)
  | [] => none
  | x :: r => if x = 13 ∧ r.head? = some 10 then some ([], r.drop 1) else (cut2 r).map fun p => (x :: p.1, p.2)
/-- What stands between line's ends. -/
def linesL : List UInt8 → List (List UInt8)
  | [] => [[]]
  | [x] => [[x]]
  | x :: y :: r => if x = 13 ∧ y = 10 then [] :: linesL r else (match linesL (y :: r) with | [] => [[x]] | l :: q => (x :: l) :: q)
/-- A head of its line. -/
def mkH (n v : List UInt8) : Hd := (bytesOf (lowL n), bytesOf (trimL v))
/-- The heads, one line behind the other, each with its end. -/
def headsI : Nat → List UInt8 → Option (List Hd)
  | 0, _ => none
  | f + 1, t => if t = [] then some [] else
    match cut1 58 t with
    | none => none
    | some (n, t1) => match cut2 t1 with
      | none => none
      | some (v, t2) => if hdB (mkH n v) then (headsI f t2).map (mkH n v :: ·) else none
/-- Lines that have each their end. -/
def readI (t : List UInt8) : Option (ByteArray × ByteArray × List Hd) :=
  match cut1 32 t with
  | none => none
  | some (m, t1) => if methB (bytesOf m) then
    match cut1 32 t1 with
    | none => none
    | some (p, t2) => if targB (bytesOf p) then
      match cut2 t2 with
      | none => none
      | some (v, t3) => if v = proto then (headsI (t3.length + 1) t3).map fun hs => (bytesOf m, bytesOf p, hs) else none
      else none
    else none
/-- A text, cut at every blank. -/
def cutsB (c : UInt8) : List UInt8 → List (List UInt8)
  | [] => [[]]
  | x :: r => if x = c then [] :: cutsB c r else (match cutsB c r with | [] => [[x]] | l :: q => (x :: l) :: q)
def firstS (l : List UInt8) : Option (ByteArray × ByteArray) :=
  match cutsB 32 l with
  | [m, p, v] => if v = proto ∧ methB (bytesOf m) = true ∧ targB (bytesOf p) = true then some (bytesOf m, bytesOf p) else none
  | _ => none
def headS (l : List UInt8) : Option Hd :=
  match cut1 58 l with
  | none => none
  | some (n, v) => if hdB (mkH n v) then some (mkH n v) else none
def headsS : List (List UInt8) → Option (List Hd)
  | [] => some []
  | l :: ls => match headS l with
    | none => none
    | some h => (headsS ls).map (h :: ·)
def readS (t : List UInt8) : Option (ByteArray × ByteArray × List Hd) :=
  match linesL t with
  | [] => none
  | l :: ls => match firstS l with
    | none => none
    | some (m, p) => (headsS ls).map fun hs => (m, p, hs)

theorem cut1_some {c : UInt8} : ∀ {l a b : List UInt8}, cut1 c l = some (a, b) ↔ l = a ++ c :: b ∧ c ∉ a := by
  intro l
  induction l with
  | nil => intro a b; simp [cut1]
  | cons x r ih =>
    intro a b
    rw [cut1]
    by_cases h : x = c
    · rw [if_pos h]
      subst h
      constructor
      · intro e; cases e; simp
      · rintro ⟨e, hn⟩
        cases a with
        | nil => simp at e; rw [e]
        | cons y q => simp at e; exact absurd (by simp [e.1]) hn
    · rw [if_neg h]
      constructor
      · intro e
        cases hc : cut1 c r with
        | none => rw [hc] at e; cases e
        | some p =>
          rw [hc] at e
          obtain ⟨a', b'⟩ := p
          obtain ⟨e1, e2⟩ := ih.1 hc
          cases e
          exact ⟨by simp [e1], by simp [e2, Ne.symm h]⟩
      · rintro ⟨e, hn⟩
        cases a with
        | nil => simp at e; exact absurd e.1 h
        | cons y q =>
          simp at e
          obtain ⟨rfl, e⟩ := e
          have := ih.2 ⟨e, fun hm => hn (by simp [hm])⟩
          rw [this]; rfl
theorem cut1_none {c : UInt8} {l : List UInt8} : cut1 c l = none ↔ c ∉ l := by
  induction l with
  | nil => simp [cut1]
  | cons x r ih =>
    rw [cut1]
    by_cases h : x = c
    · rw [if_pos h]; simp [h]
    · rw [if_neg h, Option.map_eq_none_iff, ih]; simp [Ne.symm h]

/-- There is no line's end in it. -/
def noEnd : List UInt8 → Prop
  | [] => True
  | [_] => True
  | x :: y :: r => ¬ (x = 13 ∧ y = 10) ∧ noEnd (y :: r)
theorem noEnd_tail {x : UInt8} {r : List UInt8} (h : noEnd (x :: r)) : noEnd r := by
  cases r with
  | nil => trivial
  | cons y q => exact h.2
theorem noEnd_of {l : List UInt8} (h : 13 ∉ l) : noEnd l := by
  induction l with
  | nil => trivial
  | cons x r ih =>
    cases r with
    | nil => trivial
    | cons y q => exact ⟨fun e => h (by simp [e.1]), ih (fun hm => h (by simp [hm]))⟩
theorem cut2_app : ∀ {a : List UInt8} (b : List UInt8), noEnd a → cut2 (a ++ 13 :: 10 :: b) = some (a, b) := by
  intro a
  induction a with
  | nil => intro b _; simp [cut2]
  | cons x r ih =>
    intro b h
    rw [List.cons_append, cut2, ih b (noEnd_tail h)]
    have : ¬ (x = 13 ∧ (r ++ 13 :: 10 :: b).head? = some 10) := by
      cases r with
      | nil => simp
      | cons y q => simpa using h.1
    rw [if_neg this]; rfl
theorem cut2_some : ∀ {l a b : List UInt8}, cut2 l = some (a, b) → l = a ++ 13 :: 10 :: b ∧ noEnd a := by
  intro l
  induction l with
  | nil => intro a b h; cases h
  | cons x r ih =>
    intro a b h
    rw [cut2] at h
    by_cases hx : x = 13 ∧ r.head? = some 10
    · rw [if_pos hx] at h
      cases h
      cases r with
      | nil => simp at hx
      | cons y q => simp at hx; exact ⟨by simp [hx.1, hx.2], trivial⟩
    · rw [if_neg hx] at h
      cases hc : cut2 r with
      | none => rw [hc] at h; cases h
      | some p =>
        rw [hc] at h
        obtain ⟨a', b'⟩ := p
        obtain ⟨e1, e2⟩ := ih hc
        cases h
        refine ⟨by simp [e1], ?_⟩
        cases a' with
        | nil => trivial
        | cons y q =>
          refine ⟨fun e => hx ⟨e.1, ?_⟩, e2⟩
          rw [e1, e.2]; rfl

/-- Lines, each with its end. -/
def flatE (L : List (List UInt8)) : List UInt8 := L.flatMap (· ++ [13, 10])
theorem linesL_ne (t : List UInt8) : linesL t ≠ [] := by
  match t with
  | [] => simp [linesL]
  | [x] => simp [linesL]
  | x :: y :: r =>
    rw [linesL]
    split
    · simp
    · split <;> simp
theorem linesL_flat : ∀ t : List UInt8, flatE (linesL t) = t ++ [13, 10] ∧ ∀ l ∈ linesL t, noEnd l
  | [] => by simp [linesL, flatE, noEnd]
  | [x] => by simp [linesL, flatE, noEnd]
  | x :: y :: r => by
    rw [linesL]
    by_cases h : x = 13 ∧ y = 10
    · rw [if_pos h]
      obtain ⟨h1, h2⟩ := linesL_flat r
      refine ⟨?_, ?_⟩
      · simp only [flatE, List.flatMap_cons, List.nil_append] at *
        rw [h1, h.1, h.2]; rfl
      · intro l hl
        rcases List.mem_cons.1 hl with rfl | hl
        · trivial
        · exact h2 l hl
    · rw [if_neg h]
      obtain ⟨h1, h2⟩ := linesL_flat (y :: r)
      cases hL : linesL (y :: r) with
      | nil => exact absurd hL (linesL_ne _)
      | cons l q =>
        rw [hL] at h1 h2
        refine ⟨?_, ?_⟩
        · simp only [flatE, List.flatMap_cons, List.cons_append] at *
          rw [h1]
        · intro k hk
          rcases List.mem_cons.1 hk with rfl | hk
          · cases l with
            | nil => trivial
            | cons z s =>
              refine ⟨fun e => h ⟨e.1, ?_⟩, h2 _ (by simp)⟩
              simp only [flatE, List.flatMap_cons, List.cons_append] at h1
              injection h1 with h3 _
              rw [← h3]; exact e.2
          · exact h2 k (by simp [hk])

theorem allB_no {l : List UInt8} {ks : List Int} (c : UInt8) (h : allB l ks = true) (hc : anyB (c.toNat : Int) ks = false) : c ∉ l := by
  intro hm
  have := List.all_eq_true.1 h c hm
  rw [hc] at this; cases this
theorem meth_no {m : List UInt8} (h : methB (bytesOf m) = true) : 13 ∉ m ∧ 32 ∉ m ∧ m ≠ [] := by
  simp only [methB, Bool.and_eq_true] at h
  refine ⟨allB_no 13 h.1 (by decide), allB_no 32 h.1 (by decide), ?_⟩
  rintro rfl
  have := h.2
  revert this
  decide
theorem targ_no {p : List UInt8} (h : targB (bytesOf p) = true) : 13 ∉ p ∧ 32 ∉ p ∧ p ≠ [] := by
  simp only [targB, Bool.and_eq_true] at h
  refine ⟨?_, ?_, ?_⟩
  · intro hm; have := List.all_eq_true.1 h.1 13 hm; revert this; decide
  · intro hm; have := List.all_eq_true.1 h.1 32 hm; revert this; decide
  · rintro rfl; have := h.2; revert this; decide

theorem cutsB_none {c : UInt8} {a : List UInt8} (h : c ∉ a) : cutsB c a = [a] := by
  induction a with
  | nil => rfl
  | cons x r ih =>
    have h1 : ¬ x = c := fun e => h (by simp [e])
    rw [cutsB, if_neg h1, ih (fun e => h (by simp [e]))]
theorem cutsB_app {c : UInt8} {a : List UInt8} (r : List UInt8) (h : c ∉ a) : cutsB c (a ++ c :: r) = a :: cutsB c r := by
  induction a with
  | nil => simp [cutsB]
  | cons x q ih =>
    have h1 : ¬ x = c := fun e => h (by simp [e])
    rw [List.cons_append, cutsB, if_neg h1, ih (fun e => h (by simp [e]))]
theorem cutsB_ne (c : UInt8) (l : List UInt8) : cutsB c l ≠ [] := by
  cases l with
  | nil => simp [cutsB]
  | cons x r =>
    rw [cutsB]
    split
    · simp
    · split <;> simp
/-- The first line: in three, by cutting one behind the other. -/
theorem firstS_eq (l : List UInt8) : firstS l =
    match cut1 32 l with
    | none => none
    | some (m, t1) => match cut1 32 t1 with
      | none => none
      | some (p, v) => if v = proto ∧ methB (bytesOf m) = true ∧ targB (bytesOf p) = true then some (bytesOf m, bytesOf p) else none := by
  unfold firstS
  cases h1 : cut1 32 l with
  | none => rw [cutsB_none (cut1_none.1 h1)]
  | some q =>
    obtain ⟨m, t1⟩ := q
    obtain ⟨rfl, hm⟩ := cut1_some.1 h1
    rw [cutsB_app t1 hm]
    cases h2 : cut1 32 t1 with
    | none => rw [cutsB_none (cut1_none.1 h2)]; simp [h2]
    | some q =>
      obtain ⟨p, v⟩ := q
      obtain ⟨rfl, hp⟩ := cut1_some.1 h2
      rw [cutsB_app v hp]
      simp only [h2]
      by_cases hv : 32 ∈ v
      · have hv2 : ¬ v = proto := by rintro rfl; revert hv; decide
        have hne : ∃ a b r, cutsB 32 v = a :: b :: r := by
          cases h3 : cut1 32 v with
          | none => exact absurd hv (cut1_none.1 h3)
          | some q =>
            obtain ⟨x, y⟩ := q
            obtain ⟨rfl, hx⟩ := cut1_some.1 h3
            rw [cutsB_app y hx]
            cases h4 : cutsB 32 y with
            | nil => exact absurd h4 (cutsB_ne _ _)
            | cons b r => exact ⟨_, _, _, rfl⟩
        obtain ⟨a, b, r, e⟩ := hne
        rw [e, if_neg (fun h => hv2 h.1)]
      · rw [cutsB_none hv]

theorem mem_low {c : UInt8} {n : List UInt8} (h : c ∈ n) (hc : lowB c = c) : c ∈ lowL n := by
  unfold lowL
  rw [List.mem_map]
  exact ⟨c, h, hc⟩
theorem sm_no13 {l : List UInt8} (h : smB l = true) : 13 ∉ l := by
  cases l with
  | nil => simp
  | cons c r =>
    simp only [smB, Bool.and_eq_true] at h
    exact allB_no 13 h.2 (by decide)
/-- A name with a line's end in it is none. -/
theorem hd_no13 {n v : List UInt8} (h : hdB (mkH n v) = true) : 13 ∉ n := by
  intro hm
  simp only [hdB, mkH, Bool.and_eq_true] at h
  exact sm_no13 (l := lowL n) h.1 (mem_low hm (by decide))

theorem cut1_in {c : UInt8} {l n v : List UInt8} (r : List UInt8) (h : cut1 c l = some (n, v)) : cut1 c (l ++ r) = some (n, v ++ r) := by
  obtain ⟨rfl, hn⟩ := cut1_some.1 h
  exact cut1_some.2 ⟨by simp, hn⟩
/-- What is found past a line's end has it in it. -/
theorem cut1_past {c : UInt8} {l F n t : List UInt8} (h1 : cut1 c l = none) (hc : c ≠ 13) (h : cut1 c (l ++ 13 :: 10 :: F) = some (n, t)) : 13 ∈ n := by
  have hn : c ∉ l := cut1_none.1 h1
  obtain ⟨e2, _⟩ := cut1_some.1 h
  rcases Nat.lt_or_ge l.length n.length with hlt | hge
  · have a1 : n.take (l.length + 1) = l ++ [13] := by
      have := congrArg (List.take (l.length + 1)) e2
      rw [List.take_append_of_le_length (l₁ := n) (by omega)] at this
      rw [← this, List.take_append, List.take_of_length_le (by omega)]
      simp
    have : 13 ∈ n.take (l.length + 1) := by rw [a1]; simp
    exact List.mem_of_mem_take this
  · exfalso
    rcases Nat.lt_or_ge n.length l.length with hlt | hge2
    · have := congrArg (fun z => z[n.length]?) e2
      simp only [List.getElem?_append_left hlt] at this
      have h3 : l[n.length]? = some c := by rw [this]; simp
      exact hn (List.mem_of_getElem? h3)
    · have h3 : n.length = l.length := by omega
      have := congrArg (fun z => z[n.length]?) e2
      rw [h3] at this
      simp only [List.getElem?_append_right (Nat.le_refl _)] at this
      rw [← h3] at this
      simp [h3] at this
      exact hc this.symm
theorem noEnd_drop {a b : List UInt8} (h : noEnd (a ++ b)) : noEnd b := by
  induction a with
  | nil => exact h
  | cons x r ih => exact ih (noEnd_tail h)

theorem headsI_lines : ∀ (L : List (List UInt8)) (f : Nat), (∀ l ∈ L, noEnd l) → (flatE L).length < f → headsI f (flatE L) = headsS L := by
  intro L
  induction L with
  | nil =>
    intro f _ hf
    obtain ⟨f, rfl⟩ : ∃ g, f = g + 1 := ⟨f - 1, by omega⟩
    simp [headsI, headsS, flatE]
  | cons l L ih =>
    intro f hL hf
    obtain ⟨f, rfl⟩ : ∃ g, f = g + 1 := ⟨f - 1, by omega⟩
    have e : flatE (l :: L) = l ++ 13 :: 10 :: flatE L := by simp [flatE]
    have hlen : (flatE (l :: L)).length = l.length + 2 + (flatE L).length := by rw [e]; simp; omega
    rw [headsI, if_neg (by rw [e]; simp), headsS, headS]
    cases h1 : cut1 58 l with
    | none =>
      simp only
      cases h2 : cut1 58 (flatE (l :: L)) with
      | none => rfl
      | some q =>
        obtain ⟨n, t1⟩ := q
        rw [e] at h2
        have h13 := cut1_past h1 (by decide) h2
        simp only
        cases h3 : cut2 t1 with
        | none => rfl
        | some q =>
          obtain ⟨v, t2⟩ := q
          simp only
          rw [if_neg (fun hh => hd_no13 hh h13)]
    | some q =>
      obtain ⟨n, v⟩ := q
      have h2 := cut1_in (13 :: 10 :: flatE L) h1
      obtain ⟨rfl, hn⟩ := cut1_some.1 h1
      have hv : noEnd v := noEnd_tail (noEnd_drop (a := n) (hL (n ++ 58 :: v) (by simp)))
      rw [e, h2]
      simp only
      rw [cut2_app _ hv]
      simp only
      by_cases hb : hdB (mkH n v) = true
      · rw [if_pos hb, if_pos hb, ih f (fun k hk => hL k (by simp [hk])) (by omega)]
      · rw [if_neg hb, if_neg hb]

/-- Both readings are one. -/
theorem readI_eq (t : List UInt8) : readI (t ++ [13, 10]) = readS t := by
  obtain ⟨h1, h2⟩ := linesL_flat t
  unfold readS
  cases hL : linesL t with
  | nil => exact absurd hL (linesL_ne _)
  | cons l L =>
    rw [hL] at h1 h2
    have e : t ++ [13, 10] = l ++ 13 :: 10 :: flatE L := by rw [← h1]; simp [flatE]
    have hl : noEnd l := h2 l (by simp)
    have hH := headsI_lines L ((flatE L).length + 1) (fun k hk => h2 k (by simp [hk])) (Nat.lt_succ_self _)
    simp only
    rw [firstS_eq, e]
    unfold readI
    cases c1 : cut1 32 l with
    | none =>
      simp only
      cases c2 : cut1 32 (l ++ 13 :: 10 :: flatE L) with
      | none => rfl
      | some q =>
        obtain ⟨m, t1⟩ := q
        have h13 := cut1_past c1 (by decide) c2
        simp only
        rw [if_neg (fun hh => (meth_no hh).1 h13)]
    | some q =>
      obtain ⟨m, l1⟩ := q
      rw [cut1_in (13 :: 10 :: flatE L) c1]
      obtain ⟨rfl, _⟩ := cut1_some.1 c1
      have hl1 : noEnd l1 := noEnd_tail (noEnd_drop (a := m) hl)
      simp only
      by_cases hm : methB (bytesOf m) = true
      · rw [if_pos hm]
        cases c2 : cut1 32 l1 with
        | none =>
          simp only
          cases c3 : cut1 32 (l1 ++ 13 :: 10 :: flatE L) with
          | none => rfl
          | some q =>
            obtain ⟨p, t2⟩ := q
            have h13 := cut1_past c2 (by decide) c3
            simp only
            rw [if_neg (fun hh => (targ_no hh).1 h13)]
        | some q =>
          obtain ⟨p, v⟩ := q
          rw [cut1_in (13 :: 10 :: flatE L) c2]
          obtain ⟨rfl, _⟩ := cut1_some.1 c2
          have hv : noEnd v := noEnd_tail (noEnd_drop (a := p) hl1)
          simp only
          by_cases hp : targB (bytesOf p) = true
          · rw [if_pos hp, cut2_app _ hv]
            simp only
            by_cases hpr : v = proto
            · rw [if_pos hpr, if_pos ⟨hpr, hm, hp⟩, hH]
            · rw [if_neg hpr, if_neg (fun h => hpr h.1)]
          · rw [if_neg hp, if_neg (fun h => hp h.2.2)]
      · rw [if_neg hm]
        cases c2 : cut1 32 l1 with
        | none => rfl
        | some q =>
          obtain ⟨p, v⟩ := q
          simp only
          rw [if_neg (fun h => hm h.2.1)]
end Go.Proofs.YtkhnkockdfmkgaaGreatDoor.M
