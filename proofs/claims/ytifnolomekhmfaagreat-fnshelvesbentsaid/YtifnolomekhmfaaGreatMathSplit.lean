/-
  Plain facts on texts that are cut at slashes, and on what is walked of the pieces: no program in sight.
-/
import Derived.Test.YtifnolomekhmfaaGreatMathText
import Derived.Test.YtifnolomekhmfaaGreatMathPath
import Derived.Lib.Split
import Derived.Lib.SplitLaws
import Derived.Lib.IndexBytes
namespace Go.Proofs.YtifnolomekhmfaaGreat.M

/-- A text, cut at every slash. -/
def cuts : List UInt8 → List (List UInt8)
  | [] => [[]]
  | c :: r => if c = 47 then [] :: cuts r else (match cuts r with | [] => [[c]] | x :: q => (c :: x) :: q)

theorem cuts_ne (l : List UInt8) : cuts l ≠ [] := by
  cases l with
  | nil => simp [cuts]
  | cons c r =>
    unfold cuts
    split
    · simp
    · split <;> simp

theorem cuts_none (a : List UInt8) (h : 47 ∉ a) : cuts a = [a] := by
  induction a with
  | nil => rfl
  | cons c r ih =>
    have h1 : ¬ c = 47 := fun e => h (by simp [e])
    have h2 : 47 ∉ r := fun e => h (List.mem_cons_of_mem _ e)
    unfold cuts
    rw [if_neg h1, ih h2]

theorem cuts_app (a r : List UInt8) (h : 47 ∉ a) : cuts (a ++ 47 :: r) = a :: cuts r := by
  induction a with
  | nil => simp [cuts]
  | cons c q ih =>
    have h1 : ¬ c = 47 := fun e => h (by simp [e])
    have h2 : 47 ∉ q := fun e => h (List.mem_cons_of_mem _ e)
    rw [List.cons_append, cuts, if_neg h1, ih h2]

theorem indexByte_cases (l : List UInt8) (c : UInt8) : (Lib.indexByte l c = -1 ∧ c ∉ l) ∨ ∃ a r, l = a ++ c :: r ∧ c ∉ a ∧ Lib.indexByte l c = a.length := by
  induction l with
  | nil => left; exact ⟨rfl, by simp⟩
  | cons b l ih =>
    by_cases hb : b = c
    · right
      refine ⟨[], l, by simp [hb], by simp, ?_⟩
      unfold Lib.indexByte; simp [hb]
    · rcases ih with ⟨h1, h2⟩ | ⟨a, r, rfl, h2, h3⟩
      · left
        refine ⟨?_, by simp [h2, Ne.symm hb]⟩
        unfold Lib.indexByte; simp [hb, h1]
      · right
        refine ⟨b :: a, r, rfl, by simp [h2, Ne.symm hb], ?_⟩
        unfold Lib.indexByte
        rw [h3]
        have : ¬ ((a.length : Int) = -1) := by omega
        simp [hb, this]

theorem splitK_cuts : ∀ (n : Nat) (l : List UInt8), l.length ≤ n → Lib.splitK [47] 0 (l.count 47) l = cuts l := by
  intro n
  induction n with
  | zero =>
    intro l hl
    have : l = [] := List.length_eq_zero_iff.1 (by omega)
    subst this; rfl
  | succ n ih =>
    intro l hl
    rcases indexByte_cases l 47 with ⟨_, h2⟩ | ⟨a, r, rfl, h2, h3⟩
    · rw [List.count_eq_zero.2 h2, cuts_none l h2]; rfl
    · have hc : (a ++ 47 :: r).count 47 = r.count 47 + 1 := by
        rw [List.count_append, List.count_eq_zero.2 h2, List.count_cons]; simp
      have hi : Lib.index (a ++ 47 :: r) [47] = (a.length : Int) := by rw [Lib.index_one, h3]
      have hne : ¬ ((a.length : Int) == -1) = true := fun e => by have := beq_iff_eq.1 e; omega
      rw [hc, cuts_app a r h2, Lib.splitK, hi, if_neg hne]
      have e1 : (a ++ 47 :: r).take ((a.length : Int).toNat + 0) = a := by simp
      have e2 : (a ++ 47 :: r).drop ((a.length : Int).toNat + [(47 : UInt8)].length) = r := by
        have : ((a.length : Int).toNat + [(47 : UInt8)].length) = a.length + 1 := by simp
        rw [this, ← List.drop_drop, List.drop_left]; rfl
      rw [e1, e2, ih r (by simp at hl; omega)]

/-- The pieces of a text, as texts. -/
def piecesL (l : List UInt8) : List ByteArray := (cuts l).map bytesOf

theorem split_pieces (s : ByteArray) : Lib.splitB ⟨#[47]⟩ 0 (s.data.toList.count 47) s = piecesL s.data.toList := by
  have h := Lib.splitB_data ⟨#[47]⟩ 0 (s.data.toList.count 47) s
  have h' : (Lib.splitB ⟨#[47]⟩ 0 (s.data.toList.count 47) s).map (·.data.toList) = cuts s.data.toList := h.trans (splitK_cuts _ _ (Nat.le_refl _))
  unfold piecesL
  rw [← h', List.map_map]
  have e : (bytesOf ∘ fun x : ByteArray => x.data.toList) = id := by funext x; simp [bytesOf]
  rw [e, List.map_id]

theorem cuts_length (l : List UInt8) : (cuts l).length = l.count 47 + 1 := by
  induction l with
  | nil => rfl
  | cons c r ih =>
    unfold cuts
    by_cases h : c = 47
    · simp [h, ih]
    · rw [if_neg h]
      have h1 : (c :: r).count 47 = r.count 47 := by rw [List.count_cons]; simp [h]
      rw [h1, ← ih]
      have := cuts_ne r
      cases hc : cuts r with
      | nil => exact absurd hc this
      | cons x q => rfl

theorem cuts_le (l : List UInt8) : ∀ x ∈ cuts l, x.length ≤ l.length := by
  induction l with
  | nil => intro x hx; simp [cuts] at hx; simp [hx]
  | cons c r ih =>
    intro x hx
    unfold cuts at hx
    by_cases h : c = 47
    · rw [if_pos h] at hx
      rcases List.mem_cons.1 hx with rfl | hx
      · simp
      · have := ih x hx; simp; omega
    · rw [if_neg h] at hx
      cases hc : cuts r with
      | nil => exact absurd hc (cuts_ne r)
      | cons y q =>
        rw [hc] at hx
        rcases List.mem_cons.1 hx with rfl | hx
        · have := ih y (by rw [hc]; simp); simp; omega
        · have := ih x (by rw [hc]; exact List.mem_cons_of_mem _ hx); simp; omega

theorem piecesL_short (l : List UInt8) (s : ByteArray) (h : s ∈ piecesL l) : s.size ≤ l.length := by
  unfold piecesL at h
  obtain ⟨x, hx, rfl⟩ := List.mem_map.1 h
  rw [bytesOf_size]; exact cuts_le l x hx
theorem piecesL_length (l : List UInt8) : (piecesL l).length = l.count 47 + 1 := by
  unfold piecesL; rw [List.length_map, cuts_length]

/-! What is walked of the pieces. -/

theorem unq_le : ∀ (n : Nat) (l x : List UInt8), l.length ≤ n → unq l = some x → x.length ≤ l.length := by
  intro n
  induction n with
  | zero =>
    intro l x hl h
    have : l = [] := List.length_eq_zero_iff.1 (by omega)
    subst this
    simp [unq] at h; simp [h]
  | succ n ih =>
    intro l x hl h
    cases l with
    | nil => simp [unq] at h; simp [h]
    | cons c r =>
      by_cases hc : c = 37
      · match r, hl, h with
        | [], _, h => rw [unq_short _ hc (by simp)] at h; cases h
        | [_], _, h => rw [unq_short _ hc (by simp)] at h; cases h
        | a :: b :: q, hl, h =>
          cases hh : (isHex a && isHex b)
          · rw [unq_bad _ hc hh] at h; cases h
          · rw [Bool.and_eq_true] at hh
            rw [unq_hex _ hc hh.1 hh.2] at h
            obtain ⟨y, hy, rfl⟩ := Option.map_eq_some_iff.1 h
            have := ih q y (by simp at hl; omega) hy
            simp; omega
      · rw [unq_plain _ hc] at h
        obtain ⟨y, hy, rfl⟩ := Option.map_eq_some_iff.1 h
        have := ih r y (by simp at hl; omega) hy
        simp; omega

theorem unqR_le (l : List UInt8) : (unqR l).1.length ≤ l.length := by
  unfold unqR
  cases h : unq l with
  | none => simp
  | some x => exact unq_le _ l x (Nat.le_refl _) h

theorem unqR_nil : unqR [] = ([], true) := rfl

theorem unqR_empty {l : List UInt8} (h : (unqR l).2 = true) (h1 : (unqR l).1 = []) : l = [] := by
  cases l with
  | nil => rfl
  | cons c r =>
    exfalso
    unfold unqR at h h1
    by_cases hc : c = 37
    · match r, h, h1 with
      | [], h, _ => rw [unq_short _ hc (by simp)] at h; cases h
      | [_], h, _ => rw [unq_short _ hc (by simp)] at h; cases h
      | a :: b :: q, h, h1 =>
        cases hh : (isHex a && isHex b)
        · rw [unq_bad _ hc hh] at h; cases h
        · rw [Bool.and_eq_true] at hh
          rw [unq_hex _ hc hh.1 hh.2] at h h1
          cases hq : unq q with
          | none => rw [hq] at h; cases h
          | some y => rw [hq] at h1; simp at h1
    · rw [unq_plain _ hc] at h h1
      cases hq : unq r with
      | none => rw [hq] at h; cases h
      | some y => rw [hq] at h1; simp at h1

/-- One piece more: taken up, passed by, or one taken away; none where it cannot be. -/
def stepP (out : List ByteArray) (p : ByteArray) : Option (List ByteArray) :=
  if (unqR p.data.toList).2 = false ∨ (unqR p.data.toList).1 = [] then none
  else if (unqR p.data.toList).1 = [46] then some out
  else if (unqR p.data.toList).1 = [46, 46] then (if out = [] then none else some out.dropLast)
  else some (out ++ [bytesOf (unqR p.data.toList).1])
def foldP : List ByteArray → List ByteArray → Option (List ByteArray)
  | out, [] => some out
  | out, p :: r => (stepP out p).bind fun o => foldP o r

theorem foldP_at {ps : List ByteArray} (k : Nat) (h : k < ps.length) (out : List ByteArray) : foldP out (ps.drop k) = (stepP out ps[k]).bind fun o => foldP o (ps.drop (k + 1)) := by
  rw [List.drop_eq_getElem_cons h]; rfl

/-- The last piece goes where it is empty. -/
def strip (ps : List ByteArray) : List ByteArray := if ps.getLast? = some (bytesOf []) then ps.dropLast else ps

/-- What ParsePath tells, as the document has it. -/
def parseP (l : List UInt8) : List ByteArray × Bool :=
  if l.head? = some 47 then
    (match foldP [] (strip (piecesL (l.drop 1))) with
     | some ns => if pathB ns then (ns, true) else ([], false)
     | none => ([], false))
  else ([], false)

theorem parseP_head {l : List UInt8} (h : ¬ l.head? = some 47) : parseP l = ([], false) := by unfold parseP; rw [if_neg h]
theorem parseP_none {l : List UInt8} (h : l.head? = some 47) (hf : foldP [] (strip (piecesL (l.drop 1))) = none) : parseP l = ([], false) := by unfold parseP; rw [if_pos h, hf]
theorem parseP_not {l : List UInt8} {ns : List ByteArray} (h : l.head? = some 47) (hf : foldP [] (strip (piecesL (l.drop 1))) = some ns) (hp : pathB ns = false) : parseP l = ([], false) := by unfold parseP; rw [if_pos h, hf]; simp [hp]
theorem parseP_yes {l : List UInt8} {ns : List ByteArray} (h : l.head? = some 47) (hf : foldP [] (strip (piecesL (l.drop 1))) = some ns) (hp : pathB ns = true) : parseP l = (ns, true) := by unfold parseP; rw [if_pos h, hf]; simp [hp]

theorem stepP_none {out : List ByteArray} {p : ByteArray} (h : (unqR p.data.toList).2 = false ∨ (unqR p.data.toList).1 = []) : stepP out p = none := by unfold stepP; rw [if_pos h]
theorem stepP_dot {out : List ByteArray} {p : ByteArray} (h : (unqR p.data.toList).2 = true) (h1 : (unqR p.data.toList).1 = [46]) : stepP out p = some out := by unfold stepP; rw [if_neg (by simp [h, h1]), if_pos h1]
theorem stepP_up0 {p : ByteArray} (h : (unqR p.data.toList).2 = true) (h1 : (unqR p.data.toList).1 = [46, 46]) : stepP [] p = none := by unfold stepP; rw [if_neg (by simp [h, h1]), if_neg (by simp [h1]), if_pos h1, if_pos rfl]
theorem stepP_up {out : List ByteArray} {p : ByteArray} (h : (unqR p.data.toList).2 = true) (h1 : (unqR p.data.toList).1 = [46, 46]) (ho : out ≠ []) : stepP out p = some out.dropLast := by unfold stepP; rw [if_neg (by simp [h, h1]), if_neg (by simp [h1]), if_pos h1, if_neg ho]
theorem stepP_push {out : List ByteArray} {p : ByteArray} (h : (unqR p.data.toList).2 = true) (h0 : ¬ (unqR p.data.toList).1 = []) (h1 : ¬ (unqR p.data.toList).1 = [46]) (h2 : ¬ (unqR p.data.toList).1 = [46, 46]) : stepP out p = some (out ++ [bytesOf (unqR p.data.toList).1]) := by unfold stepP; rw [if_neg (by simp [h, h0]), if_neg h1, if_neg h2]
end Go.Proofs.YtifnolomekhmfaaGreat.M
