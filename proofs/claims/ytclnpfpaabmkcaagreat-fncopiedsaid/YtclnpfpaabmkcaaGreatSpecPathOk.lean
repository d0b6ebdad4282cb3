/-
  Plain facts on the text of a path: no program in sight.
  Plain facts on texts that are cut at slashes, and on what is walked of the pieces: no program in sight.
  A path comes back of its text; what is read is a path: no program in sight.
  Which lists of things are right: no program in sight.
  Of one thing other things are known: what is right stays so.
  A thing put in order among others: no program in sight.
  What is put, and made, among right things: no program in sight.
  Right things are small: no program in sight.
  Things in memory that the draws made: all of it lies behind the cursor, each list in a block of its own.
  A path that is drawn of things: few short texts, in memory of its own.
  What the specification's and the program's NameOk do.
  What the specification's and the program's PathOk do.
-/
import Derived.Test.YtclnpfpaabmkcaaGreatMathPath
import Derived.Lib.Join
import Derived.Lib.Split
import Derived.Lib.SplitLaws
import Derived.Lib.IndexBytes
import Derived.Test.YtclnpfpaabmkcaaGreatEqBs
import Derived.Test.YtclnpfpaabmkcaaGreatMathOrder
import Derived.Test.YtclnpfpaabmkcaaGreatHide
import Derived.Lib.OthersKept
import Derived.Laws.RangeAny
namespace Go.Proofs.YtclnpfpaabmkcaaGreat.M

/-- Whether these are the names of a path, as the document has it. -/
def pathB (ss : List ByteArray) : Bool := ss.all nameB && decide (ss.length ≤ 4)
def qB (s : ByteArray) : ByteArray := bytesOf (quoteL s.data.toList)
def tellL (ss : List ByteArray) : List UInt8 := ss.flatMap fun s => 47 :: quoteL s.data.toList
/-- The text of a path. -/
def ptextL (ss : List ByteArray) : List UInt8 := if pathB ss then (if ss = [] then [47] else tellL ss) else []

theorem ptextL_not {ss : List ByteArray} (h : pathB ss = false) : ptextL ss = [] := by simp [ptextL, h]
theorem ptextL_nil : ptextL [] = [47] := by simp [ptextL, pathB]
theorem ptextL_some {ss : List ByteArray} (h : pathB ss = true) (h0 : ss ≠ []) : ptextL ss = tellL ss := by simp [ptextL, h, h0]

theorem tellL_snoc (ss : List ByteArray) (k : Nat) (h : k < ss.length) : tellL (ss.take (k + 1)) = tellL (ss.take k) ++ [47] ++ quoteL (ss[k]).data.toList := by
  unfold tellL
  rw [List.take_succ_eq_append_getElem h, List.flatMap_append]
  simp only [List.flatMap_cons, List.flatMap_nil, List.append_nil, List.append_assoc, List.singleton_append]

theorem nameB_size {s : ByteArray} (h : nameB s = true) : s.size ≤ 8 := by
  unfold nameB at h
  simp only [Bool.and_eq_true, inB, decide_eq_true_eq] at h
  omega

theorem pathB_name {ss : List ByteArray} (h : pathB ss = true) (k : Nat) (hk : k < ss.length) : nameB ss[k] = true := by
  unfold pathB at h
  simp only [Bool.and_eq_true, List.all_eq_true] at h
  exact h.1 _ (List.getElem_mem hk)
theorem pathB_len {ss : List ByteArray} (h : pathB ss = true) : ss.length ≤ 4 := by
  unfold pathB at h
  simp only [Bool.and_eq_true, decide_eq_true_eq] at h
  exact h.2

theorem quote_short {s : ByteArray} (h : s.size ≤ 8) : (quoteL s.data.toList).length ≤ 24 := by
  have := quoteL_le s.data.toList
  have e : s.data.toList.length = s.size := Array.length_toList
  omega

theorem tellL_le {ss : List ByteArray} (h : pathB ss = true) (k : Nat) (hk : k ≤ ss.length) : (tellL (ss.take k)).length ≤ 25 * k := by
  induction k with
  | zero => simp [tellL]
  | succ k ih =>
    rw [tellL_snoc ss k hk]
    have h1 := ih (by omega)
    have h2 := quote_short (nameB_size (pathB_name h k hk))
    simp only [List.length_append, List.length_cons, List.length_nil]
    omega

theorem tellL_join (ss : List ByteArray) (h : ss ≠ []) : [47] ++ Lib.join ((ss.map qB).map (·.data.toList)) [47] = tellL ss := by
  cases ss with
  | nil => exact absurd rfl h
  | cons s r =>
    rw [List.map_cons, List.map_cons, Lib.join_cons]
    simp only [tellL, Lib.joinTail, List.map_map, List.flatMap]
    simp only [Function.comp_def, qB, bytesOf, List.cons_append, List.nil_append, List.map_cons, List.flatten_cons]

theorem join_le {ss : List ByteArray} (h : pathB ss = true) : (Lib.join ((ss.map qB).map (·.data.toList)) [47]).length ≤ 100 := by
  by_cases h0 : ss = []
  · subst h0; simp [Lib.join]
  · have e := congrArg List.length (tellL_join ss h0)
    have h1 := tellL_le h ss.length (Nat.le_refl _)
    rw [List.take_length] at h1
    have := pathB_len h
    simp only [List.length_append, List.length_cons, List.length_nil] at e
    omega
end Go.Proofs.YtclnpfpaabmkcaaGreat.M
namespace Go.Proofs.YtclnpfpaabmkcaaGreat.M

/-- A text, cut at every slash. -/
def cuts : List UInt8 → List (List UInt8)
  | [] => [[]]
  | c :: r => if c = 47 then [] :: cuts r else (match cuts r with | [] => [[c]] | x :: q => (c :: x) :: q)

theorem cuts_ne (l : List UInt8) : cuts l ≠ [] := by
  cases l with
  | nil => simp [cuts]
  | cons c r =>
    unfold cuts
    split
    · simp
    · split <;> simp

theorem cuts_none (a : List UInt8) (h : 47 ∉ a) : cuts a = [a] := by
  induction a with
  | nil => rfl
  | cons c r ih =>
    have h1 : ¬ c = 47 := fun e => h (by simp [e])
    have h2 : 47 ∉ r := fun e => h (List.mem_cons_of_mem _ e)
    unfold cuts
    rw [if_neg h1, ih h2]

theorem cuts_app (a r : List UInt8) (h : 47 ∉ a) : cuts (a ++ 47 :: r) = a :: cuts r := by
  induction a with
  | nil => simp [cuts]
  | cons c q ih =>
    have h1 : ¬ c = 47 := fun e => h (by simp [e])
    have h2 : 47 ∉ q := fun e => h (List.mem_cons_of_mem _ e)
    rw [List.cons_append, cuts, if_neg h1, ih h2]

theorem indexByte_cases (l : List UInt8) (c : UInt8) : (Lib.indexByte l c = -1 ∧ c ∉ l) ∨ ∃ a r, l = a ++ c :: r ∧ c ∉ a ∧ Lib.indexByte l c = a.length := by
  induction l with
  | nil => left; exact ⟨rfl, by simp⟩
  | cons b l ih =>
    by_cases hb : b = c
    · right
      refine ⟨[], l, by simp [hb], by simp, ?_⟩
      unfold Lib.indexByte; simp [hb]
    · rcases ih with ⟨h1, h2⟩ | ⟨a, r, rfl, h2, h3⟩
      · left
        refine ⟨?_, by simp [h2, Ne.symm hb]⟩
        unfold Lib.indexByte; simp [hb, h1]
      · right
        refine ⟨b :: a, r, rfl, by simp [h2, Ne.symm hb], ?_⟩
        unfold Lib.indexByte
        rw [h3]
        have : ¬ ((a.length : Int) = -1) := by omega
        simp [hb, this]

theorem splitK_cuts : ∀ (n : Nat) (l : List UInt8), l.length ≤ n → Lib.splitK [47] 0 (l.count 47) l = cuts l := by
  intro n
  induction n with
  | zero =>
    intro l hl
    have : l = [] := List.length_eq_zero_iff.1 (by omega)
    subst this; rfl
  | succ n ih =>
    intro l hl
    rcases indexByte_cases l 47 with ⟨_, h2⟩ | ⟨a, r, rfl, h2, h3⟩
    · rw [List.count_eq_zero.2 h2, cuts_none l h2]; rfl
    · have hc : (a ++ 47 :: r).count 47 = r.count 47 + 1 := by
        rw [List.count_append, List.count_eq_zero.2 h2, List.count_cons]; simp
      have hi : Lib.index (a ++ 47 :: r) [47] = (a.length : Int) := by rw [Lib.index_one, h3]
      have hne : ¬ ((a.length : Int) == -1) = true := fun e => by have := beq_iff_eq.1 e; omega
      rw [hc, cuts_app a r h2, Lib.splitK, hi, if_neg hne]
      have e1 : (a ++ 47 :: r).take ((a.length : Int).toNat + 0) = a := by simp
      have e2 : (a ++ 47 :: r).drop ((a.length : Int).toNat + [(47 : UInt8)].length) = r := by
        have : ((a.length : Int).toNat + [(47 : UInt8)].length) = a.length + 1 := by simp
        rw [this, ← List.drop_drop, List.drop_left]; rfl
      rw [e1, e2, ih r (by simp at hl; omega)]

/-- The pieces of a text, as texts. -/
def piecesL (l : List UInt8) : List ByteArray := (cuts l).map bytesOf

theorem split_pieces (s : ByteArray) : Lib.splitB ⟨#[47]⟩ 0 (s.data.toList.count 47) s = piecesL s.data.toList := by
  have h := Lib.splitB_data ⟨#[47]⟩ 0 (s.data.toList.count 47) s
  have h' : (Lib.splitB ⟨#[47]⟩ 0 (s.data.toList.count 47) s).map (·.data.toList) = cuts s.data.toList := h.trans (splitK_cuts _ _ (Nat.le_refl _))
  unfold piecesL
  rw [← h', List.map_map]
  have e : (bytesOf ∘ fun x : ByteArray => x.data.toList) = id := by funext x; simp [bytesOf]
  rw [e, List.map_id]

theorem cuts_length (l : List UInt8) : (cuts l).length = l.count 47 + 1 := by
  induction l with
  | nil => rfl
  | cons c r ih =>
    unfold cuts
    by_cases h : c = 47
    · simp [h, ih]
    · rw [if_neg h]
      have h1 : (c :: r).count 47 = r.count 47 := by rw [List.count_cons]; simp [h]
      rw [h1, ← ih]
      have := cuts_ne r
      cases hc : cuts r with
      | nil => exact absurd hc this
      | cons x q => rfl

theorem cuts_le (l : List UInt8) : ∀ x ∈ cuts l, x.length ≤ l.length := by
  induction l with
  | nil => intro x hx; simp [cuts] at hx; simp [hx]
  | cons c r ih =>
    intro x hx
    unfold cuts at hx
    by_cases h : c = 47
    · rw [if_pos h] at hx
      rcases List.mem_cons.1 hx with rfl | hx
      · simp
      · have := ih x hx; simp; omega
    · rw [if_neg h] at hx
      cases hc : cuts r with
      | nil => exact absurd hc (cuts_ne r)
      | cons y q =>
        rw [hc] at hx
        rcases List.mem_cons.1 hx with rfl | hx
        · have := ih y (by rw [hc]; simp); simp; omega
        · have := ih x (by rw [hc]; exact List.mem_cons_of_mem _ hx); simp; omega

theorem piecesL_short (l : List UInt8) (s : ByteArray) (h : s ∈ piecesL l) : s.size ≤ l.length := by
  unfold piecesL at h
  obtain ⟨x, hx, rfl⟩ := List.mem_map.1 h
  rw [bytesOf_size]; exact cuts_le l x hx
theorem piecesL_length (l : List UInt8) : (piecesL l).length = l.count 47 + 1 := by
  unfold piecesL; rw [List.length_map, cuts_length]

/-! What is walked of the pieces. -/

theorem unq_le : ∀ (n : Nat) (l x : List UInt8), l.length ≤ n → unq l = some x → x.length ≤ l.length := by
  intro n
  induction n with
  | zero =>
    intro l x hl h
    have : l = [] := List.length_eq_zero_iff.1 (by omega)
    subst this
    simp [unq] at h; simp [h]
  | succ n ih =>
    intro l x hl h
    cases l with
    | nil => simp [unq] at h; simp [h]
    | cons c r =>
      by_cases hc : c = 37
      · match r, hl, h with
        | [], _, h => rw [unq_short _ hc (by simp)] at h; cases h
        | [_], _, h => rw [unq_short _ hc (by simp)] at h; cases h
        | a :: b :: q, hl, h =>
          cases hh : (isHex a && isHex b)
          · rw [unq_bad _ hc hh] at h; cases h
          · rw [Bool.and_eq_true] at hh
            rw [unq_hex _ hc hh.1 hh.2] at h
            obtain ⟨y, hy, rfl⟩ := Option.map_eq_some_iff.1 h
            have := ih q y (by simp at hl; omega) hy
            simp; omega
      · rw [unq_plain _ hc] at h
        obtain ⟨y, hy, rfl⟩ := Option.map_eq_some_iff.1 h
        have := ih r y (by simp at hl; omega) hy
        simp; omega

theorem unqR_le (l : List UInt8) : (unqR l).1.length ≤ l.length := by
  unfold unqR
  cases h : unq l with
  | none => simp
  | some x => exact unq_le _ l x (Nat.le_refl _) h

theorem unqR_nil : unqR [] = ([], true) := rfl

theorem unqR_empty {l : List UInt8} (h : (unqR l).2 = true) (h1 : (unqR l).1 = []) : l = [] := by
  cases l with
  | nil => rfl
  | cons c r =>
    exfalso
    unfold unqR at h h1
    by_cases hc : c = 37
    · match r, h, h1 with
      | [], h, _ => rw [unq_short _ hc (by simp)] at h; cases h
      | [_], h, _ => rw [unq_short _ hc (by simp)] at h; cases h
      | a :: b :: q, h, h1 =>
        cases hh : (isHex a && isHex b)
        · rw [unq_bad _ hc hh] at h; cases h
        · rw [Bool.and_eq_true] at hh
          rw [unq_hex _ hc hh.1 hh.2] at h h1
          cases hq : unq q with
          | none => rw [hq] at h; cases h
          | some y => rw [hq] at h1; simp at h1
    · rw [unq_plain _ hc] at h h1
      cases hq : unq r with
      | none => rw [hq] at h; cases h
      | some y => rw [hq] at h1; simp at h1

/-- One piece more: taken up, passed by, or one taken away; none where it cannot be. -/
def stepP (out : List ByteArray) (p : ByteArray) : Option (List ByteArray) :=
  if (unqR p.data.toList).2 = false ∨ (unqR p.data.toList).1 = [] then none
  else if (unqR p.data.toList).1 = [46] then some out
  else if (unqR p.data.toList).1 = [46, 46] then (if out = [] then none else some out.dropLast)
  else some (out ++ [bytesOf (unqR p.data.toList).1])
def foldP : List ByteArray → List ByteArray → Option (List ByteArray)
  | out, [] => some out
  | out, p :: r => (stepP out p).bind fun o => foldP o r

theorem foldP_at {ps : List ByteArray} (k : Nat) (h : k < ps.length) (out : List ByteArray) : foldP out (ps.drop k) = (stepP out ps[k]).bind fun o => foldP o (ps.drop (k + 1)) := by
  rw [List.drop_eq_getElem_cons h]; rfl

/-- The last piece goes where it is empty. -/
def strip (ps : List ByteArray) : List ByteArray := if ps.getLast? = some (bytesOf []) then ps.dropLast else ps

/-- What ParsePath tells, as the document has it. -/
def parseP (l : List UInt8) : List ByteArray × Bool :=
  if l.head? = some 47 then
    (match foldP [] (strip (piecesL (l.drop 1))) with
     | some ns => if pathB ns then (ns, true) else ([], false)
     | none => ([], false))
  else ([], false)

theorem parseP_head {l : List UInt8} (h : ¬ l.head? = some 47) : parseP l = ([], false) := by unfold parseP; rw [if_neg h]
theorem parseP_none {l : List UInt8} (h : l.head? = some 47) (hf : foldP [] (strip (piecesL (l.drop 1))) = none) : parseP l = ([], false) := by unfold parseP; rw [if_pos h, hf]
theorem parseP_not {l : List UInt8} {ns : List ByteArray} (h : l.head? = some 47) (hf : foldP [] (strip (piecesL (l.drop 1))) = some ns) (hp : pathB ns = false) : parseP l = ([], false) := by unfold parseP; rw [if_pos h, hf]; simp [hp]
theorem parseP_yes {l : List UInt8} {ns : List ByteArray} (h : l.head? = some 47) (hf : foldP [] (strip (piecesL (l.drop 1))) = some ns) (hp : pathB ns = true) : parseP l = (ns, true) := by unfold parseP; rw [if_pos h, hf]; simp [hp]

theorem stepP_none {out : List ByteArray} {p : ByteArray} (h : (unqR p.data.toList).2 = false ∨ (unqR p.data.toList).1 = []) : stepP out p = none := by unfold stepP; rw [if_pos h]
theorem stepP_dot {out : List ByteArray} {p : ByteArray} (h : (unqR p.data.toList).2 = true) (h1 : (unqR p.data.toList).1 = [46]) : stepP out p = some out := by unfold stepP; rw [if_neg (by simp [h, h1]), if_pos h1]
theorem stepP_up0 {p : ByteArray} (h : (unqR p.data.toList).2 = true) (h1 : (unqR p.data.toList).1 = [46, 46]) : stepP [] p = none := by unfold stepP; rw [if_neg (by simp [h, h1]), if_neg (by simp [h1]), if_pos h1, if_pos rfl]
theorem stepP_up {out : List ByteArray} {p : ByteArray} (h : (unqR p.data.toList).2 = true) (h1 : (unqR p.data.toList).1 = [46, 46]) (ho : out ≠ []) : stepP out p = some out.dropLast := by unfold stepP; rw [if_neg (by simp [h, h1]), if_neg (by simp [h1]), if_pos h1, if_neg ho]
theorem stepP_push {out : List ByteArray} {p : ByteArray} (h : (unqR p.data.toList).2 = true) (h0 : ¬ (unqR p.data.toList).1 = []) (h1 : ¬ (unqR p.data.toList).1 = [46]) (h2 : ¬ (unqR p.data.toList).1 = [46, 46]) : stepP out p = some (out ++ [bytesOf (unqR p.data.toList).1]) := by unfold stepP; rw [if_neg (by simp [h, h0]), if_neg h1, if_neg h2]
end Go.Proofs.YtclnpfpaabmkcaaGreat.M
namespace Go.Proofs.YtclnpfpaabmkcaaGreat.M

theorem digL_not47 : ∀ n : Fin 16, ¬ digL n.val = 47 := by decide

theorem quote_no47 (l : List UInt8) : 47 ∉ quoteL l := by
  induction l with
  | nil => simp [quoteL]
  | cons c r ih =>
    have e : quoteL (c :: r) = quoteB c ++ quoteL r := by simp [quoteL]
    rw [e, List.mem_append]
    rintro (h | h)
    · cases hf : freeB (c.toNat : Int)
      · rw [quoteB_no hf] at h
        have hc := c.toNat_lt
        have h1 := digL_not47 ⟨c.toNat / 16, by omega⟩
        have h2 := digL_not47 ⟨c.toNat % 16, by omega⟩
        simp only at h1 h2
        simp only [List.mem_cons, List.not_mem_nil, or_false] at h
        rcases h with h | h | h
        · exact absurd h (by decide)
        · exact h1 h.symm
        · exact h2 h.symm
      · rw [quoteB_yes hf] at h
        simp only [List.mem_cons, List.not_mem_nil, or_false] at h
        rw [← h] at hf
        exact absurd hf (by decide)
    · exact ih h

theorem tellL_cons (s : ByteArray) (r : List ByteArray) : tellL (s :: r) = 47 :: (quoteL s.data.toList ++ tellL r) := by
  simp [tellL]

theorem cuts_tell (r : List ByteArray) : ∀ s : ByteArray, cuts (quoteL s.data.toList ++ tellL r) = quoteL s.data.toList :: r.map fun t => quoteL t.data.toList := by
  induction r with
  | nil => intro s; simp only [tellL, List.flatMap_nil, List.append_nil, List.map_nil]; exact cuts_none _ (quote_no47 _)
  | cons t r ih =>
    intro s
    rw [tellL_cons, cuts_app _ _ (quote_no47 _), ih t, List.map_cons]

theorem pieces_tell (s : ByteArray) (r : List ByteArray) : piecesL (quoteL s.data.toList ++ tellL r) = (s :: r).map qB := by
  unfold piecesL
  rw [cuts_tell, List.map_cons, List.map_map]
  rfl

theorem quote_ne {l : List UInt8} (h : l ≠ []) : quoteL l ≠ [] := by
  intro e
  have := unq_quote l
  rw [e] at this
  simp [unq] at this
  exact h this

theorem nameB_ne {s : ByteArray} (h : nameB s = true) : s.data.toList ≠ [] ∧ ¬ s.data.toList = [46] ∧ ¬ s.data.toList = [46, 46] := by
  unfold nameB at h
  simp only [Bool.and_eq_true, inB, decide_eq_true_eq, Bool.not_eq_true', beq_eq_false_iff_ne, ByteArray.toList_eq] at h
  obtain ⟨_, ⟨h1, _⟩, _, h2, h3⟩ := h
  refine ⟨fun e => ?_, h2, h3⟩
  have e2 : s.data.toList.length = s.size := Array.length_toList
  rw [e] at e2
  simp at e2
  omega

theorem bytesOf_back (s : ByteArray) : bytesOf s.data.toList = s := by
  apply ByteArray.ext
  simp [bytesOf]

theorem step_q {s : ByteArray} (h : nameB s = true) (out : List ByteArray) : stepP out (qB s) = some (out ++ [s]) := by
  have e : unqR (qB s).data.toList = (s.data.toList, true) := unqR_quote _
  obtain ⟨h0, h1, h2⟩ := nameB_ne h
  rw [stepP_push (by rw [e]) (by rw [e]; exact h0) (by rw [e]; exact h1) (by rw [e]; exact h2), e, bytesOf_back]

theorem fold_q (ss : List ByteArray) : ∀ out : List ByteArray, (∀ s ∈ ss, nameB s = true) → foldP out (ss.map qB) = some (out ++ ss) := by
  induction ss with
  | nil => intro out _; simp [foldP]
  | cons s r ih =>
    intro out h
    rw [List.map_cons, foldP, step_q (h s (by simp)), Option.bind_some, ih _ (fun t ht => h t (List.mem_cons_of_mem _ ht)), List.append_assoc]
    rfl

theorem strip_q {ss : List ByteArray} (h : ∀ s ∈ ss, nameB s = true) : strip (ss.map qB) = ss.map qB := by
  unfold strip
  rw [if_neg]
  intro e
  have hm : bytesOf [] ∈ ss.map qB := List.mem_of_getLast? e
  obtain ⟨s, hs, he⟩ := List.mem_map.1 hm
  have h1 := congrArg (fun x : ByteArray => x.data.toList) he
  exact quote_ne (nameB_ne (h s hs)).1 h1

theorem pathB_all {ss : List ByteArray} (h : pathB ss = true) : ∀ s ∈ ss, nameB s = true := by
  unfold pathB at h
  simp only [Bool.and_eq_true, List.all_eq_true] at h
  exact h.1

/-- A path comes back of its text. -/
theorem parseP_text {ss : List ByteArray} (h : pathB ss = true) : parseP (ptextL ss) = (ss, true) := by
  cases ss with
  | nil => rw [ptextL_nil]; decide
  | cons s r =>
    rw [ptextL_some h (by simp), tellL_cons]
    have ha := pathB_all h
    refine parseP_yes rfl ?_ h
    show foldP [] (strip (piecesL (quoteL s.data.toList ++ tellL r))) = some (s :: r)
    rw [pieces_tell, strip_q ha, fold_q _ _ ha]
    rfl

/-- What is read is a path. -/
theorem parseP_path {l : List UInt8} (h : (parseP l).2 = true) : pathB (parseP l).1 = true := by
  unfold parseP at h ⊢
  split
  · rename_i hh
    rw [if_pos hh] at h
    split
    · rename_i ns hns
      rw [hns] at h
      by_cases hp : pathB ns = true
      · simp [hp]
      · simp [hp] at h
    · rename_i hns
      rw [hns] at h
      exact absurd h (by decide)
  · rename_i hh
    rw [if_neg hh] at h
    exact absurd h (by decide)

theorem ptextL_len {ss : List ByteArray} : (ptextL ss).length ≤ 100 := by
  cases hp : pathB ss
  · rw [ptextL_not hp]; simp
  · by_cases h0 : ss = []
    · subst h0; rw [ptextL_nil]; simp
    · rw [ptextL_some hp h0]
      have h1 := tellL_le hp ss.length (Nat.le_refl _)
      rw [List.take_length] at h1
      have := pathB_len hp
      omega
end Go.Proofs.YtclnpfpaabmkcaaGreat.M
namespace Go.Proofs.YtclnpfpaabmkcaaGreat
open M

def resB (r : Rs) : Bool := decide (0 < r.pa.length) && (pathB r.pa && (decide (r.bo.size ≤ 200) && ((!r.co || decide (r.bo.size = 0)) && (inB r.ve 0 99999 && propsB r.ps))))
def lessR (a b : Rs) : Bool := lessL a.pa b.pa
def onB (rs : List Rs) (r : Rs) : Bool := collB rs (aboveL r.pa)
def treeB (rs : List Rs) : Bool := decide (rs.length ≤ 12) && (rs.all resB && (ascB lessR rs && rs.all (onB rs)))

theorem treeB_long {rs : List Rs} (h : ¬ rs.length ≤ 12) : treeB rs = false := by unfold treeB; rw [decide_eq_false h]; rfl
theorem treeB_bad {rs : List Rs} (k : Nat) (h : k < rs.length) (e : resB rs[k] = false) : treeB rs = false := by
  unfold treeB
  have : rs.all resB = false := by
    rw [List.all_eq_false]
    exact ⟨_, List.getElem_mem h, by simp [e]⟩
  rw [this]; simp
theorem treeB_desc {rs : List Rs} (k : Nat) (h : k + 1 < rs.length) (e : lessR rs[k] rs[k + 1] = false) : treeB rs = false := by
  unfold treeB
  rw [ascB_not lessR rs k h e]; simp
theorem treeB_off {rs : List Rs} (k : Nat) (h : k < rs.length) (e : onB rs rs[k] = false) : treeB rs = false := by
  unfold treeB
  have : rs.all (onB rs) = false := by
    rw [List.all_eq_false]
    exact ⟨_, List.getElem_mem h, by simp [e]⟩
  rw [this]; simp
theorem all_of {rs : List Rs} {q : Rs → Bool} (h : ∀ j (hj : j < rs.length), q rs[j] = true) : rs.all q = true := by
  rw [List.all_eq_true]
  intro p hp
  obtain ⟨j, hj, rfl⟩ := List.mem_iff_getElem.1 hp
  exact h j hj
theorem treeB_of {rs : List Rs} (h : ∀ j (hj : j < rs.length), resB rs[j] = true) : treeB rs = (decide (rs.length ≤ 12) && (ascB lessR rs && rs.all (onB rs))) := by
  unfold treeB
  rw [all_of h]; simp

/-! ### The order is a whole one -/
theorem bytesLess_trans : ∀ a b c : List UInt8, Op.bytesLess a b = true → Op.bytesLess b c = true → Op.bytesLess a c = true
  | [], [], _, h, _ => by simp [Op.bytesLess] at h
  | [], _ :: _, [], _, h => by simp [Op.bytesLess] at h
  | [], _ :: _, _ :: _, _, _ => by simp [Op.bytesLess]
  | _ :: _, [], _, h, _ => by simp [Op.bytesLess] at h
  | _ :: _, _ :: _, [], _, h => by simp [Op.bytesLess] at h
  | x :: a, y :: b, z :: c, h, h' => by
    have ih := bytesLess_trans a b c
    simp only [Op.bytesLess, Bool.or_eq_true, Bool.and_eq_true, decide_eq_true_eq, beq_iff_eq] at *
    rcases h with h | ⟨rfl, h⟩
    · rcases h' with h' | ⟨rfl, h'⟩
      · left
        have h1 : x.toNat < y.toNat := h
        have h2 : y.toNat < z.toNat := h'
        exact (show x.toNat < z.toNat by omega)
      · exact .inl h
    · rcases h' with h' | ⟨rfl, h'⟩
      · exact .inl h'
      · exact .inr ⟨rfl, ih h h'⟩
theorem lessL_trans : ∀ a b c : List ByteArray, lessL a b = true → lessL b c = true → lessL a c = true
  | [], [], _, h, _ => by simp [lessL] at h
  | [], _ :: _, [], _, h => by simp [lessL] at h
  | [], _ :: _, _ :: _, _, _ => by simp [lessL]
  | _ :: _, [], _, h, _ => by simp [lessL] at h
  | _ :: _, _ :: _, [], _, h => by simp [lessL] at h
  | x :: a, y :: b, z :: c, h, h' => by
    have ih := lessL_trans a b c
    rw [lessL] at *
    by_cases e1 : x = y
    · subst e1
      rw [if_pos rfl] at h
      by_cases e2 : x = z
      · subst e2
        rw [if_pos rfl] at *
        exact ih h h'
      · rw [if_neg e2] at *
        exact h'
    · rw [if_neg e1] at h
      by_cases e2 : y = z
      · subst e2
        rw [if_neg e1]
        exact h
      · rw [if_neg e2] at h'
        have ht := bytesLess_trans _ _ _ h h'
        have hne : ¬ x = z := fun e => by
          subst e
          have := bytesLess_asym _ _ h
          have h2 : Op.bytesLess y.toList x.toList = true := h'
          rw [this] at h2
          cases h2
        rw [if_neg hne]
        exact ht
theorem asc_pair {rs : List Rs} (h : ascB lessR rs = true) : ∀ (d i : Nat) (hj : i + d + 1 < rs.length), lessL (rs[i]'(by omega)).pa (rs[i + d + 1]).pa = true := by
  have step : ∀ (i : Nat) (hi : i + 1 < rs.length), lessL (rs[i]'(by omega)).pa (rs[i + 1]).pa = true := fun i hi => by
    cases e : lessR rs[i] rs[i + 1]
    · rw [ascB_not lessR rs i hi e] at h; cases h
    · exact e
  intro d
  induction d with
  | zero => intro i hj; exact step i hj
  | succ d ih =>
    intro i hj
    exact lessL_trans _ _ _ (ih i (by omega)) (step (i + d + 1) (by omega))
theorem asc_apart {rs : List Rs} (h : ascB lessR rs = true) (i j : Nat) (hi : i < rs.length) (hj : j < rs.length) (e : rs[i].pa = rs[j].pa) : i = j := by
  have key : ∀ i j (hij : i < j) (hj : j < rs.length), (rs[i]'(by omega)).pa ≠ rs[j].pa := fun i j hij hj e => by
    obtain ⟨d, rfl⟩ : ∃ d, j = i + d + 1 := ⟨j - i - 1, by omega⟩
    have h1 := asc_pair h d i hj
    rw [← e, lessL_irr] at h1
    cases h1
  rcases Nat.lt_trichotomy i j with h1 | h1 | h1
  · exact absurd e (key i j h1 hj)
  · exact h1
  · exact absurd e.symm (key j i h1 hi)

/-! ### Texts of paths -/
def pt (p : List ByteArray) : ByteArray := bytesOf (ptextL p)
theorem pt_inj {p q : List ByteArray} (hp : pathB p = true) (hq : pathB q = true) (h : pt p = pt q) : p = q := by
  have e : ptextL p = ptextL q := by
    have := congrArg (fun x : ByteArray => x.data.toList) h
    simpa [pt, bytesOf] using this
  have h1 := parseP_text hp
  have h2 := parseP_text hq
  rw [e, h2] at h1
  exact (Prod.mk.inj h1).1.symm
theorem pathB_above {p : List ByteArray} (h : pathB p = true) : pathB (aboveL p) = true := by
  unfold pathB at *
  rw [Bool.and_eq_true, decide_eq_true_eq, List.all_eq_true] at *
  exact ⟨fun s hs => h.1 s (List.mem_of_mem_take hs), by rw [aboveL_len]; omega⟩
theorem pathB_nil : pathB [] = true := by decide
theorem resB_path {r : Rs} (h : resB r = true) : pathB r.pa = true := by
  unfold resB at h
  simp only [Bool.and_eq_true] at h
  exact h.2.1

/-- What is left of the paths that something is on. -/
def LeftP (rs : List Rs) (s : ByteArray) : Prop := ((∃ r ∈ rs, s = pt (aboveL r.pa)) ∧ s ≠ pt []) ∧ ∀ r ∈ rs, r.co = true → s ≠ pt r.pa
theorem left_none {rs : List Rs} (hr : ∀ r ∈ rs, resB r = true) (ha : ascB lessR rs = true) : (∀ s, ¬ LeftP rs s) ↔ rs.all (onB rs) = true := by
  rw [List.all_eq_true]
  constructor
  · intro h r hm
    have hn := h (pt (aboveL r.pa))
    unfold onB
    by_cases e0 : (aboveL r.pa).length = 0
    · exact collB_root e0
    · have hp := pathB_above (resB_path (hr r hm))
      have hex : ∃ r' ∈ rs, r'.co = true ∧ r'.pa = aboveL r.pa := by
        by_cases hh : ∃ r' ∈ rs, r'.co = true ∧ pt (aboveL r.pa) = pt r'.pa
        · obtain ⟨r', hm', hc, he⟩ := hh
          exact ⟨r', hm', hc, (pt_inj hp (resB_path (hr r' hm')) he).symm⟩
        · exfalso
          refine hn ⟨⟨⟨r, hm, rfl⟩, fun e => e0 ?_⟩, fun r' hm' hc he => hh ⟨r', hm', hc, he⟩⟩
          rw [pt_inj hp pathB_nil e]; rfl
      obtain ⟨r', hm', hc, he⟩ := hex
      obtain ⟨j, hj, rfl⟩ := List.mem_iff_getElem.1 hm'
      rcases findI_cases rs (aboveL r.pa) with e | ⟨k, hk, e, hs⟩
      · exfalso
        have := collB_none e e0
        unfold findI at e
        by_cases hlt : rs.findIdx (isAt (aboveL r.pa)) < rs.length
        · rw [if_pos hlt] at e; omega
        · exact hlt (List.findIdx_lt_length_of_exists ⟨_, hm', by unfold isAt; rw [he]; exact sameL_refl _⟩)
      · rw [collB_at k hk e e0]
        have hk' : rs[k].pa = aboveL r.pa := by unfold sameL at hs; exact of_decide_eq_true hs
        have := asc_apart ha k j hk hj (hk'.trans he.symm)
        subst this
        exact hc
  · rintro h s ⟨⟨⟨r, hm, rfl⟩, h0⟩, h1⟩
    have hc := h r hm
    unfold onB at hc
    by_cases e0 : (aboveL r.pa).length = 0
    · rw [List.length_eq_zero_iff.1 e0] at h0; exact h0 rfl
    · rcases findI_cases rs (aboveL r.pa) with e | ⟨k, hk, e, hs⟩
      · rw [collB_none e e0] at hc; cases hc
      · rw [collB_at k hk e e0] at hc
        have hk' : rs[k].pa = aboveL r.pa := by unfold sameL at hs; exact of_decide_eq_true hs
        exact h1 _ (List.getElem_mem hk) hc (by rw [hk'])
end Go.Proofs.YtclnpfpaabmkcaaGreat
namespace Go.Proofs.YtclnpfpaabmkcaaGreat.M
/-- The same paths and kinds. -/
def skel (rs : List Rs) : List (List ByteArray × Bool) := rs.map fun r => (r.pa, r.co)
theorem asc_skel : ∀ (rs ts : List Rs), skel rs = skel ts → ascB lessR rs = ascB lessR ts
  | [], [], _ => rfl
  | [], _ :: _, h => by simp [skel] at h
  | _ :: _, [], h => by simp [skel] at h
  | [a], [b], _ => rfl
  | [a], b :: c :: r, h => by simp [skel] at h
  | a :: c :: r, [b], h => by simp [skel] at h
  | a :: b :: r, c :: d :: t, h => by
    have h0 := h
    simp only [skel, List.map_cons, List.cons.injEq, Prod.mk.injEq] at h
    obtain ⟨⟨h1, _⟩, ⟨h2, _⟩, _⟩ := h
    have ih := asc_skel (b :: r) (d :: t) (by simp only [skel, List.map_cons, List.cons.injEq] at h0 ⊢; exact h0.2)
    simp only [ascB, ih, lessR, h1, h2]
theorem find_skel : ∀ (rs ts : List Rs) (p : List ByteArray), skel rs = skel ts → rs.findIdx (isAt p) = ts.findIdx (isAt p)
  | [], [], _, _ => rfl
  | [], _ :: _, _, h => by simp [skel] at h
  | _ :: _, [], _, h => by simp [skel] at h
  | a :: r, b :: t, p, h => by
    simp only [skel, List.map_cons, List.cons.injEq, Prod.mk.injEq] at h
    obtain ⟨⟨h1, _⟩, h2⟩ := h
    have ih := find_skel r t p h2
    simp only [List.findIdx_cons, ih, isAt, h1]
theorem len_skel {rs ts : List Rs} (h : skel rs = skel ts) : rs.length = ts.length := by
  have := congrArg List.length h
  simpa [skel] using this
theorem findI_skel {rs ts : List Rs} (h : skel rs = skel ts) (p : List ByteArray) : findI rs p = findI ts p := by
  unfold findI
  rw [find_skel rs ts p h, len_skel h]
theorem skel_set (rs : List Rs) (k : Nat) (hk : k < rs.length) (r : Rs) (h1 : r.pa = rs[k].pa) (h2 : r.co = rs[k].co) : skel (rs.set k r) = skel rs := by
  unfold skel
  rw [List.map_set, h1, h2]
  apply List.ext_getElem
  · simp
  · intro i hi hi'
    rw [List.getElem_set]
    split
    · rename_i e; subst e; simp
    · rfl
theorem findR_skel : ∀ (rs ts : List Rs) (p : List ByteArray), skel rs = skel ts → (rs.find? (isAt p)).map (·.co) = (ts.find? (isAt p)).map (·.co)
  | [], [], _, _ => rfl
  | [], _ :: _, _, h => by simp [skel] at h
  | _ :: _, [], _, h => by simp [skel] at h
  | a :: r, b :: t, p, h => by
    simp only [skel, List.map_cons, List.cons.injEq, Prod.mk.injEq] at h
    obtain ⟨⟨h1, h3⟩, h2⟩ := h
    have ih := findR_skel r t p h2
    have e : isAt p a = isAt p b := by simp only [isAt, h1]
    rw [List.find?_cons, List.find?_cons, e]
    cases isAt p b
    · exact ih
    · simp [h3]
theorem coll_map (rs : List Rs) (p : List ByteArray) : collB rs p = (decide (p.length = 0) || ((rs.find? (isAt p)).map (·.co)).getD false) := by
  unfold collB
  cases rs.find? (isAt p) <;> rfl
theorem coll_skel {rs ts : List Rs} (h : skel rs = skel ts) (p : List ByteArray) : collB rs p = collB ts p := by
  rw [coll_map, coll_map, findR_skel rs ts p h]
/-- A thing of which other things are known. -/
def setP (r : Rs) (ps : List Pp) : Rs := { r with ps := ps }
theorem res_setP {r : Rs} {ps : List Pp} (h : resB r = true) (hp : propsB ps = true) : resB (setP r ps) = true := by
  unfold resB setP at *
  simp only [Bool.and_eq_true] at *
  exact ⟨h.1, h.2.1, h.2.2.1, h.2.2.2.1, h.2.2.2.2.1, hp⟩
theorem tree_setP {rs : List Rs} (h : treeB rs = true) (k : Nat) (hk : k < rs.length) (ps : List Pp) (hp : propsB ps = true) : treeB (rs.set k (setP rs[k] ps)) = true := by
  have hs := skel_set rs k hk (setP rs[k] ps) rfl rfl
  unfold treeB at *
  simp only [Bool.and_eq_true] at *
  obtain ⟨h1, h2, h3, h4⟩ := h
  refine ⟨by rw [List.length_set]; exact h1, ?_, by rw [asc_skel _ _ hs]; exact h3, ?_⟩
  · rw [List.all_eq_true] at *
    intro r hr
    rcases List.mem_or_eq_of_mem_set hr with hr | rfl
    · exact h2 r hr
    · exact res_setP (h2 _ (List.getElem_mem hk)) hp
  · rw [List.all_eq_true] at *
    intro r hr
    unfold onB
    rw [coll_skel hs]
    rcases List.mem_or_eq_of_mem_set hr with hr | rfl
    · exact h4 r hr
    · exact h4 rs[k] (List.getElem_mem hk)
end Go.Proofs.YtclnpfpaabmkcaaGreat.M
namespace Go.Proofs.YtclnpfpaabmkcaaGreat
open M

/-- Put in its place, in the place of one of its path; d: whether it is put already. -/
def putR (r : Rs) : Bool → List Rs → List Rs
  | true, [] => []
  | false, [] => [r]
  | d, x :: l => (if d || lessL x.pa r.pa then [] else [r]) ++ ((if sameL x.pa r.pa then [] else [x]) ++ putR r (d || !lessL x.pa r.pa) l)

theorem putR_nil (r : Rs) (d : Bool) : putR r d [] = if d then [] else [r] := by cases d <;> rfl
theorem putR_cons (r : Rs) (d : Bool) (x : Rs) (l : List Rs) : putR r d (x :: l) = (if d || lessL x.pa r.pa then [] else [r]) ++ ((if sameL x.pa r.pa then [] else [x]) ++ putR r (d || !lessL x.pa r.pa) l) := by
  cases d <;> rfl
/-- All but what has its path. -/
def notAt (r : Rs) (l : List Rs) : List Rs := l.filter fun x => !sameL x.pa r.pa
theorem notAt_mem {r : Rs} {l : List Rs} {y : Rs} : y ∈ notAt r l ↔ y ∈ l ∧ y.pa ≠ r.pa := by
  unfold notAt sameL
  rw [List.mem_filter]
  simp
theorem putR_true (r : Rs) : ∀ l : List Rs, putR r true l = notAt r l
  | [] => rfl
  | x :: l => by
    rw [putR_cons, Bool.true_or, Bool.true_or, putR_true r l]
    unfold notAt
    rw [List.filter_cons]
    cases sameL x.pa r.pa <;> simp
theorem putR_less {r x : Rs} {l : List Rs} (h : lessL x.pa r.pa = true) : putR r false (x :: l) = x :: putR r false l := by
  have hs : sameL x.pa r.pa = false := by
    unfold sameL
    rw [decide_eq_false_iff_not]
    intro e
    rw [e, lessL_irr] at h
    cases h
  rw [putR_cons, h, hs]
  simp
theorem putR_here {r x : Rs} {l : List Rs} (h : lessL x.pa r.pa = false) : putR r false (x :: l) = r :: notAt r (x :: l) := by
  rw [putR_cons, h]
  have e : (false || !false) = true := rfl
  rw [e, putR_true]
  unfold notAt
  rw [List.filter_cons]
  cases sameL x.pa r.pa <;> simp
theorem putR_mem {r : Rs} : ∀ {l : List Rs} {y : Rs}, y ∈ putR r false l ↔ y = r ∨ (y ∈ l ∧ y.pa ≠ r.pa)
  | [], y => by simp [putR]
  | x :: l, y => by
    cases h : lessL x.pa r.pa
    · rw [putR_here h, List.mem_cons, notAt_mem]
    · rw [putR_less h, List.mem_cons, putR_mem (l := l)]
      have hs : x.pa ≠ r.pa := fun e => by rw [e, lessL_irr] at h; cases h
      constructor
      · rintro (rfl | h1 | h1)
        · exact .inr ⟨List.mem_cons_self .., hs⟩
        · exact .inl h1
        · exact .inr ⟨List.mem_cons_of_mem _ h1.1, h1.2⟩
      · rintro (h1 | ⟨h1, h2⟩)
        · exact .inr (.inl h1)
        · rcases List.mem_cons.1 h1 with rfl | h1
          · exact .inl rfl
          · exact .inr (.inr ⟨h1, h2⟩)

theorem lessL_tri : ∀ a b : List ByteArray, lessL a b = false → lessL b a = false → a = b
  | [], [], _, _ => rfl
  | [], _ :: _, h, _ => by simp [lessL] at h
  | _ :: _, [], _, h => by simp [lessL] at h
  | x :: a, y :: b, h, h' => by
    rw [lessL] at h h'
    by_cases e : x = y
    · subst e
      rw [if_pos rfl] at h h'
      rw [lessL_tri a b h h']
    · rw [if_neg e] at h
      rw [if_neg (fun e' => e e'.symm)] at h'
      exact absurd (str_inj (bytesLess_tri _ _ h h')) e

/-- Ascending, one against all behind it. -/
def Asc (l : List Rs) : Prop := l.Pairwise fun a b => lessL a.pa b.pa = true
theorem asc_of {l : List Rs} (h : ascB lessR l = true) : Asc l := by
  unfold Asc
  rw [List.pairwise_iff_getElem]
  intro i j hi hj hij
  obtain ⟨d, rfl⟩ : ∃ d, j = i + d + 1 := ⟨j - i - 1, by omega⟩
  exact asc_pair h d i hj
theorem asc_to {l : List Rs} (h : Asc l) : ascB lessR l = true := by
  refine ascB_all lessR l fun i hi => ?_
  unfold Asc at h
  rw [List.pairwise_iff_getElem] at h
  exact h i (i + 1) (by omega) hi (Nat.lt_succ_self _)
theorem Asc.put {r : Rs} : ∀ {l : List Rs}, Asc l → Asc (putR r false l)
  | [], _ => by simp [putR, Asc]
  | x :: l, h => by
    have h1 : Asc l := (List.pairwise_cons.1 h).2
    have h2 := (List.pairwise_cons.1 h).1
    cases e : lessL x.pa r.pa
    · rw [putR_here e]
      refine List.pairwise_cons.2 ⟨fun y hy => ?_, List.Pairwise.filter _ h⟩
      obtain ⟨hm, hne⟩ := notAt_mem.1 hy
      have hx : x.pa = r.pa ∨ lessL r.pa x.pa = true := by
        cases e2 : lessL r.pa x.pa
        · exact .inl (lessL_tri _ _ e e2)
        · exact .inr rfl
      rcases List.mem_cons.1 hm with rfl | hm
      · rcases hx with hx | hx
        · exact absurd hx hne
        · exact hx
      · have := h2 y hm
        rcases hx with hx | hx
        · rw [← hx]; exact this
        · exact lessL_trans _ _ _ hx this
    · rw [putR_less e]
      refine List.pairwise_cons.2 ⟨fun y hy => ?_, Asc.put h1⟩
      rcases putR_mem.1 hy with rfl | ⟨hm, _⟩
      · exact e
      · exact h2 y hm
theorem Asc.find {l : List Rs} (h : Asc l) {r : Rs} (hm : r ∈ l) {p : List ByteArray} (hp : r.pa = p) : l.find? (isAt p) = some r := by
  induction l with
  | nil => cases hm
  | cons x l ih =>
    rcases List.mem_cons.1 hm with rfl | hm'
    · rw [List.find?_cons_of_pos (by unfold isAt; rw [hp]; exact sameL_refl _)]
    · have h2 := (List.pairwise_cons.1 h).1 r hm'
      have hne : isAt p x = false := by
        unfold isAt sameL
        rw [decide_eq_false_iff_not]
        intro e
        rw [e, hp, lessL_irr] at h2
        cases h2
      rw [List.find?_cons_of_neg (by simp [hne])]
      exact ih (List.pairwise_cons.1 h).2 hm'
/-- Of a list that ascends: a shelf that is there, or the root. -/
theorem coll_iff {l : List Rs} (h : Asc l) (p : List ByteArray) : collB l p = true ↔ p.length = 0 ∨ ∃ r ∈ l, r.pa = p ∧ r.co = true := by
  unfold collB
  rw [Bool.or_eq_true, decide_eq_true_eq]
  constructor
  · rintro (h1 | h1)
    · exact .inl h1
    · cases e : l.find? (isAt p) with
      | none => rw [e] at h1; cases h1
      | some r =>
        rw [e] at h1
        refine .inr ⟨r, List.mem_of_find?_eq_some e, ?_, h1⟩
        have := List.find?_some e
        unfold isAt sameL at this
        exact of_decide_eq_true this
  · rintro (h1 | ⟨r, hm, hp, hc⟩)
    · exact .inl h1
    · right
      rw [h.find hm hp]
      exact hc
/-- What is put among right things, on a shelf that is there, in no shelf's place: they stay right. -/
theorem tree_put {l : List Rs} {r : Rs} (h : treeB l = true) (hr : resB r = true) (hon : collB l (aboveL r.pa) = true) (hno : ∀ x ∈ l, x.pa = r.pa → x.co = false) (hlen : (putR r false l).length ≤ 12) : treeB (putR r false l) = true := by
  unfold treeB at h
  simp only [Bool.and_eq_true, decide_eq_true_eq, List.all_eq_true] at h
  obtain ⟨_, h2, h3, h4⟩ := h
  have ha := asc_of h3
  have hp := ha.put (r := r)
  unfold treeB
  simp only [Bool.and_eq_true, decide_eq_true_eq, List.all_eq_true]
  have keep : ∀ p, collB l p = true → collB (putR r false l) p = true := fun p hc => by
    rw [coll_iff ha] at hc
    rw [coll_iff hp]
    rcases hc with hc | ⟨s, hm, he, hs⟩
    · exact .inl hc
    · refine .inr ⟨s, putR_mem.2 (.inr ⟨hm, fun e => ?_⟩), he, hs⟩
      rw [hno s hm e] at hs
      cases hs
  refine ⟨hlen, fun y hy => ?_, asc_to hp, fun y hy => ?_⟩
  · rcases putR_mem.1 hy with rfl | ⟨hm, _⟩
    · exact hr
    · exact h2 y hm
  · rcases putR_mem.1 hy with rfl | ⟨hm, _⟩
    · exact keep _ hon
    · exact keep _ (h4 y hm)
end Go.Proofs.YtclnpfpaabmkcaaGreat
namespace Go.Proofs.YtclnpfpaabmkcaaGreat
open M

/-- Why shelves cannot be turned; 0: they can. -/
def mayI (rs : List Rs) (p : List ByteArray) (v : Int) : Int := if treeB rs = false then 500 else if pathB p = false then 400 else if inB v 0 99999 = false then 507 else 0
theorem mayI_500 {rs : List Rs} {p : List ByteArray} {v : Int} (h : treeB rs = false) : mayI rs p v = 500 := by unfold mayI; rw [if_pos h]
theorem mayI_400 {rs : List Rs} {p : List ByteArray} {v : Int} (h : treeB rs = true) (h1 : pathB p = false) : mayI rs p v = 400 := by unfold mayI; rw [if_neg (by simp [h]), if_pos h1]
theorem mayI_507 {rs : List Rs} {p : List ByteArray} {v : Int} (h : treeB rs = true) (h1 : pathB p = true) (h2 : inB v 0 99999 = false) : mayI rs p v = 507 := by unfold mayI; rw [if_neg (by simp [h]), if_neg (by simp [h1]), if_pos h2]
theorem mayI_0 {rs : List Rs} {p : List ByteArray} {v : Int} (h : treeB rs = true) (h1 : pathB p = true) (h2 : inB v 0 99999 = true) : mayI rs p v = 0 := by unfold mayI; rw [if_neg (by simp [h]), if_neg (by simp [h1]), if_neg (by simp [h2])]
theorem mayI_ok {rs : List Rs} {p : List ByteArray} {v : Int} (h : mayI rs p v = 0) : treeB rs = true ∧ pathB p = true ∧ inB v 0 99999 = true := by
  cases h1 : treeB rs
  · rw [mayI_500 h1] at h; cases h
  · cases h2 : pathB p
    · rw [mayI_400 h1 h2] at h; cases h
    · cases h3 : inB v 0 99999
      · rw [mayI_507 h1 h2 h3] at h; cases h
      · exact ⟨rfl, rfl, rfl⟩


theorem notAt_len {r : Rs} {l : List Rs} : (notAt r l).length ≤ l.length := List.length_filter_le _ _
theorem notAt_less {r : Rs} {l : List Rs} (h : ∃ x ∈ l, x.pa = r.pa) : (notAt r l).length < l.length := by
  obtain ⟨x, hm, he⟩ := h
  unfold notAt
  refine List.length_filter_lt_length_iff_exists.2 ⟨x, hm, ?_⟩
  rw [he, sameL_refl]
  simp
theorem putR_len {r : Rs} : ∀ {l : List Rs}, (putR r false l).length = (notAt r l).length + 1
  | [] => rfl
  | x :: l => by
    cases h : lessL x.pa r.pa
    · rw [putR_here h, List.length_cons]
    · have hs : sameL x.pa r.pa = false := by
        unfold sameL
        rw [decide_eq_false_iff_not]
        intro e
        rw [e, lessL_irr] at h
        cases h
      rw [putR_less h, List.length_cons, putR_len (l := l)]
      unfold notAt
      rw [List.filter_cons, hs]
      simp
theorem not_there {rs : List Rs} {p : List ByteArray} (h : findI rs p < 0) : ∀ x ∈ rs, x.pa ≠ p := fun x hx e => by
  have h1 : 0 ≤ findI rs p := by
    rcases findI_cases rs p with e2 | ⟨k, hk, e2, _⟩
    · exfalso
      unfold findI at e2
      by_cases hlt : rs.findIdx (isAt p) < rs.length
      · rw [if_pos hlt] at e2; omega
      · exact hlt (List.findIdx_lt_length_of_exists ⟨_, hx, by unfold isAt; rw [e]; exact sameL_refl _⟩)
    · rw [e2]; omega
  omega

/-- What MakeColl says, and answers. -/
def collI (rs : List Rs) (p : List ByteArray) (v : Int) : Int := if mayI rs p v ≠ 0 then mayI rs p v else if p.length = 0 ∨ 0 ≤ findI rs p then 405 else if collB rs (aboveL p) = false then 409 else if 12 ≤ rs.length then 507 else 0
def shelfR (p : List ByteArray) (v : Int) : Rs := ⟨p, true, ByteArray.empty, v, []⟩
def makeR (rs : List Rs) (p : List ByteArray) (v : Int) : List Rs := if collI rs p v = 0 then putR (shelfR p v) false rs else rs
theorem make_tree {rs : List Rs} {p : List ByteArray} {v : Int} (h : treeB rs = true) : treeB (makeR rs p v) = true := by
  unfold makeR
  by_cases hc : collI rs p v = 0
  · rw [if_pos hc]
    unfold collI at hc
    by_cases h1 : mayI rs p v = 0
    · rw [if_neg (by simp [h1])] at hc
      by_cases h2 : p.length = 0 ∨ 0 ≤ findI rs p
      · rw [if_pos h2] at hc; cases hc
      · rw [if_neg h2] at hc
        cases h3 : collB rs (aboveL p)
        · rw [if_pos h3] at hc; cases hc
        · rw [if_neg (by simp [h3])] at hc
          by_cases h4 : 12 ≤ rs.length
          · rw [if_pos h4] at hc; cases hc
          · obtain ⟨_, hp, hv⟩ := mayI_ok h1
            have hne : ∀ x ∈ rs, x.pa ≠ p := not_there (by omega)
            refine tree_put h ?_ h3 (fun x hx e => absurd e (hne x hx)) ?_
            · have h0 : 0 < p.length := by omega
              unfold resB shelfR
              simp [h0, hp, hv, propsB, ascB]
            · rw [putR_len]
              have := notAt_len (r := shelfR p v) (l := rs)
              omega
    · rw [if_pos h1] at hc; exact absurd hc h1
  · rw [if_neg hc]; exact h

/-- What PutFile says, and answers. -/
def fileI (rs : List Rs) (p : List ByteArray) (bo : ByteArray) (v : Int) : Int := if mayI rs p v ≠ 0 then mayI rs p v else if collB rs p = true then 405 else if collB rs (aboveL p) = false then 409 else if 200 < bo.size then 413 else if findI rs p < 0 ∧ 12 ≤ rs.length then 507 else 0
/-- What is known of the one that was there. -/
def oldPs (rs : List Rs) (p : List ByteArray) : List Pp := match rs.find? (isAt p) with | none => [] | some r => r.ps
def fileR (rs : List Rs) (p : List ByteArray) (bo : ByteArray) (v : Int) : Rs := ⟨p, false, bo, v, oldPs rs p⟩
def putFR (rs : List Rs) (p : List ByteArray) (bo : ByteArray) (v : Int) : List Rs := if fileI rs p bo v = 0 then putR (fileR rs p bo v) false rs else rs
theorem put_tree {rs : List Rs} {p : List ByteArray} {bo : ByteArray} {v : Int} (h : treeB rs = true) : treeB (putFR rs p bo v) = true := by
  unfold putFR
  by_cases hc : fileI rs p bo v = 0
  · rw [if_pos hc]
    unfold fileI at hc
    by_cases h1 : mayI rs p v = 0
    · rw [if_neg (by simp [h1])] at hc
      cases h2 : collB rs p
      · rw [if_neg (by simp [h2])] at hc
        cases h3 : collB rs (aboveL p)
        · rw [if_pos h3] at hc; cases hc
        · rw [if_neg (by simp [h3])] at hc
          by_cases h4 : 200 < bo.size
          · rw [if_pos h4] at hc; cases hc
          · rw [if_neg h4] at hc
            by_cases h5 : findI rs p < 0 ∧ 12 ≤ rs.length
            · rw [if_pos h5] at hc; cases hc
            · obtain ⟨_, hp, hv⟩ := mayI_ok h1
              have h' := h
              unfold treeB at h'
              simp only [Bool.and_eq_true, decide_eq_true_eq, List.all_eq_true] at h'
              obtain ⟨t1, t2, t3, _⟩ := h'
              have ha := asc_of t3
              have h0 : 0 < p.length := by
                refine Nat.pos_of_ne_zero fun e => ?_
                rw [collB_root e] at h2
                cases h2
              have hno : ∀ x ∈ rs, x.pa = p → x.co = false := fun x hx e => by
                cases e2 : x.co
                · rfl
                · have : collB rs p = true := (coll_iff ha p).2 (.inr ⟨x, hx, e, e2⟩)
                  rw [h2] at this
                  cases this
              have hold : propsB (oldPs rs p) = true := by
                unfold oldPs
                cases e : rs.find? (isAt p) with
                | none => simp [propsB, ascB]
                | some x =>
                  have := t2 x (List.mem_of_find?_eq_some e)
                  unfold resB at this
                  simp only [Bool.and_eq_true] at this
                  exact this.2.2.2.2.2
              refine tree_put h ?_ h3 hno ?_
              · unfold resB fileR
                simp [h0, hp, hv, hold]
                omega
              · rw [putR_len]
                by_cases e : findI rs p < 0
                · have := notAt_len (r := fileR rs p bo v) (l := rs)
                  omega
                · rcases findI_cases rs p with e2 | ⟨k, hk, e2, hs⟩
                  · omega
                  · have := notAt_less (r := fileR rs p bo v) (l := rs) ⟨rs[k], List.getElem_mem hk, by unfold sameL at hs; exact of_decide_eq_true hs⟩
                    omega
      · rw [if_pos h2] at hc; cases hc
    · rw [if_pos h1] at hc; exact absurd hc h1
  · rw [if_neg hc]; exact h
end Go.Proofs.YtclnpfpaabmkcaaGreat
namespace Go.Proofs.YtclnpfpaabmkcaaGreat
open M

theorem sumL_small : ∀ l : List ByteArray, (∀ s ∈ l, nameB s = true) → sumL l ≤ 8 * l.length
  | [], _ => by simp [sumL]
  | s :: l, hl => by
    have h1 := sumL_small l (fun x hx => hl x (List.mem_cons_of_mem _ hx))
    have h3 := hl s (List.mem_cons_self ..)
    unfold nameB inB at h3
    simp only [Bool.and_eq_true, decide_eq_true_eq] at h3
    have h4 : sumL (s :: l) = s.size + sumL l := by simp [sumL]
    rw [h4, List.length_cons]
    omega
theorem sumP_small : ∀ l : List Pp, (∀ s ∈ l, propB s = true) → sumP l ≤ 60 * l.length
  | [], _ => by simp [sumP]
  | s :: l, hl => by
    have h1 := sumP_small l (fun x hx => hl x (List.mem_cons_of_mem _ hx))
    have h4 : sumP (s :: l) = szP s + sumP l := by simp [sumP]
    have h5 : szP s ≤ 60 := prop_small (hl s (List.mem_cons_self ..))
    rw [h4, List.length_cons]
    omega
theorem res_small {r : Rs} (h : resB r = true) : szR r ≤ 1000 := by
  unfold resB at h
  simp only [Bool.and_eq_true, decide_eq_true_eq] at h
  obtain ⟨_, hp, hb, _, _, hq⟩ := h
  have h2 : szR r = r.pa.length + sumL r.pa + r.bo.size + (r.ps.length + sumP r.ps) := rfl
  unfold pathB at hp
  rw [Bool.and_eq_true, decide_eq_true_eq, List.all_eq_true] at hp
  have h3 := sumL_small _ hp.1
  unfold propsB at hq
  simp only [Bool.and_eq_true, decide_eq_true_eq, List.all_eq_true] at hq
  have h4 := sumP_small _ hq.2.1
  have := hp.2
  have := hq.1
  omega
theorem sumR_small : ∀ l : List Rs, (∀ r ∈ l, resB r = true) → sumR l ≤ 1000 * l.length
  | [], _ => by simp [sumR]
  | r :: l, hl => by
    have h1 := sumR_small l (fun x hx => hl x (List.mem_cons_of_mem _ hx))
    have h4 : sumR (r :: l) = szR r + sumR l := by simp [sumR]
    have h5 := res_small (hl r (List.mem_cons_self ..))
    rw [h4, List.length_cons]
    omega
theorem tree_small {rs : List Rs} (h : treeB rs = true) : rs.length + sumR rs ≤ 20000 := by
  unfold treeB at h
  simp only [Bool.and_eq_true, decide_eq_true_eq, List.all_eq_true] at h
  have := sumR_small rs h.2.1
  have := h.1
  omega
end Go.Proofs.YtclnpfpaabmkcaaGreat
namespace Go.Proofs.YtclnpfpaabmkcaaGreat
open Go.RowKit M
set_option linter.unusedVariables false

theorem RowS.heapT {w w' : World} {b : Nat} {l : List ByteArray} (h : RowS w b l) (hz : w.heap.size ≤ w'.heap.size) (e : w'.heap[b]? = w.heap[b]?) : RowS w' b l :=
  ⟨Nat.lt_of_lt_of_le h.1 hz, fun j hj => ⟨(World.cell?_of_block (a := ⟨b, j, none⟩) e).trans (h.2 j hj).1, by have := (h.2 j hj).2; simp only [World.frozen?, e] at this ⊢; exact this⟩⟩
theorem RowP.heapT {w w' : World} {b : Nat} {l : List Pp} (h : RowP w b l) (hz : w.heap.size ≤ w'.heap.size) (e : w'.heap[b]? = w.heap[b]?) : RowP w' b l :=
  h.of (Nat.lt_of_lt_of_le h.1 hz) (fun o' => World.cell?_of_block (a := ⟨b, o', none⟩) e) (fun o' => by simp only [World.frozen?, e])
theorem RsAt.heapT {w w' : World} {b o : Nat} {r : Rs} {pa : Option Addr} {pc : Nat} {qa : Option Addr} {qc : Nat} (h : RsAt w b o r pa pc qa qc) (e : w'.heap[b]? = w.heap[b]?) : RsAt w' b o r pa pc qa qc :=
  h.of (fun o' => World.cell?_of_block (a := ⟨b, o', none⟩) e)

/-- One thing of a row. -/
structure HasE (w : World) (N g j : Nat) (r : Rs) (p pc q qc : Nat) : Prop where
  at' : RsAt w g (j * 5) r (some ⟨p, 0, none⟩) pc (some ⟨q, 0, none⟩) qc
  rp : RowS w p r.pa
  rq : RowP w q r.ps
  pN : N < p
  qN : N < q
  pg : p ≠ g
  qg : q ≠ g
  cp : r.pa.length ≤ pc ∧ pc ≤ maxLen
  cq : r.ps.length ≤ qc ∧ qc ≤ maxLen
/-- A row of things behind block N. -/
structure HasT (w : World) (N g : Nat) (rs : List Rs) : Prop where
  gN : N < g
  gs : g < w.heap.size
  fz : ∀ i, w.frozen? ⟨g, i, none⟩ = false
  el : ∀ j (hj : j < rs.length), ∃ p pc q qc, HasE w N g j rs[j] p pc q qc
theorem HasT.heap {w w' : World} {N g : Nat} {rs : List Rs} (h : HasT w N g rs) (hz : w.heap.size ≤ w'.heap.size) (e : ∀ b, N < b → b < w.heap.size → w'.heap[b]? = w.heap[b]?) : HasT w' N g rs := by
  have eg := e g h.gN h.gs
  refine ⟨h.gN, Nat.lt_of_lt_of_le h.gs hz, fun i => by have := h.fz i; simp only [World.frozen?, eg] at this ⊢; exact this, fun j hj => ?_⟩
  obtain ⟨p, pc, q, qc, x⟩ := h.el j hj
  exact ⟨p, pc, q, qc, ⟨x.at'.heapT eg, x.rp.heapT hz (e p x.pN x.rp.1), x.rq.heapT hz (e q x.qN x.rq.1), x.pN, x.qN, x.pg, x.qg, x.cp, x.cq⟩⟩
theorem HasT.below {w w' : World} {N g : Nat} {rs : List Rs} (h : HasT w N g rs) (hb : Below w.heap.size w w') : HasT w' N g rs := h.heap hb.size (fun b _ hbl => hb.block b hbl)
theorem HasT.grown {w w' : World} {N g : Nat} {rs : List Rs} (h : HasT w N g rs) (hg : w.grownBy w' (some N)) : HasT w' N g rs := h.heap hg.size (fun b hN hbl => hg.block b hbl (by simp; omega))
theorem HasT.made (w : World) (N : Nat) (hN : N < w.heap.size) : HasT (w.alloc (Obj.cells #[] 35)) N w.heap.size [] :=
  ⟨hN, by simp, fun k => World.frozen?_alloc_new w _ _ k, fun j hj => absurd hj (Nat.not_lt_zero _)⟩
theorem HasT.rss {w : World} {N g : Nat} {rs : List Rs} (h : HasT w N g rs) : Rss w w.heap.size (some ⟨g, 0, none⟩) rs := fun _ => ⟨g, 0, rfl, h.gs, fun j hj => by
  obtain ⟨p, pc, q, qc, x⟩ := h.el j hj
  exact ⟨_, pc, _, qc, by rw [Nat.zero_add]; exact x.at', ⟨x.rp.strs' x.rp.1, x.rq.pps x.rq.1, x.cp.1, x.cq.1, x.cp.2, x.cq.2, (fun e => by cases e), (fun e => by cases e)⟩⟩⟩
theorem HasT.of_grow {w : World} {N base lo : Nat} {v : Value} {ts : List RsT} (g : GrowR w base v ts lo) (hN : N < base) {rs : List Rs} (hm : ts.map (·.r) = rs) : ∃ b cap, v = .slice (some ⟨b, 0, none⟩) rs.length cap ∧ HasT w N b rs := by
  subst hm
  obtain ⟨b, cap, hv, hb⟩ := g.blk
  have ht := g.top
  have hbb := World.ownsRow.lt g.own b (by rw [hv]; rfl)
  refine ⟨b, cap, by rw [hv, List.length_map], ⟨by omega, by omega, ?_, fun j hj => ?_⟩⟩
  · rcases g.own.2 with ⟨h, _⟩ | ⟨g', cap', cur, e, _, hh, _⟩
    · rw [hv] at h; cases h
    · rw [hv] at e; cases e
      exact fun i => rowsR_frozen hh i
  · have hj' : j < ts.length := by simpa using hj
    obtain ⟨h1, h2, h3, h4, h5, h6, h7⟩ := g.el j hj'
    obtain ⟨k1, k2, k3, k4⟩ := g.caps j hj'
    simp only [List.getElem_map]
    exact ⟨_, _, _, _, ⟨g.at hv j hj', h4, h5, by omega, by omega, fun e => h6 (by rw [e, hv]; rfl), fun e => h7 (by rw [e, hv]; rfl), ⟨k1, k2⟩, ⟨k3, k4⟩⟩⟩
/-- Of one of them other things are known. -/
theorem HasT.setProps {w : World} {N g : Nat} {rs : List Rs} (h : HasT w N g rs) (k : Nat) (hk : k < rs.length) (g2 n2 c2 : Nat) (L : List Pp) (hn : n2 = L.length) (hr : RowP w g2 L) (hN : N < g2) (hne : g2 ≠ g) (h1 : n2 ≤ c2) (h2 : c2 ≤ maxLen) :
    HasT (w.setCell ⟨g, k * 5 + 4, none⟩ (.slice (some ⟨g2, 0, none⟩) n2 c2)) N g (rs.set k (setP rs[k] L)) := by
  subst hn
  have hoth : ∀ (x o : Nat) (hne : x ≠ g ∨ o ≠ k * 5 + 4), (w.setCell ⟨g, k * 5 + 4, none⟩ (.slice (some ⟨g2, 0, none⟩) L.length c2)).cell? ⟨x, o, none⟩ = w.cell? ⟨x, o, none⟩ := fun x o hne => World.cell?_setCell_other _ _ _ _ (fun e => by
    have e1 := congrArg Addr.block e
    have e2 := congrArg Addr.off e
    simp at e1 e2
    omega)
  refine ⟨h.gN, by simpa using h.gs, fun i => by rw [World.frozen?_setCell]; exact h.fz i, fun j hj => ?_⟩
  have hj' : j < rs.length := by simpa using hj
  obtain ⟨p, pc, q, qc, x⟩ := h.el j hj'
  obtain ⟨c0, c1, c2', c3, c4⟩ := x.at'
  have hp := x.rp.setCell ⟨g, k * 5 + 4, none⟩ (.slice (some ⟨g2, 0, none⟩) L.length c2) (fun e => x.pg e.symm)
  have hq := x.rq.setCell ⟨g, k * 5 + 4, none⟩ (.slice (some ⟨g2, 0, none⟩) L.length c2) (fun e => x.qg e.symm)
  have hr' := hr.setCell ⟨g, k * 5 + 4, none⟩ (.slice (some ⟨g2, 0, none⟩) L.length c2) (fun e => hne e.symm)
  rw [List.getElem_set]
  by_cases e : k = j
  · subst e
    simp only [if_true]
    refine ⟨p, pc, g2, c2, ⟨⟨?_, ?_, ?_, ?_, World.cell?_setCell_same _ _ _ c4⟩, hp, hr', x.pN, hN, x.pg, hne, x.cp, ⟨h1, h2⟩⟩⟩
    · rw [hoth _ _ (.inr (by omega))]; exact c0
    · rw [hoth _ _ (.inr (by omega))]; exact c1
    · rw [hoth _ _ (.inr (by omega))]; exact c2'
    · rw [hoth _ _ (.inr (by omega))]; exact c3
  · rw [if_neg e]
    refine ⟨p, pc, q, qc, ⟨⟨?_, ?_, ?_, ?_, ?_⟩, hp, hq, x.pN, x.qN, x.pg, x.qg, x.cp, x.cq⟩⟩
    · rw [hoth _ _ (.inr (by omega))]; exact c0
    · rw [hoth _ _ (.inr (by omega))]; exact c1
    · rw [hoth _ _ (.inr (by omega))]; exact c2'
    · rw [hoth _ _ (.inr (by omega))]; exact c3
    · rw [hoth _ _ (.inr (by omega))]; exact c4

/-- 'append([]string{}, p...)', as a row with an address. -/
theorem wp_append_allO {w : World} {ops : Array Oper} {rest : List Oper} {o : Oper} {a : Act} {Q : Exit → Act → World → Prop} (hgd : o.guard = none) (s x : Operand)
    (ho : o.op = .call { callee := .builtin .append, args := #[s, x], argTypes := #[25, 25] })
    (B g0 : Nat) (l : List ByteArray) (n : Nat) (hn : n = l.length) (hs : a.eval s = .slice (some ⟨g0, 0, none⟩) 0 0) (hown : w.ownsRow B 9 1 (.slice (some ⟨g0, 0, none⟩) 0 0) 0 (strCells []))
    (g c : Nat) (hx : a.eval x = .slice (some ⟨g, 0, none⟩) n c) (hcell : ∀ j (hj : j < l.length), w.cell? ⟨g, j, none⟩ = some (.string l[j])) (hlen : n ≤ 1099511627776) (hB : B ≤ w.heap.size)
    (h : ∀ g' c' w', w'.ownsRow B 9 1 (.slice (some ⟨g', 0, none⟩) n c') n (strCells l) → Below B w w' → wpList Tryz.prog ops Q rest (a.put o.dst (.slice (some ⟨g', 0, none⟩) n c')) w') : wpList Tryz.prog ops Q (o :: rest) a w := by
  obtain ⟨i0, hi, hz0, hz1, hz2⟩ := info_parts info_str
  refine wpList_append_own w hgd s x 25 ho B 9 i0 (.string ByteArray.empty) 1 16 Tryz.underlying25 hi hz0 hz1 hz2 rfl (by decide) _ 0 _ hs hown ⟨g, 0, none⟩ n c (strCells l) hx (by rw [strCells_length, hn, Nat.mul_one]) ?_ ?_ ?_ ?_ hB ?_
  · intro j u hj
    have hjl : j < l.length := by have := (List.getElem?_eq_some_iff.1 hj).1; rwa [strCells_length] at this
    have e : (⟨g, 0, none⟩ : Addr).add j = ⟨g, j, none⟩ := by unfold Addr.add; split <;> simp_all
    rw [e, hcell j hjl]
    unfold strCells at hj
    rw [List.getElem?_map, List.getElem?_eq_getElem hjl] at hj
    exact hj
  · intro u hu
    unfold strCells at hu
    obtain ⟨y, _, rfl⟩ := List.mem_map.1 hu
    rfl
  · unfold maxLen; omega
  · omega
  · intro v' w' ho' hg hnn
    rw [Nat.zero_add] at ho'
    obtain ⟨g', c', rfl⟩ : ∃ g c, v' = .slice (some ⟨g, 0, none⟩) n c := by
      rcases ho'.2 with ⟨e, h0⟩ | ⟨g, cap, cur, hv, _⟩
      · have := (hnn.1 e).1; cases this
      · exact ⟨g, cap, hv⟩
    exact h g' c' w' ho' (below_grown hown hB hg)
end Go.Proofs.YtclnpfpaabmkcaaGreat
namespace Go.Proofs.YtclnpfpaabmkcaaGreat
open Go.RowKit M
set_option linter.unusedVariables false

/-- What a draw of a path hands back. -/
def PathO (w' : World) (B : Nat) (e : Ending) : Prop := ∃ (ss : List ByteArray) (n g c : Nat), Few 6 ss ∧ n = ss.length ∧ e = .returned (.slice (some ⟨g, 0, none⟩) n c) ∧ w'.ownsRow B 9 1 (.slice (some ⟨g, 0, none⟩) n c) n (strCells ss)

set_option maxRecDepth 100000 in
set_option maxHeartbeats 4000000 in
theorem l10Path_any {w : World} {N : Nat} {a : Option Addr} {len cap : Nat} {zs : List Int} (h : DX w N a len cap zs) (g n c : Nat) (rs : List Rs) (hn : Hid (n = rs.length)) (ht : HasT w N g rs) (hl : n ≤ 1000) (hp : ∀ r ∈ rs, Few 5 r.pa) :
    Calls Tryz.prog 58 #[.pointer (some ⟨N, 0, none⟩), .slice (some ⟨g, 0, none⟩) n c] w fun e w' => PathO w' w.heap.size e ∧ DX w' N a len cap zs ∧ w.grownBy w' (some N) := by
  have hlt := h.lt
  have H := hide h
  have HT := hide ht
  have HP := hide hp
  clear h ht hp
  by_cases h0 : n = 0
  · subst h0
    go_enter Tryz.func58, Tryz.ntmps58
    go_wp2_with fail
    refine (l2Draw_any H.out).mono ?_
    rintro e w1 ⟨⟨ss, n, g1, c1, hf, hn1, rfl, hown⟩, hd1, hg1⟩
    have HN := hide hn1
    clear hn1
    go_wp2
    go_ret
    exact ⟨⟨ss, n, g1, c1, hf.mono (by decide), HN.out, rfl, hown⟩, hd1, hg1⟩
  · have h0' : (0 : Int) < n := by omega
    go_enter Tryz.func58, Tryz.ntmps58
    go_wp2_with fail
    refine (l1OnceQ H.out 3 (by decide) (by decide)).mono ?_
    rintro e w1 ⟨⟨b, rfl⟩, hd1, hg1⟩
    have HD1 := hide hd1
    have HG1 := hide hg1
    have HT1 := hide (HT.out.grown hg1)
    clear hd1 hg1 HT H
    have hsz1 := HG1.out.size
    cases b
    · go_wp2_with fail
      refine (l1BelowX (HD1.out.alloc _) n (by omega) (by omega)).mono ?_
      rintro e w2 ⟨⟨k, rfl, hk⟩, hd2, hg2⟩
      have HO2 := hide (owns_grown (World.ownsRow_made w1 #[] 0 hsz1 (by decide) rfl) hg2 hlt)
      have HT2 := hide ((HT1.out.below ((Below.refl w1.heap.size w1).alloc (Nat.le_refl _) _)).grown hg2)
      have HG2 := hide (grown_trans (grown_alloc HG1.out _) hg2)
      have HD2 := hide hd2
      have hkr : k < rs.length := by have := hn.out; omega
      obtain ⟨p, pc, q, qc, x⟩ := HT2.out.el k hkr
      have hFk := HP.out _ (List.getElem_mem hkr)
      obtain ⟨c0, _⟩ := x.at'
      have hrp := x.rp
      obtain ⟨pl, hpl⟩ : ∃ pl, rs[k].pa = pl := ⟨_, rfl⟩
      rw [hpl] at c0 hrp hFk
      have HF := hide hFk
      have hpl5 : pl.length ≤ 5 := hFk.1
      have hki : (k : Int) < (n : Int) := by omega
      have hsz2 := HG2.out.size
      clear hd2 hg2 HD1 HG1 HT1 hpl x hFk HT2
      go_wp2_with (at_builtin; refine wp_append_allO rfl _ _ rfl w.heap.size w1.heap.size pl pl.length rfl rfl HO2.out p pc rfl (fun j hj => (hrp.2 j hj).1) (by omega) hsz2 ?_)
      intro g3 c3 w3 hO3 hb3
      have HD3 := hide (HD2.out.other hb3.size (fun i hi => hb3.block i (by omega)))
      have HG3 := hide (grown_belowQ HG2.out hb3 (Nat.le_refl _))
      obtain ⟨nl, hnl⟩ : ∃ nl, pl.length = nl := ⟨_, rfl⟩
      rw [hnl] at hO3 ⊢
      have HNL := hide hnl
      clear HD2 HG2 HO2 hb3 hrp c0 hnl hpl5
      go_wp2_with fail
      refine (l1OnceQ HD3.out 3 (by decide) (by decide)).mono ?_
      rintro e w4 ⟨⟨b, rfl⟩, hd4, hg4⟩
      have hO4 := owns_grown hO3 hg4 hlt
      have HD4 := hide hd4
      have HG4 := hide (grown_trans HG3.out hg4)
      clear hd4 hg4 HD3 HG3 hO3
      cases b
      · go_wp2
        go_ret
        exact ⟨⟨pl, nl, g3, c3, HF.out.mono (by decide), HNL.out.symm, rfl, hO4⟩, HD4.out, HG4.out⟩
      · go_wp2_with fail
        refine (l2Name_any HD4.out).mono ?_
        rintro e w5 ⟨⟨y, rfl, hy⟩, hd5, hg5⟩
        have hO5 := owns_grown hO4 hg5 hlt
        have HG5 := hide (grown_trans HG4.out hg5)
        have HD5 := hide hd5
        have hsz5 := HG5.out.size
        have hnl6 : nl ≤ 5 := by rw [← HNL.out]; exact HF.out.1
        clear hd5 hg5 HD4 HG4 hO4
        go_wp2_with (at_builtin; refine wp_append_str rfl _ _ rfl w.heap.size _ nl pl rfl (hO5.alloc _) _ y rfl ?c1 ?c2 ?c3 ?_)
        case c1 => simp
        case c2 => omega
        case c3 => simp; omega
        intro g6 c6 w6 ho6 hb6
        have HD6 := hide ((HD5.out.alloc _).other hb6.size (fun k hk => hb6.block k (by omega)))
        have HG6 := hide (grown_belowQ (grown_alloc HG5.out _) hb6 (Nat.le_refl _))
        go_wp2
        go_ret
        exact ⟨⟨pl ++ [y], nl + 1, g6, c6, HF.out.snoc hy, by rw [List.length_append, HNL.out]; rfl, rfl, ho6⟩, HD6.out, HG6.out⟩
    · go_wp2_with fail
      refine (l2Draw_any HD1.out).mono ?_
      rintro e w2 ⟨⟨ss, n2, g2, c2, hf, hn2, rfl, hown⟩, hd2, hg2⟩
      have HN := hide hn2
      have HG2 := hide (grown_trans HG1.out hg2)
      have HO2 : Hid (w2.ownsRow w.heap.size 9 1 (.slice (some ⟨g2, 0, none⟩) n2 c2) n2 (strCells ss)) := ⟨hown.1, by
        rcases hown.2 with e | ⟨g', cap', cur, e, hB, hr⟩
        · exact .inl e
        · exact .inr ⟨g', cap', cur, e, Nat.le_trans hsz1 hB, hr⟩⟩
      clear hn2 hown
      go_wp2
      go_ret
      exact ⟨⟨ss, n2, g2, c2, hf.mono (by decide), HN.out, rfl, HO2.out⟩, hd2, HG2.out⟩
end Go.Proofs.YtclnpfpaabmkcaaGreat
namespace Go.Proofs.YtclnpfpaabmkcaaGreat
open Go.RowKit M

set_option maxHeartbeats 400000 in
theorem specNameOk_any (s : ByteArray) (w : World) (hs : s.size ≤ maxLen) :
    Calls Tryz.prog 126 #[.string s] w fun e w' => e = .returned (.bool (nameB s)) ∧ w' = w := by
  have hs' := hs
  unfold maxLen at hs'
  go_enter Tryz.func126, Tryz.ntmps126
  go_wp2
  go_loop [3] (fun i => ∃ k : Nat, k ≤ s.size ∧ i = .int .i64 k ∧ noSlash (s.data.toList.take k) = true) (fun i => s.size - (intOf i).toNat)
  case atStart => exact ⟨0, Nat.zero_le _, rfl, rfl⟩
  case round =>
    obtain ⟨k, hk, rfl, hn⟩ := hrel
    have HN : Hid (noSlash (s.data.toList.take k) = true) := hn; clear hn
    by_cases hlt : k < s.size
    · go_wp2
      · go_ret
        exact ⟨ret_bool (by rw [noSlash_no s k hlt (by assumption)]), rfl⟩
      · go_round
        case rel => exact ⟨k + 1, by omega, by go_num, noSlash_snoc s k hlt HN.out (by rintro e; simp_all)⟩
        case measure => simp [intOf]; omega
    · have HA : Hid (noSlash s.data.toList = true) := by have := HN.out; rw [take_all s k hlt] at this; exact this
      go_wp2_with (first | (go_at_call 90; refine (l1In_any _ _ _ _).mono ?_; rintro e w' ⟨rfl, rfl⟩) | (go_at_call 131; refine (specPlain_any _ _ hs).mono ?_; rintro e w' ⟨rfl, rfl⟩))
      all_goals
        go_ret
        refine ⟨ret_bool ?_, rfl⟩
        have hA := HA.out
        simp_all [nameB]

set_option maxHeartbeats 1000000 in
theorem nameOk_any (s : ByteArray) (w : World) (hs : s.size ≤ maxLen) :
    Calls Tryz.prog 141 #[.string s] w fun e w' => e = .returned (.bool (nameB s)) ∧ Below w.heap.size w w' := by
  unfold maxLen at hs
  by_cases hc : (1 ≤ s.size ∧ s.size ≤ 8) ∧ ¬ s.toList = [46] ∧ ¬ s.toList = [46, 46]
  · obtain ⟨⟨h1, h8⟩, hd, hdd⟩ := hc
    have HI : Hid (inB s.size 1 8 = true) := by show inB s.size 1 8 = true; simp [inB]; omega
    have HD : Hid (¬ s.toList = [46] ∧ ¬ s.toList = [46, 46]) := ⟨hd, hdd⟩
    go_enter Tryz.func141, Tryz.ntmps141
    go_wp2
    · exfalso; simp_all; omega
    rename_i q1 q2 q3 _ _
    clear q1 q2 q3 hd hdd h1 h8
    go_loopw [] (fun wr => ∃ pos : Nat, wr = w.iter s pos ∧ pos ≤ s.size ∧ noSlash (s.data.toList.take pos) = true ∧ allB (s.data.toList.take pos) [0] = true) (fun wr => s.size - wr.iterPos w.heap.size)
    case atStart => exact ⟨0, rfl, Nat.zero_le _, rfl, rfl⟩
    case round =>
      obtain ⟨pos, rfl, hp, hn0, ha0⟩ := hrel
      have HN : Hid (noSlash (s.data.toList.take pos) = true) := hn0; clear hn0
      have HA : Hid (allB (s.data.toList.take pos) [0] = true) := ha0; clear ha0
      have hbe : Below w.heap.size w (w.iter s pos) := (Below.refl _ _).alloc (Nat.le_refl _) _
      by_cases hlt : pos < s.size
      · by_cases ha : (s[pos]'hlt).toNat < 128
        · have hnx : ∀ ty, (Instr.next (.pointer (some ⟨w.heap.size, 0, none⟩)) true ty).run Tryz.prog (w.iter s pos) = _ := fun ty => run_next_ascii w s pos ty hlt ha
          have hbe2 : Below w.heap.size w (w.iter s (pos + 1)) := (Below.refl _ _).alloc (Nat.le_refl _) _
          have hit2 := World.iter_heap w s (pos + 1)
          have hit := World.iter_heap w s pos
          by_cases hok : anyB (s[pos].toNat : Int) [0] = true ∧ ¬ s[pos] = 47
          · have HO : Hid (anyB (s[pos].toNat : Int) [0] = true ∧ ¬ s[pos] = 47) := hok
            have h32 : 32 ≤ (s[pos].toNat : Int) ∧ (s[pos].toNat : Int) ≤ 126 := by have := hok.1; simp [anyB, isB] at this; omega
            clear hok
            go_wp2
            · exact (okc_not (by assumption) HO.out).elim
            · go_roundw
              case rel => exact ⟨pos + 1, rfl, by omega, noSlash_snoc s pos hlt HN.out HO.out.2, allB_snoc s [0] pos hlt HA.out (by rw [HO.out.1]; rfl)⟩
              case measure => simp only [World.iterPos, hit2, hit]; omega
          · have HO : Hid (nameB s = false) := by
              show nameB s = false
              by_cases h0 : anyB (s[pos].toNat : Int) [0] = true
              · exact noSlash_no s pos hlt (by have : s[pos] = 47 := Classical.byContradiction fun e => hok ⟨h0, e⟩; rw [this]; rfl)
              · exact plain_no s pos hlt (by simpa using h0)
            go_wp2
            all_goals first
              | (go_ret; exact ⟨ret_bool HO.out.symm, hbe2⟩)
              | (exfalso; exact hok (okc_of (by assumption)))
        · have hh := decode_high s pos hlt (by omega)
          have hd1 := decode_le s pos
          have hnx : ∀ ty, (Instr.next (.pointer (some ⟨w.heap.size, 0, none⟩)) true ty).run Tryz.prog (w.iter s pos) = _ := fun ty => Lib.run_next_any_at (w.iter s pos) w.heap.size s pos ty (World.iter_heap w s pos) hlt
          have hbe2 := Lib.below_iterAt hbe (Nat.le_refl _) s (pos + (Utf8.decode s pos).2)
          have HP : Hid (nameB s = false) := plain_no s pos hlt (by simp [anyB, isB]; omega)
          go_wp2
          all_goals (go_ret; exact ⟨ret_bool HP.out.symm, hbe2⟩)
      · have hnx : ∀ ty, (Instr.next (.pointer (some ⟨w.heap.size, 0, none⟩)) true ty).run Tryz.prog (w.iter s pos) = _ := fun ty => run_next_end w s pos ty hlt
        go_wp2
        go_ret
        exact ⟨ret_bool (by rw [nameB_all s (by have := HN.out; rwa [take_all s pos hlt] at this) HI.out (by have := HA.out; rwa [take_all s pos hlt] at this) HD.out.1 HD.out.2]), hbe⟩
  · have HC : Hid (nameB s = false) := by
      show nameB s = false
      by_cases hi : 1 ≤ s.size ∧ s.size ≤ 8
      · by_cases hd : s.toList = [46]
        · simp [nameB, hd]
        · by_cases hdd : s.toList = [46, 46]
          · simp [nameB, hdd]
          · exact absurd ⟨hi, hd, hdd⟩ hc
      · have : inB s.size 1 8 = false := by simp [inB]; omega
        simp [nameB, this]
    go_enter Tryz.func141, Tryz.ntmps141
    go_wp2
    all_goals first
      | (go_ret; exact ⟨ret_bool HC.out.symm, Below.refl _ _⟩)
      | (exfalso; apply hc; simp_all; omega)
end Go.Proofs.YtclnpfpaabmkcaaGreat
namespace Go.Proofs.YtclnpfpaabmkcaaGreat
open Go.RowKit M
set_option linter.unusedVariables false


theorem names_snoc (ss : List ByteArray) (k : Nat) (h : k < ss.length) (h0 : (ss.take k).all nameB = true) (h1 : nameB ss[k] = true) : (ss.take (k + 1)).all nameB = true := by
  rw [List.take_succ_eq_append_getElem h, List.all_append, h0]; simp [h1]
theorem names_not (ss : List ByteArray) (k : Nat) (h : k < ss.length) (h1 : nameB ss[k] = false) : pathB ss = false := by
  have : ss.all nameB = false := by rw [List.all_eq_false]; exact ⟨_, List.getElem_mem h, by simp [h1]⟩
  simp [pathB, this]

set_option maxHeartbeats 400000 in
theorem specPathOk_any (a : Option Addr) (ss : List ByteArray) (cap B : Nat) (w : World) (h : Strs w B a ss) (hs : Short ss) (hl : ss.length ≤ maxLen) :
    Calls Tryz.prog 89 #[.slice a ss.length cap] w fun e w' => e = .returned (.bool (pathB ss)) ∧ w' = w := by
  unfold maxLen at hl
  go_enter Tryz.func89, Tryz.ntmps89
  go_wp2
  go_loop [3] (fun i => ∃ k : Nat, k ≤ ss.length ∧ i = .int .i64 k ∧ (ss.take k).all nameB = true) (fun i => ss.length - (intOf i).toNat)
  case atStart => exact ⟨0, Nat.zero_le _, rfl, rfl⟩
  case round =>
    obtain ⟨k, hk, rfl, hn⟩ := hrel
    have HN : Hid ((ss.take k).all nameB = true) := hn; clear hn
    by_cases hlt : k < ss.length
    · obtain ⟨b, o, rfl, hb, hc⟩ := h (by omega)
      have hcx := hc k hlt
      have hsz := hs.at k hlt
      cases hB : nameB ss[k]
      · go_wp2_with (go_at_call 126; refine (specNameOk_any _ _ hsz).mono ?_; rintro e w1 ⟨rfl, hw⟩; obtain rfl := hw.symm; rw [hB])
        go_ret
        exact ⟨ret_bool (names_not ss k hlt hB).symm, rfl⟩
      · go_wp2_with (go_at_call 126; refine (specNameOk_any _ _ hsz).mono ?_; rintro e w1 ⟨rfl, hw⟩; obtain rfl := hw.symm; rw [hB])
        go_round
        case rel => exact ⟨k + 1, by omega, by go_num, names_snoc ss k hlt HN.out hB⟩
        case measure => simp [intOf]; omega
    · go_wp2
      go_ret
      refine ⟨ret_bool ?_, rfl⟩
      have hA := HN.out
      rw [sumS_all ss k hlt] at hA
      simp only [pathB, hA, Bool.true_and]
      exact decide_eq_decide.2 (by omega)

set_option maxHeartbeats 400000 in
theorem pathOk_any (a : Option Addr) (ss : List ByteArray) (cap : Nat) (w : World) (h : Strs w w.heap.size a ss) (hs : Short ss) (hl : ss.length ≤ maxLen) :
    Calls Tryz.prog 117 #[.slice a ss.length cap] w fun e w' => e = .returned (.bool (pathB ss)) ∧ Below w.heap.size w w' := by
  unfold maxLen at hl
  by_cases h4 : (4 : Int) < ss.length
  · go_enter Tryz.func117, Tryz.ntmps117
    go_wp2
    go_ret
    refine ⟨ret_bool ?_, Below.refl _ _⟩
    have : ¬ ss.length ≤ 4 := by omega
    simp [pathB, this]
  · go_enter Tryz.func117, Tryz.ntmps117
    go_wp2
    go_loopw [10] (fun i wr => ∃ k : Nat, k ≤ ss.length ∧ i = .int .i64 k ∧ (ss.take k).all nameB = true ∧ Below w.heap.size w wr) (fun i _ => ss.length - (intOf i).toNat)
    case atStart => exact ⟨0, Nat.zero_le _, rfl, rfl, Below.refl _ _⟩
    case round =>
      obtain ⟨k, hk, rfl, hn, hbe⟩ := hrel
      have HN : Hid ((ss.take k).all nameB = true) := hn; clear hn
      by_cases hlt : k < ss.length
      · obtain ⟨b, o, rfl, hb, hc⟩ := (h.below hbe (Nat.le_refl _)) (by omega)
        have hcx := hc k hlt
        have hsz := hs.at k hlt
        cases hB : nameB ss[k]
        · go_wp2_with fail
          refine (nameOk_any _ _ hsz).mono ?_
          rintro e w1 ⟨rfl, hb1⟩
          rw [hB]
          go_wp2
          go_ret
          exact ⟨ret_bool (names_not ss k hlt hB).symm, hbe.trans (hb1.mono hbe.size)⟩
        · go_wp2_with fail
          refine (nameOk_any _ _ hsz).mono ?_
          rintro e w1 ⟨rfl, hb1⟩
          rw [hB]
          go_wp2
          go_roundw
          case rel => exact ⟨k + 1, by omega, by go_num, names_snoc ss k hlt HN.out hB, hbe.trans (hb1.mono hbe.size)⟩
          case measure => simp [intOf]; omega
      · go_wp2
        go_ret
        refine ⟨ret_bool ?_, hbe⟩
        have hA := HN.out
        rw [sumS_all ss k hlt] at hA
        have : ss.length ≤ 4 := by omega
        simp [pathB, hA, this]
end Go.Proofs.YtclnpfpaabmkcaaGreat
