/-
  Plain facts on the text of a path: no program in sight.
  Plain facts on texts that are cut at slashes, and on what is walked of the pieces: no program in sight.
  A path comes back of its text; what is read is a path: no program in sight.
  Which lists of things are right: no program in sight.
  A thing put in order among others: no program in sight.
  What is put, and made, among right things: no program in sight.
  Whether a list of texts stands under another.
  What stands right on a path, and what is deep there.
  What stands on a path of right things: no program in sight.
  What stays, what comes, and all of it in order: no program in sight.
  Growing rows of things whose lists have no room besides.
  Rows of things put together.
-/
import Derived.Test.YtepdfppbnepamabGreatMathPath
import Derived.Lib.Join
import Derived.Lib.Split
import Derived.Lib.SplitLaws
import Derived.Lib.IndexBytes
import Derived.Test.YtepdfppbnepamabGreatMathOrder
namespace Go.Proofs.YtepdfppbnepamabGreat.M

/-- Whether these are the names of a path, as the document has it. -/
def pathB (ss : List ByteArray) : Bool := ss.all nameB && decide (ss.length ≤ 4)
def qB (s : ByteArray) : ByteArray := bytesOf (quoteL s.data.toList)
def tellL (ss : List ByteArray) : List UInt8 := ss.flatMap fun s => 47 :: quoteL s.data.toList
/-- The text of a path. -/
def ptextL (ss : List ByteArray) : List UInt8 := if pathB ss then (if ss = [] then [47] else tellL ss) else []

theorem ptextL_not {ss : List ByteArray} (h : pathB ss = false) : ptextL ss = [] := by simp [ptextL, h]
theorem ptextL_nil : ptextL [] = [47] := by simp [ptextL, pathB]
theorem ptextL_some {ss : List ByteArray} (h : pathB ss = true) (h0 : ss ≠ []) : ptextL ss = tellL ss := by simp [ptextL, h, h0]

theorem tellL_snoc (ss : List ByteArray) (k : Nat) (h : k < ss.length) : tellL (ss.take (k + 1)) = tellL (ss.take k) ++ [47] ++ quoteL (ss[k]).data.toList := by
  unfold tellL
  rw [List.take_succ_eq_append_getElem h, List.flatMap_append]
  simp only [List.flatMap_cons, List.flatMap_nil, List.append_nil, List.append_assoc, List.singleton_append]

theorem nameB_size {s : ByteArray} (h : nameB s = true) : s.size ≤ 8 := by
  unfold nameB at h
  simp only [Bool.and_eq_true, inB, decide_eq_true_eq] at h
  omega

theorem pathB_name {ss : List ByteArray} (h : pathB ss = true) (k : Nat) (hk : k < ss.length) : nameB ss[k] = true := by
  unfold pathB at h
  simp only [Bool.and_eq_true, List.all_eq_true] at h
  exact h.1 _ (List.getElem_mem hk)
theorem pathB_len {ss : List ByteArray} (h : pathB ss = true) : ss.length ≤ 4 := by
  unfold pathB at h
  simp only [Bool.and_eq_true, decide_eq_true_eq] at h
  exact h.2

theorem quote_short {s : ByteArray} (h : s.size ≤ 8) : (quoteL s.data.toList).length ≤ 24 := by
  have := quoteL_le s.data.toList
  have e : s.data.toList.length = s.size := Array.length_toList
  omega

theorem tellL_le {ss : List ByteArray} (h : pathB ss = true) (k : Nat) (hk : k ≤ ss.length) : (tellL (ss.take k)).length ≤ 25 * k := by
  induction k with
  | zero => simp [tellL]
  | succ k ih =>
    rw [tellL_snoc ss k hk]
    have h1 := ih (by omega)
    have h2 := quote_short (nameB_size (pathB_name h k hk))
    simp only [List.length_append, List.length_cons, List.length_nil]
    omega

theorem tellL_join (ss : List ByteArray) (h : ss ≠ []) : [47] ++ Lib.join ((ss.map qB).map (·.data.toList)) [47] = tellL ss := by
  cases ss with
  | nil => exact absurd rfl h
  | cons s r =>
    rw [List.map_cons, List.map_cons, Lib.join_cons]
    simp only [tellL, Lib.joinTail, List.map_map, List.flatMap]
    simp only [Function.comp_def, qB, bytesOf, List.cons_append, List.nil_append, List.map_cons, List.flatten_cons]

theorem join_le {ss : List ByteArray} (h : pathB ss = true) : (Lib.join ((ss.map qB).map (·.data.toList)) [47]).length ≤ 100 := by
  by_cases h0 : ss = []
  · subst h0; simp [Lib.join]
  · have e := congrArg List.length (tellL_join ss h0)
    have h1 := tellL_le h ss.length (Nat.le_refl _)
    rw [List.take_length] at h1
    have := pathB_len h
    simp only [List.length_append, List.length_cons, List.length_nil] at e
    omega
end Go.Proofs.YtepdfppbnepamabGreat.M
namespace Go.Proofs.YtepdfppbnepamabGreat.M

/-- A text, cut at every slash. -/
def cuts : List UInt8 → List (List UInt8)
  | [] => [[]]
  | c :: r => if c = 47 then [] :: cuts r else (match cuts r with | [] => [[c]] | x :: q => (c :: x) :: q)

theorem cuts_ne (l : List UInt8) : cuts l ≠ [] := by
  cases l with
  | nil => simp [cuts]
  | cons c r =>
    unfold cuts
    split
    · simp
    · split <;> simp

theorem cuts_none (a : List UInt8) (h : 47 ∉ a) : cuts a = [a] := by
  induction a with
  | nil => rfl
  | cons c r ih =>
    have h1 : ¬ c = 47 := fun e => h (by simp [e])
    have h2 : 47 ∉ r := fun e => h (List.mem_cons_of_mem _ e)
    unfold cuts
    rw [if_neg h1, ih h2]

theorem cuts_app (a r : List UInt8) (h : 47 ∉ a) : cuts (a ++ 47 :: r) = a :: cuts r := by
  induction a with
  | nil => simp [cuts]
  | cons c q ih =>
    have h1 : ¬ c = 47 := fun e => h (by simp [e])
    have h2 : 47 ∉ q := fun e => h (List.mem_cons_of_mem _ e)
    rw [List.cons_append, cuts, if_neg h1, ih h2]

theorem indexByte_cases (l : List UInt8) (c : UInt8) : (Lib.indexByte l c = -1 ∧ c ∉ l) ∨ ∃ a r, l = a ++ c :: r ∧ c ∉ a ∧ Lib.indexByte l c = a.length := by
  induction l with
  | nil => left; exact ⟨rfl, by simp⟩
  | cons b l ih =>
    by_cases hb : b = c
    · right
      refine ⟨[], l, by simp [hb], by simp, ?_⟩
      unfold Lib.indexByte; simp [hb]
    · rcases ih with ⟨h1, h2⟩ | ⟨a, r, rfl, h2, h3⟩
      · left
        refine ⟨?_, by simp [h2, Ne.symm hb]⟩
        unfold Lib.indexByte; simp [hb, h1]
      · right
        refine ⟨b :: a, r, rfl, by simp [h2, Ne.symm hb], ?_⟩
        unfold Lib.indexByte
        rw [h3]
        have : ¬ ((a.length : Int) = -1) := by omega
        simp [hb, this]

theorem splitK_cuts : ∀ (n : Nat) (l : List UInt8), l.length ≤ n → Lib.splitK [47] 0 (l.count 47) l = cuts l := by
  intro n
  induction n with
  | zero =>
    intro l hl
    have : l = [] := List.length_eq_zero_iff.1 (by omega)
    subst this; rfl
  | succ n ih =>
    intro l hl
    rcases indexByte_cases l 47 with ⟨_, h2⟩ | ⟨a, r, rfl, h2, h3⟩
    · rw [List.count_eq_zero.2 h2, cuts_none l h2]; rfl
    · have hc : (a ++ 47 :: r).count 47 = r.count 47 + 1 := by
        rw [List.count_append, List.count_eq_zero.2 h2, List.count_cons]; simp
      have hi : Lib.index (a ++ 47 :: r) [47] = (a.length : Int) := by rw [Lib.index_one, h3]
      have hne : ¬ ((a.length : Int) == -1) = true := fun e => by have := beq_iff_eq.1 e; omega
      rw [hc, cuts_app a r h2, Lib.splitK, hi, if_neg hne]
      have e1 : (a ++ 47 :: r).take ((a.length : Int).toNat + 0) = a := by simp
      have e2 : (a ++ 47 :: r).drop ((a.length : Int).toNat + [(47 : UInt8)].length) = r := by
        have : ((a.length : Int).toNat + [(47 : UInt8)].length) = a.length + 1 := by simp
        rw [this, ← List.drop_drop, List.drop_left]; rfl
      rw [e1, e2, ih r (by simp at hl; omega)]

/-- The pieces of a text, as texts. -/
def piecesL (l : List UInt8) : List ByteArray := (cuts l).map bytesOf

theorem split_pieces (s : ByteArray) : Lib.splitB ⟨#[47]⟩ 0 (s.data.toList.count 47) s = piecesL s.data.toList := by
  have h := Lib.splitB_data ⟨#[47]⟩ 0 (s.data.toList.count 47) s
  have h' : (Lib.splitB ⟨#[47]⟩ 0 (s.data.toList.count 47) s).map (·.data.toList) = cuts s.data.toList := h.trans (splitK_cuts _ _ (Nat.le_refl _))
  unfold piecesL
  rw [← h', List.map_map]
  have e : (bytesOf ∘ fun x : ByteArray => x.data.toList) = id := by funext x; simp [bytesOf]
  rw [e, List.map_id]

theorem cuts_length (l : List UInt8) : (cuts l).length = l.count 47 + 1 := by
  induction l with
  | nil => rfl
  | cons c r ih =>
    unfold cuts
    by_cases h : c = 47
    · simp [h, ih]
    · rw [if_neg h]
      have h1 : (c :: r).count 47 = r.count 47 := by rw [List.count_cons]; simp [h]
      rw [h1, ← ih]
      have := cuts_ne r
      cases hc : cuts r with
      | nil => exact absurd hc this
      | cons x q => rfl

theorem cuts_le (l : List UInt8) : ∀ x ∈ cuts l, x.length ≤ l.length := by
  induction l with
  | nil => intro x hx; simp [cuts] at hx; simp [hx]
  | cons c r ih =>
    intro x hx
    unfold cuts at hx
    by_cases h : c = 47
    · rw [if_pos h] at hx
      rcases List.mem_cons.1 hx with rfl | hx
      · simp
      · have := ih x hx; simp; omega
    · rw [if_neg h] at hx
      cases hc : cuts r with
      | nil => exact absurd hc (cuts_ne r)
      | cons y q =>
        rw [hc] at hx
        rcases List.mem_cons.1 hx with rfl | hx
        · have := ih y (by rw [hc]; simp); simp; omega
        · have := ih x (by rw [hc]; exact List.mem_cons_of_mem _ hx); simp; omega

theorem piecesL_short (l : List UInt8) (s : ByteArray) (h : s ∈ piecesL l) : s.size ≤ l.length := by
  unfold piecesL at h
  obtain ⟨x, hx, rfl⟩ := List.mem_map.1 h
  rw [bytesOf_size]; exact cuts_le l x hx
theorem piecesL_length (l : List UInt8) : (piecesL l).length = l.count 47 + 1 := by
  unfold piecesL; rw [List.length_map, cuts_length]

/-! What is walked of the pieces. -/

theorem unq_le : ∀ (n : Nat) (l x : List UInt8), l.length ≤ n → unq l = some x → x.length ≤ l.length := by
  intro n
  induction n with
  | zero =>
    intro l x hl h
    have : l = [] := List.length_eq_zero_iff.1 (by omega)
    subst this
    simp [unq] at h; simp [h]
  | succ n ih =>
    intro l x hl h
    cases l with
    | nil => simp [unq] at h; simp [h]
    | cons c r =>
      by_cases hc : c = 37
      · match r, hl, h with
        | [], _, h => rw [unq_short _ hc (by simp)] at h; cases h
        | [_], _, h => rw [unq_short _ hc (by simp)] at h; cases h
        | a :: b :: q, hl, h =>
          cases hh : (isHex a && isHex b)
          · rw [unq_bad _ hc hh] at h; cases h
          · rw [Bool.and_eq_true] at hh
            rw [unq_hex _ hc hh.1 hh.2] at h
            obtain ⟨y, hy, rfl⟩ := Option.map_eq_some_iff.1 h
            have := ih q y (by simp at hl; omega) hy
            simp; omega
      · rw [unq_plain _ hc] at h
        obtain ⟨y, hy, rfl⟩ := Option.map_eq_some_iff.1 h
        have := ih r y (by simp at hl; omega) hy
        simp; omega

theorem unqR_le (l : List UInt8) : (unqR l).1.length ≤ l.length := by
  unfold unqR
  cases h : unq l with
  | none => simp
  | some x => exact unq_le _ l x (Nat.le_refl _) h

theorem unqR_nil : unqR [] = ([], true) := rfl

theorem unqR_empty {l : List UInt8} (h : (unqR l).2 = true) (h1 : (unqR l).1 = []) : l = [] := by
  cases l with
  | nil => rfl
  | cons c r =>
    exfalso
    unfold unqR at h h1
    by_cases hc : c = 37
    · match r, h, h1 with
      | [], h, _ => rw [unq_short _ hc (by simp)] at h; cases h
      | [_], h, _ => rw [unq_short _ hc (by simp)] at h; cases h
      | a :: b :: q, h, h1 =>
        cases hh : (isHex a && isHex b)
        · rw [unq_bad _ hc hh] at h; cases h
        · rw [Bool.and_eq_true] at hh
          rw [unq_hex _ hc hh.1 hh.2] at h h1
          cases hq : unq q with
          | none => rw [hq] at h; cases h
          | some y => rw [hq] at h1; simp at h1
    · rw [unq_plain _ hc] at h h1
      cases hq : unq r with
      | none => rw [hq] at h; cases h
      | some y => rw [hq] at h1; simp at h1

/-- One piece more: taken up, passed by, or one taken away; none where it cannot be. -/
def stepP (out : List ByteArray) (p : ByteArray) : Option (List ByteArray) :=
  if (unqR p.data.toList).2 = false ∨ (unqR p.data.toList).1 = [] then none
  else if (unqR p.data.toList).1 = [46] then some out
  else if (unqR p.data.toList).1 = [46, 46] then (if out = [] then none else some out.dropLast)
  else some (out ++ [bytesOf (unqR p.data.toList).1])
def foldP : List ByteArray → List ByteArray → Option (List ByteArray)
  | out, [] => some out
  | out, p :: r => (stepP out p).bind fun o => foldP o r

theorem foldP_at {ps : List ByteArray} (k : Nat) (h : k < ps.length) (out : List ByteArray) : foldP out (ps.drop k) = (stepP out ps[k]).bind fun o => foldP o (ps.drop (k + 1)) := by
  rw [List.drop_eq_getElem_cons h]; rfl

/-- The last piece goes where it is empty. -/
def strip (ps : List ByteArray) : List ByteArray := if ps.getLast? = some (bytesOf []) then ps.dropLast else ps

/-- What ParsePath tells, as the document has it. -/
def parseP (l : List UInt8) : List ByteArray × Bool :=
  if l.head? = some 47 then
    (match foldP [] (strip (piecesL (l.drop 1))) with
     | some ns => if pathB ns then (ns, true) else ([], false)
     | none => ([], false))
  else ([], false)

theorem parseP_head {l : List UInt8} (h : ¬ l.head? = some 47) : parseP l = ([], false) := by unfold parseP; rw [if_neg h]
theorem parseP_none {l : List UInt8} (h : l.head? = some 47) (hf : foldP [] (strip (piecesL (l.drop 1))) = none) : parseP l = ([], false) := by unfold parseP; rw [if_pos h, hf]
theorem parseP_not {l : List UInt8} {ns : List ByteArray} (h : l.head? = some 47) (hf : foldP [] (strip (piecesL (l.drop 1))) = some ns) (hp : pathB ns = false) : parseP l = ([], false) := by unfold parseP; rw [if_pos h, hf]; simp [hp]
theorem parseP_yes {l : List UInt8} {ns : List ByteArray} (h : l.head? = some 47) (hf : foldP [] (strip (piecesL (l.drop 1))) = some ns) (hp : pathB ns = true) : parseP l = (ns, true) := by unfold parseP; rw [if_pos h, hf]; simp [hp]

theorem stepP_none {out : List ByteArray} {p : ByteArray} (h : (unqR p.data.toList).2 = false ∨ (unqR p.data.toList).1 = []) : stepP out p = none := by unfold stepP; rw [if_pos h]
theorem stepP_dot {out : List ByteArray} {p : ByteArray} (h : (unqR p.data.toList).2 = true) (h1 : (unqR p.data.toList).1 = [46]) : stepP out p = some out := by unfold stepP; rw [if_neg (by simp [h, h1]), if_pos h1]
theorem stepP_up0 {p : ByteArray} (h : (unqR p.data.toList).2 = true) (h1 : (unqR p.data.toList).1 = [46, 46]) : stepP [] p = none := by unfold stepP; rw [if_neg (by simp [h, h1]), if_neg (by simp [h1]), if_pos h1, if_pos rfl]
theorem stepP_up {out : List ByteArray} {p : ByteArray} (h : (unqR p.data.toList).2 = true) (h1 : (unqR p.data.toList).1 = [46, 46]) (ho : out ≠ []) : stepP out p = some out.dropLast := by unfold stepP; rw [if_neg (by simp [h, h1]), if_neg (by simp [h1]), if_pos h1, if_neg ho]
theorem stepP_push {out : List ByteArray} {p : ByteArray} (h : (unqR p.data.toList).2 = true) (h0 : ¬ (unqR p.data.toList).1 = []) (h1 : ¬ (unqR p.data.toList).1 = [46]) (h2 : ¬ (unqR p.data.toList).1 = [46, 46]) : stepP out p = some (out ++ [bytesOf (unqR p.data.toList).1]) := by unfold stepP; rw [if_neg (by simp [h, h0]), if_neg h1, if_neg h2]
end Go.Proofs.YtepdfppbnepamabGreat.M
namespace Go.Proofs.YtepdfppbnepamabGreat.M

theorem digL_not47 : ∀ n : Fin 16, ¬ digL n.val = 47 := by decide

theorem quote_no47 (l : List UInt8) : 47 ∉ quoteL l := by
  induction l with
  | nil => simp [quoteL]
  | cons c r ih =>
    have e : quoteL (c :: r) = quoteB c ++ quoteL r := by simp [quoteL]
    rw [e, List.mem_append]
    rintro (h | h)
    · cases hf : freeB (c.toNat : Int)
      · rw [quoteB_no hf] at h
        have hc := c.toNat_lt
        have h1 := digL_not47 ⟨c.toNat / 16, by omega⟩
        have h2 := digL_not47 ⟨c.toNat % 16, by omega⟩
        simp only at h1 h2
        simp only [List.mem_cons, List.not_mem_nil, or_false] at h
        rcases h with h | h | h
        · exact absurd h (by decide)
        · exact h1 h.symm
        · exact h2 h.symm
      · rw [quoteB_yes hf] at h
        simp only [List.mem_cons, List.not_mem_nil, or_false] at h
        rw [← h] at hf
        exact absurd hf (by decide)
    · exact ih h

theorem tellL_cons (s : ByteArray) (r : List ByteArray) : tellL (s :: r) = 47 :: (quoteL s.data.toList ++ tellL r) := by
  simp [tellL]

theorem cuts_tell (r : List ByteArray) : ∀ s : ByteArray, cuts (quoteL s.data.toList ++ tellL r) = quoteL s.data.toList :: r.map fun t => quoteL t.data.toList := by
  induction r with
  | nil => intro s; simp only [tellL, List.flatMap_nil, List.append_nil, List.map_nil]; exact cuts_none _ (quote_no47 _)
  | cons t r ih =>
    intro s
    rw [tellL_cons, cuts_app _ _ (quote_no47 _), ih t, List.map_cons]

theorem pieces_tell (s : ByteArray) (r : List ByteArray) : piecesL (quoteL s.data.toList ++ tellL r) = (s :: r).map qB := by
  unfold piecesL
  rw [cuts_tell, List.map_cons, List.map_map]
  rfl

theorem quote_ne {l : List UInt8} (h : l ≠ []) : quoteL l ≠ [] := by
  intro e
  have := unq_quote l
  rw [e] at this
  simp [unq] at this
  exact h this

theorem nameB_ne {s : ByteArray} (h : nameB s = true) : s.data.toList ≠ [] ∧ ¬ s.data.toList = [46] ∧ ¬ s.data.toList = [46, 46] := by
  unfold nameB at h
  simp only [Bool.and_eq_true, inB, decide_eq_true_eq, Bool.not_eq_true', beq_eq_false_iff_ne, ByteArray.toList_eq] at h
  obtain ⟨_, ⟨h1, _⟩, _, h2, h3⟩ := h
  refine ⟨fun e => ?_, h2, h3⟩
  have e2 : s.data.toList.length = s.size := Array.length_toList
  rw [e] at e2
  simp at e2
  omega

theorem bytesOf_back (s : ByteArray) : bytesOf s.data.toList = s := by
  apply ByteArray.ext
  simp [bytesOf]

theorem step_q {s : ByteArray} (h : nameB s = true) (out : List ByteArray) : stepP out (qB s) = some (out ++ [s]) := by
  have e : unqR (qB s).data.toList = (s.data.toList, true) := unqR_quote _
  obtain ⟨h0, h1, h2⟩ := nameB_ne h
  rw [stepP_push (by rw [e]) (by rw [e]; exact h0) (by rw [e]; exact h1) (by rw [e]; exact h2), e, bytesOf_back]

theorem fold_q (ss : List ByteArray) : ∀ out : List ByteArray, (∀ s ∈ ss, nameB s = true) → foldP out (ss.map qB) = some (out ++ ss) := by
  induction ss with
  | nil => intro out _; simp [foldP]
  | cons s r ih =>
    intro out h
    rw [List.map_cons, foldP, step_q (h s (by simp)), Option.bind_some, ih _ (fun t ht => h t (List.mem_cons_of_mem _ ht)), List.append_assoc]
    rfl

theorem strip_q {ss : List ByteArray} (h : ∀ s ∈ ss, nameB s = true) : strip (ss.map qB) = ss.map qB := by
  unfold strip
  rw [if_neg]
  intro e
  have hm : bytesOf [] ∈ ss.map qB := List.mem_of_getLast? e
  obtain ⟨s, hs, he⟩ := List.mem_map.1 hm
  have h1 := congrArg (fun x : ByteArray => x.data.toList) he
  exact quote_ne (nameB_ne (h s hs)).1 h1

theorem pathB_all {ss : List ByteArray} (h : pathB ss = true) : ∀ s ∈ ss, nameB s = true := by
  unfold pathB at h
  simp only [Bool.and_eq_true, List.all_eq_true] at h
  exact h.1

/-- A path comes back of its text. -/
theorem parseP_text {ss : List ByteArray} (h : pathB ss = true) : parseP (ptextL ss) = (ss, true) := by
  cases ss with
  | nil => rw [ptextL_nil]; decide
  | cons s r =>
    rw [ptextL_some h (by simp), tellL_cons]
    have ha := pathB_all h
    refine parseP_yes rfl ?_ h
    show foldP [] (strip (piecesL (quoteL s.data.toList ++ tellL r))) = some (s :: r)
    rw [pieces_tell, strip_q ha, fold_q _ _ ha]
    rfl

/-- What is read is a path. -/
theorem parseP_path {l : List UInt8} (h : (parseP l).2 = true) : pathB (parseP l).1 = true := by
  unfold parseP at h ⊢
  split
  · rename_i hh
    rw [if_pos hh] at h
    split
    · rename_i ns hns
      rw [hns] at h
      by_cases hp : pathB ns = true
      · simp [hp]
      · simp [hp] at h
    · rename_i hns
      rw [hns] at h
      exact absurd h (by decide)
  · rename_i hh
    rw [if_neg hh] at h
    exact absurd h (by decide)

theorem ptextL_len {ss : List ByteArray} : (ptextL ss).length ≤ 100 := by
  cases hp : pathB ss
  · rw [ptextL_not hp]; simp
  · by_cases h0 : ss = []
    · subst h0; rw [ptextL_nil]; simp
    · rw [ptextL_some hp h0]
      have h1 := tellL_le hp ss.length (Nat.le_refl _)
      rw [List.take_length] at h1
      have := pathB_len hp
      omega
end Go.Proofs.YtepdfppbnepamabGreat.M
namespace Go.Proofs.YtepdfppbnepamabGreat
open M

def resB (r : Rs) : Bool := decide (0 < r.pa.length) && (pathB r.pa && (decide (r.bo.size ≤ 200) && ((!r.co || decide (r.bo.size = 0)) && (inB r.ve 0 99999 && propsB r.ps))))
def lessR (a b : Rs) : Bool := lessL a.pa b.pa
def onB (rs : List Rs) (r : Rs) : Bool := collB rs (aboveL r.pa)
def treeB (rs : List Rs) : Bool := decide (rs.length ≤ 12) && (rs.all resB && (ascB lessR rs && rs.all (onB rs)))

theorem treeB_long {rs : List Rs} (h : ¬ rs.length ≤ 12) : treeB rs = false := by unfold treeB; rw [decide_eq_false h]; rfl
theorem treeB_bad {rs : List Rs} (k : Nat) (h : k < rs.length) (e : resB rs[k] = false) : treeB rs = false := by
  unfold treeB
  have : rs.all resB = false := by
    rw [List.all_eq_false]
    exact ⟨_, List.getElem_mem h, by simp [e]⟩
  rw [this]; simp
theorem treeB_desc {rs : List Rs} (k : Nat) (h : k + 1 < rs.length) (e : lessR rs[k] rs[k + 1] = false) : treeB rs = false := by
  unfold treeB
  rw [ascB_not lessR rs k h e]; simp
theorem treeB_off {rs : List Rs} (k : Nat) (h : k < rs.length) (e : onB rs rs[k] = false) : treeB rs = false := by
  unfold treeB
  have : rs.all (onB rs) = false := by
    rw [List.all_eq_false]
    exact ⟨_, List.getElem_mem h, by simp [e]⟩
  rw [this]; simp
theorem all_of {rs : List Rs} {q : Rs → Bool} (h : ∀ j (hj : j < rs.length), q rs[j] = true) : rs.all q = true := by
  rw [List.all_eq_true]
  intro p hp
  obtain ⟨j, hj, rfl⟩ := List.mem_iff_getElem.1 hp
  exact h j hj
theorem treeB_of {rs : List Rs} (h : ∀ j (hj : j < rs.length), resB rs[j] = true) : treeB rs = (decide (rs.length ≤ 12) && (ascB lessR rs && rs.all (onB rs))) := by
  unfold treeB
  rw [all_of h]; simp

/-! ### The order is a whole one -/
theorem bytesLess_trans : ∀ a b c : List UInt8, Op.bytesLess a b = true → Op.bytesLess b c = true → Op.bytesLess a c = true
  | [], [], _, h, _ => by simp [Op.bytesLess] at h
  | [], _ :: _, [], _, h => by simp [Op.bytesLess] at h
  | [], _ :: _, _ :: _, _, _ => by simp [Op.bytesLess]
  | _ :: _, [], _, h, _ => by simp [Op.bytesLess] at h
  | _ :: _, _ :: _, [], _, h => by simp [Op.bytesLess] at h
  | x :: a, y :: b, z :: c, h, h' => by
    have ih := bytesLess_trans a b c
    simp only [Op.bytesLess, Bool.or_eq_true, Bool.and_eq_true, decide_eq_true_eq, beq_iff_eq] at *
    rcases h with h | ⟨rfl, h⟩
    · rcases h' with h' | ⟨rfl, h'⟩
      · left
        have h1 : x.toNat < y.toNat := h
        have h2 : y.toNat < z.toNat := h'
        exact (show x.toNat < z.toNat by omega)
      · exact .inl h
    · rcases h' with h' | ⟨rfl, h'⟩
      · exact .inl h'
      · exact .inr ⟨rfl, ih h h'⟩
theorem lessL_trans : ∀ a b c : List ByteArray, lessL a b = true → lessL b c = true → lessL a c = true
  | [], [], _, h, _ => by simp [lessL] at h
  | [], _ :: _, [], _, h => by simp [lessL] at h
  | [], _ :: _, _ :: _, _, _ => by simp [lessL]
  | _ :: _, [], _, h, _ => by simp [lessL] at h
  | _ :: _, _ :: _, [], _, h => by simp [lessL] at h
  | x :: a, y :: b, z :: c, h, h' => by
    have ih := lessL_trans a b c
    rw [lessL] at *
    by_cases e1 : x = y
    · subst e1
      rw [if_pos rfl] at h
      by_cases e2 : x = z
      · subst e2
        rw [if_pos rfl] at *
        exact ih h h'
      · rw [if_neg e2] at *
        exact h'
    · rw [if_neg e1] at h
      by_cases e2 : y = z
      · subst e2
        rw [if_neg e1]
        exact h
      · rw [if_neg e2] at h'
        have ht := bytesLess_trans _ _ _ h h'
        have hne : ¬ x = z := fun e => by
          subst e
          have := bytesLess_asym _ _ h
          have h2 : Op.bytesLess y.toList x.toList = true := h'
          rw [this] at h2
          cases h2
        rw [if_neg hne]
        exact ht
theorem asc_pair {rs : List Rs} (h : ascB lessR rs = true) : ∀ (d i : Nat) (hj : i + d + 1 < rs.length), lessL (rs[i]'(by omega)).pa (rs[i + d + 1]).pa = true := by
  have step : ∀ (i : Nat) (hi : i + 1 < rs.length), lessL (rs[i]'(by omega)).pa (rs[i + 1]).pa = true := fun i hi => by
    cases e : lessR rs[i] rs[i + 1]
    · rw [ascB_not lessR rs i hi e] at h; cases h
    · exact e
  intro d
  induction d with
  | zero => intro i hj; exact step i hj
  | succ d ih =>
    intro i hj
    exact lessL_trans _ _ _ (ih i (by omega)) (step (i + d + 1) (by omega))
theorem asc_apart {rs : List Rs} (h : ascB lessR rs = true) (i j : Nat) (hi : i < rs.length) (hj : j < rs.length) (e : rs[i].pa = rs[j].pa) : i = j := by
  have key : ∀ i j (hij : i < j) (hj : j < rs.length), (rs[i]'(by omega)).pa ≠ rs[j].pa := fun i j hij hj e => by
    obtain ⟨d, rfl⟩ : ∃ d, j = i + d + 1 := ⟨j - i - 1, by omega⟩
    have h1 := asc_pair h d i hj
    rw [← e, lessL_irr] at h1
    cases h1
  rcases Nat.lt_trichotomy i j with h1 | h1 | h1
  · exact absurd e (key i j h1 hj)
  · exact h1
  · exact absurd e.symm (key j i h1 hi)

/-! ### Texts of paths -/
def pt (p : List ByteArray) : ByteArray := bytesOf (ptextL p)
theorem pt_inj {p q : List ByteArray} (hp : pathB p = true) (hq : pathB q = true) (h : pt p = pt q) : p = q := by
  have e : ptextL p = ptextL q := by
    have := congrArg (fun x : ByteArray => x.data.toList) h
    simpa [pt, bytesOf] using this
  have h1 := parseP_text hp
  have h2 := parseP_text hq
  rw [e, h2] at h1
  exact (Prod.mk.inj h1).1.symm
theorem pathB_above {p : List ByteArray} (h : pathB p = true) : pathB (aboveL p) = true := by
  unfold pathB at *
  rw [Bool.and_eq_true, decide_eq_true_eq, List.all_eq_true] at *
  exact ⟨fun s hs => h.1 s (List.mem_of_mem_take hs), by rw [aboveL_len]; omega⟩
theorem pathB_nil : pathB [] = true := by decide
theorem resB_path {r : Rs} (h : resB r = true) : pathB r.pa = true := by
  unfold resB at h
  simp only [Bool.and_eq_true] at h
  exact h.2.1

/-- What is left of the paths that something is on. -/
def LeftP (rs : List Rs) (s : ByteArray) : Prop := ((∃ r ∈ rs, s = pt (aboveL r.pa)) ∧ s ≠ pt []) ∧ ∀ r ∈ rs, r.co = true → s ≠ pt r.pa
theorem left_none {rs : List Rs} (hr : ∀ r ∈ rs, resB r = true) (ha : ascB lessR rs = true) : (∀ s, ¬ LeftP rs s) ↔ rs.all (onB rs) = true := by
  rw [List.all_eq_true]
  constructor
  · intro h r hm
    have hn := h (pt (aboveL r.pa))
    unfold onB
    by_cases e0 : (aboveL r.pa).length = 0
    · exact collB_root e0
    · have hp := pathB_above (resB_path (hr r hm))
      have hex : ∃ r' ∈ rs, r'.co = true ∧ r'.pa = aboveL r.pa := by
        by_cases hh : ∃ r' ∈ rs, r'.co = true ∧ pt (aboveL r.pa) = pt r'.pa
        · obtain ⟨r', hm', hc, he⟩ := hh
          exact ⟨r', hm', hc, (pt_inj hp (resB_path (hr r' hm')) he).symm⟩
        · exfalso
          refine hn ⟨⟨⟨r, hm, rfl⟩, fun e => e0 ?_⟩, fun r' hm' hc he => hh ⟨r', hm', hc, he⟩⟩
          rw [pt_inj hp pathB_nil e]; rfl
      obtain ⟨r', hm', hc, he⟩ := hex
      obtain ⟨j, hj, rfl⟩ := List.mem_iff_getElem.1 hm'
      rcases findI_cases rs (aboveL r.pa) with e | ⟨k, hk, e, hs⟩
      · exfalso
        have := collB_none e e0
        unfold findI at e
        by_cases hlt : rs.findIdx (isAt (aboveL r.pa)) < rs.length
        · rw [if_pos hlt] at e; omega
        · exact hlt (List.findIdx_lt_length_of_exists ⟨_, hm', by unfold isAt; rw [he]; exact sameL_refl _⟩)
      · rw [collB_at k hk e e0]
        have hk' : rs[k].pa = aboveL r.pa := by unfold sameL at hs; exact of_decide_eq_true hs
        have := asc_apart ha k j hk hj (hk'.trans he.symm)
        subst this
        exact hc
  · rintro h s ⟨⟨⟨r, hm, rfl⟩, h0⟩, h1⟩
    have hc := h r hm
    unfold onB at hc
    by_cases e0 : (aboveL r.pa).length = 0
    · rw [List.length_eq_zero_iff.1 e0] at h0; exact h0 rfl
    · rcases findI_cases rs (aboveL r.pa) with e | ⟨k, hk, e, hs⟩
      · rw [collB_none e e0] at hc; cases hc
      · rw [collB_at k hk e e0] at hc
        have hk' : rs[k].pa = aboveL r.pa := by unfold sameL at hs; exact of_decide_eq_true hs
        exact h1 _ (List.getElem_mem hk) hc (by rw [hk'])
end Go.Proofs.YtepdfppbnepamabGreat
namespace Go.Proofs.YtepdfppbnepamabGreat
open M

/-- Put in its place, in the place of one of its path; d: whether it is put already. -/
def putR (r : Rs) : Bool → List Rs → List Rs
  | true, [] => []
  | false, [] => [r]
  | d, x :: l => (if d || lessL x.pa r.pa then [] else [r]) ++ ((if sameL x.pa r.pa then [] else [x]) ++ putR r (d || !lessL x.pa r.pa) l)

theorem putR_nil (r : Rs) (d : Bool) : putR r d [] = if d then [] else [r] := by cases d <;> rfl
theorem putR_cons (r : Rs) (d : Bool) (x : Rs) (l : List Rs) : putR r d (x :: l) = (if d || lessL x.pa r.pa then [] else [r]) ++ ((if sameL x.pa r.pa then [] else [x]) ++ putR r (d || !lessL x.pa r.pa) l) := by
  cases d <;> rfl
/-- All but what has its path. -/
def notAt (r : Rs) (l : List Rs) : List Rs := l.filter fun x => !sameL x.pa r.pa
theorem notAt_mem {r : Rs} {l : List Rs} {y : Rs} : y ∈ notAt r l ↔ y ∈ l ∧ y.pa ≠ r.pa := by
  unfold notAt sameL
  rw [List.mem_filter]
  simp
theorem putR_true (r : Rs) : ∀ l : List Rs, putR r true l = notAt r l
  | [] => rfl
  | x :: l => by
    rw [putR_cons, Bool.true_or, Bool.true_or, putR_true r l]
    unfold notAt
    rw [List.filter_cons]
    cases sameL x.pa r.pa <;> simp
theorem putR_less {r x : Rs} {l : List Rs} (h : lessL x.pa r.pa = true) : putR r false (x :: l) = x :: putR r false l := by
  have hs : sameL x.pa r.pa = false := by
    unfold sameL
    rw [decide_eq_false_iff_not]
    intro e
    rw [e, lessL_irr] at h
    cases h
  rw [putR_cons, h, hs]
  simp
theorem putR_here {r x : Rs} {l : List Rs} (h : lessL x.pa r.pa = false) : putR r false (x :: l) = r :: notAt r (x :: l) := by
  rw [putR_cons, h]
  have e : (false || !false) = true := rfl
  rw [e, putR_true]
  unfold notAt
  rw [List.filter_cons]
  cases sameL x.pa r.pa <;> simp
theorem putR_mem {r : Rs} : ∀ {l : List Rs} {y : Rs}, y ∈ putR r false l ↔ y = r ∨ (y ∈ l ∧ y.pa ≠ r.pa)
  | [], y => by simp [putR]
  | x :: l, y => by
    cases h : lessL x.pa r.pa
    · rw [putR_here h, List.mem_cons, notAt_mem]
    · rw [putR_less h, List.mem_cons, putR_mem (l := l)]
      have hs : x.pa ≠ r.pa := fun e => by rw [e, lessL_irr] at h; cases h
      constructor
      · rintro (rfl | h1 | h1)
        · exact .inr ⟨List.mem_cons_self .., hs⟩
        · exact .inl h1
        · exact .inr ⟨List.mem_cons_of_mem _ h1.1, h1.2⟩
      · rintro (h1 | ⟨h1, h2⟩)
        · exact .inr (.inl h1)
        · rcases List.mem_cons.1 h1 with rfl | h1
          · exact .inl rfl
          · exact .inr (.inr ⟨h1, h2⟩)

theorem lessL_tri : ∀ a b : List ByteArray, lessL a b = false → lessL b a = false → a = b
  | [], [], _, _ => rfl
  | [], _ :: _, h, _ => by simp [lessL] at h
  | _ :: _, [], _, h => by simp [lessL] at h
  | x :: a, y :: b, h, h' => by
    rw [lessL] at h h'
    by_cases e : x = y
    · subst e
      rw [if_pos rfl] at h h'
      rw [lessL_tri a b h h']
    · rw [if_neg e] at h
      rw [if_neg (fun e' => e e'.symm)] at h'
      exact absurd (str_inj (bytesLess_tri _ _ h h')) e

/-- Ascending, one against all behind it. -/
def Asc (l : List Rs) : Prop := l.Pairwise fun a b => lessL a.pa b.pa = true
theorem asc_of {l : List Rs} (h : ascB lessR l = true) : Asc l := by
  unfold Asc
  rw [List.pairwise_iff_getElem]
  intro i j hi hj hij
  obtain ⟨d, rfl⟩ : ∃ d, j = i + d + 1 := ⟨j - i - 1, by omega⟩
  exact asc_pair h d i hj
theorem asc_to {l : List Rs} (h : Asc l) : ascB lessR l = true := by
  refine ascB_all lessR l fun i hi => ?_
  unfold Asc at h
  rw [List.pairwise_iff_getElem] at h
  exact h i (i + 1) (by omega) hi (Nat.lt_succ_self _)
theorem Asc.put {r : Rs} : ∀ {l : List Rs}, Asc l → Asc (putR r false l)
  | [], _ => by simp [putR, Asc]
  | x :: l, h => by
    have h1 : Asc l := (List.pairwise_cons.1 h).2
    have h2 := (List.pairwise_cons.1 h).1
    cases e : lessL x.pa r.pa
    · rw [putR_here e]
      refine List.pairwise_cons.2 ⟨fun y hy => ?_, List.Pairwise.filter _ h⟩
      obtain ⟨hm, hne⟩ := notAt_mem.1 hy
      have hx : x.pa = r.pa ∨ lessL r.pa x.pa = true := by
        cases e2 : lessL r.pa x.pa
        · exact .inl (lessL_tri _ _ e e2)
        · exact .inr rfl
      rcases List.mem_cons.1 hm with rfl | hm
      · rcases hx with hx | hx
        · exact absurd hx hne
        · exact hx
      · have := h2 y hm
        rcases hx with hx | hx
        · rw [← hx]; exact this
        · exact lessL_trans _ _ _ hx this
    · rw [putR_less e]
      refine List.pairwise_cons.2 ⟨fun y hy => ?_, Asc.put h1⟩
      rcases putR_mem.1 hy with rfl | ⟨hm, _⟩
      · exact e
      · exact h2 y hm
theorem Asc.find {l : List Rs} (h : Asc l) {r : Rs} (hm : r ∈ l) {p : List ByteArray} (hp : r.pa = p) : l.find? (isAt p) = some r := by
  induction l with
  | nil => cases hm
  | cons x l ih =>
    rcases List.mem_cons.1 hm with rfl | hm'
    · rw [List.find?_cons_of_pos (by unfold isAt; rw [hp]; exact sameL_refl _)]
    · have h2 := (List.pairwise_cons.1 h).1 r hm'
      have hne : isAt p x = false := by
        unfold isAt sameL
        rw [decide_eq_false_iff_not]
        intro e
        rw [e, hp, lessL_irr] at h2
        cases h2
      rw [List.find?_cons_of_neg (by simp [hne])]
      exact ih (List.pairwise_cons.1 h).2 hm'
/-- Of a list that ascends: a shelf that is there, or the root. -/
theorem coll_iff {l : List Rs} (h : Asc l) (p : List ByteArray) : collB l p = true ↔ p.length = 0 ∨ ∃ r ∈ l, r.pa = p ∧ r.co = true := by
  unfold collB
  rw [Bool.or_eq_true, decide_eq_true_eq]
  constructor
  · rintro (h1 | h1)
    · exact .inl h1
    · cases e : l.find? (isAt p) with
      | none => rw [e] at h1; cases h1
      | some r =>
        rw [e] at h1
        refine .inr ⟨r, List.mem_of_find?_eq_some e, ?_, h1⟩
        have := List.find?_some e
        unfold isAt sameL at this
        exact of_decide_eq_true this
  · rintro (h1 | ⟨r, hm, hp, hc⟩)
    · exact .inl h1
    · right
      rw [h.find hm hp]
      exact hc
/-- What is put among right things, on a shelf that is there, in no shelf's place: they stay right. -/
theorem tree_put {l : List Rs} {r : Rs} (h : treeB l = true) (hr : resB r = true) (hon : collB l (aboveL r.pa) = true) (hno : ∀ x ∈ l, x.pa = r.pa → x.co = false) (hlen : (putR r false l).length ≤ 12) : treeB (putR r false l) = true := by
  unfold treeB at h
  simp only [Bool.and_eq_true, decide_eq_true_eq, List.all_eq_true] at h
  obtain ⟨_, h2, h3, h4⟩ := h
  have ha := asc_of h3
  have hp := ha.put (r := r)
  unfold treeB
  simp only [Bool.and_eq_true, decide_eq_true_eq, List.all_eq_true]
  have keep : ∀ p, collB l p = true → collB (putR r false l) p = true := fun p hc => by
    rw [coll_iff ha] at hc
    rw [coll_iff hp]
    rcases hc with hc | ⟨s, hm, he, hs⟩
    · exact .inl hc
    · refine .inr ⟨s, putR_mem.2 (.inr ⟨hm, fun e => ?_⟩), he, hs⟩
      rw [hno s hm e] at hs
      cases hs
  refine ⟨hlen, fun y hy => ?_, asc_to hp, fun y hy => ?_⟩
  · rcases putR_mem.1 hy with rfl | ⟨hm, _⟩
    · exact hr
    · exact h2 y hm
  · rcases putR_mem.1 hy with rfl | ⟨hm, _⟩
    · exact keep _ hon
    · exact keep _ (h4 y hm)
end Go.Proofs.YtepdfppbnepamabGreat
namespace Go.Proofs.YtepdfppbnepamabGreat
open M

/-- Why shelves cannot be turned; 0: they can. -/
def mayI (rs : List Rs) (p : List ByteArray) (v : Int) : Int := if treeB rs = false then 500 else if pathB p = false then 400 else if inB v 0 99999 = false then 507 else 0
theorem mayI_500 {rs : List Rs} {p : List ByteArray} {v : Int} (h : treeB rs = false) : mayI rs p v = 500 := by unfold mayI; rw [if_pos h]
theorem mayI_400 {rs : List Rs} {p : List ByteArray} {v : Int} (h : treeB rs = true) (h1 : pathB p = false) : mayI rs p v = 400 := by unfold mayI; rw [if_neg (by simp [h]), if_pos h1]
theorem mayI_507 {rs : List Rs} {p : List ByteArray} {v : Int} (h : treeB rs = true) (h1 : pathB p = true) (h2 : inB v 0 99999 = false) : mayI rs p v = 507 := by unfold mayI; rw [if_neg (by simp [h]), if_neg (by simp [h1]), if_pos h2]
theorem mayI_0 {rs : List Rs} {p : List ByteArray} {v : Int} (h : treeB rs = true) (h1 : pathB p = true) (h2 : inB v 0 99999 = true) : mayI rs p v = 0 := by unfold mayI; rw [if_neg (by simp [h]), if_neg (by simp [h1]), if_neg (by simp [h2])]
theorem mayI_ok {rs : List Rs} {p : List ByteArray} {v : Int} (h : mayI rs p v = 0) : treeB rs = true ∧ pathB p = true ∧ inB v 0 99999 = true := by
  cases h1 : treeB rs
  · rw [mayI_500 h1] at h; cases h
  · cases h2 : pathB p
    · rw [mayI_400 h1 h2] at h; cases h
    · cases h3 : inB v 0 99999
      · rw [mayI_507 h1 h2 h3] at h; cases h
      · exact ⟨rfl, rfl, rfl⟩


theorem notAt_len {r : Rs} {l : List Rs} : (notAt r l).length ≤ l.length := List.length_filter_le _ _
theorem notAt_less {r : Rs} {l : List Rs} (h : ∃ x ∈ l, x.pa = r.pa) : (notAt r l).length < l.length := by
  obtain ⟨x, hm, he⟩ := h
  unfold notAt
  refine List.length_filter_lt_length_iff_exists.2 ⟨x, hm, ?_⟩
  rw [he, sameL_refl]
  simp
theorem putR_len {r : Rs} : ∀ {l : List Rs}, (putR r false l).length = (notAt r l).length + 1
  | [] => rfl
  | x :: l => by
    cases h : lessL x.pa r.pa
    · rw [putR_here h, List.length_cons]
    · have hs : sameL x.pa r.pa = false := by
        unfold sameL
        rw [decide_eq_false_iff_not]
        intro e
        rw [e, lessL_irr] at h
        cases h
      rw [putR_less h, List.length_cons, putR_len (l := l)]
      unfold notAt
      rw [List.filter_cons, hs]
      simp
theorem not_there {rs : List Rs} {p : List ByteArray} (h : findI rs p < 0) : ∀ x ∈ rs, x.pa ≠ p := fun x hx e => by
  have h1 : 0 ≤ findI rs p := by
    rcases findI_cases rs p with e2 | ⟨k, hk, e2, _⟩
    · exfalso
      unfold findI at e2
      by_cases hlt : rs.findIdx (isAt p) < rs.length
      · rw [if_pos hlt] at e2; omega
      · exact hlt (List.findIdx_lt_length_of_exists ⟨_, hx, by unfold isAt; rw [e]; exact sameL_refl _⟩)
    · rw [e2]; omega
  omega

/-- What MakeColl says, and answers. -/
def collI (rs : List Rs) (p : List ByteArray) (v : Int) : Int := if mayI rs p v ≠ 0 then mayI rs p v else if p.length = 0 ∨ 0 ≤ findI rs p then 405 else if collB rs (aboveL p) = false then 409 else if 12 ≤ rs.length then 507 else 0
def shelfR (p : List ByteArray) (v : Int) : Rs := ⟨p, true, ByteArray.empty, v, []⟩
def makeR (rs : List Rs) (p : List ByteArray) (v : Int) : List Rs := if collI rs p v = 0 then putR (shelfR p v) false rs else rs
theorem make_tree {rs : List Rs} {p : List ByteArray} {v : Int} (h : treeB rs = true) : treeB (makeR rs p v) = true := by
  unfold makeR
  by_cases hc : collI rs p v = 0
  · rw [if_pos hc]
    unfold collI at hc
    by_cases h1 : mayI rs p v = 0
    · rw [if_neg (by simp [h1])] at hc
      by_cases h2 : p.length = 0 ∨ 0 ≤ findI rs p
      · rw [if_pos h2] at hc; cases hc
      · rw [if_neg h2] at hc
        cases h3 : collB rs (aboveL p)
        · rw [if_pos h3] at hc; cases hc
        · rw [if_neg (by simp [h3])] at hc
          by_cases h4 : 12 ≤ rs.length
          · rw [if_pos h4] at hc; cases hc
          · obtain ⟨_, hp, hv⟩ := mayI_ok h1
            have hne : ∀ x ∈ rs, x.pa ≠ p := not_there (by omega)
            refine tree_put h ?_ h3 (fun x hx e => absurd e (hne x hx)) ?_
            · have h0 : 0 < p.length := by omega
              unfold resB shelfR
              simp [h0, hp, hv, propsB, ascB]
            · rw [putR_len]
              have := notAt_len (r := shelfR p v) (l := rs)
              omega
    · rw [if_pos h1] at hc; exact absurd hc h1
  · rw [if_neg hc]; exact h

/-- What PutFile says, and answers. -/
def fileI (rs : List Rs) (p : List ByteArray) (bo : ByteArray) (v : Int) : Int := if mayI rs p v ≠ 0 then mayI rs p v else if collB rs p = true then 405 else if collB rs (aboveL p) = false then 409 else if 200 < bo.size then 413 else if findI rs p < 0 ∧ 12 ≤ rs.length then 507 else 0
/-- What is known of the one that was there. -/
def oldPs (rs : List Rs) (p : List ByteArray) : List Pp := match rs.find? (isAt p) with | none => [] | some r => r.ps
def fileR (rs : List Rs) (p : List ByteArray) (bo : ByteArray) (v : Int) : Rs := ⟨p, false, bo, v, oldPs rs p⟩
def putFR (rs : List Rs) (p : List ByteArray) (bo : ByteArray) (v : Int) : List Rs := if fileI rs p bo v = 0 then putR (fileR rs p bo v) false rs else rs
theorem put_tree {rs : List Rs} {p : List ByteArray} {bo : ByteArray} {v : Int} (h : treeB rs = true) : treeB (putFR rs p bo v) = true := by
  unfold putFR
  by_cases hc : fileI rs p bo v = 0
  · rw [if_pos hc]
    unfold fileI at hc
    by_cases h1 : mayI rs p v = 0
    · rw [if_neg (by simp [h1])] at hc
      cases h2 : collB rs p
      · rw [if_neg (by simp [h2])] at hc
        cases h3 : collB rs (aboveL p)
        · rw [if_pos h3] at hc; cases hc
        · rw [if_neg (by simp [h3])] at hc
          by_cases h4 : 200 < bo.size
          · rw [if_pos h4] at hc; cases hc
          · rw [if_neg h4] at hc
            by_cases h5 : findI rs p < 0 ∧ 12 ≤ rs.length
            · rw [if_pos h5] at hc; cases hc
            · obtain ⟨_, hp, hv⟩ := mayI_ok h1
              have h' := h
              unfold treeB at h'
              simp only [Bool.and_eq_true, decide_eq_true_eq, List.all_eq_true] at h'
              obtain ⟨t1, t2, t3, _⟩ := h'
              have ha := asc_of t3
              have h0 : 0 < p.length := by
                refine Nat.pos_of_ne_zero fun e => ?_
                rw [collB_root e] at h2
                cases h2
              have hno : ∀ x ∈ rs, x.pa = p → x.co = false := fun x hx e => by
                cases e2 : x.co
                · rfl
                · have : collB rs p = true := (coll_iff ha p).2 (.inr ⟨x, hx, e, e2⟩)
                  rw [h2] at this
                  cases this
              have hold : propsB (oldPs rs p) = true := by
                unfold oldPs
                cases e : rs.find? (isAt p) with
                | none => simp [propsB, ascB]
                | some x =>
                  have := t2 x (List.mem_of_find?_eq_some e)
                  unfold resB at this
                  simp only [Bool.and_eq_true] at this
                  exact this.2.2.2.2.2
              refine tree_put h ?_ h3 hno ?_
              · unfold resB fileR
                simp [h0, hp, hv, hold]
                omega
              · rw [putR_len]
                by_cases e : findI rs p < 0
                · have := notAt_len (r := fileR rs p bo v) (l := rs)
                  omega
                · rcases findI_cases rs p with e2 | ⟨k, hk, e2, hs⟩
                  · omega
                  · have := notAt_less (r := fileR rs p bo v) (l := rs) ⟨rs[k], List.getElem_mem hk, by unfold sameL at hs; exact of_decide_eq_true hs⟩
                    omega
      · rw [if_pos h2] at hc; cases hc
    · rw [if_pos h1] at hc; exact absurd hc h1
  · rw [if_neg hc]; exact h
end Go.Proofs.YtepdfppbnepamabGreat
namespace Go.Proofs.YtepdfppbnepamabGreat

/-- Whether the first list stands under the second. -/
def underB (ss tt : List ByteArray) : Bool := decide (tt.length < ss.length) && sameL (ss.take tt.length) tt

end Go.Proofs.YtepdfppbnepamabGreat
namespace Go.Proofs.YtepdfppbnepamabGreat
open M

def kidB (p : List ByteArray) (r : Rs) : Bool := decide (r.pa.length = p.length + 1) && underB r.pa p
def kidsL (rs : List Rs) (p : List ByteArray) : List (List ByteArray) := (rs.filter (kidB p)).map (·.pa)
def deepB (p : List ByteArray) (r : Rs) : Bool := sameL r.pa p || underB r.pa p
def deepL (rs : List Rs) (p : List ByteArray) : List Rs := rs.filter (deepB p)

theorem filter_yes {q : Rs → Bool} {rs : List Rs} {k : Nat} (hk : k < rs.length) (h : q rs[k] = true) : (rs.take (k + 1)).filter q = (rs.take k).filter q ++ [rs[k]] := by
  rw [List.take_succ_eq_append_getElem hk, List.filter_append]; simp [h]
theorem filter_no {q : Rs → Bool} {rs : List Rs} {k : Nat} (hk : k < rs.length) (h : q rs[k] = false) : (rs.take (k + 1)).filter q = (rs.take k).filter q := by
  rw [List.take_succ_eq_append_getElem hk, List.filter_append]; simp [h]
theorem filter_end {q : Rs → Bool} {rs : List Rs} {k : Nat} (hk : ¬ k < rs.length) : (rs.take k).filter q = rs.filter q := by rw [List.take_of_length_le (by omega)]
theorem filter_len {q : Rs → Bool} (rs : List Rs) (k : Nat) : ((rs.take k).filter q).length ≤ rs.length := by
  have h1 := List.length_filter_le q (rs.take k)
  rw [List.length_take] at h1
  omega
end Go.Proofs.YtepdfppbnepamabGreat
namespace Go.Proofs.YtepdfppbnepamabGreat
open M

theorem kid_above {p : List ByteArray} {r : Rs} (h : kidB p r = true) : aboveL r.pa = p := by
  unfold kidB underB at h
  simp only [Bool.and_eq_true, decide_eq_true_eq] at h
  obtain ⟨h1, _, h3⟩ := h
  unfold sameL at h3
  unfold aboveL
  rw [h1, Nat.add_sub_cancel]
  exact of_decide_eq_true h3
theorem kids_mem {rs : List Rs} {p s : List ByteArray} (h : s ∈ kidsL rs p) : ∃ r ∈ rs, r.pa = s ∧ kidB p r = true := by
  unfold kidsL at h
  obtain ⟨r, hr, rfl⟩ := List.mem_map.1 h
  obtain ⟨h1, h2⟩ := List.mem_filter.1 hr
  exact ⟨r, h1, rfl, h2⟩
theorem kids_above {rs : List Rs} {p s : List ByteArray} (h : s ∈ kidsL rs p) : aboveL s = p := by
  obtain ⟨r, _, rfl, hk⟩ := kids_mem h
  exact kid_above hk
theorem findI_there {rs : List Rs} {r : Rs} (h : r ∈ rs) : 0 ≤ findI rs r.pa := by
  rcases findI_cases rs r.pa with e | ⟨k, hk, e, _⟩
  · exfalso
    unfold findI at e
    by_cases hlt : rs.findIdx (isAt r.pa) < rs.length
    · rw [if_pos hlt] at e; omega
    · exact hlt (List.findIdx_lt_length_of_exists ⟨_, h, by unfold isAt; exact sameL_refl _⟩)
  · rw [e]; omega
theorem kids_found {rs : List Rs} {p s : List ByteArray} (h : s ∈ kidsL rs p) : 0 ≤ findI rs s := by
  obtain ⟨r, hr, rfl, _⟩ := kids_mem h
  exact findI_there hr
theorem kids_asc {rs : List Rs} (h : Asc rs) (p : List ByteArray) : (kidsL rs p).Pairwise fun a b => lessL a b = true := by
  unfold kidsL
  rw [List.pairwise_map]
  exact List.Pairwise.filter _ h
theorem kids_next {rs : List Rs} (h : Asc rs) (p : List ByteArray) (i : Nat) (hi : i + 1 < (kidsL rs p).length) : lessL (kidsL rs p)[i] (kidsL rs p)[i + 1] = true := by
  have := kids_asc h p
  rw [List.pairwise_iff_getElem] at this
  exact this i (i + 1) (by omega) hi (Nat.lt_succ_self _)
/-- As many as are deep there of one name more. -/
theorem kids_count (rs : List Rs) (p : List ByteArray) : (kidsL rs p).length = ((deepL rs p).filter fun r => decide (r.pa.length = p.length + 1)).length := by
  unfold kidsL deepL
  rw [List.length_map, List.filter_filter]
  congr 1
  refine List.filter_congr fun r _ => ?_
  unfold kidB deepB
  by_cases h : r.pa.length = p.length + 1
  · have hs : sameL r.pa p = false := sameL_len (by omega)
    simp [h, hs]
  · simp [h]
theorem kids_shelf {rs : List Rs} (h : treeB rs = true) {p s : List ByteArray} (hk : s ∈ kidsL rs p) : collB rs p = true := by
  obtain ⟨r, hr, _, hb⟩ := kids_mem hk
  unfold treeB at h
  simp only [Bool.and_eq_true, decide_eq_true_eq, List.all_eq_true] at h
  have := h.2.2.2 r hr
  unfold onB at this
  rw [kid_above hb] at this
  exact this
theorem tree_asc {rs : List Rs} (h : treeB rs = true) : Asc rs := by
  unfold treeB at h
  simp only [Bool.and_eq_true, decide_eq_true_eq, List.all_eq_true] at h
  exact asc_of h.2.2.1
end Go.Proofs.YtepdfppbnepamabGreat
namespace Go.Proofs.YtepdfppbnepamabGreat
open M

theorem deep_iff {p : List ByteArray} {r : Rs} : deepB p r = true ↔ p <+: r.pa := by
  unfold deepB underB sameL
  rw [Bool.or_eq_true, Bool.and_eq_true, decide_eq_true_eq, decide_eq_true_eq, decide_eq_true_eq]
  constructor
  · rintro (h | ⟨_, h⟩)
    · rw [h]; exact List.prefix_refl _
    · exact ⟨r.pa.drop p.length, by conv => { lhs; lhs; rw [← h] }; exact List.take_append_drop _ _⟩
  · rintro ⟨x, hx⟩
    cases x with
    | nil => left; rw [← hx]; simp
    | cons y l => right; rw [← hx]; simp
theorem under_iff {q p : List ByteArray} : underB q p = true ↔ p <+: q ∧ p.length < q.length := by
  unfold underB sameL
  rw [Bool.and_eq_true, decide_eq_true_eq, decide_eq_true_eq]
  constructor
  · rintro ⟨h1, h⟩
    exact ⟨⟨q.drop p.length, by conv => { lhs; lhs; rw [← h] }; exact List.take_append_drop _ _⟩, h1⟩
  · rintro ⟨⟨x, hx⟩, h1⟩
    exact ⟨h1, by rw [← hx]; simp⟩

/-- What stays where p is gone, with all under it. -/
def withoutL (rs : List Rs) (p : List ByteArray) : List Rs := rs.filter fun r => !deepB p r
/-- All: what comes stands together. -/
def aheadB (to : List ByteArray) (r : Rs) : Bool := lessL r.pa to
def wholeL (st : List Rs) (to : List ByteArray) (cs : List Rs) : List Rs := st.takeWhile (aheadB to) ++ (cs ++ st.dropWhile (aheadB to))

theorem lessL_pre : ∀ (a to x : List ByteArray), lessL a to = true → lessL a (to ++ x) = true
  | [], [], _, h => by simp [lessL] at h
  | [], _ :: _, _, _ => by simp [lessL]
  | _ :: _, [], _, h => by simp [lessL] at h
  | u :: a, v :: to, x, h => by
    rw [List.cons_append, lessL] at *
    by_cases e : u = v
    · rw [if_pos e] at *; exact lessL_pre a to x h
    · rw [if_neg e] at *; exact h
theorem lessL_out : ∀ (b to x : List ByteArray), lessL b to = false → ¬ to <+: b → lessL (to ++ x) b = true
  | _, [], _, _, h => absurd (List.nil_prefix) h
  | [], _ :: _, _, h, _ => by simp [lessL] at h
  | u :: b, v :: to, x, h, hp => by
    rw [List.cons_append, lessL] at *
    by_cases e : u = v
    · subst e
      rw [if_pos rfl] at *
      exact lessL_out b to x h (fun hq => hp (by obtain ⟨y, rfl⟩ := hq; exact ⟨y, rfl⟩))
    · rw [if_neg e] at h
      rw [if_neg (fun e' => e e'.symm)]
      cases h2 : lessT v u
      · exact absurd (str_inj (bytesLess_tri _ _ h h2)) e
      · rfl

theorem putR_split {r : Rs} : ∀ {A B : List Rs}, (∀ a ∈ A, lessL a.pa r.pa = true) → (∀ b ∈ B, lessL b.pa r.pa = false) → putR r false (A ++ B) = A ++ r :: notAt r B
  | [], [], _, _ => by simp [putR, notAt]
  | [], b :: B, _, hb => by
    rw [List.nil_append, putR_here (hb b (List.mem_cons_self ..))]; rfl
  | a :: A, B, ha, hb => by
    rw [List.cons_append, putR_less (ha a (List.mem_cons_self ..)), putR_split (fun x hx => ha x (List.mem_cons_of_mem _ hx)) hb]
    rfl
theorem notAt_all {r : Rs} {B : List Rs} (h : ∀ b ∈ B, lessL r.pa b.pa = true) : notAt r B = B := by
  unfold notAt
  rw [List.filter_eq_self]
  intro b hb
  have := h b hb
  unfold sameL
  rw [Bool.not_eq_true', decide_eq_false_iff_not]
  intro e
  rw [e, lessL_irr] at this
  cases this
theorem putR_mid {r : Rs} {A B : List Rs} (ha : ∀ a ∈ A, lessL a.pa r.pa = true) (hb : ∀ b ∈ B, lessL r.pa b.pa = true) : putR r false (A ++ B) = A ++ r :: B := by
  rw [putR_split ha (fun b h => lessL_asym _ _ (hb b h)), notAt_all hb]
theorem ahead_all {st : List Rs} {to : List ByteArray} : ∀ a ∈ st.takeWhile (aheadB to), lessL a.pa to = true := fun a ha => by
  have := List.all_takeWhile (l := st) (p := aheadB to)
  rw [List.all_eq_true] at this
  exact this a ha
theorem behind_all {to : List ByteArray} : ∀ {st : List Rs}, Asc st → ∀ b ∈ st.dropWhile (aheadB to), lessL b.pa to = false
  | [], _, b, hb => by simp at hb
  | x :: st, h, b, hb => by
    rw [List.dropWhile_cons] at hb
    cases e : aheadB to x
    · rw [e] at hb
      simp only [Bool.false_eq_true, if_false] at hb
      rcases List.mem_cons.1 hb with rfl | hm
      · exact e
      · have h1 := (List.pairwise_cons.1 h).1 b hm
        cases h2 : lessL b.pa to
        · rfl
        · have h3 := lessL_trans _ _ _ h1 h2
          unfold aheadB at e
          rw [e] at h3; cases h3
    · rw [e] at hb
      simp only [if_true] at hb
      exact behind_all (List.pairwise_cons.1 h).2 b hb

theorem fold_step {to : List ByteArray} {A B : List Rs} (ha : ∀ a ∈ A, lessL a.pa to = true) (hb : ∀ b ∈ B, lessL b.pa to = false ∧ ¬ to <+: b.pa) : ∀ (cs c0 : List Rs), (∀ c ∈ c0 ++ cs, to <+: c.pa) → Asc (c0 ++ cs) → cs.foldl (fun acc c => putR c false acc) (A ++ (c0 ++ B)) = A ++ ((c0 ++ cs) ++ B)
  | [], c0, _, _ => by simp
  | c :: cs, c0, hp, hA => by
    have hc := hp c (by simp)
    have e : putR c false (A ++ (c0 ++ B)) = A ++ ((c0 ++ [c]) ++ B) := by
      rw [← List.append_assoc]
      obtain ⟨x, hx⟩ := hc
      rw [putR_mid (r := c) (fun a h => ?_) (fun b h => ?_)]
      · simp
      · rcases List.mem_append.1 h with h | h
        · rw [← hx]; exact lessL_pre _ _ _ (ha a h)
        · have := List.pairwise_append.1 hA
          exact this.2.2 a h c (List.mem_cons_self ..)
      · rw [← hx]; exact lessL_out _ _ _ (hb b h).1 (hb b h).2
    rw [List.foldl_cons, e, fold_step ha hb cs (c0 ++ [c]) (by simpa using hp) (by simpa using hA)]
    simp
/-- What comes, put one by one where all else stays, stands together. -/
theorem whole_fold {st cs : List Rs} {to : List ByteArray} (hs : Asc st) (hn : ∀ y ∈ st, deepB to y = false) (hc : ∀ c ∈ cs, deepB to c = true) (hA : Asc cs) : cs.foldl (fun acc c => putR c false acc) st = wholeL st to cs := by
  have := fold_step (to := to) (A := st.takeWhile (aheadB to)) (B := st.dropWhile (aheadB to)) ahead_all (fun b hb => ⟨behind_all hs b hb, fun h => by
    have := hn b (List.dropWhile_subset _ hb)
    rw [deep_iff.2 h] at this; cases this⟩) cs [] (fun c h => deep_iff.1 (hc c (by simpa using h))) (by simpa using hA)
  rw [List.nil_append, List.takeWhile_append_dropWhile] at this
  rw [this]
  rfl

theorem putR_notAt {r : Rs} {rs : List Rs} (h : Asc rs) : putR r false (notAt r rs) = putR r false rs := by
  have e : rs = rs.takeWhile (aheadB r.pa) ++ rs.dropWhile (aheadB r.pa) := (List.takeWhile_append_dropWhile).symm
  generalize hA : rs.takeWhile (aheadB r.pa) = A at e
  generalize hB : rs.dropWhile (aheadB r.pa) = B at e
  have ha : ∀ a ∈ A, lessL a.pa r.pa = true := by rw [← hA]; exact ahead_all
  have hb : ∀ b ∈ B, lessL b.pa r.pa = false := by rw [← hB]; exact behind_all h
  have e1 : notAt r A = A := by
    unfold notAt
    rw [List.filter_eq_self]
    intro a h
    have := ha a h
    unfold sameL
    rw [Bool.not_eq_true', decide_eq_false_iff_not]
    intro e
    rw [e, lessL_irr] at this
    cases this
  have e2 : notAt r rs = A ++ notAt r B := by
    rw [e]; unfold notAt at *; rw [List.filter_append, e1]
  rw [e2, putR_split ha (fun b h => hb b (notAt_mem.1 h).1)]
  conv => { rhs; rw [e] }
  rw [putR_split ha hb]
  congr 2
  unfold notAt
  rw [List.filter_filter]
  simp

/-- Of right things: what something is under is a shelf. -/
theorem under_coll {rs : List Rs} (h : treeB rs = true) {p : List ByteArray} : ∀ (n : Nat) (y : Rs), y ∈ rs → y.pa.length = n → underB y.pa p = true → collB rs p = true := by
  have ha := tree_asc h
  have ht := h
  unfold treeB at ht
  simp only [Bool.and_eq_true, decide_eq_true_eq, List.all_eq_true] at ht
  intro n
  induction n with
  | zero =>
    intro y _ hl hu
    have := (under_iff.1 hu).2
    omega
  | succ n ih =>
    intro y hy hl hu
    obtain ⟨hp, hlt⟩ := under_iff.1 hu
    have hon := ht.2.2.2 y hy
    unfold onB at hon
    have hal : (aboveL y.pa).length = n := by rw [aboveL_len]; omega
    have hpp : p <+: aboveL y.pa := List.prefix_take_iff.2 ⟨hp, by omega⟩
    by_cases e : p.length = n
    · have : p = aboveL y.pa := by
        obtain ⟨x, hx⟩ := hpp
        have hx0 : x = [] := by
          have := congrArg List.length hx
          rw [List.length_append, hal] at this
          exact List.length_eq_zero_iff.1 (by omega)
        rw [← hx, hx0]; simp
      rw [this]; exact hon
    · have hpl : p.length < n := by omega
      rcases (coll_iff ha _).1 hon with h0 | ⟨r, hr, hrp, _⟩
      · rw [hal] at h0; omega
      · exact ih r hr (by rw [hrp, hal]) (under_iff.2 ⟨by rw [hrp]; exact hpp, by rw [hrp, hal]; exact hpl⟩)
theorem without_notAt {rs : List Rs} (h : treeB rs = true) {r : Rs} (hc : collB rs r.pa = false) : withoutL rs r.pa = notAt r rs := by
  unfold withoutL notAt
  refine List.filter_congr fun y hy => ?_
  have : underB y.pa r.pa = false := by
    cases e : underB y.pa r.pa
    · rfl
    · rw [under_coll h _ y hy rfl e] at hc; cases hc
  unfold deepB
  rw [this, Bool.or_false]
theorem without_asc {rs : List Rs} (h : Asc rs) (p : List ByteArray) : Asc (withoutL rs p) := List.Pairwise.filter _ h
theorem without_not {rs : List Rs} (p : List ByteArray) : ∀ y ∈ withoutL rs p, deepB p y = false := fun y hy => by
  have := (List.mem_filter.1 hy).2
  simpa using this
/-- One thing put where no shelf is: what stays, and it. -/
theorem whole_one {rs : List Rs} (h : treeB rs = true) {r : Rs} (hc : collB rs r.pa = false) : wholeL (withoutL rs r.pa) r.pa [r] = putR r false rs := by
  rw [← whole_fold (without_asc (tree_asc h) _) (without_not _) (fun c hc => by rw [List.mem_singleton.1 hc]; exact deep_iff.2 (List.prefix_refl _)) (by simp [Asc])]
  rw [List.foldl_cons, List.foldl_nil, without_notAt h hc, putR_notAt (tree_asc h)]
end Go.Proofs.YtepdfppbnepamabGreat
namespace Go.Proofs.YtepdfppbnepamabGreat
open Go.RowKit M
set_option linter.unusedVariables false

theorem GrowR.up {w : World} {B lo lo' : Nat} {v : Value} {ts : List RsT} (g : GrowR w B v ts lo) (h1 : lo ≤ lo') (h2 : lo' ≤ w.heap.size) : GrowR w B v ts lo' := by
  obtain ⟨b, cap, hv, hb⟩ := g.blk
  exact ⟨g.own, ⟨b, cap, hv, Nat.lt_of_lt_of_le hb h1⟩, h2, fun j hj => by obtain ⟨k1, k2, k3, k4⟩ := g.el j hj; exact ⟨k1, k2, Nat.lt_of_lt_of_le k3 h1, k4⟩, g.ord, g.caps⟩
theorem caps_snoc {ts : List RsT} {r : Rs} {p q : Nat} (h : ∀ j (hj : j < ts.length), ts[j].pc = ts[j].r.pa.length ∧ ts[j].qc = ts[j].r.ps.length) : ∀ j (hj : j < (ts ++ [(⟨r, p, r.pa.length, q, r.ps.length⟩ : RsT)]).length), (ts ++ [(⟨r, p, r.pa.length, q, r.ps.length⟩ : RsT)])[j].pc = (ts ++ [(⟨r, p, r.pa.length, q, r.ps.length⟩ : RsT)])[j].r.pa.length ∧ (ts ++ [(⟨r, p, r.pa.length, q, r.ps.length⟩ : RsT)])[j].qc = (ts ++ [(⟨r, p, r.pa.length, q, r.ps.length⟩ : RsT)])[j].r.ps.length := by
  intro j hj
  by_cases e : j < ts.length
  · rw [List.getElem_append_left e]; exact h j e
  · have ej : j = ts.length := by simp at hj; omega
    subst ej
    simp
end Go.Proofs.YtepdfppbnepamabGreat
namespace Go.Proofs.YtepdfppbnepamabGreat
open Go.RowKit M
set_option linter.unusedVariables false

theorem rsCells_append (xs ys : List RsT) : rsCells (xs ++ ys) = rsCells xs ++ rsCells ys := by unfold rsCells; rw [List.flatMap_append]
theorem rsCells_take (ts : List RsT) (i : Nat) (hi : i ≤ ts.length) : (rsCells ts).take (i * 5) = rsCells (ts.take i) := by
  have e : rsCells ts = rsCells (ts.take i) ++ rsCells (ts.drop i) := by rw [← rsCells_append, List.take_append_drop]
  have l : (rsCells (ts.take i)).length = i * 5 := by rw [rsCells_length, List.length_take, Nat.min_eq_left hi]
  rw [e, List.take_append_of_le_length (by omega), List.take_of_length_le (by omega)]
theorem rsCells_drop (ts : List RsT) (i : Nat) (hi : i ≤ ts.length) : (rsCells ts).drop (i * 5) = rsCells (ts.drop i) := by
  have e : rsCells ts = rsCells (ts.take i) ++ rsCells (ts.drop i) := by rw [← rsCells_append, List.take_append_drop]
  have l : (rsCells (ts.take i)).length = i * 5 := by rw [rsCells_length, List.length_take, Nat.min_eq_left hi]
  rw [e, List.drop_append_of_le_length (by omega), List.drop_of_length_le (by omega), List.nil_append]
theorem rsCells_one (ts : List RsT) : ∀ u ∈ rsCells ts, u.oneCell' = true := by
  intro u hu
  unfold rsCells at hu
  obtain ⟨t, _, h⟩ := List.mem_flatMap.1 hu
  simp only [rsCells1, List.mem_cons, List.not_mem_nil, or_false] at h
  rcases h with rfl | rfl | rfl | rfl | rfl <;> rfl

/-- What one call made, thing by thing. -/
def tsOf (cs : List Rs) (pb qb : Nat → Nat) : List RsT := cs.mapIdx fun j r => ⟨r, pb j, r.pa.length, qb j, r.ps.length⟩
theorem tsOf_length (cs : List Rs) (pb qb : Nat → Nat) : (tsOf cs pb qb).length = cs.length := by unfold tsOf; simp
theorem tsOf_at (cs : List Rs) (pb qb : Nat → Nat) (j : Nat) (hj : j < (tsOf cs pb qb).length) : (tsOf cs pb qb)[j] = ⟨cs[j]'(by rw [tsOf_length] at hj; exact hj), pb j, (cs[j]'(by rw [tsOf_length] at hj; exact hj)).pa.length, qb j, (cs[j]'(by rw [tsOf_length] at hj; exact hj)).ps.length⟩ := by
  simp only [tsOf, List.getElem_mapIdx]
theorem tsOf_map (cs : List Rs) (pb qb : Nat → Nat) : (tsOf cs pb qb).map (·.r) = cs := by
  apply List.ext_getElem
  · simp [tsOf_length]
  · intro j h1 h2
    rw [List.getElem_map, tsOf_at]
theorem OwnR.cells {w : World} {lo hi g : Nat} {cs : List Rs} {pb qb : Nat → Nat} (h : OwnR w lo hi g cs pb qb) : ∀ j u, (rsCells (tsOf cs pb qb))[j]? = some u → w.cell? ⟨g, j, none⟩ = some u := by
  intro j u hj
  have hjl : j < (rsCells (tsOf cs pb qb)).length := (List.getElem?_eq_some_iff.1 hj).1
  rw [rsCells_length, tsOf_length] at hjl
  have hq : j / 5 < cs.length := by omega
  have hq' : j / 5 < (tsOf cs pb qb).length := by rw [tsOf_length]; exact hq
  obtain ⟨c0, c1, c2, c3, c4⟩ := rsCells_at (tsOf cs pb qb) (j / 5) hq'
  obtain ⟨d0, d1, d2, d3, d4⟩ := h.cl (j / 5) hq
  rw [tsOf_at] at c0 c1 c2 c3 c4
  have hcase : j = j / 5 * 5 ∨ j = j / 5 * 5 + 1 ∨ j = j / 5 * 5 + 2 ∨ j = j / 5 * 5 + 3 ∨ j = j / 5 * 5 + 4 := by omega
  rcases hcase with e | e | e | e | e <;> rw [e] at hj ⊢
  · rw [c0] at hj; cases hj; exact d0
  · rw [c1] at hj; cases hj; exact d1
  · rw [c2] at hj; cases hj; exact d2
  · rw [c3] at hj; cases hj; exact d3
  · rw [c4] at hj; cases hj; exact d4

/-- Where one thing's lists lie, and that no one else's do. -/
structure ThingAt (w : World) (lo hi g : Nat) (t : RsT) : Prop where
  a : lo ≤ t.p
  b : t.p < t.q
  c : t.q < hi
  d : t.p ≠ g
  e : t.q ≠ g
  f : RowS w t.p t.r.pa
  g' : RowP w t.q t.r.ps
  k : t.pc = t.r.pa.length ∧ t.qc = t.r.ps.length
def ApartT (x y : RsT) : Prop := x.q < y.p ∨ y.q < x.p

theorem own_done {w : World} {base lo hi g cap n : Nat} {vs : List RsT} (hown : w.ownsRow base 49 5 (.slice (some ⟨g, 0, none⟩) n cap) n (rsCells vs)) (hn : n = vs.length) (hl : lo ≤ g) (hg : g < hi) (ht : ∀ t ∈ vs, ThingAt w lo hi g t) (hp : vs.Pairwise ApartT) : ∃ pb qb, OwnR w lo hi g (vs.map (·.r)) pb qb := by
  subst hn
  have hlt := hown.lt g rfl
  have hfz : ∀ i, w.frozen? ⟨g, i, none⟩ = false := by
    rcases hown.2 with ⟨h, _⟩ | ⟨g', cap', cur, e, _, hh, _⟩
    · cases h
    · cases e
      exact fun i => rowsR_frozen hh i
  refine ⟨fun j => if hj : j < vs.length then vs[j].p else 0, fun j => if hj : j < vs.length then vs[j].q else 0, hl, hg, hlt.2, hfz, fun j hj => ?_, fun j hj => ?_, fun j hj => ?_, fun j hj => ?_, fun i j hij hj => ?_⟩
  · have hj' : j < vs.length := by simpa using hj
    have hk := (ht _ (List.getElem_mem hj')).k
    obtain ⟨c0, c1, c2, c3, c4⟩ := rsCells_at vs j hj'
    simp only [List.getElem_map, hj', dif_pos]
    rw [hk.1] at c0
    rw [hk.2] at c4
    refine ⟨?_, ?_, ?_, ?_, ?_⟩
    · rw [hown.cellAt (j * 5) (by omega)]; exact c0
    · rw [hown.cellAt (j * 5 + 1) (by omega)]; exact c1
    · rw [hown.cellAt (j * 5 + 2) (by omega)]; exact c2
    · rw [hown.cellAt (j * 5 + 3) (by omega)]; exact c3
    · rw [hown.cellAt (j * 5 + 4) (by omega)]; exact c4
  · have hj' : j < vs.length := by simpa using hj
    simp only [List.getElem_map, hj', dif_pos]
    exact (ht _ (List.getElem_mem hj')).f
  · have hj' : j < vs.length := by simpa using hj
    simp only [List.getElem_map, hj', dif_pos]
    exact (ht _ (List.getElem_mem hj')).g'
  · have hj' : j < vs.length := by simpa using hj
    have h := ht _ (List.getElem_mem hj')
    simp only [hj', dif_pos]
    exact ⟨h.a, h.b, h.c, h.d, h.e⟩
  · have hj' : j < vs.length := by simpa using hj
    simp only [hj', show i < vs.length by omega, dif_pos]
    exact (List.pairwise_iff_getElem.1 hp) i j (by omega) hj' hij

/-- How many stand ahead. -/
theorem while_at {to : List ByteArray} : ∀ {st : List Rs} {k : Nat}, k ≤ st.length → (∀ j (hj : j < st.length), j < k → lessL st[j].pa to = true) → (∀ hk : k < st.length, lessL st[k].pa to = false) → st.takeWhile (aheadB to) = st.take k ∧ st.dropWhile (aheadB to) = st.drop k
  | [], k, _, _, _ => by simp
  | x :: st, 0, _, _, h => by
    have h0 : lessL x.pa to = false := h (by simp)
    have e : aheadB to x = false := h0
    rw [List.takeWhile_cons, List.dropWhile_cons, e]
    simp
  | x :: st, k + 1, hk, h1, h2 => by
    have h0 : lessL x.pa to = true := h1 0 (by simp) (by omega)
    have e : aheadB to x = true := h0
    obtain ⟨i1, i2⟩ := while_at (to := to) (st := st) (k := k) (by simpa using hk) (fun j hj hjk => by have := h1 (j + 1) (by simpa using hj) (by omega); simpa using this) (fun hk' => by have := h2 (by simpa using hk'); simpa using this)
    rw [List.takeWhile_cons, List.dropWhile_cons, e]
    simp [i1, i2]

theorem whole_put {w w' : World} {B1 lo1 B2 hi2 L g caps g2 i : Nat} {ts : List RsT} {st cs : List Rs} {to : List ByteArray} {pb qb : Nat → Nat} {v' : Value} (hG : GrowR w B1 (.slice (some ⟨g, 0, none⟩) st.length caps) ts lo1) (hts : ts.map (·.r) = st) (hcp : ∀ j (hj : j < ts.length), ts[j].pc = ts[j].r.pa.length ∧ ts[j].qc = ts[j].r.ps.length) (hO : OwnR w B2 hi2 g2 cs pb qb) (hap : lo1 ≤ B2 ∨ hi2 ≤ B1) (h2 : hi2 ≤ w.heap.size) (hL1 : L ≤ B1) (hL2 : L ≤ B2) (hL3 : L ≤ w.heap.size) (hi : i ≤ st.length)
    (hw : st.takeWhile (aheadB to) = st.take i ∧ st.dropWhile (aheadB to) = st.drop i) (hI : InsIs w w' B1 g v' (st.length + cs.length) ((rsCells ts).take (i * 5) ++ (rsCells (tsOf cs pb qb) ++ (rsCells ts).drop (i * 5)))) :
    ∃ g' cap' pb' qb', v' = .slice (some ⟨g', 0, none⟩) (wholeL st to cs).length cap' ∧ OwnR w' L w'.heap.size g' (wholeL st to cs) pb' qb' := by
  have htl : ts.length = st.length := by rw [← hts]; simp
  rw [rsCells_take ts i (by omega), rsCells_drop ts i (by omega), ← rsCells_append, ← rsCells_append] at hI
  have hgl := hG.own.lt g rfl
  have hglo : g < lo1 := by
    obtain ⟨g0, c0, e, h⟩ := hG.blk
    injection e with e1 e2 e3
    have e4 : g = g0 := congrArg Addr.block (Option.some.inj e1)
    omega
  have hto := hG.top
  -- the new row
  obtain ⟨g', cap', ev, hgL, hgc⟩ : ∃ g' cap', v' = .slice (some ⟨g', 0, none⟩) (st.length + cs.length) cap' ∧ L ≤ g' ∧ (g' = g ∨ w.heap.size ≤ g') := by
    rcases hI.own.2 with ⟨h, _⟩ | ⟨g', cap', cur, e, hb, _⟩
    · subst h
      rcases hI.blk with h | ⟨b, h, _⟩ <;> simp [Value.ownBlock] at h
    · refine ⟨g', cap', e, Nat.le_trans hL1 hb, ?_⟩
      subst e
      rcases hI.blk with h | ⟨b, h, hb'⟩
      · exact .inl (Option.some.inj h)
      · right
        have : g' = b := Option.some.inj h
        omega
  subst ev
  have hown := hI.own
  have hlt' := hown.lt g' rfl
  have hsz := hI.grew.size
  have hkeep : ∀ b, b < w.heap.size → b ≠ g → w'.heap[b]? = w.heap[b]? := fun b hb hne => hI.grew.block b hb (fun e => hne (Option.some.inj e))
  have hkS : ∀ b l, RowS w b l → b ≠ g → RowS w' b l := fun b l h hne => ⟨Nat.lt_of_lt_of_le h.1 hsz, fun j hj => by
    have e := hkeep b h.1 hne
    have := h.2 j hj
    simp only [World.cell?, World.frozen?] at this ⊢
    rw [e]
    exact this⟩
  have hkP : ∀ b l, RowP w b l → b ≠ g → RowP w' b l := fun b l h hne => h.of (Nat.lt_of_lt_of_le h.1 hsz) (fun o => by simp only [World.cell?, hkeep b h.1 hne]) (fun o => by simp only [World.frozen?, hkeep b h.1 hne])
  have e0 : (ts.take i ++ (tsOf cs pb qb ++ ts.drop i)).map (·.r) = wholeL st to cs := by
    unfold wholeL
    rw [hw.1, hw.2, List.map_append, List.map_append, tsOf_map, List.map_take, List.map_drop, hts]
  have hlen : st.length + cs.length = (ts.take i ++ (tsOf cs pb qb ++ ts.drop i)).length := by
    simp only [List.length_append, List.length_take, List.length_drop, tsOf_length, htl]
    omega
  have hT1 : ∀ t ∈ ts, ThingAt w' L w'.heap.size g' t ∧ B1 ≤ t.p ∧ t.q < lo1 := fun t ht => by
    obtain ⟨j, hj, rfl⟩ := List.mem_iff_getElem.1 ht
    obtain ⟨k1, k2, k3, k4, k5, k6, k7⟩ := hG.el j hj
    have n1 : ts[j].p ≠ g := fun e => k6 (by rw [e]; rfl)
    have n2 : ts[j].q ≠ g := fun e => k7 (by rw [e]; rfl)
    have := k4.1
    have := k5.1
    exact ⟨⟨by omega, k2, by omega, by omega, by omega, hkS _ _ k4 n1, hkP _ _ k5 n2, hcp j hj⟩, k1, k3⟩
  have hT2 : ∀ t ∈ tsOf cs pb qb, ThingAt w' L w'.heap.size g' t ∧ B2 ≤ t.p ∧ t.q < hi2 := fun t ht => by
    obtain ⟨j, hj, rfl⟩ := List.mem_iff_getElem.1 ht
    have hj' : j < cs.length := by rw [tsOf_length] at hj; exact hj
    rw [tsOf_at]
    obtain ⟨k1, k2, k3, k4, k5⟩ := hO.bnd j hj'
    have r1 := hO.rp j hj'
    have r2 := hO.rq j hj'
    have := r1.1
    have := r2.1
    have n1 : pb j ≠ g := by omega
    have n2 : qb j ≠ g := by omega
    exact ⟨⟨by show L ≤ pb j; omega, k2, by show qb j < _; omega, by show pb j ≠ g'; omega, by show qb j ≠ g'; omega, hkS _ _ r1 n1, hkP _ _ r2 n2, ⟨rfl, rfl⟩⟩, k1, k3⟩
  have hP1 : ts.Pairwise ApartT := List.pairwise_iff_getElem.2 fun i j hi hj hij => .inl (hG.ord i j hij hj)
  have hP2 : (tsOf cs pb qb).Pairwise ApartT := List.pairwise_iff_getElem.2 fun i j hi hj hij => by
    rw [tsOf_at, tsOf_at]
    exact hO.ord i j hij (by rw [tsOf_length] at hj; exact hj)
  have hX : ∀ t ∈ ts, ∀ u ∈ tsOf cs pb qb, ApartT t u := fun t ht u hu => by
    obtain ⟨a1, a2, a3⟩ := hT1 t ht
    obtain ⟨b1, b2, b3⟩ := hT2 u hu
    have := a1.b
    have := b1.b
    unfold ApartT
    omega
  have hPall : (ts.take i ++ (tsOf cs pb qb ++ ts.drop i)).Pairwise ApartT := by
    have h0 := hP1
    rw [← List.take_append_drop i ts] at h0
    obtain ⟨p1, p2, p3⟩ := List.pairwise_append.1 h0
    refine List.pairwise_append.2 ⟨p1, List.pairwise_append.2 ⟨hP2, p2, fun u hu t ht => (hX t (List.mem_of_mem_drop ht) u hu).symm⟩, fun t ht u hu => ?_⟩
    rcases List.mem_append.1 hu with hu | hu
    · exact hX t (List.mem_of_mem_take ht) u hu
    · exact p3 t ht u hu
  obtain ⟨pb', qb', hR⟩ := own_done (lo := L) (hi := w'.heap.size) hown hlen hgL hlt'.2 (fun t ht => by
    rcases List.mem_append.1 ht with h | h
    · exact (hT1 t (List.mem_of_mem_take h)).1
    · rcases List.mem_append.1 h with h | h
      · exact (hT2 t h).1
      · exact (hT1 t (List.mem_of_mem_drop h)).1) hPall
  rw [e0] at hR
  refine ⟨g', cap', pb', qb', ?_, hR⟩
  rw [show (wholeL st to cs).length = st.length + cs.length by rw [← e0, List.length_map, ← hlen]]
end Go.Proofs.YtepdfppbnepamabGreat
