/-
  Plain facts on lists of marks: no program in sight.
-/
import Derived.Test.YtckhjemojopekaaMathSmall
import Derived.Test.YtckhjemojopekaaMathMark
namespace Go.Proofs.Ytckhjemojopekaa.M

/-- A mark of what stands within it. -/
def tagL (m : List UInt8) : List UInt8 := 34 :: (m ++ [34])
def innB (m : List UInt8) : Bool := decide (m.length ≤ 10) && allB m [0]
/-- The mark ahead: what stands within it, and what stands behind. -/
def cutT : List UInt8 → Option (List UInt8 × List UInt8)
  | [] => none
  | c :: t => if c = 34 then (if fromB 34 t = [] then none else if innB (upTo 34 t) = true then some (upTo 34 t, (fromB 34 t).tail) else none) else none
/-- Marks, one behind the other, as they are read. -/
def tgs : Nat → List UInt8 → List (List UInt8) → Option (List (List UInt8))
  | 0, _, _ => none
  | f + 1, l, acc =>
    match cutT (trimL l) with
    | none => none
    | some (m, rest) =>
      if acc.length = 5 then none
      else if trimL rest = [] then some (acc ++ [tagL m])
      else if (trimL rest).head? = some 44 then tgs f (trimL rest).tail (acc ++ [tagL m])
      else none
/-- A text cut at commas that stand in no mark. -/
def addH (p : List UInt8) : List (List UInt8) → List (List UInt8)
  | [] => [p]
  | x :: q => (p ++ x) :: q
def spq : Bool → List UInt8 → List (List UInt8)
  | _, [] => [[]]
  | b, c :: r => if c = 44 ∧ b = false then [] :: spq false r else addH [c] (spq (if c = 34 then !b else b) r)
def tagB (x : List UInt8) : Bool := match cutT x with | some (_, []) => true | _ => false

theorem addH_add (a b : List UInt8) (L : List (List UInt8)) : addH a (addH b L) = addH (a ++ b) L := by
  cases L <;> simp [addH]
theorem addH_nil (L : List (List UInt8)) (h : L ≠ []) : addH [] L = L := by
  cases L with
  | nil => exact absurd rfl h
  | cons x q => simp [addH]
theorem addH_ne (a : List UInt8) (L : List (List UInt8)) : addH a L ≠ [] := by cases L <;> simp [addH]
theorem spq_ne (b : Bool) (l : List UInt8) : spq b l ≠ [] := by
  cases l with
  | nil => simp [spq]
  | cons c r => rw [spq]; split; simp; exact addH_ne _ _
theorem spq_in (m r : List UInt8) (h : 34 ∉ m) : spq true (m ++ r) = addH m (spq true r) := by
  induction m with
  | nil => exact (addH_nil _ (spq_ne _ _)).symm
  | cons c q ih =>
    have h1 : ¬ c = 34 := fun e => h (by simp [e])
    rw [List.cons_append, spq, if_neg (by simp), if_neg h1, ih (fun e => h (List.mem_cons_of_mem _ e)), addH_add]
    rfl
theorem spq_out (m r : List UInt8) (h : 34 ∉ m) (h4 : 44 ∉ m) : spq false (m ++ r) = addH m (spq false r) := by
  induction m with
  | nil => exact (addH_nil _ (spq_ne _ _)).symm
  | cons c q ih =>
    have h1 : ¬ c = 34 := fun e => h (by simp [e])
    have h2 : ¬ c = 44 := fun e => h4 (by simp [e])
    rw [List.cons_append, spq, if_neg (by simp [h2]), if_neg h1, ih (fun e => h (List.mem_cons_of_mem _ e)) (fun e => h4 (List.mem_cons_of_mem _ e)), addH_add]
    rfl
theorem spq_tag (m r : List UInt8) (h : 34 ∉ m) : spq false (tagL m ++ r) = addH (tagL m) (spq false r) := by
  have e : tagL m ++ r = 34 :: (m ++ 34 :: r) := by simp [tagL]
  rw [e, spq, if_neg (by simp), if_pos rfl, Bool.not_false, spq_in m _ h, spq, if_neg (by simp), if_pos rfl, Bool.not_true, addH_add, addH_add]
  simp [tagL]
theorem spq_comma (b r : List UInt8) (h : 34 ∉ b) (h4 : 44 ∉ b) : spq false (b ++ 44 :: r) = b :: spq false r := by
  rw [spq_out b _ h h4, spq, if_pos ⟨rfl, rfl⟩]
  simp [addH]

/-! Blanks. -/
def bls (l : List UInt8) : Prop := ∀ x ∈ l, bl x = true
theorem bl_not34 {x : UInt8} (h : bl x = true) : ¬ x = 34 := fun e => by rw [e] at h; exact absurd h (by decide)
theorem bl_not44 {x : UInt8} (h : bl x = true) : ¬ x = 44 := fun e => by rw [e] at h; exact absurd h (by decide)
theorem bls_34 {l : List UInt8} (h : bls l) : 34 ∉ l := fun e => bl_not34 (h _ e) rfl
theorem bls_44 {l : List UInt8} (h : bls l) : 44 ∉ l := fun e => bl_not44 (h _ e) rfl
theorem bls_app {a b : List UInt8} (ha : bls a) (hb : bls b) : bls (a ++ b) := fun x hx => (List.mem_append.1 hx).elim (ha x) (hb x)
def rtr (l : List UInt8) : List UInt8 := (l.reverse.dropWhile bl).reverse
theorem trim_rtr (l : List UInt8) : trimL l = rtr (l.dropWhile bl) := rfl
theorem dropw_bls (b r : List UInt8) (h : bls b) : (b ++ r).dropWhile bl = r.dropWhile bl := by
  induction b with
  | nil => rfl
  | cons c q ih => rw [List.cons_append, List.dropWhile_cons, if_pos (h c (by simp)), ih (fun x hx => h x (List.mem_cons_of_mem _ hx))]
theorem rtr_bls (r b : List UInt8) (h : bls b) : rtr (r ++ b) = rtr r := by
  unfold rtr
  rw [List.reverse_append, dropw_bls _ _ (fun x hx => h x (by simpa using hx))]
theorem trim_front (b r : List UInt8) (h : bls b) : trimL (b ++ r) = trimL r := by rw [trim_rtr, dropw_bls b r h, trim_rtr]
theorem trim_end (r b : List UInt8) (h : bls b) : trimL (r ++ b) = trimL r := by
  rw [trim_rtr, trim_rtr]
  induction r with
  | nil =>
    have e : b.dropWhile bl = [] := by
      have := dropw_bls b [] h
      simpa using this
    rw [List.nil_append, e]; rfl
  | cons c q ih =>
    rw [List.cons_append, List.dropWhile_cons, List.dropWhile_cons]
    split
    · exact ih
    · rw [← List.cons_append, rtr_bls _ _ h]
theorem trim_bls {l : List UInt8} (h : bls l) : trimL l = [] := by
  have := trim_front l [] h
  rw [List.append_nil] at this
  rw [this]; rfl
theorem dropw_parts (l : List UInt8) : ∃ b, bls b ∧ l = b ++ l.dropWhile bl := by
  induction l with
  | nil => exact ⟨[], (fun x hx => by cases hx), rfl⟩
  | cons c q ih =>
    obtain ⟨b, hb, e⟩ := ih
    rw [List.dropWhile_cons]
    split
    · rename_i hc
      refine ⟨c :: b, fun x hx => ?_, by rw [List.cons_append, ← e]⟩
      rcases List.mem_cons.1 hx with rfl | hx
      · exact hc
      · exact hb x hx
    · exact ⟨[], (fun x hx => by cases hx), rfl⟩
theorem rtr_parts (l : List UInt8) : ∃ b, bls b ∧ l = rtr l ++ b := by
  obtain ⟨b, hb, e⟩ := dropw_parts l.reverse
  refine ⟨b.reverse, fun x hx => hb x (by simpa using hx), ?_⟩
  have := congrArg List.reverse e
  rw [List.reverse_reverse, List.reverse_append] at this
  exact this
theorem trim_parts (l : List UInt8) : ∃ b1 b2, bls b1 ∧ bls b2 ∧ l = b1 ++ (trimL l ++ b2) := by
  obtain ⟨b1, h1, e1⟩ := dropw_parts l
  obtain ⟨b2, h2, e2⟩ := rtr_parts (l.dropWhile bl)
  refine ⟨b1, b2, h1, h2, ?_⟩
  rw [trim_rtr, ← e2]
  exact e1
theorem dropw_head (l : List UInt8) (a : UInt8) (r : List UInt8) (h : l.dropWhile bl = a :: r) : bl a = false := by
  induction l with
  | nil => cases h
  | cons c q ih =>
    rw [List.dropWhile_cons] at h
    split at h
    · exact ih h
    · rename_i hc
      cases h
      simpa using hc
theorem rtr_app (v : List UInt8) (c : UInt8) (y : List UInt8) (h : bl c = false) : rtr (v ++ c :: y) = v ++ c :: rtr y := by
  unfold rtr
  have e : (v ++ c :: y).reverse = y.reverse ++ c :: v.reverse := by simp
  rw [e]
  have : ∀ z : List UInt8, (z ++ c :: v.reverse).dropWhile bl = z.dropWhile bl ++ c :: v.reverse := by
    intro z
    induction z with
    | nil => simp [h]
    | cons a q ih =>
      rw [List.cons_append, List.dropWhile_cons, List.dropWhile_cons]
      split
      · exact ih
      · rfl
  rw [this]
  simp
theorem rtr_ne (b : List UInt8) (c : UInt8) (y : List UInt8) (h : bl c = false) : rtr (b ++ c :: y) ≠ [] := by rw [rtr_app _ _ _ h]; simp
theorem trim_head {l : List UInt8} {a : UInt8} {r : List UInt8} (h : trimL l = a :: r) : bl a = false := by
  rw [trim_rtr] at h
  cases hd : l.dropWhile bl with
  | nil => rw [hd] at h; cases h
  | cons c q =>
    have hc := dropw_head l c q hd
    rw [hd] at h
    have := rtr_app [] c q hc
    rw [List.nil_append, List.nil_append] at this
    rw [this] at h
    cases h
    exact hc
theorem trim_cons (c : UInt8) (y : List UInt8) (h : bl c = false) : trimL (c :: y) = c :: rtr y := by
  rw [trim_rtr, dropWhile_head bl c y h]
  exact rtr_app [] c y h
theorem trim_none {l : List UInt8} (h : trimL l = []) : bls l := by
  obtain ⟨b1, b2, h1, h2, e⟩ := trim_parts l
  rw [h, List.nil_append] at e
  rw [e]; exact bls_app h1 h2
theorem trim_trim (l : List UInt8) : trimL (trimL l) = trimL l := by
  obtain ⟨b1, b2, h1, h2, e⟩ := trim_parts l
  conv => rhs; rw [e]
  rw [trim_front _ _ h1, trim_end _ _ h2]

/-! A mark ahead. -/
theorem upTo_not (c : UInt8) (l : List UInt8) : c ∉ upTo c l := by
  induction l with
  | nil => simp [upTo]
  | cons b l ih =>
    by_cases e : b = c
    · subst e; rw [upTo_cons_eq]; simp
    · rw [upTo_cons_ne l e]
      intro h
      rcases List.mem_cons.1 h with rfl | h
      · exact e rfl
      · exact ih h
theorem fromB_nil {c : UInt8} {l : List UInt8} (h : fromB c l = []) : c ∉ l := by
  have e := upTo_from c l
  rw [h, List.append_nil] at e
  rw [← e]; exact upTo_not c l
theorem upTo_app (c : UInt8) (m r : List UInt8) (h : c ∉ m) : upTo c (m ++ c :: r) = m ∧ fromB c (m ++ c :: r) = c :: r := by
  induction m with
  | nil => exact ⟨upTo_cons_eq c r, fromB_cons_eq c r⟩
  | cons b q ih =>
    have h1 : b ≠ c := fun e => h (by simp [e])
    obtain ⟨i1, i2⟩ := ih (fun e => h (List.mem_cons_of_mem _ e))
    rw [List.cons_append, upTo_cons_ne _ h1, fromB_cons_ne _ h1, i1, i2]
    exact ⟨rfl, rfl⟩
theorem fromB_part {c : UInt8} {l : List UInt8} (h : fromB c l ≠ []) : l = upTo c l ++ c :: (fromB c l).tail := by
  have e := upTo_from c l
  cases hf : fromB c l with
  | nil => exact absurd hf h
  | cons x q =>
    have := fromB_head hf
    subst this
    rw [hf] at e
    exact e.symm
theorem cutT_of (m y : List UInt8) (h : 34 ∉ m) : cutT (tagL m ++ y) = if innB m = true then some (m, y) else none := by
  have e : tagL m ++ y = 34 :: (m ++ 34 :: y) := by simp [tagL]
  obtain ⟨e1, e2⟩ := upTo_app 34 m y h
  rw [e, cutT, if_pos rfl, e1, e2, if_neg (by simp)]
  rfl
theorem cutT_some {x m y : List UInt8} (h : cutT x = some (m, y)) : x = tagL m ++ y ∧ 34 ∉ m ∧ innB m = true := by
  cases x with
  | nil => cases h
  | cons c t =>
    rw [cutT] at h
    split at h
    · rename_i hc
      subst hc
      split at h
      · cases h
      · rename_i hf
        split at h
        · rename_i hi
          cases h
          refine ⟨?_, upTo_not _ _, hi⟩
          have := fromB_part hf
          simp [tagL]
          exact this
        · cases h
    · cases h
theorem tagB_more (m y : List UInt8) (h : 34 ∉ m) (hy : y ≠ []) : tagB (tagL m ++ y) = false := by
  unfold tagB
  rw [cutT_of m y h]
  split
  · rename_i e
    split at e
    · cases e; exact absurd rfl hy
    · cases e
  · rfl
theorem tagB_one (m : List UInt8) (h : 34 ∉ m) (hi : innB m = true) : tagB (tagL m) = true := by
  unfold tagB
  have := cutT_of m [] h
  rw [List.append_nil, if_pos hi] at this
  rw [this]
theorem tagB_none {x : List UInt8} (h : cutT x = none) : tagB x = false := by unfold tagB; rw [h]
theorem trim_tag (m y : List UInt8) : trimL (tagL m ++ y) = tagL m ++ rtr y := by
  have e : tagL m ++ y = 34 :: (m ++ 34 :: y) := by simp [tagL]
  rw [e, trim_cons _ _ (by decide), rtr_app m 34 y (by decide)]
  simp [tagL]

theorem tgs_trim (f : Nat) (a b : List UInt8) (acc : List (List UInt8)) (h : trimL a = trimL b) : tgs f a acc = tgs f b acc := by
  cases f with
  | zero => rw [tgs, tgs]
  | succ f => rw [tgs, tgs, h]

/-- The first part of a text, where no mark is ahead. -/
theorem first_bad {l : List UInt8} (h : cutT (trimL l) = none) : ∃ x q, spq false l = x :: q ∧ tagB (trimL x) = false := by
  obtain ⟨b1, b2, h1, h2, e⟩ := trim_parts l
  cases ht : trimL l with
  | nil =>
    have hb := trim_none ht
    refine ⟨l, [], ?_, by rw [ht]; rfl⟩
    have := spq_out l [] (bls_34 hb) (bls_44 hb)
    rw [List.append_nil] at this
    rw [this]; simp [spq, addH]
  | cons c t =>
    have hc := trim_head ht
    rw [ht] at e h
    by_cases hq : c = 34
    · subst hq
      by_cases hf : fromB 34 t = []
      · have hn := fromB_nil hf
        refine ⟨l, [], ?_, by rw [ht]; exact tagB_none h⟩
        have hn2 : 34 ∉ t ++ b2 := fun hm => (List.mem_append.1 hm).elim hn (bls_34 h2)
        have e2 := spq_in (t ++ b2) [] hn2
        rw [List.append_nil] at e2
        rw [e, spq_out b1 _ (bls_34 h1) (bls_44 h1), List.cons_append, spq, if_neg (by simp), if_pos rfl, Bool.not_false, e2, spq, addH_add, addH_add]
        simp [addH]
      · have e3 := fromB_part hf
        have hn := upTo_not 34 t
        obtain ⟨m, hm⟩ : ∃ m, upTo 34 t = m := ⟨_, rfl⟩
        obtain ⟨y, hy⟩ : ∃ y, (fromB 34 t).tail = y := ⟨_, rfl⟩
        rw [hm, hy] at e3
        rw [hm] at hn
        have e4 : (34 : UInt8) :: t = tagL m ++ y := by rw [e3]; simp [tagL]
        rw [e4] at e h
        rw [cutT_of m y hn] at h
        have hi : ¬ innB m = true := fun e => by rw [if_pos e] at h; cases h
        have e5 : spq false l = addH (b1 ++ tagL m) (spq false (y ++ b2)) := by
          rw [e, spq_out b1 _ (bls_34 h1) (bls_44 h1), List.append_assoc, spq_tag m _ hn, addH_add]
        cases hs : spq false (y ++ b2) with
        | nil => exact absurd hs (spq_ne _ _)
        | cons x q =>
          rw [hs] at e5
          refine ⟨_, _, e5, ?_⟩
          rw [List.append_assoc, trim_front _ _ h1, trim_tag]
          apply tagB_none
          rw [cutT_of m _ hn, if_neg hi]
    · by_cases h44 : c = 44
      · subst h44
        refine ⟨b1, spq false (t ++ b2), ?_, by rw [trim_bls h1]; rfl⟩
        rw [e, List.cons_append, spq_comma b1 _ (bls_34 h1) (bls_44 h1)]
      · have e5 : spq false l = addH (b1 ++ [c]) (spq false (t ++ b2)) := by
          rw [e, spq_out b1 _ (bls_34 h1) (bls_44 h1), List.cons_append, spq, if_neg (by simp [h44]), if_neg hq, addH_add]
        cases hs : spq false (t ++ b2) with
        | nil => exact absurd hs (spq_ne _ _)
        | cons x q =>
          rw [hs] at e5
          refine ⟨_, _, e5, ?_⟩
          rw [List.append_assoc, trim_front _ _ h1, List.singleton_append, trim_cons _ _ hc]
          apply tagB_none
          rw [cutT, if_neg hq]

/-- Both readings are one. -/
theorem tgs_spq : ∀ (f : Nat) (l : List UInt8) (acc : List (List UInt8)), l.length < f → acc.length ≤ 5 →
    tgs f l acc = if ((spq false l).map trimL).all tagB = true ∧ acc.length + (spq false l).length ≤ 5 then some (acc ++ (spq false l).map trimL) else none := by
  intro f
  induction f with
  | zero => intro l acc h; omega
  | succ f ih =>
    intro l acc hl ha
    rw [tgs]
    cases hc : cutT (trimL l) with
    | none =>
      obtain ⟨x, q, e, hb⟩ := first_bad hc
      rw [e, if_neg (by simp [hb])]
    | some p =>
      obtain ⟨m, rest⟩ := p
      obtain ⟨e1, hn, hi⟩ := cutT_some hc
      obtain ⟨b1, b2, h1, h2, e⟩ := trim_parts l
      rw [e1] at e
      have e5 : spq false l = addH (b1 ++ tagL m) (spq false (rest ++ b2)) := by
        rw [e, spq_out b1 _ (bls_34 h1) (bls_44 h1), List.append_assoc, spq_tag m _ hn, addH_add]
      have htr : trimL (rest ++ b2) = trimL rest := trim_end _ _ h2
      have hpos : 0 < (spq false l).length := List.length_pos_iff.2 (spq_ne _ _)
      by_cases h5 : acc.length = 5
      · rw [if_neg (by omega)]; simp only [h5, if_true]
      · simp only [h5, if_false]
        by_cases hr0 : trimL rest = []
        · have hb : bls (rest ++ b2) := trim_none (by rw [htr, hr0])
          have e6 := spq_out (rest ++ b2) [] (bls_34 hb) (bls_44 hb)
          rw [List.append_nil] at e6
          rw [e6, spq] at e5
          have e7 : spq false l = [b1 ++ (tagL m ++ (rest ++ b2))] := by rw [e5]; simp [addH]
          have e8 : trimL (b1 ++ (tagL m ++ (rest ++ b2))) = tagL m := by
            rw [trim_front _ _ h1, trim_end _ _ hb]
            have := trim_tag m []
            rw [List.append_nil] at this
            rw [this]; simp [rtr]
          rw [e7, if_pos hr0, if_pos]
          · simp [e8]
          · simp [e8, tagB_one m hn hi]; omega
        · simp only [hr0, if_false]
          cases ht : trimL rest with
          | nil => exact absurd ht hr0
          | cons c r1 =>
            have hcb := trim_head ht
            obtain ⟨b3, b4, h3, h4, e9⟩ := trim_parts rest
            rw [ht] at e9
            by_cases h44 : c = 44
            · subst h44
              have e10 : rest ++ b2 = b3 ++ 44 :: (r1 ++ (b4 ++ b2)) := by rw [e9]; simp
              have e11 : spq false l = (b1 ++ (tagL m ++ b3)) :: spq false (r1 ++ (b4 ++ b2)) := by
                rw [e5, e10, spq_comma b3 _ (bls_34 h3) (bls_44 h3)]; simp [addH]
              have e12 : trimL (b1 ++ (tagL m ++ b3)) = tagL m := by
                rw [trim_front _ _ h1, trim_end _ _ h3]
                have := trim_tag m []
                rw [List.append_nil] at this
                rw [this]; simp [rtr]
              have hlen : (r1 ++ (b4 ++ b2)).length < l.length := by
                rw [e, e9]; simp [tagL]; omega
              simp only [List.head?_cons, if_true, List.tail_cons]
              rw [tgs_trim f r1 (r1 ++ (b4 ++ b2)) _ (trim_end _ _ (bls_app h4 h2)).symm, ih _ _ (by omega) (by simp; omega), e11]
              have ea : (acc ++ [tagL m]).length + (spq false (r1 ++ (b4 ++ b2))).length = acc.length + ((b1 ++ (tagL m ++ b3)) :: spq false (r1 ++ (b4 ++ b2))).length := by simp; omega
              rw [ea]
              simp only [List.map_cons, List.all_cons, e12, tagB_one m hn hi, Bool.true_and, List.append_assoc, List.singleton_append]
            · have e10 : rest ++ b2 = b3 ++ c :: (r1 ++ (b4 ++ b2)) := by rw [e9]; simp
              have : ¬ (c :: r1).head? = some 44 := by simp [h44]
              simp only [this, if_false]
              obtain ⟨b', hb'⟩ : ∃ b' : Bool, (if c = 34 then !false else false) = b' := ⟨_, rfl⟩
              have e11 : spq false (rest ++ b2) = addH (b3 ++ [c]) (spq b' (r1 ++ (b4 ++ b2))) := by
                rw [e10, spq_out b3 _ (bls_34 h3) (bls_44 h3), spq, if_neg (by simp [h44]), hb', addH_add]
              rw [e11, addH_add] at e5
              cases hs : spq b' (r1 ++ (b4 ++ b2)) with
              | nil => exact absurd hs (spq_ne _ _)
              | cons x q =>
                rw [hs] at e5
                have e12 : tagB (trimL ((b1 ++ tagL m ++ (b3 ++ [c])) ++ x)) = false := by
                  have e13 : (b1 ++ tagL m ++ (b3 ++ [c])) ++ x = b1 ++ (tagL m ++ (b3 ++ c :: x)) := by simp
                  rw [e13, trim_front _ _ h1, trim_tag]
                  exact tagB_more m _ hn (rtr_ne _ _ _ hcb)
                rw [e5, addH, if_neg]
                intro hh
                have := hh.1
                rw [List.map_cons, List.all_cons, e12] at this
                cases this
/-- What ParseTags tells, as the document has it. -/
def tagsR (l : List UInt8) : List (List UInt8) × Bool :=
  if l = [42] then ([[42]], true) else match tgs (l.length + 1) l [] with | some x => (x, true) | none => ([], false)
theorem tagsR_star : tagsR [42] = ([[42]], true) := rfl
theorem tagsR_some {l : List UInt8} {x : List (List UInt8)} (h : ¬ l = [42]) (h1 : tgs (l.length + 1) l [] = some x) : tagsR l = (x, true) := by unfold tagsR; rw [if_neg h, h1]
theorem tagsR_none {l : List UInt8} (h : ¬ l = [42]) (h1 : tgs (l.length + 1) l [] = none) : tagsR l = ([], false) := by unfold tagsR; rw [if_neg h, h1]
theorem tagsR_spec {l : List UInt8} (h : ¬ l = [42]) : tagsR l = if ((spq false l).map trimL).all tagB = true ∧ (spq false l).length ≤ 5 then ((spq false l).map trimL, true) else ([], false) := by
  have e := tgs_spq (l.length + 1) l [] (by omega) (by simp)
  rw [List.length_nil, Nat.zero_add, List.nil_append] at e
  by_cases hh : ((spq false l).map trimL).all tagB = true ∧ (spq false l).length ≤ 5
  · rw [if_pos hh] at e ⊢; exact tagsR_some h e
  · rw [if_neg hh] at e ⊢; exact tagsR_none h e
end Go.Proofs.Ytckhjemojopekaa.M
