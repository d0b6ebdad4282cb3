/-
  What stays, what comes, and all of it in order: no program in sight.
-/
import Derived.Test.YtifnolomekhmfaaGreatMathOps
import Derived.Test.YtifnolomekhmfaaGreatMathKids2
namespace Go.Proofs.YtifnolomekhmfaaGreat
open M

theorem deep_iff {p : List ByteArray} {r : Rs} : deepB p r = true ↔ p <+: r.pa := by
  unfold deepB underB sameL
  rw [Bool.or_eq_true, Bool.and_eq_true, decide_eq_true_eq, decide_eq_true_eq, decide_eq_true_eq]
  constructor
  · rintro (h | ⟨_, h⟩)
    · rw [h]; exact List.prefix_refl _
    · exact ⟨r.pa.drop p.length, by conv => { lhs; lhs; rw [← h] }; exact List.take_append_drop _ _⟩
  · rintro ⟨x, hx⟩
    cases x with
    | nil => left; rw [← hx]; simp
    | cons y l => right; rw [← hx]; simp
theorem under_iff {q p : List ByteArray} : underB q p = true ↔ p <+: q ∧ p.length < q.length := by
  unfold underB sameL
  rw [Bool.and_eq_true, decide_eq_true_eq, decide_eq_true_eq]
  constructor
  · rintro ⟨h1, h⟩
    exact ⟨⟨q.drop p.length, by conv => { lhs; lhs; rw [← h] }; exact List.take_append_drop _ _⟩, h1⟩
  · rintro ⟨⟨x, hx⟩, h1⟩
    exact ⟨h1, by rw [← hx]; simp⟩

/-- What stays where p is gone, with all under it. -/
def withoutL (rs : List Rs) (p : List ByteArray) : List Rs := rs.filter fun r => !deepB p r
/-- All: what comes stands together. -/
def aheadB (to : List ByteArray) (r : Rs) : Bool := lessL r.pa to
def wholeL (st : List Rs) (to : List ByteArray) (cs : List Rs) : List Rs := st.takeWhile (aheadB to) ++ (cs ++ st.dropWhile (aheadB to))

theorem lessL_pre : ∀ (a to x : List ByteArray), lessL a to = true → lessL a (to ++ x) = true
  | [], [], _, h => by simp [lessL] at h
  | [], _ :: _, _, _ => by simp [lessL]
  | _ :: _, [], _, h => by simp [lessL] at h
  | u :: a, v :: to, x, h => by
    rw [List.cons_append, lessL] at *
    by_cases e : u = v
    · rw [if_pos e] at *; exact lessL_pre a to x h
    · rw [if_neg e] at *; exact h
theorem lessL_out : ∀ (b to x : List ByteArray), lessL b to = false → ¬ to <+: b → lessL (to ++ x) b = true
  | _, [], _, _, h => absurd (List.nil_prefix) h
  | [], _ :: _, _, h, _ => by simp [lessL] at h
  | u :: b, v :: to, x, h, hp => by
    rw [List.cons_append, lessL] at *
    by_cases e : u = v
    · subst e
      rw [if_pos rfl] at *
      exact lessL_out b to x h (fun hq => hp (by obtain ⟨y, rfl⟩ := hq; exact ⟨y, rfl⟩))
    · rw [if_neg e] at h
      rw [if_neg (fun e' => e e'.symm)]
      cases h2 : lessT v u
      · exact absurd (str_inj (bytesLess_tri _ _ h h2)) e
      · rfl

theorem putR_split {r : Rs} : ∀ {A B : List Rs}, (∀ a ∈ A, lessL a.pa r.pa = true) → (∀ b ∈ B, lessL b.pa r.pa = false) → putR r false (A ++ B) = A ++ r :: notAt r B
  | [], [], _, _ => by simp [putR, notAt]
  | [], b :: B, _, hb => by
    rw [List.nil_append, putR_here (hb b (List.mem_cons_self ..))]; rfl
  | a :: A, B, ha, hb => by
    rw [List.cons_append, putR_less (ha a (List.mem_cons_self ..)), putR_split (fun x hx => ha x (List.mem_cons_of_mem _ hx)) hb]
    rfl
theorem notAt_all {r : Rs} {B : List Rs} (h : ∀ b ∈ B, lessL r.pa b.pa = true) : notAt r B = B := by
  unfold notAt
  rw [List.filter_eq_self]
  intro b hb
  have := h b hb
  unfold sameL
  rw [Bool.not_eq_true', decide_eq_false_iff_not]
  intro e
  rw [e, lessL_irr] at this
  cases this
theorem putR_mid {r : Rs} {A B : List Rs} (ha : ∀ a ∈ A, lessL a.pa r.pa = true) (hb : ∀ b ∈ B, lessL r.pa b.pa = true) : putR r false (A ++ B) = A ++ r :: B := by
  rw [putR_split ha (fun b h => lessL_asym _ _ (hb b h)), notAt_all hb]
theorem ahead_all {st : List Rs} {to : List ByteArray} : ∀ a ∈ st.takeWhile (aheadB to), lessL a.pa to = true := fun a ha => by
  have := List.all_takeWhile (l := st) (p := aheadB to)
  rw [List.all_eq_true] at this
  exact this a ha
theorem behind_all {to : List ByteArray} : ∀ {st : List Rs}, Asc st → ∀ b ∈ st.dropWhile (aheadB to), lessL b.pa to = false
  | [], _, b, hb => by simp at hb
  | x :: st, h, b, hb => by
    rw [List.dropWhile_cons] at hb
    cases e : aheadB to x
    · rw [e] at hb
      simp only [Bool.false_eq_true, if_false] at hb
      rcases List.mem_cons.1 hb with rfl | hm
      · exact e
      · have h1 := (List.pairwise_cons.1 h).1 b hm
        cases h2 : lessL b.pa to
        · rfl
        · have h3 := lessL_trans _ _ _ h1 h2
          unfold aheadB at e
          rw [e] at h3; cases h3
    · rw [e] at hb
      simp only [if_true] at hb
      exact behind_all (List.pairwise_cons.1 h).2 b hb

theorem fold_step {to : List ByteArray} {A B : List Rs} (ha : ∀ a ∈ A, lessL a.pa to = true) (hb : ∀ b ∈ B, lessL b.pa to = false ∧ ¬ to <+: b.pa) : ∀ (cs c0 : List Rs), (∀ c ∈ c0 ++ cs, to <+: c.pa) → Asc (c0 ++ cs) → cs.foldl (fun acc c => putR c false acc) (A ++ (c0 ++ B)) = A ++ ((c0 ++ cs) ++ B)
  | [], c0, _, _ => by simp
  | c :: cs, c0, hp, hA => by
    have hc := hp c (by simp)
    have e : putR c false (A ++ (c0 ++ B)) = A ++ ((c0 ++ [c]) ++ B) := by
      rw [← List.append_assoc]
      obtain ⟨x, hx⟩ := hc
      rw [putR_mid (r := c) (fun a h => ?_) (fun b h => ?_)]
      · simp
      · rcases List.mem_append.1 h with h | h
        · rw [← hx]; exact lessL_pre _ _ _ (ha a h)
        · have := List.pairwise_append.1 hA
          exact this.2.2 a h c (List.mem_cons_self ..)
      · rw [← hx]; exact lessL_out _ _ _ (hb b h).1 (hb b h).2
    rw [List.foldl_cons, e, fold_step ha hb cs (c0 ++ [c]) (by simpa using hp) (by simpa using hA)]
    simp
/-- What comes, put one by one where all else stays, stands together. -/
theorem whole_fold {st cs : List Rs} {to : List ByteArray} (hs : Asc st) (hn : ∀ y ∈ st, deepB to y = false) (hc : ∀ c ∈ cs, deepB to c = true) (hA : Asc cs) : cs.foldl (fun acc c => putR c false acc) st = wholeL st to cs := by
  have := fold_step (to := to) (A := st.takeWhile (aheadB to)) (B := st.dropWhile (aheadB to)) ahead_all (fun b hb => ⟨behind_all hs b hb, fun h => by
    have := hn b (List.dropWhile_subset _ hb)
    rw [deep_iff.2 h] at this; cases this⟩) cs [] (fun c h => deep_iff.1 (hc c (by simpa using h))) (by simpa using hA)
  rw [List.nil_append, List.takeWhile_append_dropWhile] at this
  rw [this]
  rfl

theorem putR_notAt {r : Rs} {rs : List Rs} (h : Asc rs) : putR r false (notAt r rs) = putR r false rs := by
  have e : rs = rs.takeWhile (aheadB r.pa) ++ rs.dropWhile (aheadB r.pa) := (List.takeWhile_append_dropWhile).symm
  generalize hA : rs.takeWhile (aheadB r.pa) = A at e
  generalize hB : rs.dropWhile (aheadB r.pa) = B at e
  have ha : ∀ a ∈ A, lessL a.pa r.pa = true := by rw [← hA]; exact ahead_all
  have hb : ∀ b ∈ B, lessL b.pa r.pa = false := by rw [← hB]; exact behind_all h
  have e1 : notAt r A = A := by
    unfold notAt
    rw [List.filter_eq_self]
    intro a h
    have := ha a h
    unfold sameL
    rw [Bool.not_eq_true', decide_eq_false_iff_not]
    intro e
    rw [e, lessL_irr] at this
    cases this
  have e2 : notAt r rs = A ++ notAt r B := by
    rw [e]; unfold notAt at *; rw [List.filter_append, e1]
  rw [e2, putR_split ha (fun b h => hb b (notAt_mem.1 h).1)]
  conv => { rhs; rw [e] }
  rw [putR_split ha hb]
  congr 2
  unfold notAt
  rw [List.filter_filter]
  simp

/-- Of right things: what something is under is a shelf. -/
theorem under_coll {rs : List Rs} (h : treeB rs = true) {p : List ByteArray} : ∀ (n : Nat) (y : Rs), y ∈ rs → y.pa.length = n → underB y.pa p = true → collB rs p = true := by
  have ha := tree_asc h
  have ht := h
  unfold treeB at ht
  simp only [Bool.and_eq_true, decide_eq_true_eq, List.all_eq_true] at ht
  intro n
  induction n with
  | zero =>
    intro y _ hl hu
    have := (under_iff.1 hu).2
    omega
  | succ n ih =>
    intro y hy hl hu
    obtain ⟨hp, hlt⟩ := under_iff.1 hu
    have hon := ht.2.2.2 y hy
    unfold onB at hon
    have hal : (aboveL y.pa).length = n := by rw [aboveL_len]; omega
    have hpp : p <+: aboveL y.pa := List.prefix_take_iff.2 ⟨hp, by omega⟩
    by_cases e : p.length = n
    · have : p = aboveL y.pa := by
        obtain ⟨x, hx⟩ := hpp
        have hx0 : x = [] := by
          have := congrArg List.length hx
          rw [List.length_append, hal] at this
          exact List.length_eq_zero_iff.1 (by omega)
        rw [← hx, hx0]; simp
      rw [this]; exact hon
    · have hpl : p.length < n := by omega
      rcases (coll_iff ha _).1 hon with h0 | ⟨r, hr, hrp, _⟩
      · rw [hal] at h0; omega
      · exact ih r hr (by rw [hrp, hal]) (under_iff.2 ⟨by rw [hrp]; exact hpp, by rw [hrp, hal]; exact hpl⟩)
theorem without_notAt {rs : List Rs} (h : treeB rs = true) {r : Rs} (hc : collB rs r.pa = false) : withoutL rs r.pa = notAt r rs := by
  unfold withoutL notAt
  refine List.filter_congr fun y hy => ?_
  have : underB y.pa r.pa = false := by
    cases e : underB y.pa r.pa
    · rfl
    · rw [under_coll h _ y hy rfl e] at hc; cases hc
  unfold deepB
  rw [this, Bool.or_false]
theorem without_asc {rs : List Rs} (h : Asc rs) (p : List ByteArray) : Asc (withoutL rs p) := List.Pairwise.filter _ h
theorem without_not {rs : List Rs} (p : List ByteArray) : ∀ y ∈ withoutL rs p, deepB p y = false := fun y hy => by
  have := (List.mem_filter.1 hy).2
  simpa using this
/-- One thing put where no shelf is: what stays, and it. -/
theorem whole_one {rs : List Rs} (h : treeB rs = true) {r : Rs} (hc : collB rs r.pa = false) : wholeL (withoutL rs r.pa) r.pa [r] = putR r false rs := by
  rw [← whole_fold (without_asc (tree_asc h) _) (without_not _) (fun c hc => by rw [List.mem_singleton.1 hc]; exact deep_iff.2 (List.prefix_refl _)) (by simp [Asc])]
  rw [List.foldl_cons, List.foldl_nil, without_notAt h hc, putR_notAt (tree_asc h)]
end Go.Proofs.YtifnolomekhmfaaGreat
