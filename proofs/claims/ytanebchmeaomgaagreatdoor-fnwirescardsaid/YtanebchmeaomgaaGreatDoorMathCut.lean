/-
  Bodies come back of their pieces; what is read stays, whatever comes behind; what is cut asks for more: no program in sight.
-/
import Derived.Test.YtanebchmeaomgaaGreatDoorMathGet
import Derived.Test.YtanebchmeaomgaaGreatDoorMathCutB
import Derived.Test.YtanebchmeaomgaaGreatDoorMathBack
namespace Go.Proofs.YtanebchmeaomgaaGreatDoor.M

theorem getD_take {l : List UInt8} {i k : Nat} (h : k < i) : (l.take i).getD k 0 = l.getD k 0 := by
  simp only [List.getD_eq_getElem?_getD, List.getElem?_take, if_pos h]
/-- A line's end that is not lacking stays. -/
theorem endC_stay {l : List UInt8} {i k : Nat} (h : endC (l.take i) k ≠ 1) : endC l k = endC (l.take i) k := by
  unfold endC at *
  rw [List.length_take] at *
  by_cases h1 : min i l.length ≤ k
  · rw [if_pos h1] at h; exact absurd rfl h
  · rw [if_neg h1] at h
    rw [if_neg h1, if_neg (show ¬ l.length ≤ k by omega), getD_take (show k < i by omega)] at *
    by_cases h2 : l.getD k 0 ≠ 13
    · rw [if_pos h2, if_pos h2]
    · rw [if_neg h2] at h
      rw [if_neg h2, if_neg h2]
      by_cases h3 : min i l.length ≤ k + 1
      · rw [if_pos h3] at h; exact absurd rfl h
      · rw [if_neg h3, if_neg (show ¬ l.length ≤ k + 1 by omega), getD_take (show k + 1 < i by omega)]
theorem endC_here {l : List UInt8} {i k : Nat} (h : endC l k = 0) (hi : k + 2 ≤ i) : endC (l.take i) k = 0 := by
  have hl : k + 2 ≤ l.length := by
    unfold endC at h
    split at h
    · cases h
    · split at h
      · cases h
      · split at h
        · cases h
        · omega
  unfold endC at *
  rw [List.length_take, if_neg (by omega), getD_take (by omega), getD_take (by omega)]
  rw [if_neg (by omega)] at h
  by_cases h2 : l.getD k 0 ≠ 13
  · rw [if_pos h2] at h; cases h
  · rw [if_neg h2] at h ⊢
    rw [if_neg (by omega)] at h ⊢
    exact h

theorem tw_pre (m r : List UInt8) (h : (m.takeWhile (· != 13)).length < m.length) : (m ++ r).takeWhile (· != 13) = m.takeWhile (· != 13) := by
  rw [List.takeWhile_append, if_neg (by omega)]
/-- A word that ends within what is there stays. -/
theorem wordC_stay {l : List UInt8} {i a : Nat} (h : a + (wordC (l.take i) a).length < (l.take i).length) : wordC l a = wordC (l.take i) a := by
  unfold wordC at *
  have hl := List.length_take (i := i) (l := l)
  have e : l.drop a = (l.take i).drop a ++ (l.drop i) := by
    have ha : a ≤ (l.take i).length := by omega
    rw [← List.drop_append_of_le_length ha, List.take_append_drop]
  rw [e]
  refine tw_pre _ _ ?_
  rw [List.length_drop]
  omega
theorem wordC_here {l : List UInt8} {i a : Nat} (h : a + (wordC l a).length < l.length) (hi : a + (wordC l a).length < i) : wordC (l.take i) a = wordC l a := by
  have h1 : wordC l a <+: (l.take i).drop a := by
    have e : (l.take i).drop a = (l.drop a).take (i - a) := by rw [List.drop_take]
    rw [e]
    exact List.prefix_take_iff.2 ⟨List.takeWhile_prefix _, by omega⟩
  obtain ⟨q, hq⟩ := h1
  have hall : ∀ x ∈ wordC l a, (x != 13) = true := fun x hx => List.all_eq_true.1 (List.all_takeWhile (p := (· != 13)) (l := l.drop a)) x hx
  have hql : q ≠ [] := by
    intro e
    have := congrArg List.length hq
    rw [e, List.append_nil, List.length_drop, List.length_take] at this
    omega
  have hq0 : (l.take i).getD (a + (wordC l a).length) 0 = 13 := by rw [getD_take hi]; exact wordC_end h
  show ((l.take i).drop a).takeWhile (· != 13) = wordC l a
  rw [← hq]
  cases q with
  | nil => exact absurd rfl hql
  | cons c r =>
    have hc : c = 13 := by
      have e1 : ((l.take i).drop a).getD (wordC l a).length 0 = c := by
        rw [← hq]; simp [List.getD_eq_getElem?_getD]
      rw [← e1, ← hq0]
      simp only [List.getD_eq_getElem?_getD, List.getElem?_drop]
    subst hc
    rw [List.takeWhile_append_of_pos hall]
    simp

theorem szC_good {l : List UInt8} {a : Nat} (h : szC l a = 0) : a + (wordC l a).length + 2 ≤ l.length ∧ hexB (wordC l a) = true ∧ endC l (a + (wordC l a).length) = 0 := by
  unfold szC at h
  split at h
  · cases h
  · split at h
    · rename_i hx
      refine ⟨?_, hx, h⟩
      unfold endC at h
      split at h
      · cases h
      · split at h
        · cases h
        · split at h
          · cases h
          · omega
    · cases h
theorem hexs_pre {a b : List UInt8} (h : hexs (a ++ b) = true) : hexs a = true := by
  rw [hexs_append, Bool.and_eq_true] at h; exact h.1
/-- The size's line: what does not ask for more stays. -/
theorem szC_stay {l : List UInt8} {i a : Nat} (h : szC (l.take i) a ≠ 1) : szC l a = szC (l.take i) a ∧ (szC l a = 0 → wordC l a = wordC (l.take i) a) := by
  have hl := List.length_take (i := i) (l := l)
  have ha : ¬ (l.take i).length ≤ a := by
    intro e; unfold szC at h; rw [if_pos e] at h; exact h rfl
  have ha' : ¬ l.length ≤ a := by omega
  have hw := wordC_le (l.take i) a
  by_cases hend : a + (wordC (l.take i) a).length < (l.take i).length
  · have e := wordC_stay hend
    refine ⟨?_, fun _ => e⟩
    unfold szC at *
    rw [if_neg ha] at h
    rw [if_neg ha, if_neg ha', e]
    by_cases hx : hexB (wordC (l.take i) a) = true
    · rw [if_pos hx] at h ⊢
      rw [if_pos hx]
      exact endC_stay h
    · rw [if_neg hx, if_neg hx]
  · -- the word goes on to the end of what is there
    have hz : szC (l.take i) a = 400 := by
      unfold szC at *
      rw [if_neg ha] at h ⊢
      by_cases hx : hexB (wordC (l.take i) a) = true
      · rw [if_pos hx] at h
        exfalso; apply h
        unfold endC
        rw [if_pos (by omega)]
      · rw [if_neg hx]
    have hx : hexB (wordC (l.take i) a) = false := by
      cases hb : hexB (wordC (l.take i) a)
      · rfl
      · exfalso; apply h
        unfold szC endC
        rw [if_neg ha, if_pos hb, if_pos (by omega)]
    have hpre : wordC (l.take i) a <+: wordC l a := by
      unfold wordC
      have e : l.drop a = (l.take i).drop a ++ (l.drop i) := by
        rw [← List.drop_append_of_le_length (by omega), List.take_append_drop]
      rw [e, List.takeWhile_append]
      split
      · exact List.prefix_append_of_prefix (List.takeWhile_prefix _)
      · exact List.prefix_rfl
    have hx2 : hexB (wordC l a) = false := by
      obtain ⟨q, hq⟩ := hpre
      cases hb : hexB (wordC l a)
      · rfl
      · rw [← hq] at hb
        simp only [hexB, Bool.and_eq_true, decide_eq_true_eq, List.length_append] at hb
        have h0 : 0 < (wordC (l.take i) a).length := by omega
        have : hexB (wordC (l.take i) a) = true := by
          simp only [hexB, Bool.and_eq_true, decide_eq_true_eq]
          exact ⟨by omega, by omega, hexs_pre hb.2.2⟩
        rw [this] at hx; cases hx
    have hz2 : szC l a = 400 := by
      unfold szC
      rw [if_neg ha', if_neg (by simp [hx2])]
    exact ⟨by rw [hz, hz2], fun e => by rw [hz2] at e; cases e⟩
theorem szC_here {l : List UInt8} {i a : Nat} (h : szC l a = 0) (hi : szP l a ≤ i) : szC (l.take i) a = 0 ∧ wordC (l.take i) a = wordC l a := by
  obtain ⟨h1, h2, h3⟩ := szC_good h
  unfold szP at hi
  have e := wordC_here (l := l) (i := i) (a := a) (by omega) (by omega)
  refine ⟨?_, e⟩
  unfold szC
  rw [List.length_take, if_neg (by omega), e, if_pos h2]
  exact endC_here h3 (by omega)

/-- A piece: what does not ask for more stays. -/
theorem pieceC_stay {l : List UInt8} {i a room : Nat} (h : pieceC (l.take i) a room ≠ 1) : pieceC l a room = pieceC (l.take i) a room ∧ (pieceC l a room = 0 → wordC l a = wordC (l.take i) a ∧ pieceL l a = pieceL (l.take i) a) := by
  have hl := List.length_take (i := i) (l := l)
  by_cases hz : szC (l.take i) a = 0
  · obtain ⟨e1, e2⟩ := szC_stay (l := l) (i := i) (a := a) (by rw [hz]; decide)
    have e := e2 (by rw [e1, hz])
    have eN : szN l a = szN (l.take i) a := by unfold szN; rw [e]
    have eP : szP l a = szP (l.take i) a := by unfold szP; rw [e]
    unfold pieceC at *
    have ez : ¬ ((0 : Int) ≠ 0) := by decide
    rw [hz, if_neg ez] at h
    rw [e1, hz, if_neg ez, if_neg ez, eN, eP]
    by_cases hr : room < szN (l.take i) a
    · rw [if_pos hr, if_pos hr]
      exact ⟨rfl, fun h => by cases h⟩
    · rw [if_neg hr] at h ⊢
      rw [if_neg hr]
      by_cases hs : (l.take i).length < szP (l.take i) a + szN (l.take i) a
      · rw [if_pos hs] at h; exact absurd rfl h
      · rw [if_neg hs] at h ⊢
        rw [if_neg (by omega)]
        refine ⟨endC_stay h, fun _ => ⟨e, ?_⟩⟩
        unfold pieceL
        rw [eN, eP, List.drop_take, List.take_take]
        congr 1
        omega
  · have h1 : szC (l.take i) a ≠ 1 := by
      intro e; unfold pieceC at h; rw [if_pos hz] at h; exact h e
    obtain ⟨e1, e2⟩ := szC_stay h1
    unfold pieceC
    rw [if_pos hz, e1, if_pos hz]
    exact ⟨rfl, fun e => absurd e hz⟩
theorem pieceC_good {l : List UInt8} {a room : Nat} (h : pieceC l a room = 0) : szC l a = 0 ∧ szN l a ≤ room ∧ szP l a + szN l a + 2 ≤ l.length ∧ endC l (szP l a + szN l a) = 0 := by
  unfold pieceC at h
  split at h
  · rename_i hz; exact absurd h hz
  · rename_i hz
    split at h
    · cases h
    · split at h
      · cases h
      · refine ⟨by simpa using hz, by omega, ?_, h⟩
        unfold endC at h
        split at h
        · cases h
        · split at h
          · cases h
          · split at h
            · cases h
            · omega
theorem pieceC_here {l : List UInt8} {i a room : Nat} (h : pieceC l a room = 0) (hi : szP l a + szN l a + 2 ≤ i) : pieceC (l.take i) a room = 0 ∧ wordC (l.take i) a = wordC l a ∧ pieceL (l.take i) a = pieceL l a := by
  obtain ⟨h1, h2, h3, h4⟩ := pieceC_good h
  obtain ⟨e1, e⟩ := szC_here (i := i) h1 (by omega)
  have eN : szN (l.take i) a = szN l a := by unfold szN; rw [e]
  have eP : szP (l.take i) a = szP l a := by unfold szP; rw [e]
  refine ⟨?_, e, ?_⟩
  · unfold pieceC
    rw [e1, if_neg (by decide), eN, eP, if_neg (by omega), List.length_take, if_neg (by omega)]
    exact endC_here h4 (by omega)
  · unfold pieceL
    rw [eN, eP, List.drop_take, List.take_take]
    congr 1
    omega

/-- A body: what does not ask for more stays. -/
theorem getC_stay {l : List UInt8} {i : Nat} : ∀ f a body, (getC f (l.take i) a body).2.2 ≠ 1 → getC f l a body = getC f (l.take i) a body := by
  intro f
  induction f with
  | zero => intro a body _; rfl
  | succ f ih =>
    intro a body h
    rw [getC] at h
    rw [getC, getC]
    by_cases hp : pieceC (l.take i) a (200 - body.length) ≠ 0
    · rw [if_pos hp] at h ⊢
      obtain ⟨e1, _⟩ := pieceC_stay (l := l) h
      rw [e1, if_pos hp]
    · rw [if_neg hp] at h ⊢
      have hp0 : pieceC (l.take i) a (200 - body.length) = 0 := by simpa using hp
      obtain ⟨e1, e2⟩ := pieceC_stay (l := l) (i := i) (a := a) (room := 200 - body.length) (by rw [hp0]; decide)
      obtain ⟨e3, e4⟩ := e2 (by rw [e1, hp0])
      have eN : szN l a = szN (l.take i) a := by unfold szN; rw [e3]
      have eP : szP l a = szP (l.take i) a := by unfold szP; rw [e3]
      rw [e1, if_neg hp, eN, eP, e4]
      by_cases hn : szN (l.take i) a = 0
      · rw [if_pos hn, if_pos hn]
      · rw [if_neg hn] at h ⊢
        rw [if_neg hn]
        exact ih _ _ h
/-- A body that is all there is read, whatever is cut behind. -/
theorem getC_here {l : List UInt8} {i : Nat} : ∀ f a body, (getC f l a body).2.2 = 0 → (getC f l a body).2.1 ≤ i → getC f (l.take i) a body = getC f l a body := by
  intro f
  induction f with
  | zero => intro a body _ _; rfl
  | succ f ih =>
    intro a body h hi
    rw [getC] at h hi
    rw [getC, getC]
    by_cases hp : pieceC l a (200 - body.length) ≠ 0
    · rw [if_pos hp] at h; exact absurd h hp
    · rw [if_neg hp] at h hi
      have hp0 : pieceC l a (200 - body.length) = 0 := by simpa using hp
      by_cases hn : szN l a = 0
      · rw [if_pos hn] at h hi
        obtain ⟨e1, e3, e4⟩ := pieceC_here (i := i) hp0 (by rw [hn]; exact hi)
        have eN : szN (l.take i) a = szN l a := by unfold szN; rw [e3]
        have eP : szP (l.take i) a = szP l a := by unfold szP; rw [e3]
        rw [e1, if_neg (by decide), eN, eP, if_pos hn, if_neg hp, if_pos hn]
      · rw [if_neg hn] at h hi
        have hb := getC_end f _ _ h
        obtain ⟨e1, e3, e4⟩ := pieceC_here (i := i) hp0 (by omega)
        have eN : szN (l.take i) a = szN l a := by unfold szN; rw [e3]
        have eP : szP (l.take i) a = szP l a := by unfold szP; rw [e3]
        rw [e1, if_neg (by decide), eN, eP, if_neg hn, if_neg hp, if_neg hn, e4]
        exact ih _ _ h hi
where
  getC_end {l : List UInt8} : ∀ f a body, (getC f l a body).2.2 = 0 → a ≤ (getC f l a body).2.1 := by
    intro f
    induction f with
    | zero => intro a body h; simp [getC] at h
    | succ f ih =>
      intro a body h
      rw [getC] at h ⊢
      split at h
      · rename_i hp; exact absurd h hp
      · rename_i hp
        rw [if_neg hp]
        split at h
        · rename_i hn; rw [if_pos hn]; show a ≤ szP l a + 2; unfold szP; omega
        · rename_i hn
          rw [if_neg hn]
          have := ih _ _ h
          unfold szP at this ⊢
          omega

theorem getC_size {l : List UInt8} : ∀ f a body, (getC f l a body).2.2 = 0 → (getC f l a body).2.1 ≤ l.length ∧ (body.length ≤ 200 → (getC f l a body).1.length ≤ 200) := by
  intro f
  induction f with
  | zero => intro a body h; simp [getC] at h
  | succ f ih =>
    intro a body h
    rw [getC] at h ⊢
    split at h
    · rename_i hp; exact absurd h hp
    · rename_i hp
      have hp0 : pieceC l a (200 - body.length) = 0 := by simpa using hp
      obtain ⟨h1, h2, h3, h4⟩ := pieceC_good hp0
      rw [if_neg hp]
      split at h
      · rename_i hn
        rw [if_pos hn]
        exact ⟨by show szP l a + 2 ≤ _; omega, fun h => h⟩
      · rename_i hn
        rw [if_neg hn]
        obtain ⟨i1, i2⟩ := ih _ _ h
        refine ⟨i1, fun hb => i2 ?_⟩
        have : (pieceL l a).length ≤ szN l a := by unfold pieceL; rw [List.length_take]; omega
        rw [List.length_append]
        omega

theorem word_of {p m q : List UInt8} (h : ∀ x ∈ m, x ≠ 13) : wordC (p ++ (m ++ 13 :: q)) p.length = m := by
  unfold wordC
  rw [List.drop_left, List.takeWhile_append_of_pos (fun x hx => by rw [bne_iff_ne]; exact h x hx)]
  simp
theorem hex_no13 {l : List UInt8} (h : hexs l = true) : ∀ x ∈ l, x ≠ 13 := by
  intro x hx e
  have := List.all_eq_true.1 h x hx
  subst e
  revert this
  decide
theorem end_of (p q : List UInt8) : endC (p ++ 13 :: 10 :: q) p.length = 0 := by
  unfold endC
  simp [List.getD_eq_getElem?_getD]
/-- A piece is read as it was told. -/
theorem piece_of {p m q : List UInt8} {room : Nat} (hm : m.length < 65536) (hr : m.length ≤ room) : pieceC (p ++ (chTxt m ++ q)) p.length room = 0 ∧ szN (p ++ (chTxt m ++ q)) p.length = m.length ∧ szP (p ++ (chTxt m ++ q)) p.length = p.length + (hexDigits m.length).length + 2 ∧ pieceL (p ++ (chTxt m ++ q)) p.length = m := by
  obtain ⟨h1, h2, h3⟩ := hex_back 15 m.length (by omega)
  have h4 := hex_len 3 16 m.length (by omega)
  obtain ⟨D, hD⟩ : ∃ D, hexDigits m.length = D := ⟨_, rfl⟩
  have h1 : hexVal D = m.length := by rw [← hD]; exact h1
  have h2 : hexs D = true := by rw [← hD]; exact h2
  have h3 : 1 ≤ D.length := by rw [← hD]; exact h3
  have h4 : D.length ≤ 4 := by rw [← hD]; exact h4
  have eL : p ++ (chTxt m ++ q) = p ++ (D ++ 13 :: (10 :: (m ++ (13 :: 10 :: q)))) := by
    rw [chTxt, hD]; simp [crlf]
  rw [eL]
  obtain ⟨L, hL⟩ : ∃ L, p ++ (D ++ 13 :: (10 :: (m ++ (13 :: 10 :: q)))) = L := ⟨_, rfl⟩
  have hw : wordC L p.length = D := by rw [← hL]; exact word_of (hex_no13 h2)
  have hlen : L.length = p.length + D.length + 2 + m.length + 2 + q.length := by rw [← hL]; simp only [List.length_append, List.length_cons]; omega
  have e1 : endC L (p.length + D.length) = 0 := by
    have : L = (p ++ D) ++ 13 :: 10 :: (m ++ (13 :: 10 :: q)) := by rw [← hL]; simp
    rw [this, ← List.length_append]
    exact end_of _ _
  have e2 : endC L (p.length + D.length + 2 + m.length) = 0 := by
    have : L = (p ++ D ++ [13, 10] ++ m) ++ 13 :: 10 :: q := by rw [← hL]; simp
    have e : p.length + D.length + 2 + m.length = (p ++ D ++ [13, 10] ++ m).length := by simp only [List.length_append, List.length_cons, List.length_nil]
    rw [e, this]
    exact end_of _ _
  have hb : hexB D = true := by
    simp only [hexB, Bool.and_eq_true, decide_eq_true_eq]
    exact ⟨h3, h4, h2⟩
  have hz : szC L p.length = 0 := by
    unfold szC
    rw [if_neg (by omega), hw, if_pos hb]
    exact e1
  have hN : szN L p.length = m.length := by unfold szN; rw [hw, h1]
  have hP : szP L p.length = p.length + D.length + 2 := by unfold szP; rw [hw]
  rw [hL, hD]
  refine ⟨?_, hN, hP, ?_⟩
  · unfold pieceC
    rw [if_neg (by rw [hz]; decide), hN, hP, if_neg (by omega), if_neg (by omega)]
    exact e2
  · unfold pieceL
    rw [hN, hP]
    have : L = (p ++ D ++ [13, 10]) ++ (m ++ (13 :: 10 :: q)) := by rw [← hL]; simp
    have e : p.length + D.length + 2 = (p ++ D ++ [13, 10]).length := by simp only [List.length_append, List.length_cons, List.length_nil]
    rw [e, this, List.drop_left, List.take_left]

/-- The pieces are read one behind the other. -/
theorem getC_pcs (q : List UInt8) : ∀ (ps : List (List UInt8)) (p body : List UInt8) (f : Nat), (∀ m ∈ ps, m ≠ []) → body.length + ps.flatten.length ≤ 200 → ps.length < f →
    getC f (p ++ (ps.flatMap chTxt ++ (chTxt [] ++ q))) p.length body = (body ++ ps.flatten, p.length + (ps.flatMap chTxt ++ chTxt []).length, 0) := by
  intro ps
  induction ps with
  | nil =>
    intro p body f _ hb hf
    obtain ⟨f, rfl⟩ : ∃ g, f = g + 1 := ⟨f - 1, by simp at hf; omega⟩
    obtain ⟨h1, h2, h3, h4⟩ := piece_of (p := p) (m := []) (q := q) (room := 200 - body.length) (by simp) (by simp)
    rw [List.flatMap_nil, List.nil_append, getC, if_neg (by rw [h1]; decide), if_pos (by rw [h2]; rfl), h3]
    have e : (hexDigits ([] : List UInt8).length).length = 1 := by decide
    rw [e]
    simp [chTxt_nil]
  | cons m ps ih =>
    intro p body f hne hb hf
    obtain ⟨f, rfl⟩ : ∃ g, f = g + 1 := ⟨f - 1, by simp at hf; omega⟩
    rw [List.flatten_cons, List.length_append] at hb
    have hm : m ≠ [] := hne m (by simp)
    have hm1 : m.length ≠ 0 := fun e => hm (List.length_eq_zero_iff.1 e)
    have eL : p ++ ((m :: ps).flatMap chTxt ++ (chTxt [] ++ q)) = p ++ (chTxt m ++ (ps.flatMap chTxt ++ (chTxt [] ++ q))) := by simp
    rw [eL]
    obtain ⟨h1, h2, h3, h4⟩ := piece_of (p := p) (m := m) (q := ps.flatMap chTxt ++ (chTxt [] ++ q)) (room := 200 - body.length) (by omega) (by omega)
    rw [getC, if_neg (by rw [h1]; decide), if_neg (by rw [h2]; exact hm1), h2, h3, h4]
    have hl : (chTxt m).length = (hexDigits m.length).length + 2 + m.length + 2 := by simp only [chTxt, crlf, List.length_append, List.length_cons, List.length_nil]; omega
    have e2 : p.length + (hexDigits m.length).length + 2 + m.length + 2 = (p ++ chTxt m).length := by rw [List.length_append, hl]; omega
    rw [e2, ← List.append_assoc p, ih (p ++ chTxt m) (body ++ m) f (fun x hx => hne x (by simp [hx])) (by rw [List.length_append]; omega) (by simp at hf; omega)]
    simp [List.append_assoc, Nat.add_assoc]
theorem flat_len {ps : List (List UInt8)} (h : ∀ m ∈ ps, m ≠ []) : ps.length ≤ ps.flatten.length := by
  induction ps with
  | nil => simp
  | cons m ps ih =>
    have h1 : 0 < m.length := List.length_pos_iff.2 (h m (by simp))
    have h2 := ih (fun x hx => h x (by simp [hx]))
    simp only [List.length_cons, List.flatten_cons, List.length_append]
    omega
/-- A body comes back of whatever pieces. -/
theorem chunks_back (p q : List UInt8) (ns : List Int) (b : List UInt8) (hb : b.length ≤ 200) : chunksC (p ++ (putCs ns b ++ q)) p.length = (b, p.length + (putCs ns b).length, 0) := by
  unfold chunksC
  rw [if_pos ⟨by omega, by rw [List.length_append]; omega⟩, Int.toNat_natCast]
  have hs := pcsC_sum ns b
  have hl := flat_len (pcsC_ne ns b)
  have e : p ++ (putCs ns b ++ q) = p ++ ((pcsC ns b).flatMap chTxt ++ (chTxt [] ++ q)) := by simp [putCs, pcsTxt]
  rw [e, getC_pcs q (pcsC ns b) p [] 201 (pcsC_ne ns b) (by rw [hs]; simpa using hb) (by rw [hs] at hl; omega), hs]
  rfl
end Go.Proofs.YtanebchmeaomgaaGreatDoor.M
