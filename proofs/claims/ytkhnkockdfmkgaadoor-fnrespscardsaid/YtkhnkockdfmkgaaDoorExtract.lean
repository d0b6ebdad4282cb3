/-
  Plain facts on where a text is cut: no program in sight.
  Numbers come back of their digits; what is trimmed, and made small, stays: no program in sight.
  Plain facts on what stands ahead of a body: where it ends, which lines it has: no program in sight.
  Lines of heads: no program in sight.
  Plain facts on the bytes of an answer: no program in sight.
  Plain facts on what respIn reads: no program in sight.
  Slices of heads: what they hold, and that it stays.
  A store into a row, as the memory has it then.
  Slices of texts: what they hold, and that it stays.
  Rows of bytes that the call itself made: what string(b) gives of one; where the walk wants it.
  Rows of texts that the call itself made: one more behind, one taken away, what it hands on.
  A piece of a text.
-/
import Derived.Test.YtkhnkockdfmkgaaDoorMathGet
import Derived.Test.YtkhnkockdfmkgaaDoorMathHex
import Derived.Test.YtkhnkockdfmkgaaDoorMathTrim
import Derived.Test.YtkhnkockdfmkgaaDoorMathEnd
import Derived.Test.YtkhnkockdfmkgaaDoorMathPut
import Derived.Test.YtkhnkockdfmkgaaDoorRows
import Derived.Test.YtkhnkockdfmkgaaDoorMathReq
import Derived.WalkKit
import Derived.WalkSpells
import Derived.WalkLawsBesides
import Derived.Deep.Light
import Derived.Deep.QuietTactic
import Derived.Deep.OwnRows
import Derived.Scope
import Derived.WalkMore
import Derived.Laws.Rows
import Derived.Laws.ResultCell
import Derived.Lib.BufferWrite
import Derived.Laws.IdiomStrings
import Derived.Laws.BytesArg
import Derived.WalkSmall
import Derived.Laws.OwnMore
namespace Go.Proofs.YtkhnkockdfmkgaaDoor.M

theorem cut1_idx (c : UInt8) : ∀ t : List UInt8, (Lib.index t [c] = -1 ∧ cut1 c t = none) ∨ ∃ i : Nat, Lib.index t [c] = i ∧ i + 1 ≤ t.length ∧ cut1 c t = some (t.take i, t.drop (i + 1)) := by
  intro t
  induction t with
  | nil => left; exact ⟨rfl, rfl⟩
  | cons x r ih =>
    unfold Lib.index
    rw [cut1]
    by_cases hx : x = c
    · right
      refine ⟨0, ?_, by simp, ?_⟩
      · subst hx; simp [List.isPrefixOf]
      · rw [if_pos hx]; simp
    · have hp : List.isPrefixOf [c] (x :: r) = false := by simp [List.isPrefixOf]; exact fun e => hx e.symm
      rw [hp, if_neg hx]
      rcases ih with ⟨h1, h2⟩ | ⟨i, h1, h2, h3⟩
      · left
        rw [h1, h2]
        exact ⟨rfl, rfl⟩
      · right
        refine ⟨i + 1, ?_, by simp; omega, ?_⟩
        · rw [h1]
          have : ((i : Int) == -1) = false := by rw [beq_eq_false_iff_ne]; omega
          simp [this]
        · rw [h3]; simp
theorem cut2_idx : ∀ t : List UInt8, (Lib.index t [13, 10] = -1 ∧ cut2 t = none) ∨ ∃ i : Nat, Lib.index t [13, 10] = i ∧ i + 2 ≤ t.length ∧ cut2 t = some (t.take i, t.drop (i + 2)) := by
  intro t
  induction t with
  | nil => left; exact ⟨rfl, rfl⟩
  | cons x r ih =>
    unfold Lib.index
    rw [cut2]
    by_cases hx : x = 13 ∧ r.head? = some 10
    · right
      obtain ⟨h1, h2⟩ := hx
      cases r with
      | nil => simp at h2
      | cons y q =>
        simp at h2
        subst h1 h2
        exact ⟨0, by simp [List.isPrefixOf], by simp, by simp⟩
    · have hp : List.isPrefixOf [13, 10] (x :: r) = false := by
        cases r with
        | nil => simp [List.isPrefixOf]
        | cons y q =>
          simp only [List.head?_cons, Option.some.injEq] at hx
          rw [Bool.eq_false_iff]
          intro e
          simp [List.isPrefixOf] at e
          exact hx ⟨e.1.symm, e.2.symm⟩
      rw [hp, if_neg hx]
      rcases ih with ⟨h1, h2⟩ | ⟨i, h1, h2, h3⟩
      · left
        rw [h1, h2]
        exact ⟨rfl, rfl⟩
      · right
        refine ⟨i + 1, ?_, by simp; omega, ?_⟩
        · rw [h1]
          have : ((i : Int) == -1) = false := by rw [beq_eq_false_iff_ne]; omega
          simp [this]
        · rw [h3]; simp
/-- What stands ahead of a stop, and behind it. -/
def cutS (sep t : List UInt8) : Option (List UInt8 × List UInt8) := if 0 ≤ Lib.index t sep then some (t.take (Lib.index t sep).toNat, t.drop ((Lib.index t sep).toNat + sep.length)) else none
theorem cutS_one (c : UInt8) (t : List UInt8) : cutS [c] t = cut1 c t := by
  unfold cutS
  rcases cut1_idx c t with ⟨h1, h2⟩ | ⟨i, h1, _, h3⟩
  · rw [h1, h2]; rfl
  · rw [h1, h3, if_pos (by omega), Int.toNat_natCast]; rfl
theorem cutS_two (t : List UInt8) : cutS [13, 10] t = cut2 t := by
  unfold cutS
  rcases cut2_idx t with ⟨h1, h2⟩ | ⟨i, h1, _, h3⟩
  · rw [h1, h2]; rfl
  · rw [h1, h3, if_pos (by omega), Int.toNat_natCast]; rfl
theorem cutS_len {sep t a b : List UInt8} (h : cutS sep t = some (a, b)) : a.length + sep.length + b.length = t.length := by
  unfold cutS at h
  split at h
  · rename_i h0
    have hr := Lib.index_room t sep h0
    cases h
    rw [List.length_take, List.length_drop]
    omega
  · cases h
end Go.Proofs.YtkhnkockdfmkgaaDoor.M
namespace Go.Proofs.YtkhnkockdfmkgaaDoor.M

theorem dec_small (u : Nat) (h : u < 10) : Lib.decDigits u = [UInt8.ofNat (48 + u)] := by
  rw [Lib.decDigits, dif_pos h]
theorem dec_great (u : Nat) (h : ¬ u < 10) : Lib.decDigits u = Lib.decDigits (u / 10) ++ [UInt8.ofNat (48 + u % 10)] := by
  rw [Lib.decDigits, dif_neg h]

theorem digs_append (a b : List UInt8) : digs (a ++ b) = (digs a && digs b) := by simp [digs, allB]
theorem digs_one (d : Nat) (h : d < 10) : digs [UInt8.ofNat (48 + d)] = true := by
  have e : (UInt8.ofNat (48 + d)).toNat = 48 + d := by rw [UInt8.toNat_ofNat']; omega
  have h1 : isB ((UInt8.ofNat (48 + d)).toNat : Int) 4 = true := by
    rw [e]; simp [isB]; omega
  simpa [digs, allB, anyB] using h1
theorem val_one (d : Nat) (h : d < 10) : (UInt8.ofNat (48 + d)).toNat - 48 = d := by
  rw [UInt8.toNat_ofNat']; omega

theorem head_app {a b : List UInt8} (h : a ≠ []) : (a ++ b).head? = a.head? := by
  cases a with
  | nil => exact absurd rfl h
  | cons c r => rfl

theorem dec_back (n : Nat) : ∀ u, u ≤ n → decVal (Lib.decDigits u) = u ∧ digs (Lib.decDigits u) = true ∧ 1 ≤ (Lib.decDigits u).length ∧ (0 < u → (Lib.decDigits u).head? ≠ some 48) := by
  induction n with
  | zero =>
    intro u hu
    obtain rfl : u = 0 := by omega
    rw [dec_small 0 (by decide)]
    exact ⟨by decide, by decide, by decide, fun h => absurd h (by decide)⟩
  | succ n ih =>
    intro u hu
    by_cases h : u < 10
    · rw [dec_small u h]
      refine ⟨?_, digs_one u h, by simp, ?_⟩
      · simp only [decVal, decValF, List.foldl_cons, List.foldl_nil]
        rw [val_one u h]; omega
      · intro h0 e
        have e2 : UInt8.ofNat (48 + u) = 48 := Option.some.inj e
        have := val_one u h
        rw [e2] at this
        simp at this
        omega
    · obtain ⟨h1, h2, h3, h4⟩ := ih (u / 10) (by omega)
      rw [dec_great u h]
      refine ⟨?_, ?_, ?_, ?_⟩
      · rw [decVal_snoc, h1, val_one _ (by omega)]; omega
      · rw [digs_append, h2, digs_one _ (by omega)]; rfl
      · simp
      · intro _
        have hne : Lib.decDigits (u / 10) ≠ [] := by intro e; rw [e] at h3; simp at h3
        rw [head_app hne]
        exact h4 (by omega)

theorem dec_len (k : Nat) : ∀ u, u < 10 ^ (k + 1) → (Lib.decDigits u).length ≤ k + 1 := by
  induction k with
  | zero => intro u hu; rw [dec_small u (by simpa using hu)]; simp
  | succ k ih =>
    intro u hu
    by_cases h : u < 10
    · rw [dec_small u h]; simp
    · rw [dec_great u h]
      have := ih (u / 10) (by rw [Nat.pow_succ] at hu; omega)
      simp; omega

/-- A number below 10000000 comes back of its digits. -/
theorem parse_dec (n : Nat) (most : Int) (h : n < 10000000) (hm : (n : Int) ≤ most) : parseNum (Lib.decDigits n) most = ((n : Int), true) := by
  obtain ⟨h1, h2, h3, h4⟩ := dec_back n n (Nat.le_refl _)
  have h5 := dec_len 6 n (by omega)
  rw [parseNum_yes ⟨h3, h5, h2, ?_, by rw [h1]; exact hm⟩, h1]
  rintro ⟨ha, hb⟩
  refine h4 ?_ hb
  rcases Nat.eq_zero_or_pos n with e | e
  · subst e
    rw [dec_small 0 (by decide)] at ha
    simp at ha
  · exact e

theorem snoc_of {l : List UInt8} (h : l ≠ []) : ∃ m c, l = m ++ [c] := ⟨l.dropLast, l.getLast h, (List.dropLast_concat_getLast h).symm⟩

theorem dec_of (n : Nat) : ∀ l : List UInt8, l.length = n → l ≠ [] → digs l = true → l.head? ≠ some 48 → Lib.decDigits (decVal l) = l ∧ 1 ≤ decVal l := by
  induction n with
  | zero => intro l hl hne; exact absurd (List.length_eq_zero_iff.1 hl) hne
  | succ n ih =>
    intro l hl hne hd hh
    obtain ⟨m, c, rfl⟩ := snoc_of hne
    rw [digs_append] at hd
    have hc : 48 ≤ c.toNat ∧ c.toNat ≤ 57 := (digs_cons c [] (by simp at hd; exact hd.2)).1
    have ec : UInt8.ofNat (48 + (c.toNat - 48)) = c := by
      apply UInt8.toNat_inj.1
      rw [UInt8.toNat_ofNat']; omega
    rw [decVal_snoc]
    by_cases hm : m = []
    · subst hm
      have hv : decVal [] = 0 := rfl
      have hc48 : c.toNat ≠ 48 := by
        intro e
        apply hh
        show some c = some 48
        congr 1
        exact UInt8.toNat_inj.1 e
      rw [hv, dec_small _ (by omega)]
      refine ⟨?_, by omega⟩
      rw [Nat.zero_mul, Nat.zero_add, ec]; rfl
    · have hh2 : m.head? ≠ some 48 := by
        rwa [head_app hm] at hh
      obtain ⟨h1, h2⟩ := ih m (by simp at hl; exact hl) hm (by simp at hd; exact hd.1) hh2
      rw [dec_great _ (by omega)]
      have e1 : (decVal m * 10 + (c.toNat - 48)) / 10 = decVal m := by omega
      have e2 : (decVal m * 10 + (c.toNat - 48)) % 10 = c.toNat - 48 := by omega
      rw [e1, e2, h1, ec]
      exact ⟨rfl, by omega⟩

/-- What ParseNum reads has just these digits. -/
theorem dec_parse {l : List UInt8} {most : Int} (h : parseOk l most) : Lib.decDigits (decVal l) = l := by
  obtain ⟨h1, _, hd, hz, _⟩ := h
  have hne : l ≠ [] := by intro e; rw [e] at h1; simp at h1
  by_cases hh : l.head? = some 48
  · have hlen : l.length = 1 := by
      rcases Nat.lt_or_ge 1 l.length with g | g
      · exact absurd ⟨g, hh⟩ hz
      · omega
    obtain ⟨c, rfl⟩ := List.length_eq_one_iff.1 hlen
    have : c = 48 := Option.some.inj hh
    subst this
    rw [show decVal [48] = 0 from by decide, dec_small 0 (by decide)]
    rfl
  · exact (dec_of l.length l rfl hne hd hh).1

theorem parseOk_of {l : List UInt8} {most : Int} (h : (parseNum l most).2 = true) : parseOk l most ∧ parseNum l most = ((decVal l : Int), true) := by
  cases hb : parseB l most
  · rw [parseNum_no (fun hp => by rw [(parseB_iff l most).2 hp] at hb; cases hb)] at h
    cases h
  · have hp := (parseB_iff l most).1 hb
    exact ⟨hp, parseNum_yes hp⟩

theorem hexCh_ok : ∀ d : Fin 16, isHex (hexCh d.val) = true ∧ hexW (hexCh d.val) = d.val := by decide +kernel
theorem hexs_append (a b : List UInt8) : hexs (a ++ b) = (hexs a && hexs b) := by simp [hexs, allB]
theorem hexs_one (c : UInt8) : hexs [c] = isHex c := by simp [hexs, allB, isHex]

theorem hex_back (f : Nat) : ∀ m, m < 16 ^ (f + 1) → hexVal (hexDig (f + 1) m) = m ∧ hexs (hexDig (f + 1) m) = true ∧ 1 ≤ (hexDig (f + 1) m).length := by
  induction f with
  | zero =>
    intro m hm
    have hm' : m < 16 := by simpa using hm
    have hk := hexCh_ok ⟨m, hm'⟩
    have h2 : hexW (hexCh m) = m := hk.2
    simp only [hexDig, if_pos hm']
    rw [hexs_one]
    refine ⟨?_, hk.1, by simp⟩
    simp only [hexVal, List.foldl_cons, List.foldl_nil]
    rw [h2]; omega
  | succ f ih =>
    intro m hm
    by_cases h : m < 16
    · have hk := hexCh_ok ⟨m, h⟩
      have h2 : hexW (hexCh m) = m := hk.2
      have e : hexDig (f + 1 + 1) m = [hexCh m] := by simp only [hexDig, if_pos h]
      rw [e, hexs_one]
      refine ⟨?_, hk.1, by simp⟩
      simp only [hexVal, List.foldl_cons, List.foldl_nil]
      rw [h2]; omega
    · have e : hexDig (f + 1 + 1) m = hexDig (f + 1) (m / 16) ++ [hexCh (m % 16)] := by
        rw [hexDig, if_neg h]
      obtain ⟨h1, h2, h3⟩ := ih (m / 16) (by rw [Nat.pow_succ] at hm; omega)
      have := hexCh_ok ⟨m % 16, by omega⟩
      rw [e, hexVal_snoc, hexs_append, h1, h2, hexs_one, this.1, this.2]
      refine ⟨?_, rfl, by simp⟩
      show m / 16 * 16 + m % 16 = m
      omega

theorem hex_len (k : Nat) : ∀ f m, m < 16 ^ (k + 1) → (hexDig f m).length ≤ k + 1 := by
  induction k with
  | zero =>
    intro f m hm
    have hm' : m < 16 := by simpa using hm
    cases f with
    | zero => simp [hexDig]
    | succ f => simp only [hexDig, if_pos hm']; simp
  | succ k ih =>
    intro f m hm
    cases f with
    | zero => simp [hexDig]
    | succ f =>
      by_cases h : m < 16
      · simp only [hexDig, if_pos h]; simp
      · have e : hexDig (f + 1) m = hexDig f (m / 16) ++ [hexCh (m % 16)] := by rw [hexDig, if_neg h]
        have := ih f (m / 16) (by rw [Nat.pow_succ] at hm; omega)
        rw [e]
        simp; omega

/-- A number below 65536 comes back of its digits to the base 16. -/
theorem parse_hex (n : Nat) (h : n < 65536) : parseHex (hexDigits n) = ((n : Int), true) := by
  obtain ⟨h1, h2, h3⟩ := hex_back 15 n (by omega)
  have h4 := hex_len 3 16 n (by omega)
  have hb : hexB (hexDigits n) = true := by
    simp only [hexB, Bool.and_eq_true, decide_eq_true_eq]
    exact ⟨h3, h4, h2⟩
  show (if hexB (hexDigits n) then _ else _) = _
  rw [if_pos hb]
  show ((hexVal (hexDig 16 n) : Int), true) = _
  rw [h1]

theorem dropWhile_not (p : UInt8 → Bool) (l : List UInt8) (c : UInt8) (r : List UInt8) (h : l.dropWhile p = c :: r) : p c = false := by
  induction l with
  | nil => simp at h
  | cons a t ih =>
    rw [List.dropWhile_cons] at h
    cases e : p a
    · rw [e] at h
      simp at h
      rw [← h.1]; exact e
    · rw [e] at h
      exact ih h
theorem dropWhile_suffix (p : UInt8 → Bool) (l : List UInt8) : ∃ t, l = t ++ l.dropWhile p := ⟨l.takeWhile p, (List.takeWhile_append_dropWhile).symm⟩

theorem dropWhile_len (p : UInt8 → Bool) (l : List UInt8) : (l.dropWhile p).length ≤ l.length := by
  obtain ⟨t, ht⟩ := dropWhile_suffix p l
  have := congrArg List.length ht
  rw [List.length_append] at this
  omega
theorem trim_len (l : List UInt8) : (trimL l).length ≤ l.length := by
  unfold trimL
  rw [List.length_reverse]
  refine Nat.le_trans (dropWhile_len _ _) ?_
  rw [List.length_reverse]
  exact dropWhile_len _ _

theorem trim_idem (l : List UInt8) : trimL (trimL l) = trimL l := by
  by_cases e : trimL l = []
  · rw [e]; rfl
  · have h0 : 0 < (trimL l).length := List.length_pos_iff.2 e
    -- the last one is no blank
    have hlast : bl ((trimL l)[(trimL l).length - 1]) = false := by
      obtain ⟨m, c, hm⟩ := snoc_of e
      have h1 : (l.dropWhile bl).reverse.dropWhile bl = c :: m.reverse := by
        have h2 : (trimL l).reverse = (l.dropWhile bl).reverse.dropWhile bl := by unfold trimL; rw [List.reverse_reverse]
        rw [← h2, hm]; simp
      have h3 := dropWhile_not bl _ _ _ h1
      have h4 : (trimL l)[(trimL l).length - 1] = c := by
        have : ∀ (x : List UInt8) (hx : x = m ++ [c]) (hl : x.length - 1 < x.length), x[x.length - 1] = c := by
          intro x hx hl
          subst hx
          simp
        exact this _ hm _
      rw [h4]; exact h3
    -- the first one is no blank
    have hfirst : bl ((trimL l)[0]) = false := by
      obtain ⟨t, ht⟩ := dropWhile_suffix bl (l.dropWhile bl).reverse
      have h1 : l.dropWhile bl = trimL l ++ t.reverse := by
        have := congrArg List.reverse ht
        rw [List.reverse_reverse, List.reverse_append] at this
        exact this
      have h2 : ∀ (x : List UInt8) (hx : x = trimL l) (hl : 0 < x.length), bl x[0] = false := by
        intro x hx hl
        cases x with
        | nil => simp at hl
        | cons c r =>
          rw [← hx] at h1
          exact dropWhile_not bl l c (r ++ t.reverse) h1
      exact h2 _ rfl h0
    exact trimL_done _ h0 hfirst hlast
theorem low_idem (l : List UInt8) : lowL (lowL l) = lowL l := by
  simp only [lowL, List.map_map]
  apply List.map_congr_left
  intro c _
  show lowB (lowB c) = lowB c
  cases h : isB (c.toNat : Int) 3
  · rw [lowB_no c h, lowB_no c h]
  · apply lowB_no
    have h1 := lowB_yes c h
    have h2 := isB3 h
    have e : ((lowB c).toNat : Int) = (c.toNat : Int) + 32 := by rw [h1]; simp
    rw [e]
    simp [isB]; omega

end Go.Proofs.YtkhnkockdfmkgaaDoor.M
namespace Go.Proofs.YtkhnkockdfmkgaaDoor.M

theorem idx_skip {x : UInt8} {r p : List UInt8} {n : Nat} (h : p.isPrefixOf (x :: r) = false) (hr : Lib.index r p = n) : Lib.index (x :: r) p = ((n + 1 : Nat) : Int) := by
  unfold Lib.index
  rw [h, hr]
  have : ((n : Int) == -1) = false := by rw [beq_eq_false_iff_ne]; omega
  simp [this]
theorem idx_hit {l p : List UInt8} (hp : p ≠ []) (h : p.isPrefixOf l = true) : Lib.index l p = 0 := by
  cases l with
  | nil => cases p with
    | nil => exact absurd rfl hp
    | cons _ _ => simp [List.isPrefixOf] at h
  | cons x r => unfold Lib.index; rw [h]; rfl
theorem pre_no {c x : UInt8} {p r : List UInt8} (h : x ≠ c) : (c :: p).isPrefixOf (x :: r) = false := by
  rw [Bool.eq_false_iff]
  intro e
  simp [List.isPrefixOf] at e
  exact h e.1.symm
theorem idx_word {c : UInt8} {p r : List UInt8} {n : Nat} (hr : Lib.index r (c :: p) = n) : ∀ a : List UInt8, c ∉ a → Lib.index (a ++ r) (c :: p) = ((a.length + n : Nat) : Int) := by
  intro a
  induction a with
  | nil => intro _; rw [List.nil_append, hr]; simp
  | cons x a ih =>
    intro h
    have hx : x ≠ c := fun e => h (by rw [e]; simp)
    have := idx_skip (pre_no (p := p) (r := a ++ r) hx) (ih (fun e => h (by simp [e])))
    rw [List.cons_append, this]
    simp
    omega
/-- A word without the stop's first byte is cut off. -/
theorem cutS_word {c : UInt8} {p a b : List UInt8} (h : c ∉ a) : cutS (c :: p) (a ++ (c :: p ++ b)) = some (a, b) := by
  have h0 : Lib.index (c :: p ++ b) (c :: p) = ((0 : Nat) : Int) := idx_hit (by simp) (by rw [List.isPrefixOf_iff_prefix]; exact List.prefix_append _ _)
  have h1 := idx_word h0 a h
  rw [Nat.add_zero] at h1
  unfold cutS
  rw [h1, if_pos (by omega), Int.toNat_natCast, List.take_left']
  · rw [← List.append_assoc, List.drop_left' (by simp)]
  · rfl

/-- The line of a head. -/
def hdLine (h : Hd) : List UInt8 := h.1.data.toList ++ ([58, 32] ++ h.2.data.toList)
theorem hdTxt_line (h : Hd) : hdTxt h = hdLine h ++ [13, 10] := by simp [hdTxt, hdLine, crlf]
theorem hdsTxt_flat (hs : List Hd) : hdsTxt hs = flatE (hs.map hdLine) := by
  unfold hdsTxt flatE
  rw [List.flatMap_map]
  congr 1
  funext h
  exact hdTxt_line h
theorem flatE_cons (x : List UInt8) (L : List (List UInt8)) : flatE (x :: L) = x ++ (13 :: 10 :: flatE L) := by simp [flatE]

def lineOk (x : List UInt8) : Prop := x ≠ [] ∧ 13 ∉ x
theorem two4_no {x : UInt8} {T : List UInt8} (h : x ≠ 13) : two4.isPrefixOf (13 :: 10 :: x :: T) = false := by
  rw [Bool.eq_false_iff]
  intro e
  simp [two4, List.isPrefixOf] at e
  exact h e.1.symm
/-- Behind lines that are not empty: there the first two line's ends are. -/
theorem idx_lines (T : List UInt8) : ∀ (L : List (List UInt8)), L ≠ [] → (∀ x ∈ L, lineOk x) → ∃ n : Nat, Lib.index (flatE L ++ (13 :: 10 :: T)) two4 = n ∧ n + 2 = (flatE L).length := by
  intro L
  induction L with
  | nil => intro h; exact absurd rfl h
  | cons x L ih =>
    intro _ hL
    have hx := hL x (by simp)
    by_cases hn : L = []
    · subst hn
      refine ⟨x.length, ?_, by simp [flatE]⟩
      have h0 : Lib.index (13 :: 10 :: 13 :: 10 :: T) two4 = ((0 : Nat) : Int) := idx_hit (by simp [two4]) (by simp [two4, List.isPrefixOf])
      have := idx_word (c := 13) (p := [10, 13, 10]) h0 x hx.2
      rw [Nat.add_zero] at this
      rw [← this]
      simp [flatE, two4]
    · obtain ⟨n, h1, h2⟩ := ih hn (fun y hy => hL y (by simp [hy]))
      obtain ⟨y, M, rfl⟩ : ∃ y M, L = y :: M := by
        cases L with
        | nil => exact absurd rfl hn
        | cons y M => exact ⟨y, M, rfl⟩
      obtain ⟨hy1, hy2⟩ := hL y (by simp)
      obtain ⟨c, y', rfl⟩ : ∃ c y', y = c :: y' := by
        cases y with
        | nil => exact absurd rfl hy1
        | cons c y' => exact ⟨c, y', rfl⟩
      have hc : c ≠ 13 := fun e => hy2 (by rw [e]; simp)
      obtain ⟨T', hT'⟩ : ∃ T', flatE ((c :: y') :: M) ++ (13 :: 10 :: T) = c :: T' := ⟨_, by rw [flatE_cons, List.cons_append, List.cons_append]⟩
      rw [hT'] at h1
      have i1 : Lib.index (10 :: c :: T') two4 = ((n + 1 : Nat) : Int) := idx_skip (pre_no (by decide)) h1
      have i2 : Lib.index (13 :: 10 :: c :: T') two4 = ((n + 1 + 1 : Nat) : Int) := idx_skip (two4_no hc) i1
      have i3 := idx_word (c := 13) (p := [10, 13, 10]) i2 x hx.2
      refine ⟨x.length + (n + 1 + 1), ?_, ?_⟩
      · rw [← i3, flatE_cons]
        simp only [List.append_assoc, List.cons_append, hT']
        rfl
      · rw [flatE_cons]
        simp only [List.length_append, List.length_cons]
        omega
theorem lines_word {x : List UInt8} (h : 13 ∉ x) : linesL x = [x] := by
  induction x with
  | nil => rfl
  | cons c r ih =>
    cases r with
    | nil => rfl
    | cons d r =>
      rw [linesL, if_neg (fun e => h (by rw [e.1]; simp)), ih (fun e => h (by simp [e]))]
theorem lines_app {x : List UInt8} (T : List UInt8) (h : 13 ∉ x) : linesL (x ++ 13 :: 10 :: T) = x :: linesL T := by
  induction x with
  | nil => rw [List.nil_append, linesL, if_pos ⟨rfl, rfl⟩]
  | cons c r ih =>
    have hr := ih (fun e => h (by simp [e]))
    have hc : ¬ c = 13 := fun e => h (by rw [e]; simp)
    cases r with
    | nil =>
      rw [List.nil_append] at hr
      rw [List.cons_append, List.nil_append, linesL, if_neg (fun e => hc e.1), hr]
    | cons d r =>
      rw [List.cons_append] at hr
      rw [List.cons_append, List.cons_append, linesL, if_neg (fun e => hc e.1), hr]
/-- The lines, without the last one's end. -/
theorem lines_flat : ∀ (L : List (List UInt8)) (t : List UInt8), L ≠ [] → (∀ x ∈ L, 13 ∉ x) → t ++ [13, 10] = flatE L → linesL t = L := by
  intro L
  induction L with
  | nil => intro t h; exact absurd rfl h
  | cons x L ih =>
    intro t _ hL ht
    by_cases hn : L = []
    · subst hn
      have : t = x := by
        rw [flatE_cons] at ht
        exact List.append_cancel_right (show t ++ [13, 10] = x ++ [13, 10] from ht)
      rw [this]
      exact lines_word (hL x (by simp))
    · obtain ⟨t', ht'⟩ : ∃ t', flatE L = t' ++ [13, 10] := by
        refine ⟨(flatE L).dropLast.dropLast, ?_⟩
        obtain ⟨M, y, rfl⟩ : ∃ M y, L = M ++ [y] := ⟨L.dropLast, L.getLast hn, (List.dropLast_concat_getLast hn).symm⟩
        have : flatE (M ++ [y]) = (flatE M ++ y ++ [13]) ++ [10] := by simp [flatE]
        rw [this, List.dropLast_concat, List.dropLast_concat]
        simp
      rw [flatE_cons, ht'] at ht
      have : t = x ++ 13 :: 10 :: t' := by
        apply List.append_cancel_right (bs := [13, 10])
        rw [ht]
        simp
      rw [this, lines_app _ (hL x (by simp)), ih t' hn (fun y hy => hL y (by simp [hy])) ht'.symm]

theorem bytesOf_self (s : ByteArray) : bytesOf s.data.toList = s := by
  apply ByteArray.ext; simp [bytesOf]
theorem sm_all {l : List UInt8} (h : smB l = true) : allB l [2, 4, 7] = true ∧ l ≠ [] := by
  cases l with
  | nil => cases h
  | cons c r =>
    simp only [smB, Bool.and_eq_true] at h
    exact ⟨h.2, by simp⟩
theorem hd_facts {h : Hd} (hb : hdB h = true) : smB h.1.data.toList = true ∧ 58 ∉ h.1.data.toList ∧ 13 ∉ h.1.data.toList ∧ h.1.data.toList ≠ [] ∧ 13 ∉ h.2.data.toList ∧ trimL h.2.data.toList = h.2.data.toList := by
  simp only [hdB, valB, Bool.and_eq_true, decide_eq_true_eq] at hb
  obtain ⟨h1, h2, h3, h4⟩ := hb
  obtain ⟨h5, h6⟩ := sm_all h1
  exact ⟨h1, allB_no 58 h5 (by decide), allB_no 13 h5 (by decide), h6, allB_no 13 h3 (by decide), h4⟩
theorem hdLine_ok {h : Hd} (hb : hdB h = true) : lineOk (hdLine h) := by
  obtain ⟨_, _, h3, h4, h5, _⟩ := hd_facts hb
  refine ⟨fun e => ?_, fun e => ?_⟩
  · unfold hdLine at e
    exact h4 (List.append_eq_nil_iff.1 e).1
  · unfold hdLine at e
    simp at e
    rcases e with e | e
    · exact h3 (by simpa using e)
    · exact h5 (by simpa using e)
end Go.Proofs.YtkhnkockdfmkgaaDoor.M
namespace Go.Proofs.YtkhnkockdfmkgaaDoor.M

/-- Lines with their ends, and an end. -/
def linesTxt (top : List UInt8) (hs hs2 : List Hd) : List UInt8 := top ++ (crlf ++ (hdsTxt hs ++ (hdsTxt hs2 ++ crlf)))
end Go.Proofs.YtkhnkockdfmkgaaDoor.M
namespace Go.Proofs.YtkhnkockdfmkgaaDoor.M

/-- An answer: its code, its heads, its body. -/
structure Rs where
  c : Int
  hs : List Hd
  b : ByteArray
def codeB (c : Int) : Bool := inB c 100 599
def respB (r : Rs) : Bool := codeB r.c && (hdsB r.hs && decide (r.b.size ≤ 400))
def zeroA : Rs := ⟨0, [], ⟨#[]⟩⟩
def topA (c : Int) : List UInt8 := proto ++ (32 :: Lib.decDigits c.toNat)
def lenH (n : Nat) : Hd := (lenName, bytesOf (Lib.decDigits n))
def frontA (r : Rs) : List UInt8 := linesTxt (topA r.c) r.hs [lenH r.b.size]
/-- The bytes of an answer. -/
def putA (r : Rs) : List UInt8 := if respB r = true then frontA r ++ r.b.data.toList else []
def sameA (a b : Rs) : Bool := decide (a.c = b.c) && (sameH a.hs b.hs && decide (a.b = b.b))

theorem dec3 {c : Int} (h : codeB c = true) : c = (c.toNat : Int) ∧ 100 ≤ c.toNat ∧ c.toNat ≤ 599 := by
  simp [codeB, inB] at h
  omega
theorem dec_no13 (n : Nat) : 13 ∉ Lib.decDigits n ∧ 58 ∉ Lib.decDigits n ∧ 32 ∉ Lib.decDigits n ∧ Lib.decDigits n ≠ [] := by
  obtain ⟨_, h2, h3, _⟩ := dec_back n n (Nat.le_refl _)
  refine ⟨allB_no 13 h2 (by decide), allB_no 58 h2 (by decide), allB_no 32 h2 (by decide), fun e => ?_⟩
  rw [e] at h3; simp at h3
theorem dec_three {n : Nat} (h1 : 100 ≤ n) (h2 : n ≤ 599) : (Lib.decDigits n).length = 3 := by
  rw [dec_great n (by omega), dec_great (n / 10) (by omega), dec_small (n / 10 / 10) (by omega)]
  simp
theorem lenH_ok (n : Nat) : lineOk (hdLine (lenH n)) := by
  refine ⟨?_, ?_⟩
  · unfold hdLine lenH lenName; simp
  · have := (dec_no13 n).1
    unfold hdLine lenH lenName bytesOf
    simpa using this
theorem free_hd {h : Hd} (hb : hdFree h = true) : hdB h = true ∧ ¬ h.1 = lenName ∧ ¬ h.1 = codName := by
  simpa [hdFree] using hb
theorem resp_hds {r : Rs} (h : respB r = true) : codeB r.c = true ∧ (∀ x ∈ r.hs, hdFree x = true) ∧ r.hs.length ≤ 8 ∧ r.b.size ≤ 400 := by
  simp only [respB, hdsB, Bool.and_eq_true, decide_eq_true_eq, List.all_eq_true] at h
  exact ⟨h.1, h.2.1.1, h.2.1.2, h.2.2⟩
/-- The lines of an answer. -/
def linesA (r : Rs) : List (List UInt8) := topA r.c :: (r.hs.map hdLine ++ [hdLine (lenH r.b.size)])
theorem front_flat (r : Rs) : frontA r = flatE (linesA r) ++ [13, 10] := by
  unfold frontA linesTxt linesA
  rw [flatE_cons, hdsTxt_flat, hdsTxt_flat]
  simp [flatE, crlf]
theorem topA_ok (c : Int) : lineOk (topA c) := by
  refine ⟨by simp [topA, proto], ?_⟩
  have := (dec_no13 c.toNat).1
  simpa [topA, proto] using this
theorem linesA_ok {r : Rs} (h : respB r = true) : ∀ x ∈ linesA r, lineOk x := by
  obtain ⟨_, h2, _⟩ := resp_hds h
  intro x hx
  rcases List.mem_cons.1 hx with rfl | hx
  · exact topA_ok _
  · rcases List.mem_append.1 hx with hx | hx
    · obtain ⟨y, hy, rfl⟩ := List.mem_map.1 hx
      exact hdLine_ok (free_hd (h2 y hy)).1
    · obtain rfl := List.mem_singleton.1 hx
      exact lenH_ok _
theorem putA_of {r : Rs} (h : respB r = true) : putA r = frontA r ++ r.b.data.toList := if_pos h
theorem putA_no {r : Rs} (h : respB r = false) : putA r = [] := if_neg (by rw [h]; decide)
theorem putA_ne {r : Rs} (h : respB r = true) : putA r ≠ [] := by
  rw [putA_of h]
  intro e
  have := (List.append_eq_nil_iff.1 e).1
  simp [frontA, linesTxt, topA, proto] at this
/-- An answer stands ahead of these bytes. -/
def RespAt (r : Rs) (l : List UInt8) : Prop := respB r = true ∧ ∃ q, l = putA r ++ q
theorem RespAt.flat {r : Rs} {l : List UInt8} (h : RespAt r l) : ∃ q, l = flatE (linesA r) ++ (13 :: 10 :: (r.b.data.toList ++ q)) := by
  obtain ⟨h1, q, rfl⟩ := h
  exact ⟨q, by rw [putA_of h1, front_flat]; simp⟩
/-- Where the first two line's ends are. -/
theorem RespAt.idx {r : Rs} {l : List UInt8} (h : RespAt r l) : Lib.index l two4 + 4 = ((frontA r).length : Int) := by
  obtain ⟨q, e⟩ := h.flat
  obtain ⟨n, h1, h2⟩ := idx_lines (r.b.data.toList ++ q) (linesA r) (by simp [linesA]) (linesA_ok h.1)
  rw [e, h1, front_flat]
  simp
  omega
theorem flatE_end {L : List (List UInt8)} (h : L ≠ []) : ∃ t, flatE L = t ++ [13, 10] := by
  obtain ⟨M, y, rfl⟩ : ∃ M y, L = M ++ [y] := ⟨L.dropLast, L.getLast h, (List.dropLast_concat_getLast h).symm⟩
  exact ⟨flatE M ++ y, by simp [flatE]⟩
theorem RespAt.lines {r : Rs} {l : List UInt8} (h : RespAt r l) : linesL (l.take ((frontA r).length - 4)) = linesA r := by
  obtain ⟨q, e⟩ := h.flat
  have hne : linesA r ≠ [] := by simp [linesA]
  obtain ⟨t, ht⟩ := flatE_end hne
  have : l.take ((frontA r).length - 4) = t := by
    rw [front_flat, e, ht]
    simp
  rw [this]
  exact lines_flat _ t hne (fun x hx => (linesA_ok h.1 x hx).2) ht.symm
theorem RespAt.body {r : Rs} {l : List UInt8} (h : RespAt r l) : (frontA r).length + r.b.size ≤ l.length ∧ (l.drop (frontA r).length).take r.b.size = r.b.data.toList ∧ l.take ((frontA r).length + r.b.size) = putA r := by
  obtain ⟨h1, q, rfl⟩ := h
  have e : r.b.data.toList.length = r.b.size := Array.length_toList
  rw [putA_of h1]
  refine ⟨by simp [e], ?_, ?_⟩
  · rw [List.append_assoc, List.drop_left' rfl, List.take_left' e]
  · rw [List.take_left' (by simp [e])]
theorem topA_len {c : Int} (h : codeB c = true) : (topA c).length = 12 ∧ (topA c).take 9 = proto ++ [32] ∧ (topA c).drop 9 = Lib.decDigits c.toNat := by
  obtain ⟨_, h1, h2⟩ := dec3 h
  have := dec_three h1 h2
  refine ⟨by simp [topA, proto, this], by simp [topA, proto], by simp [topA, proto]⟩
theorem parse_code {c : Int} (h : codeB c = true) (m : Int) (hm : 599 ≤ m) : parseNum (Lib.decDigits c.toNat) m = (c, true) := by
  obtain ⟨h0, h1, h2⟩ := dec3 h
  rw [parse_dec _ _ (by omega) (by omega), ← h0]
theorem parse_len {n : Nat} (h : n ≤ 400) : parseNum (Lib.decDigits n) 400 = ((n : Int), true) := parse_dec _ _ (by omega) (by omega)
/-- A head's line, cut at its first ': '. -/
theorem cut_line {h : Hd} (hc : 58 ∉ h.1.data.toList) : cutS [58, 32] (hdLine h) = some (h.1.data.toList, h.2.data.toList) := by
  exact cutS_word (c := 58) (p := [32]) hc
theorem lenH_no {n : Nat} : 58 ∉ (lenH n).1.data.toList := by show 58 ∉ lenName.data.toList; unfold lenName; decide
theorem cut_hdLine {h k : Hd} (hc : 58 ∉ h.1.data.toList) (kc : 58 ∉ k.1.data.toList) (e : hdLine h = hdLine k) : h = k := by
  have h1 := cut_line hc
  have h2 := cut_line kc
  rw [e, h2] at h1
  have h3 := Option.some.inj h1
  have a := congrArg Prod.fst h3
  have b := congrArg Prod.snd h3
  simp only at a b
  refine Prod.ext ?_ ?_
  · rw [← bytesOf_self h.1, ← bytesOf_self k.1, a]
  · rw [← bytesOf_self h.2, ← bytesOf_self k.2, b]
theorem map_hdLine : ∀ {hs ks : List Hd}, (∀ x ∈ hs, 58 ∉ x.1.data.toList) → (∀ x ∈ ks, 58 ∉ x.1.data.toList) → hs.map hdLine = ks.map hdLine → hs = ks := by
  intro hs
  induction hs with
  | nil => intro ks _ _ e; cases ks with
    | nil => rfl
    | cons _ _ => cases e
  | cons x hs ih =>
    intro ks h1 h2 e
    cases ks with
    | nil => cases e
    | cons y ks =>
      simp only [List.map_cons, List.cons.injEq] at e
      rw [cut_hdLine (h1 x (by simp)) (h2 y (by simp)) e.1, ih (fun z hz => h1 z (by simp [hz])) (fun z hz => h2 z (by simp [hz])) e.2]
/-- There is one answer at most ahead of bytes. -/
theorem RespAt.one {r s : Rs} {l : List UInt8} (h : RespAt r l) (k : RespAt s l) : r = s := by
  have h1 := h.idx
  have k1 := k.idx
  have hlen : (frontA r).length = (frontA s).length := by omega
  have h2 := h.lines
  have k2 := k.lines
  rw [hlen, k2] at h2
  unfold linesA at h2
  obtain ⟨c1, g1, _, z1⟩ := resp_hds h.1
  obtain ⟨c2, g2, _, z2⟩ := resp_hds k.1
  simp only [List.cons.injEq] at h2
  obtain ⟨e1, e2⟩ := h2
  have e3 : (s.hs ++ [lenH s.b.size]).map hdLine = (r.hs ++ [lenH r.b.size]).map hdLine := by simpa using e2
  have n1 : ∀ x ∈ s.hs ++ [lenH s.b.size], 58 ∉ x.1.data.toList := fun x hx => by
    rcases List.mem_append.1 hx with hx | hx
    · exact (hd_facts (free_hd (g2 x hx)).1).2.1
    · obtain rfl := List.mem_singleton.1 hx; exact lenH_no
  have n2 : ∀ x ∈ r.hs ++ [lenH r.b.size], 58 ∉ x.1.data.toList := fun x hx => by
    rcases List.mem_append.1 hx with hx | hx
    · exact (hd_facts (free_hd (g1 x hx)).1).2.1
    · obtain rfl := List.mem_singleton.1 hx; exact lenH_no
  have e4 := map_hdLine n1 n2 e3
  have e5 := List.append_inj' e4 rfl
  have e6 : lenH s.b.size = lenH r.b.size := by simpa using e5.2
  have e7 : Lib.decDigits s.b.size = Lib.decDigits r.b.size := by
    have := congrArg (fun x : Hd => x.2.data.toList) e6
    simpa [lenH, bytesOf] using this
  have e8 : r.b.size = s.b.size := by
    have p1 := parse_len z1
    have p2 := parse_len z2
    rw [e7, p1] at p2
    have := congrArg Prod.fst p2
    simp only at this
    omega
  have e9 : r.c = s.c := by
    have p1 := parse_code c1 599 (by omega)
    have p2 := parse_code c2 599 (by omega)
    have t1 := (topA_len c1).2.2
    have t2 := (topA_len c2).2.2
    rw [← e1, t2] at t1
    rw [← t1, p2] at p1
    exact (congrArg Prod.fst p1).symm
  have e10 : r.b = s.b := by
    have b1 := h.body.2.1
    have b2 := k.body.2.1
    rw [hlen, e8, b2] at b1
    rw [← bytesOf_self r.b, ← bytesOf_self s.b, b1]
  cases r
  cases s
  simp only at e9 e10 e5
  rw [e9, e10, e5.1]
open Classical in
/-- What GetResp answers. -/
noncomputable def getA (l : List UInt8) : Rs × Nat × Bool := if h : ∃ r, RespAt r l then (h.choose, (putA h.choose).length, true) else (zeroA, 0, false)
theorem getA_yes {r : Rs} {l : List UInt8} (h : RespAt r l) : getA l = (r, (putA r).length, true) := by
  have hx : ∃ r, RespAt r l := ⟨r, h⟩
  unfold getA
  rw [dif_pos hx, hx.choose_spec.one h]
theorem getA_no {l : List UInt8} (h : ∀ r, ¬ RespAt r l) : getA l = (zeroA, 0, false) := by
  unfold getA
  rw [dif_neg (fun ⟨r, hr⟩ => h r hr)]
theorem respAt_pre {r : Rs} {l : List UInt8} (h : respB r = true) (hp : (putA r).isPrefixOf l = true) : RespAt r l := by
  rw [List.isPrefixOf_iff_prefix] at hp
  obtain ⟨q, e⟩ := hp
  exact ⟨h, q, e.symm⟩
/-- What is left where k heads are read. -/
def leftA (r : Rs) (k : Nat) (q : List UInt8) : List UInt8 := hdsTxt (r.hs.drop k) ++ (hdTxt (lenH r.b.size) ++ (crlf ++ (r.b.data.toList ++ q)))
theorem RespAt.cut0 {r : Rs} {l : List UInt8} (h : RespAt r l) : ∃ q, cutS [32] l = some (proto, Lib.decDigits r.c.toNat ++ (crlf ++ leftA r 0 q)) ∧ cutS crlf (Lib.decDigits r.c.toNat ++ (crlf ++ leftA r 0 q)) = some (Lib.decDigits r.c.toNat, leftA r 0 q) := by
  obtain ⟨h1, q, rfl⟩ := h
  refine ⟨q, ?_, cutS_word (c := 13) (p := [10]) (dec_no13 _).1⟩
  have := cutS_word (c := 32) (p := []) (a := proto) (b := Lib.decDigits r.c.toNat ++ (crlf ++ leftA r 0 q)) (by decide)
  rw [← this, putA_of h1]
  simp [frontA, linesTxt, topA, leftA, hdsTxt]
theorem leftA_cut {r : Rs} (h : respB r = true) (k : Nat) (hk : k < r.hs.length) (q : List UInt8) : cutS [58, 32] (leftA r k q) = some ((r.hs[k]).1.data.toList, (r.hs[k]).2.data.toList ++ (crlf ++ leftA r (k + 1) q)) ∧ cutS crlf ((r.hs[k]).2.data.toList ++ (crlf ++ leftA r (k + 1) q)) = some ((r.hs[k]).2.data.toList, leftA r (k + 1) q) ∧ ¬ (r.hs[k]).1 = lenName := by
  obtain ⟨_, g, _⟩ := resp_hds h
  obtain ⟨f1, f2, _⟩ := free_hd (g _ (List.getElem_mem hk))
  obtain ⟨_, n1, _, _, n2, _⟩ := hd_facts f1
  refine ⟨?_, cutS_word (c := 13) (p := [10]) n2, f2⟩
  have := cutS_word (c := 58) (p := [32]) (a := (r.hs[k]).1.data.toList) (b := (r.hs[k]).2.data.toList ++ (crlf ++ leftA r (k + 1) q)) n1
  rw [← this]
  unfold leftA
  have e : hdsTxt (r.hs.drop k) = hdTxt r.hs[k] ++ hdsTxt (r.hs.drop (k + 1)) := by
    unfold hdsTxt
    rw [List.drop_eq_getElem_cons hk, List.flatMap_cons]
  rw [e]
  simp only [hdTxt, List.append_assoc]
theorem leftA_last (r : Rs) (q : List UInt8) : cutS [58, 32] (leftA r r.hs.length q) = some (lenName.data.toList, Lib.decDigits r.b.size ++ (crlf ++ (crlf ++ (r.b.data.toList ++ q)))) ∧ cutS crlf (Lib.decDigits r.b.size ++ (crlf ++ (crlf ++ (r.b.data.toList ++ q)))) = some (Lib.decDigits r.b.size, crlf ++ (r.b.data.toList ++ q)) := by
  refine ⟨?_, cutS_word (c := 13) (p := [10]) (dec_no13 _).1⟩
  have := cutS_word (c := 58) (p := [32]) (a := lenName.data.toList) (b := Lib.decDigits r.b.size ++ (crlf ++ (crlf ++ (r.b.data.toList ++ q)))) (by decide)
  rw [← this]
  unfold leftA
  rw [List.drop_of_length_le (Nat.le_refl _)]
  simp [hdsTxt, hdTxt, lenH, bytesOf]
end Go.Proofs.YtkhnkockdfmkgaaDoor.M
namespace Go.Proofs.YtkhnkockdfmkgaaDoor.M

/-- The bytes without a line's end ahead of them. -/
def stripE (t : List UInt8) : List UInt8 := if crlf.isPrefixOf t then t.drop 2 else t
/-- What stands behind the heads, of a told length. -/
def bodyBh (t s : List UInt8) : List UInt8 := (stripE t).take (parseNum s 400).1.toNat
theorem stripE_crlf (t : List UInt8) : stripE (crlf ++ t) = t := by
  unfold stripE
  have : crlf.isPrefixOf (crlf ++ t) = true := by rw [List.isPrefixOf_iff_prefix]; exact List.prefix_append _ _
  rw [if_pos this]
  rfl
theorem bodyBh_is {b : ByteArray} (h : b.size ≤ 400) (q : List UInt8) : bodyBh (crlf ++ (b.data.toList ++ q)) (Lib.decDigits b.size) = b.data.toList := by
  have e : b.data.toList.length = b.size := Array.length_toList
  unfold bodyBh
  rw [stripE_crlf, parse_len h, Int.toNat_natCast, List.take_left' e]
/-- What the reading of an answer has come to where k heads are read. -/
def ReadTo (l : List UInt8) (c : Int) (k : Nat) (hs : List Hd) (t : List UInt8) : Prop := ∀ q, RespAt q l → q.c = c ∧ k ≤ q.hs.length ∧ hs = q.hs.take k ∧ ∃ z, t = leftA q k z
theorem ReadTo.start {l t1 t2 w2 : List UInt8} (h1 : ∀ a b, cutS [32] l = some (a, b) → t1 = b) (h2 : ∀ a b, cutS crlf t1 = some (a, b) → w2 = a ∧ t2 = b) : ReadTo l (parseNum w2 600).1 0 [] t2 := by
  intro q hq
  obtain ⟨z, c1, c2⟩ := hq.cut0
  have e1 := h1 _ _ c1
  subst e1
  obtain ⟨e2, e3⟩ := h2 _ _ c2
  subst e2 e3
  refine ⟨?_, Nat.zero_le _, rfl, z, rfl⟩
  rw [parse_code (resp_hds hq.1).1 600 (by decide)]
/-- One head more. -/
theorem ReadTo.more {l t t1 t2 : List UInt8} {c : Int} {k : Nat} {hs : List Hd} {x y : ByteArray} (h : ReadTo l c k hs t) (h1 : ∀ a b, cutS [58, 32] t = some (a, b) → x = bytesOf a ∧ t1 = b) (h2 : ∀ a b, cutS crlf t1 = some (a, b) → y = bytesOf a ∧ t2 = b) (hx : ¬ x = lenName) : ReadTo l c (k + 1) (hs ++ [(x, y)]) t2 := by
  intro q hq
  obtain ⟨e0, hk, e1, z, rfl⟩ := h q hq
  by_cases hlt : k < q.hs.length
  · obtain ⟨c1, c2, _⟩ := leftA_cut hq.1 k hlt z
    obtain ⟨e2, e3⟩ := h1 _ _ c1
    subst e3
    obtain ⟨e4, e5⟩ := h2 _ _ c2
    subst e5
    refine ⟨e0, hlt, ?_, z, rfl⟩
    rw [List.take_succ_eq_append_getElem hlt, e1, e2, e4, bytesOf_self, bytesOf_self]
  · have hkk : k = q.hs.length := by omega
    subst hkk
    obtain ⟨c1, _⟩ := leftA_last q z
    obtain ⟨e2, _⟩ := h1 _ _ c1
    rw [bytesOf_self] at e2
    exact absurd e2 hx
/-- The last head, and the body. -/
theorem ReadTo.last {l t t1 t2 : List UInt8} {c : Int} {k : Nat} {hs : List Hd} {x y : ByteArray} (h : ReadTo l c k hs t) (h1 : ∀ a b, cutS [58, 32] t = some (a, b) → x = bytesOf a ∧ t1 = b) (h2 : ∀ a b, cutS crlf t1 = some (a, b) → y = bytesOf a ∧ t2 = b) (hx : x = lenName) : ∀ q, RespAt q l → (⟨c, hs, bytesOf (bodyBh t2 y.data.toList)⟩ : Rs) = q := by
  intro q hq
  obtain ⟨e0, hk, e1, z, rfl⟩ := h q hq
  by_cases hlt : k < q.hs.length
  · obtain ⟨c1, c2, hn⟩ := leftA_cut hq.1 k hlt z
    obtain ⟨e2, _⟩ := h1 _ _ c1
    rw [bytesOf_self] at e2
    exact absurd (e2.symm.trans hx) hn
  · have hkk : k = q.hs.length := by omega
    subst hkk
    obtain ⟨c1, c2⟩ := leftA_last q z
    obtain ⟨_, e3⟩ := h1 _ _ c1
    subst e3
    obtain ⟨e4, e5⟩ := h2 _ _ c2
    subst e4 e5
    obtain ⟨_, _, _, hb⟩ := resp_hds hq.1
    rw [List.take_of_length_le (Nat.le_refl _)] at e1
    have e6 : bodyBh (crlf ++ (q.b.data.toList ++ z)) (bytesOf (Lib.decDigits q.b.size)).data.toList = q.b.data.toList := bodyBh_is hb z
    rw [e6, bytesOf_self, e1, ← e0]
theorem ReadTo.none {l t : List UInt8} {c : Int} {k : Nat} {hs : List Hd} (h : ReadTo l c k hs t) (hk : 9 ≤ k) : ∀ q, ¬ RespAt q l := by
  intro q hq
  have := (h q hq).2.1
  have := (resp_hds hq.1).2.2.1
  omega
end Go.Proofs.YtkhnkockdfmkgaaDoor.M
namespace Go.Proofs.YtkhnkockdfmkgaaDoor
open Go.RowKit M

theorem hide {p : Prop} (h : p) : Hid p := h

/-- The heads that a slice holds, in a block below B. -/
def Hds (w : World) (B : Nat) (a : Option Addr) (hs : List Hd) : Prop :=
  0 < hs.length → ∃ b o, a = some ⟨b, o, none⟩ ∧ b < B ∧ ∀ j (hj : j < hs.length), w.cell? ⟨b, o + j * 2, none⟩ = some (.string hs[j].1) ∧ w.cell? ⟨b, o + j * 2 + 1, none⟩ = some (.string hs[j].2)

theorem Hds.below {w w' : World} {B C : Nat} {a : Option Addr} {hs : List Hd} (h : Hds w B a hs) (hb : Below C w w') (hB : B ≤ C) : Hds w' B a hs := fun h0 => by
  obtain ⟨b, o, e, hbB, hc⟩ := h h0
  exact ⟨b, o, e, hbB, fun j hj => ⟨(hb.cell (p := ⟨b, o + j * 2, none⟩) (Nat.lt_of_lt_of_le hbB hB)).trans (hc j hj).1, (hb.cell (p := ⟨b, o + j * 2 + 1, none⟩) (Nat.lt_of_lt_of_le hbB hB)).trans (hc j hj).2⟩⟩
theorem Hds.mono {w : World} {B C : Nat} {a : Option Addr} {hs : List Hd} (h : Hds w B a hs) (hB : B ≤ C) : Hds w C a hs := fun h0 => by
  obtain ⟨b, o, e, hbB, hc⟩ := h h0
  exact ⟨b, o, e, Nat.lt_of_lt_of_le hbB hB, hc⟩

theorem Hds.store {w : World} {B g o : Nat} {hs : List Hd} (h : Hds w B (some ⟨g, o, none⟩) hs) (p : Addr) (v : Value) (hp : p.block ≠ g) : Hds (w.setCell p v) B (some ⟨g, o, none⟩) hs := fun h0 => by
  obtain ⟨b, o', e, hbB, hc⟩ := h h0
  cases e
  exact ⟨g, o, rfl, hbB, fun j hj => ⟨(World.cell?_setCell_other _ _ _ _ (fun e => hp (congrArg Addr.block e))).trans (hc j hj).1, (World.cell?_setCell_other _ _ _ _ (fun e => hp (congrArg Addr.block e))).trans (hc j hj).2⟩⟩

/-- All of them short enough. -/
def ShortH (hs : List Hd) : Prop := ∀ h ∈ hs, h.1.size ≤ maxLen ∧ h.2.size ≤ maxLen
theorem ShortH.at {hs : List Hd} (h : ShortH hs) (k : Nat) (hk : k < hs.length) : (hs[k]).1.size ≤ maxLen ∧ (hs[k]).2.size ≤ maxLen := h _ (List.getElem_mem hk)

/-- A request all of whose parts are short enough. -/
def ShortR (r : Rq) : Prop := r.m.size ≤ maxLen ∧ r.p.size ≤ maxLen ∧ r.b.size ≤ maxLen ∧ r.hs.length ≤ maxLen ∧ ShortH r.hs

/-- The value of a head, and of a request. -/
def hdV (h : Hd) : Value := .agg #[.string h.1, .string h.2]
def rqV (a : Option Addr) (n cap : Nat) (r : Rq) : Value := .agg #[.string r.m, .string r.p, .slice a n cap, .string r.b]

theorem strInj {a b : ByteArray} (h : a.toList = b.toList) : a = b := by
  rw [ByteArray.toList_eq, ByteArray.toList_eq] at h
  exact ByteArray.ext (Array.ext' h)

/-- What was there reads as it did, behind a call that only made memory. -/
theorem bcell {W w1 : World} (hb : Below W.heap.size W w1) : (∀ b o, b < W.heap.size → w1.cell? ⟨b, o, none⟩ = W.cell? ⟨b, o, none⟩) ∧ (∀ b o, b < W.heap.size → w1.frozen? ⟨b, o, none⟩ = W.frozen? ⟨b, o, none⟩) :=
  ⟨fun b o h => hb.cell (p := ⟨b, o, none⟩) h, fun b o h => hb.frozen (p := ⟨b, o, none⟩) h⟩
end Go.Proofs.YtkhnkockdfmkgaaDoor
namespace Go.Proofs.YtkhnkockdfmkgaaDoor
open Go.RowKit M
set_option linter.unusedVariables false

theorem set_heap {w : World} {N : Nat} {cs : Array Value} {t : TypeId} (h : w.heap[N]? = some (.cells cs t)) (k : Nat) (v : Value) : (w.setCell ⟨N, k, none⟩ v).heap[N]? = some (.cells (cs.setIfInBounds k v) t) := by
  rw [setCell_eq_setRow w N k cs t _ v h]
  exact setRow_heap w N cs _ t _ h
theorem set_other {w : World} {N M k : Nat} {o : Obj} (h : w.heap[M]? = some o) (hne : M ≠ N) (v : Value) : (w.setCell ⟨N, k, none⟩ v).heap[M]? = some o := by
  have hb : ((Below.refl (M + 1) w).block M (Nat.lt_succ_self _)) = rfl := rfl
  rcases Nat.lt_or_gt_of_ne hne with hlt | hgt
  · exact (((Below.refl (M + 1) w).setCell (p := ⟨N, k, none⟩) hlt v).block M (Nat.lt_succ_self _)).trans h
  · show (w.heap.modify N _)[M]? = _
    rw [Array.getElem?_modify]
    simp [hne.symm, h]
end Go.Proofs.YtkhnkockdfmkgaaDoor
namespace Go.Proofs.YtkhnkockdfmkgaaDoor
open Go.RowKit

/-- The texts that a slice holds, in a block below B. -/
def Strs (w : World) (B : Nat) (a : Option Addr) (ss : List ByteArray) : Prop :=
  0 < ss.length → ∃ b o, a = some ⟨b, o, none⟩ ∧ b < B ∧ ∀ j (hj : j < ss.length), w.cell? ⟨b, o + j, none⟩ = some (.string ss[j])

theorem Strs.below {w w' : World} {B C : Nat} {a : Option Addr} {ss : List ByteArray} (h : Strs w B a ss) (hb : Below C w w') (hB : B ≤ C) : Strs w' B a ss := fun h0 => by
  obtain ⟨b, o, e, hbB, hc⟩ := h h0
  exact ⟨b, o, e, hbB, fun j hj => (hb.cell (p := ⟨b, o + j, none⟩) (Nat.lt_of_lt_of_le hbB hB)).trans (hc j hj)⟩

theorem Strs.mono {w : World} {B C : Nat} {a : Option Addr} {ss : List ByteArray} (h : Strs w B a ss) (hB : B ≤ C) : Strs w C a ss := fun h0 => by
  obtain ⟨b, o, e, hbB, hc⟩ := h h0
  exact ⟨b, o, e, Nat.lt_of_lt_of_le hbB hB, hc⟩

theorem Strs.take {w : World} {B : Nat} {a : Option Addr} {ss : List ByteArray} (h : Strs w B a ss) (k : Nat) : Strs w B a (ss.take k) := fun h0 => by
  have hl : (ss.take k).length ≤ ss.length := by rw [List.length_take]; omega
  obtain ⟨b, o, e, hbB, hc⟩ := h (by omega)
  exact ⟨b, o, e, hbB, fun j hj => by rw [hc j (by omega), List.getElem_take]⟩

theorem info_str : (Tryd.prog.info? 9).map (fun i => (i.zero, i.size, i.bytes)) = some (some (.string ByteArray.empty), 1, 16) := by kernel_rfl

/-- A row of texts that the call made, as a slice. -/
theorem Strs.row {w : World} {N n C : Nat} {ss : List ByteArray} {f : Nat → Value} (h : w.rowIs N 9 n f) (hn : ss.length ≤ n) (hf : ∀ j (hj : j < ss.length), f j = .string ss[j]) (hN : N < C) : Strs w C (some ⟨N, 0, none⟩) ss := fun _ =>
  ⟨N, 0, rfl, hN, fun j hj => by rw [Nat.zero_add, h.cell (by omega), hf j hj]⟩

/-- All of them short enough. -/
def Short (ss : List ByteArray) : Prop := ∀ s ∈ ss, s.size ≤ maxLen
theorem Short.at {ss : List ByteArray} (h : Short ss) (k : Nat) (hk : k < ss.length) : (ss[k]).size ≤ maxLen := h _ (List.getElem_mem hk)

def sumS (ss : List ByteArray) : Nat := (ss.map (·.size)).sum
theorem sumS_snoc (ss : List ByteArray) (k : Nat) (hk : k < ss.length) : sumS (ss.take (k + 1)) = sumS (ss.take k) + (ss[k]).size := by
  unfold sumS
  rw [List.take_succ_eq_append_getElem hk, List.map_append, List.sum_append]
  simp only [List.map_cons, List.map_nil, List.sum_cons, List.sum_nil, Nat.add_zero]
theorem sumS_all (ss : List ByteArray) (k : Nat) (hk : ¬ k < ss.length) : ss.take k = ss := List.take_of_length_le (by omega)
theorem sumS_mem (ss : List ByteArray) (s : ByteArray) (h : s ∈ ss) : s.size ≤ sumS ss := by
  induction ss with
  | nil => cases h
  | cons x l ih =>
    simp only [sumS, List.map_cons, List.sum_cons] at *
    rcases List.mem_cons.1 h with rfl | h
    · omega
    · have := ih h; omega

theorem str_inj {a b : ByteArray} (h : a.toList = b.toList) : a = b := by
  rw [ByteArray.toList_eq, ByteArray.toList_eq] at h
  exact ByteArray.ext (Array.ext' h)

/-- Whether two lists of texts are the same. -/
def sameL (ss tt : List ByteArray) : Bool := decide (ss = tt)
theorem sameL_refl (ss : List ByteArray) : sameL ss ss = true := by simp [sameL]
theorem sameL_len {ss tt : List ByteArray} (h : ¬ ss.length = tt.length) : sameL ss tt = false := by
  simp only [sameL, decide_eq_false_iff_not]; intro e; exact h (by rw [e])
theorem sameL_not {ss tt : List ByteArray} (k : Nat) (h1 : k < ss.length) (h2 : k < tt.length) (h : ¬ ss[k] = tt[k]) : sameL ss tt = false := by
  simp only [sameL, decide_eq_false_iff_not]; intro e; subst e; exact h rfl
theorem sameL_all {ss tt : List ByteArray} (hl : ss.length = tt.length) (k : Nat) (hk : ¬ k < ss.length) (h : ss.take k = tt.take k) : sameL ss tt = true := by
  rw [List.take_of_length_le (by omega), List.take_of_length_le (by omega)] at h
  simp [sameL, h]
theorem take_same {ss tt : List ByteArray} (k : Nat) (h1 : k < ss.length) (h2 : k < tt.length) (h0 : ss.take k = tt.take k) (h : ss[k] = tt[k]) : ss.take (k + 1) = tt.take (k + 1) := by
  rw [List.take_succ_eq_append_getElem h1, List.take_succ_eq_append_getElem h2, h0, h]
end Go.Proofs.YtkhnkockdfmkgaaDoor
namespace Go.Proofs.YtkhnkockdfmkgaaDoor
open Go.RowKit

theorem ret_str {l m : List UInt8} (h : l = m) : Ending.returned (.string ⟨l.toArray⟩) = .returned (.string ⟨m.toArray⟩) := by rw [h]

/-- 'string(b)' of a row of bytes that the call owns: its bytes; the world is as it was. -/
theorem conv_own {w : World} {B n : Nat} {v : Value} {l : List UInt8} (h : w.ownsRow B 5 1 v n (Lib.byteCells l)) :
    (convert 22 9 v).run Tryd.prog w = .ok (.string ⟨l.toArray⟩) w := by
  have hn : n = l.length := by have := h.1; rw [Lib.byteCells_length] at this; omega
  subst hn
  rcases h.2 with ⟨rfl, h0⟩ | ⟨g, cap, cur, rfl, _, hg, _, _, _, htk⟩
  · have : l = [] := List.length_eq_zero_iff.1 h0
    subst this
    exact run_convert_bytes_nil w 22 5 Tryd.underlying22 Tryd.underlying5 0 0 9 Tryd.underlying9
  · refine run_convert_bytes_back w 22 9 5 _ cap l Tryd.underlying22 Tryd.underlying5 Tryd.underlying9 ?_
    intro j hj
    exact h.cells (g := g) rfl j _ (by simp [Lib.byteCells, List.getElem?_eq_getElem hj])

/-- What grew by writes to a row that the call owns is as it was below. -/
theorem below_grown {w w' : World} {B n : Nat} {e : TypeId} {v : Value} {xs : List Value} (h : w.ownsRow B e 1 v n xs) (hB : B ≤ w.heap.size) (hg : w.grownBy w' v.ownBlock) : Below B w w' :=
  ⟨hg.os, hg.tape, hg.output, hg.size, fun k hk => hg.block k (Nat.lt_of_lt_of_le hk hB) (fun e => by have := h.lt k e.symm; omega)⟩

theorem info_byte : (Tryd.prog.info? 5).map (fun i => (i.zero, i.size, i.bytes)) = some (some (.int .u8 0), 1, 1) := by kernel_rfl

/-- 'b = append(b, c)' on a row of bytes that the call owns. -/
theorem wp_append_byte {w : World} {ops : Array Oper} {rest : List Oper} {o : Oper} {a : Act} {Q : Exit → Act → World → Prop} (hgd : o.guard = none) (s x : Operand)
    (ho : o.op = .call { callee := .builtin .append, args := #[s, x], argTypes := #[22, 22] })
    (B : Nat) (v : Value) (n : Nat) (l : List UInt8) (hs : a.eval s = v) (hown : w.ownsRow B 5 1 v n (Lib.byteCells l))
    (ad : Addr) (c : UInt8) (hx : a.eval x = .slice (some ad) 1 1) (hcell : w.cell? ad = some (.int .u8 c.toNat)) (hlen : n + 1 ≤ 140737488355328) (hB : B ≤ w.heap.size)
    (h : ∀ v' w', w'.ownsRow B 5 1 v' (n + 1) (Lib.byteCells (l ++ [c])) → Below B w w' → wpList Tryd.prog ops Q rest (a.put o.dst v') w') : wpList Tryd.prog ops Q (o :: rest) a w := by
  obtain ⟨i0, hi, hz0, hz1, hz2⟩ := info_parts info_byte
  refine wpList_append_own w hgd s x 22 ho B 5 i0 (.int .u8 0) 1 1 Tryd.underlying22 hi hz0 hz1 hz2 rfl (by decide) v n _ hs hown ad 1 1 [.int .u8 c.toNat] hx rfl ?_ ?_ ?_ ?_ hB ?_
  · intro j u hj
    match j, hj with
    | 0, hj =>
      simp at hj; subst hj
      have : ad.add 0 = ad := by unfold Addr.add; split <;> simp_all
      rw [this]; exact hcell
  · intro u hu; simp at hu; subst hu; rfl
  · unfold maxLen; omega
  · omega
  · intro v' w' ho' hg _
    refine h v' w' ?_ (below_grown hown hB hg)
    rw [Lib.byteCells_append]
    exact ho'

/-- A row of bytes in block N, none of them frozen. -/
def RowAt (w : World) (N : Nat) (l : List UInt8) : Prop := ∀ j (hj : j < l.length), w.cell? ⟨N, j, none⟩ = some (.int .u8 l[j].toNat) ∧ w.frozen? ⟨N, j, none⟩ = false

theorem RowAt.alloc {w : World} {N : Nat} {l : List UInt8} (h : RowAt w N l) (hN : N < w.heap.size) (o : Obj) : RowAt (w.alloc o) N l := fun j hj =>
  ⟨(World.cell?_alloc_past o N j hN).trans (h j hj).1, (World.frozen?_alloc_past o N j hN).trans (h j hj).2⟩

theorem RowAt.set {w : World} {N : Nat} {l : List UInt8} (h : RowAt w N l) (k : Nat) (hk : k < l.length) (c : UInt8) : RowAt (w.setCell ⟨N, k, none⟩ (.int .u8 c.toNat)) N (l.set k c) := by
  intro j hj
  have hj' : j < l.length := by simpa using hj
  refine ⟨?_, by rw [World.frozen?_setCell]; exact (h j hj').2⟩
  by_cases e : k = j
  · subst e
    rw [World.cell?_setCell_same _ _ _ (h k hk).1]
    simp
  · have hne : (⟨N, k, none⟩ : Addr) ≠ ⟨N, j, none⟩ := fun e' => e (congrArg Addr.off e')
    rw [World.cell?_setCell_other _ _ _ _ hne, (h j hj').1]
    simp [e]

/-- 'string(b)' of such a row. -/
theorem conv_row {w : World} {N n cap : Nat} {l : List UInt8} (h : RowAt w N l) (hn : l.length = n) :
    (convert 22 9 (.slice (some ⟨N, 0, none⟩) n cap)).run Tryd.prog w = .ok (.string ⟨l.toArray⟩) w := by
  subst hn
  refine run_convert_bytes_back w 22 9 5 _ cap l Tryd.underlying22 Tryd.underlying5 Tryd.underlying9 ?_
  intro j hj
  have : (⟨N, 0, none⟩ : Addr).add j = ⟨N, j, none⟩ := by
    unfold Addr.add; split <;> simp_all
  rw [this]; exact (h j hj).1

/-- 'string(b)' of the end of such a row. -/
theorem conv_at {w : World} {N o n cap : Nat} {pre l : List UInt8} (h : RowAt w N (pre ++ l)) (ho : pre.length = o) (hn : l.length = n) :
    (convert 22 9 (.slice (some ⟨N, o, none⟩) n cap)).run Tryd.prog w = .ok (.string ⟨l.toArray⟩) w := by
  subst hn ho
  refine run_convert_bytes_back w 22 9 5 _ cap l Tryd.underlying22 Tryd.underlying5 Tryd.underlying9 ?_
  intro j hj
  have e : (⟨N, pre.length, none⟩ : Addr).add j = ⟨N, pre.length + j, none⟩ := by
    unfold Addr.add; split <;> simp_all
  rw [e, (h (pre.length + j) (by simp; omega)).1]
  simp

end Go.Proofs.YtkhnkockdfmkgaaDoor
namespace Go.Proofs.YtkhnkockdfmkgaaDoor
open Go.RowKit
set_option linter.unusedVariables false

def strCells (ss : List ByteArray) : List Value := ss.map Value.string
theorem strCells_length (ss : List ByteArray) : (strCells ss).length = ss.length := by simp [strCells]
theorem strCells_append (ss tt : List ByteArray) : strCells (ss ++ tt) = strCells ss ++ strCells tt := by simp [strCells]

/-- A row that the call owns stays where only new memory is laid. -/
theorem owns_below {B : Nat} {e : TypeId} {v : Value} {n : Nat} {xs : List Value} {w w' : World} (h : w.ownsRow B e 1 v n xs) (hb : Below w.heap.size w w') : w'.ownsRow B e 1 v n xs :=
  h.kept (row := none) ⟨hb.os, hb.tape, hb.output, hb.size, fun k hk _ => hb.block k hk⟩ (Classical.em _)

/-- 'l = append(l, s)' on a row of texts that the call owns. -/
theorem wp_append_str {w : World} {ops : Array Oper} {rest : List Oper} {o : Oper} {a : Act} {Q : Exit → Act → World → Prop} (hgd : o.guard = none) (s x : Operand)
    (ho : o.op = .call { callee := .builtin .append, args := #[s, x], argTypes := #[48, 48] })
    (B : Nat) (v : Value) (n : Nat) (l : List ByteArray) (hs : a.eval s = v) (hown : w.ownsRow B 9 1 v n (strCells l))
    (ad : Addr) (c : ByteArray) (hx : a.eval x = .slice (some ad) 1 1) (hcell : w.cell? ad = some (.string c)) (hlen : n + 1 ≤ 1099511627776) (hB : B ≤ w.heap.size)
    (h : ∀ g cap w', w'.ownsRow B 9 1 (.slice (some ⟨g, 0, none⟩) (n + 1) cap) (n + 1) (strCells (l ++ [c])) → Below B w w' → wpList Tryd.prog ops Q rest (a.put o.dst (.slice (some ⟨g, 0, none⟩) (n + 1) cap)) w') : wpList Tryd.prog ops Q (o :: rest) a w := by
  obtain ⟨i0, hi, hz0, hz1, hz2⟩ := info_parts info_str
  refine wpList_append_own w hgd s x 48 ho B 9 i0 (.string ByteArray.empty) 1 16 Tryd.underlying48 hi hz0 hz1 hz2 rfl (by decide) v n _ hs hown ad 1 1 [.string c] hx rfl ?_ ?_ ?_ ?_ hB ?_
  · intro j u hj
    match j, hj with
    | 0, hj =>
      simp at hj; subst hj
      have : ad.add 0 = ad := by unfold Addr.add; split <;> simp_all
      rw [this]; exact hcell
  · intro u hu; simp at hu; subst hu; rfl
  · unfold maxLen; omega
  · omega
  · intro v' w' ho' hg _
    obtain ⟨g, cap, rfl⟩ : ∃ g cap, v' = .slice (some ⟨g, 0, none⟩) (n + 1) cap := by
      rcases ho'.2 with ⟨_, h0⟩ | ⟨g, cap, cur, hv, _⟩
      · omega
      · exact ⟨g, cap, hv⟩
    refine h g cap w' ?_ (below_grown hown hB hg)
    rw [strCells_append]
    exact ho'

/-- A new row of texts, in a block from B on, none of them frozen. -/
def OwnS (w : World) (B : Nat) (v : Value) (ns : List ByteArray) : Prop :=
  ∃ g cap, v = .slice (some ⟨g, 0, none⟩) ns.length cap ∧ ns.length ≤ cap ∧ cap ≤ maxLen ∧ B ≤ g ∧ g < w.heap.size ∧ ∀ j (hj : j < ns.length), w.cell? ⟨g, j, none⟩ = some (.string ns[j]) ∧ w.frozen? ⟨g, j, none⟩ = false

theorem OwnS.of {w : World} {B g n cap : Nat} {ns : List ByteArray} (h : w.ownsRow B 9 1 (.slice (some ⟨g, 0, none⟩) n cap) n (strCells ns)) (hn : ns.length = n) : OwnS w B (.slice (some ⟨g, 0, none⟩) n cap) ns := by
  subst hn
  have hlt := h.lt g rfl
  have hcap : ns.length ≤ cap ∧ cap ≤ maxLen := by
    rcases h.2 with ⟨e, _⟩ | ⟨g', cap', cur, hv, _, _, h1, h2, _⟩
    · cases e
    · cases hv; exact ⟨h1, h2⟩
  refine ⟨g, cap, rfl, hcap.1, hcap.2, hlt.1, hlt.2, fun j hj => ⟨?_, h.frozenAt j⟩⟩
  rw [h.cellAt j (by omega)]
  simp [strCells, List.getElem?_eq_getElem hj]

/-- .. cut at its length. -/
theorem OwnS.clip {w : World} {B g n cap : Nat} {ns : List ByteArray} (h : OwnS w B (.slice (some ⟨g, 0, none⟩) n cap) ns) : OwnS w B (.slice (some ⟨g, 0, none⟩) n n) ns := by
  obtain ⟨g', cap', hv, h1, h2, h3, h4, h5⟩ := h
  cases hv
  exact ⟨g, ns.length, rfl, Nat.le_refl _, Nat.le_trans h1 h2, h3, h4, h5⟩

theorem OwnS.strs {w : World} {B C : Nat} {a : Option Addr} {n cap : Nat} {ns : List ByteArray} (h : OwnS w B (.slice a n cap) ns) (hC : w.heap.size ≤ C) : Strs w C a ns := fun h0 => by
  obtain ⟨g, cap', hv, _, _, _, h4, h5⟩ := h
  cases hv
  exact ⟨g, 0, rfl, by omega, fun j hj => by rw [Nat.zero_add]; exact (h5 j hj).1⟩

theorem OwnS.below {w w' : World} {B : Nat} {v : Value} {ns : List ByteArray} (h : OwnS w B v ns) (hb : Below w.heap.size w w') : OwnS w' B v ns := by
  obtain ⟨g, cap, hv, h1, h2, h3, h4, h5⟩ := h
  refine ⟨g, cap, hv, h1, h2, h3, Nat.lt_of_lt_of_le h4 hb.size, fun j hj => ?_⟩
  rw [hb.cell (p := ⟨g, j, none⟩) h4, hb.frozen (p := ⟨g, j, none⟩) h4]
  exact h5 j hj

theorem OwnS.made (w : World) (B : Nat) (hB : B ≤ w.heap.size) (cs : Array Value) (T : TypeId) : OwnS (w.alloc (.cells cs T)) B (.slice (some ⟨w.heap.size, 0, none⟩) 0 0) [] :=
  ⟨w.heap.size, 0, rfl, Nat.le_refl _, Nat.zero_le _, hB, by simp, fun j hj => absurd hj (Nat.not_lt_zero _)⟩
end Go.Proofs.YtkhnkockdfmkgaaDoor
namespace Go.Proofs.YtkhnkockdfmkgaaDoor
open Go.RowKit M
set_option linter.unusedVariables false

theorem extract_pieceB (s : ByteArray) (fr k : Nat) : s.extract fr k = bytesOf ((s.data.toList.drop fr).take (k - fr)) := by
  apply ByteArray.ext
  have h1 : (s.extract fr k).data = s.data.extract fr k := by simp
  rw [h1]
  apply Array.ext'
  rw [Array.toList_extract]
  rfl
end Go.Proofs.YtkhnkockdfmkgaaDoor
