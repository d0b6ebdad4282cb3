/-
  Numbers come back of their digits; what is trimmed, and made small, stays: no program in sight.
-/
import Derived.Test.YtckhjemojopekaaMathHex
import Derived.Test.YtckhjemojopekaaMathSmall
namespace Go.Proofs.Ytckhjemojopekaa.M

theorem dec_small (u : Nat) (h : u < 10) : Lib.decDigits u = [UInt8.ofNat (48 + u)] := by
  rw [Lib.decDigits, dif_pos h]
theorem dec_great (u : Nat) (h : ¬ u < 10) : Lib.decDigits u = Lib.decDigits (u / 10) ++ [UInt8.ofNat (48 + u % 10)] := by
  rw [Lib.decDigits, dif_neg h]

theorem digs_append (a b : List UInt8) : digs (a ++ b) = (digs a && digs b) := by simp [digs, allB]
theorem digs_one (d : Nat) (h : d < 10) : digs [UInt8.ofNat (48 + d)] = true := by
  have e : (UInt8.ofNat (48 + d)).toNat = 48 + d := by rw [UInt8.toNat_ofNat']; omega
  have h1 : isB ((UInt8.ofNat (48 + d)).toNat : Int) 4 = true := by
    rw [e]; simp [isB]; omega
  simpa [digs, allB, anyB] using h1
theorem val_one (d : Nat) (h : d < 10) : (UInt8.ofNat (48 + d)).toNat - 48 = d := by
  rw [UInt8.toNat_ofNat']; omega

theorem head_app {a b : List UInt8} (h : a ≠ []) : (a ++ b).head? = a.head? := by
  cases a with
  | nil => exact absurd rfl h
  | cons c r => rfl

theorem dec_back (n : Nat) : ∀ u, u ≤ n → decVal (Lib.decDigits u) = u ∧ digs (Lib.decDigits u) = true ∧ 1 ≤ (Lib.decDigits u).length ∧ (0 < u → (Lib.decDigits u).head? ≠ some 48) := by
  induction n with
  | zero =>
    intro u hu
    obtain rfl : u = 0 := by omega
    rw [dec_small 0 (by decide)]
    exact ⟨by decide, by decide, by decide, fun h => absurd h (by decide)⟩
  | succ n ih =>
    intro u hu
    by_cases h : u < 10
    · rw [dec_small u h]
      refine ⟨?_, digs_one u h, by simp, ?_⟩
      · simp only [decVal, decValF, List.foldl_cons, List.foldl_nil]
        rw [val_one u h]; omega
      · intro h0 e
        have e2 : UInt8.ofNat (48 + u) = 48 := Option.some.inj e
        have := val_one u h
        rw [e2] at this
        simp at this
        omega
    · obtain ⟨h1, h2, h3, h4⟩ := ih (u / 10) (by omega)
      rw [dec_great u h]
      refine ⟨?_, ?_, ?_, ?_⟩
      · rw [decVal_snoc, h1, val_one _ (by omega)]; omega
      · rw [digs_append, h2, digs_one _ (by omega)]; rfl
      · simp
      · intro _
        have hne : Lib.decDigits (u / 10) ≠ [] := by intro e; rw [e] at h3; simp at h3
        rw [head_app hne]
        exact h4 (by omega)

theorem dec_len (k : Nat) : ∀ u, u < 10 ^ (k + 1) → (Lib.decDigits u).length ≤ k + 1 := by
  induction k with
  | zero => intro u hu; rw [dec_small u (by simpa using hu)]; simp
  | succ k ih =>
    intro u hu
    by_cases h : u < 10
    · rw [dec_small u h]; simp
    · rw [dec_great u h]
      have := ih (u / 10) (by rw [Nat.pow_succ] at hu; omega)
      simp; omega

/-- A number below 10000000 comes back of its digits. -/
theorem parse_dec (n : Nat) (most : Int) (h : n < 10000000) (hm : (n : Int) ≤ most) : parseNum (Lib.decDigits n) most = ((n : Int), true) := by
  obtain ⟨h1, h2, h3, h4⟩ := dec_back n n (Nat.le_refl _)
  have h5 := dec_len 6 n (by omega)
  rw [parseNum_yes ⟨h3, h5, h2, ?_, by rw [h1]; exact hm⟩, h1]
  rintro ⟨ha, hb⟩
  refine h4 ?_ hb
  rcases Nat.eq_zero_or_pos n with e | e
  · subst e
    rw [dec_small 0 (by decide)] at ha
    simp at ha
  · exact e

theorem snoc_of {l : List UInt8} (h : l ≠ []) : ∃ m c, l = m ++ [c] := ⟨l.dropLast, l.getLast h, (List.dropLast_concat_getLast h).symm⟩

theorem dec_of (n : Nat) : ∀ l : List UInt8, l.length = n → l ≠ [] → digs l = true → l.head? ≠ some 48 → Lib.decDigits (decVal l) = l ∧ 1 ≤ decVal l := by
  induction n with
  | zero => intro l hl hne; exact absurd (List.length_eq_zero_iff.1 hl) hne
  | succ n ih =>
    intro l hl hne hd hh
    obtain ⟨m, c, rfl⟩ := snoc_of hne
    rw [digs_append] at hd
    have hc : 48 ≤ c.toNat ∧ c.toNat ≤ 57 := (digs_cons c [] (by simp at hd; exact hd.2)).1
    have ec : UInt8.ofNat (48 + (c.toNat - 48)) = c := by
      apply UInt8.toNat_inj.1
      rw [UInt8.toNat_ofNat']; omega
    rw [decVal_snoc]
    by_cases hm : m = []
    · subst hm
      have hv : decVal [] = 0 := rfl
      have hc48 : c.toNat ≠ 48 := by
        intro e
        apply hh
        show some c = some 48
        congr 1
        exact UInt8.toNat_inj.1 e
      rw [hv, dec_small _ (by omega)]
      refine ⟨?_, by omega⟩
      rw [Nat.zero_mul, Nat.zero_add, ec]; rfl
    · have hh2 : m.head? ≠ some 48 := by
        rwa [head_app hm] at hh
      obtain ⟨h1, h2⟩ := ih m (by simp at hl; exact hl) hm (by simp at hd; exact hd.1) hh2
      rw [dec_great _ (by omega)]
      have e1 : (decVal m * 10 + (c.toNat - 48)) / 10 = decVal m := by omega
      have e2 : (decVal m * 10 + (c.toNat - 48)) % 10 = c.toNat - 48 := by omega
      rw [e1, e2, h1, ec]
      exact ⟨rfl, by omega⟩

/-- What ParseNum reads has just these digits. -/
theorem dec_parse {l : List UInt8} {most : Int} (h : parseOk l most) : Lib.decDigits (decVal l) = l := by
  obtain ⟨h1, _, hd, hz, _⟩ := h
  have hne : l ≠ [] := by intro e; rw [e] at h1; simp at h1
  by_cases hh : l.head? = some 48
  · have hlen : l.length = 1 := by
      rcases Nat.lt_or_ge 1 l.length with g | g
      · exact absurd ⟨g, hh⟩ hz
      · omega
    obtain ⟨c, rfl⟩ := List.length_eq_one_iff.1 hlen
    have : c = 48 := Option.some.inj hh
    subst this
    rw [show decVal [48] = 0 from by decide, dec_small 0 (by decide)]
    rfl
  · exact (dec_of l.length l rfl hne hd hh).1

theorem parseOk_of {l : List UInt8} {most : Int} (h : (parseNum l most).2 = true) : parseOk l most ∧ parseNum l most = ((decVal l : Int), true) := by
  cases hb : parseB l most
  · rw [parseNum_no (fun hp => by rw [(parseB_iff l most).2 hp] at hb; cases hb)] at h
    cases h
  · have hp := (parseB_iff l most).1 hb
    exact ⟨hp, parseNum_yes hp⟩

theorem hexCh_ok : ∀ d : Fin 16, isHex (hexCh d.val) = true ∧ hexW (hexCh d.val) = d.val := by decide +kernel
theorem hexs_append (a b : List UInt8) : hexs (a ++ b) = (hexs a && hexs b) := by simp [hexs, allB]
theorem hexs_one (c : UInt8) : hexs [c] = isHex c := by simp [hexs, allB, isHex]

theorem hex_back (f : Nat) : ∀ m, m < 16 ^ (f + 1) → hexVal (hexDig (f + 1) m) = m ∧ hexs (hexDig (f + 1) m) = true ∧ 1 ≤ (hexDig (f + 1) m).length := by
  induction f with
  | zero =>
    intro m hm
    have hm' : m < 16 := by simpa using hm
    have hk := hexCh_ok ⟨m, hm'⟩
    have h2 : hexW (hexCh m) = m := hk.2
    simp only [hexDig, if_pos hm']
    rw [hexs_one]
    refine ⟨?_, hk.1, by simp⟩
    simp only [hexVal, List.foldl_cons, List.foldl_nil]
    rw [h2]; omega
  | succ f ih =>
    intro m hm
    by_cases h : m < 16
    · have hk := hexCh_ok ⟨m, h⟩
      have h2 : hexW (hexCh m) = m := hk.2
      have e : hexDig (f + 1 + 1) m = [hexCh m] := by simp only [hexDig, if_pos h]
      rw [e, hexs_one]
      refine ⟨?_, hk.1, by simp⟩
      simp only [hexVal, List.foldl_cons, List.foldl_nil]
      rw [h2]; omega
    · have e : hexDig (f + 1 + 1) m = hexDig (f + 1) (m / 16) ++ [hexCh (m % 16)] := by
        rw [hexDig, if_neg h]
      obtain ⟨h1, h2, h3⟩ := ih (m / 16) (by rw [Nat.pow_succ] at hm; omega)
      have := hexCh_ok ⟨m % 16, by omega⟩
      rw [e, hexVal_snoc, hexs_append, h1, h2, hexs_one, this.1, this.2]
      refine ⟨?_, rfl, by simp⟩
      show m / 16 * 16 + m % 16 = m
      omega

theorem hex_len (k : Nat) : ∀ f m, m < 16 ^ (k + 1) → (hexDig f m).length ≤ k + 1 := by
  induction k with
  | zero =>
    intro f m hm
    have hm' : m < 16 := by simpa using hm
    cases f with
    | zero => simp [hexDig]
    | succ f => simp only [hexDig, if_pos hm']; simp
  | succ k ih =>
    intro f m hm
    cases f with
    | zero => simp [hexDig]
    | succ f =>
      by_cases h : m < 16
      · simp only [hexDig, if_pos h]; simp
      · have e : hexDig (f + 1) m = hexDig f (m / 16) ++ [hexCh (m % 16)] := by rw [hexDig, if_neg h]
        have := ih f (m / 16) (by rw [Nat.pow_succ] at hm; omega)
        rw [e]
        simp; omega

/-- A number below 65536 comes back of its digits to the base 16. -/
theorem parse_hex (n : Nat) (h : n < 65536) : parseHex (hexDigits n) = ((n : Int), true) := by
  obtain ⟨h1, h2, h3⟩ := hex_back 15 n (by omega)
  have h4 := hex_len 3 16 n (by omega)
  have hb : hexB (hexDigits n) = true := by
    simp only [hexB, Bool.and_eq_true, decide_eq_true_eq]
    exact ⟨h3, h4, h2⟩
  show (if hexB (hexDigits n) then _ else _) = _
  rw [if_pos hb]
  show ((hexVal (hexDig 16 n) : Int), true) = _
  rw [h1]

theorem dropWhile_not (p : UInt8 → Bool) (l : List UInt8) (c : UInt8) (r : List UInt8) (h : l.dropWhile p = c :: r) : p c = false := by
  induction l with
  | nil => simp at h
  | cons a t ih =>
    rw [List.dropWhile_cons] at h
    cases e : p a
    · rw [e] at h
      simp at h
      rw [← h.1]; exact e
    · rw [e] at h
      exact ih h
theorem dropWhile_suffix (p : UInt8 → Bool) (l : List UInt8) : ∃ t, l = t ++ l.dropWhile p := ⟨l.takeWhile p, (List.takeWhile_append_dropWhile).symm⟩

theorem dropWhile_len (p : UInt8 → Bool) (l : List UInt8) : (l.dropWhile p).length ≤ l.length := by
  obtain ⟨t, ht⟩ := dropWhile_suffix p l
  have := congrArg List.length ht
  rw [List.length_append] at this
  omega
theorem trim_len (l : List UInt8) : (trimL l).length ≤ l.length := by
  unfold trimL
  rw [List.length_reverse]
  refine Nat.le_trans (dropWhile_len _ _) ?_
  rw [List.length_reverse]
  exact dropWhile_len _ _

theorem trim_idem (l : List UInt8) : trimL (trimL l) = trimL l := by
  by_cases e : trimL l = []
  · rw [e]; rfl
  · have h0 : 0 < (trimL l).length := List.length_pos_iff.2 e
    -- the last one is no blank
    have hlast : bl ((trimL l)[(trimL l).length - 1]) = false := by
      obtain ⟨m, c, hm⟩ := snoc_of e
      have h1 : (l.dropWhile bl).reverse.dropWhile bl = c :: m.reverse := by
        have h2 : (trimL l).reverse = (l.dropWhile bl).reverse.dropWhile bl := by unfold trimL; rw [List.reverse_reverse]
        rw [← h2, hm]; simp
      have h3 := dropWhile_not bl _ _ _ h1
      have h4 : (trimL l)[(trimL l).length - 1] = c := by
        have : ∀ (x : List UInt8) (hx : x = m ++ [c]) (hl : x.length - 1 < x.length), x[x.length - 1] = c := by
          intro x hx hl
          subst hx
          simp
        exact this _ hm _
      rw [h4]; exact h3
    -- the first one is no blank
    have hfirst : bl ((trimL l)[0]) = false := by
      obtain ⟨t, ht⟩ := dropWhile_suffix bl (l.dropWhile bl).reverse
      have h1 : l.dropWhile bl = trimL l ++ t.reverse := by
        have := congrArg List.reverse ht
        rw [List.reverse_reverse, List.reverse_append] at this
        exact this
      have h2 : ∀ (x : List UInt8) (hx : x = trimL l) (hl : 0 < x.length), bl x[0] = false := by
        intro x hx hl
        cases x with
        | nil => simp at hl
        | cons c r =>
          rw [← hx] at h1
          exact dropWhile_not bl l c (r ++ t.reverse) h1
      exact h2 _ rfl h0
    exact trimL_done _ h0 hfirst hlast
theorem low_idem (l : List UInt8) : lowL (lowL l) = lowL l := by
  simp only [lowL, List.map_map]
  apply List.map_congr_left
  intro c _
  show lowB (lowB c) = lowB c
  cases h : isB (c.toNat : Int) 3
  · rw [lowB_no c h, lowB_no c h]
  · apply lowB_no
    have h1 := lowB_yes c h
    have h2 := isB3 h
    have e : ((lowB c).toNat : Int) = (c.toNat : Int) + 32 := by rw [h1]; simp
    rw [e]
    simp [isB]; omega

end Go.Proofs.Ytckhjemojopekaa.M
