/-
  Numbers come back of their digits; what is trimmed, and made small, stays: no program in sight.
  What the specification's TagText does.
  The mark at a path of a server: no program in sight.
  Lists of what must be: how they are read, and how they are told; no program in sight.
  The laws' marks, as texts.
  Data as memory holds them: leafs, and rows of rows of leafs; their sizes, and what they are when they are marked.
  What turns none but certain blocks.
-/
import Derived.Test.YtfhcniifennfbaaGreatDoorMathHex
import Derived.Test.YtfhcniifennfbaaGreatDoorMathLock
import Derived.Test.YtfhcniifennfbaaGreatDoorSliceEq
import Derived.WalkKit
import Derived.Below
namespace Go.Proofs.YtfhcniifennfbaaGreatDoor.M

theorem dec_small (u : Nat) (h : u < 10) : Lib.decDigits u = [UInt8.ofNat (48 + u)] := by
  rw [Lib.decDigits, dif_pos h]
theorem dec_great (u : Nat) (h : ¬ u < 10) : Lib.decDigits u = Lib.decDigits (u / 10) ++ [UInt8.ofNat (48 + u % 10)] := by
  rw [Lib.decDigits, dif_neg h]

theorem digs_append (a b : List UInt8) : digs (a ++ b) = (digs a && digs b) := by simp [digs, allB]
theorem digs_one (d : Nat) (h : d < 10) : digs [UInt8.ofNat (48 + d)] = true := by
  have e : (UInt8.ofNat (48 + d)).toNat = 48 + d := by rw [UInt8.toNat_ofNat']; omega
  have h1 : isB ((UInt8.ofNat (48 + d)).toNat : Int) 4 = true := by
    rw [e]; simp [isB]; omega
  simpa [digs, allB, anyB] using h1
theorem val_one (d : Nat) (h : d < 10) : (UInt8.ofNat (48 + d)).toNat - 48 = d := by
  rw [UInt8.toNat_ofNat']; omega

theorem head_app {a b : List UInt8} (h : a ≠ []) : (a ++ b).head? = a.head? := by
  cases a with
  | nil => exact absurd rfl h
  | cons c r => rfl

theorem dec_back (n : Nat) : ∀ u, u ≤ n → decVal (Lib.decDigits u) = u ∧ digs (Lib.decDigits u) = true ∧ 1 ≤ (Lib.decDigits u).length ∧ (0 < u → (Lib.decDigits u).head? ≠ some 48) := by
  induction n with
  | zero =>
    intro u hu
    obtain rfl : u = 0 := by omega
    rw [dec_small 0 (by decide)]
    exact ⟨by decide, by decide, by decide, fun h => absurd h (by decide)⟩
  | succ n ih =>
    intro u hu
    by_cases h : u < 10
    · rw [dec_small u h]
      refine ⟨?_, digs_one u h, by simp, ?_⟩
      · simp only [decVal, decValF, List.foldl_cons, List.foldl_nil]
        rw [val_one u h]; omega
      · intro h0 e
        have e2 : UInt8.ofNat (48 + u) = 48 := Option.some.inj e
        have := val_one u h
        rw [e2] at this
        simp at this
        omega
    · obtain ⟨h1, h2, h3, h4⟩ := ih (u / 10) (by omega)
      rw [dec_great u h]
      refine ⟨?_, ?_, ?_, ?_⟩
      · rw [decVal_snoc, h1, val_one _ (by omega)]; omega
      · rw [digs_append, h2, digs_one _ (by omega)]; rfl
      · simp
      · intro _
        have hne : Lib.decDigits (u / 10) ≠ [] := by intro e; rw [e] at h3; simp at h3
        rw [head_app hne]
        exact h4 (by omega)

theorem dec_len (k : Nat) : ∀ u, u < 10 ^ (k + 1) → (Lib.decDigits u).length ≤ k + 1 := by
  induction k with
  | zero => intro u hu; rw [dec_small u (by simpa using hu)]; simp
  | succ k ih =>
    intro u hu
    by_cases h : u < 10
    · rw [dec_small u h]; simp
    · rw [dec_great u h]
      have := ih (u / 10) (by rw [Nat.pow_succ] at hu; omega)
      simp; omega

/-- A number below 10000000 comes back of its digits. -/
theorem parse_dec (n : Nat) (most : Int) (h : n < 10000000) (hm : (n : Int) ≤ most) : parseNum (Lib.decDigits n) most = ((n : Int), true) := by
  obtain ⟨h1, h2, h3, h4⟩ := dec_back n n (Nat.le_refl _)
  have h5 := dec_len 6 n (by omega)
  rw [parseNum_yes ⟨h3, h5, h2, ?_, by rw [h1]; exact hm⟩, h1]
  rintro ⟨ha, hb⟩
  refine h4 ?_ hb
  rcases Nat.eq_zero_or_pos n with e | e
  · subst e
    rw [dec_small 0 (by decide)] at ha
    simp at ha
  · exact e

theorem snoc_of {l : List UInt8} (h : l ≠ []) : ∃ m c, l = m ++ [c] := ⟨l.dropLast, l.getLast h, (List.dropLast_concat_getLast h).symm⟩

theorem dec_of (n : Nat) : ∀ l : List UInt8, l.length = n → l ≠ [] → digs l = true → l.head? ≠ some 48 → Lib.decDigits (decVal l) = l ∧ 1 ≤ decVal l := by
  induction n with
  | zero => intro l hl hne; exact absurd (List.length_eq_zero_iff.1 hl) hne
  | succ n ih =>
    intro l hl hne hd hh
    obtain ⟨m, c, rfl⟩ := snoc_of hne
    rw [digs_append] at hd
    have hc : 48 ≤ c.toNat ∧ c.toNat ≤ 57 := (digs_cons c [] (by simp at hd; exact hd.2)).1
    have ec : UInt8.ofNat (48 + (c.toNat - 48)) = c := by
      apply UInt8.toNat_inj.1
      rw [UInt8.toNat_ofNat']; omega
    rw [decVal_snoc]
    by_cases hm : m = []
    · subst hm
      have hv : decVal [] = 0 := rfl
      have hc48 : c.toNat ≠ 48 := by
        intro e
        apply hh
        show some c = some 48
        congr 1
        exact UInt8.toNat_inj.1 e
      rw [hv, dec_small _ (by omega)]
      refine ⟨?_, by omega⟩
      rw [Nat.zero_mul, Nat.zero_add, ec]; rfl
    · have hh2 : m.head? ≠ some 48 := by
        rwa [head_app hm] at hh
      obtain ⟨h1, h2⟩ := ih m (by simp at hl; exact hl) hm (by simp at hd; exact hd.1) hh2
      rw [dec_great _ (by omega)]
      have e1 : (decVal m * 10 + (c.toNat - 48)) / 10 = decVal m := by omega
      have e2 : (decVal m * 10 + (c.toNat - 48)) % 10 = c.toNat - 48 := by omega
      rw [e1, e2, h1, ec]
      exact ⟨rfl, by omega⟩

/-- What ParseNum reads has just these digits. -/
theorem dec_parse {l : List UInt8} {most : Int} (h : parseOk l most) : Lib.decDigits (decVal l) = l := by
  obtain ⟨h1, _, hd, hz, _⟩ := h
  have hne : l ≠ [] := by intro e; rw [e] at h1; simp at h1
  by_cases hh : l.head? = some 48
  · have hlen : l.length = 1 := by
      rcases Nat.lt_or_ge 1 l.length with g | g
      · exact absurd ⟨g, hh⟩ hz
      · omega
    obtain ⟨c, rfl⟩ := List.length_eq_one_iff.1 hlen
    have : c = 48 := Option.some.inj hh
    subst this
    rw [show decVal [48] = 0 from by decide, dec_small 0 (by decide)]
    rfl
  · exact (dec_of l.length l rfl hne hd hh).1

theorem parseOk_of {l : List UInt8} {most : Int} (h : (parseNum l most).2 = true) : parseOk l most ∧ parseNum l most = ((decVal l : Int), true) := by
  cases hb : parseB l most
  · rw [parseNum_no (fun hp => by rw [(parseB_iff l most).2 hp] at hb; cases hb)] at h
    cases h
  · have hp := (parseB_iff l most).1 hb
    exact ⟨hp, parseNum_yes hp⟩

theorem hexCh_ok : ∀ d : Fin 16, isHex (hexCh d.val) = true ∧ hexW (hexCh d.val) = d.val := by decide +kernel
theorem hexs_append (a b : List UInt8) : hexs (a ++ b) = (hexs a && hexs b) := by simp [hexs, allB]
theorem hexs_one (c : UInt8) : hexs [c] = isHex c := by simp [hexs, allB, isHex]

theorem hex_back (f : Nat) : ∀ m, m < 16 ^ (f + 1) → hexVal (hexDig (f + 1) m) = m ∧ hexs (hexDig (f + 1) m) = true ∧ 1 ≤ (hexDig (f + 1) m).length := by
  induction f with
  | zero =>
    intro m hm
    have hm' : m < 16 := by simpa using hm
    have hk := hexCh_ok ⟨m, hm'⟩
    have h2 : hexW (hexCh m) = m := hk.2
    simp only [hexDig, if_pos hm']
    rw [hexs_one]
    refine ⟨?_, hk.1, by simp⟩
    simp only [hexVal, List.foldl_cons, List.foldl_nil]
    rw [h2]; omega
  | succ f ih =>
    intro m hm
    by_cases h : m < 16
    · have hk := hexCh_ok ⟨m, h⟩
      have h2 : hexW (hexCh m) = m := hk.2
      have e : hexDig (f + 1 + 1) m = [hexCh m] := by simp only [hexDig, if_pos h]
      rw [e, hexs_one]
      refine ⟨?_, hk.1, by simp⟩
      simp only [hexVal, List.foldl_cons, List.foldl_nil]
      rw [h2]; omega
    · have e : hexDig (f + 1 + 1) m = hexDig (f + 1) (m / 16) ++ [hexCh (m % 16)] := by
        rw [hexDig, if_neg h]
      obtain ⟨h1, h2, h3⟩ := ih (m / 16) (by rw [Nat.pow_succ] at hm; omega)
      have := hexCh_ok ⟨m % 16, by omega⟩
      rw [e, hexVal_snoc, hexs_append, h1, h2, hexs_one, this.1, this.2]
      refine ⟨?_, rfl, by simp⟩
      show m / 16 * 16 + m % 16 = m
      omega

theorem hex_len (k : Nat) : ∀ f m, m < 16 ^ (k + 1) → (hexDig f m).length ≤ k + 1 := by
  induction k with
  | zero =>
    intro f m hm
    have hm' : m < 16 := by simpa using hm
    cases f with
    | zero => simp [hexDig]
    | succ f => simp only [hexDig, if_pos hm']; simp
  | succ k ih =>
    intro f m hm
    cases f with
    | zero => simp [hexDig]
    | succ f =>
      by_cases h : m < 16
      · simp only [hexDig, if_pos h]; simp
      · have e : hexDig (f + 1) m = hexDig f (m / 16) ++ [hexCh (m % 16)] := by rw [hexDig, if_neg h]
        have := ih f (m / 16) (by rw [Nat.pow_succ] at hm; omega)
        rw [e]
        simp; omega

/-- A number below 65536 comes back of its digits to the base 16. -/
theorem parse_hex (n : Nat) (h : n < 65536) : parseHex (hexDigits n) = ((n : Int), true) := by
  obtain ⟨h1, h2, h3⟩ := hex_back 15 n (by omega)
  have h4 := hex_len 3 16 n (by omega)
  have hb : hexB (hexDigits n) = true := by
    simp only [hexB, Bool.and_eq_true, decide_eq_true_eq]
    exact ⟨h3, h4, h2⟩
  show (if hexB (hexDigits n) then _ else _) = _
  rw [if_pos hb]
  show ((hexVal (hexDig 16 n) : Int), true) = _
  rw [h1]

theorem dropWhile_not (p : UInt8 → Bool) (l : List UInt8) (c : UInt8) (r : List UInt8) (h : l.dropWhile p = c :: r) : p c = false := by
  induction l with
  | nil => simp at h
  | cons a t ih =>
    rw [List.dropWhile_cons] at h
    cases e : p a
    · rw [e] at h
      simp at h
      rw [← h.1]; exact e
    · rw [e] at h
      exact ih h
theorem dropWhile_suffix (p : UInt8 → Bool) (l : List UInt8) : ∃ t, l = t ++ l.dropWhile p := ⟨l.takeWhile p, (List.takeWhile_append_dropWhile).symm⟩

theorem dropWhile_len (p : UInt8 → Bool) (l : List UInt8) : (l.dropWhile p).length ≤ l.length := by
  obtain ⟨t, ht⟩ := dropWhile_suffix p l
  have := congrArg List.length ht
  rw [List.length_append] at this
  omega
theorem trim_len (l : List UInt8) : (trimL l).length ≤ l.length := by
  unfold trimL
  rw [List.length_reverse]
  refine Nat.le_trans (dropWhile_len _ _) ?_
  rw [List.length_reverse]
  exact dropWhile_len _ _

theorem trim_idem (l : List UInt8) : trimL (trimL l) = trimL l := by
  by_cases e : trimL l = []
  · rw [e]; rfl
  · have h0 : 0 < (trimL l).length := List.length_pos_iff.2 e
    -- the last one is no blank
    have hlast : bl ((trimL l)[(trimL l).length - 1]) = false := by
      obtain ⟨m, c, hm⟩ := snoc_of e
      have h1 : (l.dropWhile bl).reverse.dropWhile bl = c :: m.reverse := by
        have h2 : (trimL l).reverse = (l.dropWhile bl).reverse.dropWhile bl := by unfold trimL; rw [List.reverse_reverse]
        rw [← h2, hm]; simp
      have h3 := dropWhile_not bl _ _ _ h1
      have h4 : (trimL l)[(trimL l).length - 1] = c := by
        have : ∀ (x : List UInt8) (hx : x = m ++ [c]) (hl : x.length - 1 < x.length), x[x.length - 1] = c := by
          intro x hx hl
          subst hx
          simp
        exact this _ hm _
      rw [h4]; exact h3
    -- the first one is no blank
    have hfirst : bl ((trimL l)[0]) = false := by
      obtain ⟨t, ht⟩ := dropWhile_suffix bl (l.dropWhile bl).reverse
      have h1 : l.dropWhile bl = trimL l ++ t.reverse := by
        have := congrArg List.reverse ht
        rw [List.reverse_reverse, List.reverse_append] at this
        exact this
      have h2 : ∀ (x : List UInt8) (hx : x = trimL l) (hl : 0 < x.length), bl x[0] = false := by
        intro x hx hl
        cases x with
        | nil => simp at hl
        | cons c r =>
          rw [← hx] at h1
          exact dropWhile_not bl l c (r ++ t.reverse) h1
      exact h2 _ rfl h0
    exact trimL_done _ h0 hfirst hlast
theorem low_idem (l : List UInt8) : lowL (lowL l) = lowL l := by
  simp only [lowL, List.map_map]
  apply List.map_congr_left
  intro c _
  show lowB (lowB c) = lowB c
  cases h : isB (c.toNat : Int) 3
  · rw [lowB_no c h, lowB_no c h]
  · apply lowB_no
    have h1 := lowB_yes c h
    have h2 := isB3 h
    have e : ((lowB c).toNat : Int) = (c.toNat : Int) + 32 := by rw [h1]; simp
    rw [e]
    simp [isB]; omega

end Go.Proofs.YtfhcniifennfbaaGreatDoor.M
namespace Go.Proofs.YtfhcniifennfbaaGreatDoor
open Go.RowKit M
set_option linter.unusedVariables false

/-- The mark of a number. -/
def verL (n : Int) : List UInt8 := 118 :: Lib.decDigits n.toNat
theorem verL_cat (n : Int) : (⟨#[34, 118]⟩ : ByteArray) ++ ⟨(Lib.decDigits n.toNat).toArray⟩ ++ ⟨#[34]⟩ = bytesOf (tagL (verL n)) := by
  apply ByteArray.ext
  simp [bytesOf, tagL, verL]

theorem specTagText_any (n : Int) (w : World) (hn : n ≤ 9223372036854775807) :
    Calls Tryz.prog 85 #[.int .i64 n] w fun e w' => e = .returned (.string (bytesOf (tagL (verL n)))) ∧ Below w.heap.size w w' := by
  have HN := hide (specNumText_any n w hn)
  have HR := hide (verL_cat n)
  obtain ⟨d, hd⟩ : ∃ d : ByteArray, (⟨(Lib.decDigits n.toNat).toArray⟩ : ByteArray) = d := ⟨_, rfl⟩
  have hds : d.size ≤ 100 := by
    rw [← hd]
    show (bytesOf (Lib.decDigits n.toNat)).size ≤ 100
    rw [bytesOf_size]
    have := dec_len 18 n.toNat (by omega)
    omega
  rw [hd] at HN HR
  clear hd
  go_enter Tryz.func85, Tryz.ntmps85
  go_wp2_with fail
  refine HN.out.mono ?_
  rintro e w1 ⟨rfl, b1⟩
  go_wp2
  go_ret
  rw [HR.out]
  exact ⟨rfl, b1⟩
end Go.Proofs.YtfhcniifennfbaaGreatDoor
namespace Go.Proofs.YtfhcniifennfbaaGreatDoor
open Go.RowKit M
set_option linter.unusedVariables false

def tagV (n : Int) : ByteArray := bytesOf (tagL (verL n))
def tagAtT (x : Sv) (p : List ByteArray) : ByteArray := if p.length = 0 then tagV 0 else match x.t[(findI x.t p).toNat]? with | none => ⟨#[]⟩ | some r => if findI x.t p < 0 then ⟨#[]⟩ else tagV r.ve
def tagAtB (x : Sv) (p : List ByteArray) : Bool := decide (p.length = 0) || decide (0 ≤ findI x.t p)
theorem tagAt_root (x : Sv) (p : List ByteArray) (h : p.length = 0) : tagAtT x p = tagV 0 ∧ tagAtB x p = true := by simp [tagAtT, tagAtB, h]
theorem tagAt_none (x : Sv) (p : List ByteArray) (h : ¬ p.length = 0) (h2 : findI x.t p = -1) : tagAtT x p = ⟨#[]⟩ ∧ tagAtB x p = false := by
  simp only [tagAtT, tagAtB, h, h2, if_false, decide_false, Bool.false_or]
  refine ⟨?_, by decide⟩
  split <;> rfl
theorem tagAt_some (x : Sv) (p : List ByteArray) (h : ¬ p.length = 0) (k : Nat) (hk : k < x.t.length) (h2 : findI x.t p = (k : Nat)) : tagAtT x p = tagV x.t[k].ve ∧ tagAtB x p = true := by
  have e1 : ¬ ((k : Int) < 0) := by omega
  have e2 : (0 : Int) ≤ (k : Int) := by omega
  simp only [tagAtT, tagAtB, h, h2, if_false, decide_false, Bool.false_or, Int.toNat_natCast, List.getElem?_eq_getElem hk, e1, decide_eq_true e2, and_self]
end Go.Proofs.YtfhcniifennfbaaGreatDoor
namespace Go.Proofs.YtfhcniifennfbaaGreatDoor.M
set_option linter.unusedVariables false

/-- What must be: whether not, a Token, a mark. -/
structure Cn where
  no : Bool
  tk : Int
  tg : ByteArray

def notL : List UInt8 := [78, 111, 116, 32]
def cutNot (l : List UInt8) : Bool × List UInt8 := if notL.isPrefixOf l = true then (true, l.drop 4) else (false, l)
/-- A Token of its digits. -/
def numC (d : List UInt8) : Option Int := if (parseNum d 9999).2 = true ∧ 1 ≤ (parseNum d 9999).1 then some (parseNum d 9999).1 else none
def tokC (no : Bool) (l : List UInt8) : Option (Cn × List UInt8) :=
  if fromB 62 l = [] then none else match numC (upTo 62 l) with
    | none => none
    | some n => some (⟨no, n, ⟨#[]⟩⟩, (fromB 62 l).tail)
def tagC (no : Bool) (l : List UInt8) : Option (Cn × List UInt8) :=
  match cutT l with
  | none => none
  | some (m, r) => if m = [] then none else if r.head? = some 93 then some (⟨no, 0, bytesOf (tagL m)⟩, r.tail) else none
def bodyC (no : Bool) (l : List UInt8) : Option (Cn × List UInt8) :=
  if l.head? = some 60 then tokC no l.tail else if l.head? = some 91 then tagC no l.tail else none
/-- One, and what stands behind. -/
def condL (l : List UInt8) : Option (Cn × List UInt8) := bodyC (cutNot l).1 (cutNot l).2

theorem fromB_len {c : UInt8} {l : List UInt8} (h : fromB c l ≠ []) : (fromB c l).tail.length + 1 ≤ l.length := by
  have h1 := fromB_le c l
  cases hf : fromB c l with
  | nil => exact absurd hf h
  | cons a r => rw [hf] at h1; simpa using h1
theorem cutT_len {l m r : List UInt8} (h : cutT l = some (m, r)) : r.length + 2 ≤ l.length := by
  cases l with
  | nil => cases h
  | cons c t =>
    rw [cutT] at h
    split at h
    · split at h
      · cases h
      · rename_i hf
        split at h
        · cases h
          have := fromB_len hf
          rw [List.length_cons]; omega
        · cases h
    · cases h
theorem bodyC_len {no : Bool} {l r : List UInt8} {c : Cn} (h : bodyC no l = some (c, r)) : r.length < l.length := by
  unfold bodyC at h
  have ht : l ≠ [] → l.tail.length + 1 = l.length := fun hl => by cases l with | nil => exact absurd rfl hl | cons a q => simp
  split at h
  · rename_i hh
    have hl : l ≠ [] := fun e => by rw [e] at hh; cases hh
    have := ht hl
    unfold tokC at h
    split at h
    · cases h
    · rename_i hf
      have := fromB_len hf
      split at h
      · cases h
      · cases h; omega
  · split at h
    · rename_i hh
      have hl : l ≠ [] := fun e => by rw [e] at hh; cases hh
      have := ht hl
      unfold tagC at h
      split at h
      · cases h
      · rename_i m q hc
        have := cutT_len hc
        split at h
        · cases h
        · split at h
          · cases h
            rw [List.length_tail]; omega
          · cases h
    · cases h
theorem cutNot_len (l : List UInt8) : (cutNot l).2.length ≤ l.length := by
  unfold cutNot
  split
  · simp
  · exact Nat.le_refl _
theorem condL_len {l r : List UInt8} {c : Cn} (h : condL l = some (c, r)) : r.length < l.length := by
  have h1 := bodyC_len h
  have h2 := cutNot_len l
  omega

/-- Several, with one blank between. -/
def condsL (l : List UInt8) : Option (List Cn × List UInt8) :=
  match h : condL l with
  | none => none
  | some (c, r) => if r.head? = some 32 then (condsL r.tail).map fun x => (c :: x.1, x.2) else some ([c], r)
termination_by l.length
decreasing_by
  have := condL_len h
  rw [List.length_tail]; omega
theorem condsL_none {l : List UInt8} (h : condL l = none) : condsL l = none := by
  rw [condsL]; split
  · rfl
  · rename_i h2; rw [h] at h2; cases h2
theorem condsL_some {l r : List UInt8} {c : Cn} (h : condL l = some (c, r)) : condsL l = if r.head? = some 32 then (condsL r.tail).map fun x => (c :: x.1, x.2) else some ([c], r) := by
  rw [condsL]; split
  · rename_i h2; rw [h] at h2; cases h2
  · rename_i h2; rw [h] at h2; cases h2; rfl
theorem condsL_end {l r : List UInt8} {c : Cn} (h : condL l = some (c, r)) (hr : ¬ r.head? = some 32) : condsL l = some ([c], r) := by rw [condsL_some h, if_neg hr]
theorem condsL_next {l r : List UInt8} {c : Cn} (h : condL l = some (c, r)) (hr : r.head? = some 32) : condsL l = (condsL r.tail).map fun x => (c :: x.1, x.2) := by rw [condsL_some h, if_pos hr]
theorem condsL_len (n : Nat) : ∀ l : List UInt8, l.length < n → ∀ cs r, condsL l = some (cs, r) → r.length < l.length ∧ 0 < cs.length := by
  induction n with
  | zero => intro l hl; exact absurd hl (Nat.not_lt_zero _)
  | succ n ih =>
    intro l hl cs r h
    cases hc : condL l with
    | none => rw [condsL_none hc] at h; cases h
    | some x =>
      obtain ⟨c, q⟩ := x
      have hq := condL_len hc
      by_cases hh : q.head? = some 32
      · rw [condsL_next hc hh] at h
        cases hd : condsL q.tail with
        | none => rw [hd] at h; cases h
        | some y =>
          obtain ⟨ds, z⟩ := y
          rw [hd] at h
          cases h
          have h1 := ih q.tail (by rw [List.length_tail]; omega) ds z hd
          rw [List.length_tail] at h1
          exact ⟨by show z.length < l.length; omega, by simp⟩
      · rw [condsL_end hc hh] at h
        cases h
        exact ⟨hq, by simp⟩
/-- One list, with its brackets, of four at most. -/
def listL (l : List UInt8) : Option (List Cn × List UInt8) :=
  if l.head? = some 40 then match condsL l.tail with
    | none => none
    | some (cs, r) => if cs.length ≤ 4 ∧ r.head? = some 41 then some (cs, r.tail) else none
  else none
theorem listL_len {l r : List UInt8} {cs : List Cn} (h : listL l = some (cs, r)) : r.length < l.length := by
  unfold listL at h
  split at h
  · split at h
    · cases h
    · rename_i q hq
      split at h
      · cases h
        have h1 := (condsL_len _ l.tail (Nat.lt_succ_self _) _ _ hq).1
        have h2 : l.tail.length ≤ l.length := by simp
        have h3 : q.tail.length ≤ q.length := by simp
        omega
      · cases h
  · cases h
def blk (l : List UInt8) : List UInt8 := l.dropWhile (· == 32)
theorem blk_len (l : List UInt8) : (blk l).length ≤ l.length := dropWhile_len _ _
/-- Several, with blanks between. -/
def listsL (l : List UInt8) : Option (List (List Cn)) :=
  match h : listL l with
  | none => none
  | some (cs, r) => if r = [] then some [cs] else (listsL (blk r)).map (cs :: ·)
termination_by l.length
decreasing_by
  have := listL_len h
  have := blk_len r
  omega
theorem listsL_none {l : List UInt8} (h : listL l = none) : listsL l = none := by
  rw [listsL]; split
  · rfl
  · rename_i h2; rw [h] at h2; cases h2
theorem listsL_end {l : List UInt8} {cs : List Cn} (h : listL l = some (cs, [])) : listsL l = some [cs] := by
  rw [listsL]; split
  · rename_i h2; rw [h] at h2; cases h2
  · rename_i h2; rw [h] at h2; cases h2; rfl
theorem listsL_next {l r : List UInt8} {cs : List Cn} (h : listL l = some (cs, r)) (hr : r ≠ []) : listsL l = (listsL (blk r)).map (cs :: ·) := by
  rw [listsL]; split
  · rename_i h2; rw [h] at h2; cases h2
  · rename_i h2; rw [h] at h2; cases h2; rw [if_neg hr]
/-- What is read of a text. -/
def ifL (l : List UInt8) : Option (List (List Cn)) := (listsL l).bind fun ls => if ls.length ≤ 4 then some ls else none

/-! How they are told. -/
def condT (c : Cn) : List UInt8 := (if c.no = true then notL else []) ++ (if c.tg.data.toList = [] then 60 :: (Lib.decDigits c.tk.toNat ++ [62]) else 91 :: (c.tg.data.toList ++ [93]))
/-- One that can be told. -/
def okC (c : Cn) : Prop := (c.tg.data.toList = [] ∧ 1 ≤ c.tk ∧ c.tk ≤ 9999) ∨ (c.tk = 0 ∧ ∃ m, c.tg = bytesOf (tagL m) ∧ m ≠ [] ∧ 34 ∉ m ∧ innB m = true)
def joinT (ts : List (List UInt8)) : List UInt8 := (ts.intersperse [32]).flatten
def listT (cs : List Cn) : List UInt8 := 40 :: (joinT (cs.map condT) ++ [41])
def ifT (ls : List (List Cn)) : List UInt8 := joinT (ls.map listT)
def okLs (cs : List Cn) : Prop := 1 ≤ cs.length ∧ cs.length ≤ 4 ∧ ∀ c ∈ cs, okC c
def okIf (ls : List (List Cn)) : Prop := 1 ≤ ls.length ∧ ls.length ≤ 4 ∧ ∀ cs ∈ ls, okLs cs

theorem cutT_tag {m r : List UInt8} (h : 34 ∉ m) (hi : innB m = true) : cutT (tagL m ++ r) = some (m, r) := by
  have e : tagL m ++ r = 34 :: (m ++ 34 :: r) := by simp [tagL]
  obtain ⟨h1, h2⟩ := upTo_all (c := 34) (l := m) (fun x hx e => h (e ▸ hx)) r
  rw [e, cutT, if_pos rfl, h2, if_neg (by simp), h1, if_pos hi]
  rfl
theorem upTo_no34 (c : UInt8) (l : List UInt8) : c ∉ upTo c l := by
  induction l with
  | nil => simp [upTo]
  | cons a r ih =>
    by_cases h : a = c
    · subst h; rw [upTo_cons_eq]; simp
    · rw [upTo_cons_ne r h]
      intro e
      rcases List.mem_cons.1 e with e | e
      · exact h e.symm
      · exact ih e
theorem cutT_in {l m r : List UInt8} (h : cutT l = some (m, r)) : 34 ∉ m ∧ innB m = true ∧ l = tagL m ++ r := by
  cases l with
  | nil => cases h
  | cons c t =>
    rw [cutT] at h
    split at h
    · rename_i hc
      split at h
      · cases h
      · rename_i hf
        split at h
        · rename_i hi
          cases h
          refine ⟨fun e => ?_, hi, ?_⟩
          · exact upTo_no34 34 t e
          · have hu := upTo_from 34 t
            cases hq : fromB 34 t with
            | nil => exact absurd hq hf
            | cons a q =>
              have ha := fromB_head hq
              rw [hq, ha] at hu
              rw [hc]
              simp only [tagL, List.tail_cons, List.cons_append, List.append_assoc, List.nil_append]
              rw [hu]
        · cases h
    · cases h
theorem digs_no {l : List UInt8} (h : digs l = true) : ∀ x ∈ l, x ≠ 62 := fun x hx e => by
  subst e
  induction l with
  | nil => cases hx
  | cons c r ih =>
    obtain ⟨h1, h2⟩ := digs_cons c r h
    rcases List.mem_cons.1 hx with e | hx
    · rw [← e] at h1; exact absurd h1.2 (by decide)
    · exact ih h2 hx
theorem numC_dec {n : Int} (h1 : 1 ≤ n) (h2 : n ≤ 9999) : numC (Lib.decDigits n.toNat) = some n := by
  have h := parse_dec n.toNat 9999 (by omega) (by omega)
  unfold numC
  rw [h]
  have e : ((n.toNat : Nat) : Int) = n := by omega
  simp only [e]
  exact if_pos ⟨trivial, h1⟩
theorem numC_in {d : List UInt8} {n : Int} (h : numC d = some n) : 1 ≤ n ∧ n ≤ 9999 := by
  unfold numC at h
  split at h
  · rename_i hp
    obtain ⟨h1, h2⟩ := hp
    obtain ⟨h3, h4⟩ := parseOk_of h1
    cases h
    refine ⟨h2, ?_⟩
    rw [h4]
    exact h3.2.2.2.2
  · cases h
theorem cutNot_yes (l : List UInt8) : cutNot (notL ++ l) = (true, l) := by
  unfold cutNot
  rw [if_pos (by simp [notL])]
  simp [notL]
theorem cutNot_no {l : List UInt8} (h : l.head? ≠ some 78) : cutNot l = (false, l) := by
  unfold cutNot
  rw [if_neg]
  cases l with
  | nil => simp [notL]
  | cons c r =>
    intro e
    simp [notL] at e
    exact h (by simp [← e.1])
theorem tag_ne (m : List UInt8) : tagL m ≠ [] := by simp [tagL]
theorem bodyC_back {c : Cn} (h : okC c) (q : List UInt8) : bodyC c.no ((if c.tg.data.toList = [] then 60 :: (Lib.decDigits c.tk.toNat ++ [62]) else 91 :: (c.tg.data.toList ++ [93])) ++ q) = some (c, q) := by
  obtain ⟨no, tk, tg⟩ := c
  rcases h with ⟨h1, h2, h3⟩ | ⟨h1, m, h2, h3, h4, h5⟩
  · simp only at h1 h2 h3 ⊢
    rw [if_pos h1]
    have hd := (dec_back tk.toNat tk.toNat (Nat.le_refl _)).2.1
    obtain ⟨u1, u2⟩ := upTo_all (c := 62) (l := Lib.decDigits tk.toNat) (digs_no hd) q
    have e : (60 :: (Lib.decDigits tk.toNat ++ [62])) ++ q = 60 :: (Lib.decDigits tk.toNat ++ 62 :: q) := by simp
    rw [e, bodyC, List.head?_cons, if_pos rfl, List.tail_cons, tokC, u1, u2, if_neg (by simp), numC_dec h2 h3]
    have e2 : tg = ⟨#[]⟩ := by
      apply ByteArray.ext
      exact Array.toList_inj.1 h1
    rw [e2]
    rfl
  · simp only at h1 h2 ⊢
    subst h1 h2
    have e1 : (bytesOf (tagL m)).data.toList = tagL m := rfl
    rw [e1, if_neg (tag_ne m)]
    have e : (91 :: (tagL m ++ [93])) ++ q = 91 :: (tagL m ++ 93 :: q) := by simp
    rw [e, bodyC, List.head?_cons, if_neg (by simp), if_pos rfl, List.tail_cons, tagC, cutT_tag h4 h5]
    simp [h3]
theorem condL_back {c : Cn} (h : okC c) (q : List UInt8) : condL (condT c ++ q) = some (c, q) := by
  unfold condT condL
  have hb := bodyC_back h q
  cases hn : c.no
  · rw [if_neg (by simp), List.nil_append]
    rw [hn] at hb
    rw [cutNot_no (by split <;> simp)]
    exact hb
  · rw [if_pos rfl, List.append_assoc, cutNot_yes]
    rw [hn] at hb
    exact hb
theorem joinT_one (a : List UInt8) : joinT [a] = a := by simp [joinT]
theorem joinT_cons (a b : List UInt8) (r : List (List UInt8)) : joinT (a :: b :: r) = a ++ 32 :: joinT (b :: r) := by simp [joinT]
theorem condsL_back (q : List UInt8) (hq : ¬ q.head? = some 32) : ∀ cs : List Cn, cs ≠ [] → (∀ c ∈ cs, okC c) → condsL (joinT (cs.map condT) ++ q) = some (cs, q)
  | [], h, _ => absurd rfl h
  | [c], _, h => by
    rw [List.map_cons, List.map_nil, joinT_one]
    exact condsL_end (condL_back (h c (by simp)) q) hq
  | c :: d :: r, _, h => by
    have ih := condsL_back q hq (d :: r) (by simp) (fun x hx => h x (List.mem_cons_of_mem _ hx))
    rw [List.map_cons, List.map_cons, joinT_cons, ← List.map_cons, List.append_assoc, List.cons_append]
    rw [condsL_next (condL_back (h c (by simp)) _) rfl, List.tail_cons, ih]
    rfl
theorem listL_back {cs : List Cn} (h : okLs cs) (q : List UInt8) : listL (listT cs ++ q) = some (cs, q) := by
  have e : listT cs ++ q = 40 :: (joinT (cs.map condT) ++ 41 :: q) := by simp [listT]
  have hne : cs ≠ [] := fun e => by have := h.1; rw [e] at this; simp at this
  rw [e, listL, List.head?_cons, if_pos rfl, List.tail_cons, condsL_back (41 :: q) (by simp) cs hne h.2.2]
  simp [h.2.1]
theorem listsL_back : ∀ ls : List (List Cn), ls ≠ [] → (∀ cs ∈ ls, okLs cs) → listsL (ifT ls) = some ls
  | [], h, _ => absurd rfl h
  | [a], _, h => by
    have := listL_back (h a (by simp)) []
    rw [List.append_nil] at this
    unfold ifT
    rw [List.map_cons, List.map_nil, joinT_one]
    exact listsL_end this
  | a :: b :: r, _, h => by
    have ih := listsL_back (b :: r) (by simp) (fun x hx => h x (List.mem_cons_of_mem _ hx))
    unfold ifT at *
    rw [List.map_cons, List.map_cons, joinT_cons, ← List.map_cons]
    rw [listsL_next (listL_back (h a (by simp)) _) (by simp)]
    have hb : blk (32 :: joinT ((b :: r).map listT)) = joinT ((b :: r).map listT) := by
      unfold blk
      rw [List.dropWhile_cons, if_pos (by decide)]
      cases hj : joinT ((b :: r).map listT) with
      | nil => rfl
      | cons x y =>
        have : x = 40 := by
          cases r with
          | nil => rw [List.map_cons, List.map_nil, joinT_one, listT] at hj; cases hj; rfl
          | cons d r' => rw [List.map_cons, List.map_cons, joinT_cons, listT] at hj; cases hj; rfl
        rw [this, List.dropWhile_cons, if_neg (by decide)]
    rw [hb, ih]
    rfl
/-- They come back of their text. -/
theorem ifL_back {ls : List (List Cn)} (h : okIf ls) : ifL (ifT ls) = some ls := by
  unfold ifL
  rw [listsL_back ls (fun e => by have := h.1; rw [e] at this; simp at this) h.2.2]
  show (if ls.length ≤ 4 then some ls else none) = some ls
  rw [if_pos h.2.1]
/-! What is read can be told. -/
theorem condL_ok {l r : List UInt8} {c : Cn} (h : condL l = some (c, r)) : okC c := by
  unfold condL bodyC at h
  split at h
  · unfold tokC at h
    split at h
    · cases h
    · split at h
      · cases h
      · rename_i n hn
        cases h
        exact .inl ⟨rfl, numC_in hn⟩
  · split at h
    · unfold tagC at h
      split at h
      · cases h
      · rename_i m q hc
        split at h
        · cases h
        · rename_i hm
          split at h
          · cases h
            exact .inr ⟨rfl, m, rfl, hm, (cutT_in hc).1, (cutT_in hc).2.1⟩
          · cases h
    · cases h
theorem condsL_ok (n : Nat) : ∀ l : List UInt8, l.length < n → ∀ cs r, condsL l = some (cs, r) → ∀ c ∈ cs, okC c := by
  induction n with
  | zero => intro l hl; exact absurd hl (Nat.not_lt_zero _)
  | succ n ih =>
    intro l hl cs r h
    cases hc : condL l with
    | none => rw [condsL_none hc] at h; cases h
    | some x =>
      obtain ⟨c, q⟩ := x
      have hq := condL_len hc
      have hk := condL_ok hc
      by_cases hh : q.head? = some 32
      · rw [condsL_next hc hh] at h
        cases hd : condsL q.tail with
        | none => rw [hd] at h; cases h
        | some y =>
          obtain ⟨ds, z⟩ := y
          rw [hd] at h
          cases h
          have h1 := ih q.tail (by rw [List.length_tail]; omega) ds z hd
          intro x hx
          rcases List.mem_cons.1 hx with rfl | hx
          · exact hk
          · exact h1 x hx
      · rw [condsL_end hc hh] at h
        cases h
        intro x hx
        rcases List.mem_cons.1 hx with rfl | hx
        · exact hk
        · cases hx
theorem listL_ok {l r : List UInt8} {cs : List Cn} (h : listL l = some (cs, r)) : okLs cs := by
  unfold listL at h
  split at h
  · split at h
    · cases h
    · rename_i q hq
      split at h
      · rename_i hc
        cases h
        exact ⟨(condsL_len _ l.tail (Nat.lt_succ_self _) _ _ hq).2, hc.1, condsL_ok _ l.tail (Nat.lt_succ_self _) _ _ hq⟩
      · cases h
  · cases h
theorem listsL_ok (n : Nat) : ∀ l : List UInt8, l.length < n → ∀ ls, listsL l = some ls → 1 ≤ ls.length ∧ ∀ cs ∈ ls, okLs cs := by
  induction n with
  | zero => intro l hl; exact absurd hl (Nat.not_lt_zero _)
  | succ n ih =>
    intro l hl ls h
    cases hc : listL l with
    | none => rw [listsL_none hc] at h; cases h
    | some x =>
      obtain ⟨c, q⟩ := x
      have hq := listL_len hc
      have hk := listL_ok hc
      by_cases hh : q = []
      · subst hh
        rw [listsL_end hc] at h
        cases h
        refine ⟨by simp, fun x hx => ?_⟩
        rcases List.mem_cons.1 hx with rfl | hx
        · exact hk
        · cases hx
      · rw [listsL_next hc hh] at h
        cases hd : listsL (blk q) with
        | none => rw [hd] at h; cases h
        | some ds =>
          rw [hd] at h
          cases h
          have h1 := ih (blk q) (by have := blk_len q; omega) ds hd
          refine ⟨by simp, fun x hx => ?_⟩
          rcases List.mem_cons.1 hx with rfl | hx
          · exact hk
          · exact h1.2 x hx
theorem ifL_ok {l : List UInt8} {ls : List (List Cn)} (h : ifL l = some ls) : okIf ls := by
  unfold ifL at h
  cases hd : listsL l with
  | none => rw [hd] at h; cases h
  | some ds =>
    rw [hd] at h
    simp only [Option.bind_some] at h
    split at h
    · rename_i hc
      cases h
      have := listsL_ok _ l (Nat.lt_succ_self _) _ hd
      exact ⟨this.1, hc, this.2⟩
    · cases h
end Go.Proofs.YtfhcniifennfbaaGreatDoor.M
namespace Go.Proofs.YtfhcniifennfbaaGreatDoor
open Go.RowKit M
set_option linter.unusedVariables false

def dg (m : Nat) : UInt8 := UInt8.ofNat (48 + m % 10)
/-- The digits of a number, the last behind. -/
def mtL (n : Nat) : List UInt8 := if h : n = 0 then [] else mtL (n / 10) ++ [dg n]
termination_by n
decreasing_by omega
/-- The mark of a number. -/
def mt (n : Nat) : ByteArray := bytesOf (109 :: mtL n)

theorem mtL_zero : mtL 0 = [] := by rw [mtL]; simp
theorem mtL_step (n : Nat) (h : 0 < n) : mtL n = mtL (n / 10) ++ [dg n] := by rw [mtL, dif_neg (by omega)]
end Go.Proofs.YtfhcniifennfbaaGreatDoor
namespace Go.Proofs.YtfhcniifennfbaaGreatDoor
open Go.RowKit M
set_option linter.unusedVariables false

/-- A leaf: a cell's value, or a slice: of each element its leafs. -/
inductive Lf where
  | c (v : Value)
  | l (rows : List (List Lf))

/-- What an int or a byte is marked with. -/
def mkI (kd : IntKind) (k : Nat) : Int := match kd with
  | .u8 => ((k % 256 : Nat) : Int)
  | _ => (k : Int)
def mkV (k : Nat) : Value → Value
  | .int kd _ => .int kd (mkI kd k)
  | .bool _ => .bool ((k : Int) % 3 == 0)
  | .string _ => .string (mt k)
  | v => v
def szV : Value → Nat
  | .string s => s.size
  | _ => 0
def okV : Value → Prop
  | .string s => s.size ≤ maxLen
  | .int k n => (Lit.int k n).wf = true
  | _ => True

mutual
/-- How many marks it takes. -/
def cntF : Lf → Nat
  | .c _ => 1
  | .l rows => cntRs rows
def cntRs : List (List Lf) → Nat
  | [] => 0
  | r :: rs => cntR r + cntRs rs
def cntR : List Lf → Nat
  | [] => 0
  | x :: r => cntF x + cntR r
end
mutual
/-- Its size, as the laws count it. -/
def szF : Lf → Nat
  | .c v => szV v
  | .l rows => szRs rows
def szRs : List (List Lf) → Nat
  | [] => 0
  | r :: rs => 1 + szR r + szRs rs
def szR : List Lf → Nat
  | [] => 0
  | x :: r => szF x + szR r
end
mutual
/-- Its texts are short enough, and no element has more than twelve leafs. -/
def okF : Lf → Prop
  | .c v => okV v
  | .l rows => okRs rows ∧ rows.length ≤ maxLen
def okRs : List (List Lf) → Prop
  | [] => True
  | r :: rs => (okR r ∧ r.length ≤ 12) ∧ okRs rs
def okR : List Lf → Prop
  | [] => True
  | x :: r => okF x ∧ okR r
end
mutual
/-- Marked, from k on. -/
def mkF (k : Nat) : Lf → Lf
  | .c v => .c (mkV k v)
  | .l rows => .l (mkRs k rows)
def mkRs (k : Nat) : List (List Lf) → List (List Lf)
  | [] => []
  | r :: rs => mkR k r :: mkRs (k + cntR r) rs
def mkR (k : Nat) : List Lf → List Lf
  | [] => []
  | x :: r => mkF k x :: mkR (k + cntF x) r
end

mutual
theorem cnt_leF : ∀ x : Lf, okF x → cntF x ≤ 1 + 12 * szF x
  | .c v, _ => by unfold cntF; omega
  | .l rows, h => by
    unfold okF at h
    unfold cntF szF
    have := cnt_leRs rows h.1
    omega
theorem cnt_leRs : ∀ rows : List (List Lf), okRs rows → cntRs rows ≤ 12 * szRs rows
  | [], _ => by unfold cntRs; omega
  | r :: rs, h => by
    unfold okRs at h
    unfold cntRs szRs
    have h1 := cnt_leR r h.1.1
    have h2 := cnt_leRs rs h.2
    have h3 := h.1.2
    omega
theorem cnt_leR : ∀ r : List Lf, okR r → cntR r ≤ r.length + 12 * szR r
  | [], _ => by unfold cntR; omega
  | x :: r, h => by
    unfold okR at h
    unfold cntR szR
    have h1 := cnt_leF x h.1
    have h2 := cnt_leR r h.2
    rw [List.length_cons]
    omega
end

theorem cntRs_cons (r : List Lf) (rs : List (List Lf)) : cntRs (r :: rs) = cntR r + cntRs rs := by rw [cntRs]
theorem szRs_cons (r : List Lf) (rs : List (List Lf)) : szRs (r :: rs) = 1 + szR r + szRs rs := by rw [szRs]
theorem cntRs_append (a b : List (List Lf)) : cntRs (a ++ b) = cntRs a + cntRs b := by
  induction a with
  | nil => show cntRs b = cntRs [] + cntRs b; rw [cntRs]; omega
  | cons r a ih => rw [List.cons_append, cntRs_cons, cntRs_cons, ih]; omega
theorem szRs_append (a b : List (List Lf)) : szRs (a ++ b) = szRs a + szRs b := by
  induction a with
  | nil => show szRs b = szRs [] + szRs b; rw [szRs]; omega
  | cons r a ih => rw [List.cons_append, szRs_cons, szRs_cons, ih]; omega
theorem cntRs_one (r : List Lf) : cntRs [r] = cntR r := by rw [cntRs_cons, cntRs]; omega
theorem szRs_one (r : List Lf) : szRs [r] = 1 + szR r := by rw [szRs_cons, szRs]; omega
theorem mkRs_length (k : Nat) (rows : List (List Lf)) : (mkRs k rows).length = rows.length := by
  induction rows generalizing k with
  | nil => rw [mkRs]
  | cons r rs ih => rw [mkRs, List.length_cons, List.length_cons, ih]
theorem mkR_length (k : Nat) (r : List Lf) : (mkR k r).length = r.length := by
  induction r generalizing k with
  | nil => rw [mkR]
  | cons x r ih => rw [mkR, List.length_cons, List.length_cons, ih]
theorem szRs_mem (rows : List (List Lf)) (r : List Lf) (h : r ∈ rows) : szR r ≤ szRs rows := by
  induction rows with
  | nil => cases h
  | cons x l ih =>
    rw [szRs_cons]
    rcases List.mem_cons.1 h with rfl | h
    · omega
    · have := ih h; omega
theorem szRs_len (rows : List (List Lf)) : rows.length ≤ szRs rows := by
  induction rows with
  | nil => exact Nat.zero_le _
  | cons x l ih => rw [szRs_cons, List.length_cons]; omega
theorem okRs_mem (rows : List (List Lf)) (h : okRs rows) (r : List Lf) (hr : r ∈ rows) : okR r ∧ r.length ≤ 12 := by
  induction rows with
  | nil => cases hr
  | cons x l ih =>
    unfold okRs at h
    rcases List.mem_cons.1 hr with rfl | hr
    · exact h.1
    · exact ih h.2 hr
theorem okRs_of (rows : List (List Lf)) (h : ∀ r ∈ rows, okR r ∧ r.length ≤ 12) : okRs rows := by
  induction rows with
  | nil => unfold okRs; trivial
  | cons x l ih => unfold okRs; exact ⟨h x (List.mem_cons_self ..), ih fun r hr => h r (List.mem_cons_of_mem _ hr)⟩

section typed
variable {α : Type} (f : α → List Lf)
/-- Where the marks of element j begin. -/
def kAtF (k0 : Nat) (l : List α) (j : Nat) : Nat := k0 + cntRs ((l.take j).map f)
theorem kAtF_zero (k0 : Nat) (l : List α) : kAtF f k0 l 0 = k0 := by simp [kAtF, cntRs]
theorem kAtF_all (k0 : Nat) (l : List α) : kAtF f k0 l l.length = k0 + cntRs (l.map f) := by simp [kAtF]
theorem kAtF_next (k0 : Nat) (l : List α) (j : Nat) (hj : j < l.length) : kAtF f k0 l (j + 1) = kAtF f k0 l j + cntR (f l[j]) := by
  unfold kAtF
  rw [List.take_succ_eq_append_getElem hj, List.map_append, cntRs_append, List.map_cons, List.map_nil, cntRs_one]
  omega
theorem kAtF_le (k0 : Nat) (l : List α) (j : Nat) : k0 ≤ kAtF f k0 l j ∧ kAtF f k0 l j ≤ k0 + cntRs (l.map f) := by
  unfold kAtF
  have h : cntRs ((l.take j).map f) + cntRs ((l.drop j).map f) = cntRs (l.map f) := by
    rw [← cntRs_append, ← List.map_append, List.take_append_drop]
  omega
theorem szAtF_next (l : List α) (j : Nat) (hj : j < l.length) : szRs ((l.take (j + 1)).map f) = szRs ((l.take j).map f) + 1 + szR (f l[j]) := by
  rw [List.take_succ_eq_append_getElem hj, List.map_append, szRs_append, List.map_cons, List.map_nil, szRs_one]
  omega
theorem mkRs_at (k0 : Nat) (l : List α) (j : Nat) (hj : j < l.length) : (mkRs k0 (l.map f))[j]? = some (mkR (kAtF f k0 l j) (f l[j])) := by
  induction l generalizing k0 j with
  | nil => cases hj
  | cons x l ih =>
    rw [List.map_cons, mkRs]
    cases j with
    | zero => rw [kAtF_zero]; rfl
    | succ j =>
      rw [List.getElem?_cons_succ, ih (k0 + cntR (f x)) j (by simpa using hj)]
      have e : kAtF f (k0 + cntR (f x)) l j = kAtF f k0 (x :: l) (j + 1) := by
        unfold kAtF
        rw [List.take_succ_cons, List.map_cons, cntRs_cons]
        omega
      rw [e]
      rfl
theorem map_at (l : List α) (j : Nat) (hj : j < l.length) : (l.map f)[j]? = some (f l[j]) := by
  rw [List.getElem?_map, List.getElem?_eq_getElem hj]
  rfl
end typed
end Go.Proofs.YtfhcniifennfbaaGreatDoor
namespace Go.Proofs.YtfhcniifennfbaaGreatDoor
open Go.RowKit
set_option linter.unusedVariables false

/-- No block that was there is turned, but those of S. -/
structure Turn (S : Nat → Prop) (w w' : World) : Prop where
  os : w'.os = w.os
  tape : w'.tape = w.tape
  output : w'.output = w.output
  size : w.heap.size ≤ w'.heap.size
  block : ∀ i, i < w.heap.size → ¬ S i → w'.heap[i]? = w.heap[i]?
theorem Turn.refl (S : Nat → Prop) (w : World) : Turn S w w := ⟨rfl, rfl, rfl, Nat.le_refl _, fun _ _ _ => rfl⟩
theorem Turn.trans {S : Nat → Prop} {a b c : World} (h : Turn S a b) (k : Turn S b c) : Turn S a c :=
  ⟨k.os.trans h.os, k.tape.trans h.tape, k.output.trans h.output, Nat.le_trans h.size k.size, fun i hi hS => (k.block i (Nat.lt_of_lt_of_le hi h.size) hS).trans (h.block i hi hS)⟩
theorem Turn.wide {S T : Nat → Prop} {a b : World} (h : Turn S a b) (hT : ∀ x, S x → T x) : Turn T a b := ⟨h.os, h.tape, h.output, h.size, fun i hi hS => h.block i hi (fun e => hS (hT i e))⟩
theorem Turn.of_below {S : Nat → Prop} {a b : World} (h : Below a.heap.size a b) : Turn S a b := ⟨h.os, h.tape, h.output, h.size, fun i hi _ => h.block i hi⟩
theorem Turn.set {S : Nat → Prop} (w : World) (p : Addr) (v : Value) (h : S p.block) : Turn S w (w.setCell p v) := ⟨rfl, rfl, rfl, by simp, fun i _ hS => Below.heap_setCell w p v i (fun e => hS (by rw [e]; exact h))⟩
theorem Turn.below {S : Nat → Prop} {a b : World} {C : Nat} (h : Turn S a b) (hC : ∀ x, S x → C ≤ x) (hz : C ≤ a.heap.size) : Below C a b := ⟨h.os, h.tape, h.output, h.size, fun i hi => h.block i (by omega) (fun e => by have := hC i e; omega)⟩
theorem Turn.cell {S : Nat → Prop} {a b : World} (h : Turn S a b) {i : Nat} (hi : i < a.heap.size) (hS : ¬ S i) (o : Nat) : b.cell? ⟨i, o, none⟩ = a.cell? ⟨i, o, none⟩ := by
  have := h.block i hi hS
  simp only [World.cell?, this]
theorem Turn.frozen {S : Nat → Prop} {a b : World} (h : Turn S a b) {i : Nat} (hi : i < a.heap.size) (hS : ¬ S i) (o : Nat) : b.frozen? ⟨i, o, none⟩ = a.frozen? ⟨i, o, none⟩ := by
  have := h.block i hi hS
  simp only [World.frozen?, this]
end Go.Proofs.YtfhcniifennfbaaGreatDoor
