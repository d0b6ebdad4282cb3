/-
  Plain facts on what stands ahead of a body: where it ends, which lines it has: no program in sight.
-/
import Derived.Test.YtkhnkockdfmkgabGreatDoorMathGet
import Derived.Test.YtkhnkockdfmkgabGreatDoorMathEnd
import Derived.Test.YtkhnkockdfmkgabGreatDoorSpecVal
import Derived.Test.YtkhnkockdfmkgabGreatDoorMathBack
namespace Go.Proofs.YtkhnkockdfmkgabGreatDoor.M

theorem idx_skip {x : UInt8} {r p : List UInt8} {n : Nat} (h : p.isPrefixOf (x :: r) = false) (hr : Lib.index r p = n) : Lib.index (x :: r) p = ((n + 1 : Nat) : Int) := by
  unfold Lib.index
  rw [h, hr]
  have : ((n : Int) == -1) = false := by rw [beq_eq_false_iff_ne]; omega
  simp [this]
theorem idx_hit {l p : List UInt8} (hp : p ≠ []) (h : p.isPrefixOf l = true) : Lib.index l p = 0 := by
  cases l with
  | nil => cases p with
    | nil => exact absurd rfl hp
    | cons _ _ => simp [List.isPrefixOf] at h
  | cons x r => unfold Lib.index; rw [h]; rfl
theorem pre_no {c x : UInt8} {p r : List UInt8} (h : x ≠ c) : (c :: p).isPrefixOf (x :: r) = false := by
  rw [Bool.eq_false_iff]
  intro e
  simp [List.isPrefixOf] at e
  exact h e.1.symm
theorem idx_word {c : UInt8} {p r : List UInt8} {n : Nat} (hr : Lib.index r (c :: p) = n) : ∀ a : List UInt8, c ∉ a → Lib.index (a ++ r) (c :: p) = ((a.length + n : Nat) : Int) := by
  intro a
  induction a with
  | nil => intro _; rw [List.nil_append, hr]; simp
  | cons x a ih =>
    intro h
    have hx : x ≠ c := fun e => h (by rw [e]; simp)
    have := idx_skip (pre_no (p := p) (r := a ++ r) hx) (ih (fun e => h (by simp [e])))
    rw [List.cons_append, this]
    simp
    omega
/-- A word without the stop's first byte is cut off. -/
theorem cutS_word {c : UInt8} {p a b : List UInt8} (h : c ∉ a) : cutS (c :: p) (a ++ (c :: p ++ b)) = some (a, b) := by
  have h0 : Lib.index (c :: p ++ b) (c :: p) = ((0 : Nat) : Int) := idx_hit (by simp) (by rw [List.isPrefixOf_iff_prefix]; exact List.prefix_append _ _)
  have h1 := idx_word h0 a h
  rw [Nat.add_zero] at h1
  unfold cutS
  rw [h1, if_pos (by omega), Int.toNat_natCast, List.take_left']
  · rw [← List.append_assoc, List.drop_left' (by simp)]
  · rfl

/-- The line of a head. -/
def hdLine (h : Hd) : List UInt8 := h.1.data.toList ++ ([58, 32] ++ h.2.data.toList)
theorem hdTxt_line (h : Hd) : hdTxt h = hdLine h ++ [13, 10] := by simp [hdTxt, hdLine, crlf]
theorem hdsTxt_flat (hs : List Hd) : hdsTxt hs = flatE (hs.map hdLine) := by
  unfold hdsTxt flatE
  rw [List.flatMap_map]
  congr 1
  funext h
  exact hdTxt_line h
theorem flatE_cons (x : List UInt8) (L : List (List UInt8)) : flatE (x :: L) = x ++ (13 :: 10 :: flatE L) := by simp [flatE]

def lineOk (x : List UInt8) : Prop := x ≠ [] ∧ 13 ∉ x
theorem two4_no {x : UInt8} {T : List UInt8} (h : x ≠ 13) : two4.isPrefixOf (13 :: 10 :: x :: T) = false := by
  rw [Bool.eq_false_iff]
  intro e
  simp [two4, List.isPrefixOf] at e
  exact h e.1.symm
/-- Behind lines that are not empty: there the first two line's ends are. -/
theorem idx_lines (T : List UInt8) : ∀ (L : List (List UInt8)), L ≠ [] → (∀ x ∈ L, lineOk x) → ∃ n : Nat, Lib.index (flatE L ++ (13 :: 10 :: T)) two4 = n ∧ n + 2 = (flatE L).length := by
  intro L
  induction L with
  | nil => intro h; exact absurd rfl h
  | cons x L ih =>
    intro _ hL
    have hx := hL x (by simp)
    by_cases hn : L = []
    · subst hn
      refine ⟨x.length, ?_, by simp [flatE]⟩
      have h0 : Lib.index (13 :: 10 :: 13 :: 10 :: T) two4 = ((0 : Nat) : Int) := idx_hit (by simp [two4]) (by simp [two4, List.isPrefixOf])
      have := idx_word (c := 13) (p := [10, 13, 10]) h0 x hx.2
      rw [Nat.add_zero] at this
      rw [← this]
      simp [flatE, two4]
    · obtain ⟨n, h1, h2⟩ := ih hn (fun y hy => hL y (by simp [hy]))
      obtain ⟨y, M, rfl⟩ : ∃ y M, L = y :: M := by
        cases L with
        | nil => exact absurd rfl hn
        | cons y M => exact ⟨y, M, rfl⟩
      obtain ⟨hy1, hy2⟩ := hL y (by simp)
      obtain ⟨c, y', rfl⟩ : ∃ c y', y = c :: y' := by
        cases y with
        | nil => exact absurd rfl hy1
        | cons c y' => exact ⟨c, y', rfl⟩
      have hc : c ≠ 13 := fun e => hy2 (by rw [e]; simp)
      obtain ⟨T', hT'⟩ : ∃ T', flatE ((c :: y') :: M) ++ (13 :: 10 :: T) = c :: T' := ⟨_, by rw [flatE_cons, List.cons_append, List.cons_append]⟩
      rw [hT'] at h1
      have i1 : Lib.index (10 :: c :: T') two4 = ((n + 1 : Nat) : Int) := idx_skip (pre_no (by decide)) h1
      have i2 : Lib.index (13 :: 10 :: c :: T') two4 = ((n + 1 + 1 : Nat) : Int) := idx_skip (two4_no hc) i1
      have i3 := idx_word (c := 13) (p := [10, 13, 10]) i2 x hx.2
      refine ⟨x.length + (n + 1 + 1), ?_, ?_⟩
      · rw [← i3, flatE_cons]
        simp only [List.append_assoc, List.cons_append, hT']
        rfl
      · rw [flatE_cons]
        simp only [List.length_append, List.length_cons]
        omega
theorem lines_word {x : List UInt8} (h : 13 ∉ x) : linesL x = [x] := by
  induction x with
  | nil => rfl
  | cons c r ih =>
    cases r with
    | nil => rfl
    | cons d r =>
      rw [linesL, if_neg (fun e => h (by rw [e.1]; simp)), ih (fun e => h (by simp [e]))]
theorem lines_app {x : List UInt8} (T : List UInt8) (h : 13 ∉ x) : linesL (x ++ 13 :: 10 :: T) = x :: linesL T := by
  induction x with
  | nil => rw [List.nil_append, linesL, if_pos ⟨rfl, rfl⟩]
  | cons c r ih =>
    have hr := ih (fun e => h (by simp [e]))
    have hc : ¬ c = 13 := fun e => h (by rw [e]; simp)
    cases r with
    | nil =>
      rw [List.nil_append] at hr
      rw [List.cons_append, List.nil_append, linesL, if_neg (fun e => hc e.1), hr]
    | cons d r =>
      rw [List.cons_append] at hr
      rw [List.cons_append, List.cons_append, linesL, if_neg (fun e => hc e.1), hr]
/-- The lines, without the last one's end. -/
theorem lines_flat : ∀ (L : List (List UInt8)) (t : List UInt8), L ≠ [] → (∀ x ∈ L, 13 ∉ x) → t ++ [13, 10] = flatE L → linesL t = L := by
  intro L
  induction L with
  | nil => intro t h; exact absurd rfl h
  | cons x L ih =>
    intro t _ hL ht
    by_cases hn : L = []
    · subst hn
      have : t = x := by
        rw [flatE_cons] at ht
        exact List.append_cancel_right (show t ++ [13, 10] = x ++ [13, 10] from ht)
      rw [this]
      exact lines_word (hL x (by simp))
    · obtain ⟨t', ht'⟩ : ∃ t', flatE L = t' ++ [13, 10] := by
        refine ⟨(flatE L).dropLast.dropLast, ?_⟩
        obtain ⟨M, y, rfl⟩ : ∃ M y, L = M ++ [y] := ⟨L.dropLast, L.getLast hn, (List.dropLast_concat_getLast hn).symm⟩
        have : flatE (M ++ [y]) = (flatE M ++ y ++ [13]) ++ [10] := by simp [flatE]
        rw [this, List.dropLast_concat, List.dropLast_concat]
        simp
      rw [flatE_cons, ht'] at ht
      have : t = x ++ 13 :: 10 :: t' := by
        apply List.append_cancel_right (bs := [13, 10])
        rw [ht]
        simp
      rw [this, lines_app _ (hL x (by simp)), ih t' hn (fun y hy => hL y (by simp [hy])) ht'.symm]

theorem bytesOf_self (s : ByteArray) : bytesOf s.data.toList = s := by
  apply ByteArray.ext; simp [bytesOf]
theorem sm_all {l : List UInt8} (h : smB l = true) : allB l [2, 4, 7] = true ∧ l ≠ [] := by
  cases l with
  | nil => cases h
  | cons c r =>
    simp only [smB, Bool.and_eq_true] at h
    exact ⟨h.2, by simp⟩
theorem hd_facts {h : Hd} (hb : hdB h = true) : smB h.1.data.toList = true ∧ 58 ∉ h.1.data.toList ∧ 13 ∉ h.1.data.toList ∧ h.1.data.toList ≠ [] ∧ 13 ∉ h.2.data.toList ∧ trimL h.2.data.toList = h.2.data.toList := by
  simp only [hdB, valB, Bool.and_eq_true, decide_eq_true_eq] at hb
  obtain ⟨h1, h2, h3, h4⟩ := hb
  obtain ⟨h5, h6⟩ := sm_all h1
  exact ⟨h1, allB_no 58 h5 (by decide), allB_no 13 h5 (by decide), h6, allB_no 13 h3 (by decide), h4⟩
theorem hdLine_ok {h : Hd} (hb : hdB h = true) : lineOk (hdLine h) := by
  obtain ⟨_, _, h3, h4, h5, _⟩ := hd_facts hb
  refine ⟨fun e => ?_, fun e => ?_⟩
  · unfold hdLine at e
    exact h4 (List.append_eq_nil_iff.1 e).1
  · unfold hdLine at e
    simp at e
    rcases e with e | e
    · exact h3 (by simpa using e)
    · exact h5 (by simpa using e)
end Go.Proofs.YtkhnkockdfmkgabGreatDoor.M
