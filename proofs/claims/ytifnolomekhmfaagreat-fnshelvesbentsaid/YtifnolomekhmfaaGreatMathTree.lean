/-
  Which lists of things are right: no program in sight.
-/
import Derived.Test.YtifnolomekhmfaaGreatEqBs
import Derived.Test.YtifnolomekhmfaaGreatMathPath
import Derived.Test.YtifnolomekhmfaaGreatMathBack3
namespace Go.Proofs.YtifnolomekhmfaaGreat
open M

def resB (r : Rs) : Bool := decide (0 < r.pa.length) && (pathB r.pa && (decide (r.bo.size ≤ 200) && ((!r.co || decide (r.bo.size = 0)) && (inB r.ve 0 99999 && propsB r.ps))))
def lessR (a b : Rs) : Bool := lessL a.pa b.pa
def onB (rs : List Rs) (r : Rs) : Bool := collB rs (aboveL r.pa)
def treeB (rs : List Rs) : Bool := decide (rs.length ≤ 12) && (rs.all resB && (ascB lessR rs && rs.all (onB rs)))

theorem treeB_long {rs : List Rs} (h : ¬ rs.length ≤ 12) : treeB rs = false := by unfold treeB; rw [decide_eq_false h]; rfl
theorem treeB_bad {rs : List Rs} (k : Nat) (h : k < rs.length) (e : resB rs[k] = false) : treeB rs = false := by
  unfold treeB
  have : rs.all resB = false := by
    rw [List.all_eq_false]
    exact ⟨_, List.getElem_mem h, by simp [e]⟩
  rw [this]; simp
theorem treeB_desc {rs : List Rs} (k : Nat) (h : k + 1 < rs.length) (e : lessR rs[k] rs[k + 1] = false) : treeB rs = false := by
  unfold treeB
  rw [ascB_not lessR rs k h e]; simp
theorem treeB_off {rs : List Rs} (k : Nat) (h : k < rs.length) (e : onB rs rs[k] = false) : treeB rs = false := by
  unfold treeB
  have : rs.all (onB rs) = false := by
    rw [List.all_eq_false]
    exact ⟨_, List.getElem_mem h, by simp [e]⟩
  rw [this]; simp
theorem all_of {rs : List Rs} {q : Rs → Bool} (h : ∀ j (hj : j < rs.length), q rs[j] = true) : rs.all q = true := by
  rw [List.all_eq_true]
  intro p hp
  obtain ⟨j, hj, rfl⟩ := List.mem_iff_getElem.1 hp
  exact h j hj
theorem treeB_of {rs : List Rs} (h : ∀ j (hj : j < rs.length), resB rs[j] = true) : treeB rs = (decide (rs.length ≤ 12) && (ascB lessR rs && rs.all (onB rs))) := by
  unfold treeB
  rw [all_of h]; simp

/-! ### The order is a whole one -/
theorem bytesLess_trans : ∀ a b c : List UInt8, Op.bytesLess a b = true → Op.bytesLess b c = true → Op.bytesLess a c = true
  | [], [], _, h, _ => by simp [Op.bytesLess] at h
  | [], _ :: _, [], _, h => by simp [Op.bytesLess] at h
  | [], _ :: _, _ :: _, _, _ => by simp [Op.bytesLess]
  | _ :: _, [], _, h, _ => by simp [Op.bytesLess] at h
  | _ :: _, _ :: _, [], _, h => by simp [Op.bytesLess] at h
  | x :: a, y :: b, z :: c, h, h' => by
    have ih := bytesLess_trans a b c
    simp only [Op.bytesLess, Bool.or_eq_true, Bool.and_eq_true, decide_eq_true_eq, beq_iff_eq] at *
    rcases h with h | ⟨rfl, h⟩
    · rcases h' with h' | ⟨rfl, h'⟩
      · left
        have h1 : x.toNat < y.toNat := h
        have h2 : y.toNat < z.toNat := h'
        exact (show x.toNat < z.toNat by omega)
      · exact .inl h
    · rcases h' with h' | ⟨rfl, h'⟩
      · exact .inl h'
      · exact .inr ⟨rfl, ih h h'⟩
theorem lessL_trans : ∀ a b c : List ByteArray, lessL a b = true → lessL b c = true → lessL a c = true
  | [], [], _, h, _ => by simp [lessL] at h
  | [], _ :: _, [], _, h => by simp [lessL] at h
  | [], _ :: _, _ :: _, _, _ => by simp [lessL]
  | _ :: _, [], _, h, _ => by simp [lessL] at h
  | _ :: _, _ :: _, [], _, h => by simp [lessL] at h
  | x :: a, y :: b, z :: c, h, h' => by
    have ih := lessL_trans a b c
    rw [lessL] at *
    by_cases e1 : x = y
    · subst e1
      rw [if_pos rfl] at h
      by_cases e2 : x = z
      · subst e2
        rw [if_pos rfl] at *
        exact ih h h'
      · rw [if_neg e2] at *
        exact h'
    · rw [if_neg e1] at h
      by_cases e2 : y = z
      · subst e2
        rw [if_neg e1]
        exact h
      · rw [if_neg e2] at h'
        have ht := bytesLess_trans _ _ _ h h'
        have hne : ¬ x = z := fun e => by
          subst e
          have := bytesLess_asym _ _ h
          have h2 : Op.bytesLess y.toList x.toList = true := h'
          rw [this] at h2
          cases h2
        rw [if_neg hne]
        exact ht
theorem asc_pair {rs : List Rs} (h : ascB lessR rs = true) : ∀ (d i : Nat) (hj : i + d + 1 < rs.length), lessL (rs[i]'(by omega)).pa (rs[i + d + 1]).pa = true := by
  have step : ∀ (i : Nat) (hi : i + 1 < rs.length), lessL (rs[i]'(by omega)).pa (rs[i + 1]).pa = true := fun i hi => by
    cases e : lessR rs[i] rs[i + 1]
    · rw [ascB_not lessR rs i hi e] at h; cases h
    · exact e
  intro d
  induction d with
  | zero => intro i hj; exact step i hj
  | succ d ih =>
    intro i hj
    exact lessL_trans _ _ _ (ih i (by omega)) (step (i + d + 1) (by omega))
theorem asc_apart {rs : List Rs} (h : ascB lessR rs = true) (i j : Nat) (hi : i < rs.length) (hj : j < rs.length) (e : rs[i].pa = rs[j].pa) : i = j := by
  have key : ∀ i j (hij : i < j) (hj : j < rs.length), (rs[i]'(by omega)).pa ≠ rs[j].pa := fun i j hij hj e => by
    obtain ⟨d, rfl⟩ : ∃ d, j = i + d + 1 := ⟨j - i - 1, by omega⟩
    have h1 := asc_pair h d i hj
    rw [← e, lessL_irr] at h1
    cases h1
  rcases Nat.lt_trichotomy i j with h1 | h1 | h1
  · exact absurd e (key i j h1 hj)
  · exact h1
  · exact absurd e.symm (key j i h1 hi)

/-! ### Texts of paths -/
def pt (p : List ByteArray) : ByteArray := bytesOf (ptextL p)
theorem pt_inj {p q : List ByteArray} (hp : pathB p = true) (hq : pathB q = true) (h : pt p = pt q) : p = q := by
  have e : ptextL p = ptextL q := by
    have := congrArg (fun x : ByteArray => x.data.toList) h
    simpa [pt, bytesOf] using this
  have h1 := parseP_text hp
  have h2 := parseP_text hq
  rw [e, h2] at h1
  exact (Prod.mk.inj h1).1.symm
theorem pathB_above {p : List ByteArray} (h : pathB p = true) : pathB (aboveL p) = true := by
  unfold pathB at *
  rw [Bool.and_eq_true, decide_eq_true_eq, List.all_eq_true] at *
  exact ⟨fun s hs => h.1 s (List.mem_of_mem_take hs), by rw [aboveL_len]; omega⟩
theorem pathB_nil : pathB [] = true := by decide
theorem resB_path {r : Rs} (h : resB r = true) : pathB r.pa = true := by
  unfold resB at h
  simp only [Bool.and_eq_true] at h
  exact h.2.1

/-- What is left of the paths that something is on. -/
def LeftP (rs : List Rs) (s : ByteArray) : Prop := ((∃ r ∈ rs, s = pt (aboveL r.pa)) ∧ s ≠ pt []) ∧ ∀ r ∈ rs, r.co = true → s ≠ pt r.pa
theorem left_none {rs : List Rs} (hr : ∀ r ∈ rs, resB r = true) (ha : ascB lessR rs = true) : (∀ s, ¬ LeftP rs s) ↔ rs.all (onB rs) = true := by
  rw [List.all_eq_true]
  constructor
  · intro h r hm
    have hn := h (pt (aboveL r.pa))
    unfold onB
    by_cases e0 : (aboveL r.pa).length = 0
    · exact collB_root e0
    · have hp := pathB_above (resB_path (hr r hm))
      have hex : ∃ r' ∈ rs, r'.co = true ∧ r'.pa = aboveL r.pa := by
        by_cases hh : ∃ r' ∈ rs, r'.co = true ∧ pt (aboveL r.pa) = pt r'.pa
        · obtain ⟨r', hm', hc, he⟩ := hh
          exact ⟨r', hm', hc, (pt_inj hp (resB_path (hr r' hm')) he).symm⟩
        · exfalso
          refine hn ⟨⟨⟨r, hm, rfl⟩, fun e => e0 ?_⟩, fun r' hm' hc he => hh ⟨r', hm', hc, he⟩⟩
          rw [pt_inj hp pathB_nil e]; rfl
      obtain ⟨r', hm', hc, he⟩ := hex
      obtain ⟨j, hj, rfl⟩ := List.mem_iff_getElem.1 hm'
      rcases findI_cases rs (aboveL r.pa) with e | ⟨k, hk, e, hs⟩
      · exfalso
        have := collB_none e e0
        unfold findI at e
        by_cases hlt : rs.findIdx (isAt (aboveL r.pa)) < rs.length
        · rw [if_pos hlt] at e; omega
        · exact hlt (List.findIdx_lt_length_of_exists ⟨_, hm', by unfold isAt; rw [he]; exact sameL_refl _⟩)
      · rw [collB_at k hk e e0]
        have hk' : rs[k].pa = aboveL r.pa := by unfold sameL at hs; exact of_decide_eq_true hs
        have := asc_apart ha k j hk hj (hk'.trans he.symm)
        subst this
        exact hc
  · rintro h s ⟨⟨⟨r, hm, rfl⟩, h0⟩, h1⟩
    have hc := h r hm
    unfold onB at hc
    by_cases e0 : (aboveL r.pa).length = 0
    · rw [List.length_eq_zero_iff.1 e0] at h0; exact h0 rfl
    · rcases findI_cases rs (aboveL r.pa) with e | ⟨k, hk, e, hs⟩
      · rw [collB_none e e0] at hc; cases hc
      · rw [collB_at k hk e e0] at hc
        have hk' : rs[k].pa = aboveL r.pa := by unfold sameL at hs; exact of_decide_eq_true hs
        exact h1 _ (List.getElem_mem hk) hc (by rw [hk'])
end Go.Proofs.YtifnolomekhmfaaGreat
