/-
  What a patch does to things: no program in sight.
  Which keys a map of texts has.
-/
import Derived.Test.YtkgdmlfdlkmojaaGreatMathFind
import Derived.Test.YtkgdmlfdlkmojaaGreatMathTree
import Derived.Test.YtkgdmlfdlkmojaaGreatRows
import Derived.Maps.OwnOps
import Derived.Maps.OwnSet
import Derived.Maps.Views
import Derived.StringKeys
namespace Go.Proofs.YtkgdmlfdlkmojaaGreat.M

/-- A thing of which other things are known. -/
def setP (r : Rs) (ps : List Pp) : Rs := { r with ps := ps }
/-- Where it is refused ahead of the sets, the code; else 0. -/
def patI (rs : List Rs) (p : List ByteArray) : Int :=
  if treeB rs = false then 500 else if p.length = 0 then 403 else if findI rs p < 0 then 404 else 0
def patK (rs : List Rs) (k : Nat) (ss : List St) : List Rs × Int :=
  match rs[k]? with
  | some r => if setsB r.ps ss then (rs.set k (setP r (setsL r.ps ss)), 207) else (rs, 409)
  | none => (rs, 409)
/-- What is left, and the code. -/
def pat (rs : List Rs) (p : List ByteArray) (ss : List St) : List Rs × Int :=
  if patI rs p = 0 then patK rs (findI rs p).toNat ss else (rs, patI rs p)
theorem patI_tree {rs : List Rs} {p : List ByteArray} (h : treeB rs = false) : patI rs p = 500 := by unfold patI; rw [if_pos h]
theorem patI_root {rs : List Rs} {p : List ByteArray} (h : treeB rs = true) (h0 : p.length = 0) : patI rs p = 403 := by unfold patI; rw [if_neg (by rw [h]; decide), if_pos h0]
theorem patI_none {rs : List Rs} {p : List ByteArray} (h : treeB rs = true) (h0 : ¬ p.length = 0) (hf : findI rs p < 0) : patI rs p = 404 := by unfold patI; rw [if_neg (by rw [h]; decide), if_neg h0, if_pos hf]
theorem patI_ok {rs : List Rs} {p : List ByteArray} (h : treeB rs = true) (h0 : ¬ p.length = 0) (hf : ¬ findI rs p < 0) : patI rs p = 0 := by unfold patI; rw [if_neg (by rw [h]; decide), if_neg h0, if_neg hf]
theorem pat_no {rs : List Rs} {p : List ByteArray} {c : Int} (h : patI rs p = c) (hc : c ≠ 0) (ss : List St) : pat rs p ss = (rs, c) := by unfold pat; rw [if_neg (by rw [h]; exact hc), h]
theorem pat_409 {rs : List Rs} {p : List ByteArray} {ss : List St} (h : patI rs p = 0) (k : Nat) (hk : k < rs.length) (hf : findI rs p = k) (e : setsB rs[k].ps ss = false) : pat rs p ss = (rs, 409) := by
  unfold pat patK
  rw [if_pos h, hf, Int.toNat_natCast, List.getElem?_eq_getElem hk]
  simp only [e]; rfl
theorem pat_207 {rs : List Rs} {p : List ByteArray} {ss : List St} (h : patI rs p = 0) (k : Nat) (hk : k < rs.length) (hf : findI rs p = k) (e : setsB rs[k].ps ss = true) : pat rs p ss = (rs.set k (setP rs[k] (setsL rs[k].ps ss)), 207) := by
  unfold pat patK
  rw [if_pos h, hf, Int.toNat_natCast, List.getElem?_eq_getElem hk]
  simp only [e]; rfl
theorem patI_found {rs : List Rs} {p : List ByteArray} (h : patI rs p = 0) : ∃ k, k < rs.length ∧ findI rs p = (k : Int) := by
  have hf : ¬ findI rs p < 0 := by
    unfold patI at h
    split at h
    · cases h
    · split at h
      · cases h
      · split at h
        · cases h
        · assumption
  unfold findI at hf ⊢
  split
  · exact ⟨_, by assumption, rfl⟩
  · rename_i e
    rw [if_neg e] at hf
    exact absurd (by decide) hf
theorem pat_len (rs : List Rs) (p : List ByteArray) (ss : List St) : (pat rs p ss).1.length = rs.length := by
  unfold pat patK
  split
  · split
    · split
      · exact List.length_set
      · rfl
    · rfl
  · rfl
theorem sumP_append (a b : List Pp) : sumP (a ++ b) = sumP a + sumP b := by simp [sumP]
theorem oneF_sum (p : Pp) : ∀ (l : List Pp) (d : Bool), sumP (oneF d p l) ≤ sumP l + (if d then 0 else szP p)
  | [], d => by cases d <;> simp [oneF, sumP]
  | x :: r, d => by
    have h := oneF_sum p r (d || !lessP x p)
    have e : sumP (oneF d p (x :: r)) = sumP (if d || lessP x p then [] else [p]) + (sumP (if neP p x then [x] else []) + sumP (oneF (d || !lessP x p) p r)) := by
      rw [oneF, sumP_append, sumP_append]
    have e1 : sumP [p] = szP p := by simp [sumP]
    have e2 : sumP [x] = szP x := by simp [sumP]
    have e3 : sumP (x :: r) = szP x + sumP r := by simp [sumP]
    have e4 : sumP ([] : List Pp) = 0 := rfl
    rw [e, e3]
    generalize sumP (oneF (d || !lessP x p) p r) = n at *
    generalize lessP x p = u at *
    generalize neP p x = v at *
    cases d <;> cases u <;> cases v <;> simp at * <;> omega
theorem oneL_sum (l : List Pp) (s : St) : sumP (oneL l s) ≤ sumP l + szT s := by
  have := oneF_sum s.2 l s.1
  unfold oneL szT
  split at this <;> omega
theorem turn_sum (l : List Pp) : ∀ (ss : List St), sumP (turnL l ss) ≤ sumP l + sumT ss := by
  intro ss
  induction ss generalizing l with
  | nil => simp [turnL, sumT]
  | cons s r ih =>
    have h1 := ih (oneL l s)
    have h2 := oneL_sum l s
    have e : turnL l (s :: r) = turnL (oneL l s) r := rfl
    have e2 : sumT (s :: r) = szT s + sumT r := by simp [sumT]
    rw [e, e2]
    omega
theorem sets_sum (l : List Pp) (ss : List St) : (setsL l ss).length + sumP (setsL l ss) ≤ l.length + sumP l + (ss.length + sumT ss) := by
  unfold setsL
  split
  · have h1 := turn_len l ss ss.length
    have h2 := turn_sum l ss
    rw [List.take_length] at h1
    omega
  · omega
theorem sumR_set (rs : List Rs) (k : Nat) (hk : k < rs.length) (r : Rs) : sumR (rs.set k r) + szR rs[k] = sumR rs + szR r := by
  induction rs generalizing k with
  | nil => cases hk
  | cons x l ih =>
    cases k with
    | zero => simp [sumR]; omega
    | succ k =>
      have h := ih k (by simpa using hk)
      have e1 : sumR ((x :: l).set (k + 1) r) = szR x + sumR (l.set k r) := by simp [sumR]
      have e2 : sumR (x :: l) = szR x + sumR l := by simp [sumR]
      rw [e1, e2, List.getElem_cons_succ]
      omega
theorem pat_sum (rs : List Rs) (p : List ByteArray) (ss : List St) : (pat rs p ss).1.length + sumR (pat rs p ss).1 ≤ rs.length + sumR rs + (ss.length + sumT ss) := by
  unfold pat patK
  split
  · split
    · rename_i r hr
      split
      · obtain ⟨hk, e⟩ := List.getElem?_eq_some_iff.1 hr
        have h1 := sumR_set rs (findI rs p).toNat hk (setP r (setsL r.ps ss))
        have h2 := sets_sum r.ps ss
        have h3 : szR (setP r (setsL r.ps ss)) = r.pa.length + sumL r.pa + r.bo.size + ((setsL r.ps ss).length + sumP (setsL r.ps ss)) := rfl
        have h4 : szR r = r.pa.length + sumL r.pa + r.bo.size + (r.ps.length + sumP r.ps) := rfl
        simp only [List.length_set]
        rw [e] at h1
        omega
      · simp only; omega
    · simp only; omega
  · simp only; omega
end Go.Proofs.YtkgdmlfdlkmojaaGreat.M
namespace Go.Proofs.YtkgdmlfdlkmojaaGreat
open Go.RowKit Go.Maps

/-- Its keys are just the texts of which P holds. -/
def Holds (D : DataW Unit) (P : ByteArray → Prop) : Prop := ∃ es, D = .map es ∧ ∀ k : Lit, (∃ p ∈ es, p.1 = k) ↔ ∃ s : ByteArray, P s ∧ k = .string s.data.toList

theorem key_inj {s t : ByteArray} (h : Lit.string s.data.toList = .string t.data.toList) : s = t := by
  have : s.data.toList = t.data.toList := by injection h
  exact ByteArray.ext (Array.ext' this)
theorem mem_insertK (x : Lit × DataW Unit) : ∀ (l : List (Lit × DataW Unit)) (p : Lit × DataW Unit), p ∈ DataW.insert x l ↔ p = x ∨ p ∈ l
  | [], p => by simp [DataW.insert]
  | y :: r, p => by
    rw [DataW.insert]
    by_cases h : x.1.before y.1 = true
    · rw [if_pos h]; simp
    · rw [if_neg h, List.mem_cons, mem_insertK x r p, List.mem_cons]
      constructor
      · rintro (h | h | h)
        · exact .inr (.inl h)
        · exact .inl h
        · exact .inr (.inr h)
      · rintro (h | h | h)
        · exact .inr (.inl h)
        · exact .inl h
        · exact .inr (.inr h)
theorem Holds.nil : Holds (.map []) (fun _ => False) := ⟨[], rfl, fun k => ⟨(fun ⟨_, h, _⟩ => by cases h), (fun ⟨_, h, _⟩ => h.elim)⟩⟩
theorem not_key {k : Lit} {p : Lit × DataW Unit} (hk : WideAt.IsKeyLit k) : (!p.1.sameKey k) = true ↔ p.1 ≠ k := by
  constructor
  · intro h e
    rw [e, WideAt.sameKey_self hk] at h
    cases h
  · intro h
    cases hs : p.1.sameKey k
    · rfl
    · exact absurd (WideAt.sameKey_eq hs) h
theorem Holds.put {D : DataW Unit} {P : ByteArray → Prop} (h : Holds D P) (s : ByteArray) (d : DataW Unit) : Holds (D.put (.string s.data.toList) d) (fun x => x = s ∨ P x) := by
  obtain ⟨es, rfl, hk⟩ := h
  refine ⟨_, rfl, fun k => ?_⟩
  constructor
  · rintro ⟨p, hp, rfl⟩
    rcases (mem_insertK _ _ p).1 hp with rfl | hp
    · exact ⟨s, .inl rfl, rfl⟩
    · obtain ⟨t, ht, e⟩ := (hk p.1).1 ⟨p, (List.mem_filter.1 hp).1, rfl⟩
      exact ⟨t, .inr ht, e⟩
  · rintro ⟨t, ht, rfl⟩
    by_cases e : t = s
    · subst e
      exact ⟨_, (mem_insertK _ _ _).2 (.inl rfl), rfl⟩
    · rcases ht with ht | ht
      · exact absurd ht e
      · obtain ⟨p, hp, e2⟩ := (hk _).2 ⟨t, ht, rfl⟩
        refine ⟨p, (mem_insertK _ _ _).2 (.inr (List.mem_filter.2 ⟨hp, (not_key (by trivial)).2 ?_⟩)), e2⟩
        rw [e2]
        exact fun e3 => e (key_inj e3)
theorem Holds.del {D : DataW Unit} {P : ByteArray → Prop} (h : Holds D P) (s : ByteArray) : Holds (D.del (.string s.data.toList)) (fun x => P x ∧ x ≠ s) := by
  obtain ⟨es, rfl, hk⟩ := h
  refine ⟨_, rfl, fun k => ?_⟩
  constructor
  · rintro ⟨p, hp, rfl⟩
    obtain ⟨h1, h2⟩ := List.mem_filter.1 hp
    obtain ⟨t, ht, e⟩ := (hk p.1).1 ⟨p, h1, rfl⟩
    refine ⟨t, ⟨ht, fun e2 => ?_⟩, e⟩
    have h3 := (not_key (k := .string s.data.toList) (by trivial)).1 h2
    rw [e, e2] at h3
    exact h3 rfl
  · rintro ⟨t, ⟨ht, hne⟩, rfl⟩
    obtain ⟨p, hp, e2⟩ := (hk _).2 ⟨t, ht, rfl⟩
    refine ⟨p, List.mem_filter.2 ⟨hp, (not_key (by trivial)).2 ?_⟩, e2⟩
    rw [e2]
    exact fun e3 => hne (key_inj e3)
theorem Holds.size {D : DataW Unit} {P : ByteArray → Prop} (h : Holds D P) : Maps.size D = 0 ↔ ∀ s, ¬ P s := by
  obtain ⟨es, rfl, hk⟩ := h
  rw [size_eq]
  constructor
  · intro h0 s hs
    have : es = [] := List.length_eq_zero_iff.1 h0
    subst this
    obtain ⟨p, hp, _⟩ := (hk _).2 ⟨s, hs, rfl⟩
    cases hp
  · intro h0
    cases es with
    | nil => rfl
    | cons p r =>
      obtain ⟨s, hs, _⟩ := (hk p.1).1 ⟨p, by simp, rfl⟩
      exact absurd hs (h0 s)
theorem Holds.same {D : DataW Unit} {P Q : ByteArray → Prop} (h : Holds D P) (e : ∀ s, P s ↔ Q s) : Holds D Q := by
  obtain ⟨es, rfl, hk⟩ := h
  refine ⟨es, rfl, fun k => (hk k).trans ?_⟩
  constructor
  · rintro ⟨s, hs, e2⟩; exact ⟨s, (e s).1 hs, e2⟩
  · rintro ⟨s, hs, e2⟩; exact ⟨s, (e s).2 hs, e2⟩
end Go.Proofs.YtkgdmlfdlkmojaaGreat
