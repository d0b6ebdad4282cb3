/-
  What is quoted comes back, and is plain: no program in sight.
-/
import Derived.Test.YtepdfppbnepamacMathUnq
namespace Go.Proofs.Ytepdfppbnepamac.M

theorem digL_hex : ∀ n : Fin 16, isHex (digL n.val) = true ∧ hexW (digL n.val) = n.val := by decide

theorem free_not37 : freeB 37 = false := by decide

theorem hx_back (c : UInt8) : hx (digL (c.toNat / 16)) (digL (c.toNat % 16)) = c := by
  have h := c.toNat_lt
  have h1 := (digL_hex ⟨c.toNat / 16, by omega⟩).2
  have h2 := (digL_hex ⟨c.toNat % 16, by omega⟩).2
  simp only at h1 h2
  unfold hx
  rw [h1, h2]
  have e : c.toNat / 16 * 16 + c.toNat % 16 = c.toNat := by omega
  rw [e]
  exact UInt8.ofNat_toNat

theorem unq_quote (l : List UInt8) : unq (quoteL l) = some l := by
  induction l with
  | nil => rfl
  | cons c r ih =>
    have e : quoteL (c :: r) = quoteB c ++ quoteL r := by simp [quoteL]
    rw [e]
    cases hf : freeB (c.toNat : Int)
    · rw [quoteB_no hf]
      have h := c.toNat_lt
      have h1 := (digL_hex ⟨c.toNat / 16, by omega⟩).1
      have h2 := (digL_hex ⟨c.toNat % 16, by omega⟩).1
      show unq (37 :: digL (c.toNat / 16) :: digL (c.toNat % 16) :: quoteL r) = _
      rw [unq_hex _ rfl h1 h2, ih, hx_back]
      rfl
    · rw [quoteB_yes hf]
      have hc : ¬ c = 37 := fun e => by rw [e] at hf; exact absurd hf (by decide)
      show unq (c :: quoteL r) = _
      rw [unq_plain _ hc, ih]
      rfl

theorem unqR_quote (l : List UInt8) : unqR (quoteL l) = (l, true) := by unfold unqR; rw [unq_quote]

theorem digL_plain : ∀ n : Fin 16, anyB ((digL n.val).toNat : Int) [0] = true := by decide

theorem free_plain {c : Int} (h : freeB c = true) : anyB c [0] = true := by
  simp only [freeB, isB, anyB, List.any_cons, List.any_nil] at h ⊢
  simp at h ⊢
  omega

theorem quote_plain (l : List UInt8) : allB (quoteL l) [0] = true := by
  induction l with
  | nil => rfl
  | cons c r ih =>
    have e : quoteL (c :: r) = quoteB c ++ quoteL r := by simp [quoteL]
    rw [e]
    unfold allB at ih ⊢
    rw [List.all_append, ih, Bool.and_true]
    cases hf : freeB (c.toNat : Int)
    · rw [quoteB_no hf]
      have h := c.toNat_lt
      have h1 := digL_plain ⟨c.toNat / 16, by omega⟩
      have h2 := digL_plain ⟨c.toNat % 16, by omega⟩
      simp only at h1 h2
      simp only [List.all_cons, List.all_nil, h1, h2, Bool.and_true]
      decide
    · rw [quoteB_yes hf]
      simp only [List.all_cons, List.all_nil, free_plain hf, Bool.and_true]
end Go.Proofs.Ytepdfppbnepamac.M
