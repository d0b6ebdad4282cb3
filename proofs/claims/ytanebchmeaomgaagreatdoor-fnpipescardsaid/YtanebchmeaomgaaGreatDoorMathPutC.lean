/-
  Plain facts on bodies told in pieces: no program in sight.
-/
import Derived.Test.YtanebchmeaomgaaGreatDoorMathGet
namespace Go.Proofs.YtanebchmeaomgaaGreatDoor.M

/-- A piece: its size, a line's end, its bytes, a line's end. -/
def chTxt (m : List UInt8) : List UInt8 := hexDigits m.length ++ (crlf ++ (m ++ crlf))
/-- Nothing of none. -/
def chTxt0 (m : List UInt8) : List UInt8 := if m = [] then [] else chTxt m
/-- The pieces that a body is cut into. -/
def pcsC : List Int → List UInt8 → List (List UInt8)
  | [], b => if b = [] then [] else [b]
  | n :: r, b => if n < 1 ∨ b = [] then pcsC r b else b.take n.toNat :: pcsC r (b.drop n.toNat)
def pcsTxt (ns : List Int) (b : List UInt8) : List UInt8 := (pcsC ns b).flatMap chTxt
/-- A body in pieces. -/
def putCs (ns : List Int) (b : List UInt8) : List UInt8 := pcsTxt ns b ++ chTxt []

theorem chTxt_nil : chTxt [] = [48, 13, 10, 13, 10] := by decide
theorem pcsTxt_skip {n : Int} (r : List Int) (b : List UInt8) (h : n < 1) : pcsTxt (n :: r) b = pcsTxt r b := by
  unfold pcsTxt; rw [pcsC, if_pos (.inl h)]
theorem pcsTxt_step {n : Int} (r : List Int) (b : List UInt8) (h : 1 ≤ n) : pcsTxt (n :: r) b = chTxt0 (b.take n.toNat) ++ pcsTxt r (b.drop n.toNat) := by
  unfold pcsTxt
  by_cases hb : b = []
  · subst hb
    rw [pcsC, if_pos (.inr rfl)]
    simp [chTxt0]
  · rw [pcsC, if_neg (by simp [hb]; omega), List.flatMap_cons]
    congr 1
    have : b.take n.toNat ≠ [] := by
      cases b with
      | nil => exact absurd rfl hb
      | cons c r => intro e; have := congrArg List.length e; simp at this; omega
    rw [chTxt0, if_neg this]
theorem pcsTxt_end (b : List UInt8) : pcsTxt [] b = chTxt0 b := by
  unfold pcsTxt chTxt0
  rw [pcsC]
  by_cases hb : b = []
  · simp [hb]
  · rw [if_neg hb, if_neg hb]; simp

theorem hexDig_le (f m : Nat) : (hexDig f m).length ≤ f := by
  induction f generalizing m with
  | zero => simp [hexDig]
  | succ f ih =>
    rw [hexDig]
    split
    · simp
    · have := ih (m / 16); simp; omega
theorem chTxt_len (m : List UInt8) : (chTxt m).length ≤ m.length + 20 := by
  have := hexDig_le 16 m.length
  unfold chTxt crlf hexDigits
  simp only [List.length_append, List.length_cons, List.length_nil]
  omega
theorem chTxt0_len (m : List UInt8) : (chTxt0 m).length ≤ 21 * m.length := by
  unfold chTxt0
  by_cases h : m = []
  · rw [if_pos h]; simp
  · rw [if_neg h]
    have := chTxt_len m
    have : 0 < m.length := List.length_pos_iff.2 h
    omega
theorem pcsTxt_len (ns : List Int) : ∀ b, (pcsTxt ns b).length ≤ 21 * b.length := by
  induction ns with
  | nil => intro b; rw [pcsTxt_end]; exact chTxt0_len b
  | cons n r ih =>
    intro b
    by_cases h : n < 1
    · rw [pcsTxt_skip r b h]; exact ih b
    · rw [pcsTxt_step r b (by omega), List.length_append]
      have h1 := chTxt0_len (b.take n.toNat)
      have h2 := ih (b.drop n.toNat)
      rw [List.length_take] at h1
      rw [List.length_drop] at h2
      omega
/-- How much the pieces have. -/
theorem pcsC_sum (ns : List Int) : ∀ b, (pcsC ns b).flatten = b := by
  induction ns with
  | nil => intro b; rw [pcsC]; by_cases hb : b = [] <;> simp [hb]
  | cons n r ih =>
    intro b
    rw [pcsC]
    split
    · exact ih b
    · rw [List.flatten_cons, ih, List.take_append_drop]
theorem pcsC_ne (ns : List Int) : ∀ b, ∀ m ∈ pcsC ns b, m ≠ [] := by
  induction ns with
  | nil => intro b m; rw [pcsC]; by_cases hb : b = [] <;> simp [hb]; intro e; rw [e]; exact hb
  | cons n r ih =>
    intro b m
    rw [pcsC]
    split
    · exact ih b m
    · rename_i h
      rw [List.mem_cons]
      rintro (rfl | hm)
      · cases b with
        | nil => exact absurd (.inr rfl) h
        | cons c q => intro e; have := congrArg List.length e; simp at this; omega
      · exact ih _ m hm
end Go.Proofs.YtanebchmeaomgaaGreatDoor.M
