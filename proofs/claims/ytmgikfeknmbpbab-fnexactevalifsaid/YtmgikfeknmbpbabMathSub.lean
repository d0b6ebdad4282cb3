/-
  The Tokens without Not; and whether a list holds.
-/
import Derived.Test.YtmgikfeknmbpbabMathIf
namespace Go.Proofs.Ytmgikfeknmbpbab.M
set_option linter.unusedVariables false

def subB (c : Cn) : Bool := c.tk != 0 && !c.no
def subC (cs : List Cn) : List Int := (cs.filter subB).map (·.tk)
def subI (ls : List (List Cn)) : List Int := subC ls.flatten
theorem subC_app (a b : List Cn) : subC (a ++ b) = subC a ++ subC b := by simp [subC]
theorem subC_snoc (cs : List Cn) (k : Nat) (hk : k < cs.length) : subC (cs.take (k + 1)) = subC (cs.take k) ++ (if subB cs[k] = true then [cs[k].tk] else []) := by
  rw [List.take_succ_eq_append_getElem hk, subC_app]
  congr 1
  simp only [subC, List.filter_cons, List.filter_nil]
  split <;> rfl
theorem subC_len (cs : List Cn) : (subC cs).length ≤ cs.length := by
  unfold subC
  rw [List.length_map]
  exact List.length_filter_le _ _
theorem subI_snoc (ls : List (List Cn)) (k : Nat) (hk : k < ls.length) : subI (ls.take (k + 1)) = subI (ls.take k) ++ subC ls[k] := by
  unfold subI
  rw [List.take_succ_eq_append_getElem hk, List.flatten_append, subC_app]
  simp
theorem subI_le (ls : List (List Cn)) (k : Nat) : (ls.take k).flatten.length ≤ ls.flatten.length := by
  have h : ls.flatten.length = (ls.take k).flatten.length + (ls.drop k).flatten.length := by
    rw [← List.length_append, ← List.flatten_append, List.take_append_drop]
  omega
theorem flat_here (ls : List (List Cn)) (k : Nat) (hk : k < ls.length) : ls[k].length ≤ ls.flatten.length := by
  have h := subI_le ls (k + 1)
  rw [List.take_succ_eq_append_getElem hk, List.flatten_append, List.length_append] at h
  have e : [ls[k]].flatten = ls[k] := by simp
  rw [e] at h
  omega
def condB (toks : List Int) (tag : ByteArray) (c : Cn) : Bool := (if c.tk = 0 then c.tg.toList == tag.toList else toks.any (· == c.tk)) != c.no
def allC (toks : List Int) (tag : ByteArray) (cs : List Cn) : Bool := cs.all (condB toks tag)
def evalI (ls : List (List Cn)) (toks : List Int) (tag : ByteArray) : Bool := ls.any (allC toks tag)
theorem allC_snoc (toks : List Int) (tag : ByteArray) (cs : List Cn) (k : Nat) (hk : k < cs.length) : allC toks tag (cs.take (k + 1)) = (allC toks tag (cs.take k) && condB toks tag cs[k]) := by
  unfold allC
  rw [List.take_succ_eq_append_getElem hk, List.all_append]
  simp
theorem evalI_snoc (ls : List (List Cn)) (toks : List Int) (tag : ByteArray) (k : Nat) (hk : k < ls.length) : evalI (ls.take (k + 1)) toks tag = (evalI (ls.take k) toks tag || allC toks tag ls[k]) := by
  unfold evalI
  rw [List.take_succ_eq_append_getElem hk, List.any_append]
  simp
theorem evalI_here (ls : List (List Cn)) (toks : List Int) (tag : ByteArray) (k : Nat) (hk : k < ls.length) (h : allC toks tag ls[k] = true) : evalI ls toks tag = true :=
  List.any_eq_true.2 ⟨ls[k], List.getElem_mem hk, h⟩
end Go.Proofs.Ytmgikfeknmbpbab.M
