/-
  What impl.nameOfProp does, and what a map by names holds.
-/
import Derived.Test.YtkgdmlfdlkmojaaNeName
import Derived.Test.YtkgdmlfdlkmojaaSpecSm
import Derived.Maps.OwnOps
import Derived.Maps.OwnSet
import Derived.Maps.Views
import Derived.DeepKeys4
namespace Go.Proofs.Ytkgdmlfdlkmojaa
open Go.RowKit Go.Maps M
set_option linter.unusedVariables false

theorem laidOutN : laidOutB Try.prog = true := by kernel_rfl
theorem lawName : Keyed Try.prog 79 := Keyed.of_law (deep_law_laid laidOutN (m := 3) (by omega) (of_decide_eq_true (by kernel_rfl)) (by kernel_rfl) (by kernel_rfl))
/-- What a name is told as. -/
def nkey (x y : ByteArray) : Lit := .string (keyBytes [.string x.data.toList, .string y.data.toList])
theorem key_name (x y : ByteArray) (hx : x.size ≤ maxLen) (hy : y.size ≤ maxLen) : keyOf Try.prog 79 (.agg #[.string x, .string y]) = some (nkey x y) := by
  have hkt : Try.prog.keyType 79 = true := by kernel_rfl
  have hc : Try.prog.cellsOf 79 = 2 := by kernel_rfl
  have hs : Try.prog.cellsOf 9 = 1 := by kernel_rfl
  obtain ⟨m, hm⟩ : ∃ m, Try.prog.types.size = m + 1 := ⟨Try.prog.types.size - 1, (Nat.sub_add_cancel (of_decide_eq_true (by kernel_rfl))).symm⟩
  unfold keyOf
  simp only [Try.underlying79]
  rw [if_pos (by simp [hkt, Value.formed, Try.underlying79, hc]), hm]
  unfold Program.keyLits
  simp only [Try.underlying79, Value.cells]
  rw [if_pos (by simp [hc])]
  simp [hs, Program.keyLits, Try.underlying9, hx, hy, nkey]
theorem nkey_inj {x y x' y' : ByteArray} (hx : x.size ≤ maxLen) (hy : y.size ≤ maxLen) (hx' : x'.size ≤ maxLen) (hy' : y'.size ≤ maxLen) (h : nkey x y = nkey x' y') : x = x' ∧ y = y' := by
  have e := lawName.inj (key_name x y hx hy) (h ▸ key_name x' y' hx' hy')
  simp at e
  exact e

def dS (s : ByteArray) : DataW Unit := .lit (.string s.data.toList)
def dP (p : Pp) : DataW Unit := .agg [dS p.1, dS p.2.1, dS p.2.2]
def pElem : Value → Option (DataW Unit × List MemPlace)
  | .agg cs => match cs.toList with
    | [.string a, .string b, .string c] => some (dP (a, b, c), [])
    | _ => none
  | _ => none
theorem dS_inj {s t : ByteArray} (h : dS s = dS t) : s = t := by
  unfold dS at h
  have : s.data.toList = t.data.toList := by injection h with h; injection h
  exact ByteArray.ext (Array.ext' this)
theorem pElem_mk (a b c : ByteArray) : pElem (.agg #[.string a, .string b, .string c]) = some (dP (a, b, c), []) := rfl
theorem pElem_inv {v : Value} {p : Pp} {l : List MemPlace} (h : pElem v = some (dP p, l)) : v = .agg #[.string p.1, .string p.2.1, .string p.2.2] := by
  unfold pElem at h
  split at h
  · rename_i cs
    split at h
    · rename_i a b c e
      simp only [Option.some.injEq, Prod.mk.injEq, dP, DataW.agg.injEq, List.cons.injEq, and_true] at h
      obtain ⟨⟨h1, h2, h3⟩, _⟩ := h
      obtain ⟨l⟩ := cs
      simp only at e
      rw [e, dS_inj h1, dS_inj h2, dS_inj h3]
    · cases h
  · cases h
def zP : Pp := (ByteArray.empty, ByteArray.empty, ByteArray.empty)
/-- The first of this name, or nothing. -/
def firstP (ps : List Pp) (x y : ByteArray) : Pp := (knowL ps x y).getD zP
theorem first_val (ps : List Pp) (x y : ByteArray) : (firstP ps x y).2.2 = valP (knowL ps x y) := by unfold firstP; cases knowL ps x y <;> rfl
def Knows (D : DataW Unit) (ps : List Pp) : Prop := IsMap D ∧ ∀ x y : ByteArray, x.size ≤ maxLen → y.size ≤ maxLen → has D (nkey x y) = (knowL ps x y).isSome ∧ D.atKey (nkey x y) (dP zP) = dP (firstP ps x y)
theorem Knows.nil : Knows (.map []) [] := ⟨isMap_empty, fun x y _ _ => ⟨rfl, rfl⟩⟩
theorem Knows.old {D : DataW Unit} {ps : List Pp} {k : Nat} (hk : k < ps.length) (h : Knows D (ps.take k)) (e : (knowL (ps.take k) ps[k].1 ps[k].2.1).isSome = true) : Knows D (ps.take (k + 1)) := by
  refine ⟨h.1, fun x y hx hy => ?_⟩
  have e2 : knowL (ps.take (k + 1)) x y = knowL (ps.take k) x y := by
    rw [know_next hk]
    by_cases q : isP x y ps[k] = true
    · obtain ⟨rfl, rfl⟩ := isP_iff.1 q
      obtain ⟨z, hz⟩ := Option.isSome_iff_exists.1 e
      rw [hz]; rfl
    · rw [if_neg q]; simp
  unfold firstP
  rw [e2]
  exact h.2 x y hx hy
theorem Knows.new {D : DataW Unit} {ps : List Pp} {k : Nat} (hk : k < ps.length) (h1 : ps[k].1.size ≤ maxLen) (h2 : ps[k].2.1.size ≤ maxLen) (h : Knows D (ps.take k)) (e : (knowL (ps.take k) ps[k].1 ps[k].2.1).isSome = false) : Knows (D.put (nkey ps[k].1 ps[k].2.1) (dP ps[k])) (ps.take (k + 1)) := by
  refine ⟨h.1.put _ _, fun x y hx hy => ?_⟩
  unfold firstP
  rw [know_next hk]
  by_cases q : isP x y ps[k] = true
  · obtain ⟨rfl, rfl⟩ := isP_iff.1 q
    have e3 : knowL (ps.take k) ps[k].1 ps[k].2.1 = none := by simpa using e
    rw [has_put_same h.1 (by trivial), atKey_put_same h.1 (by trivial), e3, if_pos q]
    exact ⟨rfl, rfl⟩
  · have hne : nkey x y ≠ nkey ps[k].1 ps[k].2.1 := fun e4 => q (by obtain ⟨rfl, rfl⟩ := nkey_inj hx hy h1 h2 e4; exact isP_yes rfl rfl)
    rw [has_put_other hne, atKey_put_other hne, if_neg q]
    simpa [firstP] using h.2 x y hx hy

theorem zeroPropV (w : World) : (zeroValue 36).run Try.prog w = .ok (.agg #[.string ByteArray.empty, .string ByteArray.empty, .string ByteArray.empty]) w := by kernel_rfl
theorem wpList_lookup_prop (w : World) {ops : Array Oper} {rest : List Oper} {o : Oper} {a : Act} {Q : Exit → Act → World → Prop} (hg : o.guard = none) (m i : Operand) (hop : o.op = Op.lookup 76 m i true)
    (b n : Nat) (D : DataW Unit) (ps : List Pp) (hm : a.eval m = .map (some b)) (hown : w.ownsMap Try.prog 79 pElem b n D) (hk : Knows D ps) (x y : ByteArray) (hx : x.size ≤ maxLen) (hy : y.size ≤ maxLen) (hi : a.eval i = .agg #[.string x, .string y])
    (hK : wpList Try.prog ops Q rest (a.put o.dst (.tuple #[.agg #[.string (firstP ps x y).1, .string (firstP ps x y).2.1, .string (firstP ps x y).2.2], .bool (knowL ps x y).isSome])) w) : wpList Try.prog ops Q (o :: rest) a w := by
  refine wpList_lookup_own_ok w hg m i _ hop 79 36 lawName Try.underlying76 pElem (zeroPropV w) (dP zP) [] rfl b n D hm hown _ _ hi (key_name x y hx hy) (fun v l hv => ?_)
  obtain ⟨k1, k2⟩ := hk.2 x y hx hy
  rw [k2] at hv
  rw [pElem_inv hv, k1]
  exact hK
end Go.Proofs.Ytkgdmlfdlkmojaa
