/-
  What the specification keeps while it reads heads, and what code comes of it.
  Slices of numbers: what they hold, and that it stays.
  What the specification's l3First, l3Least do, and what is known of what they write in.
  What the specification keeps, when a code or a head is laid behind.
  What the specification's Lower does.
  Small facts that what is parsed wants.
  What the specification's ParseNum does.
  The heads of lines, each that may be taken: what the specification reads.
-/
import Derived.Test.YtkhnkockdfmkgaaGreatDoorLower
import Derived.Test.YtkhnkockdfmkgaaGreatDoorRows
import Derived.WalkKit
import Derived.Deep.OwnRows
import Derived.Test.YtkhnkockdfmkgaaGreatDoorSpecPl
import Derived.Test.YtkhnkockdfmkgaaGreatDoorAllOf
import Derived.Test.YtkhnkockdfmkgaaGreatDoorReadLines
import Derived.Deep.RegionLaw
import Derived.WalkSpells
import Derived.WalkLawsBesides
import Derived.Lib.ConvBytes
import Derived.Test.YtkhnkockdfmkgaaGreatDoorMathGet
namespace Go.Proofs.YtkhnkockdfmkgaaGreatDoor
open M
set_option linter.unusedVariables false

theorem snocInd {P : List Hd → Prop} (nil : P []) (append_singleton : ∀ l x, P l → P (l ++ [x])) (l : List Hd) : P l := by
  have : ∀ r : List Hd, P r.reverse := by
    intro r
    induction r with
    | nil => exact nil
    | cons x r ih => rw [List.reverse_cons]; exact append_singleton _ _ ih
  have h := this l.reverse
  rwa [List.reverse_reverse] at h
def sizeF (hs : List Hd) : Int := hs.foldl (fun z h => if h.1 = lenName then (parseNum h.2.data.toList 9999999).1 else if h.1 = codName then -1 else z) 0
def toldF (hs : List Hd) : Nat := (lensOf hs).length + (codsOf hs).length
def stepC (st : List Int × Nat) (h : Hd) : List Int × Nat :=
  if h.1 = lenName then st else if h.1 = codName then (if codOk h then st else (st.1 ++ [501], st.2)) else (if 8 < st.2 + 1 then st.1 ++ [431] else st.1, st.2 + 1)
theorem stepC_len {st : List Int × Nat} {h : Hd} (e : h.1 = lenName) : stepC st h = st := if_pos e
theorem stepC_cod {st : List Int × Nat} {h : Hd} (e0 : ¬ h.1 = lenName) (e : h.1 = codName) : stepC st h = (st.1 ++ (if codOk h then [] else [501]), st.2) := by
  unfold stepC; rw [if_neg e0, if_pos e]; split <;> simp
theorem stepC_oth {st : List Int × Nat} {h : Hd} (e0 : ¬ h.1 = lenName) (e : ¬ h.1 = codName) : stepC st h = (st.1 ++ (if 8 < st.2 + 1 then [431] else []), st.2 + 1) := by
  unfold stepC; rw [if_neg e0, if_neg e]; split <;> simp
def codesF (hs : List Hd) : List Int := (hs.foldl stepC ([], 0)).1
theorem lens_snoc (hs : List Hd) (h : Hd) : lensOf (hs ++ [h]) = lensOf hs ++ (if h.1 = lenName then [h] else []) := by
  simp only [lensOf, List.filter_append]
  by_cases e : h.1 = lenName <;> simp [e]
theorem cods_snoc (hs : List Hd) (h : Hd) : codsOf (hs ++ [h]) = codsOf hs ++ (if h.1 = codName then [h] else []) := by
  simp only [codsOf, List.filter_append]
  by_cases e : h.1 = codName <;> simp [e]
theorem oth_snoc (hs : List Hd) (h : Hd) : othOf (hs ++ [h]) = othOf hs ++ (if h.1 = lenName ∨ h.1 = codName then [] else [h]) := by
  simp only [othOf, List.filter_append]
  by_cases e : h.1 = lenName <;> by_cases e2 : h.1 = codName <;> simp [e, e2]
theorem len_cod {h : Hd} (e : h.1 = lenName) : ¬ h.1 = codName := by rw [e]; decide
theorem fold_snd (hs : List Hd) : (hs.foldl stepC ([], 0)).2 = (othOf hs).length := by
  induction hs using snocInd with
  | nil => rfl
  | append_singleton hs h ih =>
    rw [List.foldl_append, List.foldl_cons, List.foldl_nil, oth_snoc]
    by_cases e : h.1 = lenName
    · rw [stepC_len e]; simp [e, ih]
    · by_cases e2 : h.1 = codName
      · rw [stepC_cod e e2]; simp [e2, ih]
      · rw [stepC_oth e e2]; simp [e, e2, ih]
theorem codes_len {hs : List Hd} {h : Hd} (e : h.1 = lenName) : codesF (hs ++ [h]) = codesF hs := by
  unfold codesF; rw [List.foldl_append, List.foldl_cons, List.foldl_nil, stepC_len e]
theorem codes_cod {hs : List Hd} {h : Hd} (e : h.1 = codName) : codesF (hs ++ [h]) = codesF hs ++ (if codOk h then [] else [501]) := by
  unfold codesF; rw [List.foldl_append, List.foldl_cons, List.foldl_nil, stepC_cod (fun e2 => len_cod e2 e) e]
theorem codes_oth {hs : List Hd} {h : Hd} (e : ¬ h.1 = lenName) (e2 : ¬ h.1 = codName) : codesF (hs ++ [h]) = codesF hs ++ (if 8 < (othOf hs).length + 1 then [431] else []) := by
  unfold codesF; rw [List.foldl_append, List.foldl_cons, List.foldl_nil, stepC_oth e e2, fold_snd]
theorem size_len {hs : List Hd} {h : Hd} (e : h.1 = lenName) : sizeF (hs ++ [h]) = (parseNum h.2.data.toList 9999999).1 := by
  unfold sizeF; rw [List.foldl_append, List.foldl_cons, List.foldl_nil, if_pos e]
theorem size_cod {hs : List Hd} {h : Hd} (e : h.1 = codName) : sizeF (hs ++ [h]) = -1 := by
  unfold sizeF; rw [List.foldl_append, List.foldl_cons, List.foldl_nil, if_neg (fun e2 => len_cod e2 e), if_pos e]
theorem size_oth {hs : List Hd} {h : Hd} (e : ¬ h.1 = lenName) (e2 : ¬ h.1 = codName) : sizeF (hs ++ [h]) = sizeF hs := by
  unfold sizeF; rw [List.foldl_append, List.foldl_cons, List.foldl_nil, if_neg e, if_neg e2]
theorem told_len {hs : List Hd} {h : Hd} (e : h.1 = lenName) : toldF (hs ++ [h]) = toldF hs + 1 := by
  unfold toldF; rw [lens_snoc, cods_snoc, if_pos e, if_neg (len_cod e)]; simp; omega
theorem told_cod {hs : List Hd} {h : Hd} (e : h.1 = codName) : toldF (hs ++ [h]) = toldF hs + 1 := by
  unfold toldF; rw [lens_snoc, cods_snoc, if_pos e, if_neg (fun e2 => len_cod e2 e)]; simp; omega
theorem told_oth {hs : List Hd} {h : Hd} (e : ¬ h.1 = lenName) (e2 : ¬ h.1 = codName) : toldF (hs ++ [h]) = toldF hs := by
  unfold toldF; rw [lens_snoc, cods_snoc, if_neg e, if_neg e2]; simp
theorem codes_is (hs : List Hd) : ((431 : Int) ∈ codesF hs ↔ 8 < (othOf hs).length) ∧ ((501 : Int) ∈ codesF hs ↔ (codsOf hs).all codOk = false) ∧ (∀ c ∈ codesF hs, c = 431 ∨ c = 501) := by
  induction hs using snocInd with
  | nil => simp [codesF, othOf, codsOf]
  | append_singleton hs h ih =>
    obtain ⟨i1, i2, i3⟩ := ih
    by_cases e : h.1 = lenName
    · have eo : othOf (hs ++ [h]) = othOf hs := by rw [oth_snoc]; simp [e]
      have ec : codsOf (hs ++ [h]) = codsOf hs := by rw [cods_snoc]; simp [len_cod e]
      rw [codes_len e, eo, ec]
      exact ⟨i1, i2, i3⟩
    · by_cases e2 : h.1 = codName
      · have eo : othOf (hs ++ [h]) = othOf hs := by rw [oth_snoc]; simp [e2]
        have ec : codsOf (hs ++ [h]) = codsOf hs ++ [h] := by rw [cods_snoc]; simp [e2]
        rw [codes_cod e2, eo, ec]
        cases hc : codOk h
        · simp [hc, i1]
          intro c hc
          rcases hc with hc | hc
          · exact i3 c hc
          · exact .inr hc
        · simp [hc, i1]
          refine ⟨by simpa using i2, i3⟩
      · have eo : othOf (hs ++ [h]) = othOf hs ++ [h] := by rw [oth_snoc]; simp [e, e2]
        have ec : codsOf (hs ++ [h]) = codsOf hs := by rw [cods_snoc]; simp [e2]
        rw [codes_oth e e2, eo, ec]
        by_cases h8 : 8 < (othOf hs).length + 1
        · rw [if_pos h8]
          refine ⟨by simp; omega, by simpa using i2, fun c hc => ?_⟩
          rcases List.mem_append.1 hc with hc | hc
          · exact i3 c hc
          · exact .inl (by simpa using hc)
        · rw [if_neg h8]
          refine ⟨by simp [i1]; omega, by simpa using i2, fun c hc => i3 c (by simpa using hc)⟩
theorem size_is (hs : List Hd) (h : toldF hs ≤ 1) : sizeF hs = if chkF hs then -1 else (lenF hs : Int) := by
  induction hs using snocInd with
  | nil => rfl
  | append_singleton hs x ih =>
    by_cases e : x.1 = lenName
    · rw [told_len e] at h
      have h0 : toldF hs = 0 := by omega
      have hl : lensOf hs = [] := List.length_eq_zero_iff.1 (by unfold toldF at h0; omega)
      have hc : codsOf hs = [] := List.length_eq_zero_iff.1 (by unfold toldF at h0; omega)
      rw [size_len e]
      unfold chkF lenF
      rw [lens_snoc, cods_snoc, if_pos e, if_neg (len_cod e), hl, hc]
      have : 0 ≤ (parseNum x.2.data.toList 9999999).1 := by unfold parseNum; split <;> simp
      show _ = ((numOf x : Nat) : Int)
      unfold numOf
      omega
    · by_cases e2 : x.1 = codName
      · rw [size_cod e2]
        unfold chkF
        rw [cods_snoc, if_pos e2]
        simp
      · rw [told_oth e e2] at h
        rw [size_oth e e2, ih h]
        unfold chkF lenF
        rw [lens_snoc, cods_snoc, if_neg e, if_neg e2, List.append_nil, List.append_nil]
def leastF (l cs : List Int) : Int := (cs.find? fun c => decide (c ∈ l)).getD 0
def codesG (hs : List Hd) : List Int := codesF hs ++ if 200 < sizeF hs then [413] else []
/-- The code that comes of it is the code of the document's order. -/
theorem least_is (hs : List Hd) (h : toldF hs ≤ 1) (hn : (lensOf hs).all numOk = true) : leastF (codesG hs) [431, 501, 413] = frameC hs := by
  obtain ⟨i1, i2, i3⟩ := codes_is hs
  have h1 : (431 : Int) ∈ codesG hs ↔ 8 < (othOf hs).length := by
    unfold codesG; rw [List.mem_append, i1]
    constructor
    · rintro (h | h)
      · exact h
      · split at h <;> simp at h
    · exact .inl
  have h2 : (501 : Int) ∈ codesG hs ↔ (codsOf hs).all codOk = false := by
    unfold codesG; rw [List.mem_append, i2]
    constructor
    · rintro (h | h)
      · exact h
      · split at h <;> simp at h
    · exact .inl
  have h3 : (413 : Int) ∈ codesG hs ↔ (lensOf hs).any (fun h => decide (200 < numOf h)) = true := by
    have hno : ¬ (413 : Int) ∈ codesF hs := fun hm => by rcases i3 _ hm with h | h <;> simp at h
    have : (413 : Int) ∈ codesG hs ↔ 200 < sizeF hs := by
      unfold codesG; rw [List.mem_append]
      constructor
      · rintro (h | h)
        · exact absurd h hno
        · split at h
          · assumption
          · simp at h
      · intro h; right; rw [if_pos h]; simp
    rw [this, size_is hs h]
    unfold chkF lenF
    unfold toldF at h
    cases hc : codsOf hs with
    | cons y ys =>
      have : lensOf hs = [] := List.length_eq_zero_iff.1 (by rw [hc] at h; simp at h; omega)
      simp [this]
    | nil =>
      cases hl : lensOf hs with
      | nil => simp
      | cons y ys =>
        have : ys = [] := List.length_eq_zero_iff.1 (by rw [hl] at h; simp at h; omega)
        subst this
        simp
        omega
  unfold frameC leastF
  rw [if_neg (by unfold toldF at h; omega), if_neg (by rw [hn]; simp)]
  simp only [List.find?_cons, List.find?_nil, h1, h2, h3]
  by_cases c1 : 8 < (othOf hs).length
  · simp [c1]
  · cases c2 : (codsOf hs).all codOk
    · simp [c1]
    · cases c3 : (lensOf hs).any (fun h => decide (200 < numOf h))
      · simp [c1]
      · simp [c1]
end Go.Proofs.YtkhnkockdfmkgaaGreatDoor
namespace Go.Proofs.YtkhnkockdfmkgaaGreatDoor
open Go.RowKit

/-- The numbers that a slice holds, in a block below B. -/
def Ints (w : World) (B : Nat) (a : Option Addr) (l : List Int) : Prop :=
  0 < l.length → ∃ b o, a = some ⟨b, o, none⟩ ∧ b < B ∧ ∀ j (hj : j < l.length), w.cell? ⟨b, o + j, none⟩ = some (.int .i64 l[j])

theorem Ints.below {w w' : World} {B C : Nat} {a : Option Addr} {l : List Int} (h : Ints w B a l) (hb : Below C w w') (hB : B ≤ C) : Ints w' B a l := fun h0 => by
  obtain ⟨b, o, e, hbB, hc⟩ := h h0
  exact ⟨b, o, e, hbB, fun j hj => (hb.cell (p := ⟨b, o + j, none⟩) (Nat.lt_of_lt_of_le hbB hB)).trans (hc j hj)⟩
theorem Ints.mono {w : World} {B C : Nat} {a : Option Addr} {l : List Int} (h : Ints w B a l) (hB : B ≤ C) : Ints w C a l := fun h0 => by
  obtain ⟨b, o, e, hbB, hc⟩ := h h0
  exact ⟨b, o, e, Nat.lt_of_lt_of_le hbB hB, hc⟩
end Go.Proofs.YtkhnkockdfmkgaaGreatDoor
namespace Go.Proofs.YtkhnkockdfmkgaaGreatDoor
open Go.RowKit M
set_option linter.unusedVariables false

def intCells (l : List Int) : List Value := l.map (Value.int .i64)
theorem intCells_append (l k : List Int) : intCells (l ++ k) = intCells l ++ intCells k := by simp [intCells]
theorem infoInt : (Tryz.prog.info? 3).map (fun i => (i.zero, i.size, i.bytes)) = some (some (.int .i64 0), 1, 8) := by kernel_rfl
def RowsI (w : World) (B : Nat) (v : Value) (l : List Int) : Prop := w.ownsRow B 3 1 v l.length (intCells l)
/-- 'l = append(l, n)', and where the row lies then. -/
theorem wp_append_int2 {w : World} {ops : Array Oper} {rest : List Oper} {o : Oper} {a : Act} {Q : Exit → Act → World → Prop} (hgd : o.guard = none) (s x : Operand)
    (ho : o.op = .call { callee := .builtin .append, args := #[s, x], argTypes := #[36, 36] })
    (B : Nat) (v : Value) (n : Nat) (l : List Int) (hs : a.eval s = v) (hown : w.ownsRow B 3 1 v n (intCells l))
    (N : Nat) (c : Int) (hx : a.eval x = .slice (some ⟨N, 0, none⟩) 1 1) (hc0 : w.cell? ⟨N, 0, none⟩ = some (.int .i64 c)) (hlen : n + 1 ≤ 1099511627776) (hB : B ≤ w.heap.size)
    (h : ∀ g cap w', w'.ownsRow B 3 1 (.slice (some ⟨g, 0, none⟩) (n + 1) cap) (n + 1) (intCells (l ++ [c])) → w.grownBy w' v.ownBlock → (v.ownBlock = some g ∨ g = w.heap.size) → wpList Tryz.prog ops Q rest (a.put o.dst (.slice (some ⟨g, 0, none⟩) (n + 1) cap)) w') : wpList Tryz.prog ops Q (o :: rest) a w := by
  obtain ⟨i0, hi, hz0, hz1, hz2⟩ := info_parts infoInt
  have hnews : ∀ j u, [Value.int .i64 c][j]? = some u → w.cell? ((⟨N, 0, none⟩ : Addr).add j) = some u := by
    intro j u hj
    have e : ∀ k, (⟨N, 0, none⟩ : Addr).add k = ⟨N, k, none⟩ := fun k => by unfold Addr.add; split <;> simp_all
    rw [e]
    match j, hj with
    | 0, hj => simp at hj; subst hj; exact hc0
  have hone : ∀ u ∈ [Value.int .i64 c], u.oneCell' = true := by
    intro u hu; simp at hu; subst hu; rfl
  have hex := run_append_own (P := Tryz.prog) w B 36 o.type 3 i0 _ 1 8 Tryz.underlying36 hi hz0 hz1 hz2 rfl (by decide) v n _ hown ⟨N, 0, none⟩ 1 1 [.int .i64 c] rfl hnews hone (by unfold maxLen; omega) (by omega) hB
  obtain ⟨v', w', hrun, ho', hg, _⟩ := hex
  obtain ⟨g, cap, rfl⟩ : ∃ g cap, v' = .slice (some ⟨g, 0, none⟩) (n + 1) cap := by
    rcases ho'.2 with ⟨_, h0⟩ | ⟨g, cap, cur, hv, _⟩
    · omega
    · exact ⟨g, cap, hv⟩
  have hwhere : v.ownBlock = some g ∨ g = w.heap.size := by
    rcases hown.2 with ⟨rfl, h0⟩ | ⟨g1, cap1, cur1, rfl, hg1, hh1, hn1, hm1, hs1, ht1⟩
    · right
      have hr := run_append_nil (P := Tryz.prog) w 36 o.type 3 i0 _ Tryz.underlying36 hi hz0 ⟨N, 0, none⟩ 1 1 [.int .i64 c] (by rw [hz1]; rfl) hnews (by decide) (by decide) (by rw [hz2]; decide)
      rw [hr] at hrun
      have := congrArg (fun r => match r with | Result.ok (Value.slice (some a) _ _) _ => a.block | _ => 0) hrun
      exact this.symm
    · by_cases hroom : n + 1 ≤ cap1
      · left
        have hr := run_append_room (P := Tryz.prog) w 36 o.type 3 i0 Tryz.underlying36 hi g1 n cap1 cur1 hh1 ⟨N, 0, none⟩ 1 1 [.int .i64 c] (by rw [hz1]; rfl) hnews hone hroom (by rw [hz1, hs1]; simp only [List.length_cons, List.length_nil]; omega)
        rw [hr] at hrun
        have := congrArg (fun r => match r with | Result.ok (Value.slice (some a) _ _) _ => a.block | _ => 0) hrun
        have : g1 = g := this
        rw [← this]; rfl
      · right
        have hr := run_append_grow (P := Tryz.prog) w 36 o.type 3 i0 _ Tryz.underlying36 hi hz0 ⟨g1, 0, none⟩ n cap1 (intCells l) (by rw [hz1]; exact hown.1) (fun j u hu => hown.cells (g := g1) rfl j u hu) ⟨N, 0, none⟩ 1 1 [.int .i64 c] (by rw [hz1]; rfl) hnews (by omega) (by omega) (by rw [hz2]; exact growslice_fits (by omega) (by omega))
        rw [hr] at hrun
        have := congrArg (fun r => match r with | Result.ok (Value.slice (some a) _ _) _ => a.block | _ => 0) hrun
        exact this.symm
  refine wpList_plain hgd fun K hK => ?_
  unfold Oper.wp execOp
  simp only [ho, resolve, invoke, builtin, Sem.run_bind, Sem.run_pure, Result.andThen_ok, List.map_toArray, List.map_cons, List.map_nil, hs, hx, hrun]
  exact hK _ _ (h g cap w' (by rw [intCells_append]; exact ho') hg hwhere)

/-- What the specification keeps, in a block of its own, and the lines that it reads. -/
def FrR (C N : Nat) (w0 : World) (m p : ByteArray) (os : List Hd) (z t : Int) (cs : List Int) (lv : Value) (ls : List ByteArray) (W : World) : Prop :=
  ∃ hv cv, W.heap[N]? = some (Obj.cells #[.string m, .string p, hv, .string ⟨#[]⟩, .int .i64 z, .int .i64 t, cv] 81) ∧ RowsH W (N + 1) hv os ∧ RowsI W (N + 1) cv cs ∧ W.ownsRow (N + 1) 9 1 lv ls.length (strCells ls) ∧ ApartV hv cv ∧ ApartV hv lv ∧ ApartV cv lv ∧ Below C w0 W ∧ C ≤ N
/-- The same when it has read these heads. -/
def FrS (C N : Nat) (w0 : World) (m p : ByteArray) (hs : List Hd) (lv : Value) (ls : List ByteArray) (W : World) : Prop :=
  FrR C N w0 m p (othOf hs) (sizeF hs) (toldF hs) (codesF hs) lv ls W
theorem FrR.set_size {C N : Nat} {w0 W : World} {m p : ByteArray} {os : List Hd} {z t : Int} {cs : List Int} {lv : Value} {ls : List ByteArray} (h : FrR C N w0 m p os z t cs lv ls W) (z' : Int) : FrR C N w0 m p os z' t cs lv ls (W.setCell ⟨N, 4, none⟩ (.int .i64 z')) := by
  obtain ⟨hv, cv, h1, h2, h3, h4, h5, h6, h7, h8, h9⟩ := h
  have hN : N < N + 1 := Nat.lt_succ_self _
  refine ⟨hv, cv, ?_, ownsRow_setCell_below (a := ⟨N, 4, none⟩) h2 hN _, ownsRow_setCell_below (a := ⟨N, 4, none⟩) h3 hN _, ownsRow_setCell_below (a := ⟨N, 4, none⟩) h4 hN _, h5, h6, h7, h8.setCell (p := ⟨N, 4, none⟩) h9 _, h9⟩
  have := set_heap h1 4 (.int .i64 z')
  simpa using this
theorem FrR.set_told {C N : Nat} {w0 W : World} {m p : ByteArray} {os : List Hd} {z t : Int} {cs : List Int} {lv : Value} {ls : List ByteArray} (h : FrR C N w0 m p os z t cs lv ls W) (t' : Int) : FrR C N w0 m p os z t' cs lv ls (W.setCell ⟨N, 5, none⟩ (.int .i64 t')) := by
  obtain ⟨hv, cv, h1, h2, h3, h4, h5, h6, h7, h8, h9⟩ := h
  have hN : N < N + 1 := Nat.lt_succ_self _
  refine ⟨hv, cv, ?_, ownsRow_setCell_below (a := ⟨N, 5, none⟩) h2 hN _, ownsRow_setCell_below (a := ⟨N, 5, none⟩) h3 hN _, ownsRow_setCell_below (a := ⟨N, 5, none⟩) h4 hN _, h5, h6, h7, h8.setCell (p := ⟨N, 5, none⟩) h9 _, h9⟩
  have := set_heap h1 5 (.int .i64 t')
  simpa using this
theorem FrR.cells {C N : Nat} {w0 W : World} {m p : ByteArray} {os : List Hd} {z t : Int} {cs : List Int} {lv : Value} {ls : List ByteArray} (h : FrR C N w0 m p os z t cs lv ls W) :
    W.cell? ⟨N, 4, none⟩ = some (.int .i64 z) ∧ W.cell? ⟨N, 5, none⟩ = some (.int .i64 t) ∧ W.frozen? ⟨N, 4, none⟩ = false ∧ W.frozen? ⟨N, 5, none⟩ = false := by
  obtain ⟨hv, cv, h1, _⟩ := h
  refine ⟨?_, ?_, ?_, ?_⟩
  · unfold World.cell?; rw [h1]; rfl
  · unfold World.cell?; rw [h1]; rfl
  · unfold World.frozen?; rw [h1]; rfl
  · unfold World.frozen?; rw [h1]; rfl
theorem FrR.bel {C N : Nat} {w0 W : World} {m p : ByteArray} {os : List Hd} {z t : Int} {cs : List Int} {lv : Value} {ls : List ByteArray} (h : FrR C N w0 m p os z t cs lv ls W) : Below C w0 W ∧ N < W.heap.size := by
  obtain ⟨_, _, h1, _, _, _, _, _, _, h8, _⟩ := h
  exact ⟨h8, (Array.getElem?_eq_some_iff.1 h1).1⟩
theorem FrS.next {C N : Nat} {w0 W W' : World} {m p : ByteArray} {hs : List Hd} {lv : Value} {ls : List ByteArray} (h : FrS C N w0 m p hs lv ls W) (hb : Below W.heap.size W W') : FrS C N w0 m p hs lv ls W' := by
  obtain ⟨hv, cv, h1, h2, h3, h4, h5, h6, h7, h8, h9⟩ := h
  have hlt := (Array.getElem?_eq_some_iff.1 h1).1
  exact ⟨hv, cv, (hb.block _ hlt).trans h1, ownsH_below h2 hb, owns_below h3 hb, owns_below h4 hb, h5, h6, h7, h8.trans (hb.mono (Nat.le_of_lt (Nat.lt_of_le_of_lt h9 hlt))), h9⟩
theorem FrS.first {C N : Nat} {w0 W : World} {m p : ByteArray} {hs : List Hd} {lv : Value} {ls : List ByteArray} (h : FrS C N w0 m p hs lv ls W) (m' p' : ByteArray) : FrS C N w0 m' p' hs lv ls ((W.setCell ⟨N, 0, none⟩ (.string m')).setCell ⟨N, 1, none⟩ (.string p')) := by
  obtain ⟨hv, cv, h1, h2, h3, h4, h5, h6, h7, h8, h9⟩ := h
  have hN : N < N + 1 := Nat.lt_succ_self _
  refine ⟨hv, cv, ?_, ?_, ?_, ?_, h5, h6, h7, ?_, h9⟩
  · have := set_heap (set_heap h1 0 (.string m')) 1 (.string p')
    simpa using this
  · exact ownsRow_setCell_below (a := ⟨N, 1, none⟩) (ownsRow_setCell_below (a := ⟨N, 0, none⟩) h2 hN _) hN _
  · exact ownsRow_setCell_below (a := ⟨N, 1, none⟩) (ownsRow_setCell_below (a := ⟨N, 0, none⟩) h3 hN _) hN _
  · exact ownsRow_setCell_below (a := ⟨N, 1, none⟩) (ownsRow_setCell_below (a := ⟨N, 0, none⟩) h4 hN _) hN _
  · exact (h8.setCell (p := ⟨N, 0, none⟩) h9 _).setCell (p := ⟨N, 1, none⟩) h9 _
theorem FrS.cell {C N : Nat} {w0 W : World} {m p : ByteArray} {hs : List Hd} {lv : Value} {ls : List ByteArray} (h : FrS C N w0 m p hs lv ls W) :
    W.cell? ⟨N, 0, none⟩ = some (.string m) ∧ W.cell? ⟨N, 1, none⟩ = some (.string p) ∧ W.cell? ⟨N, 4, none⟩ = some (.int .i64 (sizeF hs)) ∧ W.cell? ⟨N, 5, none⟩ = some (.int .i64 (toldF hs)) ∧ (∀ k, k < 7 → W.frozen? ⟨N, k, none⟩ = false) := by
  obtain ⟨hv, cv, h1, _⟩ := h
  refine ⟨?_, ?_, ?_, ?_, fun k hk => ?_⟩
  · unfold World.cell?; rw [h1]; rfl
  · unfold World.cell?; rw [h1]; rfl
  · unfold World.cell?; rw [h1]; rfl
  · unfold World.cell?; rw [h1]; rfl
  · unfold World.frozen?; rw [h1]; rfl
/-- A row of texts, as it is read. -/
theorem rowS_cell {w : World} {B g n cap : Nat} {ls : List ByteArray} (h : w.ownsRow B 9 1 (.slice (some ⟨g, 0, none⟩) n cap) n (strCells ls)) (j : Nat) (hj : j < ls.length) : w.cell? ⟨g, j, none⟩ = some (.string ls[j]) := by
  have := h.cells (g := g) rfl j (.string ls[j]) (by simp [strCells, List.getElem?_eq_getElem hj])
  have e : (⟨g, 0, none⟩ : Addr).add j = ⟨g, j, none⟩ := by unfold Addr.add; split <;> simp_all
  first | exact this | (rw [e] at this; exact this)

theorem cutsB_le (c : UInt8) : ∀ (l : List UInt8), ∀ x ∈ cutsB c l, x.length ≤ l.length := by
  intro l
  induction l with
  | nil => intro x hx; simp [cutsB] at hx; subst hx; simp
  | cons y r ih =>
    intro x hx
    rw [cutsB] at hx
    split at hx
    · rcases List.mem_cons.1 hx with rfl | hx
      · simp
      · have := ih x hx; simp; omega
    · split at hx
      · simp at hx; subst hx; simp
      · rename_i l q e
        rcases List.mem_cons.1 hx with rfl | hx
        · have := ih l (by rw [e]; simp); simp; omega
        · have := ih x (by rw [e]; simp [hx]); simp; omega
theorem cell_far {w : World} {g N i j : Nat} {v u : Value} (h : w.cell? ⟨g, i, none⟩ = some v) (hne : g ≠ N) : (w.setCell ⟨N, j, none⟩ u).cell? ⟨g, i, none⟩ = some v :=
  (World.cell?_setCell_other _ _ _ _ (fun e => by have := congrArg Addr.block e; simp only at this; omega)).trans h
/-- What l3First hands back. -/
def FirstIs (C N : Nat) (w0 : World) (hs : List Hd) (lv : Value) (ls : List ByteArray) (r : Option (ByteArray × ByteArray)) (e : Ending) (W : World) : Prop :=
  match r with
  | none => e = .returned (.bool false) ∧ Below C w0 W
  | some (m, p) => e = .returned (.bool true) ∧ FrS C N w0 m p hs lv ls W
theorem proto_bneF (c : List UInt8) : (((bytesOf c).toList) != [72, 84, 84, 80, 47, 49, 46, 49]) = !decide (c = proto) := by
  rw [ByteArray.toList_eq]
  show (c != proto) = _
  by_cases h : c = proto <;> simp [h]
theorem proto_beqF (c : List UInt8) : (((bytesOf c).toList) == [72, 84, 84, 80, 47, 49, 46, 49]) = decide (c = proto) := by
  rw [ByteArray.toList_eq]
  show (c == proto) = _
  by_cases h : c = proto <;> simp [h]
set_option maxHeartbeats 4000000 in
theorem l3First_any (C N : Nat) (w0 : World) (m p : ByteArray) (hs : List Hd) (lv : Value) (ls : List ByteArray) (line : ByteArray) (w : World) (h : FrS C N w0 m p hs lv ls w) (hl : line.size ≤ 1048576) :
    Calls Tryz.prog 86 #[.pointer (some ⟨N, 0, none⟩), .string line] w fun e w' => FirstIs C N w0 hs lv ls (firstS line.data.toList) e w' := by
  have HF := hide h
  have HSp := hide (l2SplitB_any line w hl)
  clear h
  go_enter Tryz.func86, Tryz.ntmps86
  go_wp2_with fail
  refine HSp.out.mono ?_
  rintro e w1 ⟨⟨g, cap, rfl, hown⟩, b1⟩
  have hF1 := HF.out.next b1
  have hB1 : Below C w0 w1 := by obtain ⟨_, _, _, _, _, _, _, _, _, h8, _⟩ := hF1; exact h8
  have HF1 := hide hF1
  have HB1 := hide hB1
  obtain ⟨hNlt, hgN⟩ : N < w.heap.size ∧ w.heap.size ≤ g := by
    refine ⟨?_, (hown.lt g rfl).1⟩
    obtain ⟨_, _, h1, _⟩ := HF.out
    exact (Array.getElem?_eq_some_iff.1 h1).1
  obtain ⟨c0, c1, _, _, fr⟩ := hF1.cell
  have f0 := fr 0 (by decide)
  have f1 := fr 1 (by decide)
  unfold piecesB at hown ⊢
  obtain ⟨L, hL⟩ : ∃ L, cutsB 32 line.data.toList = L := ⟨_, rfl⟩
  have HL := hide hL
  rw [hL] at hown ⊢
  clear hL fr hF1 hB1 HSp b1
  by_cases h3 : L.length = 3
  · obtain ⟨a, b, c, rfl⟩ : ∃ a b c, L = [a, b, c] := by
      match L, h3 with
      | [a, b, c], _ => exact ⟨a, b, c, rfl⟩
    have r0 := rowS_cell hown 0 (by simp)
    have r1 := rowS_cell hown 1 (by simp)
    have r2 := rowS_cell hown 2 (by simp)
    simp only [List.map_cons, List.map_nil, List.getElem_cons_zero, List.getElem_cons_succ] at r0 r1 r2
    have hln : ([bytesOf a, bytesOf b, bytesOf c] : List ByteArray).length = 3 := rfl
    simp only [List.map_cons, List.map_nil]
    rw [hln]
    have hgd : w1.heap.size ≥ 0 := Nat.zero_le _
    have pb := proto_bneF c
    have pe := proto_beqF c
    have za : (bytesOf a).size ≤ maxLen ∧ (bytesOf b).size ≤ maxLen := by
      have ha := cutsB_le 32 line.data.toList a (by rw [HL.out]; simp)
      have hb := cutsB_le 32 line.data.toList b (by rw [HL.out]; simp)
      have el : line.data.toList.length = line.size := Array.length_toList
      have e1 : (bytesOf a).size = a.length := by simp [bytesOf, ByteArray.size]
      have e2 : (bytesOf b).size = b.length := by simp [bytesOf, ByteArray.size]
      rw [e1, e2]
      unfold maxLen
      omega
    have HM := hide (fun (W : World) => l3Method_any (bytesOf a) W za.1)
    have HT := hide (fun (W : World) => l3Target_any (bytesOf b) W za.2)
    clear za hgd
    by_cases hc : c = proto
    · rw [decide_eq_true hc] at pb pe
      have hfs : firstS line.data.toList = if methB (bytesOf a) = true ∧ targB (bytesOf b) = true then some (bytesOf a, bytesOf b) else none := by
        unfold firstS; rw [HL.out]; simp [hc]
      have HFs := hide hfs
      clear hfs h3 hc
      obtain ⟨w2, hw2⟩ : ∃ w2, w1.setCell ⟨N, 0, none⟩ (.string (bytesOf a)) = w2 := ⟨_, rfl⟩
      obtain ⟨w3, hw3⟩ : ∃ w3, w2.setCell ⟨N, 1, none⟩ (.string (bytesOf b)) = w3 := ⟨_, rfl⟩
      have hF3 := HF1.out.first (bytesOf a) (bytesOf b)
      rw [hw2, hw3] at hF3
      have hB3 : Below C w0 w3 := by obtain ⟨_, _, _, _, _, _, _, _, _, h8, _⟩ := hF3; exact h8
      have HF3 := hide hF3
      have HB3 := hide hB3
      have hne : g ≠ N := by omega
      have t0 : w2.cell? ⟨g, 0, none⟩ = some (.string (bytesOf a)) := by rw [← hw2]; exact cell_far r0 hne
      have t1 : w2.cell? ⟨g, 1, none⟩ = some (.string (bytesOf b)) := by rw [← hw2]; exact cell_far r1 hne
      have u0 : w3.cell? ⟨g, 0, none⟩ = some (.string (bytesOf a)) := by rw [← hw3]; exact cell_far t0 hne
      have u1 : w3.cell? ⟨g, 1, none⟩ = some (.string (bytesOf b)) := by rw [← hw3]; exact cell_far t1 hne
      have v1 : w2.cell? ⟨N, 1, none⟩ = some (.string p) := by rw [← hw2]; exact (World.cell?_setCell_other _ _ _ _ (by simp)).trans c1
      have v2 : w2.frozen? ⟨N, 1, none⟩ = false := by
        rw [← hw2]
        obtain ⟨_, _, h1, _⟩ := HF1.out
        have := set_heap h1 0 (.string (bytesOf a))
        unfold World.frozen?; rw [this]; rfl
      clear hF3 hB3 hown
      cases hm : methB (bytesOf a)
      · have HE : Hid (firstS line.data.toList = none) := hide (by rw [HFs.out, hm]; simp)
        clear HFs
        go_wp2_with (first | (go_at_call 119; refine (HM.out _).mono ?_; rintro e w' ⟨rfl, rfl⟩; rw [hm]) | (go_at_call 120; refine (HT.out _).mono ?_; rintro e w' ⟨rfl, rfl⟩))
        go_ret
        rw [HE.out]
        exact ⟨rfl, HB3.out⟩
      · cases ht : targB (bytesOf b)
        · have HE : Hid (firstS line.data.toList = none) := hide (by rw [HFs.out, ht]; simp)
          clear HFs
          go_wp2_with (first | (go_at_call 119; refine (HM.out _).mono ?_; rintro e w' ⟨rfl, rfl⟩; rw [hm]) | (go_at_call 120; refine (HT.out _).mono ?_; rintro e w' ⟨rfl, rfl⟩; rw [ht]))
          go_ret
          rw [HE.out]
          exact ⟨rfl, HB3.out⟩
        · have HE : Hid (firstS line.data.toList = some (bytesOf a, bytesOf b)) := hide (by rw [HFs.out, hm, ht]; simp)
          clear HFs
          go_wp2_with (first | (go_at_call 119; refine (HM.out _).mono ?_; rintro e w' ⟨rfl, rfl⟩; rw [hm]) | (go_at_call 120; refine (HT.out _).mono ?_; rintro e w' ⟨rfl, rfl⟩; rw [ht]))
          go_ret
          rw [HE.out]
          exact ⟨rfl, HF3.out⟩
    · rw [decide_eq_false hc] at pb pe
      have HE : Hid (firstS line.data.toList = none) := hide (by unfold firstS; rw [HL.out]; simp [hc])
      clear h3 hc hown
      go_wp2
      go_ret
      rw [HE.out]
      exact ⟨rfl, HB1.out⟩
  · have HE : Hid (firstS line.data.toList = none) := hide (by
      unfold firstS; rw [HL.out]
      split
      · exact absurd rfl h3
      · rfl)
    have e : (L.map bytesOf).length = L.length := List.length_map _
    rw [e]
    obtain ⟨n, hn⟩ : ∃ n, L.length = n := ⟨_, rfl⟩
    rw [hn] at h3 ⊢
    have hn1 : ((n : Int) == 3) = false := by apply beq_eq_false_iff_ne.2; omega
    have hn2 : ((n : Int) != 3) = true := by simp only [bne, hn1]; rfl
    clear h3 e hn hown
    go_wp2
    go_ret
    rw [HE.out]
    exact ⟨rfl, HB1.out⟩
end Go.Proofs.YtkhnkockdfmkgaaGreatDoor
namespace Go.Proofs.YtkhnkockdfmkgaaGreatDoor
open Go.RowKit M
set_option linter.unusedVariables false

theorem apart_grown {w : World} {B g n cap s m : Nat} {e : TypeId} {v v2 : Value} {xs : List Value} (h : ApartV v v2) (h2 : w.ownsRow B e s v2 m xs) (hw : v.ownBlock = some g ∨ g = w.heap.size) : ApartV (.slice (some ⟨g, 0, none⟩) n cap) v2 := by
  right
  intro he
  have e' : v2.ownBlock = some g := he.symm
  rcases hw with hw | hw
  · rcases h with h | h
    · rw [hw] at h; cases h
    · exact h (by rw [hw, e'])
  · have := (World.ownsRow.lt h2 g e').2
    omega
theorem row_kept {w w' : World} {B s m : Nat} {e : TypeId} {v v2 : Value} {xs : List Value} (h : w.ownsRow B e s v2 m xs) (ha : ApartV v v2) (hg : w.grownBy w' v.ownBlock) : w'.ownsRow B e s v2 m xs :=
  World.ownsRow.kept h hg (by
    rcases ha.symm with h | h
    · exact .inl h
    · exact .inr h)
theorem row_alloc {w : World} {B s m : Nat} {e : TypeId} {v : Value} {xs : List Value} (h : w.ownsRow B e s v m xs) (o : Obj) : (w.alloc o).ownsRow B e s v m xs := h.alloc o
theorem row_grown {w w' : World} {B n s : Nat} {e : TypeId} {v : Value} {xs : List Value} (h : w.ownsRow B e s v n xs) (hB : B ≤ w.heap.size) (hg : w.grownBy w' v.ownBlock) : Below B w w' :=
  ⟨hg.os, hg.tape, hg.output, hg.size, fun k hk => hg.block k (Nat.lt_of_lt_of_le hk hB) (fun e => by have := h.lt k e.symm; omega)⟩

/-- A code is laid behind. -/
theorem fr_codes {C N : Nat} {w0 W Wa W' : World} {m p : ByteArray} {os : List Hd} {z t : Int} {cs : List Int} {hv cv lv : Value} {ls : List ByteArray} {g cap : Nat} {c : Int}
    (h1 : W.heap[N]? = some (Obj.cells #[.string m, .string p, hv, .string ⟨#[]⟩, .int .i64 z, .int .i64 t, cv] 81)) (h2 : RowsH W (N + 1) hv os) (h3 : RowsI W (N + 1) cv cs) (h4 : W.ownsRow (N + 1) 9 1 lv ls.length (strCells ls)) (h5 : ApartV hv cv) (h6 : ApartV hv lv) (h7 : ApartV cv lv) (h8 : Below C w0 W) (h9 : C ≤ N)
    (ha : Below W.heap.size W Wa) (hg : Wa.grownBy W' cv.ownBlock) (hown : W'.ownsRow (N + 1) 3 1 (.slice (some ⟨g, 0, none⟩) (cs.length + 1) cap) (cs.length + 1) (intCells (cs ++ [c]))) (hwh : cv.ownBlock = some g ∨ g = Wa.heap.size) :
    FrR C N w0 m p os z t (cs ++ [c]) lv ls (W'.setCell ⟨N, 6, none⟩ (.slice (some ⟨g, 0, none⟩) (cs.length + 1) cap)) := by
  have hN : N < N + 1 := Nat.lt_succ_self _
  have hlt := (Array.getElem?_eq_some_iff.1 h1).1
  have h3a : Wa.ownsRow (N + 1) 3 1 cv cs.length (intCells cs) := owns_below h3 ha
  have h2a : RowsH Wa (N + 1) hv os := ownsH_below h2 ha
  have h4a := owns_below h4 ha
  have hbg : Below (N + 1) Wa W' := row_grown h3a (Nat.le_trans hlt ha.size) hg
  have h1' : W'.heap[N]? = _ := (hbg.block N hN).trans ((ha.block N hlt).trans h1)
  have hb' : Below C w0 W' := (h8.trans (ha.mono (by omega))).trans (hbg.mono (by omega))
  refine ⟨hv, .slice (some ⟨g, 0, none⟩) (cs.length + 1) cap, ?_, ?_, ?_, ?_, ?_, h6, ?_, hb'.setCell (p := ⟨N, 6, none⟩) h9 _, h9⟩
  · have := set_heap h1' 6 (.slice (some ⟨g, 0, none⟩) (cs.length + 1) cap)
    simpa using this
  · exact ownsRow_setCell_below (a := ⟨N, 6, none⟩) (row_kept h2a h5.symm hg) hN _
  · unfold RowsI
    rw [List.length_append]
    exact ownsRow_setCell_below (a := ⟨N, 6, none⟩) hown hN _
  · exact ownsRow_setCell_below (a := ⟨N, 6, none⟩) (row_kept h4a h7 hg) hN _
  · exact (apart_grown h5.symm h2a hwh).symm
  · exact apart_grown h7 h4a hwh
/-- A head is laid behind. -/
theorem fr_heads {C N : Nat} {w0 W Wa W' : World} {m p : ByteArray} {os : List Hd} {z t : Int} {cs : List Int} {hv cv lv : Value} {ls : List ByteArray} {g cap : Nat} {c : Hd}
    (h1 : W.heap[N]? = some (Obj.cells #[.string m, .string p, hv, .string ⟨#[]⟩, .int .i64 z, .int .i64 t, cv] 81)) (h2 : RowsH W (N + 1) hv os) (h3 : RowsI W (N + 1) cv cs) (h4 : W.ownsRow (N + 1) 9 1 lv ls.length (strCells ls)) (h5 : ApartV hv cv) (h6 : ApartV hv lv) (h7 : ApartV cv lv) (h8 : Below C w0 W) (h9 : C ≤ N)
    (ha : Below W.heap.size W Wa) (hg : Wa.grownBy W' hv.ownBlock) (hown : W'.ownsRow (N + 1) 65 2 (.slice (some ⟨g, 0, none⟩) (os.length + 1) cap) (os.length + 1) (hdCells (os ++ [c]))) (hwh : hv.ownBlock = some g ∨ g = Wa.heap.size) :
    FrR C N w0 m p (os ++ [c]) z t cs lv ls (W'.setCell ⟨N, 2, none⟩ (.slice (some ⟨g, 0, none⟩) (os.length + 1) cap)) := by
  have hN : N < N + 1 := Nat.lt_succ_self _
  have hlt := (Array.getElem?_eq_some_iff.1 h1).1
  have h3a : Wa.ownsRow (N + 1) 3 1 cv cs.length (intCells cs) := owns_below h3 ha
  have h2a : Wa.ownsRow (N + 1) 65 2 hv os.length (hdCells os) := ownsH_below h2 ha
  have h4a := owns_below h4 ha
  have hbg : Below (N + 1) Wa W' := row_grown h2a (Nat.le_trans hlt ha.size) hg
  have h1' : W'.heap[N]? = _ := (hbg.block N hN).trans ((ha.block N hlt).trans h1)
  have hb' : Below C w0 W' := (h8.trans (ha.mono (by omega))).trans (hbg.mono (by omega))
  refine ⟨.slice (some ⟨g, 0, none⟩) (os.length + 1) cap, cv, ?_, ?_, ?_, ?_, ?_, ?_, h7, hb'.setCell (p := ⟨N, 2, none⟩) h9 _, h9⟩
  · have := set_heap h1' 2 (.slice (some ⟨g, 0, none⟩) (os.length + 1) cap)
    simpa using this
  · unfold RowsH
    rw [List.length_append]
    exact ownsRow_setCell_below (a := ⟨N, 2, none⟩) hown hN _
  · exact ownsRow_setCell_below (a := ⟨N, 2, none⟩) (row_kept h3a h5 hg) hN _
  · exact ownsRow_setCell_below (a := ⟨N, 2, none⟩) (row_kept h4a h6 hg) hN _
  · exact apart_grown h5 h3a hwh
  · exact apart_grown h6 h4a hwh
theorem FrR.next {C N : Nat} {w0 W W' : World} {m p : ByteArray} {os : List Hd} {z t : Int} {cs : List Int} {lv : Value} {ls : List ByteArray} (h : FrR C N w0 m p os z t cs lv ls W) (hb : Below W.heap.size W W') : FrR C N w0 m p os z t cs lv ls W' := by
  obtain ⟨hv, cv, h1, h2, h3, h4, h5, h6, h7, h8, h9⟩ := h
  have hlt := (Array.getElem?_eq_some_iff.1 h1).1
  exact ⟨hv, cv, (hb.block _ hlt).trans h1, ownsH_below h2 hb, owns_below h3 hb, owns_below h4 hb, h5, h6, h7, h8.trans (hb.mono (Nat.le_of_lt (Nat.lt_of_le_of_lt h9 hlt))), h9⟩
/-- The same at one step of a drawn region. -/
theorem step_append_head2 {ops : Array Oper} {o : Oper} {a : Act} {w : World} {K : Act → World → Prop} {Q : Exit → Act → World → Prop} {E : Prop} (hgd : o.guard = none) (s x : Operand)
    (ho : o.op = .call { callee := .builtin .append, args := #[s, x], argTypes := #[24, 24] })
    (B : Nat) (v : Value) (n : Nat) (l : List Hd) (hs : a.eval s = v) (hown : w.ownsRow B 65 2 v n (hdCells l))
    (N : Nat) (c : Hd) (hx : a.eval x = .slice (some ⟨N, 0, none⟩) 1 1) (hc0 : w.cell? ⟨N, 0, none⟩ = some (.string c.1)) (hc1 : w.cell? ⟨N, 1, none⟩ = some (.string c.2)) (hlen : n + 1 ≤ 1099511627776) (hB : B ≤ w.heap.size)
    (h : ∀ g cap w', w'.ownsRow B 65 2 (.slice (some ⟨g, 0, none⟩) (n + 1) cap) (n + 1) (hdCells (l ++ [c])) → w.grownBy w' v.ownBlock → (v.ownBlock = some g ∨ g = w.heap.size) → K (a.put o.dst (.slice (some ⟨g, 0, none⟩) (n + 1) cap)) w') :
    if Region.wanted o (yielded ops a.tmps) = true then Oper.wp Tryz.prog o a w K Q else E := by
  have hwt : Region.wanted o (yielded ops a.tmps) = true := by simp [Region.wanted, hgd]
  rw [if_pos hwt]
  obtain ⟨i0, hi, hz0, hz1, hz2⟩ := info_parts infoHd
  have hnews : ∀ j u, [Value.string c.1, Value.string c.2][j]? = some u → w.cell? ((⟨N, 0, none⟩ : Addr).add j) = some u := by
    intro j u hj
    have e : ∀ k, (⟨N, 0, none⟩ : Addr).add k = ⟨N, k, none⟩ := fun k => by unfold Addr.add; split <;> simp_all
    rw [e]
    match j, hj with
    | 0, hj => simp at hj; subst hj; exact hc0
    | 1, hj => simp at hj; subst hj; exact hc1
  have hone : ∀ u ∈ [Value.string c.1, Value.string c.2], u.oneCell' = true := by
    intro u hu; simp at hu; rcases hu with rfl | rfl <;> rfl
  have hex := run_append_own (P := Tryz.prog) w B 24 o.type 65 i0 _ 2 32 Tryz.underlying24 hi hz0 hz1 hz2 rfl (by decide) v n _ hown ⟨N, 0, none⟩ 1 1 [.string c.1, .string c.2] rfl hnews hone (by unfold maxLen; omega) (by omega) hB
  obtain ⟨v', w', hrun, ho', hg, _⟩ := hex
  obtain ⟨g, cap, rfl⟩ : ∃ g cap, v' = .slice (some ⟨g, 0, none⟩) (n + 1) cap := by
    rcases ho'.2 with ⟨_, h0⟩ | ⟨g, cap, cur, hv, _⟩
    · omega
    · exact ⟨g, cap, hv⟩
  have hwhere : v.ownBlock = some g ∨ g = w.heap.size := by
    rcases hown.2 with ⟨rfl, h0⟩ | ⟨g1, cap1, cur1, rfl, hg1, hh1, hn1, hm1, hs1, ht1⟩
    · right
      have hr := run_append_nil (P := Tryz.prog) w 24 o.type 65 i0 _ Tryz.underlying24 hi hz0 ⟨N, 0, none⟩ 1 1 [.string c.1, .string c.2] (by rw [hz1]; rfl) hnews (by decide) (by decide) (by rw [hz2]; decide)
      rw [hr] at hrun
      have := congrArg (fun r => match r with | Result.ok (Value.slice (some a) _ _) _ => a.block | _ => 0) hrun
      exact this.symm
    · by_cases hroom : n + 1 ≤ cap1
      · left
        have hr := run_append_room (P := Tryz.prog) w 24 o.type 65 i0 Tryz.underlying24 hi g1 n cap1 cur1 hh1 ⟨N, 0, none⟩ 1 1 [.string c.1, .string c.2] (by rw [hz1]; rfl) hnews hone hroom (by rw [hz1, hs1]; simp only [List.length_cons, List.length_nil]; omega)
        rw [hr] at hrun
        have := congrArg (fun r => match r with | Result.ok (Value.slice (some a) _ _) _ => a.block | _ => 0) hrun
        have : g1 = g := this
        rw [← this]; rfl
      · right
        have hr := run_append_grow (P := Tryz.prog) w 24 o.type 65 i0 _ Tryz.underlying24 hi hz0 ⟨g1, 0, none⟩ n cap1 (hdCells l) (by rw [hz1]; exact hown.1) (fun j u hu => hown.cells (g := g1) rfl j u hu) ⟨N, 0, none⟩ 1 1 [.string c.1, .string c.2] (by rw [hz1]; rfl) hnews (by omega) (by omega) (by rw [hz2]; exact growslice_fits (by omega) (by omega))
        rw [hr] at hrun
        have := congrArg (fun r => match r with | Result.ok (Value.slice (some a) _ _) _ => a.block | _ => 0) hrun
        exact this.symm
  unfold Oper.wp execOp
  simp only [ho, resolve, invoke, builtin, Sem.run_bind, Sem.run_pure, Result.andThen_ok, List.map_toArray, List.map_cons, List.map_nil, hs, hx, hrun]
  exact h g cap w' (by rw [hdCells_append]; exact ho') hg hwhere
end Go.Proofs.YtkhnkockdfmkgaaGreatDoor
namespace Go.Proofs.YtkhnkockdfmkgaaGreatDoor
open Go.RowKit M

set_option maxHeartbeats 1000000 in
theorem specLower_any (s : ByteArray) (w : World) (hs : s.size ≤ 140737488355328) :
    Calls Tryz.prog 121 #[.string s] w fun e w' => e = .returned (.string ⟨(lowL s.data.toList).toArray⟩) ∧ Below w.heap.size w w' := by
  go_enter Tryz.func121, Tryz.ntmps121
  go_wp2
  go_loopw [3, 4] (fun v i wr => ∃ k : Nat, k ≤ s.size ∧ i = .int .i64 k ∧ wr.ownsRow w.heap.size 5 1 v k (Lib.byteCells (lowL (s.data.toList.take k))) ∧ Below w.heap.size w wr) (fun _ i _ => s.size - (intOf i).toNat)
  case atStart => exact ⟨0, Nat.zero_le _, rfl, World.ownsRow_made w #[] 0 (Nat.le_refl _) (by decide) rfl, (Below.refl _ _).alloc (Nat.le_refl _) _⟩
  case round =>
    obtain ⟨k, hk, rfl, hown, hbe⟩ := hrel
    by_cases hlt : k < s.size
    · have HL : Hid (lowL (s.data.toList.take (k + 1)) = lowL (s.data.toList.take k) ++ [lowB s[k]]) := lowL_snoc s k hlt
      cases hb : isB ((s[k]).toNat : Int) 3
      · go_wp2_with (first | (go_at_call 143; refine (l1Large_any _ _).mono ?_; rintro e w' ⟨rfl, rfl⟩; rw [hb]) | (at_builtin; refine wp_append_byte rfl _ _ rfl w.heap.size _ k _ rfl (hown.alloc _) _ (lowB s[k]) rfl ?c1 ?c2 ?c3 ?_))
        case c1 => rw [lowB_no _ hb]; simp
        case c2 => omega
        case c3 => have := hbe.size; simp; omega
        intro v1 w1 ho1 hb1
        rw [← HL.out] at ho1
        go_wp2
        go_roundw
        case rel => exact ⟨k + 1, by omega, by go_num, ho1, (hbe.alloc hbe.size _).trans hb1⟩
        case measure => simp [intOf]; omega
      · have hc := isB3 hb
        go_wp2_with (first | (go_at_call 143; refine (l1Large_any _ _).mono ?_; rintro e w' ⟨rfl, rfl⟩; rw [hb]) | (at_builtin; refine wp_append_byte rfl _ _ rfl w.heap.size _ k _ rfl (hown.alloc _) _ (lowB s[k]) rfl ?c1 ?c2 ?c3 ?_))
        case c1 => rw [lowB_yes _ hb]; simp
        case c2 => omega
        case c3 => have := hbe.size; simp; omega
        intro v1 w1 ho1 hb1
        rw [← HL.out] at ho1
        go_wp2
        go_roundw
        case rel => exact ⟨k + 1, by omega, by go_num, ho1, (hbe.alloc hbe.size _).trans hb1⟩
        case measure => simp [intOf]; omega
    · have hcv := conv_own hown
      go_wp2
      go_ret
      exact ⟨ret_str (by rw [take_all s k hlt]), hbe⟩
end Go.Proofs.YtkhnkockdfmkgaaGreatDoor
namespace Go.Proofs.YtkhnkockdfmkgaaGreatDoor
open Go.RowKit

theorem ret_two {a b : Int} {x y : Bool} (h : (a, x) = (b, y)) : Ending.returned (.tuple #[.int .i64 a, .bool x]) = .returned (.tuple #[.int .i64 b, .bool y]) := by
  cases h; rfl

theorem below_bytes (w : World) (e : TypeId) (s : ByteArray) : Below w.heap.size w (Lib.bytesWorld w e s) :=
  ⟨rfl, rfl, rfl, by rw [Lib.bytesWorld_size]; omega, fun k hk => Lib.bytesWorld_at_old w e s k hk⟩

theorem ret_int {k : IntKind} {a b : Int} (h : a = b) : Ending.returned (.int k a) = .returned (.int k b) := by rw [h]
end Go.Proofs.YtkhnkockdfmkgaaGreatDoor
namespace Go.Proofs.YtkhnkockdfmkgaaGreatDoor
open Go.RowKit M

set_option maxHeartbeats 1000000 in
theorem specParseNum_any (s : ByteArray) (most : Int) (w : World) (hs : s.size ≤ maxLen) :
    Calls Tryz.prog 125 #[.string s, .int .i64 most] w fun e w' => e = .returned (.tuple #[.int .i64 (parseNum s.data.toList most).1, .bool (parseNum s.data.toList most).2]) ∧ w' = w := by
  have ell := len_list s
  have EL : Hid (s.data.toList.length = s.size) := ell
  clear ell
  unfold maxLen at hs
  go_enter Tryz.func125, Tryz.ntmps125
  go_wp2
  go_loop [6, 7] (fun n i => ∃ k : Nat, k ≤ s.size ∧ k ≤ 8 ∧ i = .int .i64 k ∧ n = .int .i64 (decVal (s.data.toList.take k)) ∧ digs (s.data.toList.take k) = true) (fun _ i => s.size - (intOf i).toNat)
  case atStart => exact ⟨0, Nat.zero_le _, Nat.zero_le _, rfl, rfl, rfl⟩
  case round =>
    obtain ⟨k, hk, hk8, rfl, rfl, hn⟩ := hrel
    have HN : Hid (digs (s.data.toList.take k) = true) := hn
    have hv : decVal (s.data.toList.take k) < 100000000 := by
      have h1 := decVal_lt _ hn
      have h2 : (s.data.toList.take k).length ≤ k := List.length_take_le _ _
      have h3 := Nat.pow_le_pow_right (show 0 < 10 by decide) h2
      have h4 := pow_le8 hk8
      omega
    clear hn
    by_cases hlt : k < s.size
    · by_cases hl8 : k < 8
      · cases hb : isB ((s[k]).toNat : Int) 4
        · go_wp2_with (go_at_call 146; refine (l1Digit_any _ _).mono ?_; rintro e w' ⟨rfl, rfl⟩; rw [hb])
          go_ret2
          refine ⟨ret_two ?_, rfl⟩
          rw [parseNum_no (not_digs (digs_not s k hlt hb))]
        · have hc := isB4 hb
          have HV : Hid (decVal (s.data.toList.take (k + 1)) = decVal (s.data.toList.take k) * 10 + (s[k].toNat - 48)) := decVal_step s k hlt
          generalize decVal (s.data.toList.take k) = v at *
          go_wp2_with (go_at_call 146; refine (l1Digit_any _ _).mono ?_; rintro e w' ⟨rfl, rfl⟩; rw [hb])
          go_round
          case rel =>
            refine ⟨k + 1, by omega, by omega, by go_num, ?_, digs_snoc s k hlt HN.out hb⟩
            rw [HV.out]
            congr 1
            omega
          case measure => simp [intOf]; omega
      · have hin : inB (s.size : Int) 1 7 = false := by simp [inB]; omega
        go_wp2_with (go_at_call 65; refine (l1In_any _ _ _ _).mono ?_; rintro e w' ⟨rfl, rfl⟩; rw [hin])
        go_ret2
        exact ⟨ret_two (by rw [parseNum_no (not_size hin)]), rfl⟩
    · have HD : Hid (digs s.data.toList = true) := by
        have := HN.out
        rwa [take_all s k hlt] at this
      rw [take_all s k hlt] at hv ⊢
      cases hin : inB (s.size : Int) 1 7
      · go_wp2_with (go_at_call 65; refine (l1In_any _ _ _ _).mono ?_; rintro e w' ⟨rfl, rfl⟩; rw [hin])
        go_ret2
        exact ⟨ret_two (by rw [parseNum_no (not_size hin)]), rfl⟩
      · have h0 : 0 < s.size := by simp [inB] at hin; omega
        have hk1 : ¬ (k : Int) < s.size := by omega
        by_cases h1 : 1 < s.size
        · have h1' : (1 : Int) < s.size := by omega
          cases hz : (((s[0]).toNat : Int) == 48)
          · by_cases hm : most < (decVal s.data.toList : Int)
            · have HP := parseNum_no (not_most hm)
              have HQ : Hid (parseNum s.data.toList most = (0, false)) := HP
              clear HP
              go_wp2_with (go_at_call 65; refine (l1In_any _ _ _ _).mono ?_; rintro e w' ⟨rfl, rfl⟩; rw [hin])
              go_ret2
              exact ⟨ret_two (by rw [HQ.out]), rfl⟩
            · have HQ : Hid (parseNum s.data.toList most = ((decVal s.data.toList : Int), true)) := parseNum_yes (is_ok h0 hin HD.out (fun _ => hz) hm)
              go_wp2_with (go_at_call 65; refine (l1In_any _ _ _ _).mono ?_; rintro e w' ⟨rfl, rfl⟩; rw [hin])
              go_ret2
              exact ⟨ret_two (by rw [HQ.out]), rfl⟩
          · have HQ : Hid (parseNum s.data.toList most = (0, false)) := parseNum_no (not_nought h0 h1 hz)
            go_wp2_with (go_at_call 65; refine (l1In_any _ _ _ _).mono ?_; rintro e w' ⟨rfl, rfl⟩; rw [hin])
            go_ret2
            exact ⟨ret_two (by rw [HQ.out]), rfl⟩
        · have h1' : ¬ (1 : Int) < s.size := by omega
          by_cases hm : most < (decVal s.data.toList : Int)
          · have HQ : Hid (parseNum s.data.toList most = (0, false)) := parseNum_no (not_most hm)
            go_wp2_with (go_at_call 65; refine (l1In_any _ _ _ _).mono ?_; rintro e w' ⟨rfl, rfl⟩; rw [hin])
            go_ret2
            exact ⟨ret_two (by rw [HQ.out]), rfl⟩
          · have HQ : Hid (parseNum s.data.toList most = ((decVal s.data.toList : Int), true)) := parseNum_yes (is_ok h0 hin HD.out (fun h => absurd h h1) hm)
            go_wp2_with (go_at_call 65; refine (l1In_any _ _ _ _).mono ?_; rintro e w' ⟨rfl, rfl⟩; rw [hin])
            go_ret2
            exact ⟨ret_two (by rw [HQ.out]), rfl⟩
end Go.Proofs.YtkhnkockdfmkgaaGreatDoor
namespace Go.Proofs.YtkhnkockdfmkgaaGreatDoor
open M
set_option linter.unusedVariables false

/-- What a line gives. -/
def okLine (l : List UInt8) : Option Hd :=
  match headS l with
  | none => none
  | some h => if h.1 = lenName ∧ numOk h = false then none else some h
/-- What all of them give. -/
def okLines : List (List UInt8) → Option (List Hd)
  | [] => some []
  | l :: ls => match okLine l with
    | none => none
    | some h => (okLines ls).map (h :: ·)
theorem okLines_snoc : ∀ (ls : List (List UInt8)) (l : List UInt8) (hs : List Hd), okLines ls = some hs → okLines (ls ++ [l]) = (okLine l).map fun h => hs ++ [h]
  | [], l, hs, h => by
    simp [okLines] at h
    subst h
    simp only [List.nil_append, okLines]
    cases okLine l <;> rfl
  | x :: ls, l, hs, h => by
    rw [okLines] at h
    simp only [List.cons_append, okLines]
    cases hx : okLine x with
    | none => rw [hx] at h; cases h
    | some y =>
      rw [hx] at h
      obtain ⟨q, hq, rfl⟩ := Option.map_eq_some_iff.1 h
      simp only
      rw [okLines_snoc ls l q hq]
      cases okLine l <;> rfl
theorem okLines_bad : ∀ (ls ms : List (List UInt8)), okLines ls = none → okLines (ls ++ ms) = none
  | [], ms, h => by cases h
  | x :: ls, ms, h => by
    rw [okLines] at h
    simp only [List.cons_append, okLines]
    cases hx : okLine x with
    | none => rfl
    | some y =>
      rw [hx] at h
      simp only at h ⊢
      rw [okLines_bad ls ms (by cases e : okLines ls with | none => rfl | some q => rw [e] at h; cases h)]
      rfl
theorem lens_cons (h : Hd) (hs : List Hd) : lensOf (h :: hs) = if h.1 = lenName then h :: lensOf hs else lensOf hs := by
  unfold lensOf
  rw [List.filter_cons]
  by_cases e : h.1 = lenName <;> simp [e]
/-- They are the heads, each with a number where it tells a length. -/
theorem okLines_is : ∀ (ls : List (List UInt8)), okLines ls = (match headsS ls with | none => none | some hs => if (lensOf hs).all numOk then some hs else none)
  | [] => rfl
  | l :: ls => by
    simp only [okLines, headsS, okLine]
    cases hl : headS l with
    | none => rfl
    | some h =>
      simp only
      rw [okLines_is ls]
      by_cases e : h.1 = lenName
      · cases hn : numOk h
        · simp only [e, and_self, if_true]
          cases headsS ls with
          | none => rfl
          | some hs => simp [lensOf, e, hn]
        · simp only [e, Bool.true_eq_false, and_false, if_false]
          cases headsS ls with
          | none => rfl
          | some hs =>
            have : (lensOf (h :: hs)).all numOk = (lensOf hs).all numOk := by rw [lens_cons, if_pos e, List.all_cons, hn, Bool.true_and]
            simp only [Option.map_some, this]
            cases (lensOf hs).all numOk <;> rfl
      · simp only [e, false_and, if_false]
        cases headsS ls with
        | none => rfl
        | some hs =>
          have : lensOf (h :: hs) = lensOf hs := by rw [lens_cons, if_neg e]
          simp only [Option.map_some, this]
          cases (lensOf hs).all numOk <;> rfl
/-- The code of what stands ahead of a body, as the specification reads it. -/
def readC (t : List UInt8) : Int :=
  match readS t with
  | none => 400
  | some (m, p, hs) => frameC hs
end Go.Proofs.YtkhnkockdfmkgaaGreatDoor
