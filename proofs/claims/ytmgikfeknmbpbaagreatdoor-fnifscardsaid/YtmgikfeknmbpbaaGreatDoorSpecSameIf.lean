/-
  What FnIfs draws: lists for the text and for what is submitted.
  How the specification tells lists, against how they are told.
  What is read of a short text is small.
  What spec.l14Same does.
-/
import Derived.Test.YtmgikfeknmbpbaaGreatDoorAnyIf
import Derived.Test.YtmgikfeknmbpbaaGreatDoorMathNum
import Derived.Test.YtmgikfeknmbpbaaGreatDoorMathIf
import Derived.Test.YtmgikfeknmbpbaaGreatDoorConds
import Derived.Test.YtmgikfeknmbpbaaGreatDoorAt7
import Derived.Laws.StructEq
import Derived.WalkSpells
import Derived.WalkLawsBesides
import Derived.Deep.Light
import Derived.Deep.QuietTactic
namespace Go.Proofs.YtmgikfeknmbpbaaGreatDoor
open Go.RowKit M
set_option linter.unusedVariables false


theorem drawIfText_any {w : World} {B : Nat} {a : Option Addr} {len : Nat} {zs : List Int} (h : CodeIn w B a len zs) (cap : Nat) :
    Calls Tryz.prog 5 #[.slice a len cap] w fun e w' => AnyI w.heap.size e w' ∧ Below w.heap.size w w' := by
  have HC := hide h
  clear h
  go_enter Tryz.func5, Tryz.ntmps5
  go_wp2_with fail
  refine (newDX HC.out cap).mono ?_
  rintro e w1 ⟨rfl, hd1, b1⟩
  have hN1 : w.heap.size < w1.heap.size := hd1.lt
  have HB1 := hide b1
  have HD1 := hide hd1
  clear hd1 b1
  go_wp2_with fail
  refine (l14Any_any HD1.out).mono ?_
  rintro e w2 ⟨⟨ls, v, rfl, hf, ho⟩, hd2, hg2⟩
  have HR := hide (show AnyI w.heap.size (.returned v) w2 ∧ Below w.heap.size w w2 from ⟨⟨ls, v, rfl, hf, ho.up (by omega) (Nat.le_refl _)⟩, HB1.out.trans (grown_below hg2 (Nat.le_refl _) (by omega))⟩)
  clear hf ho hd2 hg2
  go_wp2
  go_ret
  exact HR.out
theorem drawSubmitted_any {w : World} {B : Nat} {a : Option Addr} {len : Nat} {zs : List Int} (h : CodeIn w B a len zs) (cap : Nat) :
    Calls Tryz.prog 11 #[.slice a len cap] w fun e w' => AnyI w.heap.size e w' ∧ Below w.heap.size w w' := by
  have HC := hide h
  clear h
  go_enter Tryz.func11, Tryz.ntmps11
  go_wp2_with fail
  refine (newDX HC.out cap).mono ?_
  rintro e w1 ⟨rfl, hd1, b1⟩
  have hN1 : w.heap.size < w1.heap.size := hd1.lt
  have HB1 := hide b1
  have HD1 := hide hd1
  clear hd1 b1
  go_wp2_with fail
  refine (l14Any_any HD1.out).mono ?_
  rintro e w2 ⟨⟨ls, v, rfl, hf, ho⟩, hd2, hg2⟩
  have HR := hide (show AnyI w.heap.size (.returned v) w2 ∧ Below w.heap.size w w2 from ⟨⟨ls, v, rfl, hf, ho.up (by omega) (Nat.le_refl _)⟩, HB1.out.trans (grown_below hg2 (Nat.le_refl _) (by omega))⟩)
  clear hf ho hd2 hg2
  go_wp2
  go_ret
  exact HR.out
end Go.Proofs.YtmgikfeknmbpbaaGreatDoor
namespace Go.Proofs.YtmgikfeknmbpbaaGreatDoor
open Go.RowKit M
set_option linter.unusedVariables false

def oneT (c : Cn) : List UInt8 := (if c.no = true then notL else []) ++ (if c.tk = 0 then 91 :: (c.tg.data.toList ++ [93]) else 60 :: (Lib.decDigits c.tk.toNat ++ [62]))
def oneL (cs : List Cn) : List UInt8 := 40 :: (joinT (cs.map oneT) ++ [41])
def oneI (ls : List (List Cn)) : List UInt8 := joinT (ls.map oneL)
theorem joinT_nil : joinT [] = [] := rfl
theorem joinT_snoc (xs : List (List UInt8)) (x : List UInt8) : joinT (xs ++ [x]) = if xs.length = 0 then x else joinT xs ++ 32 :: x := by
  induction xs with
  | nil => simp [joinT_one]
  | cons a r ih =>
    rw [List.cons_append, if_neg (by simp)]
    cases r with
    | nil => rw [List.nil_append, joinT_cons, joinT_one, joinT_one]
    | cons b q =>
      rw [List.cons_append] at ih ⊢
      rw [joinT_cons, ih, if_neg (by simp), joinT_cons]
      simp
theorem one_snoc (cs : List Cn) (k : Nat) (hk : k < cs.length) : joinT ((cs.take (k + 1)).map oneT) = if k = 0 then oneT cs[k] else joinT ((cs.take k).map oneT) ++ 32 :: oneT cs[k] := by
  rw [List.take_succ_eq_append_getElem hk, List.map_append, List.map_cons, List.map_nil, joinT_snoc, List.length_map, List.length_take]
  rw [show min k cs.length = k by omega]
theorem oneI_snoc (ls : List (List Cn)) (k : Nat) (hk : k < ls.length) : oneI (ls.take (k + 1)) = if k = 0 then oneL ls[k] else oneI (ls.take k) ++ 32 :: oneL ls[k] := by
  unfold oneI
  rw [List.take_succ_eq_append_getElem hk, List.map_append, List.map_cons, List.map_nil, joinT_snoc, List.length_map, List.length_take]
  rw [show min k ls.length = k by omega]
theorem oneT_ok {c : Cn} (h : okC c) : oneT c = condT c := by
  unfold oneT condT
  rcases h with ⟨h1, h2, h3⟩ | ⟨h1, m, h2, h3, h4, h5⟩
  · rw [if_neg (show ¬ c.tk = 0 by omega), if_pos h1]
  · have hne : ¬ c.tg.data.toList = [] := by rw [h2]; exact tag_ne m
    rw [if_pos h1, if_neg hne]
theorem oneI_ok {ls : List (List Cn)} (h : okIf ls) : oneI ls = ifT ls := by
  unfold oneI ifT
  congr 1
  refine List.map_congr_left (fun cs hcs => ?_)
  unfold oneL listT
  congr 3
  exact List.map_congr_left (fun c hc => oneT_ok ((h.2.2 cs hcs).2.2 c hc))
/-- What the specification answers: the text, where it reads back. -/
theorem back_iff (ls : List (List Cn)) : ifL (oneI ls) = some ls ↔ okIf ls := by
  constructor
  · exact fun h => ifL_ok h
  · intro h
    rw [oneI_ok h]
    exact ifL_back h
/-! Sizes. -/
theorem dec_le (n : Int) (h : n ≤ 9223372036854775807) : (Lib.decDigits n.toNat).length ≤ 20 := by
  have := dec_len 19 n.toNat (by omega)
  omega
theorem oneT_len {c : Cn} (h : c.tk ≤ 9223372036854775807) : (oneT c).length ≤ 26 + c.tg.size := by
  have h1 := dec_le c.tk h
  have h2 : c.tg.data.toList.length = c.tg.size := Array.length_toList
  unfold oneT
  rw [List.length_append]
  have h3 : (if c.no = true then notL else []).length ≤ 4 := by split <;> simp [notL]
  have h4 : (if c.tk = 0 then 91 :: (c.tg.data.toList ++ [93]) else 60 :: (Lib.decDigits c.tk.toNat ++ [62])).length ≤ 22 + c.tg.size := by
    split
    · simp only [List.length_cons, List.length_append, List.length_nil, h2]; omega
    · simp only [List.length_cons, List.length_append, List.length_nil]; omega
  omega
def wfC (c : Cn) : Prop := c.tk ≤ 9223372036854775807
theorem joinT_len (xs : List (List UInt8)) : (joinT xs).length ≤ (xs.map fun x => x.length + 1).sum := by
  match xs with
  | [] => simp [joinT_nil]
  | [a] => rw [joinT_one]; simp
  | a :: b :: r =>
    rw [joinT_cons, List.length_append, List.length_cons, List.map_cons, List.sum_cons]
    have := joinT_len (b :: r)
    omega
theorem sum_le {α : Type} (f g : α → Nat) (l : List α) (h : ∀ x ∈ l, f x ≤ g x) : (l.map f).sum ≤ (l.map g).sum := by
  induction l with
  | nil => simp
  | cons x r ih =>
    rw [List.map_cons, List.map_cons, List.sum_cons, List.sum_cons]
    have h1 := h x (List.mem_cons_self ..)
    have h2 := ih (fun y hy => h y (List.mem_cons_of_mem _ hy))
    omega
theorem sz_sum (cs : List Cn) : szRs (cs.map dCn) = (cs.map fun c => 1 + c.tg.size).sum := by
  induction cs with
  | nil => rfl
  | cons x r ih => rw [List.map_cons, szRs_cons, ih, sz_dCn, List.map_cons, List.sum_cons]
theorem sum_mul (n : Nat) {α : Type} (f : α → Nat) (l : List α) : (l.map fun x => n * f x).sum = n * (l.map f).sum := by
  induction l with
  | nil => simp
  | cons x r ih => rw [List.map_cons, List.map_cons, List.sum_cons, List.sum_cons, ih, Nat.mul_add]
theorem oneL_len {cs : List Cn} (h : ∀ c ∈ cs, wfC c) : (oneL cs).length ≤ 27 * szRs (cs.map dCn) + 2 := by
  unfold oneL
  rw [List.length_cons, List.length_append, List.length_singleton]
  have h1 := joinT_len (cs.map oneT)
  rw [List.map_map] at h1
  have h2 := sum_le ((fun x : List UInt8 => x.length + 1) ∘ oneT) (fun c => 27 * (1 + c.tg.size)) cs (fun c hc => by
    have := oneT_len (h c hc)
    simp only [Function.comp]
    omega)
  rw [sum_mul] at h2
  rw [sz_sum]
  omega
theorem sz_sum2 (ls : List (List Cn)) : szRs (ls.map dCs) = (ls.map fun cs => 1 + szRs (cs.map dCn)).sum := by
  induction ls with
  | nil => rfl
  | cons x r ih => rw [List.map_cons, szRs_cons, ih, sz_dCs, List.map_cons, List.sum_cons]
theorem oneI_len {ls : List (List Cn)} (h : ∀ cs ∈ ls, ∀ c ∈ cs, wfC c) : (oneI ls).length ≤ 27 * szRs (ls.map dCs) := by
  unfold oneI
  have h1 := joinT_len (ls.map oneL)
  rw [List.map_map] at h1
  have h2 := sum_le ((fun x : List UInt8 => x.length + 1) ∘ oneL) (fun cs => 27 * (1 + szRs (cs.map dCn))) ls (fun cs hcs => by
    have := oneL_len (h cs hcs)
    simp only [Function.comp]
    omega)
  rw [sum_mul] at h2
  rw [sz_sum2]
  omega
theorem take_sz (ls : List (List Cn)) (k : Nat) : szRs ((ls.take k).map dCs) ≤ szRs (ls.map dCs) := szRs_sub ((List.take_sublist k ls).map dCs)
theorem take_szC (cs : List Cn) (k : Nat) : szRs ((cs.take k).map dCn) ≤ szRs (cs.map dCn) := szRs_sub ((List.take_sublist k cs).map dCn)
/-- What well-formed arguments say. -/
theorem wf_of {ls : List (List Cn)} (h : okF (.l (ls.map dCs))) : ∀ cs ∈ ls, ∀ c ∈ cs, wfC c := fun cs hcs c hc => by
  have h1 := (okRs_mem _ h.1 _ (List.mem_map_of_mem (f := dCs) hcs)).1
  have h2 := okR_mem h1 (.l (cs.map dCn)) (by simp [dCs])
  have h3 := (okRs_mem _ h2.1 _ (List.mem_map_of_mem (f := dCn) hc)).1
  have h4 : (Lit.int .i64 c.tk).wf = true := okR_mem h3 (.c (.int .i64 c.tk)) (by simp [dCn])
  simp only [Lit.wf, Bool.and_eq_true, decide_eq_true_eq] at h4
  have h5 : (IntKind.max .i64 : Int) = 9223372036854775807 := by decide
  unfold wfC
  omega
end Go.Proofs.YtmgikfeknmbpbaaGreatDoor
namespace Go.Proofs.YtmgikfeknmbpbaaGreatDoor
open Go.RowKit M
set_option linter.unusedVariables false

theorem bodyC_tag {no : Bool} {l r : List UInt8} {c : Cn} (h : bodyC no l = some (c, r)) : c.tg.size ≤ l.length := by
  unfold bodyC at h
  split at h
  · unfold tokC at h
    split at h
    · cases h
    · split at h
      · cases h
      · cases h
        exact Nat.zero_le _
  · split at h
    · unfold tagC at h
      split at h
      · cases h
      · rename_i m q hc
        have h3 := (cutT_in hc).2.2
        split at h
        · cases h
        · split at h
          · cases h
            have h4 : l.tail.length = (tagL m ++ q).length := by rw [h3]
            rw [List.length_tail, List.length_append] at h4
            show (bytesOf (tagL m)).size ≤ l.length
            rw [bytesOf_size]
            omega
          · cases h
    · cases h
theorem condL_tag {l r : List UInt8} {c : Cn} (h : condL l = some (c, r)) : c.tg.size ≤ l.length :=
  Nat.le_trans (bodyC_tag h) (cutNot_len l)
theorem condsL_tag (n : Nat) : ∀ l : List UInt8, l.length < n → ∀ cs r, condsL l = some (cs, r) → ∀ c ∈ cs, c.tg.size ≤ l.length := by
  induction n with
  | zero => intro l hl; exact absurd hl (Nat.not_lt_zero _)
  | succ n ih =>
    intro l hl cs r h
    cases hc : condL l with
    | none => rw [condsL_none hc] at h; cases h
    | some x =>
      obtain ⟨c, q⟩ := x
      have hq := condL_len hc
      have hk := condL_tag hc
      by_cases hh : q.head? = some 32
      · rw [condsL_next hc hh] at h
        cases hd : condsL q.tail with
        | none => rw [hd] at h; cases h
        | some y =>
          obtain ⟨ds, z⟩ := y
          rw [hd] at h
          cases h
          have h1 := ih q.tail (by rw [List.length_tail]; omega) ds z hd
          intro x hx
          rcases List.mem_cons.1 hx with rfl | hx
          · exact hk
          · have := h1 x hx
            rw [List.length_tail] at this
            omega
      · rw [condsL_end hc hh] at h
        cases h
        intro x hx
        rcases List.mem_cons.1 hx with rfl | hx
        · exact hk
        · cases hx
theorem listL_tag {l r : List UInt8} {cs : List Cn} (h : listL l = some (cs, r)) : ∀ c ∈ cs, c.tg.size ≤ l.length := by
  unfold listL at h
  split at h
  · split at h
    · cases h
    · rename_i q hq
      split at h
      · cases h
        intro c hc
        have := condsL_tag _ l.tail (Nat.lt_succ_self _) _ _ hq c hc
        rw [List.length_tail] at this
        omega
      · cases h
  · cases h
theorem listsL_tag (n : Nat) : ∀ l : List UInt8, l.length < n → ∀ ls, listsL l = some ls → ∀ cs ∈ ls, ∀ c ∈ cs, c.tg.size ≤ l.length := by
  induction n with
  | zero => intro l hl; exact absurd hl (Nat.not_lt_zero _)
  | succ n ih =>
    intro l hl ls h
    cases hc : listL l with
    | none => rw [listsL_none hc] at h; cases h
    | some x =>
      obtain ⟨c, q⟩ := x
      have hq := listL_len hc
      have hk := listL_tag hc
      by_cases hh : q = []
      · subst hh
        rw [listsL_end hc] at h
        cases h
        intro x hx
        rcases List.mem_cons.1 hx with rfl | hx
        · exact hk
        · cases hx
      · rw [listsL_next hc hh] at h
        cases hd : listsL (blk q) with
        | none => rw [hd] at h; cases h
        | some ds =>
          rw [hd] at h
          cases h
          have h0 := blk_len q
          have h1 := ih (blk q) (by omega) ds hd
          intro x hx
          rcases List.mem_cons.1 hx with rfl | hx
          · exact hk
          · intro y hy
            have := h1 x hx y hy
            omega
theorem ifL_tag {l : List UInt8} {ls : List (List Cn)} (h : ifL l = some ls) : ∀ cs ∈ ls, ∀ c ∈ cs, c.tg.size ≤ l.length := by
  unfold ifL at h
  cases hd : listsL l with
  | none => rw [hd] at h; cases h
  | some ds =>
    rw [hd] at h
    simp only [Option.bind_some] at h
    split at h
    · cases h
      exact listsL_tag _ l (Nat.lt_succ_self _) _ hd
    · cases h
theorem sum_bd {α : Type} (f : α → Nat) (b : Nat) (l : List α) (h : ∀ x ∈ l, f x ≤ b) : (l.map f).sum ≤ l.length * b := by
  induction l with
  | nil => simp
  | cons x r ih =>
    rw [List.map_cons, List.sum_cons, List.length_cons, Nat.add_mul]
    have h1 := h x (List.mem_cons_self ..)
    have h2 := ih (fun y hy => h y (List.mem_cons_of_mem _ hy))
    omega
/-- Few lists of few small ones. -/
theorem sz_few {ls : List (List Cn)} {m k z : Nat} (h1 : ls.length ≤ m) (h2 : ∀ cs ∈ ls, cs.length ≤ k) (h3 : ∀ cs ∈ ls, ∀ c ∈ cs, c.tg.size ≤ z) : szRs (ls.map dCs) ≤ m * (1 + k * (1 + z)) := by
  rw [sz_sum2]
  refine Nat.le_trans (sum_bd _ (1 + k * (1 + z)) ls (fun cs hcs => ?_)) (Nat.mul_le_mul_right _ h1)
  rw [sz_sum]
  have := sum_bd (fun c : Cn => 1 + c.tg.size) (1 + z) cs (fun c hc => by have := h3 cs hcs c hc; omega)
  have h4 := Nat.mul_le_mul_right (1 + z) (h2 cs hcs)
  omega
theorem oneL_few {cs : List Cn} {k z : Nat} (h2 : cs.length ≤ k) (h3 : ∀ c ∈ cs, c.tg.size ≤ z) (hwf : ∀ c ∈ cs, wfC c) : (oneL cs).length ≤ 2 + k * (27 + z) := by
  unfold oneL
  rw [List.length_cons, List.length_append, List.length_singleton]
  have h1 := joinT_len (cs.map oneT)
  rw [List.map_map] at h1
  have h4 := sum_bd ((fun x : List UInt8 => x.length + 1) ∘ oneT) (27 + z) cs (fun c hc => by
    have h5 := oneT_len (hwf c hc)
    have h6 := h3 c hc
    simp only [Function.comp]
    omega)
  have h5 := Nat.mul_le_mul_right (27 + z) h2
  omega
theorem oneI_few {ls : List (List Cn)} {m k z : Nat} (h1 : ls.length ≤ m) (h2 : ∀ cs ∈ ls, cs.length ≤ k) (h3 : ∀ cs ∈ ls, ∀ c ∈ cs, c.tg.size ≤ z) (hwf : ∀ cs ∈ ls, ∀ c ∈ cs, wfC c) : (oneI ls).length ≤ m * (3 + k * (27 + z)) := by
  unfold oneI
  have h4 := joinT_len (ls.map oneL)
  rw [List.map_map] at h4
  have h5 := sum_bd ((fun x : List UInt8 => x.length + 1) ∘ oneL) (3 + k * (27 + z)) ls (fun cs hcs => by
    have h6 := oneL_few (h2 cs hcs) (h3 cs hcs) (hwf cs hcs)
    simp only [Function.comp]
    omega)
  have h6 := Nat.mul_le_mul_right (3 + k * (27 + z)) h1
  omega
theorem wf_ok {ls : List (List Cn)} (h : okIf ls) : ∀ cs ∈ ls, ∀ c ∈ cs, wfC c := fun cs hcs c hc => by
  unfold wfC
  rcases (h.2.2 cs hcs).2.2 c hc with ⟨_, h1, h2⟩ | ⟨h1, _⟩ <;> omega
theorem ifT_ne {ls : List (List Cn)} (h : okIf ls) : ifT ls ≠ [] := fun e => by
  have h1 := ifL_back h
  rw [e] at h1
  unfold ifL at h1
  have : listsL [] = none := listsL_none (by unfold listL; rw [if_neg (by simp)])
  rw [this] at h1
  cases h1
end Go.Proofs.YtmgikfeknmbpbaaGreatDoor
namespace Go.Proofs.YtmgikfeknmbpbaaGreatDoor
open Go.RowKit M
set_option linter.unusedVariables false

theorem take_sameI {α : Type} {a b : List α} {k : Nat} (ha : k < a.length) (hb : k < b.length) (h : a.take k = b.take k) (e : a[k] = b[k]) : a.take (k + 1) = b.take (k + 1) := by
  rw [List.take_succ_eq_append_getElem ha, List.take_succ_eq_append_getElem hb, h, e]
theorem take_not {α : Type} {a b : List α} {k : Nat} (ha : k < a.length) (hb : k < b.length) (e : a[k] ≠ b[k]) : ¬ a = b := fun h => e (by subst h; rfl)
theorem cn_eq {x y : Cn} (h0 : x.no = y.no) (h1 : x.tk = y.tk) (h2 : x.tg.toList = y.tg.toList) : x = y := by
  obtain ⟨a, b, c⟩ := x
  obtain ⟨d, e, f⟩ := y
  simp only at h0 h1 h2
  subst h0 h1
  have : c = f := by
    apply ByteArray.ext
    rw [ByteArray.toList_eq, ByteArray.toList_eq] at h2
    exact Array.toList_inj.1 h2
  rw [this]
theorem ne_tg {x y : Cn} (h : ¬ x.tg.toList = y.tg.toList) : x ≠ y := fun e => h (by rw [e])

set_option maxRecDepth 100000 in
set_option maxHeartbeats 8000000 in
theorem l14Same_any (p q : Option Addr) (a b : List (List Cn)) (ca cb B C : Nat) (w : World) (h : Cnss w B p a) (h' : Cnss w C q b) (hla : a.length ≤ 1048576) (hlb : b.length ≤ 1048576) (hna : ∀ cs ∈ a, cs.length ≤ 1048576) (hnb : ∀ cs ∈ b, cs.length ≤ 1048576) :
    Calls Tryz.prog 32 #[.slice p a.length ca, .slice q b.length cb] w fun e w' => (∃ z : Bool, e = .returned (.bool z) ∧ (z = true ↔ a = b)) ∧ Below w.heap.size w w' := by
  have HH := hide h
  have HH' := hide h'
  have HNA := hide hna
  have HNB := hide hnb
  clear h h' hna hnb
  by_cases hl : a.length = b.length
  rotate_left
  · have HN := hide (show ¬ a = b from fun e => hl (by rw [e]))
    have hl1 : ((a.length : Int) == (b.length : Int)) = false := by rw [beq_eq_false_iff_ne]; omega
    have hl2 : ((a.length : Int) != (b.length : Int)) = true := by rw [bne_iff_ne]; omega
    go_enter Tryz.func32, Tryz.ntmps32
    go_wp2
    go_ret
    exact ⟨⟨_, rfl, ⟨fun e => (by cases e), fun e => absurd e HN.out⟩⟩, Below.refl _ _⟩
  have hl1 : ((a.length : Int) == (b.length : Int)) = true := by rw [beq_iff_eq]; omega
  have hl2 : ((a.length : Int) != (b.length : Int)) = false := by rw [hl]; simp
  have HL := hide hl
  clear hl
  go_enter Tryz.func32, Tryz.ntmps32
  go_wp2
  go_loopw [5] (fun i wr => ∃ k n : Nat, k ≤ a.length ∧ i = .int .i64 k ∧ Hid (a.take k = b.take k) ∧ wr = w.drewN n) (fun i _ => a.length - (intOf i).toNat)
  case atStart => exact ⟨0, 0, Nat.zero_le _, rfl, rfl, rfl⟩
  case round =>
    obtain ⟨k, n, hk, rfl, HT, hw⟩ := hrel
    subst hw
    by_cases hlt : k < a.length
    · have hltb : k < b.length := by have := HL.out; omega
      obtain ⟨b1, o1, rfl, hb1, hc1⟩ := HH.out (by omega)
      obtain ⟨b2, o2, rfl, hb2, hc2⟩ := HH'.out (by omega)
      obtain ⟨pa, pc, x0, hin1⟩ := hc1 k hlt
      obtain ⟨pb, pd, y0, hin2⟩ := hc2 k hltb
      have HIN1 := hide hin1.ps
      have HIN2 := hide hin2.ps
      have hn1 := HNA.out _ (List.getElem_mem hlt)
      have hn2 := HNB.out _ (List.getElem_mem hltb)
      have HNE := hide (fun e => take_not hlt hltb e)
      have HSM := hide (fun e => take_sameI hlt hltb HT.out e)
      have d0 : (w.drewN n).cell? ⟨b1, o1 + k, none⟩ = some (.slice pa a[k].length pc) := x0
      have d1 : (w.drewN n).cell? ⟨b2, o2 + k, none⟩ = some (.slice pb b[k].length pd) := y0
      clear hc1 hc2 hin1 hin2
      have hi0 : (0 : Int) ≤ (k : Int) := by omega
      have hi1 : (k : Int) < (a.length : Int) := by omega
      have hi2 : (k : Int) < (b.length : Int) := by omega
      obtain ⟨cs, hcs⟩ : ∃ z, a[k] = z := ⟨_, rfl⟩
      obtain ⟨ds, hds⟩ : ∃ z, b[k] = z := ⟨_, rfl⟩
      rw [hcs] at HNE HSM HIN1 hn1 x0 d0
      rw [hds] at HNE HSM HIN2 hn2 y0 d1
      clear hcs hds
      by_cases hm : cs.length = ds.length
      rotate_left
      · have HN := hide (HNE.out (fun e => hm (by rw [e])))
        have hm1 : ((cs.length : Int) == (ds.length : Int)) = false := by rw [beq_eq_false_iff_ne]; omega
        have hm2 : ((cs.length : Int) != (ds.length : Int)) = true := by rw [bne_iff_ne]; omega
        clear hm
        go_wp2
        go_quiet (fail)
        go_wp2
        go_ret
        exact ⟨⟨_, rfl, ⟨fun e => (by cases e), fun e => absurd e HN.out⟩⟩, below_drewN (below_drewN (Below.refl _ _) _) _⟩
      have hm1 : ((cs.length : Int) == (ds.length : Int)) = true := by rw [beq_iff_eq]; omega
      have hm2 : ((cs.length : Int) != (ds.length : Int)) = false := by rw [hm]; simp
      have HM := hide hm
      clear hm
      go_wp2
      go_quiet (fail)
      go_wp2
      go_loopw [6] (fun i wr => ∃ j m : Nat, j ≤ cs.length ∧ i = .int .i64 j ∧ Hid (cs.take j = ds.take j) ∧ wr = w.drewN m) (fun i _ => cs.length - (intOf i).toNat)
      case atStart => exact ⟨0, n + nq, Nat.zero_le _, rfl, rfl, by simp⟩
      case round =>
        obtain ⟨j, m, hj, rfl, HTJ, hw⟩ := hrel
        subst hw
        have e0 : (w.drewN m).cell? ⟨b1, o1 + k, none⟩ = some (.slice pa cs.length pc) := x0
        have e1 : (w.drewN m).cell? ⟨b2, o2 + k, none⟩ = some (.slice pb ds.length pd) := y0
        by_cases hjl : j < cs.length
        · have hjd : j < ds.length := by have := HM.out; omega
          obtain ⟨b3, o3, rfl, hb3, hc3⟩ := HIN1.out (by omega)
          obtain ⟨b4, o4, rfl, hb4, hc4⟩ := HIN2.out (by omega)
          obtain ⟨u0, u1, u2⟩ := hc3 j hjl
          obtain ⟨v0, v1, v2⟩ := hc4 j hjd
          have HNJ := hide (fun e => HNE.out (take_not hjl hjd e))
          have HSJ := hide (fun e => take_sameI hjl hjd HTJ.out e)
          clear hc3 hc4
          obtain ⟨x, hx⟩ : ∃ z, cs[j] = z := ⟨_, rfl⟩
          obtain ⟨y, hy⟩ : ∃ z, ds[j] = z := ⟨_, rfl⟩
          rw [hx] at HNJ HSJ u0 u1 u2
          rw [hy] at HNJ HSJ v0 v1 v2
          clear hx hy
          have f0 : (w.drewN m).cell? ⟨b3, o3 + j * 3, none⟩ = some (.bool x.no) := u0
          have f1 : (w.drewN m).cell? ⟨b3, o3 + j * 3 + 1, none⟩ = some (.int .i64 x.tk) := u1
          have f2 : (w.drewN m).cell? ⟨b3, o3 + j * 3 + 2, none⟩ = some (.string x.tg) := u2
          have g0 : (w.drewN m).cell? ⟨b4, o4 + j * 3, none⟩ = some (.bool y.no) := v0
          have g1 : (w.drewN m).cell? ⟨b4, o4 + j * 3 + 1, none⟩ = some (.int .i64 y.tk) := v1
          have g2 : (w.drewN m).cell? ⟨b4, o4 + j * 3 + 2, none⟩ = some (.string y.tg) := v2
          have hj0 : (0 : Int) ≤ (j : Int) := by omega
          have hj1 : (j : Int) < (cs.length : Int) := by omega
          have hj2 : (j : Int) < (ds.length : Int) := by omega
          by_cases q0 : x.no = y.no
          · by_cases q1 : x.tk = y.tk
            · by_cases q2 : x.tg.toList = y.tg.toList
              · have HN := hide (HSJ.out (cn_eq q0 q1 q2))
                go_wp2
                go_quiet (fail)
                go_wp2
                go_roundw
                case rel => exact ⟨j + 1, m + nq, by omega, by go_num, HN, by simp⟩
                case measure => simp [intOf]; omega
              · have HN := hide (HNJ.out (ne_tg q2))
                go_wp2
                go_quiet (fail)
                go_wp2
                go_ret
                exact ⟨⟨_, rfl, ⟨fun e => (by cases e), fun e => absurd e HN.out⟩⟩, below_drewN (below_drewN (Below.refl _ _) _) _⟩
            · have HN := hide (HNJ.out (fun e => q1 (by rw [e])))
              go_wp2
              go_quiet (fail)
              go_wp2
              go_ret
              exact ⟨⟨_, rfl, ⟨fun e => (by cases e), fun e => absurd e HN.out⟩⟩, below_drewN (below_drewN (Below.refl _ _) _) _⟩
          · have HN := hide (HNJ.out (fun e => q0 (by rw [e])))
            go_wp2
            go_quiet (fail)
            go_wp2
            go_ret
            exact ⟨⟨_, rfl, ⟨fun e => (by cases e), fun e => absurd e HN.out⟩⟩, below_drewN (below_drewN (Below.refl _ _) _) _⟩
        · have HE := hide (HSM.out (by
            have h1 := HTJ.out
            rw [List.take_of_length_le (by omega), List.take_of_length_le (by have := HM.out; omega)] at h1
            exact h1))
          go_wp2
          go_roundw
          case rel => exact ⟨k + 1, m, by omega, by go_num, HE, rfl⟩
          case measure => simp [intOf]; omega
    · have HE := hide (show a = b by
        have h1 := HT.out
        rw [List.take_of_length_le (by omega), List.take_of_length_le (by have := HL.out; omega)] at h1
        exact h1)
      go_wp2
      go_ret
      exact ⟨⟨_, rfl, ⟨fun _ => HE.out, fun _ => rfl⟩⟩, below_drewN (Below.refl _ _) _⟩
end Go.Proofs.YtmgikfeknmbpbaaGreatDoor
