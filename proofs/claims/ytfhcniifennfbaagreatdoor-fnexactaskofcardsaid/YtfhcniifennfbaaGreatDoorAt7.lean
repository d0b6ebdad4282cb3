/-
  Names ahead in a text, by places: no program in sight.
  Bytes held against a constant, in the forms that a walk wants; texts held against a constant.
  What the specification's l1In does; a byte as an int.
  What the specification's l7At does.
-/
import Derived.Test.YtfhcniifennfbaaGreatDoorMathMark2
import Derived.Test.YtfhcniifennfbaaGreatDoorMathLock
import Derived.Test.YtfhcniifennfbaaGreatDoorRows
import Derived.Test.YtfhcniifennfbaaGreatDoorSliceEq
import Derived.WalkKit
import Derived.WalkSpells
import Derived.WalkLawsBesides
import Derived.Deep.Light
namespace Go.Proofs.YtfhcniifennfbaaGreatDoor.M

theorem nmL_all (l : List UInt8) : ∀ x ∈ nmL l, nameP x = true := by
  induction l with
  | nil => intro x hx; simp [nmL] at hx
  | cons b l ih =>
    intro x hx
    cases h : nameP b
    · simp [nmL, h] at hx
    · have e : nmL (b :: l) = b :: nmL l := by simp [nmL, h]
      rw [e] at hx
      rcases List.mem_cons.1 hx with rfl | hx
      · exact h
      · exact ih x hx
theorem nmR_head {l q : List UInt8} {c : UInt8} (h : nmR l = c :: q) : nameP c = false := by
  induction l with
  | nil => simp [nmR] at h
  | cons b l ih =>
    cases hb : nameP b
    · have e : nmR (b :: l) = b :: l := by simp [nmR, hb]
      rw [e] at h
      rw [← (List.cons.inj h).1]; exact hb
    · have e : nmR (b :: l) = nmR l := by simp [nmR, hb]
      rw [e] at h
      exact ih h
theorem nm_len (l : List UInt8) : (nmL l).length + (nmR l).length = l.length := by
  have := congrArg List.length (nm_from l)
  rwa [List.length_append] at this
theorem nm_get (l : List UInt8) (j : Nat) (hj : j < l.length) (hle : j ≤ (nmL l).length) : nameP l[j] = decide (j < (nmL l).length) := by
  have e := nm_from l
  by_cases h : j < (nmL l).length
  · rw [decide_eq_true h]
    have h2 : l[j] = (nmL l)[j] := by
      have : (nmL l ++ nmR l)[j]'(by rw [e]; exact hj) = (nmL l)[j] := List.getElem_append_left h
      rw [← this]; congr 1; exact e.symm
    rw [h2]
    exact nmL_all l _ (List.getElem_mem h)
  · rw [decide_eq_false h]
    cases hf : nmR l with
    | nil =>
      have := nm_len l
      rw [hf] at this
      simp at this
      omega
    | cons x q =>
      have : (nmL l ++ nmR l)[j]'(by rw [e]; exact hj) = x := by
        rw [List.getElem_append_right (by omega)]
        have hj0 : j - (nmL l).length = 0 := by omega
        simp [hj0, hf]
      have h2 : l[j] = x := by rw [← this]; congr 1; exact e.symm
      rw [h2]
      exact nmR_head hf
theorem nm_at (s : ByteArray) (a k : Nat) (ha : a ≤ k) (hk : k < s.size) (hle : k ≤ a + (nmL (s.data.toList.drop a)).length) : nameP s[k] = decide (k < a + (nmL (s.data.toList.drop a)).length) := by
  have el : s.data.toList.length = s.size := Array.length_toList
  have h := nm_get (s.data.toList.drop a) (k - a) (by rw [List.length_drop]; omega) (by omega)
  have h2 : (s.data.toList.drop a)[k - a]'(by rw [List.length_drop]; omega) = s[k] := by
    rw [List.getElem_drop]
    have : a + (k - a) = k := by omega
    simp only [this]
    rfl
  rw [h2] at h
  rw [h, Bool.eq_iff_iff]
  simp
  omega
theorem nm_take (s : ByteArray) (a : Nat) : (s.extract a (a + (nmL (s.data.toList.drop a)).length)).data.toList = nmL (s.data.toList.drop a) := by
  rw [extract_list, show a + (nmL (s.data.toList.drop a)).length - a = (nmL (s.data.toList.drop a)).length by omega]
  have e := nm_from (s.data.toList.drop a)
  generalize nmL (s.data.toList.drop a) = p at e ⊢
  rw [← e]
  simp
theorem nm_drop (s : ByteArray) (a : Nat) : s.data.toList.drop (a + (nmL (s.data.toList.drop a)).length) = nmR (s.data.toList.drop a) := by
  have e := nm_from (s.data.toList.drop a)
  rw [← List.drop_drop]
  generalize nmL (s.data.toList.drop a) = p at e ⊢
  generalize nmR (s.data.toList.drop a) = q at e ⊢
  rw [← e]
  simp
theorem nm_size (s : ByteArray) (a : Nat) (ha : a ≤ s.size) : a + (nmL (s.data.toList.drop a)).length ≤ s.size := by
  have el : s.data.toList.length = s.size := Array.length_toList
  have h := nm_len (s.data.toList.drop a)
  rw [List.length_drop] at h
  omega

/-- Pieces as they are read. -/
def CanonP (p : Pce) : Prop :=
  ((p.k = 1 ∨ p.k = 3) ∧ p.s = noB) ∨ (p.k = 2 ∧ p.ns = noB ∧ p.has = false ∧ p.s = noB) ∨ (p.k = 4 ∧ p.name = noB ∧ p.ns = noB ∧ p.has = false)
theorem markL_canon {l q : List UInt8} {p : Pce} (h : markL l = some (p, q)) : CanonP p := by
  unfold markL at h
  split at h
  · unfold closeL at h
    split at h
    · obtain ⟨rfl, _⟩ := Prod.mk.inj (Option.some.inj h)
      exact .inr (.inl ⟨rfl, rfl, rfl, rfl⟩)
    · cases h
  split at h
  · unfold openL at h
    split at h
    · split at h
      · unfold endM at h
        split at h
        · obtain ⟨rfl, _⟩ := Prod.mk.inj (Option.some.inj h)
          exact .inl ⟨.inr rfl, rfl⟩
        split at h
        · obtain ⟨rfl, _⟩ := Prod.mk.inj (Option.some.inj h)
          exact .inl ⟨.inl rfl, rfl⟩
        · cases h
      · cases h
    · cases h
  · unfold textL7 at h
    split at h
    · obtain ⟨rfl, _⟩ := Prod.mk.inj (Option.some.inj h)
      exact .inr (.inr ⟨rfl, rfl, rfl, rfl⟩)
    · cases h
end Go.Proofs.YtfhcniifennfbaaGreatDoor.M
namespace Go.Proofs.YtfhcniifennfbaaGreatDoor.M

theorem is_u8 (c d : UInt8) (z : Int) (hz : z = (d.toNat : Int)) : ((c.toNat : Int) == z) = decide (c = d) := by
  subst hz
  by_cases h : c = d
  · subst h; simp
  · rw [decide_eq_false h, beq_eq_false_iff_ne]
    exact fun e => h (UInt8.toNat_inj.1 (by omega))
theorem isn_u8 (c d : UInt8) (z : Int) (hz : z = (d.toNat : Int)) : ((c.toNat : Int) != z) = !decide (c = d) := by
  show (!((c.toNat : Int) == z)) = _
  rw [is_u8 c d z hz]


theorem eq_bytes (s : ByteArray) (l : List UInt8) : decide (s = ⟨l.toArray⟩) = decide (s.data.toList = l) := by
  by_cases h : s.data.toList = l
  · rw [decide_eq_true h, decide_eq_true]
    apply ByteArray.ext
    rw [← h]
  · rw [decide_eq_false h, decide_eq_false]
    intro e; exact h (by rw [e])
end Go.Proofs.YtfhcniifennfbaaGreatDoor.M
namespace Go.Proofs.YtfhcniifennfbaaGreatDoor
open Go.RowKit M

set_option maxHeartbeats 400000 in
theorem l1In_any (x a b : Int) (w : World) :
    Calls Tryz.prog 113 #[.int .i64 x, .int .i64 a, .int .i64 b] w fun e w' => e = .returned (.bool (inB x a b)) ∧ w' = w := by
  go_enter Tryz.func113, Tryz.ntmps113
  go_wp2
  all_goals
    go_ret
    refine ⟨ret_bool ?_, rfl⟩
    go_light
    unfold inB
    simp_all
    try omega

theorem wrap64_u8 (c : UInt8) : wrap64 (c.toNat : Int) = c.toNat := by
  have := c.toNat_lt
  unfold wrap64
  omega
end Go.Proofs.YtfhcniifennfbaaGreatDoor
namespace Go.Proofs.YtfhcniifennfbaaGreatDoor
open Go.RowKit M
set_option linter.unusedVariables false

theorem eqL3 (s : ByteArray) (l : List UInt8) : (s.toList == l) = decide (s.data.toList = l) := by
  rw [ByteArray.toList_eq, Bool.eq_iff_iff]; simp
theorem isPre_take (p l : List UInt8) : p.isPrefixOf l = decide (l.take p.length = p) := by
  rw [Bool.eq_iff_iff]
  simp only [List.isPrefixOf_iff_prefix, decide_eq_true_eq]
  constructor
  · rintro ⟨t, rfl⟩; simp
  · intro h
    refine ⟨l.drop p.length, ?_⟩
    have h2 := List.take_append_drop p.length l
    rw [h] at h2
    exact h2

set_option maxHeartbeats 1000000 in
theorem l7At_no (s t : ByteArray) (a : Nat) (w : World) (ha : a ≤ s.size) (hs : s.size ≤ 1099511627776) (ht : t.size ≤ 100) (h : ¬ a + t.size ≤ s.size) :
    Calls Tryz.prog 118 #[.string s, .int .i64 a, .string t] w fun e w' => e = .returned (.bool false) ∧ w' = w := by
  have h' : ¬ (a : Int) + t.size ≤ s.size := by omega
  go_enter Tryz.func118, Tryz.ntmps118
  go_wp2
  go_ret
  exact ⟨rfl, rfl⟩
set_option maxHeartbeats 1000000 in
theorem l7At_yes (s t : ByteArray) (a : Nat) (w : World) (ha : a ≤ s.size) (hs : s.size ≤ 1099511627776) (ht : t.size ≤ 100) (h : a + t.size ≤ s.size) :
    Calls Tryz.prog 118 #[.string s, .int .i64 a, .string t] w fun e w' => e = .returned (.bool (t.data.toList.isPrefixOf (s.data.toList.drop a))) ∧ w' = w := by
  have h' : (a : Int) + t.size ≤ s.size := by omega
  go_enter Tryz.func118, Tryz.ntmps118
  go_wp2
  go_ret
  refine ⟨ret_bool ?_, rfl⟩
  have e : t.data.toList.length = t.size := Array.length_toList
  rw [eqL3, isPre_take, extract_list, ByteArray.toList_eq, e, show a + t.size - a = t.size by omega]

theorem l7At_any (s t : ByteArray) (p : List UInt8) (hp : t.data.toList = p) (a : Nat) (w : World) (ha : a ≤ s.size) (hs : s.size ≤ 1099511627776) (ht : t.size ≤ 100) :
    Calls Tryz.prog 118 #[.string s, .int .i64 a, .string t] w fun e w' => e = .returned (.bool (p.isPrefixOf (s.data.toList.drop a))) ∧ w' = w := by
  subst hp
  by_cases h : a + t.size ≤ s.size
  · exact l7At_yes s t a w ha hs ht h
  · have e1 : t.data.toList.length = t.size := Array.length_toList
    have e2 : s.data.toList.length = s.size := Array.length_toList
    have : t.data.toList.isPrefixOf (s.data.toList.drop a) = false := by
      rw [isPre_take, decide_eq_false]
      intro e
      have := congrArg List.length e
      rw [List.length_take, List.length_drop] at this
      omega
    rw [this]
    exact l7At_no s t a w ha hs ht h
end Go.Proofs.YtfhcniifennfbaaGreatDoor
