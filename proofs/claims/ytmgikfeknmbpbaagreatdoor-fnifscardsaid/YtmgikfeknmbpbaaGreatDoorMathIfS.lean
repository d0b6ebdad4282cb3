/-
  How the specification's reader goes through a text, against how it is read.
-/
import Derived.Test.YtmgikfeknmbpbaaGreatDoorSpecIfTo
import Derived.Test.YtmgikfeknmbpbaaGreatDoorPreC
import Derived.Test.YtmgikfeknmbpbaaGreatDoorSpecTg
namespace Go.Proofs.YtmgikfeknmbpbaaGreatDoor
open Go.RowKit M
set_option linter.unusedVariables false

theorem to_tail {s : ByteArray} {a : Nat} {c : UInt8} (ha : a ≤ s.size) (h : toB s a c = false) : toA s a c ≤ s.size ∧ s.data.toList.drop (toA s a c) = (fromB c (s.data.toList.drop a)).tail ∧ toT s a c = upTo c (s.data.toList.drop a) := by
  have hf : fromB c (s.data.toList.drop a) ≠ [] := fun e => by unfold toB at h; rw [e] at h; cases h
  have h0 := upTo_from c (s.data.toList.drop a)
  have h1 := congrArg List.length h0
  rw [List.length_append, List.length_drop] at h1
  have hz : s.data.toList.length = s.size := Array.length_toList
  have hp : 0 < (fromB c (s.data.toList.drop a)).length := List.length_pos_iff.2 hf
  unfold toA toT
  rw [h, if_neg (by simp), if_neg (by simp)]
  refine ⟨by omega, ?_, rfl⟩
  have key : ∀ (u f X : List UInt8), u ++ f = X → X.drop (u.length + 1) = f.tail := by
    rintro u f X rfl
    rw [← List.drop_drop, List.drop_left, List.drop_one]
  rw [Nat.add_assoc, ← List.drop_drop]
  exact key _ _ _ h0
theorem toT_len {s : ByteArray} {a : Nat} {c : UInt8} : (toT s a c).length ≤ s.size := by
  have h0 := congrArg List.length (upTo_from c (s.data.toList.drop a))
  have hz : s.data.toList.length = s.size := Array.length_toList
  rw [List.length_append, List.length_drop, hz] at h0
  unfold toT
  split
  · simp
  · omega
theorem toA_le {s : ByteArray} {a : Nat} {c : UInt8} (ha : a ≤ s.size) : toA s a c ≤ s.size := by
  cases h : toB s a c
  · exact (to_tail ha h).1
  · unfold toA; rw [h, if_pos rfl]; exact Nat.le_refl _
theorem isPre_one (c : UInt8) (l : List UInt8) : [c].isPrefixOf l = decide (l.head? = some c) := prefix_c c l
theorem isPre_two (c d : UInt8) (l : List UInt8) : [c, d].isPrefixOf l = (decide (l.head? = some c) && decide (l.tail.head? = some d)) := by
  cases l with
  | nil => rfl
  | cons a r =>
    have h := isPre_one d r
    have h2 : [c, d].isPrefixOf (a :: r) = (c == a && [d].isPrefixOf r) := rfl
    rw [h2, h, List.head?_cons, List.tail_cons]
    congr 1
    by_cases e : a = c
    · subst e; simp
    · rw [decide_eq_false (fun h => e (Option.some.inj h)), beq_eq_false_iff_ne.2 (fun h => e h.symm)]
theorem isA_false {s : ByteArray} {a : Nat} {p : List UInt8} : isA s a false p = if p.isPrefixOf (s.data.toList.drop a) = true then a + p.length else a := by simp [isA, isZ]
theorem cutNot_is (s : ByteArray) (a : Nat) : cutNot (s.data.toList.drop a) = (isZ s a false notL, s.data.toList.drop (isA s a false notL)) := by
  unfold cutNot
  rw [isA_false]
  unfold isZ
  cases h : notL.isPrefixOf (s.data.toList.drop a)
  · simp
  · simp [List.drop_drop, notL]

/-- A Token is read. -/
def badT (s : ByteArray) (a : Nat) : Bool := toB s a 62 || (!(parseNum (toT s a 62) 9999).2 || decide ((parseNum (toT s a 62) 9999).1 < 1))
theorem tok_is (s : ByteArray) (a : Nat) (no : Bool) (ha : a ≤ s.size) (h : isZ s a false [60] = true) :
    bodyC no (s.data.toList.drop a) = if badT s (isA s a false [60]) = true then none else some (⟨no, (parseNum (toT s (isA s a false [60]) 62) 9999).1, ⟨#[]⟩⟩, s.data.toList.drop (toA s (isA s a false [60]) 62)) := by
  unfold isZ at h
  rw [Bool.not_false, Bool.true_and] at h
  have h60 : (s.data.toList.drop a).head? = some 60 := by rw [isPre_one] at h; simpa using h
  have hA : isA s a false [60] = a + 1 := by rw [isA_false, if_pos h]; rfl
  have hle : isA s a false [60] ≤ s.size := isA_le ha
  rw [hA] at hle ⊢
  have htl : (s.data.toList.drop a).tail = s.data.toList.drop (a + 1) := by rw [List.tail_drop]
  unfold bodyC
  rw [if_pos h60, htl]
  unfold tokC
  cases hb : toB s (a + 1) 62
  · obtain ⟨t1, t2, t3⟩ := to_tail hle hb
    have hf : ¬ fromB 62 (s.data.toList.drop (a + 1)) = [] := fun e => by unfold toB at hb; rw [e] at hb; cases hb
    rw [if_neg hf, ← t3]
    unfold badT numC
    rw [hb, Bool.false_or]
    cases hq : (parseNum (toT s (a + 1) 62) 9999).2
    · simp
    · by_cases h1 : 1 ≤ (parseNum (toT s (a + 1) 62) 9999).1
      · have h2 : decide ((parseNum (toT s (a + 1) 62) 9999).1 < 1) = false := decide_eq_false (by omega)
        rw [h2, if_pos ⟨rfl, h1⟩]
        simp [t2]
      · have h2 : decide ((parseNum (toT s (a + 1) 62) 9999).1 < 1) = true := decide_eq_true (by omega)
        rw [h2, if_neg (fun e => h1 e.2)]
        simp
  · have hf : fromB 62 (s.data.toList.drop (a + 1)) = [] := by unfold toB at hb; simpa using hb
    rw [if_pos hf]
    unfold badT
    rw [hb]
    simp
theorem tagB_in {m : List UInt8} (h : 34 ∉ m) : tagB (tagL m) = innB m := by
  cases hi : innB m
  · rw [Bool.eq_false_iff]
    intro e
    obtain ⟨m', e1, _, e3⟩ := (tagB_iff _).1 e
    have : m = m' := by simpa [tagL] using e1
    rw [this, e3] at hi
    cases hi
  · exact (tagB_iff _).2 ⟨m, rfl, h, hi⟩
/-- A mark is read. -/
def tgA (s : ByteArray) (a : Nat) : Nat := isA s a false [91, 34]
def tgB3 (s : ByteArray) (a : Nat) : Bool := !isZ s a false [91, 34] || toB s (tgA s a) 34
def tgM (s : ByteArray) (a : Nat) : List UInt8 := toT s (tgA s a) 34
def tgA3 (s : ByteArray) (a : Nat) : Nat := toA s (tgA s a) 34
def tgB4 (s : ByteArray) (a : Nat) : Bool := !isZ s (tgA3 s a) (tgB3 s a) [93]
def tgA4 (s : ByteArray) (a : Nat) : Nat := isA s (tgA3 s a) (tgB3 s a) [93]
def badG (s : ByteArray) (a : Nat) : Bool := tgB4 s a || (!tagB (tagL (tgM s a)) || decide (tgM s a = []))
theorem tag_is (s : ByteArray) (a : Nat) (no : Bool) (ha : a ≤ s.size) (h : isZ s a false [60] = false) :
    bodyC no (s.data.toList.drop a) = if badG s a = true then none else some (⟨no, 0, bytesOf (tagL (tgM s a))⟩, s.data.toList.drop (tgA4 s a)) := by
  unfold isZ at h
  rw [Bool.not_false, Bool.true_and] at h
  have h60 : ¬ (s.data.toList.drop a).head? = some 60 := by rw [isPre_one] at h; simpa using h
  unfold bodyC
  rw [if_neg h60]
  cases hz : [91, 34].isPrefixOf (s.data.toList.drop a)
  · have hb : badG s a = true := by
      have : tgB3 s a = true := by unfold tgB3 isZ; rw [hz]; rfl
      unfold badG tgB4 isZ
      rw [this]
      rfl
    rw [hb, if_pos rfl]
    rw [isPre_two, Bool.and_eq_false_iff] at hz
    by_cases h91 : (s.data.toList.drop a).head? = some 91
    · rw [if_pos h91]
      have h34 : ¬ (s.data.toList.drop a).tail.head? = some 34 := by
        rcases hz with hz | hz
        · simp [h91] at hz
        · simpa using hz
      unfold tagC
      have hc : cutT (s.data.toList.drop a).tail = none := by
        cases hl : (s.data.toList.drop a).tail with
        | nil => rfl
        | cons c r =>
          rw [hl] at h34
          rw [cutT, if_neg (fun e => h34 (by rw [e]; rfl))]
      rw [hc]
    · rw [if_neg h91]
  · have hA : tgA s a = a + 2 := by unfold tgA; rw [isA_false, if_pos hz]; rfl
    have hle : tgA s a ≤ s.size := isA_le ha
    have hzz : isZ s a false [91, 34] = true := by unfold isZ; rw [hz]; rfl
    rw [isPre_two, Bool.and_eq_true] at hz
    have h91 : (s.data.toList.drop a).head? = some 91 := by simpa using hz.1
    have h34 : (s.data.toList.drop a).tail.head? = some 34 := by simpa using hz.2
    have htl : (s.data.toList.drop a).tail = 34 :: s.data.toList.drop (tgA s a) := by
      cases hl : (s.data.toList.drop a).tail with
      | nil => rw [hl] at h34; cases h34
      | cons c r =>
        rw [hl] at h34
        cases h34
        have : r = (s.data.toList.drop a).tail.tail := by rw [hl]; rfl
        rw [this, List.tail_drop, List.tail_drop, hA]
    rw [if_pos h91, htl]
    unfold tagC
    rw [cutT, if_pos rfl]
    have hB3 : tgB3 s a = toB s (tgA s a) 34 := by unfold tgB3; rw [hzz]; rfl
    cases hb : toB s (tgA s a) 34
    · obtain ⟨t1, t2, t3⟩ := to_tail hle hb
      have hf : ¬ fromB 34 (s.data.toList.drop (tgA s a)) = [] := fun e => by unfold toB at hb; rw [e] at hb; cases hb
      have hm : 34 ∉ tgM s a := by unfold tgM; rw [t3]; exact M.upTo_not 34 _
      rw [if_neg hf, ← t3, ← t2]
      have hbad : badG s a = (!([93].isPrefixOf (s.data.toList.drop (tgA3 s a))) || (!innB (tgM s a) || decide (tgM s a = []))) := by
        unfold badG tgB4 isZ
        rw [hB3, hb, tagB_in hm]
        rfl
      have h4 : tgA4 s a = if [93].isPrefixOf (s.data.toList.drop (tgA3 s a)) = true then tgA3 s a + 1 else tgA3 s a := by
        unfold tgA4
        rw [hB3, hb, isA_false]
        rfl
      rw [hbad, h4]
      rw [isPre_one]
      show (match (if innB (tgM s a) = true then some (tgM s a, s.data.toList.drop (tgA3 s a)) else none) with | none => none | some (m, r) => if m = [] then none else if r.head? = some 93 then some ((⟨no, 0, bytesOf (tagL m)⟩ : Cn), r.tail) else none) = _
      cases hi : innB (tgM s a)
      · simp
      · by_cases hn : tgM s a = []
        · simp [hn]
        · by_cases h93 : (s.data.toList.drop (tgA3 s a)).head? = some 93
          · simp [hn, h93, List.tail_drop]
          · rw [decide_eq_false h93]
            show (if tgM s a = [] then none else if (s.data.toList.drop (tgA3 s a)).head? = some 93 then some ((⟨no, 0, bytesOf (tagL (tgM s a))⟩ : Cn), (s.data.toList.drop (tgA3 s a)).tail) else none) = none
            rw [if_neg hn, if_neg h93]
    · have hf : fromB 34 (s.data.toList.drop (tgA s a)) = [] := by unfold toB at hb; simpa using hb
      rw [if_pos hf]
      have hbad : badG s a = true := by
        unfold badG tgB4 isZ
        rw [hB3, hb]
        rfl
      rw [hbad]
      rfl
theorem cond_is (s : ByteArray) (a : Nat) : condL (s.data.toList.drop a) = bodyC (isZ s a false notL) (s.data.toList.drop (isA s a false notL)) := by
  unfold condL
  rw [cutNot_is]
/-- What the reading of one comes to. -/
def CondRet (s : ByteArray) (a N : Nat) (e : Ending) (w' : World) : Prop :=
  match condL (s.data.toList.drop a) with
  | none => (∃ c : Cn, e = .returned (.agg #[.bool c.no, .int .i64 c.tk, .string c.tg])) ∧ ∃ a', a' ≤ s.size ∧ Rd w' N s a' true
  | some (c, q) => e = .returned (.agg #[.bool c.no, .int .i64 c.tk, .string c.tg]) ∧ ∃ a', a' ≤ s.size ∧ s.data.toList.drop a' = q ∧ Rd w' N s a' false
theorem condRet_tok {s : ByteArray} {a N : Nat} (w' : World) (e : Ending) (bad : Bool) (ha : a ≤ s.size) (hz : isZ s (isA s a false notL) false [60] = true) (he : e = .returned (.agg #[.bool (isZ s a false notL), .int .i64 (parseNum (toT s (isA s (isA s a false notL) false [60]) 62) 9999).1, .string ⟨#[]⟩]))
    (hb : bad = badT s (isA s (isA s a false notL) false [60])) (hr : Rd w' N s (toA s (isA s (isA s a false notL) false [60]) 62) bad) : CondRet s a N e w' := by
  unfold CondRet
  rw [cond_is, tok_is _ _ _ (isA_le ha) hz]
  cases bad
  · rw [if_neg (by rw [← hb]; simp)]
    exact ⟨he, _, toA_le (isA_le (isA_le ha)), rfl, hr⟩
  · rw [if_pos hb.symm]
    exact ⟨⟨⟨_, _, _⟩, he⟩, _, toA_le (isA_le (isA_le ha)), hr⟩
theorem tgA4_le {s : ByteArray} {a : Nat} (ha : a ≤ s.size) : tgA4 s a ≤ s.size := isA_le (toA_le (isA_le ha))
theorem condRet_tag {s : ByteArray} {a N : Nat} (w' : World) (e : Ending) (bad : Bool) (ha : a ≤ s.size) (hz : isZ s (isA s a false notL) false [60] = false) (he : e = .returned (.agg #[.bool (isZ s a false notL), .int .i64 0, .string (bytesOf (tagL (tgM s (isA s a false notL))))]))
    (hb : bad = badG s (isA s a false notL)) (hr : Rd w' N s (tgA4 s (isA s a false notL)) bad) : CondRet s a N e w' := by
  unfold CondRet
  rw [cond_is, tag_is _ _ _ (isA_le ha) hz]
  cases bad
  · rw [if_neg (by rw [← hb]; simp)]
    exact ⟨he, _, tgA4_le (isA_le ha), rfl, hr⟩
  · rw [if_pos hb.symm]
    exact ⟨⟨⟨_, _, _⟩, he⟩, _, tgA4_le (isA_le ha), hr⟩
end Go.Proofs.YtmgikfeknmbpbaaGreatDoor
