/-
  Plain facts on how a text is read back, a byte at a time, by places: no program in sight.
  Names ahead in a text, by places: no program in sight.
  Bytes held against a constant, in the forms that a walk wants; texts held against a constant.
  What the specification's l1In does; a byte as an int.
  What the specification's l1Digit does.
  What l1Small and SmallName (the specification's) do.
  What the specification's l7At and l7Name do.
  Rows of bytes that the call itself made: what string(b) gives of one; where the walk wants it.
  Small facts that what is parsed wants.
  What the specification's ParseNum does.
  What the specification's Unescape does.
  What the specification's l7Mark does.
-/
import Derived.Test.YtccehdlgpbeijaaGreatDoorRowsP
import Derived.Test.YtccehdlgpbeijaaGreatDoorKinds
import Derived.Test.YtccehdlgpbeijaaGreatDoorRows
import Derived.WalkKit
import Derived.WalkSpells
import Derived.WalkLawsBesides
import Derived.Deep.Light
import Derived.Lib.BufferWrite
import Derived.Laws.IdiomStrings
import Derived.Laws.BytesArg
import Derived.Lib.ConvBytes
namespace Go.Proofs.YtccehdlgpbeijaaGreatDoor.M

/-- The first byte of a text, and what stands behind it. -/
def stepL : List UInt8 → Option (UInt8 × List UInt8)
  | [] => none
  | c :: r => if c = 60 then none else if c = 38 then
      (if fromB 59 r = [] then none else (match entL (upTo 59 r) with | some b => some (b, (fromB 59 r).tail) | none => none))
    else some (c, r)

theorem stepL_open (r : List UInt8) : stepL (60 :: r) = none := by simp [stepL]
theorem stepL_plain {c : UInt8} (r : List UInt8) (h : c ≠ 60) (h2 : c ≠ 38) : stepL (c :: r) = some (c, r) := by simp [stepL, h, h2]
theorem stepL_short (r : List UInt8) (h : fromB 59 r = []) : stepL (38 :: r) = none := by simp [stepL, h]
theorem stepL_bad (r : List UInt8) (h : entL (upTo 59 r) = none) : stepL (38 :: r) = none := by simp [stepL, h]
theorem stepL_ent (r : List UInt8) (b : UInt8) (h : fromB 59 r ≠ []) (hb : entL (upTo 59 r) = some b) : stepL (38 :: r) = some (b, (fromB 59 r).tail) := by simp [stepL, h, hb]

theorem unesc_none {l : List UInt8} (hl : l ≠ []) (h : stepL l = none) : unesc l = none := by
  match l, hl with
  | c :: r, _ =>
    by_cases h60 : c = 60
    · subst h60; exact unesc_open r
    by_cases h38 : c = 38
    · subst h38
      by_cases hf : fromB 59 r = []
      · exact unesc_short r hf
      · cases he : entL (upTo 59 r) with
        | none => exact unesc_bad r he
        | some b => rw [stepL_ent r b hf he] at h; cases h
    · rw [stepL_plain r h60 h38] at h; cases h
theorem unesc_some {l q : List UInt8} {b : UInt8} (h : stepL l = some (b, q)) : unesc l = (unesc q).map (b :: ·) ∧ q.length < l.length := by
  match l, h with
  | c :: r, h =>
    by_cases h60 : c = 60
    · subst h60; rw [stepL_open] at h; cases h
    by_cases h38 : c = 38
    · subst h38
      cases hf : fromB 59 r with
      | nil => rw [stepL_short r hf] at h; cases h
      | cons x t =>
        cases he : entL (upTo 59 r) with
        | none => rw [stepL_bad r he] at h; cases h
        | some b' =>
          rw [stepL_ent r b' (by rw [hf]; simp) he, hf] at h
          obtain ⟨rfl, rfl⟩ := Prod.mk.inj (Option.some.inj h)
          have := fromB_le 59 r
          rw [hf] at this
          exact ⟨unesc_ent r _ x _ hf he, by simp at this ⊢; omega⟩
    · rw [stepL_plain r h60 h38] at h
      obtain ⟨rfl, rfl⟩ := Prod.mk.inj (Option.some.inj h)
      exact ⟨unesc_plain _ h60 h38, by simp⟩

theorem UeAt.step {l rest q acc : List UInt8} {b : UInt8} (h : UeAt l rest acc) (hs : stepL rest = some (b, q)) : UeAt l q (acc ++ [b]) := by
  obtain ⟨a, e⟩ := h
  obtain ⟨e1, e2⟩ := unesc_some hs
  refine ⟨by simp; omega, ?_⟩
  rw [e, e1, Option.map_map]
  congr 1
  funext x
  simp [Function.comp]
theorem UeAt.bad {l rest acc : List UInt8} (h : UeAt l rest acc) (hr : rest ≠ []) (hs : stepL rest = none) : unescR l = ([], false) := h.no (unesc_none hr hs)

/-- Up to the first such byte, by places. -/
theorem upTo_ne {c : UInt8} {l : List UInt8} : ∀ x ∈ upTo c l, x ≠ c := by
  induction l with
  | nil => intro x hx; simp [upTo] at hx
  | cons b l ih =>
    intro x hx
    by_cases h : b = c
    · subst h; rw [upTo_cons_eq] at hx; cases hx
    · rw [upTo_cons_ne l h] at hx
      rcases List.mem_cons.1 hx with rfl | hx
      · exact h
      · exact ih x hx
theorem upTo_end (c : UInt8) (l : List UInt8) : (upTo c l).length ≤ l.length ∧ ((upTo c l).length = l.length ↔ fromB c l = []) := by
  have e := congrArg List.length (upTo_from c l)
  rw [List.length_append] at e
  refine ⟨by omega, ?_⟩
  constructor
  · intro h; exact List.length_eq_zero_iff.1 (by omega)
  · intro h; rw [h] at e; simp at e; exact e
theorem upTo_get (c : UInt8) (l : List UInt8) (j : Nat) (hj : j < l.length) (hle : j ≤ (upTo c l).length) : l[j] = c ↔ j = (upTo c l).length := by
  have e := upTo_from c l
  constructor
  · intro h
    apply Classical.byContradiction
    intro hn
    have hj' : j < (upTo c l).length := by omega
    have h2 : l[j] = (upTo c l)[j] := by
      have : (upTo c l ++ fromB c l)[j]'(by rw [e]; exact hj) = (upTo c l)[j] := List.getElem_append_left hj'
      rw [← this]; congr 1; exact e.symm
    exact upTo_ne _ (List.getElem_mem hj') (h2.symm.trans h)
  · intro h
    cases hf : fromB c l with
    | nil =>
      have := (upTo_end c l).2.2 hf
      omega
    | cons x q =>
      have hx := fromB_head hf
      have : (upTo c l ++ fromB c l)[j]'(by rw [e]; exact hj) = x := by
        rw [List.getElem_append_right (by omega)]
        simp [h, hf]
      rw [← hx, ← this]; congr 1; exact e.symm
theorem upTo_at (s : ByteArray) (c : UInt8) (a k : Nat) (ha : a ≤ k) (hk : k < s.size) (hle : k ≤ a + (upTo c (s.data.toList.drop a)).length) : s[k] = c ↔ k = a + (upTo c (s.data.toList.drop a)).length := by
  have el : s.data.toList.length = s.size := Array.length_toList
  have h := upTo_get c (s.data.toList.drop a) (k - a) (by rw [List.length_drop]; omega) (by omega)
  have h2 : (s.data.toList.drop a)[k - a]'(by rw [List.length_drop]; omega) = s[k] := by
    rw [List.getElem_drop]
    have : a + (k - a) = k := by omega
    simp only [this]
    rfl
  rw [h2] at h
  rw [h]
  omega
theorem upTo_len (s : ByteArray) (c : UInt8) (a : Nat) (ha : a ≤ s.size) : a + (upTo c (s.data.toList.drop a)).length ≤ s.size ∧ (a + (upTo c (s.data.toList.drop a)).length = s.size ↔ fromB c (s.data.toList.drop a) = []) := by
  have el : s.data.toList.length = s.size := Array.length_toList
  obtain ⟨h1, h2⟩ := upTo_end c (s.data.toList.drop a)
  rw [List.length_drop] at h1 h2
  refine ⟨by omega, ?_⟩
  rw [← h2]
  omega
theorem extract_list (s : ByteArray) (a b : Nat) : (s.extract a b).data.toList = (s.data.toList.drop a).take (b - a) := by
  have h1 : (s.extract a b).data = s.data.extract a b := by simp
  rw [h1, Array.toList_extract]
theorem extract_upTo (s : ByteArray) (c : UInt8) (a : Nat) : (s.extract a (a + (upTo c (s.data.toList.drop a)).length)).data.toList = upTo c (s.data.toList.drop a) := by
  rw [extract_list, show a + (upTo c (s.data.toList.drop a)).length - a = (upTo c (s.data.toList.drop a)).length by omega]
  have e := upTo_from c (s.data.toList.drop a)
  generalize upTo c (s.data.toList.drop a) = p at e ⊢
  rw [← e]
  simp
theorem drop_upTo (s : ByteArray) (c : UInt8) (a : Nat) : s.data.toList.drop (a + (upTo c (s.data.toList.drop a)).length + 1) = (fromB c (s.data.toList.drop a)).tail := by
  have e := upTo_from c (s.data.toList.drop a)
  rw [Nat.add_assoc, ← List.drop_drop]
  generalize upTo c (s.data.toList.drop a) = p at e ⊢
  generalize fromB c (s.data.toList.drop a) = q at e ⊢
  rw [← e]
  simp
theorem extract_rest (s : ByteArray) (a : Nat) : (s.extract a s.size).data.toList = s.data.toList.drop a := by
  have el : s.data.toList.length = s.size := Array.length_toList
  rw [extract_list, List.take_of_length_le (by rw [List.length_drop]; omega)]
theorem drop_cons (s : ByteArray) (k : Nat) (h : k < s.size) : s.data.toList.drop k = s[k] :: s.data.toList.drop (k + 1) := by
  have e : s.data.toList.length = s.size := Array.length_toList
  rw [List.drop_eq_getElem_cons (by omega)]
  rfl
theorem drop_none (s : ByteArray) (k : Nat) (h : ¬ k < s.size) : s.data.toList.drop k = [] := by
  have e : s.data.toList.length = s.size := Array.length_toList
  exact List.drop_of_length_le (by omega)

/-- The names that stand for bytes. -/
theorem ent_amp : entL [97, 109, 112] = some 38 := by simp [entL]
theorem ent_lt : entL [108, 116] = some 60 := by simp [entL]
theorem ent_gt : entL [103, 116] = some 62 := by simp [entL]
theorem ent_quot : entL [113, 117, 111, 116] = some 34 := by simp [entL]
theorem ent_apos : entL [97, 112, 111, 115] = some 39 := by simp [entL]
def entFree (l : List UInt8) : Prop := l ≠ [97, 109, 112] ∧ l ≠ [108, 116] ∧ l ≠ [103, 116] ∧ l ≠ [113, 117, 111, 116] ∧ l ≠ [97, 112, 111, 115]
theorem ent_num {l : List UInt8} (h : entFree l) (h35 : l.head? = some 35) : entL l = if (parseNum l.tail 126).2 && decide (32 ≤ (parseNum l.tail 126).1) then some (UInt8.ofNat (decVal l.tail)) else none := by
  obtain ⟨h1, h2, h3, h4, h5⟩ := h
  unfold entL
  rw [if_neg h1, if_neg h2, if_neg h3, if_neg h4, if_neg h5, if_pos h35]
theorem ent_not {l : List UInt8} (h : entFree l) (h35 : l.head? ≠ some 35) : entL l = none := by
  obtain ⟨h1, h2, h3, h4, h5⟩ := h
  unfold entL
  rw [if_neg h1, if_neg h2, if_neg h3, if_neg h4, if_neg h5, if_neg h35]
end Go.Proofs.YtccehdlgpbeijaaGreatDoor.M
namespace Go.Proofs.YtccehdlgpbeijaaGreatDoor.M

theorem nmL_all (l : List UInt8) : ∀ x ∈ nmL l, nameP x = true := by
  induction l with
  | nil => intro x hx; simp [nmL] at hx
  | cons b l ih =>
    intro x hx
    cases h : nameP b
    · simp [nmL, h] at hx
    · have e : nmL (b :: l) = b :: nmL l := by simp [nmL, h]
      rw [e] at hx
      rcases List.mem_cons.1 hx with rfl | hx
      · exact h
      · exact ih x hx
theorem nmR_head {l q : List UInt8} {c : UInt8} (h : nmR l = c :: q) : nameP c = false := by
  induction l with
  | nil => simp [nmR] at h
  | cons b l ih =>
    cases hb : nameP b
    · have e : nmR (b :: l) = b :: l := by simp [nmR, hb]
      rw [e] at h
      rw [← (List.cons.inj h).1]; exact hb
    · have e : nmR (b :: l) = nmR l := by simp [nmR, hb]
      rw [e] at h
      exact ih h
theorem nm_len (l : List UInt8) : (nmL l).length + (nmR l).length = l.length := by
  have := congrArg List.length (nm_from l)
  rwa [List.length_append] at this
theorem nm_get (l : List UInt8) (j : Nat) (hj : j < l.length) (hle : j ≤ (nmL l).length) : nameP l[j] = decide (j < (nmL l).length) := by
  have e := nm_from l
  by_cases h : j < (nmL l).length
  · rw [decide_eq_true h]
    have h2 : l[j] = (nmL l)[j] := by
      have : (nmL l ++ nmR l)[j]'(by rw [e]; exact hj) = (nmL l)[j] := List.getElem_append_left h
      rw [← this]; congr 1; exact e.symm
    rw [h2]
    exact nmL_all l _ (List.getElem_mem h)
  · rw [decide_eq_false h]
    cases hf : nmR l with
    | nil =>
      have := nm_len l
      rw [hf] at this
      simp at this
      omega
    | cons x q =>
      have : (nmL l ++ nmR l)[j]'(by rw [e]; exact hj) = x := by
        rw [List.getElem_append_right (by omega)]
        have hj0 : j - (nmL l).length = 0 := by omega
        simp [hj0, hf]
      have h2 : l[j] = x := by rw [← this]; congr 1; exact e.symm
      rw [h2]
      exact nmR_head hf
theorem nm_at (s : ByteArray) (a k : Nat) (ha : a ≤ k) (hk : k < s.size) (hle : k ≤ a + (nmL (s.data.toList.drop a)).length) : nameP s[k] = decide (k < a + (nmL (s.data.toList.drop a)).length) := by
  have el : s.data.toList.length = s.size := Array.length_toList
  have h := nm_get (s.data.toList.drop a) (k - a) (by rw [List.length_drop]; omega) (by omega)
  have h2 : (s.data.toList.drop a)[k - a]'(by rw [List.length_drop]; omega) = s[k] := by
    rw [List.getElem_drop]
    have : a + (k - a) = k := by omega
    simp only [this]
    rfl
  rw [h2] at h
  rw [h, Bool.eq_iff_iff]
  simp
  omega
theorem nm_take (s : ByteArray) (a : Nat) : (s.extract a (a + (nmL (s.data.toList.drop a)).length)).data.toList = nmL (s.data.toList.drop a) := by
  rw [extract_list, show a + (nmL (s.data.toList.drop a)).length - a = (nmL (s.data.toList.drop a)).length by omega]
  have e := nm_from (s.data.toList.drop a)
  generalize nmL (s.data.toList.drop a) = p at e ⊢
  rw [← e]
  simp
theorem nm_drop (s : ByteArray) (a : Nat) : s.data.toList.drop (a + (nmL (s.data.toList.drop a)).length) = nmR (s.data.toList.drop a) := by
  have e := nm_from (s.data.toList.drop a)
  rw [← List.drop_drop]
  generalize nmL (s.data.toList.drop a) = p at e ⊢
  generalize nmR (s.data.toList.drop a) = q at e ⊢
  rw [← e]
  simp
theorem nm_size (s : ByteArray) (a : Nat) (ha : a ≤ s.size) : a + (nmL (s.data.toList.drop a)).length ≤ s.size := by
  have el : s.data.toList.length = s.size := Array.length_toList
  have h := nm_len (s.data.toList.drop a)
  rw [List.length_drop] at h
  omega

/-- Pieces as they are read. -/
def CanonP (p : Pce) : Prop :=
  ((p.k = 1 ∨ p.k = 3) ∧ p.s = noB) ∨ (p.k = 2 ∧ p.ns = noB ∧ p.has = false ∧ p.s = noB) ∨ (p.k = 4 ∧ p.name = noB ∧ p.ns = noB ∧ p.has = false)
theorem markL_canon {l q : List UInt8} {p : Pce} (h : markL l = some (p, q)) : CanonP p := by
  unfold markL at h
  split at h
  · unfold closeL at h
    split at h
    · obtain ⟨rfl, _⟩ := Prod.mk.inj (Option.some.inj h)
      exact .inr (.inl ⟨rfl, rfl, rfl, rfl⟩)
    · cases h
  split at h
  · unfold openL at h
    split at h
    · split at h
      · unfold endM at h
        split at h
        · obtain ⟨rfl, _⟩ := Prod.mk.inj (Option.some.inj h)
          exact .inl ⟨.inr rfl, rfl⟩
        split at h
        · obtain ⟨rfl, _⟩ := Prod.mk.inj (Option.some.inj h)
          exact .inl ⟨.inl rfl, rfl⟩
        · cases h
      · cases h
    · cases h
  · unfold textL7 at h
    split at h
    · obtain ⟨rfl, _⟩ := Prod.mk.inj (Option.some.inj h)
      exact .inr (.inr ⟨rfl, rfl, rfl, rfl⟩)
    · cases h
end Go.Proofs.YtccehdlgpbeijaaGreatDoor.M
namespace Go.Proofs.YtccehdlgpbeijaaGreatDoor.M

theorem is_u8 (c d : UInt8) (z : Int) (hz : z = (d.toNat : Int)) : ((c.toNat : Int) == z) = decide (c = d) := by
  subst hz
  by_cases h : c = d
  · subst h; simp
  · rw [decide_eq_false h, beq_eq_false_iff_ne]
    exact fun e => h (UInt8.toNat_inj.1 (by omega))
theorem isn_u8 (c d : UInt8) (z : Int) (hz : z = (d.toNat : Int)) : ((c.toNat : Int) != z) = !decide (c = d) := by
  show (!((c.toNat : Int) == z)) = _
  rw [is_u8 c d z hz]


theorem eq_bytes (s : ByteArray) (l : List UInt8) : decide (s = ⟨l.toArray⟩) = decide (s.data.toList = l) := by
  by_cases h : s.data.toList = l
  · rw [decide_eq_true h, decide_eq_true]
    apply ByteArray.ext
    rw [← h]
  · rw [decide_eq_false h, decide_eq_false]
    intro e; exact h (by rw [e])
end Go.Proofs.YtccehdlgpbeijaaGreatDoor.M
namespace Go.Proofs.YtccehdlgpbeijaaGreatDoor
open Go.RowKit M

set_option maxHeartbeats 400000 in
theorem l1In_any (x a b : Int) (w : World) :
    Calls Tryz.prog 75 #[.int .i64 x, .int .i64 a, .int .i64 b] w fun e w' => e = .returned (.bool (inB x a b)) ∧ w' = w := by
  go_enter Tryz.func75, Tryz.ntmps75
  go_wp2
  all_goals
    go_ret
    refine ⟨ret_bool ?_, rfl⟩
    go_light
    unfold inB
    simp_all
    try omega

theorem wrap64_u8 (c : UInt8) : wrap64 (c.toNat : Int) = c.toNat := by
  have := c.toNat_lt
  unfold wrap64
  omega
end Go.Proofs.YtccehdlgpbeijaaGreatDoor
namespace Go.Proofs.YtccehdlgpbeijaaGreatDoor
open Go.RowKit M

set_option maxHeartbeats 400000 in
theorem l1Digit_any (c : UInt8) (w : World) :
    Calls Tryz.prog 83 #[.int .u8 c.toNat] w fun e w' => e = .returned (.bool (isB c.toNat 4)) ∧ w' = w := by
  go_enter Tryz.func83, Tryz.ntmps83
  go_wp2_with (go_at_call 75; refine (l1In_any _ _ _ _).mono ?_; rintro e w' ⟨rfl, rfl⟩; rw [wrap64_u8, inB_digit])
  go_ret
  exact ⟨rfl, rfl⟩
end Go.Proofs.YtccehdlgpbeijaaGreatDoor
namespace Go.Proofs.YtccehdlgpbeijaaGreatDoor
open Go.RowKit M

set_option maxHeartbeats 400000 in
theorem l1Small_any (c : UInt8) (w : World) :
    Calls Tryz.prog 82 #[.int .u8 c.toNat] w fun e w' => e = .returned (.bool (isB c.toNat 2)) ∧ w' = w := by
  go_enter Tryz.func82, Tryz.ntmps82
  go_wp2_with (go_at_call 75; refine (l1In_any _ _ _ _).mono ?_; rintro e w' ⟨rfl, rfl⟩; rw [wrap64_u8, inB_small])
  go_ret
  exact ⟨rfl, rfl⟩

set_option maxHeartbeats 1000000 in
theorem specSmallName_any (s : ByteArray) (w : World) (hs : s.size ≤ maxLen) :
    Calls Tryz.prog 60 #[.string s] w fun e w' => e = .returned (.bool (smB s.data.toList)) ∧ w' = w := by
  unfold maxLen at hs
  go_enter Tryz.func60, Tryz.ntmps60
  go_wp2
  go_loop [3] (fun i => ∃ k : Nat, k ≤ s.size ∧ i = .int .i64 k ∧ ∀ j (hj : j < s.size), j < k → okAt j (s[j].toNat : Int) = true) (fun i => s.size - (intOf i).toNat)
  case atStart => exact ⟨0, Nat.zero_le _, rfl, fun _ _ h => absurd h (Nat.not_lt_zero _)⟩
  case round =>
    obtain ⟨k, hk, rfl, hn⟩ := hrel
    have HN : Hid (∀ j (hj : j < s.size), j < k → okAt j (s[j].toNat : Int) = true) := hn; clear hn
    by_cases hlt : k < s.size
    · have hnext : okAt k (s[k].toNat : Int) = true → ∀ j (hj : j < s.size), j < k + 1 → okAt j (s[j].toNat : Int) = true := by
        intro ho j hj hjk
        by_cases e : j = k
        · subst e; exact ho
        · exact HN.out j hj (by omega)
      have HX : Hid (okAt k (s[k].toNat : Int) = true → ∀ j (hj : j < s.size), j < k + 1 → okAt j (s[j].toNat : Int) = true) := hnext
      clear hnext
      go_wp2_with (first | (go_at_call 82; refine (l1Small_any _ _).mono ?_; rintro e w' ⟨rfl, rfl⟩) | (go_at_call 83; refine (l1Digit_any _ _).mono ?_; rintro e w' ⟨rfl, rfl⟩))
      · go_round
        case rel => exact ⟨k + 1, by omega, by go_num, HX.out (ok1 (by assumption))⟩
        case measure => simp [intOf]; omega
      · go_ret
        exact ⟨ret_bool (smB_not s k hlt (no2 (by assumption) (by assumption))).symm, rfl⟩
      · go_round
        case rel => exact ⟨k + 1, by omega, by go_num, HX.out (ok3 (by assumption) (by assumption))⟩
        case measure => simp [intOf]; omega
      · go_ret
        exact ⟨ret_bool (smB_not s k hlt (no4 (by assumption) (by assumption) (by assumption) (by assumption))).symm, rfl⟩
      · go_round
        case rel => exact ⟨k + 1, by omega, by go_num, HX.out (ok5 (by assumption) (by assumption))⟩
        case measure => simp [intOf]; omega
    · go_wp2_with (go_at_call 75; refine (l1In_any _ _ _ _).mono ?_; rintro e w' ⟨rfl, rfl⟩)
      go_ret
      exact ⟨ret_bool (by rw [smB_all s (fun i hi => HN.out i hi (by omega))]), rfl⟩
end Go.Proofs.YtccehdlgpbeijaaGreatDoor
namespace Go.Proofs.YtccehdlgpbeijaaGreatDoor
open Go.RowKit M
set_option linter.unusedVariables false

theorem eqL3 (s : ByteArray) (l : List UInt8) : (s.toList == l) = decide (s.data.toList = l) := by
  rw [ByteArray.toList_eq, Bool.eq_iff_iff]; simp
theorem isPre_take (p l : List UInt8) : p.isPrefixOf l = decide (l.take p.length = p) := by
  rw [Bool.eq_iff_iff]
  simp only [List.isPrefixOf_iff_prefix, decide_eq_true_eq]
  constructor
  · rintro ⟨t, rfl⟩; simp
  · intro h
    refine ⟨l.drop p.length, ?_⟩
    have h2 := List.take_append_drop p.length l
    rw [h] at h2
    exact h2

set_option maxHeartbeats 1000000 in
theorem l7At_no (s t : ByteArray) (a : Nat) (w : World) (ha : a ≤ s.size) (hs : s.size ≤ 1099511627776) (ht : t.size ≤ 100) (h : ¬ a + t.size ≤ s.size) :
    Calls Tryz.prog 76 #[.string s, .int .i64 a, .string t] w fun e w' => e = .returned (.bool false) ∧ w' = w := by
  have h' : ¬ (a : Int) + t.size ≤ s.size := by omega
  go_enter Tryz.func76, Tryz.ntmps76
  go_wp2
  go_ret
  exact ⟨rfl, rfl⟩
set_option maxHeartbeats 1000000 in
theorem l7At_yes (s t : ByteArray) (a : Nat) (w : World) (ha : a ≤ s.size) (hs : s.size ≤ 1099511627776) (ht : t.size ≤ 100) (h : a + t.size ≤ s.size) :
    Calls Tryz.prog 76 #[.string s, .int .i64 a, .string t] w fun e w' => e = .returned (.bool (t.data.toList.isPrefixOf (s.data.toList.drop a))) ∧ w' = w := by
  have h' : (a : Int) + t.size ≤ s.size := by omega
  go_enter Tryz.func76, Tryz.ntmps76
  go_wp2
  go_ret
  refine ⟨ret_bool ?_, rfl⟩
  have e : t.data.toList.length = t.size := Array.length_toList
  rw [eqL3, isPre_take, extract_list, ByteArray.toList_eq, e, show a + t.size - a = t.size by omega]

theorem l7At_any (s t : ByteArray) (p : List UInt8) (hp : t.data.toList = p) (a : Nat) (w : World) (ha : a ≤ s.size) (hs : s.size ≤ 1099511627776) (ht : t.size ≤ 100) :
    Calls Tryz.prog 76 #[.string s, .int .i64 a, .string t] w fun e w' => e = .returned (.bool (p.isPrefixOf (s.data.toList.drop a))) ∧ w' = w := by
  subst hp
  by_cases h : a + t.size ≤ s.size
  · exact l7At_yes s t a w ha hs ht h
  · have e1 : t.data.toList.length = t.size := Array.length_toList
    have e2 : s.data.toList.length = s.size := Array.length_toList
    have : t.data.toList.isPrefixOf (s.data.toList.drop a) = false := by
      rw [isPre_take, decide_eq_false]
      intro e
      have := congrArg List.length e
      rw [List.length_take, List.length_drop] at this
      omega
    rw [this]
    exact l7At_no s t a w ha hs ht h

set_option maxHeartbeats 2000000 in
theorem l7Name_any (s : ByteArray) (a : Nat) (w : World) (ha : a ≤ s.size) (hs : s.size ≤ 1099511627776) :
    Calls Tryz.prog 77 #[.string s, .int .i64 a] w fun e w' => e = .returned (.int .i64 ((a + (nmL (s.data.toList.drop a)).length : Nat) : Int)) ∧ w' = w := by
  have HA := hide (fun k h1 h2 h3 => nm_at s a k h1 h2 h3)
  have hZ := nm_size s a ha
  obtain ⟨m, hm⟩ : ∃ m, a + (nmL (s.data.toList.drop a)).length = m := ⟨_, rfl⟩
  rw [hm] at HA hZ
  rw [hm]
  have ham : a ≤ m := by omega
  clear hm
  go_enter Tryz.func77, Tryz.ntmps77
  go_wp2
  go_loop [1] (fun i => ∃ k : Nat, a ≤ k ∧ k ≤ m ∧ i = .int .i64 k) (fun i => m - (intOf i).toNat)
  case atStart => exact ⟨a, Nat.le_refl _, ham, rfl⟩
  case round =>
    obtain ⟨k, hk1, hk2, rfl⟩ := hrel
    by_cases hks : k < s.size
    · have hks' : (k : Int) < s.size := by omega
      have hk0 : (0 : Int) ≤ k := by omega
      have hn := HA.out k hk1 hks hk2
      have hn' : (isB (s[k].toNat : Int) 2 || (isB (s[k].toNat : Int) 4 || (s[k].toNat : Int) == 45)) = decide (k < m) := by rw [← anyB_3]; exact hn
      clear hn
      by_cases hkm : k < m
      · rw [decide_eq_true hkm] at hn'
        cases q2 : isB (s[k].toNat : Int) 2
        · cases q4 : isB (s[k].toNat : Int) 4
          · have q7 : ((s[k].toNat : Int) == 45) = true := by rw [q2, q4] at hn'; simpa using hn'
            clear hn'
            go_wp2_with (first | (go_at_call 82; refine (l1Small_any _ _).mono ?_; rintro e w1 ⟨rfl, hw⟩; obtain rfl := hw.symm; rw [q2]) | (go_at_call 83; refine (l1Digit_any _ _).mono ?_; rintro e w1 ⟨rfl, hw⟩; obtain rfl := hw.symm; rw [q4]))
            go_round
            case rel => exact ⟨k + 1, by omega, by omega, by go_num⟩
            case measure => simp [intOf]; omega
          · clear hn'
            go_wp2_with (first | (go_at_call 82; refine (l1Small_any _ _).mono ?_; rintro e w1 ⟨rfl, hw⟩; obtain rfl := hw.symm; rw [q2]) | (go_at_call 83; refine (l1Digit_any _ _).mono ?_; rintro e w1 ⟨rfl, hw⟩; obtain rfl := hw.symm; rw [q4]))
            go_round
            case rel => exact ⟨k + 1, by omega, by omega, by go_num⟩
            case measure => simp [intOf]; omega
        · clear hn'
          go_wp2_with (go_at_call 82; refine (l1Small_any _ _).mono ?_; rintro e w1 ⟨rfl, hw⟩; obtain rfl := hw.symm; rw [q2])
          go_round
          case rel => exact ⟨k + 1, by omega, by omega, by go_num⟩
          case measure => simp [intOf]; omega
      · rw [decide_eq_false hkm] at hn'
        obtain ⟨q2, q4, q7⟩ : isB (s[k].toNat : Int) 2 = false ∧ isB (s[k].toNat : Int) 4 = false ∧ ((s[k].toNat : Int) == 45) = false := by
          rw [Bool.or_eq_false_iff, Bool.or_eq_false_iff] at hn'
          exact hn'
        obtain rfl : k = m := by omega
        clear hn'
        go_wp2_with (first | (go_at_call 82; refine (l1Small_any _ _).mono ?_; rintro e w1 ⟨rfl, hw⟩; obtain rfl := hw.symm; rw [q2]) | (go_at_call 83; refine (l1Digit_any _ _).mono ?_; rintro e w1 ⟨rfl, hw⟩; obtain rfl := hw.symm; rw [q4]))
        go_ret
        exact ⟨rfl, rfl⟩
    · obtain rfl : k = m := by omega
      have hks' : ¬ (k : Int) < s.size := by omega
      go_wp2
      go_ret
      exact ⟨rfl, rfl⟩
end Go.Proofs.YtccehdlgpbeijaaGreatDoor
namespace Go.Proofs.YtccehdlgpbeijaaGreatDoor
open Go.RowKit

theorem ret_str {l m : List UInt8} (h : l = m) : Ending.returned (.string ⟨l.toArray⟩) = .returned (.string ⟨m.toArray⟩) := by rw [h]

/-- 'string(b)' of a row of bytes that the call owns: its bytes; the world is as it was. -/
theorem conv_own {w : World} {B n : Nat} {v : Value} {l : List UInt8} (h : w.ownsRow B 5 1 v n (Lib.byteCells l)) :
    (convert 22 9 v).run Tryz.prog w = .ok (.string ⟨l.toArray⟩) w := by
  have hn : n = l.length := by have := h.1; rw [Lib.byteCells_length] at this; omega
  subst hn
  rcases h.2 with ⟨rfl, h0⟩ | ⟨g, cap, cur, rfl, _, hg, _, _, _, htk⟩
  · have : l = [] := List.length_eq_zero_iff.1 h0
    subst this
    exact run_convert_bytes_nil w 22 5 Tryz.underlying22 Tryz.underlying5 0 0 9 Tryz.underlying9
  · refine run_convert_bytes_back w 22 9 5 _ cap l Tryz.underlying22 Tryz.underlying5 Tryz.underlying9 ?_
    intro j hj
    exact h.cells (g := g) rfl j _ (by simp [Lib.byteCells, List.getElem?_eq_getElem hj])

/-- What grew by writes to a row that the call owns is as it was below. -/
theorem below_grown {w w' : World} {B n : Nat} {e : TypeId} {v : Value} {xs : List Value} (h : w.ownsRow B e 1 v n xs) (hB : B ≤ w.heap.size) (hg : w.grownBy w' v.ownBlock) : Below B w w' :=
  ⟨hg.os, hg.tape, hg.output, hg.size, fun k hk => hg.block k (Nat.lt_of_lt_of_le hk hB) (fun e => by have := h.lt k e.symm; omega)⟩

theorem info_byte : (Tryz.prog.info? 5).map (fun i => (i.zero, i.size, i.bytes)) = some (some (.int .u8 0), 1, 1) := by kernel_rfl

/-- 'b = append(b, c)' on a row of bytes that the call owns. -/
theorem wp_append_byte {w : World} {ops : Array Oper} {rest : List Oper} {o : Oper} {a : Act} {Q : Exit → Act → World → Prop} (hgd : o.guard = none) (s x : Operand)
    (ho : o.op = .call { callee := .builtin .append, args := #[s, x], argTypes := #[22, 22] })
    (B : Nat) (v : Value) (n : Nat) (l : List UInt8) (hs : a.eval s = v) (hown : w.ownsRow B 5 1 v n (Lib.byteCells l))
    (ad : Addr) (c : UInt8) (hx : a.eval x = .slice (some ad) 1 1) (hcell : w.cell? ad = some (.int .u8 c.toNat)) (hlen : n + 1 ≤ 140737488355328) (hB : B ≤ w.heap.size)
    (h : ∀ v' w', w'.ownsRow B 5 1 v' (n + 1) (Lib.byteCells (l ++ [c])) → Below B w w' → wpList Tryz.prog ops Q rest (a.put o.dst v') w') : wpList Tryz.prog ops Q (o :: rest) a w := by
  obtain ⟨i0, hi, hz0, hz1, hz2⟩ := info_parts info_byte
  refine wpList_append_own w hgd s x 22 ho B 5 i0 (.int .u8 0) 1 1 Tryz.underlying22 hi hz0 hz1 hz2 rfl (by decide) v n _ hs hown ad 1 1 [.int .u8 c.toNat] hx rfl ?_ ?_ ?_ ?_ hB ?_
  · intro j u hj
    match j, hj with
    | 0, hj =>
      simp at hj; subst hj
      have : ad.add 0 = ad := by unfold Addr.add; split <;> simp_all
      rw [this]; exact hcell
  · intro u hu; simp at hu; subst hu; rfl
  · unfold maxLen; omega
  · omega
  · intro v' w' ho' hg _
    refine h v' w' ?_ (below_grown hown hB hg)
    rw [Lib.byteCells_append]
    exact ho'

/-- A row of bytes in block N, none of them frozen. -/
def RowAt (w : World) (N : Nat) (l : List UInt8) : Prop := ∀ j (hj : j < l.length), w.cell? ⟨N, j, none⟩ = some (.int .u8 l[j].toNat) ∧ w.frozen? ⟨N, j, none⟩ = false

theorem RowAt.alloc {w : World} {N : Nat} {l : List UInt8} (h : RowAt w N l) (hN : N < w.heap.size) (o : Obj) : RowAt (w.alloc o) N l := fun j hj =>
  ⟨(World.cell?_alloc_past o N j hN).trans (h j hj).1, (World.frozen?_alloc_past o N j hN).trans (h j hj).2⟩

theorem RowAt.set {w : World} {N : Nat} {l : List UInt8} (h : RowAt w N l) (k : Nat) (hk : k < l.length) (c : UInt8) : RowAt (w.setCell ⟨N, k, none⟩ (.int .u8 c.toNat)) N (l.set k c) := by
  intro j hj
  have hj' : j < l.length := by simpa using hj
  refine ⟨?_, by rw [World.frozen?_setCell]; exact (h j hj').2⟩
  by_cases e : k = j
  · subst e
    rw [World.cell?_setCell_same _ _ _ (h k hk).1]
    simp
  · have hne : (⟨N, k, none⟩ : Addr) ≠ ⟨N, j, none⟩ := fun e' => e (congrArg Addr.off e')
    rw [World.cell?_setCell_other _ _ _ _ hne, (h j hj').1]
    simp [e]

/-- 'string(b)' of such a row. -/
theorem conv_row {w : World} {N n cap : Nat} {l : List UInt8} (h : RowAt w N l) (hn : l.length = n) :
    (convert 22 9 (.slice (some ⟨N, 0, none⟩) n cap)).run Tryz.prog w = .ok (.string ⟨l.toArray⟩) w := by
  subst hn
  refine run_convert_bytes_back w 22 9 5 _ cap l Tryz.underlying22 Tryz.underlying5 Tryz.underlying9 ?_
  intro j hj
  have : (⟨N, 0, none⟩ : Addr).add j = ⟨N, j, none⟩ := by
    unfold Addr.add; split <;> simp_all
  rw [this]; exact (h j hj).1

/-- 'string(b)' of the end of such a row. -/
theorem conv_at {w : World} {N o n cap : Nat} {pre l : List UInt8} (h : RowAt w N (pre ++ l)) (ho : pre.length = o) (hn : l.length = n) :
    (convert 22 9 (.slice (some ⟨N, o, none⟩) n cap)).run Tryz.prog w = .ok (.string ⟨l.toArray⟩) w := by
  subst hn ho
  refine run_convert_bytes_back w 22 9 5 _ cap l Tryz.underlying22 Tryz.underlying5 Tryz.underlying9 ?_
  intro j hj
  have e : (⟨N, pre.length, none⟩ : Addr).add j = ⟨N, pre.length + j, none⟩ := by
    unfold Addr.add; split <;> simp_all
  rw [e, (h (pre.length + j) (by simp; omega)).1]
  simp

end Go.Proofs.YtccehdlgpbeijaaGreatDoor
namespace Go.Proofs.YtccehdlgpbeijaaGreatDoor
open Go.RowKit

theorem ret_two {a b : Int} {x y : Bool} (h : (a, x) = (b, y)) : Ending.returned (.tuple #[.int .i64 a, .bool x]) = .returned (.tuple #[.int .i64 b, .bool y]) := by
  cases h; rfl

theorem below_bytes (w : World) (e : TypeId) (s : ByteArray) : Below w.heap.size w (Lib.bytesWorld w e s) :=
  ⟨rfl, rfl, rfl, by rw [Lib.bytesWorld_size]; omega, fun k hk => Lib.bytesWorld_at_old w e s k hk⟩

theorem ret_int {k : IntKind} {a b : Int} (h : a = b) : Ending.returned (.int k a) = .returned (.int k b) := by rw [h]
end Go.Proofs.YtccehdlgpbeijaaGreatDoor
namespace Go.Proofs.YtccehdlgpbeijaaGreatDoor
open Go.RowKit M

set_option maxHeartbeats 1000000 in
theorem specParseNum_any (s : ByteArray) (most : Int) (w : World) (hs : s.size ≤ maxLen) :
    Calls Tryz.prog 92 #[.string s, .int .i64 most] w fun e w' => e = .returned (.tuple #[.int .i64 (parseNum s.data.toList most).1, .bool (parseNum s.data.toList most).2]) ∧ w' = w := by
  have ell := len_list s
  have EL : Hid (s.data.toList.length = s.size) := ell
  clear ell
  unfold maxLen at hs
  go_enter Tryz.func92, Tryz.ntmps92
  go_wp2
  go_loop [6, 7] (fun n i => ∃ k : Nat, k ≤ s.size ∧ k ≤ 8 ∧ i = .int .i64 k ∧ n = .int .i64 (decVal (s.data.toList.take k)) ∧ digs (s.data.toList.take k) = true) (fun _ i => s.size - (intOf i).toNat)
  case atStart => exact ⟨0, Nat.zero_le _, Nat.zero_le _, rfl, rfl, rfl⟩
  case round =>
    obtain ⟨k, hk, hk8, rfl, rfl, hn⟩ := hrel
    have HN : Hid (digs (s.data.toList.take k) = true) := hn
    have hv : decVal (s.data.toList.take k) < 100000000 := by
      have h1 := decVal_lt _ hn
      have h2 : (s.data.toList.take k).length ≤ k := List.length_take_le _ _
      have h3 := Nat.pow_le_pow_right (show 0 < 10 by decide) h2
      have h4 := pow_le8 hk8
      omega
    clear hn
    by_cases hlt : k < s.size
    · by_cases hl8 : k < 8
      · cases hb : isB ((s[k]).toNat : Int) 4
        · go_wp2_with (go_at_call 83; refine (l1Digit_any _ _).mono ?_; rintro e w' ⟨rfl, rfl⟩; rw [hb])
          go_ret2
          refine ⟨ret_two ?_, rfl⟩
          rw [parseNum_no (not_digs (digs_not s k hlt hb))]
        · have hc := isB4 hb
          have HV : Hid (decVal (s.data.toList.take (k + 1)) = decVal (s.data.toList.take k) * 10 + (s[k].toNat - 48)) := decVal_step s k hlt
          generalize decVal (s.data.toList.take k) = v at *
          go_wp2_with (go_at_call 83; refine (l1Digit_any _ _).mono ?_; rintro e w' ⟨rfl, rfl⟩; rw [hb])
          go_round
          case rel =>
            refine ⟨k + 1, by omega, by omega, by go_num, ?_, digs_snoc s k hlt HN.out hb⟩
            rw [HV.out]
            congr 1
            omega
          case measure => simp [intOf]; omega
      · have hin : inB (s.size : Int) 1 7 = false := by simp [inB]; omega
        go_wp2_with (go_at_call 75; refine (l1In_any _ _ _ _).mono ?_; rintro e w' ⟨rfl, rfl⟩; rw [hin])
        go_ret2
        exact ⟨ret_two (by rw [parseNum_no (not_size hin)]), rfl⟩
    · have HD : Hid (digs s.data.toList = true) := by
        have := HN.out
        rwa [take_all s k hlt] at this
      rw [take_all s k hlt] at hv ⊢
      cases hin : inB (s.size : Int) 1 7
      · go_wp2_with (go_at_call 75; refine (l1In_any _ _ _ _).mono ?_; rintro e w' ⟨rfl, rfl⟩; rw [hin])
        go_ret2
        exact ⟨ret_two (by rw [parseNum_no (not_size hin)]), rfl⟩
      · have h0 : 0 < s.size := by simp [inB] at hin; omega
        have hk1 : ¬ (k : Int) < s.size := by omega
        by_cases h1 : 1 < s.size
        · have h1' : (1 : Int) < s.size := by omega
          cases hz : (((s[0]).toNat : Int) == 48)
          · by_cases hm : most < (decVal s.data.toList : Int)
            · have HP := parseNum_no (not_most hm)
              have HQ : Hid (parseNum s.data.toList most = (0, false)) := HP
              clear HP
              go_wp2_with (go_at_call 75; refine (l1In_any _ _ _ _).mono ?_; rintro e w' ⟨rfl, rfl⟩; rw [hin])
              go_ret2
              exact ⟨ret_two (by rw [HQ.out]), rfl⟩
            · have HQ : Hid (parseNum s.data.toList most = ((decVal s.data.toList : Int), true)) := parseNum_yes (is_ok h0 hin HD.out (fun _ => hz) hm)
              go_wp2_with (go_at_call 75; refine (l1In_any _ _ _ _).mono ?_; rintro e w' ⟨rfl, rfl⟩; rw [hin])
              go_ret2
              exact ⟨ret_two (by rw [HQ.out]), rfl⟩
          · have HQ : Hid (parseNum s.data.toList most = (0, false)) := parseNum_no (not_nought h0 h1 hz)
            go_wp2_with (go_at_call 75; refine (l1In_any _ _ _ _).mono ?_; rintro e w' ⟨rfl, rfl⟩; rw [hin])
            go_ret2
            exact ⟨ret_two (by rw [HQ.out]), rfl⟩
        · have h1' : ¬ (1 : Int) < s.size := by omega
          by_cases hm : most < (decVal s.data.toList : Int)
          · have HQ : Hid (parseNum s.data.toList most = (0, false)) := parseNum_no (not_most hm)
            go_wp2_with (go_at_call 75; refine (l1In_any _ _ _ _).mono ?_; rintro e w' ⟨rfl, rfl⟩; rw [hin])
            go_ret2
            exact ⟨ret_two (by rw [HQ.out]), rfl⟩
          · have HQ : Hid (parseNum s.data.toList most = ((decVal s.data.toList : Int), true)) := parseNum_yes (is_ok h0 hin HD.out (fun h => absurd h h1) hm)
            go_wp2_with (go_at_call 75; refine (l1In_any _ _ _ _).mono ?_; rintro e w' ⟨rfl, rfl⟩; rw [hin])
            go_ret2
            exact ⟨ret_two (by rw [HQ.out]), rfl⟩
end Go.Proofs.YtccehdlgpbeijaaGreatDoor
namespace Go.Proofs.YtccehdlgpbeijaaGreatDoor
open Go.RowKit M
set_option linter.unusedVariables false

/-- The byte that a name stands for, as a number; -1: none. -/
def entZ (l : List UInt8) : Int := match entL l with | some c => (c.toNat : Int) | none => -1
theorem entZ_some {l : List UInt8} {c : UInt8} (h : entL l = some c) : entZ l = (c.toNat : Int) := by unfold entZ; rw [h]
theorem entZ_none {l : List UInt8} (h : entL l = none) : entZ l = -1 := by unfold entZ; rw [h]
theorem eqL2 (s : ByteArray) (l : List UInt8) : (s.toList == l) = decide (s.data.toList = l) := by
  rw [ByteArray.toList_eq, Bool.eq_iff_iff]; simp
theorem ret_int7 {a b : Int} (h : a = b) : Ending.returned (.int .i64 a) = .returned (.int .i64 b) := by rw [h]

set_option maxRecDepth 100000 in
set_option maxHeartbeats 2000000 in
theorem l7Entity_any (s : ByteArray) (w : World) (hs : s.size ≤ maxLen) :
    Calls Tryz.prog 78 #[.string s] w fun e w' => e = .returned (.int .i64 (entZ s.data.toList)) ∧ w' = w := by
  have el : s.data.toList.length = s.size := Array.length_toList
  have hsm := hs
  unfold maxLen at hs
  have e1 := eqL2 s [97, 109, 112]
  have e2 := eqL2 s [108, 116]
  have e3 := eqL2 s [103, 116]
  have e4 := eqL2 s [113, 117, 111, 116]
  have e5 := eqL2 s [97, 112, 111, 115]
  by_cases h1 : s.data.toList = [97, 109, 112]
  · have HE := hide (show (38 : Int) = entZ s.data.toList by rw [h1, entZ_some ent_amp]; rfl)
    rw [decide_eq_true h1] at e1
    clear h1 e2 e3 e4 e5 el
    go_enter Tryz.func78, Tryz.ntmps78
    go_wp2
    go_ret
    exact ⟨ret_int7 HE.out, rfl⟩
  rw [decide_eq_false h1] at e1
  by_cases h2 : s.data.toList = [108, 116]
  · have HE := hide (show (60 : Int) = entZ s.data.toList by rw [h2, entZ_some ent_lt]; rfl)
    rw [decide_eq_true h2] at e2
    clear h1 h2 e3 e4 e5 el
    go_enter Tryz.func78, Tryz.ntmps78
    go_wp2
    go_ret
    exact ⟨ret_int7 HE.out, rfl⟩
  rw [decide_eq_false h2] at e2
  by_cases h3 : s.data.toList = [103, 116]
  · have HE := hide (show (62 : Int) = entZ s.data.toList by rw [h3, entZ_some ent_gt]; rfl)
    rw [decide_eq_true h3] at e3
    clear h1 h2 h3 e4 e5 el
    go_enter Tryz.func78, Tryz.ntmps78
    go_wp2
    go_ret
    exact ⟨ret_int7 HE.out, rfl⟩
  rw [decide_eq_false h3] at e3
  by_cases h4 : s.data.toList = [113, 117, 111, 116]
  · have HE := hide (show (34 : Int) = entZ s.data.toList by rw [h4, entZ_some ent_quot]; rfl)
    rw [decide_eq_true h4] at e4
    clear h1 h2 h3 h4 e5 el
    go_enter Tryz.func78, Tryz.ntmps78
    go_wp2
    go_ret
    exact ⟨ret_int7 HE.out, rfl⟩
  rw [decide_eq_false h4] at e4
  by_cases h5 : s.data.toList = [97, 112, 111, 115]
  · have HE := hide (show (39 : Int) = entZ s.data.toList by rw [h5, entZ_some ent_apos]; rfl)
    rw [decide_eq_true h5] at e5
    clear h1 h2 h3 h4 h5 el
    go_enter Tryz.func78, Tryz.ntmps78
    go_wp2
    go_ret
    exact ⟨ret_int7 HE.out, rfl⟩
  rw [decide_eq_false h5] at e5
  have hfree : entFree s.data.toList := ⟨h1, h2, h3, h4, h5⟩
  clear h1 h2 h3 h4 h5
  by_cases hl1 : 1 < s.size
  · have hl1' : (1 : Int) < s.size := by omega
    have hl0 : 0 < s.size := by omega
    have hl0' : (0 : Int) < s.size := by omega
    have hl2' : (1 : Int) ≤ s.size := by omega
    have hc := drop_cons s 0 hl0
    rw [List.drop_zero] at hc
    have e6 := is_u8 s[0] 35 35 rfl
    by_cases h35 : s[0] = 35
    · rw [decide_eq_true h35] at e6
      have hent := ent_num hfree (by rw [hc, h35]; rfl)
      obtain ⟨t, ht⟩ : ∃ t : ByteArray, s.extract 1 s.size = t := ⟨_, rfl⟩
      have htl : t.data.toList = s.data.toList.tail := by rw [← ht, extract_rest s 1, List.drop_one]
      have hts : t.size ≤ maxLen := by
        have h1 : t.data.toList.length = t.size := Array.length_toList
        rw [htl, List.length_tail] at h1; omega
      have HN := hide (fun W : World => specParseNum_any t 126 W hts)
      rw [htl] at HN
      by_cases hok : parseOk s.data.toList.tail 126
      · rw [parseNum_yes hok] at HN hent
        have hm : decVal s.data.toList.tail ≤ 126 := by have := hok.2.2.2.2; omega
        obtain ⟨n, hn⟩ : ∃ n, decVal s.data.toList.tail = n := ⟨_, rfl⟩
        rw [hn] at HN hent hm
        by_cases h32 : (32 : Int) ≤ n
        · have HE : Hid ((n : Int) = entZ s.data.toList) := by
            have : entL s.data.toList = some (UInt8.ofNat n) := by rw [hent]; simp; omega
            show (n : Int) = _
            rw [entZ_some this, UInt8.toNat_ofNat']; omega
          clear hent hfree hok hn htl el hc h35
          go_enter Tryz.func78, Tryz.ntmps78
          go_wp2_with fail
          refine (HN.out w).mono ?_
          rintro e w1 ⟨rfl, hw1⟩
          obtain rfl := hw1.symm
          go_wp2
          go_ret
          exact ⟨ret_int7 HE.out, rfl⟩
        · have HE : Hid (-1 = entZ s.data.toList) := by
            have : entL s.data.toList = none := by rw [hent]; simp; omega
            show -1 = _
            rw [entZ_none this]
          have h32' : (n : Int) < 32 := by omega
          clear hent hfree hok hn htl el hc h35
          go_enter Tryz.func78, Tryz.ntmps78
          go_wp2_with fail
          refine (HN.out w).mono ?_
          rintro e w1 ⟨rfl, hw1⟩
          obtain rfl := hw1.symm
          go_wp2
          go_ret
          exact ⟨ret_int7 HE.out, rfl⟩
      · rw [parseNum_no hok] at HN hent
        have HE : Hid (-1 = entZ s.data.toList) := by
          show -1 = _
          rw [entZ_none (by rw [hent]; rfl)]
        clear hent hfree hok htl el hc h35
        go_enter Tryz.func78, Tryz.ntmps78
        go_wp2_with fail
        refine (HN.out w).mono ?_
        rintro e w1 ⟨rfl, hw1⟩
        obtain rfl := hw1.symm
        go_wp2
        go_ret
        exact ⟨ret_int7 HE.out, rfl⟩
    · rw [decide_eq_false h35] at e6
      have HE : Hid (-1 = entZ s.data.toList) := by
        show -1 = _
        rw [entZ_none (ent_not hfree (by rw [hc]; intro e; exact h35 (Option.some.inj e)))]
      clear hfree el hc h35
      go_enter Tryz.func78, Tryz.ntmps78
      go_wp2
      go_ret
      exact ⟨ret_int7 HE.out, rfl⟩
  · have hl1' : ¬ (1 : Int) < s.size := by omega
    have HE : Hid (-1 = entZ s.data.toList) := by
      show -1 = _
      by_cases h35 : s.data.toList.head? = some 35
      · have hent := ent_num hfree h35
        have ht : s.data.toList.tail = [] := List.length_eq_zero_iff.1 (by rw [List.length_tail]; omega)
        rw [ht, parseNum_no (fun h => absurd h.1 (by simp))] at hent
        rw [entZ_none (by rw [hent]; rfl)]
      · rw [entZ_none (ent_not hfree h35)]
    clear hfree el hl1
    go_enter Tryz.func78, Tryz.ntmps78
    go_wp2
    go_ret
    exact ⟨ret_int7 HE.out, rfl⟩

theorem ret_ue2 {l : List UInt8} {b : Bool} {r : List UInt8 × Bool} (h : r = (l, b)) : Ending.returned (.tuple #[.string ⟨l.toArray⟩, .bool b]) = .returned (.tuple #[.string (bytesOf r.1), .bool r.2]) := by subst h; rfl

set_option maxRecDepth 100000 in
set_option maxHeartbeats 4000000 in
theorem specUnescape_any (s : ByteArray) (w : World) (hs : s.size ≤ 1099511627776) :
    Calls Tryz.prog 55 #[.string s] w fun e w' => e = .returned (.tuple #[.string (bytesOf (unescR s.data.toList).1), .bool (unescR s.data.toList).2]) ∧ Below w.heap.size w w' := by
  have el : s.data.toList.length = s.size := Array.length_toList
  have EL := hide el
  clear el
  go_enter Tryz.func55, Tryz.ntmps55
  go_wp2
  go_loopw [4, 5] (fun v i wr => ∃ (k : Nat) (acc : List UInt8), k ≤ s.size ∧ acc.length ≤ s.size ∧ UeAt s.data.toList (s.data.toList.drop k) acc ∧ i = .int .i64 k ∧ wr.ownsRow w.heap.size 5 1 v acc.length (Lib.byteCells acc) ∧ Below w.heap.size w wr) (fun _ i _ => s.size - (intOf i).toNat)
  case atStart => exact ⟨0, [], Nat.zero_le _, Nat.zero_le _, UeAt.start _, rfl, World.ownsRow_made w #[] 0 (Nat.le_refl _) (by decide) rfl, (Below.refl _ _).alloc (Nat.le_refl _) _⟩
  case round =>
    obtain ⟨k, acc, hks, hak, hU, rfl, hown, hbe⟩ := hrel
    have HU := hide hU
    clear hU
    by_cases hlt : k < s.size
    · have hlt' : (k : Int) < s.size := by omega
      have hk0 : (0 : Int) ≤ k := by omega
      have e1 := is_u8 s[k] 60 60 rfl
      have e2 := is_u8 s[k] 38 38 rfl
      have e3 := isn_u8 s[k] 38 38 rfl
      have hD := drop_cons s k hlt
      have HD := hide hD
      clear hD
      by_cases h60 : s[k] = 60
      · rw [decide_eq_true h60] at e1
        have HB : Hid (unescR s.data.toList = ([], false)) := HU.out.bad (by rw [HD.out]; simp) (by rw [HD.out, h60]; exact stepL_open _)
        clear h60 e2 e3
        go_wp2
        go_ret2
        exact ⟨ret_ue2 HB.out, hbe⟩
      rw [decide_eq_false h60] at e1
      by_cases h38 : s[k] = 38
      · rw [decide_eq_true h38] at e2 e3
        have ha := upTo_len s 59 (k + 1) (by omega)
        have HST : Hid (s.data.toList.drop k = 38 :: s.data.toList.drop (k + 1)) := by
          show s.data.toList.drop k = _
          rw [HD.out, h38]
        have HAT := hide (fun (j : Nat) (h1 : k + 1 ≤ j) (h2 : j < s.size) (h3 : j ≤ k + 1 + (upTo 59 (s.data.toList.drop (k + 1))).length) => upTo_at s 59 (k + 1) j h1 h2 h3)
        have HX := hide (extract_upTo s 59 (k + 1))
        have HR := hide (drop_upTo s 59 (k + 1))
        have HF := hide ha.2
        have HEN := hide (fun W : World => fun h => l7Entity_any (s.extract (k + 1) (k + 1 + (upTo 59 (s.data.toList.drop (k + 1))).length)) W h)
        rw [HX.out] at HEN
        have hm1 := ha.1
        obtain ⟨m, hm⟩ : ∃ m, k + 1 + (upTo 59 (s.data.toList.drop (k + 1))).length = m := ⟨_, rfl⟩
        have hkm : k + 1 ≤ m := by omega
        rw [hm] at HAT HR HF HEN hm1
        clear ha h38 h60 HX hm HD
        go_wp2
        go_loop [6] (fun j => ∃ n : Nat, k + 1 ≤ n ∧ n ≤ m ∧ j = .int .i64 n) (fun j => m - (intOf j).toNat)
        case atStart => exact ⟨k + 1, Nat.le_refl _, hkm, by go_num⟩
        case round =>
          obtain ⟨n, hn1, hn2, rfl⟩ := hrel
          by_cases hnm : n < m
          · have hns : n < s.size := by omega
            have hns' : (n : Int) < s.size := by omega
            have hn0 : (0 : Int) ≤ n := by omega
            have e4 := isn_u8 s[n] 59 59 rfl
            have hne : ¬ s[n] = 59 := fun e => by have := (HAT.out n hn1 hns hn2).1 e; omega
            rw [decide_eq_false hne] at e4
            clear hne
            go_wp2
            go_round
            case rel => exact ⟨n + 1, by omega, by omega, by go_num⟩
            case measure => simp [intOf]; omega
          · obtain rfl : n = m := by omega
            by_cases hns : n < s.size
            · have hns' : (n : Int) < s.size := by omega
              have hn0 : (0 : Int) ≤ n := by omega
              have hk1' : (k : Int) + 1 ≤ n := by omega
              have hns2 : (n : Int) ≤ s.size := by omega
              have hnq : ((n : Int) == (s.size : Int)) = false := by rw [beq_eq_false_iff_ne]; omega
              have e4 := isn_u8 s[n] 59 59 rfl
              have heq : s[n] = 59 := (HAT.out n hn1 hns hn2).2 rfl
              rw [decide_eq_true heq] at e4
              have hfn : fromB 59 (s.data.toList.drop (k + 1)) ≠ [] := fun e => by have := HF.out.2 e; omega
              have HFN := hide hfn
              have hsz : (s.extract (k + 1) n).size ≤ maxLen := by rw [ByteArray.size_extract]; unfold maxLen; omega
              have HE2 := hide (fun W : World => HEN.out W hsz)
              clear hfn heq HAT HF HEN
              cases hen : entL (upTo 59 (s.data.toList.drop (k + 1))) with
              | none =>
                rw [entZ_none hen] at HE2
                have HB : Hid (unescR s.data.toList = ([], false)) := HU.out.bad (by rw [HST.out]; simp) (by rw [HST.out]; exact stepL_bad _ hen)
                clear hen
                go_wp2_with (go_at_call 78; refine (HE2.out _).mono ?_; rintro e w1 ⟨rfl, hw⟩; obtain rfl := hw.symm)
                go_ret2
                exact ⟨ret_ue2 HB.out, hbe⟩
              | some c =>
                rw [entZ_some hen] at HE2
                have hc255 := UInt8.toNat_lt c
                have hst := stepL_ent _ c HFN.out hen
                have hU2 := HU.out
                rw [HST.out] at hU2
                have hU3 := hU2.step hst
                rw [← HR.out] at hU3
                have HU3 := hide hU3
                have hlen : acc.length + 1 ≤ s.size := by
                  have h1 := hU3.1
                  have h2 := EL.out
                  rw [List.length_append] at h1
                  simp only [List.length_cons, List.length_nil] at h1
                  omega
                have hbw : IntKind.u8.wrap (c.toNat : Int) = (c.toNat : Int) := by rw [IntKind.wrap_u8]; omega
                clear hen hst hU2 hU3 HST HR HFN HU
                go_wp2_with (first | (go_at_call 78; refine (HE2.out _).mono ?_; rintro e w1 ⟨rfl, hw⟩; obtain rfl := hw.symm) | (at_builtin; refine wp_append_byte rfl _ _ rfl w.heap.size _ acc.length _ rfl (hown.alloc _) _ c rfl ?c1 ?c2 ?c3 ?_))
                case c1 => simp
                case c2 => omega
                case c3 => have := hbe.size; simp; omega
                intro v1 w1 ho1 hb1
                go_wp2
                go_roundw
                case rel => exact ⟨n + 1, acc ++ [c], by omega, by simp; omega, HU3.out, by go_num, by rw [List.length_append]; exact ho1, (hbe.alloc hbe.size _).trans hb1⟩
                case measure => simp [intOf]; omega
            · have hne : n = s.size := by omega
              have HB : Hid (unescR s.data.toList = ([], false)) := HU.out.bad (by rw [HST.out]; simp) (by rw [HST.out]; exact stepL_short _ (HF.out.1 hne))
              have hns' : ¬ (n : Int) < s.size := by omega
              have hnq : ((n : Int) == (s.size : Int)) = true := by rw [beq_iff_eq]; omega
              clear HAT HF HEN HR HST
              go_wp2
              go_ret2
              exact ⟨ret_ue2 HB.out, hbe⟩
      · rw [decide_eq_false h38] at e2 e3
        have hU2 := HU.out
        rw [HD.out] at hU2
        have hU3 := hU2.plain h60 h38
        have HU3 := hide hU3
        have hlen : acc.length + 1 ≤ s.size := by
          have h1 := hU3.1
          have h2 := EL.out
          rw [List.length_append] at h1
          simp only [List.length_cons, List.length_nil] at h1
          omega
        clear h60 h38 hU2 hU3 HU HD
        go_wp2_with (at_builtin; refine wp_append_byte rfl _ _ rfl w.heap.size _ acc.length _ rfl (hown.alloc _) _ s[k] rfl ?c1 ?c2 ?c3 ?_)
        case c1 => simp
        case c2 => omega
        case c3 => have := hbe.size; simp; omega
        intro v1 w1 ho1 hb1
        go_wp2
        go_roundw
        case rel => exact ⟨k + 1, acc ++ [s[k]], by omega, by simp; omega, HU3.out, by go_num, by rw [List.length_append]; exact ho1, (hbe.alloc hbe.size _).trans hb1⟩
        case measure => simp [intOf]; omega
    · have hcv := conv_own hown
      have hd := HU.out
      rw [drop_none s k hlt] at hd
      have HD := hide hd.done
      clear hd
      go_wp2
      go_ret2
      exact ⟨ret_ue2 HD.out, hbe⟩
end Go.Proofs.YtccehdlgpbeijaaGreatDoor
namespace Go.Proofs.YtccehdlgpbeijaaGreatDoor
open Go.RowKit M
set_option linter.unusedVariables false

/-- What l7Mark answers at a place. -/
def MarkAt (s : ByteArray) (a : Nat) (e : Ending) : Prop := ∃ (p : Pce) (z : Int), e = .returned (.tuple #[.agg #[.int .i64 p.k, .string p.name, .string p.ns, .bool p.has, .string p.s], .int .i64 z]) ∧ (markL (s.data.toList.drop a) = none → z = -1) ∧ ∀ p' q, markL (s.data.toList.drop a) = some (p', q) → p = p' ∧ ∃ k : Nat, z = k ∧ a < k ∧ k ≤ s.size ∧ s.data.toList.drop k = q
theorem at_none {s : ByteArray} {a : Nat} (h : markL (s.data.toList.drop a) = none) : MarkAt s a (.returned (.tuple #[.agg #[.int .i64 0, .string ⟨#[]⟩, .string ⟨#[]⟩, .bool false, .string ⟨#[]⟩], .int .i64 (-1)])) :=
  ⟨⟨0, ⟨#[]⟩, ⟨#[]⟩, false, ⟨#[]⟩⟩, -1, rfl, fun _ => rfl, fun p q e => by rw [h] at e; cases e⟩
theorem at_some {s : ByteArray} {a : Nat} {p : Pce} {q : List UInt8} {k : Nat} {z : Int} (h : markL (s.data.toList.drop a) = some (p, q)) (hz : z = k) (h1 : a < k) (h2 : k ≤ s.size) (h3 : s.data.toList.drop k = q) {v0 : Int} {v1 v2 v4 : ByteArray} {v3 : Bool} (e0 : v0 = p.k) (e1 : v1 = p.name) (e2 : v2 = p.ns) (e3 : v3 = p.has) (e4 : v4 = p.s) :
    MarkAt s a (.returned (.tuple #[.agg #[.int .i64 v0, .string v1, .string v2, .bool v3, .string v4], .int .i64 z])) :=
  ⟨p, z, by rw [e0, e1, e2, e3, e4], (fun e => by rw [h] at e; cases e), fun p' q' e => by rw [h] at e; obtain ⟨rfl, rfl⟩ := Prod.mk.inj (Option.some.inj e); exact ⟨rfl, k, hz, h1, h2, h3⟩⟩

theorem pre_len {p l : List UInt8} (h : p.isPrefixOf l = true) : p.length ≤ l.length := (List.isPrefixOf_iff_prefix.1 h).length_le
theorem pre_excl {q : List UInt8} (h : [62].isPrefixOf q = true) : [47, 62].isPrefixOf q = false := by
  cases q with
  | nil => rfl
  | cons c r =>
    simp only [List.isPrefixOf, Bool.and_eq_true, beq_iff_eq] at h
    rw [← h.1]
    rfl
theorem bytes_ofS (s : ByteArray) (l : List UInt8) (h : s.data.toList = l) : s = bytesOf l := by
  apply ByteArray.ext; apply Array.ext'; rw [h]; rfl
theorem closeL_none {r : List UInt8} (h : smB (nmL r) = false ∨ [62].isPrefixOf (nmR r) = false) : closeL r = none := by
  unfold closeL
  rw [if_neg (by rcases h with h | h <;> simp [h])]
theorem closeL_some {r : List UInt8} (h1 : smB (nmL r) = true) (h2 : [62].isPrefixOf (nmR r) = true) : closeL r = some (closeP (nmL r), (nmR r).drop 1) := by
  unfold closeL
  rw [if_pos (by simp [h1, h2])]
theorem openL_end {r : List UInt8} {x : (Bool × List UInt8) × List UInt8} (h1 : smB (nmL r) = true) (h2 : spcL (nmR r) = some x) : openL r = endM (nmL r) x.1 x.2 := by
  unfold openL; rw [if_pos h1, h2]
theorem openL_none {r : List UInt8} (h : smB (nmL r) = false ∨ spcL (nmR r) = none) : openL r = none := by
  unfold openL
  rcases h with h | h
  · rw [if_neg (by simp [h])]
  · split
    · rw [h]
    · rfl
theorem endM_1 {n q : List UInt8} {sp : Bool × List UInt8} (h : [62].isPrefixOf q = true) : endM n sp q = some (openP 1 n sp, q.drop 1) := by
  unfold endM; rw [if_neg (by simp [pre_excl h]), if_pos h]
theorem endM_3 {n q : List UInt8} {sp : Bool × List UInt8} (h : [47, 62].isPrefixOf q = true) : endM n sp q = some (openP 3 n sp, q.drop 2) := by
  unfold endM; rw [if_pos h]
theorem endM_0 {n q : List UInt8} {sp : Bool × List UInt8} (h : [62].isPrefixOf q = false) (h3 : [47, 62].isPrefixOf q = false) : endM n sp q = none := by
  unfold endM; rw [if_neg (by simp [h3]), if_neg (by simp [h])]
theorem spc_no {l : List UInt8} (h : spcS.isPrefixOf l = false) : spcL l = some ((false, []), l) := by unfold spcL; rw [if_neg (by simp [h])]
theorem spc_short {l : List UInt8} (h : spcS.isPrefixOf l = true) (hf : fromB 34 (l.drop 8) = []) : spcL l = none := by unfold spcL; rw [if_pos h, if_pos hf]
theorem spc_bad {l : List UInt8} (h : spcS.isPrefixOf l = true) (hu : unesc (upTo 34 (l.drop 8)) = none) : spcL l = none := by
  unfold spcL; rw [if_pos h]
  split
  · rfl
  · rw [hu]
theorem spc_long {l x : List UInt8} (h : spcS.isPrefixOf l = true) (hu : unesc (upTo 34 (l.drop 8)) = some x) (hx : ¬ x.length ≤ 20) : spcL l = none := by
  unfold spcL; rw [if_pos h]
  split
  · rfl
  · rw [hu]; simp [hx]
theorem spc_yes {l x : List UInt8} (h : spcS.isPrefixOf l = true) (hf : fromB 34 (l.drop 8) ≠ []) (hu : unesc (upTo 34 (l.drop 8)) = some x) (hx : x.length ≤ 20) : spcL l = some ((true, x), (fromB 34 (l.drop 8)).tail) := by
  unfold spcL; rw [if_pos h, if_neg hf, hu]; simp [hx]
theorem unescR_some {l x : List UInt8} (h : unescR l = (x, true)) : unesc l = some x := by
  unfold unescR at h
  cases hu : unesc l with
  | none => rw [hu] at h; cases h
  | some y => rw [hu] at h; rw [(Prod.mk.inj h).1]
theorem unescR_none {l x : List UInt8} (h : unescR l = (x, false)) : unesc l = none := by
  unfold unescR at h
  cases hu : unesc l with
  | none => rfl
  | some y => rw [hu] at h; cases h
theorem below5 {C : Nat} {w w' : World} (h : Below C w w') (N : Nat) (hN : C ≤ N) (v0 v1 v2 v3 v4 : Value) : Below C w (((((w'.setCell ⟨N, 0, none⟩ v0).setCell ⟨N, 1, none⟩ v1).setCell ⟨N, 2, none⟩ v2).setCell ⟨N, 3, none⟩ v3).setCell ⟨N, 4, none⟩ v4) :=
  ((((h.setCell (p := ⟨N, 0, none⟩) hN _).setCell (p := ⟨N, 1, none⟩) hN _).setCell (p := ⟨N, 2, none⟩) hN _).setCell (p := ⟨N, 3, none⟩) hN _).setCell (p := ⟨N, 4, none⟩) hN _

set_option maxRecDepth 100000 in
set_option maxHeartbeats 4000000 in
theorem l7Mark_close (s : ByteArray) (a : Nat) (w : World) (ha : a < s.size) (hs : s.size ≤ 1099511627776) (hp : [60, 47].isPrefixOf (s.data.toList.drop a) = true) :
    Calls Tryz.prog 54 #[.string s, .int .i64 a] w fun e w' => MarkAt s a e ∧ Below w.heap.size w w' := by
  have el : s.data.toList.length = s.size := Array.length_toList
  have h2 : a + 2 ≤ s.size := by have := pre_len hp; rw [List.length_drop] at this; simp at this; omega
  have em : markL (s.data.toList.drop a) = closeL (s.data.toList.drop (a + 2)) := by unfold markL; rw [if_pos hp, List.drop_drop]
  have H1 := hide (fun W : World => l7At_any s ⟨#[60, 47]⟩ [60, 47] rfl a W (by omega) hs (by decide))
  rw [hp] at H1
  have HN := hide (fun W : World => l7Name_any s (a + 2) W h2 hs)
  have hZ := nm_size s (a + 2) h2
  have hT := nm_take s (a + 2)
  have hD := nm_drop s (a + 2)
  have HA := hide (fun (W : World) h => l7At_any s ⟨#[62]⟩ [62] rfl (a + 2 + (nmL (s.data.toList.drop (a + 2))).length) W h hs (by decide))
  obtain ⟨k, hk⟩ : ∃ k, a + 2 + (nmL (s.data.toList.drop (a + 2))).length = k := ⟨_, rfl⟩
  rw [hk] at HN hZ hT hD HA
  have hak : a + 2 ≤ k := by omega
  have HA2 := hide (fun W : World => HA.out W hZ)
  rw [hD] at HA2
  have hxs : (s.extract (a + 2) k).size ≤ maxLen := by rw [ByteArray.size_extract]; unfold maxLen; omega
  have HS := hide (fun W : World => specSmallName_any (s.extract (a + 2) k) W hxs)
  rw [hT] at HS
  have hak' : (a : Int) + 2 ≤ k := by omega
  have hks' : (k : Int) ≤ s.size := by omega
  have ha0 : (0 : Int) ≤ (a : Int) + 2 := by omega
  cases h62 : [62].isPrefixOf (nmR (s.data.toList.drop (a + 2)))
  · rw [h62] at HA2
    have HR := hide (at_none (em.trans (closeL_none (.inr h62))))
    clear el em hT hD HA hxs HS h62 hk
    go_enter Tryz.func54, Tryz.ntmps54
    go_wp2_with fail
    refine (H1.out _).mono ?_
    rintro e w1 ⟨rfl, hw⟩
    obtain rfl := hw.symm
    go_wp2_with fail
    refine (HN.out _).mono ?_
    rintro e w1 ⟨rfl, hw⟩
    obtain rfl := hw.symm
    go_wp2_with fail
    refine (HA2.out _).mono ?_
    rintro e w1 ⟨rfl, hw⟩
    obtain rfl := hw.symm
    go_wp2
    refine bodyPost_ret (v := .tuple #[.agg #[.int .i64 0, .string ⟨#[]⟩, .string ⟨#[]⟩, .bool false, .string ⟨#[]⟩], .int .i64 (-1)]) (by simp [results, Tryz.results54, go_sem]) rfl ⟨HR.out, ?_⟩
    exact (Below.refl _ _).alloc (Nat.le_refl _) _
  · rw [h62] at HA2
    have hk1 : k + 1 ≤ s.size := by have := pre_len h62; rw [← hD, List.length_drop] at this; simp at this; omega
    cases hsm : smB (nmL (s.data.toList.drop (a + 2)))
    · rw [hsm] at HS
      have HR := hide (at_none (em.trans (closeL_none (.inl hsm))))
      clear el em hT hD HA hxs h62 hsm hk
      go_enter Tryz.func54, Tryz.ntmps54
      go_wp2_with fail
      refine (H1.out _).mono ?_
      rintro e w1 ⟨rfl, hw⟩
      obtain rfl := hw.symm
      go_wp2_with fail
      refine (HN.out _).mono ?_
      rintro e w1 ⟨rfl, hw⟩
      obtain rfl := hw.symm
      go_wp2_with fail
      refine (HA2.out _).mono ?_
      rintro e w1 ⟨rfl, hw⟩
      obtain rfl := hw.symm
      go_wp2_with fail
      refine (HS.out _).mono ?_
      rintro e w1 ⟨rfl, hw⟩
      obtain rfl := hw.symm
      go_wp2
      refine bodyPost_ret (v := .tuple #[.agg #[.int .i64 0, .string ⟨#[]⟩, .string ⟨#[]⟩, .bool false, .string ⟨#[]⟩], .int .i64 (-1)]) (by simp [results, Tryz.results54, go_sem]) rfl ⟨HR.out, ?_⟩
      exact (Below.refl _ _).alloc (Nat.le_refl _) _
    · rw [hsm] at HS
      have HR : Hid (MarkAt s a (.returned (.tuple #[.agg #[.int .i64 2, .string (s.extract (a + 2) k), .string ⟨#[]⟩, .bool false, .string ⟨#[]⟩], .int .i64 ((k : Int) + 1)]))) :=
        at_some (em.trans (closeL_some hsm h62)) (k := k + 1) (by omega) (by omega) hk1 (by rw [← hD, List.drop_drop]) rfl (bytes_ofS _ _ hT) rfl rfl rfl
      clear el em hT hD HA hxs h62 hsm hk
      go_enter Tryz.func54, Tryz.ntmps54
      go_wp2_with fail
      refine (H1.out _).mono ?_
      rintro e w1 ⟨rfl, hw⟩
      obtain rfl := hw.symm
      go_wp2_with fail
      refine (HN.out _).mono ?_
      rintro e w1 ⟨rfl, hw⟩
      obtain rfl := hw.symm
      go_wp2_with fail
      refine (HA2.out _).mono ?_
      rintro e w1 ⟨rfl, hw⟩
      obtain rfl := hw.symm
      go_wp2_with fail
      refine (HS.out _).mono ?_
      rintro e w1 ⟨rfl, hw⟩
      obtain rfl := hw.symm
      go_wp2
      refine bodyPost_ret (v := .tuple #[.agg #[.int .i64 2, .string (s.extract (a + 2) k), .string ⟨#[]⟩, .bool false, .string ⟨#[]⟩], .int .i64 ((k : Int) + 1)]) (by simp [results, Tryz.results54, go_sem]) rfl ⟨HR.out, ?_⟩
      exact (Below.refl _ _).alloc (Nat.le_refl _) _
end Go.Proofs.YtccehdlgpbeijaaGreatDoor
