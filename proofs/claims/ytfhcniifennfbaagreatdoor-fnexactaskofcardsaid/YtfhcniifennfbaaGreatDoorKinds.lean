/-
  What the specification's reader of lists does: what stands up to a byte.
  A text's first byte.
  What the specification's own Plain does.
  What the specification's l9Tag does.
  How the specification's reader goes through a text, against how it is read.
  What the specification's l1Digit does.
  Small facts that what is parsed wants.
  What the specification's ParseNum does.
  What spec.l14Cond does.
  What spec.l14List does.
  What spec.ParseIf does.
  What the program's calls on kinds of bytes do: isOf, isOneOf: each computes, and turns nothing in memory.
-/
import Derived.Test.YtfhcniifennfbaaGreatDoorSpecIf1
import Derived.BigQuiet
import Derived.Test.YtfhcniifennfbaaGreatDoorMathHex
import Derived.Lib.Strings
import Derived.Test.YtfhcniifennfbaaGreatDoorRows
import Derived.Test.YtfhcniifennfbaaGreatDoorSliceEq
import Derived.Test.YtfhcniifennfbaaGreatDoorMathLock
import Derived.WalkKit
import Derived.WalkSpells
import Derived.WalkLawsBesides
import Derived.Deep.Light
import Derived.Test.YtfhcniifennfbaaGreatDoorAt7
import Derived.Lib.ConvBytes
namespace Go.Proofs.YtfhcniifennfbaaGreatDoor
open Go.RowKit M
set_option linter.unusedVariables false

/-! What stands up to a byte. -/
def toB (s : ByteArray) (a : Nat) (by_ : UInt8) : Bool := (fromB by_ (s.data.toList.drop a)).isEmpty
def toA (s : ByteArray) (a : Nat) (by_ : UInt8) : Nat := if toB s a by_ = true then s.size else a + (upTo by_ (s.data.toList.drop a)).length + 1
def toT (s : ByteArray) (a : Nat) (by_ : UInt8) : List UInt8 := if toB s a by_ = true then [] else upTo by_ (s.data.toList.drop a)
theorem to_next {s : ByteArray} {j : Nat} {c : UInt8} (hj : j < s.size) (hc : s[j] ≠ c) : upTo c (s.data.toList.drop j) = s[j] :: upTo c (s.data.toList.drop (j + 1)) ∧ fromB c (s.data.toList.drop j) = fromB c (s.data.toList.drop (j + 1)) := by
  have hl : j < s.data.toList.length := by rw [Array.length_toList]; exact hj
  have e : s.data.toList.drop j = s[j] :: s.data.toList.drop (j + 1) := List.drop_eq_getElem_cons hl
  rw [e]
  exact ⟨upTo_cons_ne _ hc, fromB_cons_ne _ hc⟩
theorem to_here {s : ByteArray} {j : Nat} {c : UInt8} (hj : j < s.size) (hc : s[j] = c) : upTo c (s.data.toList.drop j) = [] ∧ fromB c (s.data.toList.drop j) = c :: s.data.toList.drop (j + 1) := by
  have hl : j < s.data.toList.length := by rw [Array.length_toList]; exact hj
  have e : s.data.toList.drop j = s[j] :: s.data.toList.drop (j + 1) := List.drop_eq_getElem_cons hl
  rw [e, hc]
  exact ⟨upTo_cons_eq _ _, fromB_cons_eq _ _⟩
theorem to_end {s : ByteArray} {c : UInt8} : fromB c (s.data.toList.drop s.size) = [] := by
  rw [List.drop_of_length_le (by rw [Array.length_toList]; exact Nat.le_refl _)]
  rfl
/-- On the way: none of them up to here. -/
def ToAt (s : ByteArray) (a j : Nat) (c : UInt8) : Prop := upTo c (s.data.toList.drop a) = (s.data.toList.drop a).take (j - a) ++ upTo c (s.data.toList.drop j) ∧ fromB c (s.data.toList.drop a) = fromB c (s.data.toList.drop j)
theorem ToAt.start (s : ByteArray) (a : Nat) (c : UInt8) : ToAt s a a c := ⟨by simp, rfl⟩
theorem ToAt.next {s : ByteArray} {a j : Nat} {c : UInt8} (h : ToAt s a j c) (ha : a ≤ j) (hj : j < s.size) (hc : s[j] ≠ c) : ToAt s a (j + 1) c := by
  obtain ⟨e1, e2⟩ := to_next hj hc
  refine ⟨?_, h.2.trans e2⟩
  have hl : j - a < (s.data.toList.drop a).length := by rw [List.length_drop, Array.length_toList]; show j - a < s.size - a; omega
  rw [h.1, e1, show j + 1 - a = (j - a) + 1 by omega, List.take_succ_eq_append_getElem hl, List.append_assoc]
  have : (s.data.toList.drop a)[j - a] = s[j] := by
    rw [List.getElem_drop]
    simp only [show a + (j - a) = j by omega]
    rfl
  rw [this]
  rfl
theorem ToAt.none {s : ByteArray} {a : Nat} {c : UInt8} (h : ToAt s a s.size c) : toB s a c = true := by
  unfold toB
  rw [h.2, to_end]
  rfl
theorem ToAt.found {s : ByteArray} {a j : Nat} {c : UInt8} (h : ToAt s a j c) (ha : a ≤ j) (hj : j < s.size) (hc : s[j] = c) : toB s a c = false ∧ toA s a c = j + 1 ∧ s.extract a j = bytesOf (toT s a c) := by
  obtain ⟨e1, e2⟩ := to_here hj hc
  have hb : toB s a c = false := by unfold toB; rw [h.2, e2]; rfl
  have hu : upTo c (s.data.toList.drop a) = (s.data.toList.drop a).take (j - a) := by rw [h.1, e1, List.append_nil]
  have hl : ((s.data.toList.drop a).take (j - a)).length = j - a := by rw [List.length_take, List.length_drop, Array.length_toList]; show min (j - a) (s.size - a) = j - a; omega
  refine ⟨hb, ?_, ?_⟩
  · unfold toA
    rw [hb, if_neg (by simp), hu, hl]
    omega
  · unfold toT
    rw [hb, if_neg (by simp), hu]
    refine ByteArray.ext (Array.toList_inj.1 ?_)
    rw [extract_list]
    rfl

set_option maxRecDepth 100000 in
set_option maxHeartbeats 8000000 in
theorem l14To_any (N : Nat) (s : ByteArray) (c : UInt8) (a : Nat) (bad : Bool) (w : World) (h : Rd w N s a bad) (ha : a ≤ s.size) (hs : s.size ≤ 1099511627776) :
    Calls Tryz.prog 144 #[.pointer (some ⟨N, 0, none⟩), .int .u8 (c.toNat : Int)] w fun e w' => e = .returned (.string (bytesOf (toT s a c))) ∧ Rd w' N s (toA s a c) (bad || toB s a c) ∧ Turn (At N) w w' := by
  have HR0 := hide h
  have c1_ := h.c1
  clear h
  go_enter Tryz.func144, Tryz.ntmps144
  go_wp2
  clear c1_
  go_loopw [] (fun wr => ∃ j : Nat, a ≤ j ∧ j ≤ s.size ∧ Hid (Rd wr N s j bad) ∧ Hid (ToAt s a j c) ∧ Turn (At N) w wr) (fun wr => match wr.cell? ⟨N, 1, none⟩ with | some (.int _ z) => (1099511627776 - z).toNat | _ => 0)
  case atStart => exact ⟨a, Nat.le_refl _, ha, HR0, ToAt.start s a c, Turn.refl _ _⟩
  case round =>
    obtain ⟨j, hj1, hj2, HR, HTO, ht⟩ := hrel
    have HT := hide ht
    obtain ⟨_, hfz, c0, c1, c2⟩ := HR.out
    clear ht
    by_cases hlt : j < s.size
    · have hi0 : (0 : Int) ≤ (j : Int) := by omega
      have hi1 : (j : Int) < (s.size : Int) := by omega
      have hi2 : ¬ ((j : Int) = (s.size : Int)) := by omega
      have hi3 : ((j : Int) == (s.size : Int)) = false := by rw [beq_eq_false_iff_ne]; omega
      by_cases hc : s[j] = c
      · obtain ⟨f1, f2, f3⟩ := HTO.out.found hj1 hlt hc
        have HF := hide (And.intro f1 (And.intro f2 f3))
        have q1 : ((s[j].toNat : Int) != (c.toNat : Int)) = false := by rw [hc]; simp
        have q2 : ((s[j].toNat : Int) == (c.toNat : Int)) = true := by rw [hc]; simp
        have s1 : (0 : Int) ≤ (a : Int) := by omega
        have s2 : (a : Int) ≤ (j : Int) := by omega
        have s3 : (j : Int) ≤ (s.size : Int) := by omega
        clear hc f1 f2 f3
        go_wp2
        go_quiet (fail)
        have R1 := hide (HR.out.drewN nq)
        have T1 := hide (turn_drewNR HT.out nq)
        obtain ⟨wq, hwq⟩ : ∃ W, wr.drewN nq = W := ⟨_, rfl⟩
        rw [hwq] at R1 T1
        rw [hwq]
        clear hwq hfz c0 c1 c2 HR HT
        obtain ⟨_, hfz, c0, c1, c2⟩ := R1.out
        go_wp2
        go_quiet (fail)
        have R2 := hide (R1.out.drewN nq)
        have T2 := hide (turn_drewNR T1.out nq)
        obtain ⟨wp, hwp⟩ : ∃ W, wq.drewN nq = W := ⟨_, rfl⟩
        rw [hwp] at R2 T2
        rw [hwp]
        clear hwp hfz c0 c1 c2 R1 T1
        obtain ⟨_, hfz, c0, c1, c2⟩ := R2.out
        have hf1 := hfz 1
        have R3 := hide (R2.out.step (j + 1))
        have T3 := hide (T2.out.trans (Turn.set _ ⟨N, 1, none⟩ (.int .i64 ((j + 1 : Nat) : Int)) rfl))
        have d0 : (wp.setCell ⟨N, 1, none⟩ (.int .i64 ((j : Int) + 1))).cell? ⟨N, 0, none⟩ = some (.string s) := R3.out.c0
        have d1 : (wp.setCell ⟨N, 1, none⟩ (.int .i64 ((j : Int) + 1))).cell? ⟨N, 1, none⟩ = some (.int .i64 ((j : Int) + 1)) := R3.out.c1
        have s4 : (j : Int) + 1 - 1 = (j : Int) := by omega
        have s5 : (0 : Int) ≤ (j : Int) + 1 - 1 := by omega
        have s6 : (a : Int) ≤ (j : Int) + 1 - 1 := by omega
        go_wp2
        go_quiet (fail)
        go_wp2
        go_ret
        have hA : toA s a c = j + 1 := HF.out.2.1
        refine ⟨?_, ?_, turn_drewNR T3.out _⟩
        · rw [← HF.out.2.2]
          rfl
        · rw [hA, HF.out.1, Bool.or_false]
          exact R3.out.drewN _
      · have HNX := hide (HTO.out.next hj1 hlt hc)
        have q1 : ((s[j].toNat : Int) != (c.toNat : Int)) = true := by simpa [bne_iff_ne, Int.ofNat_inj, UInt8.toNat_inj] using hc
        have q2 : ((s[j].toNat : Int) == (c.toNat : Int)) = false := by simpa [Int.ofNat_inj, UInt8.toNat_inj] using hc
        clear hc
        go_wp2
        go_quiet (fail)
        have d1 : (wr.drewN nq).cell? ⟨N, 1, none⟩ = some (.int .i64 j) := c1
        have d3 : (wr.drewN nq).frozen? ⟨N, 1, none⟩ = false := hfz 1
        have R1 := hide ((HR.out.drewN nq).step (j + 1))
        have T1 := hide ((turn_drewNR HT.out nq).trans (Turn.set _ ⟨N, 1, none⟩ (.int .i64 ((j + 1 : Nat) : Int)) rfl))
        go_wp2
        go_roundw
        case rel => exact ⟨j + 1, by omega, by omega, R1, HNX, T1.out⟩
        case measure =>
          have e := R1.out.c1
          simp only [Int.natCast_add, Int.cast_ofNat_Int] at e
          rw [e, c1]
          simp
          omega
    · have hje : j = s.size := by omega
      subst hje
      have HN := hide (HTO.out.none)
      have hi2 : ((s.size : Int) == (s.size : Int)) = true := beq_self_eq_true _
      have hlt' : decide (s.size < s.size) = false := decide_eq_false (Nat.lt_irrefl _)
      clear hlt
      go_wp2
      go_quiet (fail)
      have R1 := hide (HR.out.drewN nq)
      have T1 := hide (turn_drewNR HT.out nq)
      obtain ⟨wq, hwq⟩ : ∃ W, wr.drewN nq = W := ⟨_, rfl⟩
      rw [hwq] at R1 T1
      rw [hwq]
      clear hwq hfz c0 c1 c2 HR HT
      obtain ⟨_, hfz, c0, c1, c2⟩ := R1.out
      go_wp2
      go_quiet (fail)
      have R2 := hide (R1.out.drewN nq)
      have T2 := hide (turn_drewNR T1.out nq)
      obtain ⟨wp, hwp⟩ : ∃ W, wq.drewN nq = W := ⟨_, rfl⟩
      rw [hwp] at R2 T2
      rw [hwp]
      clear hwp hfz c0 c1 c2 R1 T1
      obtain ⟨_, hfz, c0, c1, c2⟩ := R2.out
      have hf1 := hfz 2
      go_wp2
      go_ret
      have h1 := R2.out.turned true
      refine ⟨?_, ?_, T2.out.trans (Turn.set _ _ _ rfl)⟩
      · unfold toT
        rw [HN.out]
        rfl
      · unfold toA
        rw [HN.out, Bool.or_true, if_pos rfl]
        exact h1
end Go.Proofs.YtfhcniifennfbaaGreatDoor
namespace Go.Proofs.YtfhcniifennfbaaGreatDoor
open M

theorem prefix_c (c : UInt8) (l : List UInt8) : Lib.hasPrefix l [c] = decide (l.head? = some c) := by
  cases l with
  | nil => rfl
  | cons a r =>
    simp [Lib.hasPrefix, List.isPrefixOf]
    cases h : (c == a)
    · have : ¬ a = c := fun e => by rw [e] at h; simp at h
      simp [this]
    · have := beq_iff_eq.1 h
      simp [← this]
theorem trimPrefix_yes {c : UInt8} {l : List UInt8} (h : l.head? = some c) : Lib.trimPrefix l [c] = l.drop 1 := by
  unfold Lib.trimPrefix; rw [prefix_c, if_pos (by simp [h])]; rfl
theorem trimPrefix_no {c : UInt8} {l : List UInt8} (h : ¬ l.head? = some c) : Lib.trimPrefix l [c] = l := by
  unfold Lib.trimPrefix; rw [prefix_c, if_neg (by simp [h])]
end Go.Proofs.YtfhcniifennfbaaGreatDoor
namespace Go.Proofs.YtfhcniifennfbaaGreatDoor
open Go.RowKit M

set_option maxHeartbeats 400000 in
theorem specPlain_any (s : ByteArray) (w : World) (hs : s.size ≤ maxLen) :
    Calls Tryz.prog 142 #[.string s] w fun e w' => e = .returned (.bool (allB s.data.toList [0])) ∧ w' = w := by
  unfold maxLen at hs
  go_enter Tryz.func142, Tryz.ntmps142
  go_wp2
  go_loop [3] (fun i => ∃ k : Nat, k ≤ s.size ∧ i = .int .i64 k ∧ allB (s.data.toList.take k) [0] = true) (fun i => s.size - (intOf i).toNat)
  case atStart => exact ⟨0, Nat.zero_le _, rfl, rfl⟩
  case round =>
    obtain ⟨k, hk, rfl, hn⟩ := hrel
    have HN : Hid (allB (s.data.toList.take k) [0] = true) := hn; clear hn
    by_cases hlt : k < s.size
    · go_wp2_with (go_at_call 113; refine (l1In_any _ _ _ _).mono ?_; rintro e w' ⟨rfl, rfl⟩; rw [wrap64_u8, inB_plain])
      · go_ret
        exact ⟨ret_bool (by rw [allB_not s [0] k hlt (by assumption)]), rfl⟩
      · go_round
        case rel => exact ⟨k + 1, by omega, by go_num, allB_snoc s [0] k hlt HN.out (by assumption)⟩
        case measure => simp [intOf]; omega
    · go_wp2
      go_ret
      exact ⟨ret_bool (by rw [← HN.out, take_all s k hlt]), rfl⟩

end Go.Proofs.YtfhcniifennfbaaGreatDoor
namespace Go.Proofs.YtfhcniifennfbaaGreatDoor
open Go.RowKit M
set_option linter.unusedVariables false

theorem tagB_iff (x : List UInt8) : tagB x = true ↔ ∃ m, x = tagL m ∧ 34 ∉ m ∧ innB m = true := by
  constructor
  · intro h
    unfold tagB at h
    split at h
    · rename_i m e
      obtain ⟨h1, h2, h3⟩ := cutT_some e
      exact ⟨m, by rw [h1, List.append_nil], h2, h3⟩
    · cases h
  · rintro ⟨m, rfl, h1, h2⟩
    exact tagB_one m h1 h2
theorem tagB_not {x : List UInt8} (h : ∀ m, x = tagL m → 34 ∉ m → innB m = true → False) : tagB x = false := by
  cases hb : tagB x
  · rfl
  · obtain ⟨m, h1, h2, h3⟩ := (tagB_iff x).1 hb
    exact (h m h1 h2 h3).elim
theorem tagL_len (m : List UInt8) : (tagL m).length = m.length + 2 := by simp [tagL]
theorem tag_short {x : List UInt8} (h : x.length < 2) : tagB x = false := tagB_not fun m e _ _ => by rw [e, tagL_len] at h; omega
theorem tag_first {x : List UInt8} (h0 : 0 < x.length) (h : ¬ x[0] = 34) : tagB x = false := tagB_not fun m e _ _ => by subst e; exact h (by simp [tagL])
theorem tag_last {x : List UInt8} (n : Nat) (hn : n < x.length) (h1 : n + 1 = x.length) (h : ¬ x[n] = 34) : tagB x = false := tagB_not fun m e _ _ => by
  subst e
  rw [tagL_len] at h1
  have hn' : n = m.length + 1 := by omega
  subst hn'
  exact h (by simp [tagL])
theorem tag_long {x : List UInt8} (h : 12 < x.length) : tagB x = false := tagB_not fun m e _ hi => by
  rw [e, tagL_len] at h
  simp [innB] at hi
  omega
theorem allB_tag (m : List UInt8) : allB (tagL m) [0] = allB m [0] := by
  have h : anyB (((34 : UInt8).toNat : Nat) : Int) [0] = true := by decide
  simp only [allB, tagL, List.all_cons, List.all_append, List.all_nil, h, Bool.and_true, Bool.true_and]
theorem tag_plain {x : List UInt8} (h : allB x [0] = false) : tagB x = false := tagB_not fun m e _ hi => by
  rw [e, allB_tag] at h
  simp [innB, h] at hi
theorem tag_within {x : List UInt8} (k : Nat) (hk : k < x.length) (h1 : 1 ≤ k) (h2 : k + 1 < x.length) (h : x[k] = 34) : tagB x = false := tagB_not fun m e hm _ => by
  subst e
  rw [tagL_len] at h2
  obtain ⟨j, rfl⟩ : ∃ j, k = j + 1 := ⟨k - 1, by omega⟩
  apply hm
  have hj : j < m.length := by omega
  have e2 : (tagL m)[j + 1] = m[j] := by
    simp only [tagL, List.getElem_cons_succ]
    rw [List.getElem_append_left hj]
  rw [e2] at h
  rw [← h]; exact List.getElem_mem hj
theorem tag_yes {x : List UInt8} (n : Nat) (h1 : n + 2 = x.length) (hf : x[0]'(by omega) = 34) (hl : x[n + 1]'(by omega) = 34) (h12 : x.length ≤ 12) (hp : allB x [0] = true) (hm : 34 ∉ (x.take (n + 1)).drop 1) : tagB x = true := by
  have e : x = tagL ((x.take (n + 1)).drop 1) := by
    cases x with
    | nil => simp at h1
    | cons c r =>
      have hc : c = 34 := hf
      have hn : n < r.length := by simp at h1; omega
      have h3 : r[n] = 34 := hl
      have h4 := List.take_succ_eq_append_getElem hn
      rw [h3, List.take_of_length_le (by simp at h1; omega)] at h4
      subst hc
      simp only [List.take_succ_cons, List.drop_succ_cons, List.drop_zero, tagL]
      rw [← h4]
  rw [e]
  apply tagB_one _ hm
  have hp2 : allB ((x.take (n + 1)).drop 1) [0] = true := by rw [← allB_tag, ← e]; exact hp
  have hl2 : ((x.take (n + 1)).drop 1).length = n := by rw [List.length_drop, List.length_take]; omega
  unfold innB
  rw [hp2, hl2]
  simp; omega

theorem u8ne {c : UInt8} {n : Nat} (hn : n < 256) (h : ¬ c = UInt8.ofNat n) : ((c.toNat : Int) == (n : Int)) = false := by
  apply beq_eq_false_iff_ne.2
  intro e
  apply h
  apply UInt8.toNat_inj.1
  have e2 : c.toNat = n := by omega
  rw [e2]
  simp
  omega

theorem u8bn {c : UInt8} {n : Nat} (hn : n < 256) (h : ¬ c = UInt8.ofNat n) : ((c.toNat : Int) != (n : Int)) = true := by
  show (!((c.toNat : Int) == (n : Int))) = true
  rw [u8ne hn h]; rfl

theorem in_take {x : List UInt8} {k : Nat} (hk : k < x.length) (h1 : 1 ≤ k) (h : 34 ∉ (x.take k).drop 1) (hc : ¬ x[k] = 34) : 34 ∉ (x.take (k + 1)).drop 1 := by
  rw [List.take_succ_eq_append_getElem hk, List.drop_append_of_le_length (by rw [List.length_take]; omega)]
  intro hm
  rcases List.mem_append.1 hm with hm | hm
  · exact h hm
  · exact hc (List.mem_singleton.1 hm).symm

set_option maxHeartbeats 2000000 in
theorem l9Tag_any (s : ByteArray) (w : World) (hs : s.size ≤ maxLen) :
    Calls Tryz.prog 122 #[.string s] w fun e w' => e = .returned (.bool (tagB s.data.toList)) ∧ w' = w := by
  have HP := hide (specPlain_any s w hs)
  unfold maxLen at hs
  have EL := hide (show s.data.toList.length = s.size from Array.length_toList)
  by_cases h2 : s.size < 2
  · have h2' : (s.size : Int) < 2 := by omega
    have HR := hide (tag_short (x := s.data.toList) (by rw [EL.out]; omega))
    go_enter Tryz.func122, Tryz.ntmps122
    go_wp2
    go_ret
    exact ⟨ret_bool HR.out.symm, rfl⟩
  · have h2' : ¬ (s.size : Int) < 2 := by omega
    have z0 : 0 < s.size := by omega
    have z1 : s.size - 1 < s.size := by omega
    by_cases h0 : s[0] = 34
    · have b0 : ((s[0].toNat : Int) != 34) = false := by rw [h0]; rfl
      by_cases h1 : s[s.size - 1] = 34
      · have b1 : ((s[s.size - 1].toNat : Int) != 34) = false := by rw [h1]; rfl
        by_cases h12 : s.size ≤ 12
        · cases hp : allB s.data.toList [0]
          · have HR := hide (tag_plain hp)
            rw [hp] at HP
            clear hp h0 h1
            go_enter Tryz.func122, Tryz.ntmps122
            go_wp2_with fail
            refine HP.out.mono ?_
            rintro e w1 ⟨rfl, hw⟩
            obtain rfl := hw.symm
            go_wp2
            go_ret
            exact ⟨ret_bool HR.out.symm, rfl⟩
          · rw [hp] at HP
            obtain ⟨n, hn⟩ : ∃ n, n + 2 = s.size := ⟨s.size - 2, by omega⟩
            have HY := hide (fun (hm : 34 ∉ (s.data.toList.take (n + 1)).drop 1) => tag_yes (x := s.data.toList) n (by rw [EL.out]; exact hn) h0 (by
              have e : s.size - 1 = n + 1 := by omega
              have h1' := h1
              simp only [e] at h1'
              exact h1') (by rw [EL.out]; exact h12) hp hm)
            have HN := hide hn
            clear hp h0 h1 hn
            go_enter Tryz.func122, Tryz.ntmps122
            go_wp2_with fail
            refine HP.out.mono ?_
            rintro e w1 ⟨rfl, hw⟩
            obtain rfl := hw.symm
            go_wp2
            go_loop [3] (fun i => ∃ k : Nat, 1 ≤ k ∧ k + 1 ≤ s.size ∧ i = .int .i64 k ∧ 34 ∉ (s.data.toList.take k).drop 1) (fun i => s.size - (intOf i).toNat)
            case atStart => exact ⟨1, Nat.le_refl _, by omega, rfl, by
              have : ((s.data.toList.take 1).drop 1) = [] := by rw [List.drop_eq_nil_iff, List.length_take]; omega
              rw [this]; simp⟩
            case round =>
              obtain ⟨k, hk1, hk2, rfl, hn⟩ := hrel
              have HK := hide hn
              clear hn
              by_cases hlt : k + 1 < s.size
              · have hlt' : (k : Int) < s.size - 1 := by omega
                have hks : k < s.size := by omega
                by_cases hc : s[k] = 34
                · have bc : ((s[k].toNat : Int) == 34) = true := by rw [hc]; rfl
                  have HR := hide (tag_within (x := s.data.toList) k (by rw [EL.out]; omega) hk1 (by rw [EL.out]; omega) hc)
                  clear hc
                  go_wp2
                  go_ret
                  exact ⟨ret_bool HR.out.symm, rfl⟩
                · have bc : ((s[k].toNat : Int) == 34) = false := u8ne (n := 34) (by decide) hc
                  have HI := hide (in_take (x := s.data.toList) (by rw [EL.out]; omega) hk1 HK.out hc)
                  clear hc
                  go_wp2
                  go_round
                  case rel => exact ⟨k + 1, by omega, by omega, by go_num, HI.out⟩
                  case measure => simp [intOf]; omega
              · have hlt' : ¬ (k : Int) < s.size - 1 := by omega
                have hkn : k = n + 1 := by have := HN.out; omega
                have HR := hide (HY.out (by rw [← hkn]; exact HK.out))
                clear hkn
                go_wp2
                go_ret
                exact ⟨ret_bool HR.out.symm, rfl⟩
        · have h12' : ¬ (s.size : Int) ≤ 12 := by omega
          have HR := hide (tag_long (x := s.data.toList) (by rw [EL.out]; omega))
          clear h0 h1
          go_enter Tryz.func122, Tryz.ntmps122
          go_wp2
          go_ret
          exact ⟨ret_bool HR.out.symm, rfl⟩
      · have b1 : ((s[s.size - 1].toNat : Int) != 34) = true := u8bn (n := 34) (by decide) h1
        have HR := hide (tag_last (x := s.data.toList) (s.size - 1) (by rw [EL.out]; omega) (by rw [EL.out]; omega) h1)
        clear h0 h1
        go_enter Tryz.func122, Tryz.ntmps122
        go_wp2
        go_ret
        exact ⟨ret_bool HR.out.symm, rfl⟩
    · have b0 : ((s[0].toNat : Int) != 34) = true := u8bn (n := 34) (by decide) h0
      have HR := hide (tag_first (x := s.data.toList) (by rw [EL.out]; omega) h0)
      clear h0
      go_enter Tryz.func122, Tryz.ntmps122
      go_wp2
      go_ret
      exact ⟨ret_bool HR.out.symm, rfl⟩
end Go.Proofs.YtfhcniifennfbaaGreatDoor
namespace Go.Proofs.YtfhcniifennfbaaGreatDoor
open Go.RowKit M
set_option linter.unusedVariables false

theorem to_tail {s : ByteArray} {a : Nat} {c : UInt8} (ha : a ≤ s.size) (h : toB s a c = false) : toA s a c ≤ s.size ∧ s.data.toList.drop (toA s a c) = (fromB c (s.data.toList.drop a)).tail ∧ toT s a c = upTo c (s.data.toList.drop a) := by
  have hf : fromB c (s.data.toList.drop a) ≠ [] := fun e => by unfold toB at h; rw [e] at h; cases h
  have h0 := upTo_from c (s.data.toList.drop a)
  have h1 := congrArg List.length h0
  rw [List.length_append, List.length_drop] at h1
  have hz : s.data.toList.length = s.size := Array.length_toList
  have hp : 0 < (fromB c (s.data.toList.drop a)).length := List.length_pos_iff.2 hf
  unfold toA toT
  rw [h, if_neg (by simp), if_neg (by simp)]
  refine ⟨by omega, ?_, rfl⟩
  have key : ∀ (u f X : List UInt8), u ++ f = X → X.drop (u.length + 1) = f.tail := by
    rintro u f X rfl
    rw [← List.drop_drop, List.drop_left, List.drop_one]
  rw [Nat.add_assoc, ← List.drop_drop]
  exact key _ _ _ h0
theorem toT_len {s : ByteArray} {a : Nat} {c : UInt8} : (toT s a c).length ≤ s.size := by
  have h0 := congrArg List.length (upTo_from c (s.data.toList.drop a))
  have hz : s.data.toList.length = s.size := Array.length_toList
  rw [List.length_append, List.length_drop, hz] at h0
  unfold toT
  split
  · simp
  · omega
theorem toA_le {s : ByteArray} {a : Nat} {c : UInt8} (ha : a ≤ s.size) : toA s a c ≤ s.size := by
  cases h : toB s a c
  · exact (to_tail ha h).1
  · unfold toA; rw [h, if_pos rfl]; exact Nat.le_refl _
theorem isPre_one (c : UInt8) (l : List UInt8) : [c].isPrefixOf l = decide (l.head? = some c) := prefix_c c l
theorem isPre_two (c d : UInt8) (l : List UInt8) : [c, d].isPrefixOf l = (decide (l.head? = some c) && decide (l.tail.head? = some d)) := by
  cases l with
  | nil => rfl
  | cons a r =>
    have h := isPre_one d r
    have h2 : [c, d].isPrefixOf (a :: r) = (c == a && [d].isPrefixOf r) := rfl
    rw [h2, h, List.head?_cons, List.tail_cons]
    congr 1
    by_cases e : a = c
    · subst e; simp
    · rw [decide_eq_false (fun h => e (Option.some.inj h)), beq_eq_false_iff_ne.2 (fun h => e h.symm)]
theorem isA_false {s : ByteArray} {a : Nat} {p : List UInt8} : isA s a false p = if p.isPrefixOf (s.data.toList.drop a) = true then a + p.length else a := by simp [isA, isZ]
theorem cutNot_is (s : ByteArray) (a : Nat) : cutNot (s.data.toList.drop a) = (isZ s a false notL, s.data.toList.drop (isA s a false notL)) := by
  unfold cutNot
  rw [isA_false]
  unfold isZ
  cases h : notL.isPrefixOf (s.data.toList.drop a)
  · simp
  · simp [List.drop_drop, notL]

/-- A Token is read. -/
def badT (s : ByteArray) (a : Nat) : Bool := toB s a 62 || (!(parseNum (toT s a 62) 9999).2 || decide ((parseNum (toT s a 62) 9999).1 < 1))
theorem tok_is (s : ByteArray) (a : Nat) (no : Bool) (ha : a ≤ s.size) (h : isZ s a false [60] = true) :
    bodyC no (s.data.toList.drop a) = if badT s (isA s a false [60]) = true then none else some (⟨no, (parseNum (toT s (isA s a false [60]) 62) 9999).1, ⟨#[]⟩⟩, s.data.toList.drop (toA s (isA s a false [60]) 62)) := by
  unfold isZ at h
  rw [Bool.not_false, Bool.true_and] at h
  have h60 : (s.data.toList.drop a).head? = some 60 := by rw [isPre_one] at h; simpa using h
  have hA : isA s a false [60] = a + 1 := by rw [isA_false, if_pos h]; rfl
  have hle : isA s a false [60] ≤ s.size := isA_le ha
  rw [hA] at hle ⊢
  have htl : (s.data.toList.drop a).tail = s.data.toList.drop (a + 1) := by rw [List.tail_drop]
  unfold bodyC
  rw [if_pos h60, htl]
  unfold tokC
  cases hb : toB s (a + 1) 62
  · obtain ⟨t1, t2, t3⟩ := to_tail hle hb
    have hf : ¬ fromB 62 (s.data.toList.drop (a + 1)) = [] := fun e => by unfold toB at hb; rw [e] at hb; cases hb
    rw [if_neg hf, ← t3]
    unfold badT numC
    rw [hb, Bool.false_or]
    cases hq : (parseNum (toT s (a + 1) 62) 9999).2
    · simp
    · by_cases h1 : 1 ≤ (parseNum (toT s (a + 1) 62) 9999).1
      · have h2 : decide ((parseNum (toT s (a + 1) 62) 9999).1 < 1) = false := decide_eq_false (by omega)
        rw [h2, if_pos ⟨rfl, h1⟩]
        simp [t2]
      · have h2 : decide ((parseNum (toT s (a + 1) 62) 9999).1 < 1) = true := decide_eq_true (by omega)
        rw [h2, if_neg (fun e => h1 e.2)]
        simp
  · have hf : fromB 62 (s.data.toList.drop (a + 1)) = [] := by unfold toB at hb; simpa using hb
    rw [if_pos hf]
    unfold badT
    rw [hb]
    simp
theorem tagB_in {m : List UInt8} (h : 34 ∉ m) : tagB (tagL m) = innB m := by
  cases hi : innB m
  · rw [Bool.eq_false_iff]
    intro e
    obtain ⟨m', e1, _, e3⟩ := (tagB_iff _).1 e
    have : m = m' := by simpa [tagL] using e1
    rw [this, e3] at hi
    cases hi
  · exact (tagB_iff _).2 ⟨m, rfl, h, hi⟩
/-- A mark is read. -/
def tgA (s : ByteArray) (a : Nat) : Nat := isA s a false [91, 34]
def tgB3 (s : ByteArray) (a : Nat) : Bool := !isZ s a false [91, 34] || toB s (tgA s a) 34
def tgM (s : ByteArray) (a : Nat) : List UInt8 := toT s (tgA s a) 34
def tgA3 (s : ByteArray) (a : Nat) : Nat := toA s (tgA s a) 34
def tgB4 (s : ByteArray) (a : Nat) : Bool := !isZ s (tgA3 s a) (tgB3 s a) [93]
def tgA4 (s : ByteArray) (a : Nat) : Nat := isA s (tgA3 s a) (tgB3 s a) [93]
def badG (s : ByteArray) (a : Nat) : Bool := tgB4 s a || (!tagB (tagL (tgM s a)) || decide (tgM s a = []))
theorem tag_is (s : ByteArray) (a : Nat) (no : Bool) (ha : a ≤ s.size) (h : isZ s a false [60] = false) :
    bodyC no (s.data.toList.drop a) = if badG s a = true then none else some (⟨no, 0, bytesOf (tagL (tgM s a))⟩, s.data.toList.drop (tgA4 s a)) := by
  unfold isZ at h
  rw [Bool.not_false, Bool.true_and] at h
  have h60 : ¬ (s.data.toList.drop a).head? = some 60 := by rw [isPre_one] at h; simpa using h
  unfold bodyC
  rw [if_neg h60]
  cases hz : [91, 34].isPrefixOf (s.data.toList.drop a)
  · have hb : badG s a = true := by
      have : tgB3 s a = true := by unfold tgB3 isZ; rw [hz]; rfl
      unfold badG tgB4 isZ
      rw [this]
      rfl
    rw [hb, if_pos rfl]
    rw [isPre_two, Bool.and_eq_false_iff] at hz
    by_cases h91 : (s.data.toList.drop a).head? = some 91
    · rw [if_pos h91]
      have h34 : ¬ (s.data.toList.drop a).tail.head? = some 34 := by
        rcases hz with hz | hz
        · simp [h91] at hz
        · simpa using hz
      unfold tagC
      have hc : cutT (s.data.toList.drop a).tail = none := by
        cases hl : (s.data.toList.drop a).tail with
        | nil => rfl
        | cons c r =>
          rw [hl] at h34
          rw [cutT, if_neg (fun e => h34 (by rw [e]; rfl))]
      rw [hc]
    · rw [if_neg h91]
  · have hA : tgA s a = a + 2 := by unfold tgA; rw [isA_false, if_pos hz]; rfl
    have hle : tgA s a ≤ s.size := isA_le ha
    have hzz : isZ s a false [91, 34] = true := by unfold isZ; rw [hz]; rfl
    rw [isPre_two, Bool.and_eq_true] at hz
    have h91 : (s.data.toList.drop a).head? = some 91 := by simpa using hz.1
    have h34 : (s.data.toList.drop a).tail.head? = some 34 := by simpa using hz.2
    have htl : (s.data.toList.drop a).tail = 34 :: s.data.toList.drop (tgA s a) := by
      cases hl : (s.data.toList.drop a).tail with
      | nil => rw [hl] at h34; cases h34
      | cons c r =>
        rw [hl] at h34
        cases h34
        have : r = (s.data.toList.drop a).tail.tail := by rw [hl]; rfl
        rw [this, List.tail_drop, List.tail_drop, hA]
    rw [if_pos h91, htl]
    unfold tagC
    rw [cutT, if_pos rfl]
    have hB3 : tgB3 s a = toB s (tgA s a) 34 := by unfold tgB3; rw [hzz]; rfl
    cases hb : toB s (tgA s a) 34
    · obtain ⟨t1, t2, t3⟩ := to_tail hle hb
      have hf : ¬ fromB 34 (s.data.toList.drop (tgA s a)) = [] := fun e => by unfold toB at hb; rw [e] at hb; cases hb
      have hm : 34 ∉ tgM s a := by unfold tgM; rw [t3]; exact M.upTo_not 34 _
      rw [if_neg hf, ← t3, ← t2]
      have hbad : badG s a = (!([93].isPrefixOf (s.data.toList.drop (tgA3 s a))) || (!innB (tgM s a) || decide (tgM s a = []))) := by
        unfold badG tgB4 isZ
        rw [hB3, hb, tagB_in hm]
        rfl
      have h4 : tgA4 s a = if [93].isPrefixOf (s.data.toList.drop (tgA3 s a)) = true then tgA3 s a + 1 else tgA3 s a := by
        unfold tgA4
        rw [hB3, hb, isA_false]
        rfl
      rw [hbad, h4]
      rw [isPre_one]
      show (match (if innB (tgM s a) = true then some (tgM s a, s.data.toList.drop (tgA3 s a)) else none) with | none => none | some (m, r) => if m = [] then none else if r.head? = some 93 then some ((⟨no, 0, bytesOf (tagL m)⟩ : Cn), r.tail) else none) = _
      cases hi : innB (tgM s a)
      · simp
      · by_cases hn : tgM s a = []
        · simp [hn]
        · by_cases h93 : (s.data.toList.drop (tgA3 s a)).head? = some 93
          · simp [hn, h93, List.tail_drop]
          · rw [decide_eq_false h93]
            show (if tgM s a = [] then none else if (s.data.toList.drop (tgA3 s a)).head? = some 93 then some ((⟨no, 0, bytesOf (tagL (tgM s a))⟩ : Cn), (s.data.toList.drop (tgA3 s a)).tail) else none) = none
            rw [if_neg hn, if_neg h93]
    · have hf : fromB 34 (s.data.toList.drop (tgA s a)) = [] := by unfold toB at hb; simpa using hb
      rw [if_pos hf]
      have hbad : badG s a = true := by
        unfold badG tgB4 isZ
        rw [hB3, hb]
        rfl
      rw [hbad]
      rfl
theorem cond_is (s : ByteArray) (a : Nat) : condL (s.data.toList.drop a) = bodyC (isZ s a false notL) (s.data.toList.drop (isA s a false notL)) := by
  unfold condL
  rw [cutNot_is]
/-- What the reading of one comes to. -/
def CondRet (s : ByteArray) (a N : Nat) (e : Ending) (w' : World) : Prop :=
  match condL (s.data.toList.drop a) with
  | none => (∃ c : Cn, e = .returned (.agg #[.bool c.no, .int .i64 c.tk, .string c.tg])) ∧ ∃ a', a' ≤ s.size ∧ Rd w' N s a' true
  | some (c, q) => e = .returned (.agg #[.bool c.no, .int .i64 c.tk, .string c.tg]) ∧ ∃ a', a' ≤ s.size ∧ s.data.toList.drop a' = q ∧ Rd w' N s a' false
theorem condRet_tok {s : ByteArray} {a N : Nat} (w' : World) (e : Ending) (bad : Bool) (ha : a ≤ s.size) (hz : isZ s (isA s a false notL) false [60] = true) (he : e = .returned (.agg #[.bool (isZ s a false notL), .int .i64 (parseNum (toT s (isA s (isA s a false notL) false [60]) 62) 9999).1, .string ⟨#[]⟩]))
    (hb : bad = badT s (isA s (isA s a false notL) false [60])) (hr : Rd w' N s (toA s (isA s (isA s a false notL) false [60]) 62) bad) : CondRet s a N e w' := by
  unfold CondRet
  rw [cond_is, tok_is _ _ _ (isA_le ha) hz]
  cases bad
  · rw [if_neg (by rw [← hb]; simp)]
    exact ⟨he, _, toA_le (isA_le (isA_le ha)), rfl, hr⟩
  · rw [if_pos hb.symm]
    exact ⟨⟨⟨_, _, _⟩, he⟩, _, toA_le (isA_le (isA_le ha)), hr⟩
theorem tgA4_le {s : ByteArray} {a : Nat} (ha : a ≤ s.size) : tgA4 s a ≤ s.size := isA_le (toA_le (isA_le ha))
theorem condRet_tag {s : ByteArray} {a N : Nat} (w' : World) (e : Ending) (bad : Bool) (ha : a ≤ s.size) (hz : isZ s (isA s a false notL) false [60] = false) (he : e = .returned (.agg #[.bool (isZ s a false notL), .int .i64 0, .string (bytesOf (tagL (tgM s (isA s a false notL))))]))
    (hb : bad = badG s (isA s a false notL)) (hr : Rd w' N s (tgA4 s (isA s a false notL)) bad) : CondRet s a N e w' := by
  unfold CondRet
  rw [cond_is, tag_is _ _ _ (isA_le ha) hz]
  cases bad
  · rw [if_neg (by rw [← hb]; simp)]
    exact ⟨he, _, tgA4_le (isA_le ha), rfl, hr⟩
  · rw [if_pos hb.symm]
    exact ⟨⟨⟨_, _, _⟩, he⟩, _, tgA4_le (isA_le ha), hr⟩
end Go.Proofs.YtfhcniifennfbaaGreatDoor
namespace Go.Proofs.YtfhcniifennfbaaGreatDoor
open Go.RowKit M

set_option maxHeartbeats 400000 in
theorem l1Digit_any (c : UInt8) (w : World) :
    Calls Tryz.prog 141 #[.int .u8 c.toNat] w fun e w' => e = .returned (.bool (isB c.toNat 4)) ∧ w' = w := by
  go_enter Tryz.func141, Tryz.ntmps141
  go_wp2_with (go_at_call 113; refine (l1In_any _ _ _ _).mono ?_; rintro e w' ⟨rfl, rfl⟩; rw [wrap64_u8, inB_digit])
  go_ret
  exact ⟨rfl, rfl⟩
end Go.Proofs.YtfhcniifennfbaaGreatDoor
namespace Go.Proofs.YtfhcniifennfbaaGreatDoor
open Go.RowKit

theorem ret_two {a b : Int} {x y : Bool} (h : (a, x) = (b, y)) : Ending.returned (.tuple #[.int .i64 a, .bool x]) = .returned (.tuple #[.int .i64 b, .bool y]) := by
  cases h; rfl

theorem below_bytes (w : World) (e : TypeId) (s : ByteArray) : Below w.heap.size w (Lib.bytesWorld w e s) :=
  ⟨rfl, rfl, rfl, by rw [Lib.bytesWorld_size]; omega, fun k hk => Lib.bytesWorld_at_old w e s k hk⟩

theorem ret_int {k : IntKind} {a b : Int} (h : a = b) : Ending.returned (.int k a) = .returned (.int k b) := by rw [h]
end Go.Proofs.YtfhcniifennfbaaGreatDoor
namespace Go.Proofs.YtfhcniifennfbaaGreatDoor
open Go.RowKit M

set_option maxHeartbeats 1000000 in
theorem specParseNum_any (s : ByteArray) (most : Int) (w : World) (hs : s.size ≤ maxLen) :
    Calls Tryz.prog 143 #[.string s, .int .i64 most] w fun e w' => e = .returned (.tuple #[.int .i64 (parseNum s.data.toList most).1, .bool (parseNum s.data.toList most).2]) ∧ w' = w := by
  have ell := len_list s
  have EL : Hid (s.data.toList.length = s.size) := ell
  clear ell
  unfold maxLen at hs
  go_enter Tryz.func143, Tryz.ntmps143
  go_wp2
  go_loop [6, 7] (fun n i => ∃ k : Nat, k ≤ s.size ∧ k ≤ 8 ∧ i = .int .i64 k ∧ n = .int .i64 (decVal (s.data.toList.take k)) ∧ digs (s.data.toList.take k) = true) (fun _ i => s.size - (intOf i).toNat)
  case atStart => exact ⟨0, Nat.zero_le _, Nat.zero_le _, rfl, rfl, rfl⟩
  case round =>
    obtain ⟨k, hk, hk8, rfl, rfl, hn⟩ := hrel
    have HN : Hid (digs (s.data.toList.take k) = true) := hn
    have hv : decVal (s.data.toList.take k) < 100000000 := by
      have h1 := decVal_lt _ hn
      have h2 : (s.data.toList.take k).length ≤ k := List.length_take_le _ _
      have h3 := Nat.pow_le_pow_right (show 0 < 10 by decide) h2
      have h4 := pow_le8 hk8
      omega
    clear hn
    by_cases hlt : k < s.size
    · by_cases hl8 : k < 8
      · cases hb : isB ((s[k]).toNat : Int) 4
        · go_wp2_with (go_at_call 141; refine (l1Digit_any _ _).mono ?_; rintro e w' ⟨rfl, rfl⟩; rw [hb])
          go_ret2
          refine ⟨ret_two ?_, rfl⟩
          rw [parseNum_no (not_digs (digs_not s k hlt hb))]
        · have hc := isB4 hb
          have HV : Hid (decVal (s.data.toList.take (k + 1)) = decVal (s.data.toList.take k) * 10 + (s[k].toNat - 48)) := decVal_step s k hlt
          generalize decVal (s.data.toList.take k) = v at *
          go_wp2_with (go_at_call 141; refine (l1Digit_any _ _).mono ?_; rintro e w' ⟨rfl, rfl⟩; rw [hb])
          go_round
          case rel =>
            refine ⟨k + 1, by omega, by omega, by go_num, ?_, digs_snoc s k hlt HN.out hb⟩
            rw [HV.out]
            congr 1
            omega
          case measure => simp [intOf]; omega
      · have hin : inB (s.size : Int) 1 7 = false := by simp [inB]; omega
        go_wp2_with (go_at_call 113; refine (l1In_any _ _ _ _).mono ?_; rintro e w' ⟨rfl, rfl⟩; rw [hin])
        go_ret2
        exact ⟨ret_two (by rw [parseNum_no (not_size hin)]), rfl⟩
    · have HD : Hid (digs s.data.toList = true) := by
        have := HN.out
        rwa [take_all s k hlt] at this
      rw [take_all s k hlt] at hv ⊢
      cases hin : inB (s.size : Int) 1 7
      · go_wp2_with (go_at_call 113; refine (l1In_any _ _ _ _).mono ?_; rintro e w' ⟨rfl, rfl⟩; rw [hin])
        go_ret2
        exact ⟨ret_two (by rw [parseNum_no (not_size hin)]), rfl⟩
      · have h0 : 0 < s.size := by simp [inB] at hin; omega
        have hk1 : ¬ (k : Int) < s.size := by omega
        by_cases h1 : 1 < s.size
        · have h1' : (1 : Int) < s.size := by omega
          cases hz : (((s[0]).toNat : Int) == 48)
          · by_cases hm : most < (decVal s.data.toList : Int)
            · have HP := parseNum_no (not_most hm)
              have HQ : Hid (parseNum s.data.toList most = (0, false)) := HP
              clear HP
              go_wp2_with (go_at_call 113; refine (l1In_any _ _ _ _).mono ?_; rintro e w' ⟨rfl, rfl⟩; rw [hin])
              go_ret2
              exact ⟨ret_two (by rw [HQ.out]), rfl⟩
            · have HQ : Hid (parseNum s.data.toList most = ((decVal s.data.toList : Int), true)) := parseNum_yes (is_ok h0 hin HD.out (fun _ => hz) hm)
              go_wp2_with (go_at_call 113; refine (l1In_any _ _ _ _).mono ?_; rintro e w' ⟨rfl, rfl⟩; rw [hin])
              go_ret2
              exact ⟨ret_two (by rw [HQ.out]), rfl⟩
          · have HQ : Hid (parseNum s.data.toList most = (0, false)) := parseNum_no (not_nought h0 h1 hz)
            go_wp2_with (go_at_call 113; refine (l1In_any _ _ _ _).mono ?_; rintro e w' ⟨rfl, rfl⟩; rw [hin])
            go_ret2
            exact ⟨ret_two (by rw [HQ.out]), rfl⟩
        · have h1' : ¬ (1 : Int) < s.size := by omega
          by_cases hm : most < (decVal s.data.toList : Int)
          · have HQ : Hid (parseNum s.data.toList most = (0, false)) := parseNum_no (not_most hm)
            go_wp2_with (go_at_call 113; refine (l1In_any _ _ _ _).mono ?_; rintro e w' ⟨rfl, rfl⟩; rw [hin])
            go_ret2
            exact ⟨ret_two (by rw [HQ.out]), rfl⟩
          · have HQ : Hid (parseNum s.data.toList most = ((decVal s.data.toList : Int), true)) := parseNum_yes (is_ok h0 hin HD.out (fun h => absurd h h1) hm)
            go_wp2_with (go_at_call 113; refine (l1In_any _ _ _ _).mono ?_; rintro e w' ⟨rfl, rfl⟩; rw [hin])
            go_ret2
            exact ⟨ret_two (by rw [HQ.out]), rfl⟩
end Go.Proofs.YtfhcniifennfbaaGreatDoor
namespace Go.Proofs.YtfhcniifennfbaaGreatDoor
open Go.RowKit M
set_option linter.unusedVariables false

theorem Turn.setNew {N : Nat} {w w' : World} (h : Turn (At N) w w') (p : Addr) (v : Value) (hp : w.heap.size ≤ p.block) : Turn (At N) w (w'.setCell p v) :=
  ⟨h.os, h.tape, h.output, by simpa using h.size, fun i hi hS => (Below.heap_setCell w' p v i (fun e => by omega)).trans (h.block i hi hS)⟩
theorem turn_alloc {N : Nat} {w w' : World} (h : Turn (At N) w w') (o : Obj) : Turn (At N) w (w'.alloc o) := h.trans (Turn.of_below ((Below.refl _ _).alloc (Nat.le_refl _) o))

set_option maxRecDepth 100000 in
set_option maxHeartbeats 8000000 in
theorem l14Cond_any (N : Nat) (s : ByteArray) (a : Nat) (w : World) (h : Rd w N s a false) (ha : a ≤ s.size) (hs : s.size ≤ 67108864) :
    Calls Tryz.prog 117 #[.pointer (some ⟨N, 0, none⟩)] w fun e w' => CondRet s a N e w' ∧ Turn (At N) w w' := by
  have hN := h.lt
  have bR := (Below.refl w.heap.size w).alloc (Nat.le_refl _) (Obj.cells #[.bool false, .int .i64 0, .string { data := #[] }] 136)
  have XR := hide (BoxV.made w [.bool false, .int .i64 0, .string { data := #[] }] 136)
  have T0 := hide (Turn.of_below (S := At N) bR)
  have HQ1 := hide (l14Is_any N s ⟨#[78, 111, 116, 32]⟩ notL rfl a false _ (h.next bR) ha (by omega) (by decide))
  have HZ := hide (@condRet_tok s a N)
  have HG := hide (@condRet_tag s a N)
  have hz0 : (w.alloc (Obj.cells #[.bool false, .int .i64 0, .string { data := #[] }] 136)).heap.size = w.heap.size + 1 := by simp
  obtain ⟨z1, hz1⟩ : ∃ z, isZ s a false notL = z := ⟨_, rfl⟩
  have ha1 : isA s a false notL ≤ s.size := isA_le ha
  obtain ⟨a1, hA1⟩ : ∃ z, isA s a false notL = z := ⟨_, rfl⟩
  rw [hz1, hA1] at HQ1 HZ HG
  rw [hA1] at ha1
  clear h bR hz1 hA1
  go_enter Tryz.func117, Tryz.ntmps117
  go_wp2_with fail
  refine HQ1.out.mono ?_
  rintro e w1 ⟨rfl, r1, t1⟩
  have hz1 := t1.size
  have R1 := hide (r1.next ((Below.refl w1.heap.size w1).alloc (Nat.le_refl _) (Obj.cells #[.bool z1, .int .i64 0, .string { data := #[] }] 136)))
  have T1 := hide (turn_alloc (T0.out.trans t1) (Obj.cells #[.bool z1, .int .i64 0, .string { data := #[] }] 136))
  have XR1 := hide ((XR.out.turn t1 (fun e => by omega)).alloc (Obj.cells #[.bool z1, .int .i64 0, .string { data := #[] }] 136))
  have XX1 := hide (BoxV.made w1 [.bool z1, .int .i64 0, .string { data := #[] }] 136)
  have hz2 : w.heap.size + 1 ≤ w1.heap.size := by omega
  have HQ2 := hide (l14Is_any N s ⟨#[60]⟩ [60] rfl a1 false _ R1.out ha1 (by omega) (by decide))
  obtain ⟨z2, hzz⟩ : ∃ z, isZ s a1 false [60] = z := ⟨_, rfl⟩
  have ha2 : isA s a1 false [60] ≤ s.size := isA_le ha1
  obtain ⟨a2, hA2⟩ : ∃ z, isA s a1 false [60] = z := ⟨_, rfl⟩
  rw [hzz, hA2] at HQ2 HZ
  rw [hzz] at HG
  rw [hA2] at ha2
  have HZZ := hide (show z2 = false → a2 = a1 from fun e => by rw [← hA2]; unfold isA; rw [hzz, e]; rfl)
  clear r1 t1 T0 XR HQ1 hzz hA2
  go_wp2_with fail
  refine HQ2.out.mono ?_
  rintro e w2 ⟨rfl, r2, t2⟩
  have hz3 := t2.size
  have hz4 : w1.heap.size + 1 ≤ w2.heap.size := by simpa using hz3
  have R2 := hide r2
  have T2 := hide (T1.out.trans t2)
  have XR2 := hide (XR1.out.turn t2 (fun e => by omega))
  have XX2 := hide (XX1.out.turn t2 (fun e => by omega))
  clear r2 t2 T1 XR1 XX1 HQ2 R1 hz3
  cases z2
  · have e12 := HZZ.out rfl
    rw [e12] at R2
    clear HZ HZZ e12 ha2
    have HQ3 := hide (l14Must_any N s ⟨#[91, 34]⟩ [91, 34] rfl a1 false w2 R2.out ha1 (by omega) (by decide))
    rw [show isA s a1 false [91, 34] = tgA s a1 from rfl] at HQ3
    have hA2 : tgA s a1 ≤ s.size := isA_le ha1
    have hA3 : tgA3 s a1 ≤ s.size := toA_le hA2
    have HQ4 := hide (fun W (h : Rd W N s (tgA s a1) (!isZ s a1 false [91, 34])) => l14To_any N s 34 (tgA s a1) (!isZ s a1 false [91, 34]) W h hA2 (by omega))
    rw [show toT s (tgA s a1) 34 = tgM s a1 from rfl, show toA s (tgA s a1) 34 = tgA3 s a1 from rfl, show (!isZ s a1 false [91, 34] || toB s (tgA s a1) 34) = tgB3 s a1 from rfl, show ((34 : UInt8).toNat : Int) = 34 from rfl] at HQ4
    have HQ5 := hide (fun W (h : Rd W N s (tgA3 s a1) (tgB3 s a1)) => l14Must_any N s ⟨#[93]⟩ [93] rfl (tgA3 s a1) (tgB3 s a1) W h hA3 (by omega) (by decide))
    rw [show isA s (tgA3 s a1) (tgB3 s a1) [93] = tgA4 s a1 from rfl, show (!isZ s (tgA3 s a1) (tgB3 s a1) [93]) = tgB4 s a1 from rfl] at HQ5
    have HBD0 := hide (show badG s a1 = (tgB4 s a1 || (!tagB (tagL (tgM s a1)) || decide (tgM s a1 = []))) from rfl)
    have hml : (tgM s a1).length ≤ 67108864 := Nat.le_trans toT_len hs
    obtain ⟨m, hm⟩ : ∃ z, tgM s a1 = z := ⟨_, rfl⟩
    obtain ⟨A2, hA2e⟩ : ∃ z, tgA s a1 = z := ⟨_, rfl⟩
    obtain ⟨A3, hA3e⟩ : ∃ z, tgA3 s a1 = z := ⟨_, rfl⟩
    obtain ⟨A4, hA4e⟩ : ∃ z, tgA4 s a1 = z := ⟨_, rfl⟩
    obtain ⟨B2, hB2e⟩ : ∃ z, (!isZ s a1 false [91, 34]) = z := ⟨_, rfl⟩
    obtain ⟨B3, hB3e⟩ : ∃ z, tgB3 s a1 = z := ⟨_, rfl⟩
    obtain ⟨B4, hB4e⟩ : ∃ z, tgB4 s a1 = z := ⟨_, rfl⟩
    obtain ⟨bad, hbad⟩ : ∃ z, badG s a1 = z := ⟨_, rfl⟩
    have HBD := hide hbad
    rw [hm] at HQ4 HBD0 HG hml
    rw [hA2e] at HQ3 HQ4
    rw [hA3e] at HQ4 HQ5
    rw [hA4e] at HQ5 HG
    rw [hB2e] at HQ3 HQ4
    rw [hB3e] at HQ4 HQ5
    rw [hB4e] at HQ5 HBD0
    rw [hbad] at HBD0
    have hbs : (bytesOf m).size ≤ 67108864 := by rw [bytesOf_size]; exact hml
    have HTG := hide (show (⟨#[34]⟩ : ByteArray) ++ bytesOf m ++ ⟨#[34]⟩ = bytesOf (tagL m) by apply ByteArray.ext; simp [bytesOf, tagL])
    have HL9 := hide (fun W => l9Tag_any (bytesOf (tagL m)) W (by rw [bytesOf_size, show (tagL m).length = m.length + 2 by simp [tagL]]; unfold maxLen; omega))
    rw [show (bytesOf (tagL m)).data.toList = tagL m from rfl] at HL9
    have hE0 : (bytesOf m).toList.isEmpty = decide (m = []) := by
      rw [ByteArray.toList_eq]
      show m.toArray.toList.isEmpty = decide (m = [])
      cases m <;> simp
    obtain ⟨tb, htb⟩ : ∃ z, tagB (tagL m) = z := ⟨_, rfl⟩
    obtain ⟨em, hem⟩ : ∃ z, decide (m = []) = z := ⟨_, rfl⟩
    rw [htb] at HL9 HBD0
    rw [hem] at HBD0 hE0
    clear hm hA2e hA3e hA4e hB2e hB3e hB4e hbad htb hem hA2 hA3
    have hNX : N ≠ w1.heap.size := by omega
    have hNR : N ≠ w.heap.size := by omega
    have hXR : w1.heap.size ≠ w.heap.size := by omega
    go_wp2_with fail
    refine HQ3.out.mono ?_
    rintro e w3 ⟨rfl, r3, t3⟩
    have hz5 := t3.size
    have R3 := hide r3
    have T3 := hide (T2.out.trans t3)
    have XR3 := hide (XR2.out.turn t3 (fun e => by omega))
    have XX3 := hide (XX2.out.turn t3 (fun e => by omega))
    clear r3 t3 T2 XR2 XX2 HQ3 R2
    go_wp2_with fail
    refine (HQ4.out _ R3.out).mono ?_
    rintro e w4 ⟨rfl, r4, t4⟩
    have hz6 := t4.size
    have R4 := hide r4
    have T4 := hide (T3.out.trans t4)
    have XR4 := hide (XR3.out.turn t4 (fun e => by omega))
    have XX4 := hide (XX3.out.turn t4 (fun e => by omega))
    clear r4 t4 T3 XR3 XX3 HQ4 R3
    go_wp2_with fail
    refine (HQ5.out _ R4.out).mono ?_
    rintro e w5 ⟨rfl, r5, t5⟩
    have hz7 := t5.size
    have XR5 := hide (XR4.out.turn t5 (fun e => by omega))
    have XX5 := hide (XX4.out.turn t5 (fun e => by omega))
    obtain ⟨x2, g2⟩ := XX5.out.2 2 _ rfl
    obtain ⟨tg, htg⟩ : ∃ z, (⟨#[34]⟩ : ByteArray) ++ bytesOf m ++ ⟨#[34]⟩ = z := ⟨_, rfl⟩
    rw [htg] at HTG
    rw [← HTG.out] at HL9 HG
    have XX6 := hide (XX5.out.set 2 (by simp) (.string tg))
    have XR6 := hide (XR5.out.other ⟨w1.heap.size, 2, none⟩ (.string tg) hXR)
    have T6 := hide ((T4.out.trans t5).setNew ⟨w1.heap.size, 2, none⟩ (.string tg) (by show w.heap.size ≤ w1.heap.size; omega))
    have R6 := hide (r5.other ⟨w1.heap.size, 2, none⟩ (.string tg) (fun e => hNX e.symm))
    obtain ⟨w6, hw6⟩ : ∃ W, w5.setCell ⟨w1.heap.size, 2, none⟩ (.string tg) = W := ⟨_, rfl⟩
    rw [hw6] at XX6 XR6 T6 R6
    have n2 := R6.out.c2
    have f2 := R6.out.fz 2
    have v2 := (XX6.out.2 2 _ rfl).1
    have XX7 := hide (XX6.out.other ⟨N, 2, none⟩ (.bool bad) hNX)
    have XR7 := hide (XR6.out.other ⟨N, 2, none⟩ (.bool bad) hNR)
    have T7 := hide (T6.out.trans (Turn.set _ ⟨N, 2, none⟩ (.bool bad) rfl))
    have R7 := hide (R6.out.turned bad)
    obtain ⟨w7, hw7⟩ : ∃ W, w6.setCell ⟨N, 2, none⟩ (.bool bad) = W := ⟨_, rfl⟩
    rw [hw7] at XX7 XR7 T7 R7
    have y0 := (XX7.out.2 0 _ rfl).1
    have y1 := (XX7.out.2 1 _ rfl).1
    have y2 := (XX7.out.2 2 _ rfl).1
    obtain ⟨q0, k0⟩ := XR7.out.2 0 _ rfl
    obtain ⟨q1, k1⟩ := XR7.out.2 1 _ rfl
    obtain ⟨q2, k2⟩ := XR7.out.2 2 _ rfl
    have R8 := hide (((R7.out.other ⟨w.heap.size, 0, none⟩ (.bool z1) (fun e => hNR e.symm)).other ⟨w.heap.size, 1, none⟩ (.int .i64 0) (fun e => hNR e.symm)).other ⟨w.heap.size, 2, none⟩ (.string tg) (fun e => hNR e.symm))
    have T8 := hide (((T7.out.setNew ⟨w.heap.size, 0, none⟩ (.bool z1) (Nat.le_refl _)).setNew ⟨w.heap.size, 1, none⟩ (.int .i64 0) (Nat.le_refl _)).setNew ⟨w.heap.size, 2, none⟩ (.string tg) (Nat.le_refl _))
    have HF := hide (fun W (e : bad = badG s a1) => HG.out W _ bad ha (by trivial) rfl e)
    clear r5 t5 T4 XR4 XX4 HQ5 R4 XR5 XX5 XX6 XR6 T6 R6 XX7 XR7 T7 R7 HG HTG
    cases B4
    · cases tb
      · cases em
        · have hb1 : bad = true := by rw [HBD0.out]; rfl
          subst hb1
          go_wp2_with fail
          refine (HL9.out _).mono ?_
          rintro e w8 ⟨rfl, hw⟩
          obtain rfl := hw.symm
          clear hw
          go_wp2
          refine bodyPost_ret (v := .agg #[.bool z1, .int .i64 0, .string tg]) (by simp [results, Tryz.results117, go_sem, q0, q1, q2]) rfl ⟨HF.out _ HBD.out.symm R8.out, T8.out⟩
        · have hb1 : bad = true := by rw [HBD0.out]; rfl
          subst hb1
          go_wp2_with fail
          refine (HL9.out _).mono ?_
          rintro e w8 ⟨rfl, hw⟩
          obtain rfl := hw.symm
          clear hw
          go_wp2
          refine bodyPost_ret (v := .agg #[.bool z1, .int .i64 0, .string tg]) (by simp [results, Tryz.results117, go_sem, q0, q1, q2]) rfl ⟨HF.out _ HBD.out.symm R8.out, T8.out⟩
      · cases em
        · have hb1 : bad = false := by rw [HBD0.out]; rfl
          subst hb1
          go_wp2_with fail
          refine (HL9.out _).mono ?_
          rintro e w8 ⟨rfl, hw⟩
          obtain rfl := hw.symm
          clear hw
          go_wp2
          refine bodyPost_ret (v := .agg #[.bool z1, .int .i64 0, .string tg]) (by simp [results, Tryz.results117, go_sem, q0, q1, q2]) rfl ⟨HF.out _ HBD.out.symm R8.out, T8.out⟩
        · have hb1 : bad = true := by rw [HBD0.out]; rfl
          subst hb1
          go_wp2_with fail
          refine (HL9.out _).mono ?_
          rintro e w8 ⟨rfl, hw⟩
          obtain rfl := hw.symm
          clear hw
          go_wp2
          refine bodyPost_ret (v := .agg #[.bool z1, .int .i64 0, .string tg]) (by simp [results, Tryz.results117, go_sem, q0, q1, q2]) rfl ⟨HF.out _ HBD.out.symm R8.out, T8.out⟩
    · have hb1 : bad = true := by rw [HBD0.out]; rfl
      subst hb1
      go_wp2
      refine bodyPost_ret (v := .agg #[.bool z1, .int .i64 0, .string tg]) (by simp [results, Tryz.results117, go_sem, q0, q1, q2]) rfl ⟨HF.out _ HBD.out.symm R8.out, T8.out⟩
  · clear HG HZZ
    have HQ3 := hide (l14To_any N s 62 a2 false w2 R2.out ha2 (by omega))
    rw [show ((62 : UInt8).toNat : Int) = 62 from rfl, Bool.false_or] at HQ3
    obtain ⟨t, ht⟩ : ∃ t, toT s a2 62 = t := ⟨_, rfl⟩
    obtain ⟨b, hb⟩ : ∃ b, toB s a2 62 = b := ⟨_, rfl⟩
    obtain ⟨a3, hA3⟩ : ∃ b, toA s a2 62 = b := ⟨_, rfl⟩
    have HB := hide (show badT s a2 = (b || (!(parseNum t 9999).2 || decide ((parseNum t 9999).1 < 1))) by unfold badT; rw [ht, hb])
    have htl : t.length ≤ s.size := by rw [← ht]; exact toT_len
    rw [ht, hb, hA3] at HQ3
    rw [ht, hA3] at HZ
    have HPN := hide (fun W => specParseNum_any (bytesOf t) 9999 W (by rw [bytesOf_size]; unfold maxLen; omega))
    rw [show (bytesOf t).data.toList = t from rfl] at HPN
    obtain ⟨n, hn⟩ : ∃ n, (parseNum t 9999).1 = n := ⟨_, rfl⟩
    obtain ⟨ok, hok⟩ : ∃ n, (parseNum t 9999).2 = n := ⟨_, rfl⟩
    rw [hn, hok] at HPN HB
    rw [hn] at HZ
    clear ht hb hA3 hn hok htl
    go_wp2_with fail
    refine HQ3.out.mono ?_
    rintro e w3 ⟨rfl, r3, t3⟩
    have hz5 := t3.size
    have R3 := hide r3
    have T3 := hide (T2.out.trans t3)
    have XR3 := hide (XR2.out.turn t3 (fun e => by omega))
    have XX3 := hide (XX2.out.turn t3 (fun e => by omega))
    clear r3 t3 T2 XR2 XX2 HQ3 R2
    go_wp2_with fail
    refine (HPN.out _).mono ?_
    rintro e w3' ⟨rfl, hw⟩
    obtain rfl := hw.symm
    clear hw HPN
    have hNX : N ≠ w1.heap.size := by omega
    have hNR : N ≠ w.heap.size := by omega
    have hXR : w1.heap.size ≠ w.heap.size := by omega
    obtain ⟨x1, g1⟩ := XX3.out.2 1 _ rfl
    have XX4 := hide (XX3.out.set 1 (by simp) (.int .i64 n))
    have XR4 := hide (XR3.out.other ⟨w1.heap.size, 1, none⟩ (.int .i64 n) hXR)
    have T4 := hide (T3.out.setNew ⟨w1.heap.size, 1, none⟩ (.int .i64 n) (by show w.heap.size ≤ w1.heap.size; omega))
    have R4 := hide (R3.out.other ⟨w1.heap.size, 1, none⟩ (.int .i64 n) (fun e => hNX e.symm))
    obtain ⟨w4, hw4⟩ : ∃ W, w3.setCell ⟨w1.heap.size, 1, none⟩ (.int .i64 n) = W := ⟨_, rfl⟩
    rw [hw4] at XX4 XR4 T4 R4
    have n2 := R4.out.c2
    have f2 := R4.out.fz 2
    obtain ⟨bad, hbad⟩ : ∃ z, badT s a2 = z := ⟨_, rfl⟩
    have HBD := hide hbad
    rw [hbad] at HB
    have XX5 := hide (XX4.out.other ⟨N, 2, none⟩ (.bool bad) hNX)
    have XR5 := hide (XR4.out.other ⟨N, 2, none⟩ (.bool bad) hNR)
    have T5 := hide (T4.out.trans (Turn.set _ ⟨N, 2, none⟩ (.bool bad) rfl))
    have R5 := hide (R4.out.turned bad)
    obtain ⟨w5, hw5⟩ : ∃ W, w4.setCell ⟨N, 2, none⟩ (.bool bad) = W := ⟨_, rfl⟩
    rw [hw5] at XX5 XR5 T5 R5
    have y0 := (XX5.out.2 0 _ rfl).1
    have y1 := (XX5.out.2 1 _ rfl).1
    have y2 := (XX5.out.2 2 _ rfl).1
    obtain ⟨q0, k0⟩ := XR5.out.2 0 _ rfl
    obtain ⟨q1, k1⟩ := XR5.out.2 1 _ rfl
    obtain ⟨q2, k2⟩ := XR5.out.2 2 _ rfl
    have R6 := hide (((R5.out.other ⟨w.heap.size, 0, none⟩ (.bool z1) (fun e => hNR e.symm)).other ⟨w.heap.size, 1, none⟩ (.int .i64 n) (fun e => hNR e.symm)).other ⟨w.heap.size, 2, none⟩ (.string { data := #[] }) (fun e => hNR e.symm))
    have T6 := hide (((T5.out.setNew ⟨w.heap.size, 0, none⟩ (.bool z1) (Nat.le_refl _)).setNew ⟨w.heap.size, 1, none⟩ (.int .i64 n) (Nat.le_refl _)).setNew ⟨w.heap.size, 2, none⟩ (.string { data := #[] }) (Nat.le_refl _))
    have HF := hide (fun W (e : bad = badT s a2) => HZ.out W _ bad ha (by trivial) rfl e)
    clear R3 T3 XR3 XX3 hbad XX4 XR4 XX5 XR5 T4 R4 T5 R5 HZ
    by_cases hlt : n < 1
    · have hl2 : decide (n < 1) = true := decide_eq_true hlt
      rw [hl2] at HB
      cases b
      · cases ok
        · have hb1 : bad = true := by rw [HB.out]; rfl
          subst hb1
          go_wp2
          refine bodyPost_ret (v := .agg #[.bool z1, .int .i64 n, .string { data := #[] }]) (by simp [results, Tryz.results117, go_sem, q0, q1, q2]) rfl ⟨HF.out _ HBD.out.symm R6.out, T6.out⟩
        · have hb1 : bad = true := by rw [HB.out]; rfl
          subst hb1
          go_wp2
          refine bodyPost_ret (v := .agg #[.bool z1, .int .i64 n, .string { data := #[] }]) (by simp [results, Tryz.results117, go_sem, q0, q1, q2]) rfl ⟨HF.out _ HBD.out.symm R6.out, T6.out⟩
      · cases ok
        · have hb1 : bad = true := by rw [HB.out]; rfl
          subst hb1
          go_wp2
          refine bodyPost_ret (v := .agg #[.bool z1, .int .i64 n, .string { data := #[] }]) (by simp [results, Tryz.results117, go_sem, q0, q1, q2]) rfl ⟨HF.out _ HBD.out.symm R6.out, T6.out⟩
        · have hb1 : bad = true := by rw [HB.out]; rfl
          subst hb1
          go_wp2
          refine bodyPost_ret (v := .agg #[.bool z1, .int .i64 n, .string { data := #[] }]) (by simp [results, Tryz.results117, go_sem, q0, q1, q2]) rfl ⟨HF.out _ HBD.out.symm R6.out, T6.out⟩
    · have hl2 : decide (n < 1) = false := decide_eq_false hlt
      rw [hl2] at HB
      cases b
      · cases ok
        · have hb1 : bad = true := by rw [HB.out]; rfl
          subst hb1
          go_wp2
          refine bodyPost_ret (v := .agg #[.bool z1, .int .i64 n, .string { data := #[] }]) (by simp [results, Tryz.results117, go_sem, q0, q1, q2]) rfl ⟨HF.out _ HBD.out.symm R6.out, T6.out⟩
        · have hb1 : bad = false := by rw [HB.out]; rfl
          subst hb1
          go_wp2
          refine bodyPost_ret (v := .agg #[.bool z1, .int .i64 n, .string { data := #[] }]) (by simp [results, Tryz.results117, go_sem, q0, q1, q2]) rfl ⟨HF.out _ HBD.out.symm R6.out, T6.out⟩
      · cases ok
        · have hb1 : bad = true := by rw [HB.out]; rfl
          subst hb1
          go_wp2
          refine bodyPost_ret (v := .agg #[.bool z1, .int .i64 n, .string { data := #[] }]) (by simp [results, Tryz.results117, go_sem, q0, q1, q2]) rfl ⟨HF.out _ HBD.out.symm R6.out, T6.out⟩
        · have hb1 : bad = true := by rw [HB.out]; rfl
          subst hb1
          go_wp2
          refine bodyPost_ret (v := .agg #[.bool z1, .int .i64 n, .string { data := #[] }]) (by simp [results, Tryz.results117, go_sem, q0, q1, q2]) rfl ⟨HF.out _ HBD.out.symm R6.out, T6.out⟩
end Go.Proofs.YtfhcniifennfbaaGreatDoor
namespace Go.Proofs.YtfhcniifennfbaaGreatDoor
open Go.RowKit M
set_option linter.unusedVariables false

theorem infoCn : (Tryz.prog.info? 136).map (fun i => (i.zero, i.size, i.bytes)) = some (some (.agg #[.bool false, .int .i64 0, .string { data := #[] }]), 3, 32) := by kernel_rfl
theorem Turn.belowN {S : Nat → Prop} {a b c : World} (h : Turn S a b) (k : Below a.heap.size b c) : Turn S a c :=
  ⟨k.os.trans h.os, k.tape.trans h.tape, k.output.trans h.output, Nat.le_trans h.size k.size, fun i hi hS => (k.block i hi).trans (h.block i hi hS)⟩
theorem Turn.belowW {S : Nat → Prop} {a b c : World} (h : Turn S a b) (k : Below a.heap.size b c) : Turn S a c := h.belowN k
theorem Rd.nextB {w w' : World} {N a L : Nat} {s : ByteArray} {bad : Bool} (h : Rd w N s a bad) (hb : Below L w w') (hN : N < L) : Rd w' N s a bad :=
  ⟨Nat.lt_of_lt_of_le h.lt hb.size, fun k => (hb.frozen (p := ⟨N, k, none⟩) hN).trans (h.fz k), (hb.cell (p := ⟨N, 0, none⟩) hN).trans h.c0, (hb.cell (p := ⟨N, 1, none⟩) hN).trans h.c1, (hb.cell (p := ⟨N, 2, none⟩) hN).trans h.c2⟩
theorem OwnG.turnN {α : Type} {cs : α → List Value} {K : Nat} {tE : TypeId} {w w' : World} {B N g n c : Nat} {l : List α} (h : OwnG tE K cs w B (.slice (some ⟨g, 0, none⟩) n c) l) (t : Turn (At N) w w') (hN : N < B) : OwnG tE K cs w' B (.slice (some ⟨g, 0, none⟩) n c) l := by
  have hl := World.ownsRow.lt h g rfl
  exact h.keepB (t.block g hl.2 (fun e => by have : g = N := e; omega))

/-- On the way through one list. -/
def LInv (s : ByteArray) (a : Nat) (acc : List Cn) (a1 : Nat) (bad ag : Bool) : Prop :=
  (bad = true → listL (s.data.toList.drop a) = none) ∧ (bad = false → (s.data.toList.drop a).head? = some 40 ∧ (ag = true → condsL (s.data.toList.drop a).tail = (condsL (s.data.toList.drop a1)).map fun x => (acc ++ x.1, x.2)) ∧ (ag = false → condsL (s.data.toList.drop a).tail = some (acc, s.data.toList.drop a1)))
theorem LInv.start (s : ByteArray) (a : Nat) : LInv s a [] (isA s a false [40]) (!isZ s a false [40]) true := by
  unfold LInv
  rw [isA_false]
  unfold isZ
  rw [Bool.not_false, Bool.true_and, isPre_one]
  by_cases h : (s.data.toList.drop a).head? = some 40
  · rw [decide_eq_true h]
    refine ⟨fun e => (by cases e), fun _ => ⟨h, fun _ => ?_, fun e => (by cases e)⟩⟩
    simp only [if_true, List.length_cons, List.length_nil, List.nil_append, List.tail_drop]
    cases condsL (s.data.toList.drop (a + 1)) <;> rfl
  · rw [decide_eq_false h]
    refine ⟨fun _ => ?_, fun e => (by cases e)⟩
    unfold listL
    rw [if_neg h]
theorem LInv.no {s : ByteArray} {a a1 a2 : Nat} {acc acc2 : List Cn} (h : LInv s a acc a1 false true) (hc : condL (s.data.toList.drop a1) = none) (ag : Bool) : LInv s a acc2 a2 true ag := by
  refine ⟨fun _ => ?_, fun e => by cases e⟩
  obtain ⟨h1, h2, _⟩ := h.2 rfl
  unfold listL
  rw [if_pos h1, h2 rfl, condsL_none hc]
  rfl
theorem LInv.yes {s : ByteArray} {a a1 a2 : Nat} {acc : List Cn} {c : Cn} (h : LInv s a acc a1 false true) (hc : condL (s.data.toList.drop a1) = some (c, s.data.toList.drop a2)) : LInv s a (acc ++ [c]) (isA s a2 false [32]) false (isZ s a2 false [32]) := by
  obtain ⟨h1, h2, _⟩ := h.2 rfl
  have h3 := h2 rfl
  refine ⟨fun e => (by cases e), fun _ => ⟨h1, ?_, ?_⟩⟩
  all_goals
    rw [isA_false]
    unfold isZ
    rw [Bool.not_false, Bool.true_and, isPre_one]
    intro e
  · have hh : (s.data.toList.drop a2).head? = some 32 := by simpa using e
    rw [h3, condsL_next hc hh, decide_eq_true hh, List.tail_drop]
    simp only [if_true, List.length_cons, List.length_nil, Nat.zero_add]
    cases condsL (s.data.toList.drop (a2 + 1)) <;> simp
  · have hh : ¬ (s.data.toList.drop a2).head? = some 32 := by simpa using e
    rw [h3, condsL_end hc hh, decide_eq_false hh]
    simp
/-- What the reading of one list comes to. -/
def ListRet (s : ByteArray) (a N B : Nat) (e : Ending) (w' : World) : Prop :=
  ∃ g n c : Nat, e = .returned (.slice (some ⟨g, 0, none⟩) n c) ∧ match listL (s.data.toList.drop a) with
    | none => ∃ a', a' ≤ s.size ∧ Rd w' N s a' true
    | some (cs, q) => OwnG 136 3 ciC w' B (.slice (some ⟨g, 0, none⟩) n c) cs ∧ ∃ a', a' ≤ s.size ∧ s.data.toList.drop a' = q ∧ Rd w' N s a' false
theorem listRet {s : ByteArray} {a a1 N B g n c : Nat} {acc : List Cn} {bad ag : Bool} {w' : World} (h : LInv s a acc a1 bad ag) (hx : bad = true ∨ ag = false) (ha : a1 ≤ s.size) (ho : OwnG 136 3 ciC w' B (.slice (some ⟨g, 0, none⟩) n c) acc) (b2 : Bool) (hb : b2 = (!isZ s a1 bad [41] || decide (4 < acc.length))) (hr : Rd w' N s (isA s a1 bad [41]) b2) : ListRet s a N B (.returned (.slice (some ⟨g, 0, none⟩) n c)) w' := by
  refine ⟨g, n, c, rfl, ?_⟩
  cases bad
  · obtain ⟨h1, _, h3⟩ := h.2 rfl
    have hc := h3 (by rcases hx with e | e; cases e; exact e)
    have hL : listL (s.data.toList.drop a) = if b2 = true then none else some (acc, s.data.toList.drop (isA s a1 false [41])) := by
      unfold listL
      rw [if_pos h1, hc, hb, isA_false]
      unfold isZ
      rw [Bool.not_false, Bool.true_and, isPre_one]
      by_cases hh : (s.data.toList.drop a1).head? = some 41
      · by_cases h4 : acc.length ≤ 4
        · have : ¬ 4 < acc.length := by omega
          simp only [hh, h4, this, List.tail_drop]
          simp
        · have : 4 < acc.length := by omega
          simp only [h4, this]
          simp
      · rw [decide_eq_false hh]
        simp only [hh]
        simp
    rw [hL]
    cases b2
    · exact ⟨ho, _, isA_le ha, rfl, hr⟩
    · exact ⟨_, isA_le ha, hr⟩
  · rw [h.1 rfl]
    have : b2 = true := by rw [hb]; rfl
    subst this
    exact ⟨_, isA_le ha, hr⟩

set_option maxRecDepth 100000 in
set_option maxHeartbeats 8000000 in
theorem l14List_any (N : Nat) (s : ByteArray) (a : Nat) (w : World) (h : Rd w N s a false) (ha : a ≤ s.size) (hs : s.size ≤ 67108864) :
    Calls Tryz.prog 83 #[.pointer (some ⟨N, 0, none⟩)] w fun e w' => ListRet s a N w.heap.size e w' ∧ Turn (At N) w w' := by
  have hN := h.lt
  have bR := (Below.refl w.heap.size w).alloc (Nat.le_refl _) (Obj.cells #[] 136)
  have HO := hide (OwnG.made (tE := 136) (K := 3) (cs := ciC) w w.heap.size (Nat.le_refl _))
  have T0 := hide (Turn.of_below (S := At N) bR)
  have HQ1 := hide (l14Must_any N s ⟨#[40]⟩ [40] rfl a false _ (h.next bR) ha (by omega) (by decide))
  have HI0 := hide (LInv.start s a)
  have HC := hide (fun a1 W (h : Rd W N s a1 false) (h1 : a1 ≤ s.size) => l14Cond_any N s a1 W h h1 hs)
  have HIS := hide (fun a1 bad W (h : Rd W N s a1 bad) (h1 : a1 ≤ s.size) => l14Is_any N s ⟨#[32]⟩ [32] rfl a1 bad W h h1 (by omega) (by decide))
  have HMU := hide (fun a1 bad W (h : Rd W N s a1 bad) (h1 : a1 ≤ s.size) => l14Must_any N s ⟨#[41]⟩ [41] rfl a1 bad W h h1 (by omega) (by decide))
  have ha1 : isA s a false [40] ≤ s.size := isA_le ha
  obtain ⟨a1, hA1⟩ : ∃ z, isA s a false [40] = z := ⟨_, rfl⟩
  obtain ⟨b1, hB1⟩ : ∃ z, (!isZ s a false [40]) = z := ⟨_, rfl⟩
  rw [hA1, hB1] at HQ1 HI0
  rw [hA1] at ha1
  clear h bR hA1 hB1
  go_enter Tryz.func83, Tryz.ntmps83
  go_wp2_with fail
  refine HQ1.out.mono ?_
  rintro e w1 ⟨rfl, r1, t1⟩
  have R1 := hide r1
  have T1 := hide (T0.out.trans t1)
  have O1 := hide (HO.out.turnN t1 hN)
  clear r1 t1 T0 HO HQ1
  go_wp2
  go_loopw [3, 4] (fun v ag wr => ∃ (g n c a2 : Nat) (acc : List Cn) (bad agn : Bool), v = .slice (some ⟨g, 0, none⟩) n c ∧ ag = .bool agn ∧ a2 ≤ s.size ∧ acc.length ≤ 67108865 ∧ Hid (agn = true → acc.length ≤ a2) ∧ Hid (OwnG 136 3 ciC wr w.heap.size (.slice (some ⟨g, 0, none⟩) n c) acc) ∧ Hid (Rd wr N s a2 bad) ∧ Hid (LInv s a acc a2 bad agn) ∧ Hid (Turn (At N) w wr)) (fun _ ag wr => match ag with | .bool true => (match wr.cell? ⟨N, 1, none⟩ with | some (.int _ z) => 1 + (67108864 - z).toNat | _ => 0) | _ => 0)
  case atStart => exact ⟨_, _, _, a1, [], b1, true, rfl, rfl, ha1, Nat.zero_le _, fun _ => Nat.zero_le _, O1, R1, HI0, T1⟩
  case round =>
    obtain ⟨g, n, c, a2, acc, bad, agn, rfl, rfl, ha2, hal, HAL, HOW, HR, HI, HT⟩ := hrel
    have c2 := HR.out.c2
    by_cases hgo : agn = true ∧ bad = false
    · obtain ⟨rfl, rfl⟩ := hgo
      have HAL2 := HAL.out rfl
      have HQ := hide (HC.out a2 wr HR.out ha2)
      have c1 := HR.out.c1
      go_wp2_with fail
      refine HQ.out.mono ?_
      rintro e w2 ⟨hret, t2⟩
      unfold CondRet at hret
      have T2 := hide (HT.out.trans t2)
      have O2 := hide (HOW.out.turnN t2 hN)
      have hz2 : w.heap.size ≤ w2.heap.size := T2.out.size
      clear t2 HT HOW HQ HR c2
      cases hcd : condL (s.data.toList.drop a2) with
      | none =>
        rw [hcd] at hret
        obtain ⟨⟨x, rfl⟩, a3, ha3, r3⟩ := hret
        have HIN := hide (fun acc2 a4 => HI.out.no (acc2 := acc2) (a2 := a4) hcd false)
        clear hcd
        have bX := (Below.refl w2.heap.size w2).alloc (Nat.le_refl _) (Obj.cells #[.bool x.no, .int .i64 x.tk, .string x.tg] 136)
        have bY := bX.alloc (by simp) (Obj.cells #[.bool x.no, .int .i64 x.tk, .string x.tg] 136)
        have HO3 := hide (O2.out.next bY)
        have R3 := hide (r3.next bY)
        have T3 := hide (T2.out.trans (Turn.of_below bY))
        have hz3 := T3.out.size
        have hln : acc.length + 1 ≤ 100000000000 := by omega
        clear r3 bX bY O2 T2
        go_wp2_with (at_builtin; refine wp_append_gen 132 Tryz.underlying132 (.agg #[.bool false, .int .i64 0, .string { data := #[] }]) 32 infoCn rfl (by decide) (by decide) rfl _ _ rfl w.heap.size _ acc rfl HO3.out ciC_len _ x rfl (fun i v hv => by match i with | 0 => (cases hv; simp) | 1 => (cases hv; simp) | 2 => (cases hv; simp) | i + 3 => cases hv) (ciC_one x) hln hz3 ?_)
        intro g9 n9 c9 w9 hn9 hO9 hb9 hg9 _
        have O9 := hide hO9
        have R9 := hide (R3.out.nextB hb9 hN)
        have T9 := hide (T3.out.belowW hb9)
        have HQI := hide (HIS.out a3 true w9 R9.out ha3)
        clear hO9 hb9 hg9 hn9 HO3 R3 T3
        have hq1 : isZ s a3 true [32] = false := rfl
        have hq2 : isA s a3 true [32] = a3 := rfl
        rw [hq1, hq2] at HQI
        clear hq1 hq2
        go_wp2_with fail
        refine HQI.out.mono ?_
        rintro e w10 ⟨rfl, r10, t10⟩
        have R10 := hide r10
        have T10 := hide (T9.out.trans t10)
        have O10 := hide (O9.out.turnN t10 hN)
        clear r10 t10
        go_wp2
        go_roundw
        case rel => exact ⟨g9, n9, c9, a3, _, true, false, rfl, rfl, ha3, by simp; omega, fun e => (by cases e), O10, R10, HIN.out _ _, T10⟩
        case measure => simp [c1]; omega
      | some p =>
        obtain ⟨x, q⟩ := p
        rw [hcd] at hret
        obtain ⟨rfl, a3, ha3, hq, r3⟩ := hret
        have hlt3 : a2 < a3 := by
          have h1 := condL_len hcd
          rw [← hq, List.length_drop, List.length_drop] at h1
          omega
        rw [← hq] at hcd
        have HIN := hide (HI.out.yes hcd)
        clear hcd hq
        have bX := (Below.refl w2.heap.size w2).alloc (Nat.le_refl _) (Obj.cells #[.bool x.no, .int .i64 x.tk, .string x.tg] 136)
        have bY := bX.alloc (by simp) (Obj.cells #[.bool x.no, .int .i64 x.tk, .string x.tg] 136)
        have HO3 := hide (O2.out.next bY)
        have R3 := hide (r3.next bY)
        have T3 := hide (T2.out.trans (Turn.of_below bY))
        have hz3 := T3.out.size
        have hln : acc.length + 1 ≤ 100000000000 := by omega
        clear r3 bX bY O2 T2
        go_wp2_with (at_builtin; refine wp_append_gen 132 Tryz.underlying132 (.agg #[.bool false, .int .i64 0, .string { data := #[] }]) 32 infoCn rfl (by decide) (by decide) rfl _ _ rfl w.heap.size _ acc rfl HO3.out ciC_len _ x rfl (fun i v hv => by match i with | 0 => (cases hv; simp) | 1 => (cases hv; simp) | 2 => (cases hv; simp) | i + 3 => cases hv) (ciC_one x) hln hz3 ?_)
        intro g9 n9 c9 w9 hn9 hO9 hb9 hg9 _
        have O9 := hide hO9
        have R9 := hide (R3.out.nextB hb9 hN)
        have T9 := hide (T3.out.belowW hb9)
        have HQI := hide (HIS.out a3 false w9 R9.out ha3)
        clear hO9 hb9 hg9 hn9 HO3 R3 T3
        have ha4 : isA s a3 false [32] ≤ s.size := isA_le ha3
        have ha5 : a3 ≤ isA s a3 false [32] := by unfold isA; split <;> omega
        obtain ⟨a4, hA4⟩ : ∃ z, isA s a3 false [32] = z := ⟨_, rfl⟩
        obtain ⟨z4, hZ4⟩ : ∃ z, isZ s a3 false [32] = z := ⟨_, rfl⟩
        rw [hA4, hZ4] at HQI HIN
        rw [hA4] at ha4 ha5
        clear hA4 hZ4
        go_wp2_with fail
        refine HQI.out.mono ?_
        rintro e w10 ⟨rfl, r10, t10⟩
        have d1 := r10.c1
        have R10 := hide r10
        have T10 := hide (T9.out.trans t10)
        have O10 := hide (O9.out.turnN t10 hN)
        clear r10 t10
        go_wp2
        go_roundw
        case rel => exact ⟨g9, n9, c9, a4, _, false, z4, rfl, rfl, ha4, by simp; omega, fun _ => (by rw [List.length_append]; simp; omega), O10, R10, HIN.out, T10⟩
        case measure => cases z4 <;> simp [c1, d1] <;> omega
    · have HX := hide (show bad = true ∨ agn = false by cases agn <;> cases bad <;> simp at hgo ⊢)
      have HQ := hide (HMU.out a2 bad wr HR.out ha2)
      have HLR := hide (fun W (o : OwnG 136 3 ciC W w.heap.size (.slice (some ⟨g, 0, none⟩) n c) acc) b2 hb hr => listRet (N := N) HI.out HX.out ha2 o b2 hb hr)
      have hn : n = acc.length := (HOW.out.row ciC_len).1
      obtain ⟨b3, hb3⟩ : ∃ z, (!isZ s a2 bad [41]) = z := ⟨_, rfl⟩
      obtain ⟨a3, hA3⟩ : ∃ z, isA s a2 bad [41] = z := ⟨_, rfl⟩
      rw [hA3, hb3] at HQ HLR
      rw [← hn] at HLR
      have hnl : n ≤ 67108865 := by omega
      clear hA3 hb3 hn HC HIS HMU HI HAL hal
      cases agn
      · clear hgo HX
        go_wp2_with fail
        refine HQ.out.mono ?_
        rintro e w2 ⟨rfl, r2, t2⟩
        have n2 := r2.c2
        have f2 := r2.fz 2
        have R2 := hide r2
        have T2 := hide (HT.out.trans t2)
        have O2 := hide (HOW.out.turnN t2 hN)
        clear r2 t2 HQ HT HOW HR
        cases b3
        · by_cases h4 : 4 < n
          · have h5 : (4 : Int) < (n : Int) := by omega
            have HD := hide (show true = (false || decide (4 < n)) by rw [decide_eq_true h4]; rfl)
            clear h4
            go_wp2
            go_ret
            have T3 := T2.out.trans (Turn.set w2 ⟨N, 2, none⟩ (.bool true) rfl)
            exact ⟨HLR.out _ (O2.out.turnN (Turn.set w2 ⟨N, 2, none⟩ (.bool true) rfl) hN) true HD.out (R2.out.turned true), T3⟩
          · have h5 : ¬ (4 : Int) < (n : Int) := by omega
            have HD := hide (show false = (false || decide (4 < n)) by rw [decide_eq_false h4]; rfl)
            clear h4
            go_wp2
            go_ret
            rw [show decide ((4 : Int) < (n : Int)) = false from decide_eq_false (by omega)]
            have T3 := T2.out.trans (Turn.set w2 ⟨N, 2, none⟩ (.bool false) rfl)
            exact ⟨HLR.out _ (O2.out.turnN (Turn.set w2 ⟨N, 2, none⟩ (.bool false) rfl) hN) false HD.out (R2.out.turned false), T3⟩
        · have HD := hide (show true = (true || decide (4 < n)) by rfl)
          go_wp2
          go_ret
          have T3 := T2.out.trans (Turn.set w2 ⟨N, 2, none⟩ (.bool true) rfl)
          exact ⟨HLR.out _ (O2.out.turnN (Turn.set w2 ⟨N, 2, none⟩ (.bool true) rfl) hN) true HD.out (R2.out.turned true), T3⟩
      · cases bad
        · exact absurd ⟨rfl, rfl⟩ hgo
        · clear hgo HX
          go_wp2_with fail
          refine HQ.out.mono ?_
          rintro e w2 ⟨rfl, r2, t2⟩
          have n2 := r2.c2
          have f2 := r2.fz 2
          have R2 := hide r2
          have T2 := hide (HT.out.trans t2)
          have O2 := hide (HOW.out.turnN t2 hN)
          clear r2 t2 HQ HT HOW HR
          cases b3
          · by_cases h4 : 4 < n
            · have h5 : (4 : Int) < (n : Int) := by omega
              have HD := hide (show true = (false || decide (4 < n)) by rw [decide_eq_true h4]; rfl)
              clear h4
              go_wp2
              go_ret
              have T3 := T2.out.trans (Turn.set w2 ⟨N, 2, none⟩ (.bool true) rfl)
              exact ⟨HLR.out _ (O2.out.turnN (Turn.set w2 ⟨N, 2, none⟩ (.bool true) rfl) hN) true HD.out (R2.out.turned true), T3⟩
            · have h5 : ¬ (4 : Int) < (n : Int) := by omega
              have HD := hide (show false = (false || decide (4 < n)) by rw [decide_eq_false h4]; rfl)
              clear h4
              go_wp2
              go_ret
              rw [show decide ((4 : Int) < (n : Int)) = false from decide_eq_false (by omega)]
              have T3 := T2.out.trans (Turn.set w2 ⟨N, 2, none⟩ (.bool false) rfl)
              exact ⟨HLR.out _ (O2.out.turnN (Turn.set w2 ⟨N, 2, none⟩ (.bool false) rfl) hN) false HD.out (R2.out.turned false), T3⟩
          · have HD := hide (show true = (true || decide (4 < n)) by rfl)
            go_wp2
            go_ret
            have T3 := T2.out.trans (Turn.set w2 ⟨N, 2, none⟩ (.bool true) rfl)
            exact ⟨HLR.out _ (O2.out.turnN (Turn.set w2 ⟨N, 2, none⟩ (.bool true) rfl) hN) true HD.out (R2.out.turned true), T3⟩
end Go.Proofs.YtfhcniifennfbaaGreatDoor
namespace Go.Proofs.YtfhcniifennfbaaGreatDoor
open Go.RowKit M
set_option linter.unusedVariables false

theorem less_at (a : Nat) (h : a ≤ 67108864) : ((67108865 : Int) - ((a + 1 : Nat) : Int)).toNat < ((67108865 : Int) - (a : Int)).toNat := by omega
theorem infoSl : (Tryz.prog.info? 132).map (fun i => (i.zero, i.size, i.bytes)) = some (some (.slice none 0 0), 1, 24) := by kernel_rfl
theorem RowsO.turn {tS : TypeId} {w w' : World} {B g n c H N : Nat} {ss : List Sl} {ls : List (List Cn)} (h : RowsO tS w B g n c H ss ls) (t : Turn (At N) w w') (hN : N < B) : RowsO tS w' B g n c H ss ls := by
  obtain ⟨lo, hi, h5⟩ := h.bl
  exact ⟨h.own.turnN t hN, h.len, Nat.le_trans h.top t.size, h.gH, lo, hi, fun j hj hs => ⟨(h5 j hj hs).1.turn t (fun y hy e => by have h1 := (h5 j hj hs).2.1; have h2 := hy.1; have h3 : y = N := e; omega), (h5 j hj hs).2⟩⟩
theorem listRet_flat {s : ByteArray} {a N B : Nat} {e : Ending} {w' : World} (h : ListRet s a N B e w') :
    ∃ (g n c a2 : Nat) (bad : Bool) (cs : List Cn), e = .returned (.slice (some ⟨g, 0, none⟩) n c) ∧ a2 ≤ s.size ∧ Rd w' N s a2 bad ∧ (bad = true → listL (s.data.toList.drop a) = none) ∧ (bad = false → listL (s.data.toList.drop a) = some (cs, s.data.toList.drop a2) ∧ OwnG 136 3 ciC w' B (.slice (some ⟨g, 0, none⟩) n c) cs) := by
  obtain ⟨g, n, c, he, h2⟩ := h
  cases hl : listL (s.data.toList.drop a) with
  | none =>
    rw [hl] at h2
    obtain ⟨a', h3, h4⟩ := h2
    exact ⟨g, n, c, a', true, [], he, h3, h4, fun _ => rfl, fun e => (by cases e)⟩
  | some p =>
    obtain ⟨cs, q⟩ := p
    rw [hl] at h2
    obtain ⟨ho, a', h3, h4, h5⟩ := h2
    exact ⟨g, n, c, a', false, cs, he, h3, h5, fun e => (by cases e), fun _ => ⟨by rw [h4], ho⟩⟩

/-- On the way through several lists. -/
def PInv (s : ByteArray) (ls : List (List Cn)) (a1 : Nat) (bad ag : Bool) : Prop :=
  (bad = true → ifL s.data.toList = none) ∧ (bad = false → (ag = true → listsL s.data.toList = (listsL (s.data.toList.drop a1)).map (ls ++ ·)) ∧ (ag = false → listsL s.data.toList = some ls))
theorem PInv.start (s : ByteArray) : PInv s [] 0 false true := by
  refine ⟨fun e => (by cases e), fun _ => ⟨fun _ => ?_, fun e => (by cases e)⟩⟩
  rw [List.drop_zero]
  cases listsL s.data.toList <;> rfl
/-- A list is read, and blanks behind it are passed. -/
def BInv (s : ByteArray) (a2 a3 : Nat) (b2 b3 : Bool) : Prop := (b2 = true → b3 = true) ∧ (b3 = false → blk (s.data.toList.drop a2) = blk (s.data.toList.drop a3)) ∧ (b3 = true → b2 = true ∨ blk (s.data.toList.drop a2) = [])
theorem blk_next {s : ByteArray} {a : Nat} (h : [32].isPrefixOf (s.data.toList.drop a) = true) : blk (s.data.toList.drop a) = blk (s.data.toList.drop (a + 1)) := by
  rw [isPre_one] at h
  have h2 : (s.data.toList.drop a).head? = some 32 := by simpa using h
  have e : s.data.toList.drop (a + 1) = (s.data.toList.drop a).tail := by rw [List.tail_drop]
  rw [e]
  cases hl : s.data.toList.drop a with
  | nil => rfl
  | cons c r =>
    rw [hl] at h2
    cases h2
    unfold blk
    rw [List.dropWhile_cons, if_pos (by decide)]
    rfl
theorem blk_stop {s : ByteArray} {a : Nat} (h : [32].isPrefixOf (s.data.toList.drop a) = false) : blk (s.data.toList.drop a) = s.data.toList.drop a := by
  rw [isPre_one] at h
  have h2 : ¬ (s.data.toList.drop a).head? = some 32 := by simpa using h
  cases hl : s.data.toList.drop a with
  | nil => rfl
  | cons c r =>
    rw [hl] at h2
    unfold blk
    rw [List.dropWhile_cons, if_neg]
    simpa using h2
theorem drop_all (s : ByteArray) : s.data.toList.drop s.size = [] := List.drop_of_length_le (by rw [Array.length_toList]; exact Nat.le_refl _)
theorem BInv.next {s : ByteArray} {a2 a3 : Nat} {b2 : Bool} (h : BInv s a2 a3 b2 false) (hp : [32].isPrefixOf (s.data.toList.drop a3) = true) : BInv s a2 (a3 + 1) b2 (decide (a3 + 1 = s.size)) := by
  have hb : b2 = false := by cases b2; rfl; exact absurd (h.1 rfl) (by simp)
  subst hb
  have e := (h.2.1 rfl).trans (blk_next hp)
  refine ⟨fun e => (by cases e), fun _ => e, fun h2 => .inr ?_⟩
  have : a3 + 1 = s.size := by simpa using h2
  rw [e, this, drop_all]
  rfl
theorem ifL_bad {s : ByteArray} (h : listsL s.data.toList = none) : ifL s.data.toList = none := by unfold ifL; rw [h]; rfl
/-- Behind one list. -/
theorem PInv.step {s : ByteArray} {ls : List (List Cn)} {a1 a2 a3 : Nat} {cs : List Cn} {b2 b3 : Bool} (h : PInv s ls a1 false true) (h1 : b2 = true → listL (s.data.toList.drop a1) = none) (h2 : b2 = false → listL (s.data.toList.drop a1) = some (cs, s.data.toList.drop a2)) (ha : a2 < s.size) (hb : BInv s a2 a3 b2 b3) (hs : isZ s a3 b3 [32] = false) :
    PInv s (ls ++ [cs]) a3 b3 true := by
  have h3 := (h.2 rfl).1 rfl
  have hq : s.data.toList.drop a2 ≠ [] := fun e => by
    have := congrArg List.length e
    rw [List.length_drop, Array.length_toList] at this
    simp at this
    have : s.data.size = s.size := rfl
    omega
  refine ⟨fun e => ?_, fun e => ⟨fun _ => ?_, fun e2 => (by cases e2)⟩⟩
  · apply ifL_bad
    rw [h3]
    rcases hb.2.2 e with e2 | e2
    · rw [listsL_none (h1 e2)]; rfl
    · cases b2
      · rw [listsL_next (h2 rfl) hq, e2, listsL_none rfl]; rfl
      · rw [listsL_none (h1 rfl)]; rfl
  · subst e
    have e2 : b2 = false := by cases b2; rfl; exact absurd (hb.1 rfl) (by simp)
    subst e2
    unfold isZ at hs
    rw [h3, listsL_next (h2 rfl) hq, hb.2.1 rfl, blk_stop (by simpa using hs)]
    cases listsL (s.data.toList.drop a3) <;> simp
theorem PInv.last {s : ByteArray} {ls : List (List Cn)} {a1 a2 : Nat} {cs : List Cn} {b2 : Bool} (h : PInv s ls a1 false true) (h1 : b2 = true → listL (s.data.toList.drop a1) = none) (h2 : b2 = false → listL (s.data.toList.drop a1) = some (cs, s.data.toList.drop a2)) (ha : a2 = s.size) :
    PInv s (ls ++ [cs]) a2 b2 false := by
  have h3 := (h.2 rfl).1 rfl
  refine ⟨fun e => ?_, fun e => ⟨fun e2 => (by cases e2), fun _ => ?_⟩⟩
  · apply ifL_bad
    rw [h3, listsL_none (h1 e)]
    rfl
  · have h4 := h2 e
    rw [ha, drop_all] at h4
    rw [h3, listsL_end h4]
    rfl
/-- What is answered. -/
def IfRet (s : ByteArray) (B : Nat) (e : Ending) (w' : World) : Prop :=
  ∃ r : Value, e = .returned (.tuple #[r, .bool (ifL s.data.toList).isSome]) ∧ Own w' r (.l (((ifL s.data.toList).getD []).map dCs)) (IvG B w'.heap.size)

set_option maxRecDepth 100000 in
set_option maxHeartbeats 16000000 in
theorem specParseIf_any (s : ByteArray) (w : World) (hs : s.size ≤ 67108864) :
    Calls Tryz.prog 51 #[.string s] w fun e w' => IfRet s w.heap.size e w' ∧ Below w.heap.size w w' := by
  have b0 := (Below.refl w.heap.size w).alloc (Nat.le_refl _) (Obj.cells #[.string s, .int .i64 0, .bool false] 131)
  have R0 := Rd.made w s 0 false 131
  have hz0 : (w.alloc (Obj.cells #[.string s, .int .i64 0, .bool false] 131)).heap.size = w.heap.size + 1 := by simp
  have HR0 := hide (R0.next ((Below.refl _ _).alloc (Nat.le_refl _) (Obj.cells #[] 132)))
  have HB0 := hide (b0.alloc (by simp) (Obj.cells #[] 132))
  have HO0 := RowsO.made 132 (w.alloc (Obj.cells #[.string s, .int .i64 0, .bool false] 131)) (w.heap.size + 1) (by rw [hz0]; exact Nat.le_refl _)
  rw [hz0] at HO0
  replace HO0 := hide HO0
  have HL := hide (fun a1 W (h : Rd W w.heap.size s a1 false) (h1 : a1 ≤ s.size) => l14List_any w.heap.size s a1 W h h1 hs)
  have HIS := hide (fun a1 bad W (h : Rd W w.heap.size s a1 bad) (h1 : a1 ≤ s.size) => l14Is_any w.heap.size s ⟨#[32]⟩ [32] rfl a1 bad W h h1 (by omega) (by decide))
  have HP0 := hide (PInv.start s)
  clear b0 R0 hz0
  go_enter Tryz.func51, Tryz.ntmps51
  go_wp2
  go_loopw [5, 6] (fun v ag wr => ∃ (g n c H a1 : Nat) (ss : List Sl) (ls : List (List Cn)) (bad agn : Bool), v = .slice (some ⟨g, 0, none⟩) n c ∧ ag = .bool agn ∧ a1 ≤ s.size ∧ ss.length ≤ 67108865 ∧ Hid (agn = true → bad = false → ss.length ≤ a1) ∧ Hid (OwnG 132 1 ciS wr (w.heap.size + 1) (.slice (some ⟨g, 0, none⟩) n c) ss) ∧ Hid (bad = false → RowsO 132 wr (w.heap.size + 1) g n c H ss ls) ∧ Hid (Rd wr w.heap.size s a1 bad) ∧ Hid (PInv s ls a1 bad agn) ∧ Hid (Below w.heap.size w wr)) (fun _ ag wr => match ag with | .bool true => (match wr.cell? ⟨w.heap.size, 2, none⟩, wr.cell? ⟨w.heap.size, 1, none⟩ with | some (.bool false), some (.int _ z) => 1 + (67108864 - z).toNat | _, _ => 0) | _ => 0)
  case atStart => exact ⟨_, _, _, _, 0, [], [], false, true, rfl, rfl, Nat.zero_le _, Nat.zero_le _, fun _ _ => Nat.zero_le _, HO0.out.own, fun _ => HO0.out, HR0, HP0, HB0⟩
  case round =>
    obtain ⟨g, n, c, H, a1, ss, ls, bad, agn, rfl, rfl, ha1, hal, HAL, HOW, HRO, HR, HI, HB⟩ := hrel
    have c2 := HR.out.c2
    by_cases hgo : agn = true ∧ bad = false
    · obtain ⟨rfl, rfl⟩ := hgo
      have HAL2 := HAL.out rfl rfl
      have HRO2 := hide (HRO.out rfl)
      have HQ := hide (HL.out a1 wr HR.out ha1)
      have c1 := HR.out.c1
      have c0 := HR.out.c0
      have hNw := HR.out.lt
      go_wp2_with fail
      refine HQ.out.mono ?_
      rintro e w2 ⟨hret, t2⟩
      obtain ⟨g2, n2, c3, a2, b2, cs, rfl, ha2, r2, hf1, hf2⟩ := listRet_flat hret
      have HF1 := hide hf1
      have HF2 := hide hf2
      have B2 := hide (HB.out.trans (t2.below (C := w.heap.size) (fun y hy => by have : y = w.heap.size := hy; omega) (Nat.le_of_lt hNw)))
      have O2 := hide (HOW.out.turnN t2 (Nat.lt_succ_self _))
      have P2 := hide (HRO2.out.turn t2 (Nat.lt_succ_self _))
      have hzt := t2.size
      have bY := (Below.refl w2.heap.size w2).alloc (Nat.le_refl _) (Obj.cells #[.slice (some ⟨g2, 0, none⟩) n2 c3] 132)
      have HO3 := hide (O2.out.next bY)
      have P3 := hide (P2.out.next bY)
      have R3 := hide (r2.next bY)
      have B3 := hide (B2.out.trans (bY.mono B2.out.size))
      have hz3 := bY.size
      have hN3 := R3.out.lt
      have HNL := hide (fun e => And.intro ((HF2.out e).1) ((own_of_conds ((HF2.out e).2.next bY)).wide (T := IvG wr.heap.size w2.heap.size) (fun y hy => by have hr := (HF2.out e).2.row ciC_len; subst hy; exact ⟨hr.2.2.2.1, hr.2.2.2.2.1⟩)))
      have hln : ss.length + 1 ≤ 100000000000 := by omega
      have HTOP := hide HRO2.out.top
      have HLT := hide (fun (e : b2 = false) => show a1 < a2 by
        have h1 := listL_len ((HF2.out e).1)
        rw [List.length_drop, List.length_drop] at h1
        omega)
      clear hret t2 HB HOW HRO HRO2 HQ HR hf1 hf2 r2 B2 O2 P2 bY HF2
      go_wp2_with (at_builtin; refine wp_append_gen 95 Tryz.underlying95 (.slice none 0 0) 24 infoSl rfl (by decide) (by decide) rfl _ _ rfl (w.heap.size + 1) _ ss rfl HO3.out ciS_len _ (⟨g2, n2, c3⟩ : Sl) rfl (fun i v hv => by match i with | 0 => (cases hv; simp [Sl.v]) | i + 1 => cases hv) (ciS_one _) hln hN3 ?_)
      intro g9 n9 c9 w9 hn9 hO9 hb9 hg9 hat
      have O9 := hide hO9
      have R9 := hide (R3.out.nextB hb9 (Nat.lt_succ_self _))
      have B9 := hide (B3.out.trans (hb9.mono (Nat.le_succ _)))
      have HNX := hide (fun (e : b2 = false) => P3.out.snoc hO9 hg9 (by rcases hat with e2 | e2; exact .inl (Option.some.inj e2).symm; exact .inr (by rw [e2]; simp)) wr.heap.size w2.heap.size (HNL.out e).2 HTOP.out hz3)
      have HL2 := hide (fun (e : b2 = false) => (HNL.out e).1)
      have d1 := R9.out.c1
      have hN9 := R9.out.lt
      have d0 := R9.out.c0
      have hssl : (ss ++ [(⟨g2, n2, c3⟩ : Sl)]).length = ss.length + 1 := by simp
      obtain ⟨ss2, hss2⟩ : ∃ z, ss ++ [(⟨g2, n2, c3⟩ : Sl)] = z := ⟨_, rfl⟩
      rw [hss2] at O9 HNX hssl
      have HSL := hide hssl
      clear hO9 hb9 hg9 hat hn9 HO3 P3 R3 B3 HNL HTOP hss2 hssl
      by_cases hend : a2 < s.size
      · have he1 : (a2 : Int) < (s.size : Int) := by omega
        go_wp2
        go_loopw [] (fun wr => ∃ (a3 : Nat) (b3 : Bool), a2 ≤ a3 ∧ a3 ≤ s.size ∧ Hid (Turn (At w.heap.size) w9 wr) ∧ Hid (Rd wr w.heap.size s a3 b3) ∧ Hid (BInv s a2 a3 b2 b3)) (fun wr => match wr.cell? ⟨w.heap.size, 1, none⟩ with | some (.int _ z) => (67108865 - z).toNat | _ => 0)
        case atStart => exact ⟨a2, b2, Nat.le_refl _, ha2, Turn.refl _ _, R9, ⟨id, fun _ => rfl, fun e => .inl e⟩⟩
        case round =>
          obtain ⟨a3, b3, h23, h3s, HT3, HR3, HBI⟩ := hrel
          have HQ := hide (HIS.out a3 b3 wr HR3.out h3s)
          have e1 := HR3.out.c1
          have e2 := HR3.out.c2
          have hz31 : isZ s a3 b3 [32] = true → b3 = false ∧ isA s a3 b3 [32] = a3 + 1 ∧ [32].isPrefixOf (s.data.toList.drop a3) = true ∧ a3 + 1 ≤ s.size := fun e => by
            have hA := isA_le (bad := b3) (p := [32]) h3s
            unfold isA at hA ⊢
            rw [e, if_pos rfl] at hA
            rw [e, if_pos rfl]
            unfold isZ at e
            simp only [Bool.and_eq_true, Bool.not_eq_true'] at e
            exact ⟨e.1, rfl, e.2, hA⟩
          have HZ1 := hide hz31
          clear hz31
          cases hz : isZ s a3 b3 [32]
          · have HS := hide (HI.out.step (cs := cs) HF1.out HL2.out hend HBI.out hz)
            rw [hz, show isA s a3 b3 [32] = a3 by unfold isA; rw [hz]; rfl] at HQ
            clear hz
            go_wp2_with fail
            refine HQ.out.mono ?_
            rintro e w10 ⟨rfl, r10, t10⟩
            have R10 := hide r10
            have T10 := hide (HT3.out.trans t10)
            have O10 := hide (O9.out.turnN T10.out (Nat.lt_succ_self _))
            have P10 := hide (fun e => (HNX.out e).turn T10.out (Nat.lt_succ_self _))
            have B10 := hide (B9.out.trans (T10.out.below (C := w.heap.size) (fun y hy => by have : y = w.heap.size := hy; omega) (Nat.le_of_lt hN9)))
            have f1 := r10.c1
            have f2 := r10.c2
            have HBI2 := hide (show b3 = false → b2 = false from fun e => by
              cases hb : b2 with
              | false => rfl
              | true =>
                have h6 := HBI.out.1 hb
                rw [e] at h6
                cases h6)
            clear r10 t10 HQ e1 e2 HR3 HT3
            go_wp2
            go_roundw
            case rel => exact ⟨g9, n9, c9, w9.heap.size, a3, ss2, ls ++ [cs], b3, true, rfl, rfl, h3s, by have := HSL.out; omega, fun _ e => (by have := HSL.out; have := HLT.out (HBI2.out e); omega), O10, fun e => P10.out (HBI2.out e), R10, HS, B10⟩
            case measure =>
              rw [f1, f2, c1, c2]
              cases b3
              · have := HLT.out (HBI2.out rfl)
                simp
                omega
              · simp
                try omega
          · obtain ⟨hb3, hA, hp, h3n⟩ := HZ1.out hz
            subst hb3
            rw [hz, hA] at HQ
            have HBN := hide (HBI.out.next hp)
            clear hz hA hp HZ1
            go_wp2_with fail
            refine HQ.out.mono ?_
            rintro e w10 ⟨rfl, r10, t10⟩
            have f0 := r10.c0
            have f1 := r10.c1
            have f2 := r10.c2
            have f3 := r10.fz 2
            have T11 := hide ((HT3.out.trans t10).trans (Turn.set w10 ⟨w.heap.size, 2, none⟩ (.bool (decide (a3 + 1 = s.size))) rfl))
            have R11 := hide (r10.turned (decide (a3 + 1 = s.size)))
            have k1 := R11.out.c1
            clear r10 t10 HQ e2 HR3 HT3
            by_cases hl : a3 + 1 = s.size
            · have hl1 : ((a3 : Int) + 1 == (s.size : Int)) = true := by rw [beq_iff_eq]; omega
              rw [decide_eq_true hl] at T11 R11 HBN k1
              clear hl
              go_wp2
              go_roundw
              case rel => exact ⟨a3 + 1, true, by omega, h3n, T11, R11, HBN⟩
              case measure => rw [e1, k1]; exact less_at a3 (by omega)
            · have hl1 : ((a3 : Int) + 1 == (s.size : Int)) = false := by rw [beq_eq_false_iff_ne]; omega
              rw [decide_eq_false hl] at T11 R11 HBN k1
              clear hl
              go_wp2
              go_roundw
              case rel => exact ⟨a3 + 1, false, by omega, h3n, T11, R11, HBN⟩
              case measure => rw [e1, k1]; exact less_at a3 (by omega)
      · have he1 : ¬ (a2 : Int) < (s.size : Int) := by omega
        have HS := hide (HI.out.last (cs := cs) HF1.out HL2.out (by omega))
        go_wp2
        go_loopw [] (fun wr => wr = w9) (fun _ => 0)
        case atStart => rfl
        case round =>
          subst hrel
          go_wp2
          go_roundw
          case rel => exact ⟨g9, n9, c9, wr.heap.size, a2, ss2, ls ++ [cs], b2, false, rfl, rfl, ha2, by have := HSL.out; omega, fun e => (by cases e), O9, HNX.out, R9, HS, B9⟩
          case measure => rw [c1, c2]; simp; omega
    · have HX := hide (show bad = false → agn = false from fun e => by cases agn; rfl; exact absurd ⟨rfl, e⟩ hgo)
      have hn : n = ss.length ∧ n ≤ c ∧ c ≤ maxLen := ⟨(HOW.out.row ciS_len).1, (HOW.out.row ciS_len).2.1, (HOW.out.row ciS_len).2.2.1⟩
      have hnl : n ≤ 67108865 := by omega
      have c1 := HR.out.c1
      cases hif : ifL s.data.toList with
      | none =>
        have hret : ∀ W : World, Below w.heap.size w W → IfRet s w.heap.size (.returned (.tuple #[.slice (some ⟨W.heap.size, 0, none⟩) 0 0, .bool false])) (W.alloc (Obj.cells #[] 132)) := fun W hW => ⟨_, by rw [hif]; rfl, by rw [hif]; exact (RowsO.made 132 W w.heap.size hW.size).done⟩
        have HRET := hide (hret wr HB.out)
        have HBB := hide (HB.out.alloc HB.out.size (Obj.cells #[] 132))
        have hcnd : bad = true ∨ 4 < n := by
          cases hb : bad with
          | true => exact .inl rfl
          | false =>
            right
            have h1 := (HI.out.2 hb).2 (HX.out hb)
            have h2 := (HRO.out hb).num.1
            unfold ifL at hif
            rw [h1] at hif
            simp only [Option.bind_some] at hif
            split at hif
            · cases hif
            · omega
        clear hret hif hgo HI HRO HAL
        cases bad
        · have h4 : (4 : Int) < (n : Int) := by rcases hcnd with e | e; cases e; omega
          clear hcnd
          cases agn
          · go_wp2
            go_ret2
            exact ⟨HRET.out, HBB.out⟩
          · exact absurd (HX.out rfl) (by simp)
        · clear hcnd
          cases agn
          · go_wp2
            go_ret2
            exact ⟨HRET.out, HBB.out⟩
          · go_wp2
            go_ret2
            exact ⟨HRET.out, HBB.out⟩
      | some ls2 =>
        have hb : bad = false := by
          cases hb : bad with
          | false => rfl
          | true => rw [HI.out.1 hb] at hif; cases hif
        subst hb
        have ha : agn = false := HX.out rfl
        subst ha
        have h1 := (HI.out.2 rfl).2 rfl
        have h2 := (HRO.out rfl).num.1
        have h3 : ls.length ≤ 4 ∧ ls2 = ls := by
          unfold ifL at hif
          rw [h1] at hif
          simp only [Option.bind_some] at hif
          split at hif
          · rename_i h4; exact ⟨h4, (Option.some.inj hif).symm⟩
          · cases hif
        have h4 : ¬ (4 : Int) < (n : Int) := by omega
        have HRET := hide (show IfRet s w.heap.size (.returned (.tuple #[.slice (some ⟨g, 0, none⟩) n c, .bool true])) wr from ⟨_, by rw [hif]; rfl, by rw [hif]; show Own wr _ (.l (ls2.map dCs)) _; rw [h3.2]; exact ((HRO.out rfl).done).wide (fun y hy => ⟨by have := hy.1; omega, hy.2⟩)⟩)
        clear h1 h2 h3 hif hgo HI HRO HAL hn
        go_wp2
        go_ret2
        exact ⟨HRET.out, HB.out⟩
end Go.Proofs.YtfhcniifennfbaaGreatDoor
namespace Go.Proofs.YtfhcniifennfbaaGreatDoor
open Go.RowKit M

set_option maxHeartbeats 400000 in
theorem isOf_any (c k : Int) (w : World) :
    Calls Tryz.prog 151 #[.int .u8 c, .int .i64 k] w fun e w' => e = .returned (.bool (isB c k)) ∧ w' = w := by
  go_enter Tryz.func151, Tryz.ntmps151
  go_wp2
  all_goals
    go_ret
    refine ⟨ret_bool ?_, rfl⟩
    go_light
    unfold isB
    simp_all
    try omega

set_option maxHeartbeats 400000 in
theorem isOneOf_any (c : Int) (ks : List Int) (n b o cap : Nat) (w : World) (hn : ks.length = n) (hl : ks.length ≤ maxLen)
    (hc : ∀ i, i < ks.length → w.cell? ⟨b, o + i, none⟩ = some (.int .i64 (ks.getD i 0))) :
    Calls Tryz.prog 127 #[.int .u8 c, .slice (some ⟨b, o, none⟩) n cap] w fun e w' => e = .returned (.bool (anyB c ks)) ∧ w' = w := by
  subst hn
  unfold maxLen at hl
  go_enter Tryz.func127, Tryz.ntmps127
  go_wp2
  go_loop [9] (fun i => ∃ k : Nat, k ≤ ks.length ∧ i = .int .i64 k ∧ anyB c (ks.take k) = false) (fun i => ks.length - (intOf i).toNat)
  case atStart => exact ⟨0, Nat.zero_le _, rfl, rfl⟩
  case round =>
    obtain ⟨k, hk, rfl, hn⟩ := hrel
    have HN : Hid (anyB c (ks.take k) = false) := hn; clear hn
    by_cases hlt : k < ks.length
    · have hcx := hc k hlt
      go_wp2_with (go_at_call 151; refine (isOf_any _ _ _).mono ?_; rintro e w' ⟨rfl, rfl⟩)
      · go_ret
        exact ⟨ret_bool (by rw [anyB_of c ks k hlt (by assumption)]), rfl⟩
      · go_round
        case rel => exact ⟨k + 1, by omega, by go_num, anyB_snoc c ks k hlt HN.out (by assumption)⟩
        case measure => simp [intOf]; omega
    · go_wp2
      go_ret
      exact ⟨ret_bool (by rw [← HN.out, List.take_of_length_le (by omega)]), rfl⟩
theorem cells1 (w : World) (a : Int) (T : TypeId) : ∀ i, i < [a].length → (w.alloc (Obj.cells #[.int .i64 a] T)).cell? ⟨w.heap.size, 0 + i, none⟩ = some (.int .i64 ([a].getD i 0)) := by
  intro i hi
  match i, hi with
  | 0, _ => simp

theorem cells3 (w : World) (n : Nat) (a b c : Int) (T : TypeId) (hn : w.heap.size = n) : ∀ i, i < [a, b, c].length → (w.alloc (Obj.cells #[.int .i64 a, .int .i64 b, .int .i64 c] T)).cell? ⟨n, 0 + i, none⟩ = some (.int .i64 ([a, b, c].getD i 0)) := by
  subst hn
  intro i hi
  match i, hi with
  | 0, _ => simp
  | 1, _ => simp
  | 2, _ => simp
end Go.Proofs.YtfhcniifennfbaaGreatDoor
