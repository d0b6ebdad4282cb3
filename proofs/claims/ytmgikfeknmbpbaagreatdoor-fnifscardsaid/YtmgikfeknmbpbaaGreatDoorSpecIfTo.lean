/-
  What the specification's reader of lists does: what stands up to a byte.
-/
import Derived.Test.YtmgikfeknmbpbaaGreatDoorSpecIf1
import Derived.BigQuiet
namespace Go.Proofs.YtmgikfeknmbpbaaGreatDoor
open Go.RowKit M
set_option linter.unusedVariables false

/-! What stands up to a byte. -/
def toB (s : ByteArray) (a : Nat) (by_ : UInt8) : Bool := (fromB by_ (s.data.toList.drop a)).isEmpty
def toA (s : ByteArray) (a : Nat) (by_ : UInt8) : Nat := if toB s a by_ = true then s.size else a + (upTo by_ (s.data.toList.drop a)).length + 1
def toT (s : ByteArray) (a : Nat) (by_ : UInt8) : List UInt8 := if toB s a by_ = true then [] else upTo by_ (s.data.toList.drop a)
theorem to_next {s : ByteArray} {j : Nat} {c : UInt8} (hj : j < s.size) (hc : s[j] ≠ c) : upTo c (s.data.toList.drop j) = s[j] :: upTo c (s.data.toList.drop (j + 1)) ∧ fromB c (s.data.toList.drop j) = fromB c (s.data.toList.drop (j + 1)) := by
  have hl : j < s.data.toList.length := by rw [Array.length_toList]; exact hj
  have e : s.data.toList.drop j = s[j] :: s.data.toList.drop (j + 1) := List.drop_eq_getElem_cons hl
  rw [e]
  exact ⟨upTo_cons_ne _ hc, fromB_cons_ne _ hc⟩
theorem to_here {s : ByteArray} {j : Nat} {c : UInt8} (hj : j < s.size) (hc : s[j] = c) : upTo c (s.data.toList.drop j) = [] ∧ fromB c (s.data.toList.drop j) = c :: s.data.toList.drop (j + 1) := by
  have hl : j < s.data.toList.length := by rw [Array.length_toList]; exact hj
  have e : s.data.toList.drop j = s[j] :: s.data.toList.drop (j + 1) := List.drop_eq_getElem_cons hl
  rw [e, hc]
  exact ⟨upTo_cons_eq _ _, fromB_cons_eq _ _⟩
theorem to_end {s : ByteArray} {c : UInt8} : fromB c (s.data.toList.drop s.size) = [] := by
  rw [List.drop_of_length_le (by rw [Array.length_toList]; exact Nat.le_refl _)]
  rfl
/-- On the way: none of them up to here. -/
def ToAt (s : ByteArray) (a j : Nat) (c : UInt8) : Prop := upTo c (s.data.toList.drop a) = (s.data.toList.drop a).take (j - a) ++ upTo c (s.data.toList.drop j) ∧ fromB c (s.data.toList.drop a) = fromB c (s.data.toList.drop j)
theorem ToAt.start (s : ByteArray) (a : Nat) (c : UInt8) : ToAt s a a c := ⟨by simp, rfl⟩
theorem ToAt.next {s : ByteArray} {a j : Nat} {c : UInt8} (h : ToAt s a j c) (ha : a ≤ j) (hj : j < s.size) (hc : s[j] ≠ c) : ToAt s a (j + 1) c := by
  obtain ⟨e1, e2⟩ := to_next hj hc
  refine ⟨?_, h.2.trans e2⟩
  have hl : j - a < (s.data.toList.drop a).length := by rw [List.length_drop, Array.length_toList]; show j - a < s.size - a; omega
  rw [h.1, e1, show j + 1 - a = (j - a) + 1 by omega, List.take_succ_eq_append_getElem hl, List.append_assoc]
  have : (s.data.toList.drop a)[j - a] = s[j] := by
    rw [List.getElem_drop]
    simp only [show a + (j - a) = j by omega]
    rfl
  rw [this]
  rfl
theorem ToAt.none {s : ByteArray} {a : Nat} {c : UInt8} (h : ToAt s a s.size c) : toB s a c = true := by
  unfold toB
  rw [h.2, to_end]
  rfl
theorem ToAt.found {s : ByteArray} {a j : Nat} {c : UInt8} (h : ToAt s a j c) (ha : a ≤ j) (hj : j < s.size) (hc : s[j] = c) : toB s a c = false ∧ toA s a c = j + 1 ∧ s.extract a j = bytesOf (toT s a c) := by
  obtain ⟨e1, e2⟩ := to_here hj hc
  have hb : toB s a c = false := by unfold toB; rw [h.2, e2]; rfl
  have hu : upTo c (s.data.toList.drop a) = (s.data.toList.drop a).take (j - a) := by rw [h.1, e1, List.append_nil]
  have hl : ((s.data.toList.drop a).take (j - a)).length = j - a := by rw [List.length_take, List.length_drop, Array.length_toList]; show min (j - a) (s.size - a) = j - a; omega
  refine ⟨hb, ?_, ?_⟩
  · unfold toA
    rw [hb, if_neg (by simp), hu, hl]
    omega
  · unfold toT
    rw [hb, if_neg (by simp), hu]
    refine ByteArray.ext (Array.toList_inj.1 ?_)
    rw [extract_list]
    rfl

set_option maxRecDepth 100000 in
set_option maxHeartbeats 8000000 in
theorem l14To_any (N : Nat) (s : ByteArray) (c : UInt8) (a : Nat) (bad : Bool) (w : World) (h : Rd w N s a bad) (ha : a ≤ s.size) (hs : s.size ≤ 1099511627776) :
    Calls Tryz.prog 72 #[.pointer (some ⟨N, 0, none⟩), .int .u8 (c.toNat : Int)] w fun e w' => e = .returned (.string (bytesOf (toT s a c))) ∧ Rd w' N s (toA s a c) (bad || toB s a c) ∧ Turn (At N) w w' := by
  have HR0 := hide h
  have c1_ := h.c1
  clear h
  go_enter Tryz.func72, Tryz.ntmps72
  go_wp2
  clear c1_
  go_loopw [] (fun wr => ∃ j : Nat, a ≤ j ∧ j ≤ s.size ∧ Hid (Rd wr N s j bad) ∧ Hid (ToAt s a j c) ∧ Turn (At N) w wr) (fun wr => match wr.cell? ⟨N, 1, none⟩ with | some (.int _ z) => (1099511627776 - z).toNat | _ => 0)
  case atStart => exact ⟨a, Nat.le_refl _, ha, HR0, ToAt.start s a c, Turn.refl _ _⟩
  case round =>
    obtain ⟨j, hj1, hj2, HR, HTO, ht⟩ := hrel
    have HT := hide ht
    obtain ⟨_, hfz, c0, c1, c2⟩ := HR.out
    clear ht
    by_cases hlt : j < s.size
    · have hi0 : (0 : Int) ≤ (j : Int) := by omega
      have hi1 : (j : Int) < (s.size : Int) := by omega
      have hi2 : ¬ ((j : Int) = (s.size : Int)) := by omega
      have hi3 : ((j : Int) == (s.size : Int)) = false := by rw [beq_eq_false_iff_ne]; omega
      by_cases hc : s[j] = c
      · obtain ⟨f1, f2, f3⟩ := HTO.out.found hj1 hlt hc
        have HF := hide (And.intro f1 (And.intro f2 f3))
        have q1 : ((s[j].toNat : Int) != (c.toNat : Int)) = false := by rw [hc]; simp
        have q2 : ((s[j].toNat : Int) == (c.toNat : Int)) = true := by rw [hc]; simp
        have s1 : (0 : Int) ≤ (a : Int) := by omega
        have s2 : (a : Int) ≤ (j : Int) := by omega
        have s3 : (j : Int) ≤ (s.size : Int) := by omega
        clear hc f1 f2 f3
        go_wp2
        go_quiet (fail)
        have R1 := hide (HR.out.drewN nq)
        have T1 := hide (turn_drewNR HT.out nq)
        obtain ⟨wq, hwq⟩ : ∃ W, wr.drewN nq = W := ⟨_, rfl⟩
        rw [hwq] at R1 T1
        rw [hwq]
        clear hwq hfz c0 c1 c2 HR HT
        obtain ⟨_, hfz, c0, c1, c2⟩ := R1.out
        go_wp2
        go_quiet (fail)
        have R2 := hide (R1.out.drewN nq)
        have T2 := hide (turn_drewNR T1.out nq)
        obtain ⟨wp, hwp⟩ : ∃ W, wq.drewN nq = W := ⟨_, rfl⟩
        rw [hwp] at R2 T2
        rw [hwp]
        clear hwp hfz c0 c1 c2 R1 T1
        obtain ⟨_, hfz, c0, c1, c2⟩ := R2.out
        have hf1 := hfz 1
        have R3 := hide (R2.out.step (j + 1))
        have T3 := hide (T2.out.trans (Turn.set _ ⟨N, 1, none⟩ (.int .i64 ((j + 1 : Nat) : Int)) rfl))
        have d0 : (wp.setCell ⟨N, 1, none⟩ (.int .i64 ((j : Int) + 1))).cell? ⟨N, 0, none⟩ = some (.string s) := R3.out.c0
        have d1 : (wp.setCell ⟨N, 1, none⟩ (.int .i64 ((j : Int) + 1))).cell? ⟨N, 1, none⟩ = some (.int .i64 ((j : Int) + 1)) := R3.out.c1
        have s4 : (j : Int) + 1 - 1 = (j : Int) := by omega
        have s5 : (0 : Int) ≤ (j : Int) + 1 - 1 := by omega
        have s6 : (a : Int) ≤ (j : Int) + 1 - 1 := by omega
        go_wp2
        go_quiet (fail)
        go_wp2
        go_ret
        have hA : toA s a c = j + 1 := HF.out.2.1
        refine ⟨?_, ?_, turn_drewNR T3.out _⟩
        · rw [← HF.out.2.2]
          rfl
        · rw [hA, HF.out.1, Bool.or_false]
          exact R3.out.drewN _
      · have HNX := hide (HTO.out.next hj1 hlt hc)
        have q1 : ((s[j].toNat : Int) != (c.toNat : Int)) = true := by simpa [bne_iff_ne, Int.ofNat_inj, UInt8.toNat_inj] using hc
        have q2 : ((s[j].toNat : Int) == (c.toNat : Int)) = false := by simpa [Int.ofNat_inj, UInt8.toNat_inj] using hc
        clear hc
        go_wp2
        go_quiet (fail)
        have d1 : (wr.drewN nq).cell? ⟨N, 1, none⟩ = some (.int .i64 j) := c1
        have d3 : (wr.drewN nq).frozen? ⟨N, 1, none⟩ = false := hfz 1
        have R1 := hide ((HR.out.drewN nq).step (j + 1))
        have T1 := hide ((turn_drewNR HT.out nq).trans (Turn.set _ ⟨N, 1, none⟩ (.int .i64 ((j + 1 : Nat) : Int)) rfl))
        go_wp2
        go_roundw
        case rel => exact ⟨j + 1, by omega, by omega, R1, HNX, T1.out⟩
        case measure =>
          have e := R1.out.c1
          simp only [Int.natCast_add, Int.cast_ofNat_Int] at e
          rw [e, c1]
          simp
          omega
    · have hje : j = s.size := by omega
      subst hje
      have HN := hide (HTO.out.none)
      have hi2 : ((s.size : Int) == (s.size : Int)) = true := beq_self_eq_true _
      have hlt' : decide (s.size < s.size) = false := decide_eq_false (Nat.lt_irrefl _)
      clear hlt
      go_wp2
      go_quiet (fail)
      have R1 := hide (HR.out.drewN nq)
      have T1 := hide (turn_drewNR HT.out nq)
      obtain ⟨wq, hwq⟩ : ∃ W, wr.drewN nq = W := ⟨_, rfl⟩
      rw [hwq] at R1 T1
      rw [hwq]
      clear hwq hfz c0 c1 c2 HR HT
      obtain ⟨_, hfz, c0, c1, c2⟩ := R1.out
      go_wp2
      go_quiet (fail)
      have R2 := hide (R1.out.drewN nq)
      have T2 := hide (turn_drewNR T1.out nq)
      obtain ⟨wp, hwp⟩ : ∃ W, wq.drewN nq = W := ⟨_, rfl⟩
      rw [hwp] at R2 T2
      rw [hwp]
      clear hwp hfz c0 c1 c2 R1 T1
      obtain ⟨_, hfz, c0, c1, c2⟩ := R2.out
      have hf1 := hfz 2
      go_wp2
      go_ret
      have h1 := R2.out.turned true
      refine ⟨?_, ?_, T2.out.trans (Turn.set _ _ _ rfl)⟩
      · unfold toT
        rw [HN.out]
        rfl
      · unfold toA
        rw [HN.out, Bool.or_true, if_pos rfl]
        exact h1
end Go.Proofs.YtmgikfeknmbpbaaGreatDoor
