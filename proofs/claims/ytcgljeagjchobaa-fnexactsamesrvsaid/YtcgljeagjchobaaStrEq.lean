/-
  Two lists of numbers held against one another.
  Whether two slices of texts hold the same: what slices.Equal[[]string,string] does.
  What the program's SamePath does.
  Whether two slices of texts hold the same: what spec.SamePath does.
  The first place where it holds: no program in sight.
  Locks held against one another: impl.sameLock, slices.EqualFunc, spec.l15SameLocks.
  Locks held against one another: spec.l15SameLocks.
  Plain facts on a text without the blanks at its ends: no program in sight.
  Plain facts on small names: no program in sight.
  Plain facts on requests: which are right, and their heads: no program in sight.
  Slices of heads: what they hold, and that it stays.
  Plain facts on requests that are the same, and on texts that are.
-/
import Derived.Test.YtcgljeagjchobaaDeq
import Derived.Test.YtcgljeagjchobaaInts
import Derived.Test.YtcgljeagjchobaaGenSrv
import Derived.Test.YtcgljeagjchobaaTurn
import Derived.Deep.QuietTactic
import Derived.WalkSpells
import Derived.WalkLawsBesides
import Derived.Test.YtcgljeagjchobaaRet
import Derived.Test.YtcgljeagjchobaaRows
import Derived.WalkKit
import Derived.Test.YtcgljeagjchobaaLocks
import Derived.Test.YtcgljeagjchobaaGenBox
import Derived.Lib.Bytealg
import Derived.Deep.Light
import Derived.Deep.OwnRows
namespace Go.Proofs.Ytcgljeagjchobaa
open Go.RowKit M
set_option linter.unusedVariables false

set_option maxHeartbeats 2000000 in
theorem slicesEqualI_any (a b : Option Addr) (ss tt : List Int) (cap cap' B C : Nat) (w : World) (h : Ints w B a ss) (h' : Ints w C b tt) (hl : ss.length ≤ maxLen) (hl' : tt.length ≤ maxLen) :
    Calls Try.prog 36 #[.slice a ss.length cap, .slice b tt.length cap'] w fun e w' => e = .returned (.bool (decide (ss = tt))) ∧ ∀ D, Below D w w' := by
  unfold maxLen at hl hl'
  by_cases hlen : ss.length = tt.length
  · have HL : Hid (ss.length = tt.length) := hlen
    go_enter Try.func36, Try.ntmps36
    rw [← hlen]
    clear hlen
    go_wp2
    go_loopw [13] (fun i wr => ∃ k n : Nat, k ≤ ss.length ∧ i = .int .i64 k ∧ ss.take k = tt.take k ∧ wr = w.drewN n) (fun i _ => ss.length - (intOf i).toNat)
    case atStart => exact ⟨0, 0, Nat.zero_le _, rfl, rfl, rfl⟩
    case round =>
      obtain ⟨k, n, hk, rfl, ht, rfl⟩ := hrel
      have HT : Hid (ss.take k = tt.take k) := ht
      clear ht
      by_cases hlt : k < ss.length
      · have hlt' : k < tt.length := by have := HL.out; omega
        obtain ⟨b1, o1, rfl, hb1, hc1⟩ := h (by omega)
        obtain ⟨b2, o2, rfl, hb2, hc2⟩ := h' (by have := HL.out; omega)
        have hcx := hc1 k hlt
        have hcy := hc2 k hlt'
        clear hc1 hc2
        by_cases he : ss[k] = tt[k]
        · have HE : Hid (ss[k] = tt[k]) := he
          have hq : (ss[k] != tt[k]) = false := by rw [he]; simp
          have hq2 : ¬ (ss[k] ≠ tt[k]) := fun e => e he
          clear he
          go_wp2
          go_quiet (fail)
          go_wp2
          go_roundw
          case rel => exact ⟨k + 1, n + nq, by omega, by go_num, deq_step k hlt hlt' HT.out HE.out, by simp⟩
          case measure => simp [intOf]; omega
        · have HE : Hid (decide (ss = tt) = false) := deq_not k hlt hlt' he
          have hq : (ss[k] != tt[k]) = true := by simp [he]
          have hq2 : ¬ ss[k] = tt[k] := he
          clear he
          go_wp2
          go_quiet (fail)
          go_wp2
          go_ret
          exact ⟨ret_bool HE.out.symm, fun D => below_drewN (below_drewN (Below.refl _ _) _) _⟩
      · go_wp2
        go_ret
        exact ⟨ret_bool (deq_all HL.out k hlt HT.out).symm, fun D => below_drewN (Below.refl _ _) _⟩
  · have HS := deq_len hlen
    go_enter Try.func36, Try.ntmps36
    go_wp2
    go_ret
    exact ⟨ret_bool HS.symm, fun D => Below.refl _ _⟩

set_option maxHeartbeats 2000000 in
theorem specSameInts_any (a b : Option Addr) (ss tt : List Int) (cap cap' B C : Nat) (w : World) (h : Ints w B a ss) (h' : Ints w C b tt) (hl : ss.length ≤ maxLen) (hl' : tt.length ≤ maxLen) :
    Calls Try.prog 28 #[.slice a ss.length cap, .slice b tt.length cap'] w fun e w' => e = .returned (.bool (decide (ss = tt))) ∧ ∀ D, Below D w w' := by
  unfold maxLen at hl hl'
  by_cases hlen : ss.length = tt.length
  · have HL : Hid (ss.length = tt.length) := hlen
    go_enter Try.func28, Try.ntmps28
    rw [← hlen]
    clear hlen
    go_wp2
    go_loopw [5] (fun i wr => ∃ k n : Nat, k ≤ ss.length ∧ i = .int .i64 k ∧ ss.take k = tt.take k ∧ wr = w.drewN n) (fun i _ => ss.length - (intOf i).toNat)
    case atStart => exact ⟨0, 0, Nat.zero_le _, rfl, rfl, rfl⟩
    case round =>
      obtain ⟨k, n, hk, rfl, ht, rfl⟩ := hrel
      have HT : Hid (ss.take k = tt.take k) := ht
      clear ht
      by_cases hlt : k < ss.length
      · have hlt' : k < tt.length := by have := HL.out; omega
        obtain ⟨b1, o1, rfl, hb1, hc1⟩ := h (by omega)
        obtain ⟨b2, o2, rfl, hb2, hc2⟩ := h' (by have := HL.out; omega)
        have hcx := hc1 k hlt
        have hcy := hc2 k hlt'
        clear hc1 hc2
        by_cases he : ss[k] = tt[k]
        · have HE : Hid (ss[k] = tt[k]) := he
          have hq : (ss[k] != tt[k]) = false := by rw [he]; simp
          have hq2 : ¬ (ss[k] ≠ tt[k]) := fun e => e he
          clear he
          go_wp2
          go_quiet (fail)
          go_wp2
          go_roundw
          case rel => exact ⟨k + 1, n + nq, by omega, by go_num, deq_step k hlt hlt' HT.out HE.out, by simp⟩
          case measure => simp [intOf]; omega
        · have HE : Hid (decide (ss = tt) = false) := deq_not k hlt hlt' he
          have hq : (ss[k] != tt[k]) = true := by simp [he]
          have hq2 : ¬ ss[k] = tt[k] := he
          clear he
          go_wp2
          go_quiet (fail)
          go_wp2
          go_ret
          exact ⟨ret_bool HE.out.symm, fun D => below_drewN (below_drewN (Below.refl _ _) _) _⟩
      · go_wp2
        go_ret
        exact ⟨ret_bool (deq_all HL.out k hlt HT.out).symm, fun D => below_drewN (Below.refl _ _) _⟩
  · have HS := deq_len hlen
    go_enter Try.func28, Try.ntmps28
    go_wp2
    go_ret
    exact ⟨ret_bool HS.symm, fun D => Below.refl _ _⟩
end Go.Proofs.Ytcgljeagjchobaa
namespace Go.Proofs.Ytcgljeagjchobaa
open Go.RowKit
set_option linter.unusedVariables false

set_option maxHeartbeats 400000 in
theorem slicesEqual_any (a b : Option Addr) (ss tt : List ByteArray) (cap cap' B C : Nat) (w : World) (h : Strs w B a ss) (h' : Strs w C b tt) (hl : ss.length ≤ maxLen) (hl' : tt.length ≤ maxLen) :
    Calls Try.prog 58 #[.slice a ss.length cap, .slice b tt.length cap'] w fun e w' => e = .returned (.bool (sameL ss tt)) ∧ ∀ D, Below D w w' := by
  unfold maxLen at hl hl'
  by_cases hlen : ss.length = tt.length
  · have HL : Hid (ss.length = tt.length) := hlen
    go_enter Try.func58, Try.ntmps58
    rw [← hlen]
    clear hlen
    go_wp2
    go_loopw [13] (fun i wr => ∃ k n : Nat, k ≤ ss.length ∧ i = .int .i64 k ∧ ss.take k = tt.take k ∧ wr = w.drewN n) (fun i _ => ss.length - (intOf i).toNat)
    case atStart => exact ⟨0, 0, Nat.zero_le _, rfl, rfl, rfl⟩
    case round =>
      obtain ⟨k, n, hk, rfl, ht, rfl⟩ := hrel
      have HT : Hid (ss.take k = tt.take k) := ht
      clear ht
      by_cases hlt : k < ss.length
      · have hlt' : k < tt.length := by have := HL.out; omega
        obtain ⟨b1, o1, rfl, hb1, hc1⟩ := h (by omega)
        obtain ⟨b2, o2, rfl, hb2, hc2⟩ := h' (by have := HL.out; omega)
        have hcx := hc1 k hlt
        have hcy := hc2 k hlt'
        go_wp2
        go_quiet (fail)
        go_wp2
        · rename_i hne
          have hne' : ¬ ss[k] = tt[k] := fun e => by rw [e] at hne; simp at hne
          go_ret
          exact ⟨ret_bool (sameL_not k hlt hlt' hne').symm, fun D => below_drewN (below_drewN (Below.refl _ _) _) _⟩
        · rename_i he
          have he' : ss[k] = tt[k] := str_inj (by simpa using he)
          go_roundw
          case rel => exact ⟨k + 1, n + nq, by omega, by go_num, take_same k hlt hlt' HT.out he', by simp⟩
          case measure => simp [intOf]; omega
      · go_wp2
        go_ret
        exact ⟨ret_bool (sameL_all HL.out k hlt HT.out).symm, fun D => below_drewN (Below.refl _ _) _⟩
  · have HS := sameL_len hlen
    go_enter Try.func58, Try.ntmps58
    go_wp2
    go_ret
    exact ⟨ret_bool HS.symm, fun D => Below.refl _ _⟩
end Go.Proofs.Ytcgljeagjchobaa
namespace Go.Proofs.Ytcgljeagjchobaa
open Go.RowKit
set_option linter.unusedVariables false

set_option maxHeartbeats 400000 in
theorem samePath_any (a b : Option Addr) (ss tt : List ByteArray) (cap cap' B C : Nat) (w : World) (h : Strs w B a ss) (h' : Strs w C b tt) (hl : ss.length ≤ maxLen) (hl' : tt.length ≤ maxLen) :
    Calls Try.prog 50 #[.slice a ss.length cap, .slice b tt.length cap'] w fun e w' => e = .returned (.bool (sameL ss tt)) ∧ ∀ D, Below D w w' := by
  go_enter Try.func50, Try.ntmps50
  go_wp2_with fail
  refine (slicesEqual_any a b ss tt cap cap' B C w h h' hl hl').mono ?_
  rintro e w1 ⟨rfl, hb⟩
  go_wp2
  go_ret
  exact ⟨rfl, hb⟩
end Go.Proofs.Ytcgljeagjchobaa
namespace Go.Proofs.Ytcgljeagjchobaa
open Go.RowKit
set_option linter.unusedVariables false

set_option maxHeartbeats 400000 in
theorem specSamePath_any (a b : Option Addr) (ss tt : List ByteArray) (cap cap' B C : Nat) (w : World) (h : Strs w B a ss) (h' : Strs w C b tt) (hl : ss.length ≤ maxLen) (hl' : tt.length ≤ maxLen) :
    Calls Try.prog 47 #[.slice a ss.length cap, .slice b tt.length cap'] w fun e w' => e = .returned (.bool (sameL ss tt)) ∧ ∀ D, Below D w w' := by
  unfold maxLen at hl hl'
  by_cases hlen : ss.length = tt.length
  · have HL : Hid (ss.length = tt.length) := hlen
    go_enter Try.func47, Try.ntmps47
    rw [← hlen]
    clear hlen
    go_wp2
    go_loopw [5] (fun i wr => ∃ k n : Nat, k ≤ ss.length ∧ i = .int .i64 k ∧ ss.take k = tt.take k ∧ wr = w.drewN n) (fun i _ => ss.length - (intOf i).toNat)
    case atStart => exact ⟨0, 0, Nat.zero_le _, rfl, rfl, rfl⟩
    case round =>
      obtain ⟨k, n, hk, rfl, ht, rfl⟩ := hrel
      have HT : Hid (ss.take k = tt.take k) := ht
      clear ht
      by_cases hlt : k < ss.length
      · have hlt' : k < tt.length := by have := HL.out; omega
        obtain ⟨b1, o1, rfl, hb1, hc1⟩ := h (by omega)
        obtain ⟨b2, o2, rfl, hb2, hc2⟩ := h' (by have := HL.out; omega)
        have hcx := hc1 k hlt
        have hcy := hc2 k hlt'
        go_wp2
        go_quiet (fail)
        go_wp2
        · rename_i hne
          have hne' : ¬ ss[k] = tt[k] := fun e => by rw [e] at hne; simp at hne
          go_ret
          exact ⟨ret_bool (sameL_not k hlt hlt' hne').symm, fun D => below_drewN (below_drewN (Below.refl _ _) _) _⟩
        · rename_i he
          have he' : ss[k] = tt[k] := str_inj (by simpa using he)
          go_roundw
          case rel => exact ⟨k + 1, n + nq, by omega, by go_num, take_same k hlt hlt' HT.out he', by simp⟩
          case measure => simp [intOf]; omega
      · go_wp2
        go_ret
        exact ⟨ret_bool (sameL_all HL.out k hlt HT.out).symm, fun D => below_drewN (Below.refl _ _) _⟩
  · have HS := sameL_len hlen
    go_enter Try.func47, Try.ntmps47
    go_wp2
    go_ret
    exact ⟨ret_bool HS.symm, fun D => Below.refl _ _⟩
end Go.Proofs.Ytcgljeagjchobaa
namespace Go.Proofs.Ytcgljeagjchobaa
open Go.RowKit
set_option linter.unusedVariables false

/-- The first place, or -1. -/
def placeB {α : Type} (P : α → Bool) (l : List α) (z : Int) : Prop := (z = -1 ∧ l.any P = false) ∨ ∃ k : Nat, z = k ∧ ∃ hk : k < l.length, P l[k] = true ∧ ∀ j (hj : j < l.length), j < k → P l[j] = false
theorem any_none {α : Type} {P : α → Bool} {l : List α} (h : ∀ j (hj : j < l.length), P l[j] = false) : l.any P = false := by
  rw [Bool.eq_false_iff]
  intro e
  obtain ⟨x, hx, hp⟩ := List.any_eq_true.1 e
  obtain ⟨j, hj, rfl⟩ := List.mem_iff_getElem.1 hx
  rw [h j hj] at hp
  cases hp

theorem placeB_any {α : Type} {P : α → Bool} {l : List α} {z : Int} (h : placeB P l z) : decide (0 ≤ z) = l.any P := by
  rcases h with ⟨rfl, h⟩ | ⟨k, rfl, hk, h, _⟩
  · rw [h]; rfl
  · rw [decide_eq_true (by omega)]
    exact (List.any_eq_true.2 ⟨_, List.getElem_mem hk, h⟩).symm
theorem enter_fn {P : Program} {f : FuncId} {fn : Func} {c : Code} (hf : P.funcs[f]? = some fn) (hname : (fn.name == "runtime.NumGoroutine") = false) (hb : fn.body = some c) (args : Array Value) (w : World) : (callFunc f args).run P w = .ok (.enter f args) w := by
  have h1 : fn.name ≠ "runtime.NumGoroutine" := by simpa using hname
  simp [callFunc, hf, h1, hb]
end Go.Proofs.Ytcgljeagjchobaa
namespace Go.Proofs.Ytcgljeagjchobaa
open Go.RowKit M
set_option linter.unusedVariables false

theorem lk_eq (r s : Lk) : decide (r = s) = ((r.tk == s.tk) && sameL r.pa s.pa && (r.de == s.de) && (r.sh == s.sh) && (r.un == s.un)) := by
  obtain ⟨a, b, c, d, e⟩ := r
  obtain ⟨a', b', c', d', e'⟩ := s
  simp only [Lk.mk.injEq, sameL, Bool.decide_and, Bool.and_assoc, ← Bool.beq_eq_decide_eq]
  try rw [show (a == a') = decide (a = a') from by by_cases h : a = a' <;> simp [h], show (c == c') = decide (c = c') from by by_cases h : c = c' <;> simp [h], show (d == d') = decide (d = d') from by by_cases h : d = d' <;> simp [h], show (e == e') = decide (e = e') from by by_cases h : e = e' <;> simp [h]]

set_option maxRecDepth 100000 in
set_option maxHeartbeats 4000000 in
theorem sameLock_any (r s : Lk) (pa pb : Option Addr) (pc pd B C : Nat) (w : World) (h : Strs w B pa r.pa) (h' : Strs w C pb s.pa) (hl : r.pa.length ≤ maxLen) (hl' : s.pa.length ≤ maxLen) (hB : B ≤ w.heap.size) (hC : C ≤ w.heap.size) :
    Calls Try.prog 35 #[.agg #[.int .i64 r.tk, .slice pa r.pa.length pc, .bool r.de, .bool r.sh, .int .i64 r.un], .agg #[.int .i64 s.tk, .slice pb s.pa.length pd, .bool s.de, .bool s.sh, .int .i64 s.un]] w fun e w' => e = .returned (.bool (decide (r = s))) ∧ Below w.heap.size w w' := by
  rw [lk_eq]
  have K0 := hide (show Below w.heap.size w ((w.alloc (Obj.cells #[.int .i64 r.tk, .slice pa r.pa.length pc, .bool r.de, .bool r.sh, .int .i64 r.un] 57)).alloc (Obj.cells #[.int .i64 s.tk, .slice pb s.pa.length pd, .bool s.de, .bool s.sh, .int .i64 s.un] 57)) from ((Below.refl _ _).alloc (Nat.le_refl _) _).alloc (by simp) _)
  have A0 := hide (show BoxV ((w.alloc (Obj.cells #[.int .i64 r.tk, .slice pa r.pa.length pc, .bool r.de, .bool r.sh, .int .i64 r.un] 57)).alloc (Obj.cells #[.int .i64 s.tk, .slice pb s.pa.length pd, .bool s.de, .bool s.sh, .int .i64 s.un] 57)) w.heap.size [.int .i64 r.tk, .slice pa r.pa.length pc, .bool r.de, .bool r.sh, .int .i64 r.un] from (BoxV.made w [.int .i64 r.tk, .slice pa r.pa.length pc, .bool r.de, .bool r.sh, .int .i64 r.un] 57).alloc _)
  have B0 := hide (show BoxV ((w.alloc (Obj.cells #[.int .i64 r.tk, .slice pa r.pa.length pc, .bool r.de, .bool r.sh, .int .i64 r.un] 57)).alloc (Obj.cells #[.int .i64 s.tk, .slice pb s.pa.length pd, .bool s.de, .bool s.sh, .int .i64 s.un] 57)) (w.heap.size + 1) [.int .i64 s.tk, .slice pb s.pa.length pd, .bool s.de, .bool s.sh, .int .i64 s.un] by have h := BoxV.made (w.alloc (Obj.cells #[.int .i64 r.tk, .slice pa r.pa.length pc, .bool r.de, .bool r.sh, .int .i64 r.un] 57)) [.int .i64 s.tk, .slice pb s.pa.length pd, .bool s.de, .bool s.sh, .int .i64 s.un] 57; simpa using h)
  have HS := hide (fun W (hb : Below w.heap.size w W) => (samePath_any pa pb r.pa s.pa pc pd B C W (h.below hb hB) (h'.below hb hC) hl hl').mono (fun e w2 (q : _ ∧ _) => (⟨q.1, q.2 W.heap.size⟩ : _ ∧ Below W.heap.size W w2)))
  clear h h'
  obtain ⟨z0, hz0⟩ : ∃ z : Bool, (r.tk == s.tk) = z := ⟨_, rfl⟩
  obtain ⟨z1, hz1⟩ : ∃ z : Bool, sameL r.pa s.pa = z := ⟨_, rfl⟩
  rw [hz1] at HS
  obtain ⟨z2, hz2⟩ : ∃ z : Bool, (r.de == s.de) = z := ⟨_, rfl⟩
  obtain ⟨z3, hz3⟩ : ∃ z : Bool, (r.sh == s.sh) = z := ⟨_, rfl⟩
  obtain ⟨z4, hz4⟩ : ∃ z : Bool, (r.un == s.un) = z := ⟨_, rfl⟩
  rw [hz0, hz1, hz2, hz3, hz4]
  cases z0
  · clear hz1 hz2 hz3 hz4 HS
    go_enter Try.func35, Try.ntmps35
    have c0 := (A0.out.2 0 _ rfl).1
    have d0 := (B0.out.2 0 _ rfl).1
    have c1 := (A0.out.2 1 _ rfl).1
    have d1 := (B0.out.2 1 _ rfl).1
    have c2 := (A0.out.2 2 _ rfl).1
    have d2 := (B0.out.2 2 _ rfl).1
    have c3 := (A0.out.2 3 _ rfl).1
    have d3 := (B0.out.2 3 _ rfl).1
    have c4 := (A0.out.2 4 _ rfl).1
    have d4 := (B0.out.2 4 _ rfl).1
    go_wp2
    go_ret
    exact ⟨ret_bool (by simp), K0.out⟩
  cases z1
  · clear hz1 hz2 hz3 hz4
    go_enter Try.func35, Try.ntmps35
    have c0 := (A0.out.2 0 _ rfl).1
    have d0 := (B0.out.2 0 _ rfl).1
    have c1 := (A0.out.2 1 _ rfl).1
    have d1 := (B0.out.2 1 _ rfl).1
    have c2 := (A0.out.2 2 _ rfl).1
    have d2 := (B0.out.2 2 _ rfl).1
    have c3 := (A0.out.2 3 _ rfl).1
    have d3 := (B0.out.2 3 _ rfl).1
    have c4 := (A0.out.2 4 _ rfl).1
    have d4 := (B0.out.2 4 _ rfl).1
    go_wp2_with fail
    refine (HS.out _ K0.out).mono ?_
    rintro e w1 ⟨rfl, b1⟩
    clear c0 d0 c1 d1 c2 d2 c3 d3 c4 d4
    have K1 := hide (K0.out.trans (b1.mono K0.out.size))
    have A1 := hide (A0.out.next b1)
    have B1 := hide (B0.out.next b1)
    clear b1 K0 A0 B0
    have c0 := (A1.out.2 0 _ rfl).1
    have d0 := (B1.out.2 0 _ rfl).1
    have c1 := (A1.out.2 1 _ rfl).1
    have d1 := (B1.out.2 1 _ rfl).1
    have c2 := (A1.out.2 2 _ rfl).1
    have d2 := (B1.out.2 2 _ rfl).1
    have c3 := (A1.out.2 3 _ rfl).1
    have d3 := (B1.out.2 3 _ rfl).1
    have c4 := (A1.out.2 4 _ rfl).1
    have d4 := (B1.out.2 4 _ rfl).1
    go_wp2
    go_ret
    exact ⟨ret_bool (by simp), K1.out⟩
  cases z2
  · clear hz1 hz3 hz4
    go_enter Try.func35, Try.ntmps35
    have c0 := (A0.out.2 0 _ rfl).1
    have d0 := (B0.out.2 0 _ rfl).1
    have c1 := (A0.out.2 1 _ rfl).1
    have d1 := (B0.out.2 1 _ rfl).1
    have c2 := (A0.out.2 2 _ rfl).1
    have d2 := (B0.out.2 2 _ rfl).1
    have c3 := (A0.out.2 3 _ rfl).1
    have d3 := (B0.out.2 3 _ rfl).1
    have c4 := (A0.out.2 4 _ rfl).1
    have d4 := (B0.out.2 4 _ rfl).1
    go_wp2_with fail
    refine (HS.out _ K0.out).mono ?_
    rintro e w1 ⟨rfl, b1⟩
    clear c0 d0 c1 d1 c2 d2 c3 d3 c4 d4
    have K1 := hide (K0.out.trans (b1.mono K0.out.size))
    have A1 := hide (A0.out.next b1)
    have B1 := hide (B0.out.next b1)
    clear b1 K0 A0 B0
    have c0 := (A1.out.2 0 _ rfl).1
    have d0 := (B1.out.2 0 _ rfl).1
    have c1 := (A1.out.2 1 _ rfl).1
    have d1 := (B1.out.2 1 _ rfl).1
    have c2 := (A1.out.2 2 _ rfl).1
    have d2 := (B1.out.2 2 _ rfl).1
    have c3 := (A1.out.2 3 _ rfl).1
    have d3 := (B1.out.2 3 _ rfl).1
    have c4 := (A1.out.2 4 _ rfl).1
    have d4 := (B1.out.2 4 _ rfl).1
    go_wp2
    go_ret
    exact ⟨ret_bool (by simp), K1.out⟩
  cases z3
  · clear hz1 hz4
    go_enter Try.func35, Try.ntmps35
    have c0 := (A0.out.2 0 _ rfl).1
    have d0 := (B0.out.2 0 _ rfl).1
    have c1 := (A0.out.2 1 _ rfl).1
    have d1 := (B0.out.2 1 _ rfl).1
    have c2 := (A0.out.2 2 _ rfl).1
    have d2 := (B0.out.2 2 _ rfl).1
    have c3 := (A0.out.2 3 _ rfl).1
    have d3 := (B0.out.2 3 _ rfl).1
    have c4 := (A0.out.2 4 _ rfl).1
    have d4 := (B0.out.2 4 _ rfl).1
    go_wp2_with fail
    refine (HS.out _ K0.out).mono ?_
    rintro e w1 ⟨rfl, b1⟩
    clear c0 d0 c1 d1 c2 d2 c3 d3 c4 d4
    have K1 := hide (K0.out.trans (b1.mono K0.out.size))
    have A1 := hide (A0.out.next b1)
    have B1 := hide (B0.out.next b1)
    clear b1 K0 A0 B0
    have c0 := (A1.out.2 0 _ rfl).1
    have d0 := (B1.out.2 0 _ rfl).1
    have c1 := (A1.out.2 1 _ rfl).1
    have d1 := (B1.out.2 1 _ rfl).1
    have c2 := (A1.out.2 2 _ rfl).1
    have d2 := (B1.out.2 2 _ rfl).1
    have c3 := (A1.out.2 3 _ rfl).1
    have d3 := (B1.out.2 3 _ rfl).1
    have c4 := (A1.out.2 4 _ rfl).1
    have d4 := (B1.out.2 4 _ rfl).1
    go_wp2
    go_ret
    exact ⟨ret_bool (by simp), K1.out⟩
  cases z4
  · clear hz1
    go_enter Try.func35, Try.ntmps35
    have c0 := (A0.out.2 0 _ rfl).1
    have d0 := (B0.out.2 0 _ rfl).1
    have c1 := (A0.out.2 1 _ rfl).1
    have d1 := (B0.out.2 1 _ rfl).1
    have c2 := (A0.out.2 2 _ rfl).1
    have d2 := (B0.out.2 2 _ rfl).1
    have c3 := (A0.out.2 3 _ rfl).1
    have d3 := (B0.out.2 3 _ rfl).1
    have c4 := (A0.out.2 4 _ rfl).1
    have d4 := (B0.out.2 4 _ rfl).1
    go_wp2_with fail
    refine (HS.out _ K0.out).mono ?_
    rintro e w1 ⟨rfl, b1⟩
    clear c0 d0 c1 d1 c2 d2 c3 d3 c4 d4
    have K1 := hide (K0.out.trans (b1.mono K0.out.size))
    have A1 := hide (A0.out.next b1)
    have B1 := hide (B0.out.next b1)
    clear b1 K0 A0 B0
    have c0 := (A1.out.2 0 _ rfl).1
    have d0 := (B1.out.2 0 _ rfl).1
    have c1 := (A1.out.2 1 _ rfl).1
    have d1 := (B1.out.2 1 _ rfl).1
    have c2 := (A1.out.2 2 _ rfl).1
    have d2 := (B1.out.2 2 _ rfl).1
    have c3 := (A1.out.2 3 _ rfl).1
    have d3 := (B1.out.2 3 _ rfl).1
    have c4 := (A1.out.2 4 _ rfl).1
    have d4 := (B1.out.2 4 _ rfl).1
    go_wp2
    go_ret
    exact ⟨ret_bool (by simp), K1.out⟩
  clear hz1
  go_enter Try.func35, Try.ntmps35
  have c0 := (A0.out.2 0 _ rfl).1
  have d0 := (B0.out.2 0 _ rfl).1
  have c1 := (A0.out.2 1 _ rfl).1
  have d1 := (B0.out.2 1 _ rfl).1
  have c2 := (A0.out.2 2 _ rfl).1
  have d2 := (B0.out.2 2 _ rfl).1
  have c3 := (A0.out.2 3 _ rfl).1
  have d3 := (B0.out.2 3 _ rfl).1
  have c4 := (A0.out.2 4 _ rfl).1
  have d4 := (B0.out.2 4 _ rfl).1
  go_wp2_with fail
  refine (HS.out _ K0.out).mono ?_
  rintro e w1 ⟨rfl, b1⟩
  clear c0 d0 c1 d1 c2 d2 c3 d3 c4 d4
  have K1 := hide (K0.out.trans (b1.mono K0.out.size))
  have A1 := hide (A0.out.next b1)
  have B1 := hide (B0.out.next b1)
  clear b1 K0 A0 B0
  have c0 := (A1.out.2 0 _ rfl).1
  have d0 := (B1.out.2 0 _ rfl).1
  have c1 := (A1.out.2 1 _ rfl).1
  have d1 := (B1.out.2 1 _ rfl).1
  have c2 := (A1.out.2 2 _ rfl).1
  have d2 := (B1.out.2 2 _ rfl).1
  have c3 := (A1.out.2 3 _ rfl).1
  have d3 := (B1.out.2 3 _ rfl).1
  have c4 := (A1.out.2 4 _ rfl).1
  have d4 := (B1.out.2 4 _ rfl).1
  go_wp2
  go_ret
  exact ⟨ret_bool (by simp), K1.out⟩

set_option maxRecDepth 100000 in
set_option maxHeartbeats 4000000 in
theorem equalLocks_any (a b : Option Addr) (ks ls : List Lk) (cap cap' B C : Nat) (w : World) (h : Lks w B a ks) (h' : Lks w C b ls) (hB : B ≤ w.heap.size) (hC : C ≤ w.heap.size) (hl : ks.length ≤ maxLen) (hl' : ls.length ≤ maxLen) :
    Calls Try.prog 34 #[.slice a ks.length cap, .slice b ls.length cap', .func (.func 35) #[] #[]] w fun e w' => e = .returned (.bool (decide (ks = ls))) ∧ Below w.heap.size w w' := by
  have hE : ∀ args w, (callFunc 35 args).run Try.prog w = .ok (.enter 35 args) w := fun args w => enter_fn Try.func35 (by kernel_rfl) rfl args w
  unfold maxLen at hl hl'
  by_cases hlen : ks.length = ls.length
  · have HL : Hid (ks.length = ls.length) := hlen
    go_enter Try.func34, Try.ntmps34
    rw [← hlen]
    clear hlen
    go_wp2
    go_loopw [17] (fun i wr => ∃ k : Nat, k ≤ ks.length ∧ i = .int .i64 k ∧ ks.take k = ls.take k ∧ Below w.heap.size w wr) (fun i _ => ks.length - (intOf i).toNat)
    case atStart => exact ⟨0, Nat.zero_le _, rfl, rfl, Below.refl _ _⟩
    case round =>
      obtain ⟨k, hk, rfl, ht, hbe⟩ := hrel
      have HT := hide ht
      clear ht
      by_cases hlt : k < ks.length
      · have hlt' : k < ls.length := by have := HL.out; omega
        obtain ⟨b1, o1, rfl, hb1, hc1⟩ := (h.below hbe hB) (by omega)
        obtain ⟨b2, o2, rfl, hb2, hc2⟩ := (h'.below hbe hC) (by have := HL.out; omega)
        obtain ⟨pa, pc, ⟨hx0, hx1, hx2, hx3, hx4⟩, hkx⟩ := hc1 k hlt
        obtain ⟨pb, pd, ⟨hy0, hy1, hy2, hy3, hy4⟩, hky⟩ := hc2 k hlt'
        clear hc1 hc2
        have hq1 : b1 < wr.heap.size := by have := hbe.size; omega
        have hq2 : b2 < wr.heap.size := by have := hbe.size; omega
        have HBA := hide (((Below.refl wr.heap.size wr).alloc (Nat.le_refl _) (Obj.cells #[.int .i64 ks[k].tk, .slice pa ks[k].pa.length pc, .bool ks[k].de, .bool ks[k].sh, .int .i64 ks[k].un] 57)).alloc (by simp) (Obj.cells #[.int .i64 ls[k].tk, .slice pb ls[k].pa.length pd, .bool ls[k].de, .bool ls[k].sh, .int .i64 ls[k].un] 57))
        have HQ := hide (sameLock_any ks[k] ls[k] pa pb pc pd B C _ ((hkx.ph.below HBA.out (Nat.le_trans hB hbe.size))) ((hky.ph.below HBA.out (Nat.le_trans hC hbe.size))) (Nat.le_trans hkx.pl hkx.pm) (Nat.le_trans hky.pl hky.pm) (Nat.le_trans (Nat.le_trans hB hbe.size) HBA.out.size) (Nat.le_trans (Nat.le_trans hC hbe.size) HBA.out.size))
        have HN := hide (deq_not k hlt hlt')
        have HY := hide (deq_step k hlt hlt' HT.out)
        clear hkx hky
        by_cases hz : ks[k] = ls[k]
        · rw [decide_eq_true hz] at HQ
          have HZ := hide hz
          clear hz
          go_wp2_with fail
          try rw [hE, Oper.upon_enter]
          refine HQ.out.mono ?_
          rintro e w1 ⟨rfl, hb3⟩
          have c1 := hbe.trans ((HBA.out.trans (hb3.mono HBA.out.size)).mono hbe.size)
          go_wp2
          go_roundw
          case rel => exact ⟨k + 1, by omega, by go_num, HY.out HZ.out, c1⟩
          case measure => simp [intOf]; omega
        · rw [decide_eq_false hz] at HQ
          have HZ := hide hz
          clear hz
          go_wp2_with fail
          try rw [hE, Oper.upon_enter]
          refine HQ.out.mono ?_
          rintro e w1 ⟨rfl, hb3⟩
          have c1 := hbe.trans ((HBA.out.trans (hb3.mono HBA.out.size)).mono hbe.size)
          go_wp2
          go_ret
          exact ⟨ret_bool (HN.out HZ.out).symm, c1⟩
      · go_wp2
        go_ret
        exact ⟨ret_bool (deq_all HL.out k hlt HT.out).symm, hbe⟩
  · have HS := deq_len hlen
    go_enter Try.func34, Try.ntmps34
    go_wp2
    go_ret
    exact ⟨ret_bool HS.symm, Below.refl _ _⟩
end Go.Proofs.Ytcgljeagjchobaa
namespace Go.Proofs.Ytcgljeagjchobaa
open Go.RowKit M
set_option linter.unusedVariables false

set_option maxRecDepth 100000 in
set_option maxHeartbeats 8000000 in
theorem specSameLocks_any (a b : Option Addr) (ks ls : List Lk) (cap cap' B C : Nat) (w : World) (h : Lks w B a ks) (h' : Lks w C b ls) (hB : B ≤ w.heap.size) (hC : C ≤ w.heap.size) (hl : ks.length ≤ maxLen) (hl' : ls.length ≤ maxLen) :
    Calls Try.prog 27 #[.slice a ks.length cap, .slice b ls.length cap'] w fun e w' => e = .returned (.bool (decide (ks = ls))) ∧ Below w.heap.size w w' := by
  unfold maxLen at hl hl'
  by_cases hlen : ks.length = ls.length
  · have HL : Hid (ks.length = ls.length) := hlen
    go_enter Try.func27, Try.ntmps27
    rw [← hlen]
    clear hlen
    go_wp2
    go_loopw [5] (fun i wr => ∃ k : Nat, k ≤ ks.length ∧ i = .int .i64 k ∧ ks.take k = ls.take k ∧ Below w.heap.size w wr) (fun i _ => ks.length - (intOf i).toNat)
    case atStart => exact ⟨0, Nat.zero_le _, rfl, rfl, Below.refl _ _⟩
    case round =>
      obtain ⟨k, hk, rfl, ht, hbe⟩ := hrel
      have HT := hide ht
      clear ht
      by_cases hlt : k < ks.length
      · have hlt' : k < ls.length := by have := HL.out; omega
        obtain ⟨b1, o1, rfl, hb1, hc1⟩ := (h.below hbe hB) (by omega)
        obtain ⟨b2, o2, rfl, hb2, hc2⟩ := (h'.below hbe hC) (by have := HL.out; omega)
        obtain ⟨pa, pc, ⟨hx0, hx1, hx2, hx3, hx4⟩, hkx⟩ := hc1 k hlt
        obtain ⟨pb, pd, ⟨hy0, hy1, hy2, hy3, hy4⟩, hky⟩ := hc2 k hlt'
        clear hc1 hc2
        have hq1 : b1 < wr.heap.size := by have := hbe.size; omega
        have hq2 : b2 < wr.heap.size := by have := hbe.size; omega
        have K0 := hide (show Below wr.heap.size wr ((wr.alloc (Obj.cells #[.int .i64 ks[k].tk, .slice pa ks[k].pa.length pc, .bool ks[k].de, .bool ks[k].sh, .int .i64 ks[k].un] 57)).alloc (Obj.cells #[.int .i64 ls[k].tk, .slice pb ls[k].pa.length pd, .bool ls[k].de, .bool ls[k].sh, .int .i64 ls[k].un] 57)) from ((Below.refl wr.heap.size wr).alloc (Nat.le_refl _) _).alloc (by simp) _)
        have A0 := hide (show BoxV ((wr.alloc (Obj.cells #[.int .i64 ks[k].tk, .slice pa ks[k].pa.length pc, .bool ks[k].de, .bool ks[k].sh, .int .i64 ks[k].un] 57)).alloc (Obj.cells #[.int .i64 ls[k].tk, .slice pb ls[k].pa.length pd, .bool ls[k].de, .bool ls[k].sh, .int .i64 ls[k].un] 57)) wr.heap.size [.int .i64 ks[k].tk, .slice pa ks[k].pa.length pc, .bool ks[k].de, .bool ks[k].sh, .int .i64 ks[k].un] from (BoxV.made wr [.int .i64 ks[k].tk, .slice pa ks[k].pa.length pc, .bool ks[k].de, .bool ks[k].sh, .int .i64 ks[k].un] 57).alloc _)
        have B0 := hide (show BoxV ((wr.alloc (Obj.cells #[.int .i64 ks[k].tk, .slice pa ks[k].pa.length pc, .bool ks[k].de, .bool ks[k].sh, .int .i64 ks[k].un] 57)).alloc (Obj.cells #[.int .i64 ls[k].tk, .slice pb ls[k].pa.length pd, .bool ls[k].de, .bool ls[k].sh, .int .i64 ls[k].un] 57)) (wr.heap.size + 1) [.int .i64 ls[k].tk, .slice pb ls[k].pa.length pd, .bool ls[k].de, .bool ls[k].sh, .int .i64 ls[k].un] by have h := BoxV.made (wr.alloc (Obj.cells #[.int .i64 ks[k].tk, .slice pa ks[k].pa.length pc, .bool ks[k].de, .bool ks[k].sh, .int .i64 ks[k].un] 57)) [.int .i64 ls[k].tk, .slice pb ls[k].pa.length pd, .bool ls[k].de, .bool ls[k].sh, .int .i64 ls[k].un] 57; simpa using h)
        have HS := hide (fun W (hb : Below wr.heap.size wr W) => (specSamePath_any pa pb ks[k].pa ls[k].pa pc pd B C W (hkx.ph.below hb (Nat.le_trans hB hbe.size)) (hky.ph.below hb (Nat.le_trans hC hbe.size)) (Nat.le_trans hkx.pl hkx.pm) (Nat.le_trans hky.pl hky.pm)).mono (fun e w2 (q : _ ∧ _) => (⟨q.1, q.2 W.heap.size⟩ : _ ∧ Below W.heap.size W w2)))
        have HBE := hide hbe
        clear hkx hky hbe
        have HE := hide (lk_eq ks[k] ls[k])
        have HN := hide (deq_not k hlt hlt')
        have HY := hide (deq_step k hlt hlt' HT.out)
        obtain ⟨z0, hz0⟩ : ∃ z : Bool, (ks[k].tk != ls[k].tk) = z := ⟨_, rfl⟩
        obtain ⟨z1, hz1⟩ : ∃ z : Bool, sameL ks[k].pa ls[k].pa = z := ⟨_, rfl⟩
        obtain ⟨z2, hz2⟩ : ∃ z : Bool, (ks[k].de != ls[k].de) = z := ⟨_, rfl⟩
        obtain ⟨z3, hz3⟩ : ∃ z : Bool, (ks[k].sh != ls[k].sh) = z := ⟨_, rfl⟩
        obtain ⟨z4, hz4⟩ : ∃ z : Bool, (ks[k].un != ls[k].un) = z := ⟨_, rfl⟩
        rw [hz1] at HS HE
        rw [show (ks[k].tk == ls[k].tk) = !z0 by rw [← hz0]; simp [bne], show (ks[k].de == ls[k].de) = !z2 by rw [← hz2]; simp [bne], show (ks[k].sh == ls[k].sh) = !z3 by rw [← hz3]; simp [bne], show (ks[k].un == ls[k].un) = !z4 by rw [← hz4]; simp [bne]] at HE
        clear hz1
        have hm4 : wr.heap.size + 1 < ((wr.alloc (Obj.cells #[.int .i64 ks[k].tk, .slice pa ks[k].pa.length pc, .bool ks[k].de, .bool ks[k].sh, .int .i64 ks[k].un] 57)).alloc (Obj.cells #[.int .i64 ls[k].tk, .slice pb ls[k].pa.length pd, .bool ls[k].de, .bool ls[k].sh, .int .i64 ls[k].un] 57)).heap.size := by simp
        cases z0
        rotate_left
        · clear HS
          clear hz2 hz3 hz4
          have c0 := (A0.out.2 0 _ rfl).1
          have d0 := (B0.out.2 0 _ rfl).1
          have c1 := (A0.out.2 1 _ rfl).1
          have d1 := (B0.out.2 1 _ rfl).1
          have c2 := (A0.out.2 2 _ rfl).1
          have d2 := (B0.out.2 2 _ rfl).1
          have c3 := (A0.out.2 3 _ rfl).1
          have d3 := (B0.out.2 3 _ rfl).1
          have c4 := (A0.out.2 4 _ rfl).1
          have d4 := (B0.out.2 4 _ rfl).1
          go_wp2
          go_ret
          exact ⟨ret_bool (HN.out (of_decide_eq_false (by rw [HE.out]; rfl))).symm, HBE.out.trans (K0.out.mono HBE.out.size)⟩
        cases z1
        · clear hz2 hz3 hz4
          have c0 := (A0.out.2 0 _ rfl).1
          have d0 := (B0.out.2 0 _ rfl).1
          have c1 := (A0.out.2 1 _ rfl).1
          have d1 := (B0.out.2 1 _ rfl).1
          have c2 := (A0.out.2 2 _ rfl).1
          have d2 := (B0.out.2 2 _ rfl).1
          have c3 := (A0.out.2 3 _ rfl).1
          have d3 := (B0.out.2 3 _ rfl).1
          have c4 := (A0.out.2 4 _ rfl).1
          have d4 := (B0.out.2 4 _ rfl).1
          go_wp2_with fail
          refine (HS.out _ K0.out).mono ?_
          rintro e w1 ⟨rfl, b1⟩
          clear c0 d0 c1 d1 c2 d2 c3 d3 c4 d4
          have K1 := hide (K0.out.trans (b1.mono K0.out.size))
          have A1 := hide (A0.out.next b1)
          have B1 := hide (B0.out.next b1)
          clear b1 K0 A0 B0
          have c0 := (A1.out.2 0 _ rfl).1
          have d0 := (B1.out.2 0 _ rfl).1
          have c1 := (A1.out.2 1 _ rfl).1
          have d1 := (B1.out.2 1 _ rfl).1
          have c2 := (A1.out.2 2 _ rfl).1
          have d2 := (B1.out.2 2 _ rfl).1
          have c3 := (A1.out.2 3 _ rfl).1
          have d3 := (B1.out.2 3 _ rfl).1
          have c4 := (A1.out.2 4 _ rfl).1
          have d4 := (B1.out.2 4 _ rfl).1
          go_wp2
          go_ret
          exact ⟨ret_bool (HN.out (of_decide_eq_false (by rw [HE.out]; rfl))).symm, HBE.out.trans (K1.out.mono HBE.out.size)⟩
        cases z2
        rotate_left
        · have G2 := hide (show ¬ ks[k].de = ls[k].de by simpa using hz2)
          clear hz2
          clear hz3 hz4
          have c0 := (A0.out.2 0 _ rfl).1
          have d0 := (B0.out.2 0 _ rfl).1
          have c1 := (A0.out.2 1 _ rfl).1
          have d1 := (B0.out.2 1 _ rfl).1
          have c2 := (A0.out.2 2 _ rfl).1
          have d2 := (B0.out.2 2 _ rfl).1
          have c3 := (A0.out.2 3 _ rfl).1
          have d3 := (B0.out.2 3 _ rfl).1
          have c4 := (A0.out.2 4 _ rfl).1
          have d4 := (B0.out.2 4 _ rfl).1
          go_wp2_with fail
          refine (HS.out _ K0.out).mono ?_
          rintro e w1 ⟨rfl, b1⟩
          clear c0 d0 c1 d1 c2 d2 c3 d3 c4 d4
          have K1 := hide (K0.out.trans (b1.mono K0.out.size))
          have A1 := hide (A0.out.next b1)
          have B1 := hide (B0.out.next b1)
          clear b1 K0 A0 B0
          have c0 := (A1.out.2 0 _ rfl).1
          have d0 := (B1.out.2 0 _ rfl).1
          have c1 := (A1.out.2 1 _ rfl).1
          have d1 := (B1.out.2 1 _ rfl).1
          have c2 := (A1.out.2 2 _ rfl).1
          have d2 := (B1.out.2 2 _ rfl).1
          have c3 := (A1.out.2 3 _ rfl).1
          have d3 := (B1.out.2 3 _ rfl).1
          have c4 := (A1.out.2 4 _ rfl).1
          have d4 := (B1.out.2 4 _ rfl).1
          have g2 := G2.out
          go_wp2
          go_ret
          exact ⟨ret_bool (HN.out (of_decide_eq_false (by rw [HE.out]; rfl))).symm, HBE.out.trans (K1.out.mono HBE.out.size)⟩
        have G2 := hide (show ks[k].de = ls[k].de by simpa using hz2)
        clear hz2
        cases z3
        rotate_left
        · have G3 := hide (show ¬ ks[k].sh = ls[k].sh by simpa using hz3)
          clear hz3
          clear hz4
          have c0 := (A0.out.2 0 _ rfl).1
          have d0 := (B0.out.2 0 _ rfl).1
          have c1 := (A0.out.2 1 _ rfl).1
          have d1 := (B0.out.2 1 _ rfl).1
          have c2 := (A0.out.2 2 _ rfl).1
          have d2 := (B0.out.2 2 _ rfl).1
          have c3 := (A0.out.2 3 _ rfl).1
          have d3 := (B0.out.2 3 _ rfl).1
          have c4 := (A0.out.2 4 _ rfl).1
          have d4 := (B0.out.2 4 _ rfl).1
          go_wp2_with fail
          refine (HS.out _ K0.out).mono ?_
          rintro e w1 ⟨rfl, b1⟩
          clear c0 d0 c1 d1 c2 d2 c3 d3 c4 d4
          have K1 := hide (K0.out.trans (b1.mono K0.out.size))
          have A1 := hide (A0.out.next b1)
          have B1 := hide (B0.out.next b1)
          clear b1 K0 A0 B0
          have c0 := (A1.out.2 0 _ rfl).1
          have d0 := (B1.out.2 0 _ rfl).1
          have c1 := (A1.out.2 1 _ rfl).1
          have d1 := (B1.out.2 1 _ rfl).1
          have c2 := (A1.out.2 2 _ rfl).1
          have d2 := (B1.out.2 2 _ rfl).1
          have c3 := (A1.out.2 3 _ rfl).1
          have d3 := (B1.out.2 3 _ rfl).1
          have c4 := (A1.out.2 4 _ rfl).1
          have d4 := (B1.out.2 4 _ rfl).1
          have g2 := G2.out
          have g3 := G3.out
          go_wp2
          go_ret
          exact ⟨ret_bool (HN.out (of_decide_eq_false (by rw [HE.out]; rfl))).symm, HBE.out.trans (K1.out.mono HBE.out.size)⟩
        have G3 := hide (show ks[k].sh = ls[k].sh by simpa using hz3)
        clear hz3
        cases z4
        rotate_left
        · have c0 := (A0.out.2 0 _ rfl).1
          have d0 := (B0.out.2 0 _ rfl).1
          have c1 := (A0.out.2 1 _ rfl).1
          have d1 := (B0.out.2 1 _ rfl).1
          have c2 := (A0.out.2 2 _ rfl).1
          have d2 := (B0.out.2 2 _ rfl).1
          have c3 := (A0.out.2 3 _ rfl).1
          have d3 := (B0.out.2 3 _ rfl).1
          have c4 := (A0.out.2 4 _ rfl).1
          have d4 := (B0.out.2 4 _ rfl).1
          go_wp2_with fail
          refine (HS.out _ K0.out).mono ?_
          rintro e w1 ⟨rfl, b1⟩
          clear c0 d0 c1 d1 c2 d2 c3 d3 c4 d4
          have K1 := hide (K0.out.trans (b1.mono K0.out.size))
          have A1 := hide (A0.out.next b1)
          have B1 := hide (B0.out.next b1)
          clear b1 K0 A0 B0
          have c0 := (A1.out.2 0 _ rfl).1
          have d0 := (B1.out.2 0 _ rfl).1
          have c1 := (A1.out.2 1 _ rfl).1
          have d1 := (B1.out.2 1 _ rfl).1
          have c2 := (A1.out.2 2 _ rfl).1
          have d2 := (B1.out.2 2 _ rfl).1
          have c3 := (A1.out.2 3 _ rfl).1
          have d3 := (B1.out.2 3 _ rfl).1
          have c4 := (A1.out.2 4 _ rfl).1
          have d4 := (B1.out.2 4 _ rfl).1
          have g2 := G2.out
          have g3 := G3.out
          go_wp2
          go_ret
          exact ⟨ret_bool (HN.out (of_decide_eq_false (by rw [HE.out]; rfl))).symm, HBE.out.trans (K1.out.mono HBE.out.size)⟩
        have c0 := (A0.out.2 0 _ rfl).1
        have d0 := (B0.out.2 0 _ rfl).1
        have c1 := (A0.out.2 1 _ rfl).1
        have d1 := (B0.out.2 1 _ rfl).1
        have c2 := (A0.out.2 2 _ rfl).1
        have d2 := (B0.out.2 2 _ rfl).1
        have c3 := (A0.out.2 3 _ rfl).1
        have d3 := (B0.out.2 3 _ rfl).1
        have c4 := (A0.out.2 4 _ rfl).1
        have d4 := (B0.out.2 4 _ rfl).1
        go_wp2_with fail
        refine (HS.out _ K0.out).mono ?_
        rintro e w1 ⟨rfl, b1⟩
        clear c0 d0 c1 d1 c2 d2 c3 d3 c4 d4
        have K1 := hide (K0.out.trans (b1.mono K0.out.size))
        have A1 := hide (A0.out.next b1)
        have B1 := hide (B0.out.next b1)
        clear b1 K0 A0 B0
        have c0 := (A1.out.2 0 _ rfl).1
        have d0 := (B1.out.2 0 _ rfl).1
        have c1 := (A1.out.2 1 _ rfl).1
        have d1 := (B1.out.2 1 _ rfl).1
        have c2 := (A1.out.2 2 _ rfl).1
        have d2 := (B1.out.2 2 _ rfl).1
        have c3 := (A1.out.2 3 _ rfl).1
        have d3 := (B1.out.2 3 _ rfl).1
        have c4 := (A1.out.2 4 _ rfl).1
        have d4 := (B1.out.2 4 _ rfl).1
        have g2 := G2.out
        have g3 := G3.out
        go_wp2
        go_roundw
        case rel => exact ⟨k + 1, by omega, by go_num, HY.out (of_decide_eq_true (by rw [HE.out]; rfl)), HBE.out.trans (K1.out.mono HBE.out.size)⟩
        case measure => simp [intOf]; omega
      · go_wp2
        go_ret
        exact ⟨ret_bool (deq_all HL.out k hlt HT.out).symm, hbe⟩
  · have HS := deq_len hlen
    go_enter Try.func27, Try.ntmps27
    go_wp2
    go_ret
    exact ⟨ret_bool HS.symm, Below.refl _ _⟩
end Go.Proofs.Ytcgljeagjchobaa
namespace Go.Proofs.Ytcgljeagjchobaa.M

def bl (c : UInt8) : Bool := isB (c.toNat : Int) 1
def trimL (l : List UInt8) : List UInt8 := ((l.dropWhile bl).reverse.dropWhile bl).reverse

theorem trimL_front (c : UInt8) (r : List UInt8) (h : bl c = true) : trimL (c :: r) = trimL r := by
  simp [trimL, h]

theorem dropWhile_append_single (p : UInt8 → Bool) (l : List UInt8) (c : UInt8) (h : p c = true) : (l ++ [c]).dropWhile p = if l.dropWhile p = [] then [] else l.dropWhile p ++ [c] := by
  induction l with
  | nil => simp [h]
  | cons a r ih =>
    simp only [List.cons_append, List.dropWhile_cons]
    cases p a <;> simp [ih]

theorem trimL_back (l : List UInt8) (c : UInt8) (h : bl c = true) : trimL (l ++ [c]) = trimL l := by
  unfold trimL
  rw [dropWhile_append_single bl l c h]
  by_cases e : l.dropWhile bl = []
  · simp [e]
  · simp [e, h]

theorem dropWhile_head (p : UInt8 → Bool) (c : UInt8) (r : List UInt8) (h : p c = false) : (c :: r).dropWhile p = c :: r := by
  simp [h]

theorem trimL_nil : trimL [] = [] := rfl

theorem trimL_done (l : List UInt8) (h0 : 0 < l.length) (hf : bl l[0] = false) (hb : bl (l[l.length - 1]) = false) : trimL l = l := by
  have e1 : l.dropWhile bl = l := by
    cases l with
    | nil => simp at h0
    | cons c r => exact dropWhile_head bl c r hf
  have e2 : l.reverse.dropWhile bl = l.reverse := by
    have hne : l ≠ [] := by intro e; simp [e] at h0
    have hl : l.getLast hne = l[l.length - 1] := List.getLast_eq_getElem hne
    have e3 : l.reverse = l.getLast hne :: l.dropLast.reverse := by
      conv => lhs; rw [← List.dropLast_concat_getLast hne]
      simp
    rw [e3]
    exact dropWhile_head bl _ _ (by rw [hl]; exact hb)
  rw [trimL, e1, e2, List.reverse_reverse]

/-- A text cut: its bytes from a up to b. -/
def cut (s : ByteArray) (a b : Nat) : List UInt8 := (s.data.toList.take b).drop a

theorem cut_all (s : ByteArray) : cut s 0 s.size = s.data.toList := by
  have e : s.data.toList.length = s.size := Array.length_toList
  unfold cut
  rw [List.drop_zero, List.take_of_length_le (by omega)]

theorem cut_length (s : ByteArray) (a b : Nat) (hb : b ≤ s.size) : (cut s a b).length = b - a := by
  have e : s.data.toList.length = s.size := Array.length_toList
  unfold cut
  rw [List.length_drop, List.length_take]
  omega

theorem cut_get (s : ByteArray) (a b i : Nat) (hb : b ≤ s.size) (hi : a + i < b) : (cut s a b)[i]'(by rw [cut_length s a b hb]; omega) = s[a + i] := by
  simp only [cut, List.getElem_drop, List.getElem_take]
  rfl

theorem cut_front (s : ByteArray) (a b : Nat) (hb : b ≤ s.size) (h : a < b) : cut s a b = s[a] :: cut s (a + 1) b := by
  have e : s.data.toList.length = s.size := Array.length_toList
  unfold cut
  rw [List.drop_eq_getElem_cons (by rw [List.length_take]; omega), List.getElem_take]
  rfl

theorem cut_back (s : ByteArray) (a b : Nat) (hb : b ≤ s.size) (h : a < b) : cut s a b = cut s a (b - 1) ++ [s[b - 1]] := by
  have e : s.data.toList.length = s.size := Array.length_toList
  obtain ⟨c, rfl⟩ : ∃ c, b = c + 1 := ⟨b - 1, by omega⟩
  simp only [Nat.add_sub_cancel]
  unfold cut
  rw [List.take_succ_eq_append_getElem (by omega), List.drop_append_of_le_length (by rw [List.length_take]; omega)]
  rfl

theorem cut_empty (s : ByteArray) (a b : Nat) (h : b ≤ a) : cut s a b = [] := by
  unfold cut
  rw [List.drop_eq_nil_iff, List.length_take]
  omega

theorem cut_trim_front (s : ByteArray) (a b : Nat) (hb : b ≤ s.size) (h : a < b) (hc : bl s[a] = true) : trimL (cut s a b) = trimL (cut s (a + 1) b) := by
  rw [cut_front s a b hb h, trimL_front _ _ hc]

theorem cut_trim_back (s : ByteArray) (a b : Nat) (hb : b ≤ s.size) (h : a < b) (hc : bl s[b - 1] = true) : trimL (cut s a b) = trimL (cut s a (b - 1)) := by
  rw [cut_back s a b hb h, trimL_back _ _ hc]

theorem cut_trim_done (s : ByteArray) (a b : Nat) (hb : b ≤ s.size) (h : a < b) (hf : bl s[a] = false) (hl : bl s[b - 1] = false) : trimL (cut s a b) = cut s a b := by
  have e := cut_length s a b hb
  apply trimL_done
  · rw [cut_get s a b 0 hb (by omega)]; exact hf
  · have := cut_get s a b (b - a - 1) hb (by omega)
    simp only [e]
    rw [this]
    have e2 : a + (b - a - 1) = b - 1 := by omega
    simp only [e2]; exact hl

theorem extract_cut (s : ByteArray) (a b : Nat) : (s.extract a b).data.toList = cut s a b := by
  unfold cut
  rw [ByteArray.data_extract, Array.toList_extract]
  simp [List.extract_eq_take_drop, List.drop_take]

theorem cut_cut (s : ByteArray) (a b c d : Nat) (hb : b ≤ s.size) (hd : a + d ≤ b) : cut (s.extract a b) c d = cut s (a + c) (a + d) := by
  have e : s.data.toList.length = s.size := Array.length_toList
  unfold cut
  rw [extract_cut]
  unfold cut
  apply List.ext_getElem
  · simp only [List.length_drop, List.length_take]; omega
  · intro i h1 h2
    simp only [List.getElem_drop, List.getElem_take, Nat.add_assoc]

theorem anyB_bl (c : UInt8) : anyB (c.toNat : Int) [1] = bl c := by simp [anyB, bl]

theorem size_extract (s : ByteArray) (a b : Nat) (hb : b ≤ s.size) : (s.extract a b).size = b - a := by
  have e : (s.extract a b).data.toList.length = (s.extract a b).size := Array.length_toList
  rw [← e, extract_cut, cut_length s a b hb]

theorem step_front (t : ByteArray) (l : List UInt8) (h0 : 0 < t.size) (hb : bl t[0] = true) (H : trimL t.data.toList = l) : trimL (t.extract 1 t.size).data.toList = l := by
  rw [extract_cut, ← cut_trim_front t 0 t.size (Nat.le_refl _) h0 hb, cut_all, H]

theorem step_back (t : ByteArray) (l : List UInt8) (h0 : 0 < t.size) (hb : bl t[t.size - 1] = true) (H : trimL t.data.toList = l) : trimL (t.extract 0 (t.size - 1)).data.toList = l := by
  rw [extract_cut, ← cut_trim_back t 0 t.size (Nat.le_refl _) h0 hb, cut_all, H]

theorem step_back_head (t : ByteArray) (h0 : 0 < t.size) (hf : bl t[0] = false) (h : 0 < (t.extract 0 (t.size - 1)).size) : bl (t.extract 0 (t.size - 1))[0] = false := by
  have e : (t.extract 0 (t.size - 1))[0] = t[0] := by
    rw [ByteArray.getElem_extract]
  rw [e]; exact hf

theorem step_done (t : ByteArray) (l : List UInt8) (h0 : 0 < t.size) (hf : bl t[0] = false) (hb : bl t[t.size - 1] = false) (H : trimL t.data.toList = l) : t.data.toList = l := by
  rw [← H, ← cut_all t]
  exact (cut_trim_done t 0 t.size (Nat.le_refl _) h0 hf hb).symm

theorem step_none (t : ByteArray) (l : List UInt8) (h0 : ¬ 0 < t.size) (H : trimL t.data.toList = l) : t.data.toList = l := by
  have e : t.data.toList = [] := by rw [← cut_all t]; exact cut_empty _ _ _ (by omega)
  rw [← H, e]; rfl

end Go.Proofs.Ytcgljeagjchobaa.M
namespace Go.Proofs.Ytcgljeagjchobaa.M

/-- A small name: a small letter, then small letters, digits and hyphens, at most 20 in all. -/
def smB : List UInt8 → Bool
  | [] => false
  | c :: r => decide ((c :: r).length ≤ 20) && isB (c.toNat : Int) 2 && allB (c :: r) [2, 4, 7]

/-- What the specification asks of the byte at place i. -/
def okAt (i : Nat) (c : Int) : Bool := isB c 2 || (i != 0 && (isB c 4 || c == 45))

theorem anyB_3 (c : Int) : anyB c [2, 4, 7] = (isB c 2 || (isB c 4 || c == 45)) := by
  simp [anyB, isB]

theorem okAt_any {i : Nat} {c : Int} (h : okAt i c = true) : anyB c [2, 4, 7] = true := by
  rw [anyB_3]
  unfold okAt at h
  cases h1 : isB c 2 <;> simp_all

theorem ok1 {k : Nat} {c : Int} (h : isB c 2 = true) : okAt k c = true := by simp [okAt, h]
theorem no2 {k : Nat} {c : Int} (h : ¬ isB c 2 = true) (h1 : k = 0) : okAt k c = false := by simp [okAt, h1]; simpa using h
theorem ok3 {k : Nat} {c : Int} (h1 : ¬ k = 0) (h2 : isB c 4 = true) : okAt k c = true := by simp [okAt, h1, h2]
theorem no4 {k : Nat} {c : Int} (h : ¬ isB c 2 = true) (h1 : ¬ k = 0) (h2 : ¬ isB c 4 = true) (h3 : ((k : Int) == 0) = true ∨ (c != 45) = true) : okAt k c = false := by
  rcases h3 with h3 | h3
  · simp at h3; exact absurd h3 h1
  · simp at h h2 h3; simp [okAt, h, h2, h3]
theorem ok5 {k : Nat} {c : Int} (h1 : ¬ k = 0) (h3 : ((k : Int) == 0) = false ∧ (c != 45) = false) : okAt k c = true := by
  obtain ⟨_, h3⟩ := h3
  simp at h3
  simp [okAt, h1, h3]

theorem smB_notL (l : List UInt8) (k : Nat) (h' : k < l.length) (h1 : okAt k (l[k].toNat : Int) = false) : smB l = false := by
  match l, k, h', h1 with
  | c :: r, 0, h', h1 =>
    have h2 : okAt 0 (c.toNat : Int) = false := h1
    simp [okAt] at h2
    simp [smB, h2]
  | c :: r, k + 1, h', h1 =>
    simp only [List.getElem_cons_succ] at h1
    have h2 : anyB (r[k]'(by simpa using h')).toNat [2, 4, 7] = false := by
      rw [anyB_3]; simpa [okAt] using h1
    have h3 : allB (c :: r) [2, 4, 7] = false := by
      unfold allB
      rw [List.all_eq_false]
      exact ⟨_, List.mem_cons_of_mem _ (List.getElem_mem (by simpa using h')), by simp [h2]⟩
    simp [smB, h3]

theorem smB_not (s : ByteArray) (k : Nat) (h : k < s.size) (h1 : okAt k (s[k].toNat : Int) = false) : smB s.data.toList = false := by
  have e : s.data.toList.length = s.size := Array.length_toList
  exact smB_notL s.data.toList k (by omega) h1

theorem smB_allL (l : List UInt8) (h2 : ∀ i (hi : i < l.length), okAt i (l[i].toNat : Int) = true) : smB l = inB (l.length : Int) 1 20 := by
  match l, h2 with
  | [], _ => simp [smB, inB]
  | c :: r, h2 =>
    have h0 : okAt 0 (c.toNat : Int) = true := h2 0 (by simp)
    have h3 : isB (c.toNat : Int) 2 = true := by simpa [okAt] using h0
    have h4 : allB (c :: r) [2, 4, 7] = true := by
      unfold allB
      rw [List.all_eq_true]
      intro x hx
      obtain ⟨i, hi, rfl⟩ := List.mem_iff_getElem.1 hx
      exact okAt_any (h2 i hi)
    simp only [smB, h3, h4, inB]
    rw [Bool.and_true, Bool.and_true, Bool.eq_iff_iff]
    simp
    omega

theorem smB_all (s : ByteArray) (h : ∀ i (hi : i < s.size), okAt i (s[i].toNat : Int) = true) : smB s.data.toList = inB (s.size : Int) 1 20 := by
  have e : s.data.toList.length = s.size := Array.length_toList
  rw [← e]
  exact smB_allL s.data.toList fun i hi => h i (by omega)

theorem smB_implL (l : List UInt8) (h0 : 0 < l.length) (h1 : l.length ≤ 20) : smB l = (isB (l[0].toNat : Int) 2 && allB l [2, 4, 7]) := by
  match l, h0, h1 with
  | c :: r, h0, h1 =>
    have h1' : r.length + 1 ≤ 20 := by simpa using h1
    show smB (c :: r) = (isB (c.toNat : Int) 2 && allB (c :: r) [2, 4, 7])
    simp [smB, h1']

/-- The program's own way to it. -/
theorem smB_impl (s : ByteArray) (h0 : 0 < s.size) (h1 : s.size ≤ 20) : smB s.data.toList = (isB ((s[0]).toNat : Int) 2 && allB s.data.toList [2, 4, 7]) := by
  have e : s.data.toList.length = s.size := Array.length_toList
  exact smB_implL s.data.toList (by omega) (by omega)

theorem smB_longL (l : List UInt8) (h : l.length < 1 ∨ 20 < l.length) : smB l = false := by
  match l, h with
  | [], _ => rfl
  | c :: r, h =>
    have h' : ¬ r.length + 1 ≤ 20 := by simp at h; omega
    simp [smB, h']

theorem smB_long (s : ByteArray) (h : s.size < 1 ∨ 20 < s.size) : smB s.data.toList = false := by
  have e : s.data.toList.length = s.size := Array.length_toList
  exact smB_longL _ (by omega)

end Go.Proofs.Ytcgljeagjchobaa.M
namespace Go.Proofs.Ytcgljeagjchobaa.M

/-- A head: its name, its value. -/
abbrev Hd := ByteArray × ByteArray
/-- A request. -/
structure Rq where
  m : ByteArray
  p : ByteArray
  hs : List Hd
  b : ByteArray
deriving DecidableEq

def lenName : ByteArray := ⟨#[99, 111, 110, 116, 101, 110, 116, 45, 108, 101, 110, 103, 116, 104]⟩
def codName : ByteArray := ⟨#[116, 114, 97, 110, 115, 102, 101, 114, 45, 101, 110, 99, 111, 100, 105, 110, 103]⟩

def methB (s : ByteArray) : Bool := allB s.data.toList [3] && inB s.size 1 9
def tgtB (l : List UInt8) : Bool := l.all fun c => inB (c.toNat : Int) 33 126
def targB (s : ByteArray) : Bool := tgtB s.data.toList && inB s.size 1 80
def valB (s : ByteArray) : Bool := decide (s.size ≤ 60) && (allB s.data.toList [0] && decide (trimL s.data.toList = s.data.toList))
def hdB (h : Hd) : Bool := smB h.1.data.toList && valB h.2
def hdFree (h : Hd) : Bool := hdB h && (!decide (h.1 = lenName) && !decide (h.1 = codName))
def hdsB (hs : List Hd) : Bool := hs.all hdFree && decide (hs.length ≤ 8)
def reqB (r : Rq) : Bool := methB r.m && (targB r.p && (hdsB r.hs && decide (r.b.size ≤ 200)))

theorem tgtB_snoc (s : ByteArray) (k : Nat) (h : k < s.size) (h0 : tgtB (s.data.toList.take k) = true) (h1 : inB (s[k].toNat : Int) 33 126 = true) : tgtB (s.data.toList.take (k + 1)) = true := by
  rw [take_snoc s k h]
  unfold tgtB at *
  rw [List.all_append, h0]
  simp [h1]
theorem tgtB_not (s : ByteArray) (k : Nat) (h : k < s.size) (h1 : inB (s[k].toNat : Int) 33 126 = false) : tgtB s.data.toList = false := by
  have hm : s[k] ∈ s.data.toList := by
    have e : s.data.toList.length = s.size := Array.length_toList
    have h' : k < s.data.toList.length := by omega
    exact List.getElem_mem h'
  unfold tgtB
  rw [List.all_eq_false]
  exact ⟨_, hm, by simp [h1]⟩

theorem indexByte_nonneg (l : List UInt8) (c : UInt8) : decide (0 ≤ Lib.indexByte l c) = l.contains c := by
  induction l with
  | nil => rfl
  | cons b l ih =>
    have hge := Lib.indexByte_ge l c
    have hc : (b == c) = (c == b) := by rw [Bool.beq_comm]
    simp only [List.contains_cons]
    rw [← ih]
    have e : Lib.indexByte (b :: l) c = if b == c then 0 else if Lib.indexByte l c == -1 then -1 else Lib.indexByte l c + 1 := rfl
    rw [e, hc]
    cases hb : (c == b)
    · by_cases h1 : Lib.indexByte l c = -1
      · rw [h1]; rfl
      · have h2 : (Lib.indexByte l c == -1) = false := by rw [beq_eq_false_iff_ne]; exact h1
        rw [h2, Bool.eq_iff_iff]
        simp only [Bool.false_eq_true, if_false, Bool.false_or, decide_eq_true_eq]
        omega
    · simp

/-- Plain without a blank: what a target is made of. -/
theorem tgt_plain (l : List UInt8) : (allB l [0] && !l.contains 32) = tgtB l := by
  induction l with
  | nil => rfl
  | cons c r ih =>
    have e1 : allB (c :: r) [0] = (anyB (c.toNat : Int) [0] && allB r [0]) := rfl
    have e2 : tgtB (c :: r) = (inB (c.toNat : Int) 33 126 && tgtB r) := rfl
    rw [e1, e2, ← ih, List.contains_cons]
    have h : (anyB (c.toNat : Int) [0] && !((32 : UInt8) == c)) = inB (c.toNat : Int) 33 126 := by
      by_cases hc : c = 32
      · subst hc; decide
      · have h32 : ¬ c.toNat = 32 := fun e => hc (UInt8.toNat_inj.1 (by rw [e]; rfl))
        have hb : ((32 : UInt8) == c) = false := by rw [beq_eq_false_iff_ne]; exact fun e => hc e.symm
        rw [hb]
        rw [Bool.eq_iff_iff]
        simp [anyB, isB, inB]
        omega
    rw [← h]
    cases anyB (c.toNat : Int) [0] <;> cases ((32 : UInt8) == c) <;> cases allB r [0] <;> simp

theorem hdsB_snoc (hs : List Hd) (k : Nat) (h : k < hs.length) (h0 : (hs.take k).all hdFree = true) (h1 : hdFree hs[k] = true) : (hs.take (k + 1)).all hdFree = true := by
  rw [List.take_succ_eq_append_getElem h, List.all_append, h0]
  simp [h1]
theorem hdsB_not (hs : List Hd) (k : Nat) (h : k < hs.length) (h1 : hdFree hs[k] = false) : hdsB hs = false := by
  have : hs.all hdFree = false := by
    rw [List.all_eq_false]
    exact ⟨_, List.getElem_mem h, by simp [h1]⟩
  simp [hdsB, this]
theorem hdsB_all (hs : List Hd) (k : Nat) (h : ¬ k < hs.length) (h0 : (hs.take k).all hdFree = true) : hdsB hs = decide (hs.length ≤ 8) := by
  rw [List.take_of_length_le (by omega)] at h0
  simp [hdsB, h0]
theorem hdsB_long (hs : List Hd) (h : ¬ hs.length ≤ 8) : hdsB hs = false := by simp [hdsB, h]

/-- The first of this name. -/
def hdOf : List Hd → ByteArray → ByteArray × Bool
  | [], _ => (ByteArray.empty, false)
  | h :: r, n => if h.1 = n then (h.2, true) else hdOf r n

theorem hdOf_at (hs : List Hd) (k : Nat) (hk : k < hs.length) (n : ByteArray) (h0 : hdOf hs n = hdOf (hs.drop k) n) (h : hs[k].1 = n) : hdOf hs n = (hs[k].2, true) := by
  rw [h0, List.drop_eq_getElem_cons hk, hdOf, if_pos h]
theorem hdOf_next (hs : List Hd) (k : Nat) (hk : k < hs.length) (n : ByteArray) (h0 : hdOf hs n = hdOf (hs.drop k) n) (h : ¬ hs[k].1 = n) : hdOf hs n = hdOf (hs.drop (k + 1)) n := by
  rw [h0, List.drop_eq_getElem_cons hk, hdOf, if_neg h]
theorem hdOf_end (hs : List Hd) (k : Nat) (hk : ¬ k < hs.length) (n : ByteArray) (h0 : hdOf hs n = hdOf (hs.drop k) n) : hdOf hs n = (ByteArray.empty, false) := by
  rw [h0, List.drop_of_length_le (by omega), hdOf]

/-- How much a head has, and all of them. -/
def szH (h : Hd) : Nat := h.1.size + h.2.size
def sumH (hs : List Hd) : Nat := (hs.map szH).sum
theorem sumH_snoc (hs : List Hd) (k : Nat) (hk : k < hs.length) : sumH (hs.take (k + 1)) = sumH (hs.take k) + szH hs[k] := by
  unfold sumH
  rw [List.take_succ_eq_append_getElem hk, List.map_append, List.sum_append]
  simp only [List.map_cons, List.map_nil, List.sum_cons, List.sum_nil, Nat.add_zero]
theorem sumH_mem (hs : List Hd) (h : Hd) (hm : h ∈ hs) : h.1.size ≤ sumH hs ∧ h.2.size ≤ sumH hs := by
  induction hs with
  | nil => cases hm
  | cons x l ih =>
    simp only [sumH, List.map_cons, List.sum_cons, szH] at *
    rcases List.mem_cons.1 hm with rfl | hm
    · omega
    · have := ih hm; omega

theorem take_sameH {ss tt : List Hd} (k : Nat) (h1 : k < ss.length) (h2 : k < tt.length) (h0 : ss.take k = tt.take k) (h : ss[k] = tt[k]) : ss.take (k + 1) = tt.take (k + 1) := by
  rw [List.take_succ_eq_append_getElem h1, List.take_succ_eq_append_getElem h2, h0, h]
def sameH (ss tt : List Hd) : Bool := decide (ss = tt)
theorem sameH_refl (ss : List Hd) : sameH ss ss = true := by simp [sameH]
theorem sameH_len {ss tt : List Hd} (h : ¬ ss.length = tt.length) : sameH ss tt = false := by
  simp only [sameH, decide_eq_false_iff_not]; intro e; exact h (by rw [e])
theorem sameH_not {ss tt : List Hd} (k : Nat) (h1 : k < ss.length) (h2 : k < tt.length) (h : ¬ ss[k] = tt[k]) : sameH ss tt = false := by
  simp only [sameH, decide_eq_false_iff_not]; intro e; subst e; exact h rfl
theorem sameH_all {ss tt : List Hd} (hl : ss.length = tt.length) (k : Nat) (hk : ¬ k < ss.length) (h : ss.take k = tt.take k) : sameH ss tt = true := by
  rw [List.take_of_length_le (by omega), List.take_of_length_le (by omega)] at h
  simp [sameH, h]
/-- Whether two requests are the same. -/
def sameR (a b : Rq) : Bool := decide (a.m = b.m) && (decide (a.p = b.p) && (sameH a.hs b.hs && decide (a.b = b.b)))
theorem sameR_iff (a b : Rq) : sameR a b = true ↔ a = b := by
  cases a; cases b
  simp [sameR, sameH]
theorem sameR_refl (a : Rq) : sameR a a = true := (sameR_iff a a).2 rfl
end Go.Proofs.Ytcgljeagjchobaa.M
namespace Go.Proofs.Ytcgljeagjchobaa
open Go.RowKit M


/-- The heads that a slice holds, in a block below B. -/
def Hds (w : World) (B : Nat) (a : Option Addr) (hs : List Hd) : Prop :=
  0 < hs.length → ∃ b o, a = some ⟨b, o, none⟩ ∧ b < B ∧ ∀ j (hj : j < hs.length), w.cell? ⟨b, o + j * 2, none⟩ = some (.string hs[j].1) ∧ w.cell? ⟨b, o + j * 2 + 1, none⟩ = some (.string hs[j].2)

theorem Hds.below {w w' : World} {B C : Nat} {a : Option Addr} {hs : List Hd} (h : Hds w B a hs) (hb : Below C w w') (hB : B ≤ C) : Hds w' B a hs := fun h0 => by
  obtain ⟨b, o, e, hbB, hc⟩ := h h0
  exact ⟨b, o, e, hbB, fun j hj => ⟨(hb.cell (p := ⟨b, o + j * 2, none⟩) (Nat.lt_of_lt_of_le hbB hB)).trans (hc j hj).1, (hb.cell (p := ⟨b, o + j * 2 + 1, none⟩) (Nat.lt_of_lt_of_le hbB hB)).trans (hc j hj).2⟩⟩
theorem Hds.mono {w : World} {B C : Nat} {a : Option Addr} {hs : List Hd} (h : Hds w B a hs) (hB : B ≤ C) : Hds w C a hs := fun h0 => by
  obtain ⟨b, o, e, hbB, hc⟩ := h h0
  exact ⟨b, o, e, Nat.lt_of_lt_of_le hbB hB, hc⟩

theorem Hds.store {w : World} {B g o : Nat} {hs : List Hd} (h : Hds w B (some ⟨g, o, none⟩) hs) (p : Addr) (v : Value) (hp : p.block ≠ g) : Hds (w.setCell p v) B (some ⟨g, o, none⟩) hs := fun h0 => by
  obtain ⟨b, o', e, hbB, hc⟩ := h h0
  cases e
  exact ⟨g, o, rfl, hbB, fun j hj => ⟨(World.cell?_setCell_other _ _ _ _ (fun e => hp (congrArg Addr.block e))).trans (hc j hj).1, (World.cell?_setCell_other _ _ _ _ (fun e => hp (congrArg Addr.block e))).trans (hc j hj).2⟩⟩

/-- All of them short enough. -/
def ShortH (hs : List Hd) : Prop := ∀ h ∈ hs, h.1.size ≤ maxLen ∧ h.2.size ≤ maxLen
theorem ShortH.at {hs : List Hd} (h : ShortH hs) (k : Nat) (hk : k < hs.length) : (hs[k]).1.size ≤ maxLen ∧ (hs[k]).2.size ≤ maxLen := h _ (List.getElem_mem hk)

/-- A request all of whose parts are short enough. -/
def ShortR (r : Rq) : Prop := r.m.size ≤ maxLen ∧ r.p.size ≤ maxLen ∧ r.b.size ≤ maxLen ∧ r.hs.length ≤ maxLen ∧ ShortH r.hs

/-- The value of a head, and of a request. -/
def hdV (h : Hd) : Value := .agg #[.string h.1, .string h.2]
def rqV (a : Option Addr) (n cap : Nat) (r : Rq) : Value := .agg #[.string r.m, .string r.p, .slice a n cap, .string r.b]

theorem strInj {a b : ByteArray} (h : a.toList = b.toList) : a = b := by
  rw [ByteArray.toList_eq, ByteArray.toList_eq] at h
  exact ByteArray.ext (Array.ext' h)

/-- What was there reads as it did, behind a call that only made memory. -/
theorem bcell {W w1 : World} (hb : Below W.heap.size W w1) : (∀ b o, b < W.heap.size → w1.cell? ⟨b, o, none⟩ = W.cell? ⟨b, o, none⟩) ∧ (∀ b o, b < W.heap.size → w1.frozen? ⟨b, o, none⟩ = W.frozen? ⟨b, o, none⟩) :=
  ⟨fun b o h => hb.cell (p := ⟨b, o, none⟩) h, fun b o h => hb.frozen (p := ⟨b, o, none⟩) h⟩
end Go.Proofs.Ytcgljeagjchobaa
namespace Go.Proofs.Ytcgljeagjchobaa
open Go.RowKit M
set_option linter.unusedVariables false

theorem sameR_m {a b : Rq} (h : ¬ a.m = b.m) : sameR a b = false := by simp [sameR, h]
theorem sameR_p {a b : Rq} (h : ¬ a.p = b.p) : sameR a b = false := by simp [sameR, h]
theorem sameR_h {a b : Rq} (h : sameH a.hs b.hs = false) : sameR a b = false := by simp [sameR, h]
theorem sameR_b {a b : Rq} (h : ¬ a.b = b.b) : sameR a b = false := by simp [sameR, h]
theorem sameR_all {a b : Rq} (h1 : a.m = b.m) (h2 : a.p = b.p) (h3 : sameH a.hs b.hs = true) (h4 : a.b = b.b) : sameR a b = true := by simp [sameR, h1, h2, h3, h4]

theorem neStr {x y : ByteArray} (h : ¬ x = y) : (x.toList == y.toList) = false := by
  rw [beq_eq_false_iff_ne]; exact fun e => h (strInj e)
theorem eqStr {x y : ByteArray} (h : x = y) : (x.toList == y.toList) = true := by rw [h]; simp
end Go.Proofs.Ytcgljeagjchobaa
