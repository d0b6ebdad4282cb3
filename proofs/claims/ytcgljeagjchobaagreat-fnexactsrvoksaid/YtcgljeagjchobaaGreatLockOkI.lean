/-
  What slices.IndexFunc at locks does.
  What slices.IndexFunc at numbers does.
  What is told of locks, and which stay: no program in sight.
  Two answers that are the same.
  What spec.l13Has does.
  What slices.Contains at numbers does.
  What the specification's l1In does; a byte as an int.
  What impl.tokenOk does.
  What the specification's own Plain does.
  What the specification's and the program's NameOk do.
  What the specification's and the program's PathOk do.
  What impl.LockOk and spec.LockOk do.
-/
import Derived.Test.YtcgljeagjchobaaGreatLockOps
import Derived.Test.YtcgljeagjchobaaGreatLockRows
import Derived.Test.YtcgljeagjchobaaGreatInts
import Derived.Test.YtcgljeagjchobaaGreatTurn
import Derived.WalkSpells
import Derived.WalkLawsBesides
import Derived.Deep.Light
import Derived.Deep.QuietTactic
import Derived.Test.YtcgljeagjchobaaGreatMathLocks
import Derived.Test.YtcgljeagjchobaaGreatRows
import Derived.WalkKit
import Derived.Test.YtcgljeagjchobaaGreatGenSrv
import Derived.Lib.OthersKept
import Derived.Laws.RangeAny
import Derived.Test.YtcgljeagjchobaaGreatLocks
namespace Go.Proofs.YtcgljeagjchobaaGreat
open Go.RowKit M
set_option linter.unusedVariables false

set_option maxRecDepth 100000 in
set_option maxHeartbeats 4000000 in
theorem indexL_any (fn : Nat) (hE : ∀ args w, (callFunc fn args).run Tryz.prog w = .ok (.enter fn args) w) (cp : Array Value) (P : Lk → Bool) (a : Option Addr) (l : List Lk) (cap B : Nat) (w : World) (h : Lks w B a l) (hB : B ≤ w.heap.size) (hl : l.length ≤ 1048577)
    (hP : ∀ k (hk : k < l.length) pa pc W, Below w.heap.size w W → LkIn W B l[k] pa pc → Calls Tryz.prog fn (#[.agg #[.int .i64 l[k].tk, .slice pa l[k].pa.length pc, .bool l[k].de, .bool l[k].sh, .int .i64 l[k].un]] ++ cp) W fun e w' => e = .returned (.bool (P l[k])) ∧ Below W.heap.size W w') :
    Calls Tryz.prog 107 #[.slice a l.length cap, .func (.func fn) #[] cp] w fun e w' => (∃ z : Int, e = .returned (.int .i64 z) ∧ placeB P l z) ∧ Below w.heap.size w w' := by
  have HH := hide h
  have HP := hide hP
  have HE := hide hE
  clear h hP hE
  go_enter Tryz.func107, Tryz.ntmps107
  go_wp2
  go_loopw [8] (fun i wr => ∃ k : Nat, k ≤ l.length ∧ i = .int .i64 k ∧ Hid (∀ j (hj : j < l.length), j < k → P l[j] = false) ∧ Below w.heap.size w wr) (fun i _ => l.length - (intOf i).toNat)
  case atStart => exact ⟨0, Nat.zero_le _, rfl, fun j _ hj => absurd hj (Nat.not_lt_zero _), Below.refl _ _⟩
  case round =>
    obtain ⟨k, hk, rfl, HN, hbe⟩ := hrel
    by_cases hlt : k < l.length
    · obtain ⟨b, o, rfl, hb, hc⟩ := (HH.out.below hbe hB) (by omega)
      obtain ⟨pa, pc, ⟨hc0, hc1, hc2, hc3, hc4⟩, hin⟩ := hc k hlt
      have HC := hide (HP.out k hlt pa pc wr hbe hin)
      obtain ⟨z, hz⟩ : ∃ z, P l[k] = z := ⟨_, rfl⟩
      rw [hz] at HC
      have HZ := hide hz
      clear hz hc hin
      go_wp2_with fail
      rw [HE.out, Oper.upon_enter]
      refine HC.out.mono ?_
      rintro e w1 ⟨rfl, b1⟩
      have c1 := hbe.trans (b1.mono hbe.size)
      clear b1 HC hc0 hc1 hc2 hc3 hc4
      cases z
      · go_wp2
        go_roundw
        case rel => exact ⟨k + 1, by omega, by go_num, fun j hj hjk => if e : j = k then by subst e; exact HZ.out else HN.out j hj (by omega), c1⟩
        case measure => simp [intOf]; omega
      · go_wp2
        go_ret
        exact ⟨⟨_, rfl, .inr ⟨k, rfl, hlt, HZ.out, HN.out⟩⟩, c1⟩
    · go_wp2
      go_ret
      exact ⟨⟨_, rfl, .inl ⟨rfl, any_none (fun j hj => HN.out j hj (by omega))⟩⟩, hbe⟩

end Go.Proofs.YtcgljeagjchobaaGreat
namespace Go.Proofs.YtcgljeagjchobaaGreat
open Go.RowKit
set_option linter.unusedVariables false

set_option maxRecDepth 100000 in
set_option maxHeartbeats 4000000 in
theorem indexN_any (fn : Nat) (hE : ∀ args w, (callFunc fn args).run Tryz.prog w = .ok (.enter fn args) w) (cp : Array Value) (P : Int → Bool) (a : Option Addr) (l : List Int) (cap B : Nat) (w : World) (h : Ints w B a l) (hB : B ≤ w.heap.size) (hl : l.length ≤ 1048577)
    (hP : ∀ k (hk : k < l.length) W, Below w.heap.size w W → Calls Tryz.prog fn (#[.int .i64 l[k]] ++ cp) W fun e w' => e = .returned (.bool (P l[k])) ∧ Below W.heap.size W w') :
    Calls Tryz.prog 109 #[.slice a l.length cap, .func (.func fn) #[] cp] w fun e w' => (∃ z : Int, e = .returned (.int .i64 z) ∧ placeB P l z) ∧ Below w.heap.size w w' := by
  have HH := hide h
  have HP := hide hP
  have HE := hide hE
  clear h hP hE
  go_enter Tryz.func109, Tryz.ntmps109
  go_wp2
  go_loopw [8] (fun i wr => ∃ k : Nat, k ≤ l.length ∧ i = .int .i64 k ∧ Hid (∀ j (hj : j < l.length), j < k → P l[j] = false) ∧ Below w.heap.size w wr) (fun i _ => l.length - (intOf i).toNat)
  case atStart => exact ⟨0, Nat.zero_le _, rfl, fun j _ hj => absurd hj (Nat.not_lt_zero _), Below.refl _ _⟩
  case round =>
    obtain ⟨k, hk, rfl, HN, hbe⟩ := hrel
    by_cases hlt : k < l.length
    · obtain ⟨b, o, rfl, hb, hc⟩ := (HH.out.below hbe hB) (by omega)
      have hc0 := hc k hlt
      have HC := hide (HP.out k hlt wr hbe)
      obtain ⟨z, hz⟩ : ∃ z, P l[k] = z := ⟨_, rfl⟩
      rw [hz] at HC
      have HZ := hide hz
      clear hz hc
      go_wp2_with fail
      rw [HE.out, Oper.upon_enter]
      refine HC.out.mono ?_
      rintro e w1 ⟨rfl, b1⟩
      have c1 := hbe.trans (b1.mono hbe.size)
      clear b1 HC hc0
      cases z
      · go_wp2
        go_roundw
        case rel => exact ⟨k + 1, by omega, by go_num, fun j hj hjk => if e : j = k then by subst e; exact HZ.out else HN.out j hj (by omega), c1⟩
        case measure => simp [intOf]; omega
      · go_wp2
        go_ret
        exact ⟨⟨_, rfl, .inr ⟨k, rfl, hlt, HZ.out, HN.out⟩⟩, c1⟩
    · go_wp2
      go_ret
      exact ⟨⟨_, rfl, .inl ⟨rfl, any_none (fun j hj => HN.out j hj (by omega))⟩⟩, hbe⟩

end Go.Proofs.YtcgljeagjchobaaGreat
namespace Go.Proofs.YtcgljeagjchobaaGreat
open Go.RowKit M
set_option linter.unusedVariables false

def liveB (now : Int) (x : Lk) : Bool := decide (now < x.un)
def tokL (l : List Lk) (p : List ByteArray) : List Int := (l.filter fun x => covB x p).map (·.tk)
def isTk (t : Int) (x : Lk) : Bool := x.tk == t
def dropL (t : Int) : List Lk → List Lk
  | [] => []
  | x :: r => if isTk t x = true then r else x :: dropL t r
theorem dropL_none (t : Int) (l : List Lk) (h : l.any (isTk t) = false) : dropL t l = l := by
  induction l with
  | nil => rfl
  | cons x r ih =>
    simp only [List.any_cons, Bool.or_eq_false_iff] at h
    simp only [dropL, h.1, Bool.false_eq_true, if_false]
    rw [ih h.2]
theorem dropL_snoc (t : Int) (l : List Lk) (x : Lk) : dropL t (l ++ [x]) = if l.any (isTk t) = true then dropL t l ++ [x] else if isTk t x = true then dropL t l else dropL t l ++ [x] := by
  induction l with
  | nil => by_cases h : isTk t x = true <;> simp [dropL, h]
  | cons y r ih =>
    by_cases h : isTk t y = true
    · simp [dropL, h]
    · simp only [List.cons_append, dropL, h, Bool.false_eq_true, if_false, List.any_cons, Bool.false_or, ih]
      split
      · rfl
      · split <;> rfl
theorem dropL_at (t : Int) (l : List Lk) (k : Nat) (hk : k < l.length) (h : isTk t l[k] = true) (h0 : ∀ j (hj : j < l.length), j < k → isTk t l[j] = false) : dropL t l = l.take k ++ l.drop (k + 1) := by
  induction l generalizing k with
  | nil => cases hk
  | cons x r ih =>
    cases k with
    | zero => simp at h; simp [dropL, h]
    | succ k =>
      have hx : isTk t x = false := h0 0 (by simp) (Nat.succ_pos _)
      have := ih k (by simpa using hk) (by simpa using h) (fun j hj hjk => by have := h0 (j + 1) (by simpa using hj) (by omega); simpa using this)
      simp [dropL, hx, this]
theorem dropL_sub (t : Int) (l : List Lk) : List.Sublist (dropL t l) l := by
  induction l with
  | nil => exact .slnil
  | cons x r ih =>
    simp only [dropL]
    split
    · exact List.sublist_cons_self _ _
    · exact ih.cons_cons _

/-- Whether a lock must let by what turns at p. -/
def touchB (p : List ByteArray) (deep : Bool) (x : Lk) : Bool := covB x p || (deep && underB x.pa p)
def hasB (toks : List Int) (x : Lk) : Bool := toks.any (· == x.tk)
def mayB (l : List Lk) (p : List ByteArray) (deep : Bool) (toks : List Int) : Bool :=
  (l.filter (touchB p deep)).all (fun x => x.sh || hasB toks x) && (!(l.filter (touchB p deep)).any (·.sh) || (l.filter (touchB p deep)).any (fun x => x.sh && hasB toks x))
/-- What is there behind a lock is added. -/
def addL (l : List Lk) (x : Lk) : List Lk := if locksB (l ++ [x]) = true then l ++ [x] else l
end Go.Proofs.YtcgljeagjchobaaGreat
namespace Go.Proofs.YtcgljeagjchobaaGreat

theorem ret_bool {a b : Bool} (h : a = b) : Ending.returned (.bool a) = .returned (.bool b) := by rw [h]
end Go.Proofs.YtcgljeagjchobaaGreat
namespace Go.Proofs.YtcgljeagjchobaaGreat
open Go.RowKit M
set_option linter.unusedVariables false

theorem anyI_none {t : Int} {l : List Int} (h : ∀ j (hj : j < l.length), l[j] ≠ t) : l.any (· == t) = false := by
  rw [Bool.eq_false_iff]
  intro e
  obtain ⟨x, hx, hp⟩ := List.any_eq_true.1 e
  obtain ⟨j, hj, rfl⟩ := List.mem_iff_getElem.1 hx
  exact h j hj (by simpa using hp)
theorem anyI_some {t : Int} {l : List Int} {k : Nat} (hk : k < l.length) (h : l[k] = t) : l.any (· == t) = true :=
  List.any_eq_true.2 ⟨l[k], List.getElem_mem hk, by simpa using h⟩

set_option maxHeartbeats 1000000 in
theorem specHas_any (a : Option Addr) (l : List Int) (cap B : Nat) (t : Int) (w : World) (h : Ints w B a l) (hl : l.length ≤ 1048576) :
    Calls Tryz.prog 20 #[.slice a l.length cap, .int .i64 t] w fun e w' => e = .returned (.bool (l.any (· == t))) ∧ w' = w := by
  have HH := hide h
  clear h
  go_enter Tryz.func20, Tryz.ntmps20
  go_wp2
  go_loopw [5] (fun i wr => ∃ k : Nat, k ≤ l.length ∧ i = .int .i64 k ∧ Hid (∀ j (hj : j < l.length), j < k → l[j] ≠ t) ∧ wr = w) (fun i _ => l.length - (intOf i).toNat)
  case atStart => exact ⟨0, Nat.zero_le _, rfl, fun j _ hj => absurd hj (Nat.not_lt_zero _), rfl⟩
  case round =>
    obtain ⟨k, hk, rfl, HN, hw⟩ := hrel
    obtain rfl := hw.symm
    by_cases hlt : k < l.length
    · obtain ⟨b, o, rfl, hb, hc⟩ := HH.out (by omega)
      have hck := hc k hlt
      clear hc
      by_cases hz : l[k] = t
      · have HA := hide (anyI_some hlt hz)
        go_wp2
        go_ret
        exact ⟨by rw [HA.out]; rfl, rfl⟩
      · have HZ := hide hz
        go_wp2
        go_roundw
        case rel => exact ⟨k + 1, by omega, by go_num, fun j hj hjk => if e : j = k then by subst e; exact HZ.out else HN.out j hj (by omega), by trivial⟩
        case measure => simp [intOf]; omega
    · have HA := hide (anyI_none (fun j hj => HN.out j hj (by omega)))
      go_wp2
      go_ret
      exact ⟨by rw [HA.out]; rfl, rfl⟩
end Go.Proofs.YtcgljeagjchobaaGreat
namespace Go.Proofs.YtcgljeagjchobaaGreat
open Go.RowKit M
set_option linter.unusedVariables false

set_option maxHeartbeats 1000000 in
theorem indexI_any (a : Option Addr) (l : List Int) (cap B : Nat) (t : Int) (w : World) (h : Ints w B a l) (hl : l.length ≤ 1048576) :
    Calls Tryz.prog 108 #[.slice a l.length cap, .int .i64 t] w fun e w' => (∃ z : Int, e = .returned (.int .i64 z) ∧ decide (0 ≤ z) = l.any (· == t)) ∧ w' = w := by
  have HH := hide h
  clear h
  go_enter Tryz.func108, Tryz.ntmps108
  go_wp2
  go_loopw [8] (fun i wr => ∃ k : Nat, k ≤ l.length ∧ i = .int .i64 k ∧ Hid (∀ j (hj : j < l.length), j < k → l[j] ≠ t) ∧ wr = w) (fun i _ => l.length - (intOf i).toNat)
  case atStart => exact ⟨0, Nat.zero_le _, rfl, fun j _ hj => absurd hj (Nat.not_lt_zero _), rfl⟩
  case round =>
    obtain ⟨k, hk, rfl, HN, hw⟩ := hrel
    obtain rfl := hw.symm
    by_cases hlt : k < l.length
    · obtain ⟨b, o, rfl, hb, hc⟩ := HH.out (by omega)
      have hck := hc k hlt
      clear hc
      by_cases hz : l[k] = t
      · have HA := hide (anyI_some hlt hz)
        go_wp2
        go_ret
        exact ⟨⟨_, rfl, by rw [HA.out]; simp⟩, rfl⟩
      · have HZ := hide hz
        have hz2 : ¬ t = l[k] := fun e => hz e.symm
        go_wp2
        go_roundw
        case rel => exact ⟨k + 1, by omega, by go_num, fun j hj hjk => if e : j = k then by subst e; exact HZ.out else HN.out j hj (by omega), by trivial⟩
        case measure => simp [intOf]; omega
    · have HA := hide (anyI_none (fun j hj => HN.out j hj (by omega)))
      go_wp2
      go_ret
      exact ⟨⟨_, rfl, by rw [HA.out]; rfl⟩, rfl⟩

set_option maxHeartbeats 1000000 in
theorem containsI_any (a : Option Addr) (l : List Int) (cap B : Nat) (t : Int) (w : World) (h : Ints w B a l) (hl : l.length ≤ 1048576) :
    Calls Tryz.prog 72 #[.slice a l.length cap, .int .i64 t] w fun e w' => e = .returned (.bool (l.any (· == t))) ∧ w' = w := by
  have HQ := hide (indexI_any a l cap B t w h hl)
  clear h
  go_enter Tryz.func72, Tryz.ntmps72
  go_wp2_with fail
  refine HQ.out.mono ?_
  rintro e w1 ⟨⟨z, rfl, hz⟩, hw⟩
  obtain rfl := hw.symm
  have HZ := hide hz
  clear hz hw
  go_wp2
  go_ret
  exact ⟨by rw [← HZ.out]; rfl, rfl⟩
end Go.Proofs.YtcgljeagjchobaaGreat
namespace Go.Proofs.YtcgljeagjchobaaGreat
open Go.RowKit M

set_option maxHeartbeats 400000 in
theorem l1In_any (x a b : Int) (w : World) :
    Calls Tryz.prog 21 #[.int .i64 x, .int .i64 a, .int .i64 b] w fun e w' => e = .returned (.bool (inB x a b)) ∧ w' = w := by
  go_enter Tryz.func21, Tryz.ntmps21
  go_wp2
  all_goals
    go_ret
    refine ⟨ret_bool ?_, rfl⟩
    go_light
    unfold inB
    simp_all
    try omega

theorem wrap64_u8 (c : UInt8) : wrap64 (c.toNat : Int) = c.toNat := by
  have := c.toNat_lt
  unfold wrap64
  omega
end Go.Proofs.YtcgljeagjchobaaGreat
namespace Go.Proofs.YtcgljeagjchobaaGreat
open Go.RowKit M
set_option linter.unusedVariables false

set_option maxHeartbeats 400000 in
theorem tokenOk_any (x : Int) (w : World) :
    Calls Tryz.prog 75 #[.int .i64 x] w fun e w' => e = .returned (.bool (inB x 1 9999)) ∧ w' = w := by
  go_enter Tryz.func75, Tryz.ntmps75
  go_wp2
  all_goals
    go_ret
    refine ⟨ret_bool ?_, rfl⟩
    go_light
    unfold inB
    simp_all
    try omega
end Go.Proofs.YtcgljeagjchobaaGreat
namespace Go.Proofs.YtcgljeagjchobaaGreat
open Go.RowKit M

set_option maxHeartbeats 400000 in
theorem specPlain_any (s : ByteArray) (w : World) (hs : s.size ≤ maxLen) :
    Calls Tryz.prog 120 #[.string s] w fun e w' => e = .returned (.bool (allB s.data.toList [0])) ∧ w' = w := by
  unfold maxLen at hs
  go_enter Tryz.func120, Tryz.ntmps120
  go_wp2
  go_loop [3] (fun i => ∃ k : Nat, k ≤ s.size ∧ i = .int .i64 k ∧ allB (s.data.toList.take k) [0] = true) (fun i => s.size - (intOf i).toNat)
  case atStart => exact ⟨0, Nat.zero_le _, rfl, rfl⟩
  case round =>
    obtain ⟨k, hk, rfl, hn⟩ := hrel
    have HN : Hid (allB (s.data.toList.take k) [0] = true) := hn; clear hn
    by_cases hlt : k < s.size
    · go_wp2_with (go_at_call 21; refine (l1In_any _ _ _ _).mono ?_; rintro e w' ⟨rfl, rfl⟩; rw [wrap64_u8, inB_plain])
      · go_ret
        exact ⟨ret_bool (by rw [allB_not s [0] k hlt (by assumption)]), rfl⟩
      · go_round
        case rel => exact ⟨k + 1, by omega, by go_num, allB_snoc s [0] k hlt HN.out (by assumption)⟩
        case measure => simp [intOf]; omega
    · go_wp2
      go_ret
      exact ⟨ret_bool (by rw [← HN.out, take_all s k hlt]), rfl⟩

end Go.Proofs.YtcgljeagjchobaaGreat
namespace Go.Proofs.YtcgljeagjchobaaGreat
open Go.RowKit M

set_option maxHeartbeats 400000 in
theorem specNameOk_any (s : ByteArray) (w : World) (hs : s.size ≤ maxLen) :
    Calls Tryz.prog 92 #[.string s] w fun e w' => e = .returned (.bool (nameB s)) ∧ w' = w := by
  have hs' := hs
  unfold maxLen at hs'
  go_enter Tryz.func92, Tryz.ntmps92
  go_wp2
  go_loop [3] (fun i => ∃ k : Nat, k ≤ s.size ∧ i = .int .i64 k ∧ noSlash (s.data.toList.take k) = true) (fun i => s.size - (intOf i).toNat)
  case atStart => exact ⟨0, Nat.zero_le _, rfl, rfl⟩
  case round =>
    obtain ⟨k, hk, rfl, hn⟩ := hrel
    have HN : Hid (noSlash (s.data.toList.take k) = true) := hn; clear hn
    by_cases hlt : k < s.size
    · go_wp2
      · go_ret
        exact ⟨ret_bool (by rw [noSlash_no s k hlt (by assumption)]), rfl⟩
      · go_round
        case rel => exact ⟨k + 1, by omega, by go_num, noSlash_snoc s k hlt HN.out (by rintro e; simp_all)⟩
        case measure => simp [intOf]; omega
    · have HA : Hid (noSlash s.data.toList = true) := by have := HN.out; rw [take_all s k hlt] at this; exact this
      go_wp2_with (first | (go_at_call 21; refine (l1In_any _ _ _ _).mono ?_; rintro e w' ⟨rfl, rfl⟩) | (go_at_call 120; refine (specPlain_any _ _ hs).mono ?_; rintro e w' ⟨rfl, rfl⟩))
      all_goals
        go_ret
        refine ⟨ret_bool ?_, rfl⟩
        have hA := HA.out
        simp_all [nameB]

set_option maxHeartbeats 1000000 in
theorem nameOk_any (s : ByteArray) (w : World) (hs : s.size ≤ maxLen) :
    Calls Tryz.prog 125 #[.string s] w fun e w' => e = .returned (.bool (nameB s)) ∧ Below w.heap.size w w' := by
  unfold maxLen at hs
  by_cases hc : (1 ≤ s.size ∧ s.size ≤ 8) ∧ ¬ s.toList = [46] ∧ ¬ s.toList = [46, 46]
  · obtain ⟨⟨h1, h8⟩, hd, hdd⟩ := hc
    have HI : Hid (inB s.size 1 8 = true) := by show inB s.size 1 8 = true; simp [inB]; omega
    have HD : Hid (¬ s.toList = [46] ∧ ¬ s.toList = [46, 46]) := ⟨hd, hdd⟩
    go_enter Tryz.func125, Tryz.ntmps125
    go_wp2
    · exfalso; simp_all; omega
    rename_i q1 q2 q3 _ _
    clear q1 q2 q3 hd hdd h1 h8
    go_loopw [] (fun wr => ∃ pos : Nat, wr = w.iter s pos ∧ pos ≤ s.size ∧ noSlash (s.data.toList.take pos) = true ∧ allB (s.data.toList.take pos) [0] = true) (fun wr => s.size - wr.iterPos w.heap.size)
    case atStart => exact ⟨0, rfl, Nat.zero_le _, rfl, rfl⟩
    case round =>
      obtain ⟨pos, rfl, hp, hn0, ha0⟩ := hrel
      have HN : Hid (noSlash (s.data.toList.take pos) = true) := hn0; clear hn0
      have HA : Hid (allB (s.data.toList.take pos) [0] = true) := ha0; clear ha0
      have hbe : Below w.heap.size w (w.iter s pos) := (Below.refl _ _).alloc (Nat.le_refl _) _
      by_cases hlt : pos < s.size
      · by_cases ha : (s[pos]'hlt).toNat < 128
        · have hnx : ∀ ty, (Instr.next (.pointer (some ⟨w.heap.size, 0, none⟩)) true ty).run Tryz.prog (w.iter s pos) = _ := fun ty => run_next_ascii w s pos ty hlt ha
          have hbe2 : Below w.heap.size w (w.iter s (pos + 1)) := (Below.refl _ _).alloc (Nat.le_refl _) _
          have hit2 := World.iter_heap w s (pos + 1)
          have hit := World.iter_heap w s pos
          by_cases hok : anyB (s[pos].toNat : Int) [0] = true ∧ ¬ s[pos] = 47
          · have HO : Hid (anyB (s[pos].toNat : Int) [0] = true ∧ ¬ s[pos] = 47) := hok
            have h32 : 32 ≤ (s[pos].toNat : Int) ∧ (s[pos].toNat : Int) ≤ 126 := by have := hok.1; simp [anyB, isB] at this; omega
            clear hok
            go_wp2
            · exact (okc_not (by assumption) HO.out).elim
            · go_roundw
              case rel => exact ⟨pos + 1, rfl, by omega, noSlash_snoc s pos hlt HN.out HO.out.2, allB_snoc s [0] pos hlt HA.out (by rw [HO.out.1]; rfl)⟩
              case measure => simp only [World.iterPos, hit2, hit]; omega
          · have HO : Hid (nameB s = false) := by
              show nameB s = false
              by_cases h0 : anyB (s[pos].toNat : Int) [0] = true
              · exact noSlash_no s pos hlt (by have : s[pos] = 47 := Classical.byContradiction fun e => hok ⟨h0, e⟩; rw [this]; rfl)
              · exact plain_no s pos hlt (by simpa using h0)
            go_wp2
            all_goals first
              | (go_ret; exact ⟨ret_bool HO.out.symm, hbe2⟩)
              | (exfalso; exact hok (okc_of (by assumption)))
        · have hh := decode_high s pos hlt (by omega)
          have hd1 := decode_le s pos
          have hnx : ∀ ty, (Instr.next (.pointer (some ⟨w.heap.size, 0, none⟩)) true ty).run Tryz.prog (w.iter s pos) = _ := fun ty => Lib.run_next_any_at (w.iter s pos) w.heap.size s pos ty (World.iter_heap w s pos) hlt
          have hbe2 := Lib.below_iterAt hbe (Nat.le_refl _) s (pos + (Utf8.decode s pos).2)
          have HP : Hid (nameB s = false) := plain_no s pos hlt (by simp [anyB, isB]; omega)
          go_wp2
          all_goals (go_ret; exact ⟨ret_bool HP.out.symm, hbe2⟩)
      · have hnx : ∀ ty, (Instr.next (.pointer (some ⟨w.heap.size, 0, none⟩)) true ty).run Tryz.prog (w.iter s pos) = _ := fun ty => run_next_end w s pos ty hlt
        go_wp2
        go_ret
        exact ⟨ret_bool (by rw [nameB_all s (by have := HN.out; rwa [take_all s pos hlt] at this) HI.out (by have := HA.out; rwa [take_all s pos hlt] at this) HD.out.1 HD.out.2]), hbe⟩
  · have HC : Hid (nameB s = false) := by
      show nameB s = false
      by_cases hi : 1 ≤ s.size ∧ s.size ≤ 8
      · by_cases hd : s.toList = [46]
        · simp [nameB, hd]
        · by_cases hdd : s.toList = [46, 46]
          · simp [nameB, hdd]
          · exact absurd ⟨hi, hd, hdd⟩ hc
      · have : inB s.size 1 8 = false := by simp [inB]; omega
        simp [nameB, this]
    go_enter Tryz.func125, Tryz.ntmps125
    go_wp2
    all_goals first
      | (go_ret; exact ⟨ret_bool HC.out.symm, Below.refl _ _⟩)
      | (exfalso; apply hc; simp_all; omega)
end Go.Proofs.YtcgljeagjchobaaGreat
namespace Go.Proofs.YtcgljeagjchobaaGreat
open Go.RowKit M
set_option linter.unusedVariables false


theorem names_snoc (ss : List ByteArray) (k : Nat) (h : k < ss.length) (h0 : (ss.take k).all nameB = true) (h1 : nameB ss[k] = true) : (ss.take (k + 1)).all nameB = true := by
  rw [List.take_succ_eq_append_getElem h, List.all_append, h0]; simp [h1]
theorem names_not (ss : List ByteArray) (k : Nat) (h : k < ss.length) (h1 : nameB ss[k] = false) : pathB ss = false := by
  have : ss.all nameB = false := by rw [List.all_eq_false]; exact ⟨_, List.getElem_mem h, by simp [h1]⟩
  simp [pathB, this]

set_option maxHeartbeats 400000 in
theorem specPathOk_any (a : Option Addr) (ss : List ByteArray) (cap B : Nat) (w : World) (h : Strs w B a ss) (hs : Short ss) (hl : ss.length ≤ maxLen) :
    Calls Tryz.prog 52 #[.slice a ss.length cap] w fun e w' => e = .returned (.bool (pathB ss)) ∧ w' = w := by
  unfold maxLen at hl
  go_enter Tryz.func52, Tryz.ntmps52
  go_wp2
  go_loop [3] (fun i => ∃ k : Nat, k ≤ ss.length ∧ i = .int .i64 k ∧ (ss.take k).all nameB = true) (fun i => ss.length - (intOf i).toNat)
  case atStart => exact ⟨0, Nat.zero_le _, rfl, rfl⟩
  case round =>
    obtain ⟨k, hk, rfl, hn⟩ := hrel
    have HN : Hid ((ss.take k).all nameB = true) := hn; clear hn
    by_cases hlt : k < ss.length
    · obtain ⟨b, o, rfl, hb, hc⟩ := h (by omega)
      have hcx := hc k hlt
      have hsz := hs.at k hlt
      cases hB : nameB ss[k]
      · go_wp2_with (go_at_call 92; refine (specNameOk_any _ _ hsz).mono ?_; rintro e w1 ⟨rfl, hw⟩; obtain rfl := hw.symm; rw [hB])
        go_ret
        exact ⟨ret_bool (names_not ss k hlt hB).symm, rfl⟩
      · go_wp2_with (go_at_call 92; refine (specNameOk_any _ _ hsz).mono ?_; rintro e w1 ⟨rfl, hw⟩; obtain rfl := hw.symm; rw [hB])
        go_round
        case rel => exact ⟨k + 1, by omega, by go_num, names_snoc ss k hlt HN.out hB⟩
        case measure => simp [intOf]; omega
    · go_wp2
      go_ret
      refine ⟨ret_bool ?_, rfl⟩
      have hA := HN.out
      rw [sumS_all ss k hlt] at hA
      simp only [pathB, hA, Bool.true_and]
      exact decide_eq_decide.2 (by omega)

set_option maxHeartbeats 400000 in
theorem pathOk_any (a : Option Addr) (ss : List ByteArray) (cap : Nat) (w : World) (h : Strs w w.heap.size a ss) (hs : Short ss) (hl : ss.length ≤ maxLen) :
    Calls Tryz.prog 99 #[.slice a ss.length cap] w fun e w' => e = .returned (.bool (pathB ss)) ∧ Below w.heap.size w w' := by
  unfold maxLen at hl
  by_cases h4 : (4 : Int) < ss.length
  · go_enter Tryz.func99, Tryz.ntmps99
    go_wp2
    go_ret
    refine ⟨ret_bool ?_, Below.refl _ _⟩
    have : ¬ ss.length ≤ 4 := by omega
    simp [pathB, this]
  · go_enter Tryz.func99, Tryz.ntmps99
    go_wp2
    go_loopw [10] (fun i wr => ∃ k : Nat, k ≤ ss.length ∧ i = .int .i64 k ∧ (ss.take k).all nameB = true ∧ Below w.heap.size w wr) (fun i _ => ss.length - (intOf i).toNat)
    case atStart => exact ⟨0, Nat.zero_le _, rfl, rfl, Below.refl _ _⟩
    case round =>
      obtain ⟨k, hk, rfl, hn, hbe⟩ := hrel
      have HN : Hid ((ss.take k).all nameB = true) := hn; clear hn
      by_cases hlt : k < ss.length
      · obtain ⟨b, o, rfl, hb, hc⟩ := (h.below hbe (Nat.le_refl _)) (by omega)
        have hcx := hc k hlt
        have hsz := hs.at k hlt
        cases hB : nameB ss[k]
        · go_wp2_with fail
          refine (nameOk_any _ _ hsz).mono ?_
          rintro e w1 ⟨rfl, hb1⟩
          rw [hB]
          go_wp2
          go_ret
          exact ⟨ret_bool (names_not ss k hlt hB).symm, hbe.trans (hb1.mono hbe.size)⟩
        · go_wp2_with fail
          refine (nameOk_any _ _ hsz).mono ?_
          rintro e w1 ⟨rfl, hb1⟩
          rw [hB]
          go_wp2
          go_roundw
          case rel => exact ⟨k + 1, by omega, by go_num, names_snoc ss k hlt HN.out hB, hbe.trans (hb1.mono hbe.size)⟩
          case measure => simp [intOf]; omega
      · go_wp2
        go_ret
        refine ⟨ret_bool ?_, hbe⟩
        have hA := HN.out
        rw [sumS_all ss k hlt] at hA
        have : ss.length ≤ 4 := by omega
        simp [pathB, hA, this]
end Go.Proofs.YtcgljeagjchobaaGreat
namespace Go.Proofs.YtcgljeagjchobaaGreat
open Go.RowKit M
set_option linter.unusedVariables false

set_option maxHeartbeats 400000 in
theorem timeOk_any (x : Int) (w : World) :
    Calls Tryz.prog 31 #[.int .i64 x] w fun e w' => e = .returned (.bool (inB x 0 9999999)) ∧ w' = w := by
  go_enter Tryz.func31, Tryz.ntmps31
  go_wp2
  all_goals
    go_ret
    refine ⟨ret_bool ?_, rfl⟩
    go_light
    unfold inB
    simp_all
    try omega

theorem lockB_is (r : Lk) (z1 z2 z3 : Bool) (h1 : inB r.tk 1 9999 = z1) (h2 : pathB r.pa = z2) (h3 : inB r.un 0 9999999 = z3) : lockB r = (z1 && (z2 && z3)) := by
  unfold lockB; rw [h1, h2, h3]

set_option maxHeartbeats 1000000 in
theorem lockOk_any (r : Lk) (pa : Option Addr) (pc B : Nat) (w : World) (h : LkIn w B r pa pc) (hB : B ≤ w.heap.size) (hs : Short r.pa) :
    Calls Tryz.prog 67 #[.agg #[.int .i64 r.tk, .slice pa r.pa.length pc, .bool r.de, .bool r.sh, .int .i64 r.un]] w fun e w' => e = .returned (.bool (lockB r)) ∧ Below w.heap.size w w' := by
  have l1 := h.len
  have p1 := h.ph
  obtain ⟨z1, hz1⟩ : ∃ z, inB r.tk 1 9999 = z := ⟨_, rfl⟩
  obtain ⟨z2, hz2⟩ : ∃ z, pathB r.pa = z := ⟨_, rfl⟩
  obtain ⟨z3, hz3⟩ : ∃ z, inB r.un 0 9999999 = z := ⟨_, rfl⟩
  rw [lockB_is r z1 z2 z3 hz1 hz2 hz3]
  clear h
  obtain ⟨tk, ss, de, sh, un⟩ := r
  simp only at *
  have hb0 : Below w.heap.size w (w.alloc (Obj.cells #[.int .i64 tk, .slice pa ss.length pc, .bool de, .bool sh, .int .i64 un] 48)) := (Below.refl _ _).alloc (Nat.le_refl _) _
  have hT := fun W => tokenOk_any tk W
  have hU := fun W => timeOk_any un W
  have hP := pathOk_any pa ss pc _ ((p1.below hb0 hB).mono (Nat.le_trans hB hb0.size)) hs l1
  rw [hz1] at hT
  rw [hz3] at hU
  rw [hz2] at hP
  have HT := hide hT
  have HU := hide hU
  have HP := hide hP
  have HB0 := hide hb0
  clear hT hU hP hz1 hz2 hz3 hb0 p1
  cases z1
  · go_enter Tryz.func67, Tryz.ntmps67
    go_wp2_with fail
    refine (HT.out _).mono ?_
    rintro e w1 ⟨rfl, hw⟩
    obtain rfl := hw
    go_wp2
    go_ret
    exact ⟨rfl, HB0.out⟩
  · cases z2
    · go_enter Tryz.func67, Tryz.ntmps67
      go_wp2_with fail
      refine (HT.out _).mono ?_
      rintro e w1 ⟨rfl, hw⟩
      obtain rfl := hw
      go_wp2_with fail
      refine HP.out.mono ?_
      rintro e w2 ⟨rfl, hb2⟩
      have c2 := HB0.out.trans (hb2.mono HB0.out.size)
      go_wp2
      go_ret
      exact ⟨rfl, c2⟩
    · go_enter Tryz.func67, Tryz.ntmps67
      go_wp2_with fail
      refine (HT.out _).mono ?_
      rintro e w1 ⟨rfl, hw⟩
      obtain rfl := hw
      go_wp2_with fail
      refine HP.out.mono ?_
      rintro e w2 ⟨rfl, hb2⟩
      have c2 := HB0.out.trans (hb2.mono HB0.out.size)
      obtain ⟨hcl, _⟩ := bcellL hb2
      clear hb2
      go_wp2_with fail
      refine (HU.out _).mono ?_
      rintro e w3 ⟨rfl, hw⟩
      obtain rfl := hw.symm
      go_wp2
      go_ret
      exact ⟨rfl, c2⟩

set_option maxHeartbeats 1000000 in
theorem specLockOk_any (r : Lk) (pa : Option Addr) (pc B : Nat) (w : World) (h : LkIn w B r pa pc) (hB : B ≤ w.heap.size) (hs : Short r.pa) :
    Calls Tryz.prog 57 #[.agg #[.int .i64 r.tk, .slice pa r.pa.length pc, .bool r.de, .bool r.sh, .int .i64 r.un]] w fun e w' => e = .returned (.bool (lockB r)) ∧ Below w.heap.size w w' := by
  have l1 := h.len
  have p1 := h.ph
  obtain ⟨z1, hz1⟩ : ∃ z, inB r.tk 1 9999 = z := ⟨_, rfl⟩
  obtain ⟨z2, hz2⟩ : ∃ z, pathB r.pa = z := ⟨_, rfl⟩
  obtain ⟨z3, hz3⟩ : ∃ z, inB r.un 0 9999999 = z := ⟨_, rfl⟩
  rw [lockB_is r z1 z2 z3 hz1 hz2 hz3]
  clear h
  obtain ⟨tk, ss, de, sh, un⟩ := r
  simp only at *
  have hb0 : Below w.heap.size w (w.alloc (Obj.cells #[.int .i64 tk, .slice pa ss.length pc, .bool de, .bool sh, .int .i64 un] 48)) := (Below.refl _ _).alloc (Nat.le_refl _) _
  have hT := fun W => l1In_any tk 1 9999 W
  have hU := fun W => l1In_any un 0 9999999 W
  have hP := specPathOk_any pa ss pc B _ (p1.below hb0 hB) hs l1
  rw [hz1] at hT
  rw [hz3] at hU
  rw [hz2] at hP
  have HT := hide hT
  have HU := hide hU
  have HP := hide hP
  have HB0 := hide hb0
  clear hT hU hP hz1 hz2 hz3 hb0 p1
  cases z1
  · go_enter Tryz.func57, Tryz.ntmps57
    go_wp2_with fail
    refine (HT.out _).mono ?_
    rintro e w1 ⟨rfl, hw⟩
    obtain rfl := hw
    go_wp2
    go_ret
    exact ⟨rfl, HB0.out⟩
  · cases z2
    all_goals
      go_enter Tryz.func57, Tryz.ntmps57
      go_wp2_with fail
      refine (HT.out _).mono ?_
      rintro e w1 ⟨rfl, hw⟩
      obtain rfl := hw
      go_wp2_with fail
      refine HP.out.mono ?_
      rintro e w2 ⟨rfl, hw⟩
      obtain rfl := hw
    · go_wp2
      go_ret
      exact ⟨rfl, HB0.out⟩
    · go_wp2_with fail
      refine (HU.out _).mono ?_
      rintro e w3 ⟨rfl, hw⟩
      obtain rfl := hw
      go_wp2
      go_ret
      exact ⟨rfl, HB0.out⟩
end Go.Proofs.YtcgljeagjchobaaGreat
