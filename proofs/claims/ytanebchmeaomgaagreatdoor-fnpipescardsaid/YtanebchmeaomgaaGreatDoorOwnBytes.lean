/-
  Names held against the two that tell of a body.
  What the program's tellsLength and tellsCoding do.
  What the specification's l1Digit does.
  What l1Small and SmallName (the specification's) do.
  What the program's allOf does: whether all bytes of a text are of one of these kinds.
  What SmallName (the program's) does.
  What the program's Plain does.
  What strings.Clone does.
  What the program's Trim does.
  What the program's methodOk, targetOk, tellsLength, tellsCoding do.
  What the program's headOk does.
  Rows of bytes that the call itself made: what string(b) gives of one; where the walk wants it.
-/
import Derived.Test.YtanebchmeaomgaaGreatDoorMathGet
import Derived.Test.YtanebchmeaomgaaGreatDoorSpecReq
import Derived.Test.YtanebchmeaomgaaGreatDoorMathSmall
import Derived.Test.YtanebchmeaomgaaGreatDoorShelf
import Derived.WalkKit
import Derived.WalkSpells
import Derived.WalkLawsBesides
import Derived.Deep.RegionWith
import Derived.Test.YtanebchmeaomgaaGreatDoorRows
import Derived.Deep.Light
import Derived.Lib.BufferWrite
import Derived.Laws.IdiomStrings
import Derived.Laws.BytesArg
namespace Go.Proofs.YtanebchmeaomgaaGreatDoor
open Go.RowKit M
set_option linter.unusedVariables false

theorem lenEq (x : ByteArray) : (x.toList == [99, 111, 110, 116, 101, 110, 116, 45, 108, 101, 110, 103, 116, 104]) = decide (x = lenName) := by
  by_cases h : x = lenName
  · subst h; rw [ByteArray.toList_eq]; decide
  · have : ¬ x.toList = [99, 111, 110, 116, 101, 110, 116, 45, 108, 101, 110, 103, 116, 104] := fun e => h (strInj (by rw [e, ByteArray.toList_eq]; rfl))
    simp [h, this]
theorem codEq (x : ByteArray) : (x.toList == [116, 114, 97, 110, 115, 102, 101, 114, 45, 101, 110, 99, 111, 100, 105, 110, 103]) = decide (x = codName) := by
  by_cases h : x = codName
  · subst h; rw [ByteArray.toList_eq]; decide
  · have : ¬ x.toList = [116, 114, 97, 110, 115, 102, 101, 114, 45, 101, 110, 99, 111, 100, 105, 110, 103] := fun e => h (strInj (by rw [e, ByteArray.toList_eq]; rfl))
    simp [h, this]
end Go.Proofs.YtanebchmeaomgaaGreatDoor
namespace Go.Proofs.YtanebchmeaomgaaGreatDoor
open Go.RowKit M
set_option linter.unusedVariables false

set_option maxHeartbeats 400000 in
theorem tellsLength_any (x y : ByteArray) (w : World) :
    Calls Tryz.prog 170 #[.agg #[.string x, .string y]] w fun e w' => e = .returned (.bool (decide (x = lenName))) ∧ Below w.heap.size w w' := by
  have e := lenEq x
  generalize decide (x = lenName) = z at *
  go_enter Tryz.func170, Tryz.ntmps170
  go_wp2
  go_ret
  exact ⟨rfl, (Below.refl _ _).alloc (Nat.le_refl _) _⟩

set_option maxHeartbeats 400000 in
theorem tellsCoding_any (x y : ByteArray) (w : World) :
    Calls Tryz.prog 171 #[.agg #[.string x, .string y]] w fun e w' => e = .returned (.bool (decide (x = codName))) ∧ Below w.heap.size w w' := by
  have e := codEq x
  generalize decide (x = codName) = z at *
  go_enter Tryz.func171, Tryz.ntmps171
  go_wp2
  go_ret
  exact ⟨rfl, (Below.refl _ _).alloc (Nat.le_refl _) _⟩
end Go.Proofs.YtanebchmeaomgaaGreatDoor
namespace Go.Proofs.YtanebchmeaomgaaGreatDoor
open Go.RowKit M

set_option maxHeartbeats 400000 in
theorem l1Digit_any (c : UInt8) (w : World) :
    Calls Tryz.prog 159 #[.int .u8 c.toNat] w fun e w' => e = .returned (.bool (isB c.toNat 4)) ∧ w' = w := by
  go_enter Tryz.func159, Tryz.ntmps159
  go_wp2_with (go_at_call 123; refine (l1In_any _ _ _ _).mono ?_; rintro e w' ⟨rfl, rfl⟩; rw [wrap64_u8, inB_digit])
  go_ret
  exact ⟨rfl, rfl⟩
end Go.Proofs.YtanebchmeaomgaaGreatDoor
namespace Go.Proofs.YtanebchmeaomgaaGreatDoor
open Go.RowKit M

set_option maxHeartbeats 400000 in
theorem l1Small_any (c : UInt8) (w : World) :
    Calls Tryz.prog 158 #[.int .u8 c.toNat] w fun e w' => e = .returned (.bool (isB c.toNat 2)) ∧ w' = w := by
  go_enter Tryz.func158, Tryz.ntmps158
  go_wp2_with (go_at_call 123; refine (l1In_any _ _ _ _).mono ?_; rintro e w' ⟨rfl, rfl⟩; rw [wrap64_u8, inB_small])
  go_ret
  exact ⟨rfl, rfl⟩

set_option maxHeartbeats 1000000 in
theorem specSmallName_any (s : ByteArray) (w : World) (hs : s.size ≤ maxLen) :
    Calls Tryz.prog 113 #[.string s] w fun e w' => e = .returned (.bool (smB s.data.toList)) ∧ w' = w := by
  unfold maxLen at hs
  go_enter Tryz.func113, Tryz.ntmps113
  go_wp2
  go_loop [3] (fun i => ∃ k : Nat, k ≤ s.size ∧ i = .int .i64 k ∧ ∀ j (hj : j < s.size), j < k → okAt j (s[j].toNat : Int) = true) (fun i => s.size - (intOf i).toNat)
  case atStart => exact ⟨0, Nat.zero_le _, rfl, fun _ _ h => absurd h (Nat.not_lt_zero _)⟩
  case round =>
    obtain ⟨k, hk, rfl, hn⟩ := hrel
    have HN : Hid (∀ j (hj : j < s.size), j < k → okAt j (s[j].toNat : Int) = true) := hn; clear hn
    by_cases hlt : k < s.size
    · have hnext : okAt k (s[k].toNat : Int) = true → ∀ j (hj : j < s.size), j < k + 1 → okAt j (s[j].toNat : Int) = true := by
        intro ho j hj hjk
        by_cases e : j = k
        · subst e; exact ho
        · exact HN.out j hj (by omega)
      have HX : Hid (okAt k (s[k].toNat : Int) = true → ∀ j (hj : j < s.size), j < k + 1 → okAt j (s[j].toNat : Int) = true) := hnext
      clear hnext
      go_wp2_with (first | (go_at_call 158; refine (l1Small_any _ _).mono ?_; rintro e w' ⟨rfl, rfl⟩) | (go_at_call 159; refine (l1Digit_any _ _).mono ?_; rintro e w' ⟨rfl, rfl⟩))
      · go_round
        case rel => exact ⟨k + 1, by omega, by go_num, HX.out (ok1 (by assumption))⟩
        case measure => simp [intOf]; omega
      · go_ret
        exact ⟨ret_bool (smB_not s k hlt (no2 (by assumption) (by assumption))).symm, rfl⟩
      · go_round
        case rel => exact ⟨k + 1, by omega, by go_num, HX.out (ok3 (by assumption) (by assumption))⟩
        case measure => simp [intOf]; omega
      · go_ret
        exact ⟨ret_bool (smB_not s k hlt (no4 (by assumption) (by assumption) (by assumption) (by assumption))).symm, rfl⟩
      · go_round
        case rel => exact ⟨k + 1, by omega, by go_num, HX.out (ok5 (by assumption) (by assumption))⟩
        case measure => simp [intOf]; omega
    · go_wp2_with (go_at_call 123; refine (l1In_any _ _ _ _).mono ?_; rintro e w' ⟨rfl, rfl⟩)
      go_ret
      exact ⟨ret_bool (by rw [smB_all s (fun i hi => HN.out i hi (by omega))]), rfl⟩
end Go.Proofs.YtanebchmeaomgaaGreatDoor
namespace Go.Proofs.YtanebchmeaomgaaGreatDoor
open Go.RowKit M

set_option maxHeartbeats 400000 in
theorem allOf_any (s : ByteArray) (ks : List Int) (n b o cap : Nat) (w : World) (hn : ks.length = n) (hs : s.size ≤ maxLen) (hl : ks.length ≤ maxLen)
    (hc : ∀ i, i < ks.length → w.cell? ⟨b, o + i, none⟩ = some (.int .i64 (ks.getD i 0))) :
    Calls Tryz.prog 167 #[.string s, .slice (some ⟨b, o, none⟩) n cap] w fun e w' => e = .returned (.bool (allB s.data.toList ks)) ∧ w' = w := by
  subst hn
  unfold maxLen at hs
  have HC : Hid (∀ i, i < ks.length → w.cell? ⟨b, o + i, none⟩ = some (.int .i64 (ks.getD i 0))) := hc
  clear hc
  go_enter Tryz.func167, Tryz.ntmps167
  go_wp2
  go_loop [5] (fun i => ∃ k : Nat, k ≤ s.size ∧ i = .int .i64 k ∧ allB (s.data.toList.take k) ks = true) (fun i => s.size - (intOf i).toNat)
  case atStart => exact ⟨0, Nat.zero_le _, rfl, rfl⟩
  case round =>
    obtain ⟨k, hk, rfl, hn⟩ := hrel
    have HN : Hid (allB (s.data.toList.take k) ks = true) := hn; clear hn
    by_cases hlt : k < s.size
    · go_wp2_with (go_at_call 180; refine (isOneOf_any _ ks _ b o cap _ rfl hl HC.out).mono ?_; rintro e w' ⟨rfl, rfl⟩)
      · go_ret
        exact ⟨ret_bool (by rw [allB_not s ks k hlt (by assumption)]), rfl⟩
      · go_round
        case rel => exact ⟨k + 1, by omega, by go_num, allB_snoc s ks k hlt HN.out (by assumption)⟩
        case measure => simp [intOf]; omega
    · go_wp2
      go_ret
      exact ⟨ret_bool (by rw [← HN.out, take_all s k hlt]), rfl⟩
end Go.Proofs.YtanebchmeaomgaaGreatDoor
namespace Go.Proofs.YtanebchmeaomgaaGreatDoor
open Go.RowKit M

set_option maxHeartbeats 400000 in
theorem smallName_any (s : ByteArray) (w : World) (hs : s.size ≤ maxLen) :
    Calls Tryz.prog 157 #[.string s] w fun e w' => e = .returned (.bool (smB s.data.toList)) ∧ Below w.heap.size w w' := by
  have hs' := hs
  unfold maxLen at hs'
  by_cases h0 : s.size < 1
  · have := smB_long s (.inl h0)
    have H : Hid (smB s.data.toList = false) := this
    clear this
    go_enter Tryz.func157, Tryz.ntmps157
    go_wp2
    go_ret
    exact ⟨ret_bool H.out.symm, Below.refl _ _⟩
  · by_cases h20 : 20 < s.size
    · have H : Hid (smB s.data.toList = false) := smB_long s (.inr h20)
      go_enter Tryz.func157, Tryz.ntmps157
      go_wp2
      go_ret
      exact ⟨ret_bool H.out.symm, Below.refl _ _⟩
    · have h1 : 0 < s.size := by omega
      have H : Hid (smB s.data.toList = (isB ((s[0]).toNat : Int) 2 && allB s.data.toList [2, 4, 7])) := smB_impl s h1 (by omega)
      cases hsm : isB ((s[0]).toNat : Int) 2
      · go_enter Tryz.func157, Tryz.ntmps157
        go_wp2_with (go_at_call 180; refine (isOneOf_any _ [2] 1 _ 0 1 _ rfl (by decide) (cells1 w 2 205)).mono ?_; rintro e w' ⟨rfl, rfl⟩; rw [anyB_one, hsm])
        go_ret
        exact ⟨ret_bool (by rw [H.out, hsm]; rfl), (Below.refl _ _).alloc (Nat.le_refl _) _⟩
      · go_enter Tryz.func157, Tryz.ntmps157
        go_wp2_with (first | (go_at_call 180; refine (isOneOf_any _ [2] 1 _ 0 1 _ rfl (by decide) (cells1 w 2 205)).mono ?_; rintro e w' ⟨rfl, rfl⟩; rw [anyB_one, hsm]) | (go_at_call 167; refine (allOf_any s [2, 4, 7] 3 _ 0 3 _ rfl hs (by decide) ?c1).mono ?_; rotate_left; rintro e w' ⟨rfl, rfl⟩))
        case c1 => exact cells3 _ _ 2 4 7 205 (by simp)
        go_ret
        exact ⟨ret_bool (by rw [H.out, hsm]; rfl), ((Below.refl _ _).alloc (Nat.le_refl _) _).alloc (by simp) _⟩
end Go.Proofs.YtanebchmeaomgaaGreatDoor
namespace Go.Proofs.YtanebchmeaomgaaGreatDoor
open Go.RowKit M

set_option maxHeartbeats 400000 in
theorem plain_any (s : ByteArray) (w : World) (hs : s.size ≤ maxLen) :
    Calls Tryz.prog 145 #[.string s] w fun e w' => e = .returned (.bool (allB s.data.toList [0])) ∧ Below w.heap.size w w' := by
  go_enter Tryz.func145, Tryz.ntmps145
  go_wp2_with (go_at_call 167; refine (allOf_any s [0] 1 _ 0 1 _ rfl hs (by decide) ?_).mono ?_)
  · intro i hi
    have : i = 0 := by simp at hi; omega
    subst this
    simp
  · rintro e w' ⟨rfl, rfl⟩
    go_wp2
    go_ret
    exact ⟨rfl, (Below.refl _ _).alloc (Nat.le_refl _) _⟩
end Go.Proofs.YtanebchmeaomgaaGreatDoor
namespace Go.Proofs.YtanebchmeaomgaaGreatDoor
open Go.RowKit

set_option maxHeartbeats 400000 in
theorem clone_any (s : ByteArray) (w : World) (hs : s.size ≤ 281474976710656) :
    Calls Tryz.prog 111 #[.string s] w fun e w' => e = .returned (.string s) ∧ Below w.heap.size w w' := by
  go_enter Tryz.func111, Tryz.ntmps111
  go_wp2_with (go_at_call 156; refine (Tryz.stringslite_Clone s _ hs).mono ?_; rintro e w1 ⟨rfl, hb1⟩)
  go_ret
  exact ⟨rfl, hb1⟩
end Go.Proofs.YtanebchmeaomgaaGreatDoor
namespace Go.Proofs.YtanebchmeaomgaaGreatDoor
open Go.RowKit M

set_option maxHeartbeats 1000000 in
theorem trim_any (s : ByteArray) (w : World) (hs : s.size ≤ 281474976710656) :
    Calls Tryz.prog 147 #[.string s] w fun e w' => (∃ t : ByteArray, e = .returned (.string t) ∧ t.data.toList = trimL s.data.toList) ∧ Below w.heap.size w w' := by
  go_enter Tryz.func147, Tryz.ntmps147
  go_wp2
  go_loopw [3] (fun i wr => ∃ a : Nat, a ≤ s.size ∧ i = .int .i64 a ∧ Below w.heap.size w wr ∧ trimL (cut s a s.size) = trimL s.data.toList) (fun i _ => s.size - (intOf i).toNat)
  case atStart => exact ⟨0, Nat.zero_le _, rfl, Below.refl _ _, by rw [cut_all]⟩
  case round =>
    obtain ⟨a, ha, rfl, hbe, hn⟩ := hrel
    have HN : Hid (trimL (cut s a s.size) = trimL s.data.toList) := hn; clear hn
    by_cases h0 : a < s.size
    · cases hb : bl s[a]
      · go_wp2_with (go_at_call 180; refine (isOneOf_any _ [1] 1 _ 0 1 _ rfl (by decide) (cells1 _ 1 205)).mono ?_; rintro e w' ⟨rfl, rfl⟩; rw [anyB_bl, hb])
        have hbe1 : Below w.heap.size w (wr.alloc (Obj.cells #[Value.int IntKind.i64 1] 205)) := hbe.alloc hbe.size _
        go_loopw [4] (fun j wx => ∃ b : Nat, a ≤ b ∧ b ≤ s.size ∧ j = .int .i64 b ∧ Below w.heap.size w wx ∧ trimL (cut s a b) = trimL s.data.toList) (fun j _ => (intOf j).toNat)
        case atStart => exact ⟨s.size, ha, Nat.le_refl _, rfl, hbe1, HN.out⟩
        case round =>
          clear hbe1 hbe
          obtain ⟨b, hab, hbs, rfl, hbx, hn⟩ := hrel
          have HB : Hid (trimL (cut s a b) = trimL s.data.toList) := hn; clear hn
          by_cases h1 : a < b
          · cases hb1 : bl s[b - 1]
            · have HD : Hid ((s.extract a b).data.toList = trimL s.data.toList) := by
                show _ = _
                rw [← HB.out, extract_cut, cut_trim_done s a b hbs h1 hb hb1]
              have hsz : (s.extract a b).size ≤ 281474976710656 := by rw [size_extract s a b hbs]; omega
              go_wp2_with (first | (go_at_call 180; refine (isOneOf_any _ [1] 1 _ 0 1 _ rfl (by decide) (cells1 _ 1 205)).mono ?_; rintro e w' ⟨rfl, rfl⟩; rw [anyB_bl, hb1]) | (go_at_call 111; refine (clone_any _ _ hsz).mono ?_; rintro e w1 ⟨rfl, hb2⟩))
              go_ret
              exact ⟨⟨_, rfl, HD.out⟩, (hbx.alloc hbx.size _).trans (hb2.mono (by have := hbx.size; simp; omega))⟩
            · go_wp2_with (go_at_call 180; refine (isOneOf_any _ [1] 1 _ 0 1 _ rfl (by decide) (cells1 _ 1 205)).mono ?_; rintro e w' ⟨rfl, rfl⟩; rw [anyB_bl, hb1])
              go_roundw
              case rel => exact ⟨b - 1, by omega, by omega, by go_num, hbx.alloc hbx.size _, by rw [← HB.out]; exact (cut_trim_back s a b hbs h1 hb1).symm⟩
              case measure => simp [intOf]; omega
          · have HD : Hid ((s.extract a b).data.toList = trimL s.data.toList) := by
              show _ = _
              rw [← HB.out, extract_cut, cut_empty s a b (by omega)]; rfl
            have hsz : (s.extract a b).size ≤ 281474976710656 := by rw [size_extract s a b hbs]; omega
            go_wp2_with (go_at_call 111; refine (clone_any _ _ hsz).mono ?_; rintro e w1 ⟨rfl, hb2⟩)
            go_ret
            exact ⟨⟨_, rfl, HD.out⟩, hbx.trans (hb2.mono hbx.size)⟩
      · go_wp2_with (go_at_call 180; refine (isOneOf_any _ [1] 1 _ 0 1 _ rfl (by decide) (cells1 _ 1 205)).mono ?_; rintro e w' ⟨rfl, rfl⟩; rw [anyB_bl, hb])
        go_roundw
        case rel => exact ⟨a + 1, by omega, by go_num, hbe.alloc hbe.size _, by rw [← HN.out]; exact (cut_trim_front s a s.size (Nat.le_refl _) h0 hb).symm⟩
        case measure => simp [intOf]; omega
    · have HD : Hid ((s.extract a s.size).data.toList = trimL s.data.toList) := by
        show _ = _
        rw [← HN.out, extract_cut, cut_empty s _ _ (by omega)]; rfl
      have hsz : (s.extract a s.size).size ≤ 281474976710656 := by rw [size_extract s _ _ (Nat.le_refl _)]; omega
      go_wp2
      go_loopw [4] (fun j wx => j = .int .i64 s.size ∧ wx = wr) (fun j _ => (intOf j).toNat)
      case atStart => exact ⟨rfl, rfl⟩
      case round =>
        obtain ⟨rfl, rfl⟩ := hrel
        go_wp2_with (go_at_call 111; refine (clone_any _ _ hsz).mono ?_; rintro e w1 ⟨rfl, hb2⟩)
        go_ret
        exact ⟨⟨_, rfl, HD.out⟩, hbe.trans (hb2.mono hbe.size)⟩
end Go.Proofs.YtanebchmeaomgaaGreatDoor
namespace Go.Proofs.YtanebchmeaomgaaGreatDoor
open Go.RowKit M
set_option linter.unusedVariables false

theorem methB_size {s : ByteArray} (h : ¬ (1 ≤ s.size ∧ s.size ≤ 9)) : methB s = false := by
  have : inB (s.size : Int) 1 9 = false := by simp [inB]; omega
  simp [methB, this]
theorem methB_in {s : ByteArray} (h : 1 ≤ s.size ∧ s.size ≤ 9) : methB s = allB s.data.toList [3] := by
  have : inB (s.size : Int) 1 9 = true := by simp [inB]; omega
  simp [methB, this]
theorem targB_size {s : ByteArray} (h : ¬ (1 ≤ s.size ∧ s.size ≤ 80)) : targB s = false := by
  have : inB (s.size : Int) 1 80 = false := by simp [inB]; omega
  simp [targB, this]
theorem targB_in {s : ByteArray} (h : 1 ≤ s.size ∧ s.size ≤ 80) : targB s = (allB s.data.toList [0] && !decide (0 ≤ Lib.indexByte s.data.toList 32)) := by
  have : inB (s.size : Int) 1 80 = true := by simp [inB]; omega
  rw [indexByte_nonneg, tgt_plain]
  simp [targB, this]

theorem allOf_one (s : ByteArray) (k : Int) (T : TypeId) (w : World) (hs : s.size ≤ maxLen) :
    Calls Tryz.prog 167 #[.string s, .slice (some ⟨w.heap.size, 0, none⟩) 1 1] (w.alloc (Obj.cells #[.int .i64 k] T)) fun e w' => e = .returned (.bool (allB s.data.toList [k])) ∧ w' = w.alloc (Obj.cells #[.int .i64 k] T) := by
  refine allOf_any s [k] 1 _ 0 1 _ rfl hs (by unfold maxLen; simp) ?_
  intro i hi
  have : i = 0 := by simp at hi; omega
  subst this
  simp

set_option maxHeartbeats 400000 in
theorem methodOk_any (s : ByteArray) (w : World) (hs : s.size ≤ maxLen) :
    Calls Tryz.prog 129 #[.string s] w fun e w' => e = .returned (.bool (methB s)) ∧ Below w.heap.size w w' := by
  have hs' := hs
  unfold maxLen at hs'
  by_cases h : 1 ≤ s.size ∧ s.size ≤ 9
  · rw [methB_in h]
    have h1 : (1 : Int) ≤ s.size := by omega
    have h2 : (s.size : Int) ≤ 9 := by omega
    clear h
    go_enter Tryz.func129, Tryz.ntmps129
    go_wp2_with (go_at_call 167; refine (allOf_one s 3 _ _ hs).mono ?_; rintro e w1 ⟨rfl, hw⟩; obtain rfl := hw.symm)
    go_ret
    exact ⟨rfl, (Below.refl _ _).alloc (Nat.le_refl _) _⟩
  · rw [methB_size h]
    by_cases h1 : (1 : Int) ≤ s.size
    · have h2 : ¬ (s.size : Int) ≤ 9 := by omega
      go_enter Tryz.func129, Tryz.ntmps129
      go_wp2
      go_ret
      exact ⟨rfl, Below.refl _ _⟩
    · go_enter Tryz.func129, Tryz.ntmps129
      go_wp2
      go_ret
      exact ⟨rfl, Below.refl _ _⟩

set_option maxHeartbeats 400000 in
theorem targetOk_any (s : ByteArray) (w : World) (hs : s.size ≤ maxLen) :
    Calls Tryz.prog 130 #[.string s] w fun e w' => e = .returned (.bool (targB s)) ∧ Below w.heap.size w w' := by
  have hs' := hs
  unfold maxLen at hs'
  by_cases h : 1 ≤ s.size ∧ s.size ≤ 80
  · rw [targB_in h]
    have h1 : (1 : Int) ≤ s.size := by omega
    have h2 : (s.size : Int) ≤ 80 := by omega
    clear h
    cases h3 : allB s.data.toList [0]
    · go_enter Tryz.func130, Tryz.ntmps130
      go_wp2_with (go_at_call 145; refine (plain_any s _ hs).mono ?_; rintro e w1 ⟨rfl, b1⟩; rw [h3])
      go_ret
      exact ⟨rfl, b1⟩
    · go_enter Tryz.func130, Tryz.ntmps130
      go_wp2_with (first | (go_at_call 145; refine (plain_any s _ hs).mono ?_; rintro e w1 ⟨rfl, b1⟩; rw [h3]) | (go_at_call 168; refine (Tryz.strings_Contains_one s 32 _).mono ?_; rintro e w2 ⟨rfl, hw⟩; obtain rfl := hw.symm))
      go_ret
      exact ⟨ret_bool (by simp), b1⟩
  · rw [targB_size h]
    by_cases h1 : (1 : Int) ≤ s.size
    · have h2 : ¬ (s.size : Int) ≤ 80 := by omega
      go_enter Tryz.func130, Tryz.ntmps130
      go_wp2
      go_ret
      exact ⟨rfl, Below.refl _ _⟩
    · go_enter Tryz.func130, Tryz.ntmps130
      go_wp2
      go_ret
      exact ⟨rfl, Below.refl _ _⟩
end Go.Proofs.YtanebchmeaomgaaGreatDoor
namespace Go.Proofs.YtanebchmeaomgaaGreatDoor
open Go.RowKit M
set_option linter.unusedVariables false

theorem below_drew0 {w w' : World} {C : Nat} (h : Below C w w') : Below C w w'.drew := ⟨h.os, h.tape, h.output, h.size, h.block⟩
theorem box1 {w w1 : World} {x y : ByteArray} {T : TypeId} (b1 : Below (w.alloc (Obj.cells #[Value.string x, Value.string y] T)).drew.heap.size (w.alloc (Obj.cells #[Value.string x, Value.string y] T)).drew w1) : w1.cell? ⟨w.heap.size, 1, none⟩ = some (.string y) := by
  have h : (w.alloc (Obj.cells #[Value.string x, Value.string y] T)).drew.cell? ⟨w.heap.size, 1, none⟩ = some (.string y) := by
    show (w.alloc (Obj.cells #[Value.string x, Value.string y] T)).cell? ⟨w.heap.size, 1, none⟩ = some (.string y)
    simp
  exact (b1.cell (p := ⟨w.heap.size, 1, none⟩) (by show w.heap.size < (w.alloc (Obj.cells #[Value.string x, Value.string y] T)).heap.size; simp)).trans h
theorem lt1 {w w1 : World} {x y : ByteArray} {T : TypeId} (b1 : Below (w.alloc (Obj.cells #[Value.string x, Value.string y] T)).drew.heap.size (w.alloc (Obj.cells #[Value.string x, Value.string y] T)).drew w1) : w.heap.size < w1.heap.size :=
  Nat.lt_of_lt_of_le (by show w.heap.size < (w.alloc (Obj.cells #[Value.string x, Value.string y] T)).heap.size; simp) b1.size

set_option maxHeartbeats 4000000 in
theorem headOk_any (x y : ByteArray) (w : World) (hx : x.size ≤ maxLen) (hy : y.size ≤ maxLen) (hy4 : y.size ≤ 281474976710656) :
    Calls Tryz.prog 169 #[.agg #[.string x, .string y]] w fun e w' => e = .returned (.bool (hdB (x, y))) ∧ Below w.heap.size w w' := by
  have hb0 : Below w.heap.size w (w.alloc (Obj.cells #[Value.string x, Value.string y] 82)).drew := below_drew0 ((Below.refl w.heap.size w).alloc (Nat.le_refl _) (Obj.cells #[Value.string x, Value.string y] 82))
  cases h1 : smB x.data.toList
  · have hz : hdB (x, y) = false := by simp [hdB, h1]
    rw [hz]
    clear hz
    go_enter Tryz.func169, Tryz.ntmps169
    go_wp2
    first | go_region_with ((go_at_call 157; refine (smallName_any x _ hx).mono ?_; rintro e w1 ⟨rfl, b1⟩; rw [h1]; have c1 := hb0.trans (Below.mono (w := (w.alloc (Obj.cells #[Value.string x, Value.string y] 82)).drew) b1 hb0.size); have k1 := box1 b1; have l1 := lt1 b1)) | fail
    all_goals
      go_wp2
      go_ret
      exact ⟨rfl, c1⟩
  · by_cases h2 : (y.size : Int) ≤ 60
    · cases h3 : allB y.data.toList [0]
      · have hz : hdB (x, y) = false := by simp [hdB, valB, h3]
        rw [hz]
        clear hz
        go_enter Tryz.func169, Tryz.ntmps169
        go_wp2
        first | go_region_with (first | (go_at_call 157; refine (smallName_any x _ hx).mono ?_; rintro e w1 ⟨rfl, b1⟩; rw [h1]; have c1 := hb0.trans (Below.mono (w := (w.alloc (Obj.cells #[Value.string x, Value.string y] 82)).drew) b1 hb0.size); have k1 := box1 b1; have l1 := lt1 b1) | (go_at_call 145; refine (plain_any y _ hy).mono ?_; rintro e w2 ⟨rfl, b2⟩; rw [h3]; have c2 := c1.trans (b2.mono c1.size); have k2 := (b2.cell (p := ⟨w.heap.size, 1, none⟩) l1).trans k1; have l2 := Nat.lt_of_lt_of_le l1 b2.size)) | fail
        all_goals
          go_wp2
          go_ret
          exact ⟨rfl, c2⟩
      · have h2' : y.size ≤ 60 := by omega
        have hz : hdB (x, y) = decide (trimL y.data.toList = y.data.toList) := by simp [hdB, valB, h1, h2', h3]
        rw [hz]
        clear hz h2'
        go_enter Tryz.func169, Tryz.ntmps169
        go_wp2
        first | go_region_with (first | (go_at_call 157; refine (smallName_any x _ hx).mono ?_; rintro e w1 ⟨rfl, b1⟩; rw [h1]; have c1 := hb0.trans (Below.mono (w := (w.alloc (Obj.cells #[Value.string x, Value.string y] 82)).drew) b1 hb0.size); have k1 := box1 b1; have l1 := lt1 b1) | (go_at_call 145; refine (plain_any y _ hy).mono ?_; rintro e w2 ⟨rfl, b2⟩; rw [h3]; have c2 := c1.trans (b2.mono c1.size); have k2 := (b2.cell (p := ⟨w.heap.size, 1, none⟩) l1).trans k1; have l2 := Nat.lt_of_lt_of_le l1 b2.size) | (go_at_call 147; refine (trim_any y _ hy4).mono ?_; rintro e w3 ⟨⟨t, rfl, ht⟩, b3⟩; have HT := hide ht; clear ht; have c3 := c2.trans (b3.mono c2.size); have k3 := (b3.cell (p := ⟨w.heap.size, 1, none⟩) l2).trans k2)) | fail
        all_goals
          go_wp2
          go_ret
          exact ⟨ret_bool (by rw [← trim_same HT.out]), c3⟩
    · have h2' : ¬ y.size ≤ 60 := by omega
      have hz : hdB (x, y) = false := by simp [hdB, valB, h2']
      rw [hz]
      clear h2' hz
      go_enter Tryz.func169, Tryz.ntmps169
      go_wp2
      first | go_region_with ((go_at_call 157; refine (smallName_any x _ hx).mono ?_; rintro e w1 ⟨rfl, b1⟩; rw [h1]; have c1 := hb0.trans (Below.mono (w := (w.alloc (Obj.cells #[Value.string x, Value.string y] 82)).drew) b1 hb0.size); have k1 := box1 b1; have l1 := lt1 b1)) | fail
      all_goals
        go_wp2
        go_ret
        exact ⟨rfl, c1⟩
end Go.Proofs.YtanebchmeaomgaaGreatDoor
namespace Go.Proofs.YtanebchmeaomgaaGreatDoor
open Go.RowKit

theorem ret_str {l m : List UInt8} (h : l = m) : Ending.returned (.string ⟨l.toArray⟩) = .returned (.string ⟨m.toArray⟩) := by rw [h]

/-- 'string(b)' of a row of bytes that the call owns: its bytes; the world is as it was. -/
theorem conv_own {w : World} {B n : Nat} {v : Value} {l : List UInt8} (h : w.ownsRow B 5 1 v n (Lib.byteCells l)) :
    (convert 22 9 v).run Tryz.prog w = .ok (.string ⟨l.toArray⟩) w := by
  have hn : n = l.length := by have := h.1; rw [Lib.byteCells_length] at this; omega
  subst hn
  rcases h.2 with ⟨rfl, h0⟩ | ⟨g, cap, cur, rfl, _, hg, _, _, _, htk⟩
  · have : l = [] := List.length_eq_zero_iff.1 h0
    subst this
    exact run_convert_bytes_nil w 22 5 Tryz.underlying22 Tryz.underlying5 0 0 9 Tryz.underlying9
  · refine run_convert_bytes_back w 22 9 5 _ cap l Tryz.underlying22 Tryz.underlying5 Tryz.underlying9 ?_
    intro j hj
    exact h.cells (g := g) rfl j _ (by simp [Lib.byteCells, List.getElem?_eq_getElem hj])

/-- What grew by writes to a row that the call owns is as it was below. -/
theorem below_grown {w w' : World} {B n : Nat} {e : TypeId} {v : Value} {xs : List Value} (h : w.ownsRow B e 1 v n xs) (hB : B ≤ w.heap.size) (hg : w.grownBy w' v.ownBlock) : Below B w w' :=
  ⟨hg.os, hg.tape, hg.output, hg.size, fun k hk => hg.block k (Nat.lt_of_lt_of_le hk hB) (fun e => by have := h.lt k e.symm; omega)⟩

theorem info_byte : (Tryz.prog.info? 5).map (fun i => (i.zero, i.size, i.bytes)) = some (some (.int .u8 0), 1, 1) := by kernel_rfl

/-- 'b = append(b, c)' on a row of bytes that the call owns. -/
theorem wp_append_byte {w : World} {ops : Array Oper} {rest : List Oper} {o : Oper} {a : Act} {Q : Exit → Act → World → Prop} (hgd : o.guard = none) (s x : Operand)
    (ho : o.op = .call { callee := .builtin .append, args := #[s, x], argTypes := #[22, 22] })
    (B : Nat) (v : Value) (n : Nat) (l : List UInt8) (hs : a.eval s = v) (hown : w.ownsRow B 5 1 v n (Lib.byteCells l))
    (ad : Addr) (c : UInt8) (hx : a.eval x = .slice (some ad) 1 1) (hcell : w.cell? ad = some (.int .u8 c.toNat)) (hlen : n + 1 ≤ 140737488355328) (hB : B ≤ w.heap.size)
    (h : ∀ v' w', w'.ownsRow B 5 1 v' (n + 1) (Lib.byteCells (l ++ [c])) → Below B w w' → wpList Tryz.prog ops Q rest (a.put o.dst v') w') : wpList Tryz.prog ops Q (o :: rest) a w := by
  obtain ⟨i0, hi, hz0, hz1, hz2⟩ := info_parts info_byte
  refine wpList_append_own w hgd s x 22 ho B 5 i0 (.int .u8 0) 1 1 Tryz.underlying22 hi hz0 hz1 hz2 rfl (by decide) v n _ hs hown ad 1 1 [.int .u8 c.toNat] hx rfl ?_ ?_ ?_ ?_ hB ?_
  · intro j u hj
    match j, hj with
    | 0, hj =>
      simp at hj; subst hj
      have : ad.add 0 = ad := by unfold Addr.add; split <;> simp_all
      rw [this]; exact hcell
  · intro u hu; simp at hu; subst hu; rfl
  · unfold maxLen; omega
  · omega
  · intro v' w' ho' hg _
    refine h v' w' ?_ (below_grown hown hB hg)
    rw [Lib.byteCells_append]
    exact ho'

/-- A row of bytes in block N, none of them frozen. -/
def RowAt (w : World) (N : Nat) (l : List UInt8) : Prop := ∀ j (hj : j < l.length), w.cell? ⟨N, j, none⟩ = some (.int .u8 l[j].toNat) ∧ w.frozen? ⟨N, j, none⟩ = false

theorem RowAt.alloc {w : World} {N : Nat} {l : List UInt8} (h : RowAt w N l) (hN : N < w.heap.size) (o : Obj) : RowAt (w.alloc o) N l := fun j hj =>
  ⟨(World.cell?_alloc_past o N j hN).trans (h j hj).1, (World.frozen?_alloc_past o N j hN).trans (h j hj).2⟩

theorem RowAt.set {w : World} {N : Nat} {l : List UInt8} (h : RowAt w N l) (k : Nat) (hk : k < l.length) (c : UInt8) : RowAt (w.setCell ⟨N, k, none⟩ (.int .u8 c.toNat)) N (l.set k c) := by
  intro j hj
  have hj' : j < l.length := by simpa using hj
  refine ⟨?_, by rw [World.frozen?_setCell]; exact (h j hj').2⟩
  by_cases e : k = j
  · subst e
    rw [World.cell?_setCell_same _ _ _ (h k hk).1]
    simp
  · have hne : (⟨N, k, none⟩ : Addr) ≠ ⟨N, j, none⟩ := fun e' => e (congrArg Addr.off e')
    rw [World.cell?_setCell_other _ _ _ _ hne, (h j hj').1]
    simp [e]

/-- 'string(b)' of such a row. -/
theorem conv_row {w : World} {N n cap : Nat} {l : List UInt8} (h : RowAt w N l) (hn : l.length = n) :
    (convert 22 9 (.slice (some ⟨N, 0, none⟩) n cap)).run Tryz.prog w = .ok (.string ⟨l.toArray⟩) w := by
  subst hn
  refine run_convert_bytes_back w 22 9 5 _ cap l Tryz.underlying22 Tryz.underlying5 Tryz.underlying9 ?_
  intro j hj
  have : (⟨N, 0, none⟩ : Addr).add j = ⟨N, j, none⟩ := by
    unfold Addr.add; split <;> simp_all
  rw [this]; exact (h j hj).1

/-- 'string(b)' of the end of such a row. -/
theorem conv_at {w : World} {N o n cap : Nat} {pre l : List UInt8} (h : RowAt w N (pre ++ l)) (ho : pre.length = o) (hn : l.length = n) :
    (convert 22 9 (.slice (some ⟨N, o, none⟩) n cap)).run Tryz.prog w = .ok (.string ⟨l.toArray⟩) w := by
  subst hn ho
  refine run_convert_bytes_back w 22 9 5 _ cap l Tryz.underlying22 Tryz.underlying5 Tryz.underlying9 ?_
  intro j hj
  have e : (⟨N, pre.length, none⟩ : Addr).add j = ⟨N, pre.length + j, none⟩ := by
    unfold Addr.add; split <;> simp_all
  rw [e, (h (pre.length + j) (by simp; omega)).1]
  simp

end Go.Proofs.YtanebchmeaomgaaGreatDoor
