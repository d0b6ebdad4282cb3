/-
  What strings.Cut does at one byte.
  What strings.Clone does.
  Two answers that are the same.
  What the program's calls on kinds of bytes do: isOf, isOneOf: each computes, and turns nothing in memory.
  What the specification's l1In does; a byte as an int.
  What the specification's l1Digit does.
  What l1Small and SmallName (the specification's) do.
  What the program's allOf does: whether all bytes of a text are of one of these kinds.
  What SmallName (the program's) does.
  What the program's cutName does.
  Small facts that what is parsed wants.
  What the specification's ParseNum does.
-/
import Derived.Test.YtcgmokjnjmefpaaGreatDoorMathMark2
import Derived.Test.YtcgmokjnjmefpaaGreatDoorHide
import Derived.Test.YtcgmokjnjmefpaaGreatDoorShelf
import Derived.WalkKit
import Derived.WalkSpells
import Derived.WalkLawsBesides
import Derived.Deep.Light
import Derived.Deep.QuietTactic
import Derived.BigQuiet
import Derived.Test.YtcgmokjnjmefpaaGreatDoorRows
import Derived.Test.YtcgmokjnjmefpaaGreatDoorMath
import Derived.Test.YtcgmokjnjmefpaaGreatDoorMathSmall
import Derived.Test.YtcgmokjnjmefpaaGreatDoorMathPieces2
import Derived.Deep.RegionHeld3
import Derived.Lib.ConvBytes
import Derived.Test.YtcgmokjnjmefpaaGreatDoorMathParse
namespace Go.Proofs.YtcgmokjnjmefpaaGreatDoor
open Go.RowKit M
set_option linter.unusedVariables false

theorem bytes_of (s : ByteArray) (l : List UInt8) (h : s.data.toList = l) : s = bytesOf l := by
  apply ByteArray.ext; apply Array.ext'; rw [h]; rfl
theorem below_drewC (w : World) (n : Nat) : Below w.heap.size w (w.drewN n) := ⟨rfl, rfl, rfl, Nat.le_refl _, fun _ _ => rfl⟩
theorem ret_three {a a' b b' : ByteArray} {c c' : Bool} (h1 : a = a') (h2 : b = b') (h3 : c = c') : Ending.returned (.tuple #[.string a, .string b, .bool c]) = .returned (.tuple #[.string a', .string b', .bool c']) := by rw [h1, h2, h3]

set_option maxHeartbeats 1000000 in
theorem cutLite_one (s : ByteArray) (c : UInt8) (w : World) (hs : s.size ≤ maxLen) :
    Calls Tryz.prog 195 #[.string s, .string ⟨#[c]⟩] w fun e w' => e = .returned (.tuple #[.string (bytesOf (upTo c s.data.toList)), .string (bytesOf (fromB c s.data.toList).tail), .bool (!(fromB c s.data.toList).isEmpty)]) ∧ Below w.heap.size w w' := by
  unfold maxLen at hs
  have el : s.data.toList.length = s.size := Array.length_toList
  have HI := hide (fun W : World => Tryz.stringslite_Index_one s c W)
  have hix : Lib.indexByte s.data.toList c = if fromB c s.data.toList = [] then -1 else ((upTo c s.data.toList).length : Int) := indexByte_upTo _ c
  have hup := upTo_end c s.data.toList
  by_cases hf : fromB c s.data.toList = []
  · rw [if_pos hf] at hix
    rw [hix] at HI
    have e := upTo_from c s.data.toList
    rw [hf, List.append_nil] at e
    have HR := hide (ret_three (bytes_of s _ e.symm) (show (⟨#[]⟩ : ByteArray) = bytesOf (fromB c s.data.toList).tail by rw [hf]; rfl) (show false = !(fromB c s.data.toList).isEmpty by rw [hf]; rfl))
    clear hix hf e hup el
    go_enter Tryz.func195, Tryz.ntmps195
    go_wp2_with fail
    refine (HI.out w).mono ?_
    rintro e w1 ⟨rfl, hw1⟩
    obtain rfl := hw1.symm
    go_wp2
    go_ret3
    exact ⟨HR.out, Below.refl _ _⟩
  · rw [if_neg hf] at hix
    rw [hix] at HI
    have hlt : (upTo c s.data.toList).length < s.size := by
      have h1 := hup.1
      have h2 : (upTo c s.data.toList).length ≠ s.data.toList.length := fun e => hf (hup.2.1 e)
      omega
    have x1 := extract_upTo s c 0
    have x2 := drop_upTo s c 0
    rw [List.drop_zero, Nat.zero_add] at x1 x2
    have HR := hide (ret_three (bytes_of _ _ x1) (bytes_of _ _ ((extract_rest s ((upTo c s.data.toList).length + 1)).trans x2)) (show true = !(fromB c s.data.toList).isEmpty by cases hq : fromB c s.data.toList with | nil => exact absurd hq hf | cons _ _ => rfl))
    obtain ⟨n, hn⟩ : ∃ n, (upTo c s.data.toList).length = n := ⟨_, rfl⟩
    rw [hn] at HI hlt HR
    have hn1 : (n : Int) + 1 ≤ s.size := by omega
    have hn2 : (n : Int) ≤ s.size := by omega
    have hw : IntKind.i64.wrap ((n : Int) + 1) = (n : Int) + 1 := by rw [IntKind.wrap_i64]; omega
    clear hix hf hup el x1 x2 hn
    go_enter Tryz.func195, Tryz.ntmps195
    go_wp2_with fail
    refine (HI.out w).mono ?_
    rintro e w1 ⟨rfl, hw1⟩
    obtain rfl := hw1.symm
    go_wp2
    go_quiet (fail)
    go_wp2
    go_ret3
    exact ⟨HR.out, below_drewC w nq⟩

set_option maxHeartbeats 1000000 in
theorem cut_any (s : ByteArray) (c : UInt8) (w : World) (hs : s.size ≤ maxLen) :
    Calls Tryz.prog 180 #[.string s, .string ⟨#[c]⟩] w fun e w' => e = .returned (.tuple #[.string (bytesOf (upTo c s.data.toList)), .string (bytesOf (fromB c s.data.toList).tail), .bool (!(fromB c s.data.toList).isEmpty)]) ∧ Below w.heap.size w w' := by
  go_enter Tryz.func180, Tryz.ntmps180
  go_wp2_with fail
  refine (cutLite_one s c w hs).mono ?_
  rintro e w1 ⟨rfl, b1⟩
  go_wp2
  go_ret3
  exact ⟨rfl, b1⟩
end Go.Proofs.YtcgmokjnjmefpaaGreatDoor
namespace Go.Proofs.YtcgmokjnjmefpaaGreatDoor
open Go.RowKit

set_option maxHeartbeats 400000 in
theorem clone_any (s : ByteArray) (w : World) (hs : s.size ≤ 281474976710656) :
    Calls Tryz.prog 137 #[.string s] w fun e w' => e = .returned (.string s) ∧ Below w.heap.size w w' := by
  go_enter Tryz.func137, Tryz.ntmps137
  go_wp2_with (go_at_call 169; refine (Tryz.stringslite_Clone s _ hs).mono ?_; rintro e w1 ⟨rfl, hb1⟩)
  go_ret
  exact ⟨rfl, hb1⟩
end Go.Proofs.YtcgmokjnjmefpaaGreatDoor
namespace Go.Proofs.YtcgmokjnjmefpaaGreatDoor

theorem ret_bool {a b : Bool} (h : a = b) : Ending.returned (.bool a) = .returned (.bool b) := by rw [h]
end Go.Proofs.YtcgmokjnjmefpaaGreatDoor
namespace Go.Proofs.YtcgmokjnjmefpaaGreatDoor
open Go.RowKit M

set_option maxHeartbeats 400000 in
theorem isOf_any (c k : Int) (w : World) :
    Calls Tryz.prog 168 #[.int .u8 c, .int .i64 k] w fun e w' => e = .returned (.bool (isB c k)) ∧ w' = w := by
  go_enter Tryz.func168, Tryz.ntmps168
  go_wp2
  all_goals
    go_ret
    refine ⟨ret_bool ?_, rfl⟩
    go_light
    unfold isB
    simp_all
    try omega

set_option maxHeartbeats 400000 in
theorem isOneOf_any (c : Int) (ks : List Int) (n b o cap : Nat) (w : World) (hn : ks.length = n) (hl : ks.length ≤ maxLen)
    (hc : ∀ i, i < ks.length → w.cell? ⟨b, o + i, none⟩ = some (.int .i64 (ks.getD i 0))) :
    Calls Tryz.prog 136 #[.int .u8 c, .slice (some ⟨b, o, none⟩) n cap] w fun e w' => e = .returned (.bool (anyB c ks)) ∧ w' = w := by
  subst hn
  unfold maxLen at hl
  go_enter Tryz.func136, Tryz.ntmps136
  go_wp2
  go_loop [9] (fun i => ∃ k : Nat, k ≤ ks.length ∧ i = .int .i64 k ∧ anyB c (ks.take k) = false) (fun i => ks.length - (intOf i).toNat)
  case atStart => exact ⟨0, Nat.zero_le _, rfl, rfl⟩
  case round =>
    obtain ⟨k, hk, rfl, hn⟩ := hrel
    have HN : Hid (anyB c (ks.take k) = false) := hn; clear hn
    by_cases hlt : k < ks.length
    · have hcx := hc k hlt
      go_wp2_with (go_at_call 168; refine (isOf_any _ _ _).mono ?_; rintro e w' ⟨rfl, rfl⟩)
      · go_ret
        exact ⟨ret_bool (by rw [anyB_of c ks k hlt (by assumption)]), rfl⟩
      · go_round
        case rel => exact ⟨k + 1, by omega, by go_num, anyB_snoc c ks k hlt HN.out (by assumption)⟩
        case measure => simp [intOf]; omega
    · go_wp2
      go_ret
      exact ⟨ret_bool (by rw [← HN.out, List.take_of_length_le (by omega)]), rfl⟩
theorem cells1 (w : World) (a : Int) (T : TypeId) : ∀ i, i < [a].length → (w.alloc (Obj.cells #[.int .i64 a] T)).cell? ⟨w.heap.size, 0 + i, none⟩ = some (.int .i64 ([a].getD i 0)) := by
  intro i hi
  match i, hi with
  | 0, _ => simp

theorem cells3 (w : World) (n : Nat) (a b c : Int) (T : TypeId) (hn : w.heap.size = n) : ∀ i, i < [a, b, c].length → (w.alloc (Obj.cells #[.int .i64 a, .int .i64 b, .int .i64 c] T)).cell? ⟨n, 0 + i, none⟩ = some (.int .i64 ([a, b, c].getD i 0)) := by
  subst hn
  intro i hi
  match i, hi with
  | 0, _ => simp
  | 1, _ => simp
  | 2, _ => simp
end Go.Proofs.YtcgmokjnjmefpaaGreatDoor
namespace Go.Proofs.YtcgmokjnjmefpaaGreatDoor
open Go.RowKit M

set_option maxHeartbeats 400000 in
theorem l1In_any (x a b : Int) (w : World) :
    Calls Tryz.prog 51 #[.int .i64 x, .int .i64 a, .int .i64 b] w fun e w' => e = .returned (.bool (inB x a b)) ∧ w' = w := by
  go_enter Tryz.func51, Tryz.ntmps51
  go_wp2
  all_goals
    go_ret
    refine ⟨ret_bool ?_, rfl⟩
    go_light
    unfold inB
    simp_all
    try omega

theorem wrap64_u8 (c : UInt8) : wrap64 (c.toNat : Int) = c.toNat := by
  have := c.toNat_lt
  unfold wrap64
  omega
end Go.Proofs.YtcgmokjnjmefpaaGreatDoor
namespace Go.Proofs.YtcgmokjnjmefpaaGreatDoor
open Go.RowKit M

set_option maxHeartbeats 400000 in
theorem l1Digit_any (c : UInt8) (w : World) :
    Calls Tryz.prog 164 #[.int .u8 c.toNat] w fun e w' => e = .returned (.bool (isB c.toNat 4)) ∧ w' = w := by
  go_enter Tryz.func164, Tryz.ntmps164
  go_wp2_with (go_at_call 51; refine (l1In_any _ _ _ _).mono ?_; rintro e w' ⟨rfl, rfl⟩; rw [wrap64_u8, inB_digit])
  go_ret
  exact ⟨rfl, rfl⟩
end Go.Proofs.YtcgmokjnjmefpaaGreatDoor
namespace Go.Proofs.YtcgmokjnjmefpaaGreatDoor
open Go.RowKit M

set_option maxHeartbeats 400000 in
theorem l1Small_any (c : UInt8) (w : World) :
    Calls Tryz.prog 163 #[.int .u8 c.toNat] w fun e w' => e = .returned (.bool (isB c.toNat 2)) ∧ w' = w := by
  go_enter Tryz.func163, Tryz.ntmps163
  go_wp2_with (go_at_call 51; refine (l1In_any _ _ _ _).mono ?_; rintro e w' ⟨rfl, rfl⟩; rw [wrap64_u8, inB_small])
  go_ret
  exact ⟨rfl, rfl⟩

set_option maxHeartbeats 1000000 in
theorem specSmallName_any (s : ByteArray) (w : World) (hs : s.size ≤ maxLen) :
    Calls Tryz.prog 125 #[.string s] w fun e w' => e = .returned (.bool (smB s.data.toList)) ∧ w' = w := by
  unfold maxLen at hs
  go_enter Tryz.func125, Tryz.ntmps125
  go_wp2
  go_loop [3] (fun i => ∃ k : Nat, k ≤ s.size ∧ i = .int .i64 k ∧ ∀ j (hj : j < s.size), j < k → okAt j (s[j].toNat : Int) = true) (fun i => s.size - (intOf i).toNat)
  case atStart => exact ⟨0, Nat.zero_le _, rfl, fun _ _ h => absurd h (Nat.not_lt_zero _)⟩
  case round =>
    obtain ⟨k, hk, rfl, hn⟩ := hrel
    have HN : Hid (∀ j (hj : j < s.size), j < k → okAt j (s[j].toNat : Int) = true) := hn; clear hn
    by_cases hlt : k < s.size
    · have hnext : okAt k (s[k].toNat : Int) = true → ∀ j (hj : j < s.size), j < k + 1 → okAt j (s[j].toNat : Int) = true := by
        intro ho j hj hjk
        by_cases e : j = k
        · subst e; exact ho
        · exact HN.out j hj (by omega)
      have HX : Hid (okAt k (s[k].toNat : Int) = true → ∀ j (hj : j < s.size), j < k + 1 → okAt j (s[j].toNat : Int) = true) := hnext
      clear hnext
      go_wp2_with (first | (go_at_call 163; refine (l1Small_any _ _).mono ?_; rintro e w' ⟨rfl, rfl⟩) | (go_at_call 164; refine (l1Digit_any _ _).mono ?_; rintro e w' ⟨rfl, rfl⟩))
      · go_round
        case rel => exact ⟨k + 1, by omega, by go_num, HX.out (ok1 (by assumption))⟩
        case measure => simp [intOf]; omega
      · go_ret
        exact ⟨ret_bool (smB_not s k hlt (no2 (by assumption) (by assumption))).symm, rfl⟩
      · go_round
        case rel => exact ⟨k + 1, by omega, by go_num, HX.out (ok3 (by assumption) (by assumption))⟩
        case measure => simp [intOf]; omega
      · go_ret
        exact ⟨ret_bool (smB_not s k hlt (no4 (by assumption) (by assumption) (by assumption) (by assumption))).symm, rfl⟩
      · go_round
        case rel => exact ⟨k + 1, by omega, by go_num, HX.out (ok5 (by assumption) (by assumption))⟩
        case measure => simp [intOf]; omega
    · go_wp2_with (go_at_call 51; refine (l1In_any _ _ _ _).mono ?_; rintro e w' ⟨rfl, rfl⟩)
      go_ret
      exact ⟨ret_bool (by rw [smB_all s (fun i hi => HN.out i hi (by omega))]), rfl⟩
end Go.Proofs.YtcgmokjnjmefpaaGreatDoor
namespace Go.Proofs.YtcgmokjnjmefpaaGreatDoor
open Go.RowKit M

set_option maxHeartbeats 400000 in
theorem allOf_any (s : ByteArray) (ks : List Int) (n b o cap : Nat) (w : World) (hn : ks.length = n) (hs : s.size ≤ maxLen) (hl : ks.length ≤ maxLen)
    (hc : ∀ i, i < ks.length → w.cell? ⟨b, o + i, none⟩ = some (.int .i64 (ks.getD i 0))) :
    Calls Tryz.prog 118 #[.string s, .slice (some ⟨b, o, none⟩) n cap] w fun e w' => e = .returned (.bool (allB s.data.toList ks)) ∧ w' = w := by
  subst hn
  unfold maxLen at hs
  have HC : Hid (∀ i, i < ks.length → w.cell? ⟨b, o + i, none⟩ = some (.int .i64 (ks.getD i 0))) := hc
  clear hc
  go_enter Tryz.func118, Tryz.ntmps118
  go_wp2
  go_loop [5] (fun i => ∃ k : Nat, k ≤ s.size ∧ i = .int .i64 k ∧ allB (s.data.toList.take k) ks = true) (fun i => s.size - (intOf i).toNat)
  case atStart => exact ⟨0, Nat.zero_le _, rfl, rfl⟩
  case round =>
    obtain ⟨k, hk, rfl, hn⟩ := hrel
    have HN : Hid (allB (s.data.toList.take k) ks = true) := hn; clear hn
    by_cases hlt : k < s.size
    · go_wp2_with (go_at_call 136; refine (isOneOf_any _ ks _ b o cap _ rfl hl HC.out).mono ?_; rintro e w' ⟨rfl, rfl⟩)
      · go_ret
        exact ⟨ret_bool (by rw [allB_not s ks k hlt (by assumption)]), rfl⟩
      · go_round
        case rel => exact ⟨k + 1, by omega, by go_num, allB_snoc s ks k hlt HN.out (by assumption)⟩
        case measure => simp [intOf]; omega
    · go_wp2
      go_ret
      exact ⟨ret_bool (by rw [← HN.out, take_all s k hlt]), rfl⟩
end Go.Proofs.YtcgmokjnjmefpaaGreatDoor
namespace Go.Proofs.YtcgmokjnjmefpaaGreatDoor
open Go.RowKit M

set_option maxHeartbeats 400000 in
theorem smallName_any (s : ByteArray) (w : World) (hs : s.size ≤ maxLen) :
    Calls Tryz.prog 138 #[.string s] w fun e w' => e = .returned (.bool (smB s.data.toList)) ∧ Below w.heap.size w w' := by
  have hs' := hs
  unfold maxLen at hs'
  by_cases h0 : s.size < 1
  · have := smB_long s (.inl h0)
    have H : Hid (smB s.data.toList = false) := this
    clear this
    go_enter Tryz.func138, Tryz.ntmps138
    go_wp2
    go_ret
    exact ⟨ret_bool H.out.symm, Below.refl _ _⟩
  · by_cases h20 : 20 < s.size
    · have H : Hid (smB s.data.toList = false) := smB_long s (.inr h20)
      go_enter Tryz.func138, Tryz.ntmps138
      go_wp2
      go_ret
      exact ⟨ret_bool H.out.symm, Below.refl _ _⟩
    · have h1 : 0 < s.size := by omega
      have H : Hid (smB s.data.toList = (isB ((s[0]).toNat : Int) 2 && allB s.data.toList [2, 4, 7])) := smB_impl s h1 (by omega)
      cases hsm : isB ((s[0]).toNat : Int) 2
      · go_enter Tryz.func138, Tryz.ntmps138
        go_wp2_with (go_at_call 136; refine (isOneOf_any _ [2] 1 _ 0 1 _ rfl (by decide) (cells1 w 2 168)).mono ?_; rintro e w' ⟨rfl, rfl⟩; rw [anyB_one, hsm])
        go_ret
        exact ⟨ret_bool (by rw [H.out, hsm]; rfl), (Below.refl _ _).alloc (Nat.le_refl _) _⟩
      · go_enter Tryz.func138, Tryz.ntmps138
        go_wp2_with (first | (go_at_call 136; refine (isOneOf_any _ [2] 1 _ 0 1 _ rfl (by decide) (cells1 w 2 168)).mono ?_; rintro e w' ⟨rfl, rfl⟩; rw [anyB_one, hsm]) | (go_at_call 118; refine (allOf_any s [2, 4, 7] 3 _ 0 3 _ rfl hs (by decide) ?c1).mono ?_; rotate_left; rintro e w' ⟨rfl, rfl⟩))
        case c1 => exact cells3 _ _ 2 4 7 168 (by simp)
        go_ret
        exact ⟨ret_bool (by rw [H.out, hsm]; rfl), ((Below.refl _ _).alloc (Nat.le_refl _) _).alloc (by simp) _⟩
end Go.Proofs.YtcgmokjnjmefpaaGreatDoor
namespace Go.Proofs.YtcgmokjnjmefpaaGreatDoor
open Go.RowKit M
set_option linter.unusedVariables false

set_option maxRecDepth 100000 in
set_option maxHeartbeats 2000000 in
theorem cutName_any (s : ByteArray) (w : World) (hs : s.size ≤ 1099511627776) :
    Calls Tryz.prog 159 #[.string s] w fun e w' => e = .returned (.tuple #[.string (bytesOf (nmL s.data.toList)), .string (bytesOf (nmR s.data.toList)), .bool (smB (nmL s.data.toList))]) ∧ Below w.heap.size w w' := by
  have hA := fun k => nm_at s 0 k (Nat.zero_le _)
  have hT := nm_take s 0
  have hD := nm_drop s 0
  have hZ := nm_size s 0 (Nat.zero_le _)
  rw [List.drop_zero, Nat.zero_add] at hT hD hZ
  have HR := hide (ret_three (bytes_of _ _ hT) (bytes_of _ _ ((extract_rest s _).trans hD)) (show smB (s.extract 0 (nmL s.data.toList).length).data.toList = smB (nmL s.data.toList) by rw [hT]))
  have HA : Hid (∀ k, (hk : k < s.size) → k ≤ (nmL s.data.toList).length → nameP s[k] = decide (k < (nmL s.data.toList).length)) := fun k hk hle => by
    have := hA k hk
    rw [List.drop_zero, Nat.zero_add] at this
    exact this hle
  obtain ⟨m, hm⟩ : ∃ m, (nmL s.data.toList).length = m := ⟨_, rfl⟩
  rw [hm] at HR HA hZ
  have hx : (s.extract 0 m).size ≤ maxLen := by rw [ByteArray.size_extract]; unfold maxLen; omega
  have hx2 : (s.extract 0 m).size ≤ 281474976710656 := by rw [ByteArray.size_extract]; omega
  have HC := hide (fun W : World => clone_any (s.extract 0 m) W hx2)
  have HS := hide (fun W : World => smallName_any (s.extract 0 m) W hx)
  obtain ⟨bq, hbq⟩ : ∃ bq, smB (s.extract 0 m).data.toList = bq := ⟨_, rfl⟩
  rw [hbq] at HS HR
  clear hA hT hD hm hx hx2 hbq
  go_enter Tryz.func159, Tryz.ntmps159
  go_wp2
  go_loopw [5] (fun i wr => ∃ k : Nat, k ≤ m ∧ i = .int .i64 k ∧ Below w.heap.size w wr) (fun i _ => m - (intOf i).toNat)
  case atStart => exact ⟨0, Nat.zero_le _, rfl, Below.refl _ _⟩
  case round =>
    obtain ⟨k, hk, rfl, hbe⟩ := hrel
    by_cases hkm : k < m
    · have hks : k < s.size := by omega
      have hks' : (k : Int) < s.size := by omega
      have hn : anyB (s[k].toNat : Int) [2, 4, 7] = true := by have := HA.out k hks hk; rw [decide_eq_true hkm] at this; exact this
      go_wp2_with (go_at_call 136; refine (isOneOf_any _ [2, 4, 7] 3 _ 0 3 _ rfl (by decide) (cells3 _ _ 2 4 7 168 rfl)).mono ?_; rintro e w1 ⟨rfl, rfl⟩; rw [hn])
      go_roundw
      case rel => exact ⟨k + 1, by omega, by go_num, hbe.alloc hbe.size _⟩
      case measure => simp [intOf]; omega
    · obtain rfl : k = m := by omega
      have hc : (k : Int) ≤ s.size := by omega
      have hc0 : (0 : Int) ≤ k := by omega
      by_cases hks : k < s.size
      · have hks' : (k : Int) < s.size := by omega
        have hn : anyB (s[k].toNat : Int) [2, 4, 7] = false := by have := HA.out k hks hk; rw [decide_eq_false hkm] at this; exact this
        go_wp2_with (go_at_call 136; refine (isOneOf_any _ [2, 4, 7] 3 _ 0 3 _ rfl (by decide) (cells3 _ _ 2 4 7 168 rfl)).mono ?_; rintro e w1 ⟨rfl, rfl⟩; rw [hn])
        go_region_held3 (fun _ => True) (trivial) ((first
          | (go_at_call 137; refine (HC.out _).mono ?_; rintro e w2 ⟨rfl, b2⟩)
          | (go_at_call 138; refine (HS.out _).mono ?_; rintro e w3 ⟨rfl, b3⟩)))
        all_goals
          go_wp2
          go_ret3
          exact ⟨HR.out, (hbe.alloc hbe.size _).drew.trans ((b2.trans (b3.mono b2.size)).mono (by have := hbe.size; simp; omega))⟩
      · have hks' : ¬ (k : Int) < s.size := by omega
        go_wp2
        go_region_held3 (fun _ => True) (trivial) ((first
          | (go_at_call 137; refine (HC.out _).mono ?_; rintro e w2 ⟨rfl, b2⟩)
          | (go_at_call 138; refine (HS.out _).mono ?_; rintro e w3 ⟨rfl, b3⟩)))
        all_goals
          go_wp2
          go_ret3
          exact ⟨HR.out, hbe.drew.trans ((b2.trans (b3.mono b2.size)).mono hbe.size)⟩
end Go.Proofs.YtcgmokjnjmefpaaGreatDoor
namespace Go.Proofs.YtcgmokjnjmefpaaGreatDoor
open Go.RowKit

theorem ret_two {a b : Int} {x y : Bool} (h : (a, x) = (b, y)) : Ending.returned (.tuple #[.int .i64 a, .bool x]) = .returned (.tuple #[.int .i64 b, .bool y]) := by
  cases h; rfl

theorem below_bytes (w : World) (e : TypeId) (s : ByteArray) : Below w.heap.size w (Lib.bytesWorld w e s) :=
  ⟨rfl, rfl, rfl, by rw [Lib.bytesWorld_size]; omega, fun k hk => Lib.bytesWorld_at_old w e s k hk⟩

theorem ret_int {k : IntKind} {a b : Int} (h : a = b) : Ending.returned (.int k a) = .returned (.int k b) := by rw [h]
end Go.Proofs.YtcgmokjnjmefpaaGreatDoor
namespace Go.Proofs.YtcgmokjnjmefpaaGreatDoor
open Go.RowKit M

set_option maxHeartbeats 1000000 in
theorem specParseNum_any (s : ByteArray) (most : Int) (w : World) (hs : s.size ≤ maxLen) :
    Calls Tryz.prog 165 #[.string s, .int .i64 most] w fun e w' => e = .returned (.tuple #[.int .i64 (parseNum s.data.toList most).1, .bool (parseNum s.data.toList most).2]) ∧ w' = w := by
  have ell := len_list s
  have EL : Hid (s.data.toList.length = s.size) := ell
  clear ell
  unfold maxLen at hs
  go_enter Tryz.func165, Tryz.ntmps165
  go_wp2
  go_loop [6, 7] (fun n i => ∃ k : Nat, k ≤ s.size ∧ k ≤ 8 ∧ i = .int .i64 k ∧ n = .int .i64 (decVal (s.data.toList.take k)) ∧ digs (s.data.toList.take k) = true) (fun _ i => s.size - (intOf i).toNat)
  case atStart => exact ⟨0, Nat.zero_le _, Nat.zero_le _, rfl, rfl, rfl⟩
  case round =>
    obtain ⟨k, hk, hk8, rfl, rfl, hn⟩ := hrel
    have HN : Hid (digs (s.data.toList.take k) = true) := hn
    have hv : decVal (s.data.toList.take k) < 100000000 := by
      have h1 := decVal_lt _ hn
      have h2 : (s.data.toList.take k).length ≤ k := List.length_take_le _ _
      have h3 := Nat.pow_le_pow_right (show 0 < 10 by decide) h2
      have h4 := pow_le8 hk8
      omega
    clear hn
    by_cases hlt : k < s.size
    · by_cases hl8 : k < 8
      · cases hb : isB ((s[k]).toNat : Int) 4
        · go_wp2_with (go_at_call 164; refine (l1Digit_any _ _).mono ?_; rintro e w' ⟨rfl, rfl⟩; rw [hb])
          go_ret2
          refine ⟨ret_two ?_, rfl⟩
          rw [parseNum_no (not_digs (digs_not s k hlt hb))]
        · have hc := isB4 hb
          have HV : Hid (decVal (s.data.toList.take (k + 1)) = decVal (s.data.toList.take k) * 10 + (s[k].toNat - 48)) := decVal_step s k hlt
          generalize decVal (s.data.toList.take k) = v at *
          go_wp2_with (go_at_call 164; refine (l1Digit_any _ _).mono ?_; rintro e w' ⟨rfl, rfl⟩; rw [hb])
          go_round
          case rel =>
            refine ⟨k + 1, by omega, by omega, by go_num, ?_, digs_snoc s k hlt HN.out hb⟩
            rw [HV.out]
            congr 1
            omega
          case measure => simp [intOf]; omega
      · have hin : inB (s.size : Int) 1 7 = false := by simp [inB]; omega
        go_wp2_with (go_at_call 51; refine (l1In_any _ _ _ _).mono ?_; rintro e w' ⟨rfl, rfl⟩; rw [hin])
        go_ret2
        exact ⟨ret_two (by rw [parseNum_no (not_size hin)]), rfl⟩
    · have HD : Hid (digs s.data.toList = true) := by
        have := HN.out
        rwa [take_all s k hlt] at this
      rw [take_all s k hlt] at hv ⊢
      cases hin : inB (s.size : Int) 1 7
      · go_wp2_with (go_at_call 51; refine (l1In_any _ _ _ _).mono ?_; rintro e w' ⟨rfl, rfl⟩; rw [hin])
        go_ret2
        exact ⟨ret_two (by rw [parseNum_no (not_size hin)]), rfl⟩
      · have h0 : 0 < s.size := by simp [inB] at hin; omega
        have hk1 : ¬ (k : Int) < s.size := by omega
        by_cases h1 : 1 < s.size
        · have h1' : (1 : Int) < s.size := by omega
          cases hz : (((s[0]).toNat : Int) == 48)
          · by_cases hm : most < (decVal s.data.toList : Int)
            · have HP := parseNum_no (not_most hm)
              have HQ : Hid (parseNum s.data.toList most = (0, false)) := HP
              clear HP
              go_wp2_with (go_at_call 51; refine (l1In_any _ _ _ _).mono ?_; rintro e w' ⟨rfl, rfl⟩; rw [hin])
              go_ret2
              exact ⟨ret_two (by rw [HQ.out]), rfl⟩
            · have HQ : Hid (parseNum s.data.toList most = ((decVal s.data.toList : Int), true)) := parseNum_yes (is_ok h0 hin HD.out (fun _ => hz) hm)
              go_wp2_with (go_at_call 51; refine (l1In_any _ _ _ _).mono ?_; rintro e w' ⟨rfl, rfl⟩; rw [hin])
              go_ret2
              exact ⟨ret_two (by rw [HQ.out]), rfl⟩
          · have HQ : Hid (parseNum s.data.toList most = (0, false)) := parseNum_no (not_nought h0 h1 hz)
            go_wp2_with (go_at_call 51; refine (l1In_any _ _ _ _).mono ?_; rintro e w' ⟨rfl, rfl⟩; rw [hin])
            go_ret2
            exact ⟨ret_two (by rw [HQ.out]), rfl⟩
        · have h1' : ¬ (1 : Int) < s.size := by omega
          by_cases hm : most < (decVal s.data.toList : Int)
          · have HQ : Hid (parseNum s.data.toList most = (0, false)) := parseNum_no (not_most hm)
            go_wp2_with (go_at_call 51; refine (l1In_any _ _ _ _).mono ?_; rintro e w' ⟨rfl, rfl⟩; rw [hin])
            go_ret2
            exact ⟨ret_two (by rw [HQ.out]), rfl⟩
          · have HQ : Hid (parseNum s.data.toList most = ((decVal s.data.toList : Int), true)) := parseNum_yes (is_ok h0 hin HD.out (fun h => absurd h h1) hm)
            go_wp2_with (go_at_call 51; refine (l1In_any _ _ _ _).mono ?_; rintro e w' ⟨rfl, rfl⟩; rw [hin])
            go_ret2
            exact ⟨ret_two (by rw [HQ.out]), rfl⟩
end Go.Proofs.YtcgmokjnjmefpaaGreatDoor
