/-
  What the specification's Lower does.
  Small facts that what is parsed wants.
  What the specification's ParseNum does.
  The heads of lines, each that may be taken: what the specification reads.
-/
import Derived.Test.YtnoijfnpchihoaaGreatDoorOwnStrs
import Derived.Test.YtnoijfnpchihoaaGreatDoorSpecPl
import Derived.Test.YtnoijfnpchihoaaGreatDoorRows
import Derived.WalkKit
import Derived.WalkSpells
import Derived.WalkLawsBesides
import Derived.Lib.ConvBytes
import Derived.Test.YtnoijfnpchihoaaGreatDoorMathHex
import Derived.Test.YtnoijfnpchihoaaGreatDoorAllOf
import Derived.Test.YtnoijfnpchihoaaGreatDoorMathRead
namespace Go.Proofs.YtnoijfnpchihoaaGreatDoor
open Go.RowKit M

set_option maxHeartbeats 1000000 in
theorem specLower_any (s : ByteArray) (w : World) (hs : s.size ≤ 140737488355328) :
    Calls Tryz.prog 112 #[.string s] w fun e w' => e = .returned (.string ⟨(lowL s.data.toList).toArray⟩) ∧ Below w.heap.size w w' := by
  go_enter Tryz.func112, Tryz.ntmps112
  go_wp2
  go_loopw [3, 4] (fun v i wr => ∃ k : Nat, k ≤ s.size ∧ i = .int .i64 k ∧ wr.ownsRow w.heap.size 5 1 v k (Lib.byteCells (lowL (s.data.toList.take k))) ∧ Below w.heap.size w wr) (fun _ i _ => s.size - (intOf i).toNat)
  case atStart => exact ⟨0, Nat.zero_le _, rfl, World.ownsRow_made w #[] 0 (Nat.le_refl _) (by decide) rfl, (Below.refl _ _).alloc (Nat.le_refl _) _⟩
  case round =>
    obtain ⟨k, hk, rfl, hown, hbe⟩ := hrel
    by_cases hlt : k < s.size
    · have HL : Hid (lowL (s.data.toList.take (k + 1)) = lowL (s.data.toList.take k) ++ [lowB s[k]]) := lowL_snoc s k hlt
      cases hb : isB ((s[k]).toNat : Int) 3
      · go_wp2_with (first | (go_at_call 131; refine (l1Large_any _ _).mono ?_; rintro e w' ⟨rfl, rfl⟩; rw [hb]) | (at_builtin; refine wp_append_byte rfl _ _ rfl w.heap.size _ k _ rfl (hown.alloc _) _ (lowB s[k]) rfl ?c1 ?c2 ?c3 ?_))
        case c1 => rw [lowB_no _ hb]; simp
        case c2 => omega
        case c3 => have := hbe.size; simp; omega
        intro v1 w1 ho1 hb1
        rw [← HL.out] at ho1
        go_wp2
        go_roundw
        case rel => exact ⟨k + 1, by omega, by go_num, ho1, (hbe.alloc hbe.size _).trans hb1⟩
        case measure => simp [intOf]; omega
      · have hc := isB3 hb
        go_wp2_with (first | (go_at_call 131; refine (l1Large_any _ _).mono ?_; rintro e w' ⟨rfl, rfl⟩; rw [hb]) | (at_builtin; refine wp_append_byte rfl _ _ rfl w.heap.size _ k _ rfl (hown.alloc _) _ (lowB s[k]) rfl ?c1 ?c2 ?c3 ?_))
        case c1 => rw [lowB_yes _ hb]; simp
        case c2 => omega
        case c3 => have := hbe.size; simp; omega
        intro v1 w1 ho1 hb1
        rw [← HL.out] at ho1
        go_wp2
        go_roundw
        case rel => exact ⟨k + 1, by omega, by go_num, ho1, (hbe.alloc hbe.size _).trans hb1⟩
        case measure => simp [intOf]; omega
    · have hcv := conv_own hown
      go_wp2
      go_ret
      exact ⟨ret_str (by rw [take_all s k hlt]), hbe⟩
end Go.Proofs.YtnoijfnpchihoaaGreatDoor
namespace Go.Proofs.YtnoijfnpchihoaaGreatDoor
open Go.RowKit

theorem ret_two {a b : Int} {x y : Bool} (h : (a, x) = (b, y)) : Ending.returned (.tuple #[.int .i64 a, .bool x]) = .returned (.tuple #[.int .i64 b, .bool y]) := by
  cases h; rfl

theorem below_bytes (w : World) (e : TypeId) (s : ByteArray) : Below w.heap.size w (Lib.bytesWorld w e s) :=
  ⟨rfl, rfl, rfl, by rw [Lib.bytesWorld_size]; omega, fun k hk => Lib.bytesWorld_at_old w e s k hk⟩

theorem ret_int {k : IntKind} {a b : Int} (h : a = b) : Ending.returned (.int k a) = .returned (.int k b) := by rw [h]
end Go.Proofs.YtnoijfnpchihoaaGreatDoor
namespace Go.Proofs.YtnoijfnpchihoaaGreatDoor
open Go.RowKit M

set_option maxHeartbeats 1000000 in
theorem specParseNum_any (s : ByteArray) (most : Int) (w : World) (hs : s.size ≤ maxLen) :
    Calls Tryz.prog 116 #[.string s, .int .i64 most] w fun e w' => e = .returned (.tuple #[.int .i64 (parseNum s.data.toList most).1, .bool (parseNum s.data.toList most).2]) ∧ w' = w := by
  have ell := len_list s
  have EL : Hid (s.data.toList.length = s.size) := ell
  clear ell
  unfold maxLen at hs
  go_enter Tryz.func116, Tryz.ntmps116
  go_wp2
  go_loop [6, 7] (fun n i => ∃ k : Nat, k ≤ s.size ∧ k ≤ 8 ∧ i = .int .i64 k ∧ n = .int .i64 (decVal (s.data.toList.take k)) ∧ digs (s.data.toList.take k) = true) (fun _ i => s.size - (intOf i).toNat)
  case atStart => exact ⟨0, Nat.zero_le _, Nat.zero_le _, rfl, rfl, rfl⟩
  case round =>
    obtain ⟨k, hk, hk8, rfl, rfl, hn⟩ := hrel
    have HN : Hid (digs (s.data.toList.take k) = true) := hn
    have hv : decVal (s.data.toList.take k) < 100000000 := by
      have h1 := decVal_lt _ hn
      have h2 : (s.data.toList.take k).length ≤ k := List.length_take_le _ _
      have h3 := Nat.pow_le_pow_right (show 0 < 10 by decide) h2
      have h4 := pow_le8 hk8
      omega
    clear hn
    by_cases hlt : k < s.size
    · by_cases hl8 : k < 8
      · cases hb : isB ((s[k]).toNat : Int) 4
        · go_wp2_with (go_at_call 134; refine (l1Digit_any _ _).mono ?_; rintro e w' ⟨rfl, rfl⟩; rw [hb])
          go_ret2
          refine ⟨ret_two ?_, rfl⟩
          rw [parseNum_no (not_digs (digs_not s k hlt hb))]
        · have hc := isB4 hb
          have HV : Hid (decVal (s.data.toList.take (k + 1)) = decVal (s.data.toList.take k) * 10 + (s[k].toNat - 48)) := decVal_step s k hlt
          generalize decVal (s.data.toList.take k) = v at *
          go_wp2_with (go_at_call 134; refine (l1Digit_any _ _).mono ?_; rintro e w' ⟨rfl, rfl⟩; rw [hb])
          go_round
          case rel =>
            refine ⟨k + 1, by omega, by omega, by go_num, ?_, digs_snoc s k hlt HN.out hb⟩
            rw [HV.out]
            congr 1
            omega
          case measure => simp [intOf]; omega
      · have hin : inB (s.size : Int) 1 7 = false := by simp [inB]; omega
        go_wp2_with (go_at_call 61; refine (l1In_any _ _ _ _).mono ?_; rintro e w' ⟨rfl, rfl⟩; rw [hin])
        go_ret2
        exact ⟨ret_two (by rw [parseNum_no (not_size hin)]), rfl⟩
    · have HD : Hid (digs s.data.toList = true) := by
        have := HN.out
        rwa [take_all s k hlt] at this
      rw [take_all s k hlt] at hv ⊢
      cases hin : inB (s.size : Int) 1 7
      · go_wp2_with (go_at_call 61; refine (l1In_any _ _ _ _).mono ?_; rintro e w' ⟨rfl, rfl⟩; rw [hin])
        go_ret2
        exact ⟨ret_two (by rw [parseNum_no (not_size hin)]), rfl⟩
      · have h0 : 0 < s.size := by simp [inB] at hin; omega
        have hk1 : ¬ (k : Int) < s.size := by omega
        by_cases h1 : 1 < s.size
        · have h1' : (1 : Int) < s.size := by omega
          cases hz : (((s[0]).toNat : Int) == 48)
          · by_cases hm : most < (decVal s.data.toList : Int)
            · have HP := parseNum_no (not_most hm)
              have HQ : Hid (parseNum s.data.toList most = (0, false)) := HP
              clear HP
              go_wp2_with (go_at_call 61; refine (l1In_any _ _ _ _).mono ?_; rintro e w' ⟨rfl, rfl⟩; rw [hin])
              go_ret2
              exact ⟨ret_two (by rw [HQ.out]), rfl⟩
            · have HQ : Hid (parseNum s.data.toList most = ((decVal s.data.toList : Int), true)) := parseNum_yes (is_ok h0 hin HD.out (fun _ => hz) hm)
              go_wp2_with (go_at_call 61; refine (l1In_any _ _ _ _).mono ?_; rintro e w' ⟨rfl, rfl⟩; rw [hin])
              go_ret2
              exact ⟨ret_two (by rw [HQ.out]), rfl⟩
          · have HQ : Hid (parseNum s.data.toList most = (0, false)) := parseNum_no (not_nought h0 h1 hz)
            go_wp2_with (go_at_call 61; refine (l1In_any _ _ _ _).mono ?_; rintro e w' ⟨rfl, rfl⟩; rw [hin])
            go_ret2
            exact ⟨ret_two (by rw [HQ.out]), rfl⟩
        · have h1' : ¬ (1 : Int) < s.size := by omega
          by_cases hm : most < (decVal s.data.toList : Int)
          · have HQ : Hid (parseNum s.data.toList most = (0, false)) := parseNum_no (not_most hm)
            go_wp2_with (go_at_call 61; refine (l1In_any _ _ _ _).mono ?_; rintro e w' ⟨rfl, rfl⟩; rw [hin])
            go_ret2
            exact ⟨ret_two (by rw [HQ.out]), rfl⟩
          · have HQ : Hid (parseNum s.data.toList most = ((decVal s.data.toList : Int), true)) := parseNum_yes (is_ok h0 hin HD.out (fun h => absurd h h1) hm)
            go_wp2_with (go_at_call 61; refine (l1In_any _ _ _ _).mono ?_; rintro e w' ⟨rfl, rfl⟩; rw [hin])
            go_ret2
            exact ⟨ret_two (by rw [HQ.out]), rfl⟩
end Go.Proofs.YtnoijfnpchihoaaGreatDoor
namespace Go.Proofs.YtnoijfnpchihoaaGreatDoor
open M
set_option linter.unusedVariables false

/-- What a line gives. -/
def okLine (l : List UInt8) : Option Hd :=
  match headS l with
  | none => none
  | some h => if h.1 = lenName ∧ numOk h = false then none else some h
/-- What all of them give. -/
def okLines : List (List UInt8) → Option (List Hd)
  | [] => some []
  | l :: ls => match okLine l with
    | none => none
    | some h => (okLines ls).map (h :: ·)
theorem okLines_snoc : ∀ (ls : List (List UInt8)) (l : List UInt8) (hs : List Hd), okLines ls = some hs → okLines (ls ++ [l]) = (okLine l).map fun h => hs ++ [h]
  | [], l, hs, h => by
    simp [okLines] at h
    subst h
    simp only [List.nil_append, okLines]
    cases okLine l <;> rfl
  | x :: ls, l, hs, h => by
    rw [okLines] at h
    simp only [List.cons_append, okLines]
    cases hx : okLine x with
    | none => rw [hx] at h; cases h
    | some y =>
      rw [hx] at h
      obtain ⟨q, hq, rfl⟩ := Option.map_eq_some_iff.1 h
      simp only
      rw [okLines_snoc ls l q hq]
      cases okLine l <;> rfl
theorem okLines_bad : ∀ (ls ms : List (List UInt8)), okLines ls = none → okLines (ls ++ ms) = none
  | [], ms, h => by cases h
  | x :: ls, ms, h => by
    rw [okLines] at h
    simp only [List.cons_append, okLines]
    cases hx : okLine x with
    | none => rfl
    | some y =>
      rw [hx] at h
      simp only at h ⊢
      rw [okLines_bad ls ms (by cases e : okLines ls with | none => rfl | some q => rw [e] at h; cases h)]
      rfl
theorem lens_cons (h : Hd) (hs : List Hd) : lensOf (h :: hs) = if h.1 = lenName then h :: lensOf hs else lensOf hs := by
  unfold lensOf
  rw [List.filter_cons]
  by_cases e : h.1 = lenName <;> simp [e]
/-- They are the heads, each with a number where it tells a length. -/
theorem okLines_is : ∀ (ls : List (List UInt8)), okLines ls = (match headsS ls with | none => none | some hs => if (lensOf hs).all numOk then some hs else none)
  | [] => rfl
  | l :: ls => by
    simp only [okLines, headsS, okLine]
    cases hl : headS l with
    | none => rfl
    | some h =>
      simp only
      rw [okLines_is ls]
      by_cases e : h.1 = lenName
      · cases hn : numOk h
        · simp only [e, and_self, if_true]
          cases headsS ls with
          | none => rfl
          | some hs => simp [lensOf, e, hn]
        · simp only [e, Bool.true_eq_false, and_false, if_false]
          cases headsS ls with
          | none => rfl
          | some hs =>
            have : (lensOf (h :: hs)).all numOk = (lensOf hs).all numOk := by rw [lens_cons, if_pos e, List.all_cons, hn, Bool.true_and]
            simp only [Option.map_some, this]
            cases (lensOf hs).all numOk <;> rfl
      · simp only [e, false_and, if_false]
        cases headsS ls with
        | none => rfl
        | some hs =>
          have : lensOf (h :: hs) = lensOf hs := by rw [lens_cons, if_neg e]
          simp only [Option.map_some, this]
          cases (lensOf hs).all numOk <;> rfl
/-- The code of what stands ahead of a body, as the specification reads it. -/
def readC (t : List UInt8) : Int :=
  match readS t with
  | none => 400
  | some (m, p, hs) => frameC hs
end Go.Proofs.YtnoijfnpchihoaaGreatDoor
