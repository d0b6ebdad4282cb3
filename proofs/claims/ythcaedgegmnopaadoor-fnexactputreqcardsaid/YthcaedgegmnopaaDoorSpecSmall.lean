/-
  What the specification's l3HeadsText does; bytes that are made.
  What the program's putLines does.
  Two answers that are the same.
  What the program's calls on kinds of bytes do: isOf, isOneOf: each computes, and turns nothing in memory.
  What the specification's l1In does; a byte as an int.
  What the specification's own Plain does.
  What the specification's l1Blank and Trim do.
  What the specification's l3Val does.
  What the specification's l1Digit does.
  What l1Small and SmallName (the specification's) do.
  What the program's allOf does: whether all bytes of a text are of one of these kinds.
  What SmallName (the program's) does.
-/
import Derived.Test.YthcaedgegmnopaaDoorMathPut
import Derived.Test.YthcaedgegmnopaaDoorBoxReq
import Derived.Test.YthcaedgegmnopaaDoorByts
import Derived.Deep.RegionHeld3
import Derived.Lib.ConvBytes
import Derived.Lib.ItoaLen
import Derived.Test.YthcaedgegmnopaaDoorPutHead
import Derived.Test.YthcaedgegmnopaaDoorMathLines
import Derived.Test.YthcaedgegmnopaaDoorRows
import Derived.WalkKit
import Derived.Test.YthcaedgegmnopaaDoorMath
import Derived.WalkSpells
import Derived.WalkLawsBesides
import Derived.Deep.Light
import Derived.Test.YthcaedgegmnopaaDoorMathTrim
import Derived.Test.YthcaedgegmnopaaDoorHeads
import Derived.Test.YthcaedgegmnopaaDoorMathSmall
namespace Go.Proofs.YthcaedgegmnopaaDoor
open Go.RowKit M
set_option linter.unusedVariables false

theorem ret_string {a b : ByteArray} (h : a = b) : Ending.returned (.string a) = .returned (.string b) := by rw [h]

theorem join_head (l : List UInt8) (x y : ByteArray) : bytesOf l ++ x ++ ⟨#[58, 32]⟩ ++ y ++ ⟨#[13, 10]⟩ = bytesOf (l ++ hdTxt (x, y)) := by
  apply ByteArray.ext
  simp [bytesOf, hdTxt, crlf]

set_option maxHeartbeats 1000000 in
theorem l3HeadsText_any (a : Option Addr) (hs : List Hd) (cap B : Nat) (w : World) (h : Hds w B a hs) (hl : hs.length ≤ 1048576) (hsum : sumH hs ≤ 1048576) :
    Calls Tryd.prog 56 #[.slice a hs.length cap] w fun e w' => e = .returned (.string (bytesOf (hdsTxt hs))) ∧ ∃ n, w' = w.drewN n := by
  go_enter Tryd.func56, Tryd.ntmps56
  go_wp2
  go_loopw [3, 4] (fun s i wr => ∃ (k n : Nat) (t : ByteArray), k ≤ hs.length ∧ i = .int .i64 k ∧ s = .string t ∧ t = bytesOf (hdsTxt (hs.take k)) ∧ wr = w.drewN n) (fun _ i _ => hs.length - (intOf i).toNat)
  case atStart => exact ⟨0, 0, _, Nat.zero_le _, rfl, rfl, rfl, rfl⟩
  case round =>
    obtain ⟨k, n, t, hk, rfl, rfl, ht, rfl⟩ := hrel
    have htz : t.size ≤ 8388608 := by
      rw [ht, bytesOf_size, hdsTxt_len]
      have := sumH_take hs k
      rw [List.length_take]; omega
    have HT := hide ht
    clear ht
    by_cases hlt : k < hs.length
    · obtain ⟨b, o, rfl, hb, hc⟩ := h (by omega)
      have hcx := (hc k hlt).1
      have hcy := (hc k hlt).2
      have HS : Hid (hdsTxt (hs.take (k + 1)) = hdsTxt (hs.take k) ++ hdTxt hs[k]) := hdsTxt_snoc hs k hlt
      have hz1 : (hs[k]).1.size ≤ 1048576 := Nat.le_trans (sumH_mem hs _ (List.getElem_mem hlt)).1 hsum
      have hz2 : (hs[k]).2.size ≤ 1048576 := Nat.le_trans (sumH_mem hs _ (List.getElem_mem hlt)).2 hsum
      have hq1 : ¬ (9223372036854775807 < t.size + (hs[k]).1.size) := by omega
      have hq2 : ¬ (9223372036854775807 < t.size + (hs[k]).1.size + 2) := by omega
      have hq3 : ¬ (9223372036854775807 < t.size + (hs[k]).1.size + 2 + (hs[k]).2.size) := by omega
      have hq4 : ¬ (9223372036854775807 < t.size + (hs[k]).1.size + 2 + (hs[k]).2.size + 2) := by omega
      clear hc
      go_wp2
      go_quiet (fail)
      go_wp2
      go_roundw
      case rel => exact ⟨k + 1, n + nq, _, by omega, by go_num, rfl, by rw [HS.out, HT.out]; exact join_head _ _ _, rfl⟩
      case measure => simp [intOf]; omega
    · go_wp2
      go_ret
      exact ⟨ret_string (by rw [HT.out, List.take_of_length_le (by omega)]), n, rfl⟩

theorem below_bytesP (w : World) (s : ByteArray) : Below w.heap.size w (Lib.bytesWorld w 5 s) :=
  ⟨rfl, rfl, rfl, by rw [Lib.bytesWorld_size]; omega, fun k hk => Lib.bytesWorld_at_old w 5 s k hk⟩
theorem byt_bytes (w : World) (s : ByteArray) : Byt (Lib.bytesWorld w 5 s) (w.heap.size + 1) (some ⟨w.heap.size, 0, none⟩) s.data.toList := fun _ =>
  ⟨w.heap.size, 0, rfl, Nat.lt_succ_self _, fun j hj => by
    have e : s.data.toList.length = s.size := Array.length_toList
    rw [Nat.zero_add, Lib.bytesWorld_cell w 5 s j (by omega)]
    simp [List.getD, List.getElem?_eq_getElem hj]⟩

theorem len_line (n : Nat) : (⟨#[99, 111, 110, 116, 101, 110, 116, 45, 108, 101, 110, 103, 116, 104, 58, 32]⟩ : ByteArray) ++ ⟨(Lib.decDigits n).toArray⟩ ++ ⟨#[13, 10]⟩ = bytesOf (lenLine n) := by
  apply ByteArray.ext
  simp [bytesOf, lenLine, lenTag, crlf]

theorem dec_len (n : Nat) (h : n ≤ 1048576) : (Lib.decDigits n).length ≤ 20 := by
  rw [Lib.decDigits_length]
  exact Lib.nDigits_le20 n (by omega)
end Go.Proofs.YthcaedgegmnopaaDoor
namespace Go.Proofs.YthcaedgegmnopaaDoor
open Go.RowKit M
set_option linter.unusedVariables false

set_option maxRecDepth 100000 in
set_option maxHeartbeats 4000000 in
theorem putLines_any (top : ByteArray) (a : Option Addr) (hs : List Hd) (cap B : Nat) (a2 : Option Addr) (hs2 : List Hd) (cap2 B2 : Nat) (w : World) (h : Hds w B a hs) (hB : B ≤ w.heap.size) (h2 : Hds w B2 a2 hs2) (hB2 : B2 ≤ w.heap.size) (ht : top.size ≤ 4194000) (hl : hs.length ≤ 1048576) (hsum : sumH hs ≤ 1048576) (hl2 : hs2.length ≤ 16) (hsum2 : sumH hs2 ≤ 1048576) :
    Calls Tryd.prog 27 #[.string top, .slice a hs.length cap, .slice a2 hs2.length cap2] w fun e w' => (∃ v, e = .returned v ∧ OwnY w' w.heap.size v (linesTxt top.data.toList hs hs2) ∧ (linesTxt top.data.toList hs hs2).length ≤ 33554432) ∧ Below w.heap.size w w' := by
  have HH := hide h
  have HH2 := hide h2
  clear h h2
  obtain ⟨sx, hsx⟩ : ∃ sx, top ++ (⟨#[13, 10]⟩ : ByteArray) = sx := ⟨_, rfl⟩
  have hcv := Lib.run_convert_string_bytes (P := Tryd.prog) w 9 22 5 sx Tryd.underlying9 Tryd.underlying22 Tryd.underlying5
  have hsz : sx.size ≤ 4194304 := by
    rw [← hsx]
    simp only [ByteArray.size_append]
    have e3 : (⟨#[13, 10]⟩ : ByteArray).size = 2 := rfl
    omega
  have HSX : Hid (sx.data.toList = top.data.toList ++ crlf) := by
    show sx.data.toList = top.data.toList ++ crlf
    rw [← hsx]
    simp [crlf]
  have HO1 := hide (OwnY.made w sx (by omega))
  go_enter Tryd.func27, Tryd.ntmps27
  go_wp2
  clear hcv hsx
  go_loopw [7, 17] (fun bv i wr => ∃ (k : Nat) (l : List UInt8), k ≤ hs.length ∧ i = .int .i64 k ∧ l = top.data.toList ++ crlf ++ hdsTxt (hs.take k) ∧ OwnY wr w.heap.size bv l ∧ Below w.heap.size w wr) (fun _ i _ => hs.length - (intOf i).toNat)
  case atStart => exact ⟨0, sx.data.toList, Nat.zero_le _, rfl, by rw [HSX.out]; simp [hdsTxt], HO1.out, below_bytesP w sx⟩
  case round =>
    obtain ⟨k, l, hk, rfl, hL, ho, hbe⟩ := hrel
    have hlz : l.length ≤ 16777216 := by
      have e : sx.data.toList.length = sx.size := Array.length_toList
      rw [hL, List.length_append, ← HSX.out, e, hdsTxt_len]
      have := sumH_take hs k
      rw [List.length_take]; omega
    have HL := hide hL
    clear hL
    by_cases hlt : k < hs.length
    · obtain ⟨b, o, rfl, hb, hc⟩ := HH.out.below hbe hB (by omega)
      have hcx := (hc k hlt).1
      have hcy := (hc k hlt).2
      have HS : Hid (hdsTxt (hs.take (k + 1)) = hdsTxt (hs.take k) ++ hdTxt hs[k]) := hdsTxt_snoc hs k hlt
      have hz1 : (hs[k]).1.size ≤ 1048576 := Nat.le_trans (sumH_mem hs _ (List.getElem_mem hlt)).1 hsum
      have hz2 : (hs[k]).2.size ≤ 1048576 := Nat.le_trans (sumH_mem hs _ (List.getElem_mem hlt)).2 hsum
      have ba : Below wr.heap.size wr (wr.alloc (Obj.cells #[.string hs[k].1, .string hs[k].2] 55)) := (Below.refl _ _).alloc (Nat.le_refl _) _
      have HP := hide (putHead_any _ w.heap.size u7 l hs[k].1 hs[k].2 (ho.next ba) (Nat.le_trans hbe.size ba.size) (by omega) (by omega) (by omega))
      have ca := hide (hbe.trans (ba.mono hbe.size))
      clear hc ho ba
      go_wp2_with fail
      refine HP.out.mono ?_
      rintro e w2 ⟨⟨v2, rfl, ho2⟩, b2⟩
      have c2 := ca.out.trans b2
      have HO2 := hide ho2
      clear ho2 HP
      go_wp2
      go_roundw
      case rel => exact ⟨k + 1, _, by omega, by go_num, by rw [HS.out, HL.out, List.append_assoc], HO2.out, c2⟩
      case measure => simp [intOf]; omega
    · have HL2 : Hid (l = top.data.toList ++ crlf ++ hdsTxt hs) := by
        show l = _
        rw [HL.out, List.take_of_length_le (by omega)]
      have HO3 := hide ho
      clear ho HL
      go_wp2
      go_loopw [7, 27] (fun bv i wr2 => ∃ (j : Nat) (l2 : List UInt8), j ≤ hs2.length ∧ i = .int .i64 j ∧ l2 = top.data.toList ++ crlf ++ hdsTxt hs ++ hdsTxt (hs2.take j) ∧ OwnY wr2 w.heap.size bv l2 ∧ Below w.heap.size w wr2) (fun _ i _ => hs2.length - (intOf i).toNat)
      case atStart => exact ⟨0, l, Nat.zero_le _, rfl, by rw [HL2.out]; simp [hdsTxt], HO3.out, hbe⟩
      case round =>
        clear hbe HO3 hlz
        obtain ⟨j, l2, hj, rfl, hL, ho, hbe⟩ := hrel
        have hlz : l2.length ≤ 16777216 := by
          have e : sx.data.toList.length = sx.size := Array.length_toList
          rw [hL, List.length_append, List.length_append, ← HSX.out, e, hdsTxt_len, hdsTxt_len]
          have := sumH_take hs2 j
          rw [List.length_take]; omega
        have HL := hide hL
        clear hL
        by_cases hlt2 : j < hs2.length
        · obtain ⟨b, o, rfl, hb, hc⟩ := HH2.out.below hbe hB2 (by omega)
          have hcx := (hc j hlt2).1
          have hcy := (hc j hlt2).2
          have HS : Hid (hdsTxt (hs2.take (j + 1)) = hdsTxt (hs2.take j) ++ hdTxt hs2[j]) := hdsTxt_snoc hs2 j hlt2
          have hz1 : (hs2[j]).1.size ≤ 1048576 := Nat.le_trans (sumH_mem hs2 _ (List.getElem_mem hlt2)).1 hsum2
          have hz2 : (hs2[j]).2.size ≤ 1048576 := Nat.le_trans (sumH_mem hs2 _ (List.getElem_mem hlt2)).2 hsum2
          have ba : Below wr.heap.size wr (wr.alloc (Obj.cells #[.string hs2[j].1, .string hs2[j].2] 55)) := (Below.refl _ _).alloc (Nat.le_refl _) _
          have HP := hide (putHead_any _ w.heap.size u7 l2 hs2[j].1 hs2[j].2 (ho.next ba) (Nat.le_trans hbe.size ba.size) (by omega) (by omega) (by omega))
          have ca := hide (hbe.trans (ba.mono hbe.size))
          clear hc ho ba
          go_wp2_with fail
          refine HP.out.mono ?_
          rintro e w2 ⟨⟨v2, rfl, ho2⟩, b2⟩
          have c2 := ca.out.trans b2
          have HO2 := hide ho2
          clear ho2 HP
          go_wp2
          go_roundw
          case rel => exact ⟨j + 1, _, by omega, by go_num, by rw [HS.out, HL.out, List.append_assoc], HO2.out, c2⟩
          case measure => simp [intOf]; omega
        · have HO3 := hide ho
          go_wp2_with (at_builtin; refine wp_append_text rfl _ _ rfl w.heap.size u7 l2 rfl HO3.out ⟨#[13, 10]⟩ rfl ?c1 ?c2 ?_)
          case c1 => have e2 : (⟨#[13, 10]⟩ : ByteArray).size = 2 := rfl; omega
          case c2 => exact hbe.size
          intro v4 w4 ho4 hg4 hb4
          have c4 := hbe.trans (HO3.out.grown hbe.size hg4)
          have HE4 : l2 ++ (⟨#[13, 10]⟩ : ByteArray).data.toList = linesTxt top.data.toList hs hs2 := by
            show l2 ++ [13, 10] = linesTxt top.data.toList hs hs2
            rw [HL.out, List.take_of_length_le (by omega)]
            simp [linesTxt, crlf]
          have hLz : (linesTxt top.data.toList hs hs2).length ≤ 33554432 := by
            rw [← HE4, List.length_append]
            have e : (⟨#[13, 10]⟩ : ByteArray).data.toList.length = 2 := rfl
            omega
          rw [HE4] at ho4
          have HO4 := hide ho4
          clear HE4 ho4 hg4 hb4 ho
          go_wp2
          go_ret
          exact ⟨⟨_, rfl, HO4.out, hLz⟩, c4⟩
end Go.Proofs.YthcaedgegmnopaaDoor
namespace Go.Proofs.YthcaedgegmnopaaDoor

theorem ret_bool {a b : Bool} (h : a = b) : Ending.returned (.bool a) = .returned (.bool b) := by rw [h]
end Go.Proofs.YthcaedgegmnopaaDoor
namespace Go.Proofs.YthcaedgegmnopaaDoor
open Go.RowKit M

set_option maxHeartbeats 400000 in
theorem isOf_any (c k : Int) (w : World) :
    Calls Tryd.prog 108 #[.int .u8 c, .int .i64 k] w fun e w' => e = .returned (.bool (isB c k)) ∧ w' = w := by
  go_enter Tryd.func108, Tryd.ntmps108
  go_wp2
  all_goals
    go_ret
    refine ⟨ret_bool ?_, rfl⟩
    go_light
    unfold isB
    simp_all
    try omega

set_option maxHeartbeats 400000 in
theorem isOneOf_any (c : Int) (ks : List Int) (n b o cap : Nat) (w : World) (hn : ks.length = n) (hl : ks.length ≤ maxLen)
    (hc : ∀ i, i < ks.length → w.cell? ⟨b, o + i, none⟩ = some (.int .i64 (ks.getD i 0))) :
    Calls Tryd.prog 93 #[.int .u8 c, .slice (some ⟨b, o, none⟩) n cap] w fun e w' => e = .returned (.bool (anyB c ks)) ∧ w' = w := by
  subst hn
  unfold maxLen at hl
  go_enter Tryd.func93, Tryd.ntmps93
  go_wp2
  go_loop [9] (fun i => ∃ k : Nat, k ≤ ks.length ∧ i = .int .i64 k ∧ anyB c (ks.take k) = false) (fun i => ks.length - (intOf i).toNat)
  case atStart => exact ⟨0, Nat.zero_le _, rfl, rfl⟩
  case round =>
    obtain ⟨k, hk, rfl, hn⟩ := hrel
    have HN : Hid (anyB c (ks.take k) = false) := hn; clear hn
    by_cases hlt : k < ks.length
    · have hcx := hc k hlt
      go_wp2_with (go_at_call 108; refine (isOf_any _ _ _).mono ?_; rintro e w' ⟨rfl, rfl⟩)
      · go_ret
        exact ⟨ret_bool (by rw [anyB_of c ks k hlt (by assumption)]), rfl⟩
      · go_round
        case rel => exact ⟨k + 1, by omega, by go_num, anyB_snoc c ks k hlt HN.out (by assumption)⟩
        case measure => simp [intOf]; omega
    · go_wp2
      go_ret
      exact ⟨ret_bool (by rw [← HN.out, List.take_of_length_le (by omega)]), rfl⟩
theorem cells1 (w : World) (a : Int) (T : TypeId) : ∀ i, i < [a].length → (w.alloc (Obj.cells #[.int .i64 a] T)).cell? ⟨w.heap.size, 0 + i, none⟩ = some (.int .i64 ([a].getD i 0)) := by
  intro i hi
  match i, hi with
  | 0, _ => simp

theorem cells3 (w : World) (n : Nat) (a b c : Int) (T : TypeId) (hn : w.heap.size = n) : ∀ i, i < [a, b, c].length → (w.alloc (Obj.cells #[.int .i64 a, .int .i64 b, .int .i64 c] T)).cell? ⟨n, 0 + i, none⟩ = some (.int .i64 ([a, b, c].getD i 0)) := by
  subst hn
  intro i hi
  match i, hi with
  | 0, _ => simp
  | 1, _ => simp
  | 2, _ => simp
end Go.Proofs.YthcaedgegmnopaaDoor
namespace Go.Proofs.YthcaedgegmnopaaDoor
open Go.RowKit M

set_option maxHeartbeats 400000 in
theorem l1In_any (x a b : Int) (w : World) :
    Calls Tryd.prog 44 #[.int .i64 x, .int .i64 a, .int .i64 b] w fun e w' => e = .returned (.bool (inB x a b)) ∧ w' = w := by
  go_enter Tryd.func44, Tryd.ntmps44
  go_wp2
  all_goals
    go_ret
    refine ⟨ret_bool ?_, rfl⟩
    go_light
    unfold inB
    simp_all
    try omega

theorem wrap64_u8 (c : UInt8) : wrap64 (c.toNat : Int) = c.toNat := by
  have := c.toNat_lt
  unfold wrap64
  omega
end Go.Proofs.YthcaedgegmnopaaDoor
namespace Go.Proofs.YthcaedgegmnopaaDoor
open Go.RowKit M

set_option maxHeartbeats 400000 in
theorem specPlain_any (s : ByteArray) (w : World) (hs : s.size ≤ maxLen) :
    Calls Tryd.prog 85 #[.string s] w fun e w' => e = .returned (.bool (allB s.data.toList [0])) ∧ w' = w := by
  unfold maxLen at hs
  go_enter Tryd.func85, Tryd.ntmps85
  go_wp2
  go_loop [3] (fun i => ∃ k : Nat, k ≤ s.size ∧ i = .int .i64 k ∧ allB (s.data.toList.take k) [0] = true) (fun i => s.size - (intOf i).toNat)
  case atStart => exact ⟨0, Nat.zero_le _, rfl, rfl⟩
  case round =>
    obtain ⟨k, hk, rfl, hn⟩ := hrel
    have HN : Hid (allB (s.data.toList.take k) [0] = true) := hn; clear hn
    by_cases hlt : k < s.size
    · go_wp2_with (go_at_call 44; refine (l1In_any _ _ _ _).mono ?_; rintro e w' ⟨rfl, rfl⟩; rw [wrap64_u8, inB_plain])
      · go_ret
        exact ⟨ret_bool (by rw [allB_not s [0] k hlt (by assumption)]), rfl⟩
      · go_round
        case rel => exact ⟨k + 1, by omega, by go_num, allB_snoc s [0] k hlt HN.out (by assumption)⟩
        case measure => simp [intOf]; omega
    · go_wp2
      go_ret
      exact ⟨ret_bool (by rw [← HN.out, take_all s k hlt]), rfl⟩

end Go.Proofs.YthcaedgegmnopaaDoor
namespace Go.Proofs.YthcaedgegmnopaaDoor
open Go.RowKit M

def strLen : Value → Nat | .string t => t.size | _ => 0

set_option maxHeartbeats 400000 in
theorem l1Blank_any (c : UInt8) (w : World) :
    Calls Tryd.prog 97 #[.int .u8 c.toNat] w fun e w' => e = .returned (.bool (bl c)) ∧ w' = w := by
  go_enter Tryd.func97, Tryd.ntmps97
  go_wp2
  all_goals
    go_ret
    refine ⟨ret_bool ?_, rfl⟩
    go_light
    unfold bl isB
    simp_all

set_option maxHeartbeats 1000000 in
theorem specTrim_any (s : ByteArray) (w : World) (hs : s.size ≤ maxLen) :
    Calls Tryd.prog 86 #[.string s] w fun e w' => (∃ t : ByteArray, e = .returned (.string t) ∧ t.data.toList = trimL s.data.toList) ∧ w' = w := by
  unfold maxLen at hs
  go_enter Tryd.func86, Tryd.ntmps86
  go_wp2
  go_loop [0] (fun v => ∃ t : ByteArray, v = .string t ∧ t.size ≤ s.size ∧ trimL t.data.toList = trimL s.data.toList) (fun v => strLen v)
  case atStart => exact ⟨s, rfl, Nat.le_refl _, rfl⟩
  case round =>
    obtain ⟨t, rfl, ht, hn⟩ := hrel
    have HN : Hid (trimL t.data.toList = trimL s.data.toList) := hn; clear hn
    by_cases h0 : 0 < t.size
    · cases hb : bl t[0]
      · go_wp2_with (go_at_call 97; refine (l1Blank_any _ _).mono ?_; rintro e w' ⟨rfl, rfl⟩; rw [hb])
        go_loop [0] (fun v => ∃ u : ByteArray, v = .string u ∧ u.size ≤ s.size ∧ trimL u.data.toList = trimL s.data.toList ∧ ∀ h : 0 < u.size, bl u[0] = false) (fun v => strLen v)
        case atStart => exact ⟨t, rfl, ht, HN.out, fun _ => hb⟩
        case round =>
          clear hb
          obtain ⟨u, rfl, hu, hn, hf⟩ := hrel
          have HU : Hid (trimL u.data.toList = trimL s.data.toList) := hn; clear hn
          have HF : Hid (∀ h : 0 < u.size, bl u[0] = false) := hf; clear hf
          by_cases h1 : 0 < u.size
          · cases hb1 : bl u[u.size - 1]
            · go_wp2_with (go_at_call 97; refine (l1Blank_any _ _).mono ?_; rintro e w' ⟨rfl, rfl⟩; rw [hb1])
              go_ret
              exact ⟨⟨u, rfl, step_done u _ h1 (HF.out h1) hb1 HU.out⟩, rfl⟩
            · go_wp2_with (go_at_call 97; refine (l1Blank_any _ _).mono ?_; rintro e w' ⟨rfl, rfl⟩; rw [hb1])
              go_round
              case rel => exact ⟨_, rfl, by rw [size_extract _ _ _ (by omega)]; omega, step_back u _ h1 hb1 HU.out, step_back_head u h1 (HF.out h1)⟩
              case measure => simp only [strLen]; rw [size_extract _ _ _ (by omega)]; omega
          · go_wp2
            go_ret
            exact ⟨⟨u, rfl, step_none u _ h1 HU.out⟩, rfl⟩
      · go_wp2_with (go_at_call 97; refine (l1Blank_any _ _).mono ?_; rintro e w' ⟨rfl, rfl⟩; rw [hb])
        go_round
        case rel => exact ⟨_, rfl, by rw [size_extract _ _ _ (Nat.le_refl _)]; omega, step_front t _ h0 hb HN.out⟩
        case measure => simp only [strLen]; rw [size_extract _ _ _ (Nat.le_refl _)]; omega
    · go_wp2
      go_loop [0] (fun v => v = .string t) (fun v => strLen v)
      case atStart => rfl
      case round =>
        subst hrel
        go_wp2
        go_ret
        exact ⟨⟨t, rfl, step_none t _ h0 HN.out⟩, rfl⟩
end Go.Proofs.YthcaedgegmnopaaDoor
namespace Go.Proofs.YthcaedgegmnopaaDoor
open Go.RowKit M
set_option linter.unusedVariables false

theorem trim_same {t s : ByteArray} (h : t.data.toList = trimL s.data.toList) : (t.toList == s.toList) = decide (trimL s.data.toList = s.data.toList) := by
  rw [ByteArray.toList_eq, ByteArray.toList_eq, h]
  by_cases e : trimL s.data.toList = s.data.toList
  · simp [e]
  · simp [e]

set_option maxHeartbeats 400000 in
theorem l3Val_any (s : ByteArray) (w : World) (hs : s.size ≤ maxLen) :
    Calls Tryd.prog 69 #[.string s] w fun e w' => e = .returned (.bool (valB s)) ∧ w' = w := by
  have hs' := hs
  unfold maxLen at hs'
  by_cases h1 : s.size ≤ 60
  · have h1' : (s.size : Int) ≤ 60 := by omega
    cases h2 : allB s.data.toList [0]
    · have HE : Hid (valB s = false) := by show valB s = false; simp [valB, h2]
      go_enter Tryd.func69, Tryd.ntmps69
      go_wp2_with (go_at_call 85; refine (specPlain_any s _ hs).mono ?_; rintro e w' ⟨rfl, rfl⟩; rw [h2])
      go_ret
      exact ⟨ret_bool HE.out.symm, rfl⟩
    · have HE : Hid (valB s = decide (trimL s.data.toList = s.data.toList)) := by show valB s = _; simp [valB, h2, h1]
      go_enter Tryd.func69, Tryd.ntmps69
      go_wp2_with (first | (go_at_call 85; refine (specPlain_any s _ hs).mono ?_; rintro e w' ⟨rfl, rfl⟩; rw [h2]) | (go_at_call 86; refine (specTrim_any s _ hs).mono ?_; rintro e w' ⟨⟨t, rfl, ht⟩, rfl⟩; have HT := hide ht; clear ht))
      go_ret
      exact ⟨ret_bool (by rw [HE.out, ← trim_same HT.out]), rfl⟩
  · have h1' : ¬ (s.size : Int) ≤ 60 := by omega
    have HE : Hid (valB s = false) := by show valB s = false; simp [valB, h1]
    go_enter Tryd.func69, Tryd.ntmps69
    go_wp2
    go_ret
    exact ⟨ret_bool HE.out.symm, rfl⟩
end Go.Proofs.YthcaedgegmnopaaDoor
namespace Go.Proofs.YthcaedgegmnopaaDoor
open Go.RowKit M

set_option maxHeartbeats 400000 in
theorem l1Digit_any (c : UInt8) (w : World) :
    Calls Tryd.prog 65 #[.int .u8 c.toNat] w fun e w' => e = .returned (.bool (isB c.toNat 4)) ∧ w' = w := by
  go_enter Tryd.func65, Tryd.ntmps65
  go_wp2_with (go_at_call 44; refine (l1In_any _ _ _ _).mono ?_; rintro e w' ⟨rfl, rfl⟩; rw [wrap64_u8, inB_digit])
  go_ret
  exact ⟨rfl, rfl⟩
end Go.Proofs.YthcaedgegmnopaaDoor
namespace Go.Proofs.YthcaedgegmnopaaDoor
open Go.RowKit M

set_option maxHeartbeats 400000 in
theorem l1Small_any (c : UInt8) (w : World) :
    Calls Tryd.prog 84 #[.int .u8 c.toNat] w fun e w' => e = .returned (.bool (isB c.toNat 2)) ∧ w' = w := by
  go_enter Tryd.func84, Tryd.ntmps84
  go_wp2_with (go_at_call 44; refine (l1In_any _ _ _ _).mono ?_; rintro e w' ⟨rfl, rfl⟩; rw [wrap64_u8, inB_small])
  go_ret
  exact ⟨rfl, rfl⟩

set_option maxHeartbeats 1000000 in
theorem specSmallName_any (s : ByteArray) (w : World) (hs : s.size ≤ maxLen) :
    Calls Tryd.prog 68 #[.string s] w fun e w' => e = .returned (.bool (smB s.data.toList)) ∧ w' = w := by
  unfold maxLen at hs
  go_enter Tryd.func68, Tryd.ntmps68
  go_wp2
  go_loop [3] (fun i => ∃ k : Nat, k ≤ s.size ∧ i = .int .i64 k ∧ ∀ j (hj : j < s.size), j < k → okAt j (s[j].toNat : Int) = true) (fun i => s.size - (intOf i).toNat)
  case atStart => exact ⟨0, Nat.zero_le _, rfl, fun _ _ h => absurd h (Nat.not_lt_zero _)⟩
  case round =>
    obtain ⟨k, hk, rfl, hn⟩ := hrel
    have HN : Hid (∀ j (hj : j < s.size), j < k → okAt j (s[j].toNat : Int) = true) := hn; clear hn
    by_cases hlt : k < s.size
    · have hnext : okAt k (s[k].toNat : Int) = true → ∀ j (hj : j < s.size), j < k + 1 → okAt j (s[j].toNat : Int) = true := by
        intro ho j hj hjk
        by_cases e : j = k
        · subst e; exact ho
        · exact HN.out j hj (by omega)
      have HX : Hid (okAt k (s[k].toNat : Int) = true → ∀ j (hj : j < s.size), j < k + 1 → okAt j (s[j].toNat : Int) = true) := hnext
      clear hnext
      go_wp2_with (first | (go_at_call 84; refine (l1Small_any _ _).mono ?_; rintro e w' ⟨rfl, rfl⟩) | (go_at_call 65; refine (l1Digit_any _ _).mono ?_; rintro e w' ⟨rfl, rfl⟩))
      · go_round
        case rel => exact ⟨k + 1, by omega, by go_num, HX.out (ok1 (by assumption))⟩
        case measure => simp [intOf]; omega
      · go_ret
        exact ⟨ret_bool (smB_not s k hlt (no2 (by assumption) (by assumption))).symm, rfl⟩
      · go_round
        case rel => exact ⟨k + 1, by omega, by go_num, HX.out (ok3 (by assumption) (by assumption))⟩
        case measure => simp [intOf]; omega
      · go_ret
        exact ⟨ret_bool (smB_not s k hlt (no4 (by assumption) (by assumption) (by assumption) (by assumption))).symm, rfl⟩
      · go_round
        case rel => exact ⟨k + 1, by omega, by go_num, HX.out (ok5 (by assumption) (by assumption))⟩
        case measure => simp [intOf]; omega
    · go_wp2_with (go_at_call 44; refine (l1In_any _ _ _ _).mono ?_; rintro e w' ⟨rfl, rfl⟩)
      go_ret
      exact ⟨ret_bool (by rw [smB_all s (fun i hi => HN.out i hi (by omega))]), rfl⟩
end Go.Proofs.YthcaedgegmnopaaDoor
namespace Go.Proofs.YthcaedgegmnopaaDoor
open Go.RowKit M

set_option maxHeartbeats 400000 in
theorem allOf_any (s : ByteArray) (ks : List Int) (n b o cap : Nat) (w : World) (hn : ks.length = n) (hs : s.size ≤ maxLen) (hl : ks.length ≤ maxLen)
    (hc : ∀ i, i < ks.length → w.cell? ⟨b, o + i, none⟩ = some (.int .i64 (ks.getD i 0))) :
    Calls Tryd.prog 78 #[.string s, .slice (some ⟨b, o, none⟩) n cap] w fun e w' => e = .returned (.bool (allB s.data.toList ks)) ∧ w' = w := by
  subst hn
  unfold maxLen at hs
  have HC : Hid (∀ i, i < ks.length → w.cell? ⟨b, o + i, none⟩ = some (.int .i64 (ks.getD i 0))) := hc
  clear hc
  go_enter Tryd.func78, Tryd.ntmps78
  go_wp2
  go_loop [5] (fun i => ∃ k : Nat, k ≤ s.size ∧ i = .int .i64 k ∧ allB (s.data.toList.take k) ks = true) (fun i => s.size - (intOf i).toNat)
  case atStart => exact ⟨0, Nat.zero_le _, rfl, rfl⟩
  case round =>
    obtain ⟨k, hk, rfl, hn⟩ := hrel
    have HN : Hid (allB (s.data.toList.take k) ks = true) := hn; clear hn
    by_cases hlt : k < s.size
    · go_wp2_with (go_at_call 93; refine (isOneOf_any _ ks _ b o cap _ rfl hl HC.out).mono ?_; rintro e w' ⟨rfl, rfl⟩)
      · go_ret
        exact ⟨ret_bool (by rw [allB_not s ks k hlt (by assumption)]), rfl⟩
      · go_round
        case rel => exact ⟨k + 1, by omega, by go_num, allB_snoc s ks k hlt HN.out (by assumption)⟩
        case measure => simp [intOf]; omega
    · go_wp2
      go_ret
      exact ⟨ret_bool (by rw [← HN.out, take_all s k hlt]), rfl⟩
end Go.Proofs.YthcaedgegmnopaaDoor
namespace Go.Proofs.YthcaedgegmnopaaDoor
open Go.RowKit M

set_option maxHeartbeats 400000 in
theorem smallName_any (s : ByteArray) (w : World) (hs : s.size ≤ maxLen) :
    Calls Tryd.prog 81 #[.string s] w fun e w' => e = .returned (.bool (smB s.data.toList)) ∧ Below w.heap.size w w' := by
  have hs' := hs
  unfold maxLen at hs'
  by_cases h0 : s.size < 1
  · have := smB_long s (.inl h0)
    have H : Hid (smB s.data.toList = false) := this
    clear this
    go_enter Tryd.func81, Tryd.ntmps81
    go_wp2
    go_ret
    exact ⟨ret_bool H.out.symm, Below.refl _ _⟩
  · by_cases h20 : 20 < s.size
    · have H : Hid (smB s.data.toList = false) := smB_long s (.inr h20)
      go_enter Tryd.func81, Tryd.ntmps81
      go_wp2
      go_ret
      exact ⟨ret_bool H.out.symm, Below.refl _ _⟩
    · have h1 : 0 < s.size := by omega
      have H : Hid (smB s.data.toList = (isB ((s[0]).toNat : Int) 2 && allB s.data.toList [2, 4, 7])) := smB_impl s h1 (by omega)
      cases hsm : isB ((s[0]).toNat : Int) 2
      · go_enter Tryd.func81, Tryd.ntmps81
        go_wp2_with (go_at_call 93; refine (isOneOf_any _ [2] 1 _ 0 1 _ rfl (by decide) (cells1 w 2 100)).mono ?_; rintro e w' ⟨rfl, rfl⟩; rw [anyB_one, hsm])
        go_ret
        exact ⟨ret_bool (by rw [H.out, hsm]; rfl), (Below.refl _ _).alloc (Nat.le_refl _) _⟩
      · go_enter Tryd.func81, Tryd.ntmps81
        go_wp2_with (first | (go_at_call 93; refine (isOneOf_any _ [2] 1 _ 0 1 _ rfl (by decide) (cells1 w 2 100)).mono ?_; rintro e w' ⟨rfl, rfl⟩; rw [anyB_one, hsm]) | (go_at_call 78; refine (allOf_any s [2, 4, 7] 3 _ 0 3 _ rfl hs (by decide) ?c1).mono ?_; rotate_left; rintro e w' ⟨rfl, rfl⟩))
        case c1 => exact cells3 _ _ 2 4 7 100 (by simp)
        go_ret
        exact ⟨ret_bool (by rw [H.out, hsm]; rfl), ((Below.refl _ _).alloc (Nat.le_refl _) _).alloc (by simp) _⟩
end Go.Proofs.YthcaedgegmnopaaDoor
