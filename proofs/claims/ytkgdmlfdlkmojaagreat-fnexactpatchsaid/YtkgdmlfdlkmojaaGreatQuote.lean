/-
  What strings.Clone does.
  What impl.copyPath does.
  What impl.Above does.
  Two answers that are the same.
  What the program's calls on kinds of bytes do: isOf, isOneOf: each computes, and turns nothing in memory.
  What the specification's l1In does; a byte as an int.
  What the specification's own Plain does.
  What the specification's and the program's NameOk do.
  What the specification's and the program's PathOk do.
  Rows of bytes that the call itself made: what string(b) gives of one; where the walk wants it.
  What writing one byte into a strings.Builder does that the call made itself.
  What the program's Quote does.
-/
import Derived.Test.YtkgdmlfdlkmojaaGreatShelf
import Derived.WalkKit
import Derived.WalkSpells
import Derived.WalkLawsBesides
import Derived.Test.YtkgdmlfdlkmojaaGreatMathFind
import Derived.Test.YtkgdmlfdlkmojaaGreatMathTree
import Derived.Test.YtkgdmlfdlkmojaaGreatRows
import Derived.Deep.Light
import Derived.Lib.OthersKept
import Derived.Laws.RangeAny
import Derived.Lib.BufferWrite
import Derived.Laws.IdiomStrings
import Derived.Laws.BytesArg
import Derived.Lib.Builder
namespace Go.Proofs.YtkgdmlfdlkmojaaGreat
open Go.RowKit

set_option maxHeartbeats 400000 in
theorem clone_any (s : ByteArray) (w : World) (hs : s.size ≤ 281474976710656) :
    Calls Tryz.prog 68 #[.string s] w fun e w' => e = .returned (.string s) ∧ Below w.heap.size w w' := by
  go_enter Tryz.func68, Tryz.ntmps68
  go_wp2_with (go_at_call 83; refine (Tryz.stringslite_Clone s _ hs).mono ?_; rintro e w1 ⟨rfl, hb1⟩)
  go_ret
  exact ⟨rfl, hb1⟩
end Go.Proofs.YtkgdmlfdlkmojaaGreat
namespace Go.Proofs.YtkgdmlfdlkmojaaGreat
open Go.RowKit
set_option linter.unusedVariables false

set_option maxHeartbeats 400000 in
theorem copyPath_any (a : Option Addr) (ss : List ByteArray) (cap B : Nat) (w : World) (h : Strs w B a ss) (hB : B ≤ w.heap.size) (hl : ss.length ≤ 1048576) (hs : ∀ s ∈ ss, s.size ≤ 281474976710656) :
    Calls Tryz.prog 67 #[.slice a ss.length cap] w fun e w' => e = .returned (.slice (some ⟨w.heap.size, 0, none⟩) ss.length ss.length) ∧ RowS w' w.heap.size ss ∧ Below w.heap.size w w' := by
  have hmk := run_make_row' (P := Tryz.prog) 23 9 (.string ByteArray.empty) 16 Tryz.underlying23 info_str rfl .i64 .i64 ss.length (by omega) (by omega) w
  go_enter Tryz.func67, Tryz.ntmps67
  go_wp2
  clear hmk
  go_loopw [11] (fun i wr => ∃ k : Nat, k ≤ ss.length ∧ i = .int .i64 k ∧ wr.rowIs w.heap.size 9 ss.length (fun j => if j < k then .string (ss.getD j ByteArray.empty) else .string ByteArray.empty) ∧ Below w.heap.size w wr) (fun i _ => ss.length - (intOf i).toNat)
  case atStart => exact ⟨0, Nat.zero_le _, rfl, (World.rowIs_made w _ _ _).congr (fun i _ => by simp), (Below.refl _ _).alloc (Nat.le_refl _) _⟩
  case round =>
    obtain ⟨k, hk, rfl, hrow, hbe⟩ := hrel
    by_cases hlt : k < ss.length
    · obtain ⟨b, o, rfl, hb, hc⟩ := h (by omega)
      have hcx := (hbe.cell (p := ⟨b, o + k, none⟩) (Nat.lt_of_lt_of_le hb hB)).trans (hc k hlt)
      go_wp2_with fail
      refine (clone_any ss[k] wr (hs _ (List.getElem_mem hlt))).mono ?_
      rintro e w1 ⟨rfl, b1⟩
      have hrow1 := hrow.of_block (w' := w1) (b1.block _ hrow.lt)
      have hcn := hrow1.cell hlt
      have hfn := hrow1.frozen k
      have c1 := hbe.trans (b1.mono hbe.size)
      have HR := hide ((hrow1.set k (.string ss[k])).congr (g := fun j => if j < k + 1 then .string (ss.getD j ByteArray.empty) else .string ByteArray.empty) (fun j hj => by
        by_cases e : j = k
        · subst e; simp [List.getD, List.getElem?_eq_getElem hlt]
        · simp only [e, if_false]
          by_cases e2 : j < k
          · rw [if_pos e2, if_pos (by omega)]
          · rw [if_neg e2, if_neg (by omega)]))
      clear hrow hrow1
      go_wp2
      go_roundw
      case rel => exact ⟨k + 1, by omega, by go_num, HR.out, c1.setCell (Nat.le_refl _) _⟩
      case measure => simp [intOf]; omega
    · go_wp2
      go_ret
      exact ⟨rfl, RowS.row hrow (Nat.le_refl _) (fun j hj => by rw [if_pos (by omega)]; simp [List.getD, List.getElem?_eq_getElem hj]), hbe⟩
end Go.Proofs.YtkgdmlfdlkmojaaGreat
namespace Go.Proofs.YtkgdmlfdlkmojaaGreat
open Go.RowKit M
set_option linter.unusedVariables false

set_option maxHeartbeats 400000 in
theorem above_any (b o : Nat) (ss : List ByteArray) (cap B : Nat) (w : World) (h : Strs w B (some ⟨b, o, none⟩) ss) (hB : B ≤ w.heap.size) (hl : ss.length ≤ 1048576) (hs : ∀ s ∈ ss, s.size ≤ 281474976710656) (hc : ss.length ≤ cap) (hc' : cap ≤ maxLen) :
    Calls Tryz.prog 88 #[.slice (some ⟨b, o, none⟩) ss.length cap] w fun e w' => e = .returned (.slice (some ⟨w.heap.size, 0, none⟩) (aboveL ss).length (aboveL ss).length) ∧ RowS w' w.heap.size (aboveL ss) ∧ Below w.heap.size w w' := by
  unfold maxLen at hc'
  have hC := fun cap => copyPath_any (some ⟨b, o, none⟩) (aboveL ss) cap B w (h.take _) hB (by rw [aboveL_len]; omega) (fun s hs' => hs s (List.mem_of_mem_take hs'))
  rw [aboveL_len] at hC ⊢
  by_cases h0 : ss.length = 0
  · have h1 : ss.length - 1 = 0 := by omega
    rw [h1] at hC ⊢
    rw [h0] at hc ⊢
    clear h1
    have HC := hide hC
    clear hC
    go_enter Tryz.func88, Tryz.ntmps88
    go_wp2_with fail
    refine (HC.out _).mono ?_
    rintro e w1 ⟨rfl, hR, hb⟩
    go_wp2
    go_ret
    exact ⟨rfl, hR, hb⟩
  · have HC := hide hC
    clear hC
    have e1 : (ss.length : Int) - 1 = ((ss.length - 1 : Nat) : Int) := by omega
    obtain ⟨n, hn⟩ : ∃ n, ss.length = n + 1 := ⟨ss.length - 1, by omega⟩
    rw [hn] at HC hc ⊢
    have HN := hide hn
    clear e1 h0 hn
    simp only [Nat.add_sub_cancel] at HC ⊢
    have hl2 : n + 1 ≤ 1048576 := by rw [← HN.out]; exact hl
    go_enter Tryz.func88, Tryz.ntmps88
    go_wp2_with fail
    refine (HC.out _).mono ?_
    rintro e w1 ⟨rfl, hR, hb⟩
    go_wp2
    go_ret
    exact ⟨rfl, hR, hb⟩
end Go.Proofs.YtkgdmlfdlkmojaaGreat
namespace Go.Proofs.YtkgdmlfdlkmojaaGreat

theorem ret_bool {a b : Bool} (h : a = b) : Ending.returned (.bool a) = .returned (.bool b) := by rw [h]
end Go.Proofs.YtkgdmlfdlkmojaaGreat
namespace Go.Proofs.YtkgdmlfdlkmojaaGreat
open Go.RowKit M

set_option maxHeartbeats 400000 in
theorem isOf_any (c k : Int) (w : World) :
    Calls Tryz.prog 99 #[.int .u8 c, .int .i64 k] w fun e w' => e = .returned (.bool (isB c k)) ∧ w' = w := by
  go_enter Tryz.func99, Tryz.ntmps99
  go_wp2
  all_goals
    go_ret
    refine ⟨ret_bool ?_, rfl⟩
    go_light
    unfold isB
    simp_all
    try omega

set_option maxHeartbeats 400000 in
theorem isOneOf_any (c : Int) (ks : List Int) (n b o cap : Nat) (w : World) (hn : ks.length = n) (hl : ks.length ≤ maxLen)
    (hc : ∀ i, i < ks.length → w.cell? ⟨b, o + i, none⟩ = some (.int .i64 (ks.getD i 0))) :
    Calls Tryz.prog 90 #[.int .u8 c, .slice (some ⟨b, o, none⟩) n cap] w fun e w' => e = .returned (.bool (anyB c ks)) ∧ w' = w := by
  subst hn
  unfold maxLen at hl
  go_enter Tryz.func90, Tryz.ntmps90
  go_wp2
  go_loop [9] (fun i => ∃ k : Nat, k ≤ ks.length ∧ i = .int .i64 k ∧ anyB c (ks.take k) = false) (fun i => ks.length - (intOf i).toNat)
  case atStart => exact ⟨0, Nat.zero_le _, rfl, rfl⟩
  case round =>
    obtain ⟨k, hk, rfl, hn⟩ := hrel
    have HN : Hid (anyB c (ks.take k) = false) := hn; clear hn
    by_cases hlt : k < ks.length
    · have hcx := hc k hlt
      go_wp2_with (go_at_call 99; refine (isOf_any _ _ _).mono ?_; rintro e w' ⟨rfl, rfl⟩)
      · go_ret
        exact ⟨ret_bool (by rw [anyB_of c ks k hlt (by assumption)]), rfl⟩
      · go_round
        case rel => exact ⟨k + 1, by omega, by go_num, anyB_snoc c ks k hlt HN.out (by assumption)⟩
        case measure => simp [intOf]; omega
    · go_wp2
      go_ret
      exact ⟨ret_bool (by rw [← HN.out, List.take_of_length_le (by omega)]), rfl⟩
theorem cells1 (w : World) (a : Int) (T : TypeId) : ∀ i, i < [a].length → (w.alloc (Obj.cells #[.int .i64 a] T)).cell? ⟨w.heap.size, 0 + i, none⟩ = some (.int .i64 ([a].getD i 0)) := by
  intro i hi
  match i, hi with
  | 0, _ => simp

theorem cells3 (w : World) (n : Nat) (a b c : Int) (T : TypeId) (hn : w.heap.size = n) : ∀ i, i < [a, b, c].length → (w.alloc (Obj.cells #[.int .i64 a, .int .i64 b, .int .i64 c] T)).cell? ⟨n, 0 + i, none⟩ = some (.int .i64 ([a, b, c].getD i 0)) := by
  subst hn
  intro i hi
  match i, hi with
  | 0, _ => simp
  | 1, _ => simp
  | 2, _ => simp
end Go.Proofs.YtkgdmlfdlkmojaaGreat
namespace Go.Proofs.YtkgdmlfdlkmojaaGreat
open Go.RowKit M

set_option maxHeartbeats 400000 in
theorem l1In_any (x a b : Int) (w : World) :
    Calls Tryz.prog 42 #[.int .i64 x, .int .i64 a, .int .i64 b] w fun e w' => e = .returned (.bool (inB x a b)) ∧ w' = w := by
  go_enter Tryz.func42, Tryz.ntmps42
  go_wp2
  all_goals
    go_ret
    refine ⟨ret_bool ?_, rfl⟩
    go_light
    unfold inB
    simp_all
    try omega

theorem wrap64_u8 (c : UInt8) : wrap64 (c.toNat : Int) = c.toNat := by
  have := c.toNat_lt
  unfold wrap64
  omega
end Go.Proofs.YtkgdmlfdlkmojaaGreat
namespace Go.Proofs.YtkgdmlfdlkmojaaGreat
open Go.RowKit M

set_option maxHeartbeats 400000 in
theorem specPlain_any (s : ByteArray) (w : World) (hs : s.size ≤ maxLen) :
    Calls Tryz.prog 65 #[.string s] w fun e w' => e = .returned (.bool (allB s.data.toList [0])) ∧ w' = w := by
  unfold maxLen at hs
  go_enter Tryz.func65, Tryz.ntmps65
  go_wp2
  go_loop [3] (fun i => ∃ k : Nat, k ≤ s.size ∧ i = .int .i64 k ∧ allB (s.data.toList.take k) [0] = true) (fun i => s.size - (intOf i).toNat)
  case atStart => exact ⟨0, Nat.zero_le _, rfl, rfl⟩
  case round =>
    obtain ⟨k, hk, rfl, hn⟩ := hrel
    have HN : Hid (allB (s.data.toList.take k) [0] = true) := hn; clear hn
    by_cases hlt : k < s.size
    · go_wp2_with (go_at_call 42; refine (l1In_any _ _ _ _).mono ?_; rintro e w' ⟨rfl, rfl⟩; rw [wrap64_u8, inB_plain])
      · go_ret
        exact ⟨ret_bool (by rw [allB_not s [0] k hlt (by assumption)]), rfl⟩
      · go_round
        case rel => exact ⟨k + 1, by omega, by go_num, allB_snoc s [0] k hlt HN.out (by assumption)⟩
        case measure => simp [intOf]; omega
    · go_wp2
      go_ret
      exact ⟨ret_bool (by rw [← HN.out, take_all s k hlt]), rfl⟩

end Go.Proofs.YtkgdmlfdlkmojaaGreat
namespace Go.Proofs.YtkgdmlfdlkmojaaGreat
open Go.RowKit M

set_option maxHeartbeats 400000 in
theorem specNameOk_any (s : ByteArray) (w : World) (hs : s.size ≤ maxLen) :
    Calls Tryz.prog 63 #[.string s] w fun e w' => e = .returned (.bool (nameB s)) ∧ w' = w := by
  have hs' := hs
  unfold maxLen at hs'
  go_enter Tryz.func63, Tryz.ntmps63
  go_wp2
  go_loop [3] (fun i => ∃ k : Nat, k ≤ s.size ∧ i = .int .i64 k ∧ noSlash (s.data.toList.take k) = true) (fun i => s.size - (intOf i).toNat)
  case atStart => exact ⟨0, Nat.zero_le _, rfl, rfl⟩
  case round =>
    obtain ⟨k, hk, rfl, hn⟩ := hrel
    have HN : Hid (noSlash (s.data.toList.take k) = true) := hn; clear hn
    by_cases hlt : k < s.size
    · go_wp2
      · go_ret
        exact ⟨ret_bool (by rw [noSlash_no s k hlt (by assumption)]), rfl⟩
      · go_round
        case rel => exact ⟨k + 1, by omega, by go_num, noSlash_snoc s k hlt HN.out (by rintro e; simp_all)⟩
        case measure => simp [intOf]; omega
    · have HA : Hid (noSlash s.data.toList = true) := by have := HN.out; rw [take_all s k hlt] at this; exact this
      go_wp2_with (first | (go_at_call 42; refine (l1In_any _ _ _ _).mono ?_; rintro e w' ⟨rfl, rfl⟩) | (go_at_call 65; refine (specPlain_any _ _ hs).mono ?_; rintro e w' ⟨rfl, rfl⟩))
      all_goals
        go_ret
        refine ⟨ret_bool ?_, rfl⟩
        have hA := HA.out
        simp_all [nameB]

set_option maxHeartbeats 1000000 in
theorem nameOk_any (s : ByteArray) (w : World) (hs : s.size ≤ maxLen) :
    Calls Tryz.prog 95 #[.string s] w fun e w' => e = .returned (.bool (nameB s)) ∧ Below w.heap.size w w' := by
  unfold maxLen at hs
  by_cases hc : (1 ≤ s.size ∧ s.size ≤ 8) ∧ ¬ s.toList = [46] ∧ ¬ s.toList = [46, 46]
  · obtain ⟨⟨h1, h8⟩, hd, hdd⟩ := hc
    have HI : Hid (inB s.size 1 8 = true) := by show inB s.size 1 8 = true; simp [inB]; omega
    have HD : Hid (¬ s.toList = [46] ∧ ¬ s.toList = [46, 46]) := ⟨hd, hdd⟩
    go_enter Tryz.func95, Tryz.ntmps95
    go_wp2
    · exfalso; simp_all; omega
    rename_i q1 q2 q3 _ _
    clear q1 q2 q3 hd hdd h1 h8
    go_loopw [] (fun wr => ∃ pos : Nat, wr = w.iter s pos ∧ pos ≤ s.size ∧ noSlash (s.data.toList.take pos) = true ∧ allB (s.data.toList.take pos) [0] = true) (fun wr => s.size - wr.iterPos w.heap.size)
    case atStart => exact ⟨0, rfl, Nat.zero_le _, rfl, rfl⟩
    case round =>
      obtain ⟨pos, rfl, hp, hn0, ha0⟩ := hrel
      have HN : Hid (noSlash (s.data.toList.take pos) = true) := hn0; clear hn0
      have HA : Hid (allB (s.data.toList.take pos) [0] = true) := ha0; clear ha0
      have hbe : Below w.heap.size w (w.iter s pos) := (Below.refl _ _).alloc (Nat.le_refl _) _
      by_cases hlt : pos < s.size
      · by_cases ha : (s[pos]'hlt).toNat < 128
        · have hnx : ∀ ty, (Instr.next (.pointer (some ⟨w.heap.size, 0, none⟩)) true ty).run Tryz.prog (w.iter s pos) = _ := fun ty => run_next_ascii w s pos ty hlt ha
          have hbe2 : Below w.heap.size w (w.iter s (pos + 1)) := (Below.refl _ _).alloc (Nat.le_refl _) _
          have hit2 := World.iter_heap w s (pos + 1)
          have hit := World.iter_heap w s pos
          by_cases hok : anyB (s[pos].toNat : Int) [0] = true ∧ ¬ s[pos] = 47
          · have HO : Hid (anyB (s[pos].toNat : Int) [0] = true ∧ ¬ s[pos] = 47) := hok
            have h32 : 32 ≤ (s[pos].toNat : Int) ∧ (s[pos].toNat : Int) ≤ 126 := by have := hok.1; simp [anyB, isB] at this; omega
            clear hok
            go_wp2
            · exact (okc_not (by assumption) HO.out).elim
            · go_roundw
              case rel => exact ⟨pos + 1, rfl, by omega, noSlash_snoc s pos hlt HN.out HO.out.2, allB_snoc s [0] pos hlt HA.out (by rw [HO.out.1]; rfl)⟩
              case measure => simp only [World.iterPos, hit2, hit]; omega
          · have HO : Hid (nameB s = false) := by
              show nameB s = false
              by_cases h0 : anyB (s[pos].toNat : Int) [0] = true
              · exact noSlash_no s pos hlt (by have : s[pos] = 47 := Classical.byContradiction fun e => hok ⟨h0, e⟩; rw [this]; rfl)
              · exact plain_no s pos hlt (by simpa using h0)
            go_wp2
            all_goals first
              | (go_ret; exact ⟨ret_bool HO.out.symm, hbe2⟩)
              | (exfalso; exact hok (okc_of (by assumption)))
        · have hh := decode_high s pos hlt (by omega)
          have hd1 := decode_le s pos
          have hnx : ∀ ty, (Instr.next (.pointer (some ⟨w.heap.size, 0, none⟩)) true ty).run Tryz.prog (w.iter s pos) = _ := fun ty => Lib.run_next_any_at (w.iter s pos) w.heap.size s pos ty (World.iter_heap w s pos) hlt
          have hbe2 := Lib.below_iterAt hbe (Nat.le_refl _) s (pos + (Utf8.decode s pos).2)
          have HP : Hid (nameB s = false) := plain_no s pos hlt (by simp [anyB, isB]; omega)
          go_wp2
          all_goals (go_ret; exact ⟨ret_bool HP.out.symm, hbe2⟩)
      · have hnx : ∀ ty, (Instr.next (.pointer (some ⟨w.heap.size, 0, none⟩)) true ty).run Tryz.prog (w.iter s pos) = _ := fun ty => run_next_end w s pos ty hlt
        go_wp2
        go_ret
        exact ⟨ret_bool (by rw [nameB_all s (by have := HN.out; rwa [take_all s pos hlt] at this) HI.out (by have := HA.out; rwa [take_all s pos hlt] at this) HD.out.1 HD.out.2]), hbe⟩
  · have HC : Hid (nameB s = false) := by
      show nameB s = false
      by_cases hi : 1 ≤ s.size ∧ s.size ≤ 8
      · by_cases hd : s.toList = [46]
        · simp [nameB, hd]
        · by_cases hdd : s.toList = [46, 46]
          · simp [nameB, hdd]
          · exact absurd ⟨hi, hd, hdd⟩ hc
      · have : inB s.size 1 8 = false := by simp [inB]; omega
        simp [nameB, this]
    go_enter Tryz.func95, Tryz.ntmps95
    go_wp2
    all_goals first
      | (go_ret; exact ⟨ret_bool HC.out.symm, Below.refl _ _⟩)
      | (exfalso; apply hc; simp_all; omega)
end Go.Proofs.YtkgdmlfdlkmojaaGreat
namespace Go.Proofs.YtkgdmlfdlkmojaaGreat
open Go.RowKit M
set_option linter.unusedVariables false


theorem names_snoc (ss : List ByteArray) (k : Nat) (h : k < ss.length) (h0 : (ss.take k).all nameB = true) (h1 : nameB ss[k] = true) : (ss.take (k + 1)).all nameB = true := by
  rw [List.take_succ_eq_append_getElem h, List.all_append, h0]; simp [h1]
theorem names_not (ss : List ByteArray) (k : Nat) (h : k < ss.length) (h1 : nameB ss[k] = false) : pathB ss = false := by
  have : ss.all nameB = false := by rw [List.all_eq_false]; exact ⟨_, List.getElem_mem h, by simp [h1]⟩
  simp [pathB, this]

set_option maxHeartbeats 400000 in
theorem specPathOk_any (a : Option Addr) (ss : List ByteArray) (cap B : Nat) (w : World) (h : Strs w B a ss) (hs : Short ss) (hl : ss.length ≤ maxLen) :
    Calls Tryz.prog 41 #[.slice a ss.length cap] w fun e w' => e = .returned (.bool (pathB ss)) ∧ w' = w := by
  unfold maxLen at hl
  go_enter Tryz.func41, Tryz.ntmps41
  go_wp2
  go_loop [3] (fun i => ∃ k : Nat, k ≤ ss.length ∧ i = .int .i64 k ∧ (ss.take k).all nameB = true) (fun i => ss.length - (intOf i).toNat)
  case atStart => exact ⟨0, Nat.zero_le _, rfl, rfl⟩
  case round =>
    obtain ⟨k, hk, rfl, hn⟩ := hrel
    have HN : Hid ((ss.take k).all nameB = true) := hn; clear hn
    by_cases hlt : k < ss.length
    · obtain ⟨b, o, rfl, hb, hc⟩ := h (by omega)
      have hcx := hc k hlt
      have hsz := hs.at k hlt
      cases hB : nameB ss[k]
      · go_wp2_with (go_at_call 63; refine (specNameOk_any _ _ hsz).mono ?_; rintro e w1 ⟨rfl, hw⟩; obtain rfl := hw.symm; rw [hB])
        go_ret
        exact ⟨ret_bool (names_not ss k hlt hB).symm, rfl⟩
      · go_wp2_with (go_at_call 63; refine (specNameOk_any _ _ hsz).mono ?_; rintro e w1 ⟨rfl, hw⟩; obtain rfl := hw.symm; rw [hB])
        go_round
        case rel => exact ⟨k + 1, by omega, by go_num, names_snoc ss k hlt HN.out hB⟩
        case measure => simp [intOf]; omega
    · go_wp2
      go_ret
      refine ⟨ret_bool ?_, rfl⟩
      have hA := HN.out
      rw [sumS_all ss k hlt] at hA
      simp only [pathB, hA, Bool.true_and]
      exact decide_eq_decide.2 (by omega)

set_option maxHeartbeats 400000 in
theorem pathOk_any (a : Option Addr) (ss : List ByteArray) (cap : Nat) (w : World) (h : Strs w w.heap.size a ss) (hs : Short ss) (hl : ss.length ≤ maxLen) :
    Calls Tryz.prog 84 #[.slice a ss.length cap] w fun e w' => e = .returned (.bool (pathB ss)) ∧ Below w.heap.size w w' := by
  unfold maxLen at hl
  by_cases h4 : (4 : Int) < ss.length
  · go_enter Tryz.func84, Tryz.ntmps84
    go_wp2
    go_ret
    refine ⟨ret_bool ?_, Below.refl _ _⟩
    have : ¬ ss.length ≤ 4 := by omega
    simp [pathB, this]
  · go_enter Tryz.func84, Tryz.ntmps84
    go_wp2
    go_loopw [10] (fun i wr => ∃ k : Nat, k ≤ ss.length ∧ i = .int .i64 k ∧ (ss.take k).all nameB = true ∧ Below w.heap.size w wr) (fun i _ => ss.length - (intOf i).toNat)
    case atStart => exact ⟨0, Nat.zero_le _, rfl, rfl, Below.refl _ _⟩
    case round =>
      obtain ⟨k, hk, rfl, hn, hbe⟩ := hrel
      have HN : Hid ((ss.take k).all nameB = true) := hn; clear hn
      by_cases hlt : k < ss.length
      · obtain ⟨b, o, rfl, hb, hc⟩ := (h.below hbe (Nat.le_refl _)) (by omega)
        have hcx := hc k hlt
        have hsz := hs.at k hlt
        cases hB : nameB ss[k]
        · go_wp2_with fail
          refine (nameOk_any _ _ hsz).mono ?_
          rintro e w1 ⟨rfl, hb1⟩
          rw [hB]
          go_wp2
          go_ret
          exact ⟨ret_bool (names_not ss k hlt hB).symm, hbe.trans (hb1.mono hbe.size)⟩
        · go_wp2_with fail
          refine (nameOk_any _ _ hsz).mono ?_
          rintro e w1 ⟨rfl, hb1⟩
          rw [hB]
          go_wp2
          go_roundw
          case rel => exact ⟨k + 1, by omega, by go_num, names_snoc ss k hlt HN.out hB, hbe.trans (hb1.mono hbe.size)⟩
          case measure => simp [intOf]; omega
      · go_wp2
        go_ret
        refine ⟨ret_bool ?_, hbe⟩
        have hA := HN.out
        rw [sumS_all ss k hlt] at hA
        have : ss.length ≤ 4 := by omega
        simp [pathB, hA, this]
end Go.Proofs.YtkgdmlfdlkmojaaGreat
namespace Go.Proofs.YtkgdmlfdlkmojaaGreat
open Go.RowKit

theorem ret_str {l m : List UInt8} (h : l = m) : Ending.returned (.string ⟨l.toArray⟩) = .returned (.string ⟨m.toArray⟩) := by rw [h]

/-- 'string(b)' of a row of bytes that the call owns: its bytes; the world is as it was. -/
theorem conv_own {w : World} {B n : Nat} {v : Value} {l : List UInt8} (h : w.ownsRow B 5 1 v n (Lib.byteCells l)) :
    (convert 83 9 v).run Tryz.prog w = .ok (.string ⟨l.toArray⟩) w := by
  have hn : n = l.length := by have := h.1; rw [Lib.byteCells_length] at this; omega
  subst hn
  rcases h.2 with ⟨rfl, h0⟩ | ⟨g, cap, cur, rfl, _, hg, _, _, _, htk⟩
  · have : l = [] := List.length_eq_zero_iff.1 h0
    subst this
    exact run_convert_bytes_nil w 83 5 Tryz.underlying83 Tryz.underlying5 0 0 9 Tryz.underlying9
  · refine run_convert_bytes_back w 83 9 5 _ cap l Tryz.underlying83 Tryz.underlying5 Tryz.underlying9 ?_
    intro j hj
    exact h.cells (g := g) rfl j _ (by simp [Lib.byteCells, List.getElem?_eq_getElem hj])

/-- What grew by writes to a row that the call owns is as it was below. -/
theorem below_grown {w w' : World} {B n : Nat} {e : TypeId} {v : Value} {xs : List Value} (h : w.ownsRow B e 1 v n xs) (hB : B ≤ w.heap.size) (hg : w.grownBy w' v.ownBlock) : Below B w w' :=
  ⟨hg.os, hg.tape, hg.output, hg.size, fun k hk => hg.block k (Nat.lt_of_lt_of_le hk hB) (fun e => by have := h.lt k e.symm; omega)⟩

theorem info_byte : (Tryz.prog.info? 5).map (fun i => (i.zero, i.size, i.bytes)) = some (some (.int .u8 0), 1, 1) := by kernel_rfl

/-- 'b = append(b, c)' on a row of bytes that the call owns. -/
theorem wp_append_byte {w : World} {ops : Array Oper} {rest : List Oper} {o : Oper} {a : Act} {Q : Exit → Act → World → Prop} (hgd : o.guard = none) (s x : Operand)
    (ho : o.op = .call { callee := .builtin .append, args := #[s, x], argTypes := #[83, 83] })
    (B : Nat) (v : Value) (n : Nat) (l : List UInt8) (hs : a.eval s = v) (hown : w.ownsRow B 5 1 v n (Lib.byteCells l))
    (ad : Addr) (c : UInt8) (hx : a.eval x = .slice (some ad) 1 1) (hcell : w.cell? ad = some (.int .u8 c.toNat)) (hlen : n + 1 ≤ 140737488355328) (hB : B ≤ w.heap.size)
    (h : ∀ v' w', w'.ownsRow B 5 1 v' (n + 1) (Lib.byteCells (l ++ [c])) → Below B w w' → wpList Tryz.prog ops Q rest (a.put o.dst v') w') : wpList Tryz.prog ops Q (o :: rest) a w := by
  obtain ⟨i0, hi, hz0, hz1, hz2⟩ := info_parts info_byte
  refine wpList_append_own w hgd s x 83 ho B 5 i0 (.int .u8 0) 1 1 Tryz.underlying83 hi hz0 hz1 hz2 rfl (by decide) v n _ hs hown ad 1 1 [.int .u8 c.toNat] hx rfl ?_ ?_ ?_ ?_ hB ?_
  · intro j u hj
    match j, hj with
    | 0, hj =>
      simp at hj; subst hj
      have : ad.add 0 = ad := by unfold Addr.add; split <;> simp_all
      rw [this]; exact hcell
  · intro u hu; simp at hu; subst hu; rfl
  · unfold maxLen; omega
  · omega
  · intro v' w' ho' hg _
    refine h v' w' ?_ (below_grown hown hB hg)
    rw [Lib.byteCells_append]
    exact ho'

/-- A row of bytes in block N, none of them frozen. -/
def RowAt (w : World) (N : Nat) (l : List UInt8) : Prop := ∀ j (hj : j < l.length), w.cell? ⟨N, j, none⟩ = some (.int .u8 l[j].toNat) ∧ w.frozen? ⟨N, j, none⟩ = false

theorem RowAt.alloc {w : World} {N : Nat} {l : List UInt8} (h : RowAt w N l) (hN : N < w.heap.size) (o : Obj) : RowAt (w.alloc o) N l := fun j hj =>
  ⟨(World.cell?_alloc_past o N j hN).trans (h j hj).1, (World.frozen?_alloc_past o N j hN).trans (h j hj).2⟩

theorem RowAt.set {w : World} {N : Nat} {l : List UInt8} (h : RowAt w N l) (k : Nat) (hk : k < l.length) (c : UInt8) : RowAt (w.setCell ⟨N, k, none⟩ (.int .u8 c.toNat)) N (l.set k c) := by
  intro j hj
  have hj' : j < l.length := by simpa using hj
  refine ⟨?_, by rw [World.frozen?_setCell]; exact (h j hj').2⟩
  by_cases e : k = j
  · subst e
    rw [World.cell?_setCell_same _ _ _ (h k hk).1]
    simp
  · have hne : (⟨N, k, none⟩ : Addr) ≠ ⟨N, j, none⟩ := fun e' => e (congrArg Addr.off e')
    rw [World.cell?_setCell_other _ _ _ _ hne, (h j hj').1]
    simp [e]

/-- 'string(b)' of such a row. -/
theorem conv_row {w : World} {N n cap : Nat} {l : List UInt8} (h : RowAt w N l) (hn : l.length = n) :
    (convert 83 9 (.slice (some ⟨N, 0, none⟩) n cap)).run Tryz.prog w = .ok (.string ⟨l.toArray⟩) w := by
  subst hn
  refine run_convert_bytes_back w 83 9 5 _ cap l Tryz.underlying83 Tryz.underlying5 Tryz.underlying9 ?_
  intro j hj
  have : (⟨N, 0, none⟩ : Addr).add j = ⟨N, j, none⟩ := by
    unfold Addr.add; split <;> simp_all
  rw [this]; exact (h j hj).1

/-- 'string(b)' of the end of such a row. -/
theorem conv_at {w : World} {N o n cap : Nat} {pre l : List UInt8} (h : RowAt w N (pre ++ l)) (ho : pre.length = o) (hn : l.length = n) :
    (convert 83 9 (.slice (some ⟨N, o, none⟩) n cap)).run Tryz.prog w = .ok (.string ⟨l.toArray⟩) w := by
  subst hn ho
  refine run_convert_bytes_back w 83 9 5 _ cap l Tryz.underlying83 Tryz.underlying5 Tryz.underlying9 ?_
  intro j hj
  have e : (⟨N, pre.length, none⟩ : Addr).add j = ⟨N, pre.length + j, none⟩ := by
    unfold Addr.add; split <;> simp_all
  rw [e, (h (pre.length + j) (by simp; omega)).1]
  simp

end Go.Proofs.YtkgdmlfdlkmojaaGreat
namespace Go.Proofs.YtkgdmlfdlkmojaaGreat
open Go.RowKit

theorem bld_size : (Tryz.prog.info? 111).map (·.size) = some 2 := by kernel_rfl
theorem bld_lies : liesAt Tryz.prog Tryz.prog.depth 111 (2 / Tryz.prog.cellsOf 111) 0 111 1 = true := by kernel_rfl

set_option maxHeartbeats 1000000 in
set_option maxRecDepth 100000 in
theorem copyCheck_fresh (b : Nat) (w : World) (h0 : w.cell? ⟨b, 0, none⟩ = some (.pointer none)) (hsh : w.shape? b = some (111, 2)) (hfz : w.frozen? ⟨b, 0, none⟩ = false) :
    Calls Tryz.prog 106 #[.pointer (some ⟨b, 0, none⟩)] w fun e w' => e = .returned (.tuple #[]) ∧ w' = w.setCell ⟨b, 0, none⟩ (.pointer (some ⟨b, 0, none⟩)) := by
  obtain ⟨j, hj, hjs⟩ := Option.map_eq_some_iff.1 bld_size
  have q1 := Lib.run_to_unsafe w ⟨b, 0, none⟩ Tryz.underlying109 Tryz.underlying120 hj (by rw [hjs]; decide) hsh (Nat.zero_lt_succ 1)
  have q2 := Lib.run_from_unsafe w ⟨b, 0, none⟩ Tryz.underlying120 Tryz.underlying109 hj hsh bld_lies
  have q3 : ∀ x : Value, (callFunc 108 #[x]).run Tryz.prog w = .ok (.value x) w := fun x => by
    rw [run_callFunc_extern Tryz.func108 (by kernel_rfl) (by kernel_rfl) (by kernel_rfl) (e := Extern.AbiNoEscape.same) (by kernel_rfl), Lib.run_noEscape]
    rfl
  go_enter Tryz.func106, Tryz.ntmps106
  go_wp2
  go_end0
  exact ⟨rfl, rfl⟩

set_option maxHeartbeats 1000000 in
theorem copyCheck_used (b : Nat) (w : World) (h0 : w.cell? ⟨b, 0, none⟩ = some (.pointer (some ⟨b, 0, none⟩))) :
    Calls Tryz.prog 106 #[.pointer (some ⟨b, 0, none⟩)] w fun e w' => e = .returned (.tuple #[]) ∧ w' = w := by
  obtain ⟨j, hj, _⟩ := Option.map_eq_some_iff.1 bld_size
  have q := Lib.run_neq_ptr_same w ⟨b, 0, none⟩ Tryz.underlying109 hj
  go_enter Tryz.func106, Tryz.ntmps106
  go_wp2
  go_end0
  exact ⟨rfl, rfl⟩

theorem copyCheck_any (B b : Nat) (bs : List Value) (w : World) (h : Lib.IsBuilder 111 5 B b bs w) :
    Calls Tryz.prog 106 #[.pointer (some ⟨b, 0, none⟩)] w fun e w' => e = .returned (.tuple #[]) ∧ Lib.BuilderAt 111 5 B b (.pointer (some ⟨b, 0, none⟩)) bs w' ∧ Below B w w' := by
  rcases h with h | h
  · refine (copyCheck_fresh b w h.cell0 h.shape h.frozen0).mono ?_
    rintro e w' ⟨rfl, rfl⟩
    exact ⟨rfl, h.used _, (Below.refl B w).setCell (p := ⟨b, 0, none⟩) h.1 _⟩
  · refine (copyCheck_used b w h.cell0).mono ?_
    rintro e w' ⟨rfl, rfl⟩
    exact ⟨rfl, h, Below.refl B _⟩

/-- A builder stays what it is where only new memory is laid. -/
theorem bld_below {T e : TypeId} {B b : Nat} {bs : List Value} {w w' : World} (h : Lib.IsBuilder T e B b bs w) (hb : Below w.heap.size w w') : Lib.IsBuilder T e B b bs w' := by
  have go : ∀ p, Lib.BuilderAt T e B b p bs w → Lib.BuilderAt T e B b p bs w' := fun p hp => by
    have hlt := hp.lt
    obtain ⟨hB, v, hv, hown, hne⟩ := hp
    exact ⟨hB, v, (hb.block b hlt).trans hv, hown.kept (row := none) ⟨hb.os, hb.tape, hb.output, hb.size, fun k hk _ => hb.block k hk⟩ (Classical.em _), hne⟩
  exact h.elim (fun x => .inl (go _ x)) (fun x => .inr (go _ x))

set_option maxHeartbeats 2000000 in
set_option maxRecDepth 100000 in
theorem writeByte_any (B b : Nat) (l : List UInt8) (c : UInt8) (w : World) (h : Lib.IsBuilder 111 5 B b (Lib.byteCells l) w) (hlen : l.length + 1 ≤ 140737488355328) (hBw : B ≤ w.heap.size) :
    Calls Tryz.prog 102 #[.pointer (some ⟨b, 0, none⟩), .int .u8 c.toNat] w fun e w' => e = .returned .nilIface ∧ Lib.IsBuilder 111 5 B b (Lib.byteCells (l ++ [c])) w' ∧ Below B w w' := by
  obtain ⟨i0, hi, hz0, hz1, hz2⟩ := info_parts info_byte
  go_enter Tryz.func102, Tryz.ntmps102
  go_wp2_with fail
  refine (copyCheck_any B b _ w h).mono ?_
  rintro e w1 ⟨rfl, h1, hb1⟩
  have hlt := h1.lt
  obtain ⟨hB, v, hbk, hown, hne⟩ := h1
  rw [Lib.byteCells_length] at hown
  have c0 : w1.cell? ⟨b, 0, none⟩ = some (.pointer (some ⟨b, 0, none⟩)) := by rw [Lib.cell_of_heap hbk]; rfl
  have c1 : w1.cell? ⟨b, 1, none⟩ = some v := by rw [Lib.cell_of_heap hbk]; rfl
  go_wp2_with (at_builtin; refine wpList_append_own _ rfl _ _ 83 rfl B 5 i0 (.int .u8 0) 1 1 Tryz.underlying83 hi hz0 hz1 hz2 rfl (by decide) v l.length _ rfl (hown.alloc _) ⟨w1.heap.size, 0, none⟩ 1 1 [.int .u8 c.toNat] rfl rfl ?c1 ?c2 ?c3 ?c4 ?c5 ?_)
  case c1 =>
    intro j u hj
    match j, hj with
    | 0, hj => simp at hj; subst hj; simp [Addr.add]
  case c2 => intro u hu; simp at hu; subst hu; rfl
  case c3 => unfold maxLen; omega
  case c4 => omega
  case c5 => have := hb1.size; simp; omega
  intro v' w2 hown' hgrow _
  have hb2 : w2.heap[b]? = some (.cells #[.pointer (some ⟨b, 0, none⟩), v] 111 (0, 0)) := by
    rw [hgrow.block b (by simp; omega) (fun e => hne e.symm), Lib.alloc_old w1 _ b hlt]
    exact hbk
  have d0 : w2.cell? ⟨b, 0, none⟩ = some (.pointer (some ⟨b, 0, none⟩)) := by rw [Lib.cell_of_heap hb2]; rfl
  have d1 : w2.cell? ⟨b, 1, none⟩ = some v := by rw [Lib.cell_of_heap hb2]; rfl
  have f1 : w2.frozen? ⟨b, 1, none⟩ = false := Lib.frozen_of_heap hb2 1
  obtain ⟨g, cap, rfl⟩ : ∃ g cap, v' = .slice (some ⟨g, 0, none⟩) (l.length + 1) cap := by
    rcases hown'.2 with ⟨_, h0⟩ | ⟨g, cap, cur, hv, _⟩
    · omega
    · exact ⟨g, cap, hv⟩
  go_wp2
  go_ret
  refine ⟨rfl, .inr ?_, ?_⟩
  · refine Lib.BuilderAt.put (T := 111) (e := 5) hB hb2 (bs' := Lib.byteCells (l ++ [c])) ?_ (by decide)
    rw [Lib.byteCells_length, List.length_append, Lib.byteCells_append]
    exact hown'
  · exact ((hb1.alloc (by have := hb1.size; omega) _).grown hgrow (by have := hb1.size; simp; omega) (fun k hk => (hown.lt k hk).1)).setCell (p := ⟨b, 1, none⟩) hB _
end Go.Proofs.YtkgdmlfdlkmojaaGreat
namespace Go.Proofs.YtkgdmlfdlkmojaaGreat
open Go.RowKit M
set_option linter.unusedVariables false

theorem cells4 (w : World) (n : Nat) (a b c d : Int) (T : TypeId) (hn : w.heap.size = n) : ∀ i, i < [a, b, c, d].length → (w.alloc (Obj.cells #[.int .i64 a, .int .i64 b, .int .i64 c, .int .i64 d] T)).cell? ⟨n, 0 + i, none⟩ = some (.int .i64 ([a, b, c, d].getD i 0)) := by
  subst hn
  intro i hi
  match i, hi with
  | 0, _ => simp
  | 1, _ => simp
  | 2, _ => simp
  | 3, _ => simp

theorem free_any (c : Int) : freeB c = (anyB c [2, 3, 4, 7] || c == 46 || c == 95 || c == 126) := by
  simp only [freeB, anyB, List.any_cons, List.any_nil, Bool.or_false]
  have : isB c 7 = (c == 45) := by simp [isB]
  rw [this]
  simp only [Bool.or_assoc]

set_option maxHeartbeats 1000000 in
theorem stays_any (c : UInt8) (w : World) :
    Calls Tryz.prog 101 #[.int .u8 c.toNat] w fun e w' => e = .returned (.bool (freeB c.toNat)) ∧ Below w.heap.size w w' := by
  have HF := free_any (c.toNat : Int)
  cases hb : anyB (c.toNat : Int) [2, 3, 4, 7]
  · rw [hb] at HF
    have HF2 : Hid (freeB (c.toNat : Int) = (false || (c.toNat : Int) == 46 || (c.toNat : Int) == 95 || (c.toNat : Int) == 126)) := HF
    clear HF
    go_enter Tryz.func101, Tryz.ntmps101
    go_wp2_with (go_at_call 90; refine (isOneOf_any _ [2, 3, 4, 7] 4 _ 0 4 _ rfl (by decide) (cells4 _ _ 2 3 4 7 _ rfl)).mono ?_; rintro e w1 ⟨rfl, rfl⟩; rw [hb])
    all_goals
      go_ret
      refine ⟨ret_bool ?_, (Below.refl _ _).alloc (Nat.le_refl _) _⟩
      rw [HF2.out]
      simp_all
  · rw [hb] at HF
    have HF2 : Hid (freeB (c.toNat : Int) = true) := by show freeB (c.toNat : Int) = true; rw [HF]; simp
    clear HF
    go_enter Tryz.func101, Tryz.ntmps101
    go_wp2_with (go_at_call 90; refine (isOneOf_any _ [2, 3, 4, 7] 4 _ 0 4 _ rfl (by decide) (cells4 _ _ 2 3 4 7 _ rfl)).mono ?_; rintro e w1 ⟨rfl, rfl⟩; rw [hb])
    all_goals
      go_ret
      exact ⟨ret_bool HF2.out.symm, (Below.refl _ _).alloc (Nat.le_refl _) _⟩

set_option maxHeartbeats 2000000 in
theorem quote_any (s : ByteArray) (w : World) (hs : s.size ≤ 1099511627776) :
    Calls Tryz.prog 97 #[.string s] w fun e w' => e = .returned (.string ⟨(quoteL s.data.toList).toArray⟩) ∧ Below w.heap.size w w' := by
  go_enter Tryz.func97, Tryz.ntmps97
  go_wp2
  go_loopw [4] (fun i wr => ∃ k : Nat, k ≤ s.size ∧ i = .int .i64 k ∧ (quoteL (s.data.toList.take k)).length ≤ 3 * k ∧ Lib.IsBuilder 111 5 w.heap.size w.heap.size (Lib.byteCells (quoteL (s.data.toList.take k))) wr ∧ Below w.heap.size w wr) (fun i _ => s.size - (intOf i).toNat)
  case atStart => exact ⟨0, Nat.zero_le _, rfl, Nat.zero_le _, Lib.fresh_isBuilder _ _ w, (Below.refl _ _).alloc (Nat.le_refl _) _⟩
  case round =>
    obtain ⟨k, hk, rfl, hn3, hI, hbe⟩ := hrel
    by_cases hlt : k < s.size
    · have HL : Hid (quoteL (s.data.toList.take (k + 1)) = quoteL (s.data.toList.take k) ++ quoteB s[k]) := quoteL_snoc s k hlt
      have HK : Hid ((quoteL (s.data.toList.take (k + 1))).length ≤ 3 * (k + 1)) := by
        have h3 := quoteB_length s[k]
        show (quoteL (s.data.toList.take (k + 1))).length ≤ 3 * (k + 1)
        rw [HL.out, List.length_append]; omega
      cases hb : freeB ((s[k]).toNat : Int)
      · have HB : Hid (quoteB s[k] = [37, digL (s[k].toNat / 16), digL (s[k].toNat % 16)]) := quoteB_no hb
        have h256 := UInt8.toNat_lt s[k]
        go_wp2_with fail
        refine (stays_any s[k] wr).mono ?_
        rintro e w1 ⟨rfl, b1⟩
        rw [hb]
        have c1 := hbe.trans (b1.mono hbe.size)
        go_wp2_with fail
        refine (writeByte_any w.heap.size w.heap.size _ 37 w1 (bld_below hI b1) (by omega) c1.size).mono ?_
        rintro e w2 ⟨rfl, I2, b2⟩
        have c2 := c1.trans b2
        go_wp2_with fail
        rw [hex_at (s[k].toNat / 16) (by omega)]
        refine (writeByte_any w.heap.size w.heap.size _ (digL (s[k].toNat / 16)) w2 I2 (by simp; omega) c2.size).mono ?_
        rintro e w3 ⟨rfl, I3, b3⟩
        have c3 := c2.trans b3
        go_wp2_with fail
        rw [hex_at (s[k].toNat % 16) (by omega)]
        refine (writeByte_any w.heap.size w.heap.size _ (digL (s[k].toNat % 16)) w3 I3 (by simp; omega) c3.size).mono ?_
        rintro e w4 ⟨rfl, I4, b4⟩
        have HE := HL.out
        rw [HB.out] at HE
        have e4 : quoteL (s.data.toList.take k) ++ [37] ++ [digL (s[k].toNat / 16)] ++ [digL (s[k].toNat % 16)] = quoteL (s.data.toList.take (k + 1)) := by rw [HE]; simp
        rw [e4] at I4
        go_wp2
        go_roundw
        case rel => exact ⟨k + 1, by omega, by go_num, HK.out, I4, c3.trans b4⟩
        case measure => simp [intOf]; omega
      · have HB : Hid (quoteB s[k] = [s[k]]) := quoteB_yes hb
        go_wp2_with fail
        refine (stays_any s[k] wr).mono ?_
        rintro e w1 ⟨rfl, b1⟩
        rw [hb]
        have c1 := hbe.trans (b1.mono hbe.size)
        go_wp2_with fail
        refine (writeByte_any w.heap.size w.heap.size _ s[k] w1 (bld_below hI b1) (by omega) c1.size).mono ?_
        rintro e w2 ⟨rfl, I2, b2⟩
        have HE := HL.out
        rw [HB.out] at HE
        rw [← HE] at I2
        go_wp2
        go_roundw
        case rel => exact ⟨k + 1, by omega, by go_num, HK.out, I2, c1.trans b2⟩
        case measure => simp [intOf]; omega
    · go_wp2_with fail
      refine (Tryz.Builder_String_any w.heap.size w.heap.size _ wr hI hbe.size).mono ?_
      rintro e w1 ⟨rfl, b1⟩
      go_wp2
      go_ret
      exact ⟨ret_str (by rw [take_all s k hlt]), hbe.trans b1⟩
end Go.Proofs.YtkgdmlfdlkmojaaGreat
