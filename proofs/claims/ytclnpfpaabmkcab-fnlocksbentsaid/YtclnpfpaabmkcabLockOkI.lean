/-
  What the specification's and the program's NameOk do.
  What the specification's and the program's PathOk do.
  What impl.tokenOk does.
  What impl.LockOk and spec.LockOk do.
-/
import Derived.Test.YtclnpfpaabmkcabSpecPl
import Derived.Test.YtclnpfpaabmkcabGenPick
import Derived.Lib.OthersKept
import Derived.Laws.RangeAny
import Derived.Test.YtclnpfpaabmkcabDrawNI
namespace Go.Proofs.Ytclnpfpaabmkcab
open Go.RowKit M

set_option maxHeartbeats 400000 in
theorem specNameOk_any (s : ByteArray) (w : World) (hs : s.size ≤ maxLen) :
    Calls Try.prog 90 #[.string s] w fun e w' => e = .returned (.bool (nameB s)) ∧ w' = w := by
  have hs' := hs
  unfold maxLen at hs'
  go_enter Try.func90, Try.ntmps90
  go_wp2
  go_loop [3] (fun i => ∃ k : Nat, k ≤ s.size ∧ i = .int .i64 k ∧ noSlash (s.data.toList.take k) = true) (fun i => s.size - (intOf i).toNat)
  case atStart => exact ⟨0, Nat.zero_le _, rfl, rfl⟩
  case round =>
    obtain ⟨k, hk, rfl, hn⟩ := hrel
    have HN : Hid (noSlash (s.data.toList.take k) = true) := hn; clear hn
    by_cases hlt : k < s.size
    · go_wp2
      · go_ret
        exact ⟨ret_bool (by rw [noSlash_no s k hlt (by assumption)]), rfl⟩
      · go_round
        case rel => exact ⟨k + 1, by omega, by go_num, noSlash_snoc s k hlt HN.out (by rintro e; simp_all)⟩
        case measure => simp [intOf]; omega
    · have HA : Hid (noSlash s.data.toList = true) := by have := HN.out; rw [take_all s k hlt] at this; exact this
      go_wp2_with (first | (go_at_call 55; refine (l1In_any _ _ _ _).mono ?_; rintro e w' ⟨rfl, rfl⟩) | (go_at_call 100; refine (specPlain_any _ _ hs).mono ?_; rintro e w' ⟨rfl, rfl⟩))
      all_goals
        go_ret
        refine ⟨ret_bool ?_, rfl⟩
        have hA := HA.out
        simp_all [nameB]

set_option maxHeartbeats 1000000 in
theorem nameOk_any (s : ByteArray) (w : World) (hs : s.size ≤ maxLen) :
    Calls Try.prog 89 #[.string s] w fun e w' => e = .returned (.bool (nameB s)) ∧ Below w.heap.size w w' := by
  unfold maxLen at hs
  by_cases hc : (1 ≤ s.size ∧ s.size ≤ 8) ∧ ¬ s.toList = [46] ∧ ¬ s.toList = [46, 46]
  · obtain ⟨⟨h1, h8⟩, hd, hdd⟩ := hc
    have HI : Hid (inB s.size 1 8 = true) := by show inB s.size 1 8 = true; simp [inB]; omega
    have HD : Hid (¬ s.toList = [46] ∧ ¬ s.toList = [46, 46]) := ⟨hd, hdd⟩
    go_enter Try.func89, Try.ntmps89
    go_wp2
    · exfalso; simp_all; omega
    rename_i q1 q2 q3 _ _
    clear q1 q2 q3 hd hdd h1 h8
    go_loopw [] (fun wr => ∃ pos : Nat, wr = w.iter s pos ∧ pos ≤ s.size ∧ noSlash (s.data.toList.take pos) = true ∧ allB (s.data.toList.take pos) [0] = true) (fun wr => s.size - wr.iterPos w.heap.size)
    case atStart => exact ⟨0, rfl, Nat.zero_le _, rfl, rfl⟩
    case round =>
      obtain ⟨pos, rfl, hp, hn0, ha0⟩ := hrel
      have HN : Hid (noSlash (s.data.toList.take pos) = true) := hn0; clear hn0
      have HA : Hid (allB (s.data.toList.take pos) [0] = true) := ha0; clear ha0
      have hbe : Below w.heap.size w (w.iter s pos) := (Below.refl _ _).alloc (Nat.le_refl _) _
      by_cases hlt : pos < s.size
      · by_cases ha : (s[pos]'hlt).toNat < 128
        · have hnx : ∀ ty, (Instr.next (.pointer (some ⟨w.heap.size, 0, none⟩)) true ty).run Try.prog (w.iter s pos) = _ := fun ty => run_next_ascii w s pos ty hlt ha
          have hbe2 : Below w.heap.size w (w.iter s (pos + 1)) := (Below.refl _ _).alloc (Nat.le_refl _) _
          have hit2 := World.iter_heap w s (pos + 1)
          have hit := World.iter_heap w s pos
          by_cases hok : anyB (s[pos].toNat : Int) [0] = true ∧ ¬ s[pos] = 47
          · have HO : Hid (anyB (s[pos].toNat : Int) [0] = true ∧ ¬ s[pos] = 47) := hok
            have h32 : 32 ≤ (s[pos].toNat : Int) ∧ (s[pos].toNat : Int) ≤ 126 := by have := hok.1; simp [anyB, isB] at this; omega
            clear hok
            go_wp2
            · exact (okc_not (by assumption) HO.out).elim
            · go_roundw
              case rel => exact ⟨pos + 1, rfl, by omega, noSlash_snoc s pos hlt HN.out HO.out.2, allB_snoc s [0] pos hlt HA.out (by rw [HO.out.1]; rfl)⟩
              case measure => simp only [World.iterPos, hit2, hit]; omega
          · have HO : Hid (nameB s = false) := by
              show nameB s = false
              by_cases h0 : anyB (s[pos].toNat : Int) [0] = true
              · exact noSlash_no s pos hlt (by have : s[pos] = 47 := Classical.byContradiction fun e => hok ⟨h0, e⟩; rw [this]; rfl)
              · exact plain_no s pos hlt (by simpa using h0)
            go_wp2
            all_goals first
              | (go_ret; exact ⟨ret_bool HO.out.symm, hbe2⟩)
              | (exfalso; exact hok (okc_of (by assumption)))
        · have hh := decode_high s pos hlt (by omega)
          have hd1 := decode_le s pos
          have hnx : ∀ ty, (Instr.next (.pointer (some ⟨w.heap.size, 0, none⟩)) true ty).run Try.prog (w.iter s pos) = _ := fun ty => Lib.run_next_any_at (w.iter s pos) w.heap.size s pos ty (World.iter_heap w s pos) hlt
          have hbe2 := Lib.below_iterAt hbe (Nat.le_refl _) s (pos + (Utf8.decode s pos).2)
          have HP : Hid (nameB s = false) := plain_no s pos hlt (by simp [anyB, isB]; omega)
          go_wp2
          all_goals (go_ret; exact ⟨ret_bool HP.out.symm, hbe2⟩)
      · have hnx : ∀ ty, (Instr.next (.pointer (some ⟨w.heap.size, 0, none⟩)) true ty).run Try.prog (w.iter s pos) = _ := fun ty => run_next_end w s pos ty hlt
        go_wp2
        go_ret
        exact ⟨ret_bool (by rw [nameB_all s (by have := HN.out; rwa [take_all s pos hlt] at this) HI.out (by have := HA.out; rwa [take_all s pos hlt] at this) HD.out.1 HD.out.2]), hbe⟩
  · have HC : Hid (nameB s = false) := by
      show nameB s = false
      by_cases hi : 1 ≤ s.size ∧ s.size ≤ 8
      · by_cases hd : s.toList = [46]
        · simp [nameB, hd]
        · by_cases hdd : s.toList = [46, 46]
          · simp [nameB, hdd]
          · exact absurd ⟨hi, hd, hdd⟩ hc
      · have : inB s.size 1 8 = false := by simp [inB]; omega
        simp [nameB, this]
    go_enter Try.func89, Try.ntmps89
    go_wp2
    all_goals first
      | (go_ret; exact ⟨ret_bool HC.out.symm, Below.refl _ _⟩)
      | (exfalso; apply hc; simp_all; omega)
end Go.Proofs.Ytclnpfpaabmkcab
namespace Go.Proofs.Ytclnpfpaabmkcab
open Go.RowKit M
set_option linter.unusedVariables false


theorem names_snoc (ss : List ByteArray) (k : Nat) (h : k < ss.length) (h0 : (ss.take k).all nameB = true) (h1 : nameB ss[k] = true) : (ss.take (k + 1)).all nameB = true := by
  rw [List.take_succ_eq_append_getElem h, List.all_append, h0]; simp [h1]
theorem names_not (ss : List ByteArray) (k : Nat) (h : k < ss.length) (h1 : nameB ss[k] = false) : pathB ss = false := by
  have : ss.all nameB = false := by rw [List.all_eq_false]; exact ⟨_, List.getElem_mem h, by simp [h1]⟩
  simp [pathB, this]

set_option maxHeartbeats 400000 in
theorem specPathOk_any (a : Option Addr) (ss : List ByteArray) (cap B : Nat) (w : World) (h : Strs w B a ss) (hs : Short ss) (hl : ss.length ≤ maxLen) :
    Calls Try.prog 56 #[.slice a ss.length cap] w fun e w' => e = .returned (.bool (pathB ss)) ∧ w' = w := by
  unfold maxLen at hl
  go_enter Try.func56, Try.ntmps56
  go_wp2
  go_loop [3] (fun i => ∃ k : Nat, k ≤ ss.length ∧ i = .int .i64 k ∧ (ss.take k).all nameB = true) (fun i => ss.length - (intOf i).toNat)
  case atStart => exact ⟨0, Nat.zero_le _, rfl, rfl⟩
  case round =>
    obtain ⟨k, hk, rfl, hn⟩ := hrel
    have HN : Hid ((ss.take k).all nameB = true) := hn; clear hn
    by_cases hlt : k < ss.length
    · obtain ⟨b, o, rfl, hb, hc⟩ := h (by omega)
      have hcx := hc k hlt
      have hsz := hs.at k hlt
      cases hB : nameB ss[k]
      · go_wp2_with (go_at_call 90; refine (specNameOk_any _ _ hsz).mono ?_; rintro e w1 ⟨rfl, hw⟩; obtain rfl := hw.symm; rw [hB])
        go_ret
        exact ⟨ret_bool (names_not ss k hlt hB).symm, rfl⟩
      · go_wp2_with (go_at_call 90; refine (specNameOk_any _ _ hsz).mono ?_; rintro e w1 ⟨rfl, hw⟩; obtain rfl := hw.symm; rw [hB])
        go_round
        case rel => exact ⟨k + 1, by omega, by go_num, names_snoc ss k hlt HN.out hB⟩
        case measure => simp [intOf]; omega
    · go_wp2
      go_ret
      refine ⟨ret_bool ?_, rfl⟩
      have hA := HN.out
      rw [sumS_all ss k hlt] at hA
      simp only [pathB, hA, Bool.true_and]
      exact decide_eq_decide.2 (by omega)

set_option maxHeartbeats 400000 in
theorem pathOk_any (a : Option Addr) (ss : List ByteArray) (cap : Nat) (w : World) (h : Strs w w.heap.size a ss) (hs : Short ss) (hl : ss.length ≤ maxLen) :
    Calls Try.prog 53 #[.slice a ss.length cap] w fun e w' => e = .returned (.bool (pathB ss)) ∧ Below w.heap.size w w' := by
  unfold maxLen at hl
  by_cases h4 : (4 : Int) < ss.length
  · go_enter Try.func53, Try.ntmps53
    go_wp2
    go_ret
    refine ⟨ret_bool ?_, Below.refl _ _⟩
    have : ¬ ss.length ≤ 4 := by omega
    simp [pathB, this]
  · go_enter Try.func53, Try.ntmps53
    go_wp2
    go_loopw [10] (fun i wr => ∃ k : Nat, k ≤ ss.length ∧ i = .int .i64 k ∧ (ss.take k).all nameB = true ∧ Below w.heap.size w wr) (fun i _ => ss.length - (intOf i).toNat)
    case atStart => exact ⟨0, Nat.zero_le _, rfl, rfl, Below.refl _ _⟩
    case round =>
      obtain ⟨k, hk, rfl, hn, hbe⟩ := hrel
      have HN : Hid ((ss.take k).all nameB = true) := hn; clear hn
      by_cases hlt : k < ss.length
      · obtain ⟨b, o, rfl, hb, hc⟩ := (h.below hbe (Nat.le_refl _)) (by omega)
        have hcx := hc k hlt
        have hsz := hs.at k hlt
        cases hB : nameB ss[k]
        · go_wp2_with fail
          refine (nameOk_any _ _ hsz).mono ?_
          rintro e w1 ⟨rfl, hb1⟩
          rw [hB]
          go_wp2
          go_ret
          exact ⟨ret_bool (names_not ss k hlt hB).symm, hbe.trans (hb1.mono hbe.size)⟩
        · go_wp2_with fail
          refine (nameOk_any _ _ hsz).mono ?_
          rintro e w1 ⟨rfl, hb1⟩
          rw [hB]
          go_wp2
          go_roundw
          case rel => exact ⟨k + 1, by omega, by go_num, names_snoc ss k hlt HN.out hB, hbe.trans (hb1.mono hbe.size)⟩
          case measure => simp [intOf]; omega
      · go_wp2
        go_ret
        refine ⟨ret_bool ?_, hbe⟩
        have hA := HN.out
        rw [sumS_all ss k hlt] at hA
        have : ss.length ≤ 4 := by omega
        simp [pathB, hA, this]
end Go.Proofs.Ytclnpfpaabmkcab
namespace Go.Proofs.Ytclnpfpaabmkcab
open Go.RowKit M
set_option linter.unusedVariables false

set_option maxHeartbeats 400000 in
theorem tokenOk_any (x : Int) (w : World) :
    Calls Try.prog 52 #[.int .i64 x] w fun e w' => e = .returned (.bool (inB x 1 9999)) ∧ w' = w := by
  go_enter Try.func52, Try.ntmps52
  go_wp2
  all_goals
    go_ret
    refine ⟨ret_bool ?_, rfl⟩
    go_light
    unfold inB
    simp_all
    try omega
end Go.Proofs.Ytclnpfpaabmkcab
namespace Go.Proofs.Ytclnpfpaabmkcab
open Go.RowKit M
set_option linter.unusedVariables false

set_option maxHeartbeats 400000 in
theorem timeOk_any (x : Int) (w : World) :
    Calls Try.prog 54 #[.int .i64 x] w fun e w' => e = .returned (.bool (inB x 0 9999999)) ∧ w' = w := by
  go_enter Try.func54, Try.ntmps54
  go_wp2
  all_goals
    go_ret
    refine ⟨ret_bool ?_, rfl⟩
    go_light
    unfold inB
    simp_all
    try omega

theorem lockB_is (r : Lk) (z1 z2 z3 : Bool) (h1 : inB r.tk 1 9999 = z1) (h2 : pathB r.pa = z2) (h3 : inB r.un 0 9999999 = z3) : lockB r = (z1 && (z2 && z3)) := by
  unfold lockB; rw [h1, h2, h3]

set_option maxHeartbeats 1000000 in
theorem lockOk_any (r : Lk) (pa : Option Addr) (pc B : Nat) (w : World) (h : LkIn w B r pa pc) (hB : B ≤ w.heap.size) (hs : Short r.pa) :
    Calls Try.prog 15 #[.agg #[.int .i64 r.tk, .slice pa r.pa.length pc, .bool r.de, .bool r.sh, .int .i64 r.un]] w fun e w' => e = .returned (.bool (lockB r)) ∧ Below w.heap.size w w' := by
  have l1 := h.len
  have p1 := h.ph
  obtain ⟨z1, hz1⟩ : ∃ z, inB r.tk 1 9999 = z := ⟨_, rfl⟩
  obtain ⟨z2, hz2⟩ : ∃ z, pathB r.pa = z := ⟨_, rfl⟩
  obtain ⟨z3, hz3⟩ : ∃ z, inB r.un 0 9999999 = z := ⟨_, rfl⟩
  rw [lockB_is r z1 z2 z3 hz1 hz2 hz3]
  clear h
  obtain ⟨tk, ss, de, sh, un⟩ := r
  simp only at *
  have hb0 : Below w.heap.size w (w.alloc (Obj.cells #[.int .i64 tk, .slice pa ss.length pc, .bool de, .bool sh, .int .i64 un] 26)) := (Below.refl _ _).alloc (Nat.le_refl _) _
  have hT := fun W => tokenOk_any tk W
  have hU := fun W => timeOk_any un W
  have hP := pathOk_any pa ss pc _ ((p1.below hb0 hB).mono (Nat.le_trans hB hb0.size)) hs l1
  rw [hz1] at hT
  rw [hz3] at hU
  rw [hz2] at hP
  have HT := hide hT
  have HU := hide hU
  have HP := hide hP
  have HB0 := hide hb0
  clear hT hU hP hz1 hz2 hz3 hb0 p1
  cases z1
  · go_enter Try.func15, Try.ntmps15
    go_wp2_with fail
    refine (HT.out _).mono ?_
    rintro e w1 ⟨rfl, hw⟩
    obtain rfl := hw
    go_wp2
    go_ret
    exact ⟨rfl, HB0.out⟩
  · cases z2
    · go_enter Try.func15, Try.ntmps15
      go_wp2_with fail
      refine (HT.out _).mono ?_
      rintro e w1 ⟨rfl, hw⟩
      obtain rfl := hw
      go_wp2_with fail
      refine HP.out.mono ?_
      rintro e w2 ⟨rfl, hb2⟩
      have c2 := HB0.out.trans (hb2.mono HB0.out.size)
      go_wp2
      go_ret
      exact ⟨rfl, c2⟩
    · go_enter Try.func15, Try.ntmps15
      go_wp2_with fail
      refine (HT.out _).mono ?_
      rintro e w1 ⟨rfl, hw⟩
      obtain rfl := hw
      go_wp2_with fail
      refine HP.out.mono ?_
      rintro e w2 ⟨rfl, hb2⟩
      have c2 := HB0.out.trans (hb2.mono HB0.out.size)
      obtain ⟨hcl, _⟩ := bcellL hb2
      clear hb2
      go_wp2_with fail
      refine (HU.out _).mono ?_
      rintro e w3 ⟨rfl, hw⟩
      obtain rfl := hw.symm
      go_wp2
      go_ret
      exact ⟨rfl, c2⟩

set_option maxHeartbeats 1000000 in
theorem specLockOk_any (r : Lk) (pa : Option Addr) (pc B : Nat) (w : World) (h : LkIn w B r pa pc) (hB : B ≤ w.heap.size) (hs : Short r.pa) :
    Calls Try.prog 16 #[.agg #[.int .i64 r.tk, .slice pa r.pa.length pc, .bool r.de, .bool r.sh, .int .i64 r.un]] w fun e w' => e = .returned (.bool (lockB r)) ∧ Below w.heap.size w w' := by
  have l1 := h.len
  have p1 := h.ph
  obtain ⟨z1, hz1⟩ : ∃ z, inB r.tk 1 9999 = z := ⟨_, rfl⟩
  obtain ⟨z2, hz2⟩ : ∃ z, pathB r.pa = z := ⟨_, rfl⟩
  obtain ⟨z3, hz3⟩ : ∃ z, inB r.un 0 9999999 = z := ⟨_, rfl⟩
  rw [lockB_is r z1 z2 z3 hz1 hz2 hz3]
  clear h
  obtain ⟨tk, ss, de, sh, un⟩ := r
  simp only at *
  have hb0 : Below w.heap.size w (w.alloc (Obj.cells #[.int .i64 tk, .slice pa ss.length pc, .bool de, .bool sh, .int .i64 un] 26)) := (Below.refl _ _).alloc (Nat.le_refl _) _
  have hT := fun W => l1In_any tk 1 9999 W
  have hU := fun W => l1In_any un 0 9999999 W
  have hP := specPathOk_any pa ss pc B _ (p1.below hb0 hB) hs l1
  rw [hz1] at hT
  rw [hz3] at hU
  rw [hz2] at hP
  have HT := hide hT
  have HU := hide hU
  have HP := hide hP
  have HB0 := hide hb0
  clear hT hU hP hz1 hz2 hz3 hb0 p1
  cases z1
  · go_enter Try.func16, Try.ntmps16
    go_wp2_with fail
    refine (HT.out _).mono ?_
    rintro e w1 ⟨rfl, hw⟩
    obtain rfl := hw
    go_wp2
    go_ret
    exact ⟨rfl, HB0.out⟩
  · cases z2
    all_goals
      go_enter Try.func16, Try.ntmps16
      go_wp2_with fail
      refine (HT.out _).mono ?_
      rintro e w1 ⟨rfl, hw⟩
      obtain rfl := hw
      go_wp2_with fail
      refine HP.out.mono ?_
      rintro e w2 ⟨rfl, hw⟩
      obtain rfl := hw
    · go_wp2
      go_ret
      exact ⟨rfl, HB0.out⟩
    · go_wp2_with fail
      refine (HU.out _).mono ?_
      rintro e w3 ⟨rfl, hw⟩
      obtain rfl := hw
      go_wp2
      go_ret
      exact ⟨rfl, HB0.out⟩
end Go.Proofs.Ytclnpfpaabmkcab
