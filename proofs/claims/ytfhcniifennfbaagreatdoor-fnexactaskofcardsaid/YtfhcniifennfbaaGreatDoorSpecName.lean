/-
  What the specification's and the program's NameOk do.
-/
import Derived.Test.YtfhcniifennfbaaGreatDoorKinds
import Derived.Test.YtfhcniifennfbaaGreatDoorMathLock
import Derived.Lib.OthersKept
import Derived.Laws.RangeAny
namespace Go.Proofs.YtfhcniifennfbaaGreatDoor
open Go.RowKit M

set_option maxHeartbeats 400000 in
theorem specNameOk_any (s : ByteArray) (w : World) (hs : s.size ≤ maxLen) :
    Calls Tryz.prog 115 #[.string s] w fun e w' => e = .returned (.bool (nameB s)) ∧ w' = w := by
  have hs' := hs
  unfold maxLen at hs'
  go_enter Tryz.func115, Tryz.ntmps115
  go_wp2
  go_loop [3] (fun i => ∃ k : Nat, k ≤ s.size ∧ i = .int .i64 k ∧ noSlash (s.data.toList.take k) = true) (fun i => s.size - (intOf i).toNat)
  case atStart => exact ⟨0, Nat.zero_le _, rfl, rfl⟩
  case round =>
    obtain ⟨k, hk, rfl, hn⟩ := hrel
    have HN : Hid (noSlash (s.data.toList.take k) = true) := hn; clear hn
    by_cases hlt : k < s.size
    · go_wp2
      · go_ret
        exact ⟨ret_bool (by rw [noSlash_no s k hlt (by assumption)]), rfl⟩
      · go_round
        case rel => exact ⟨k + 1, by omega, by go_num, noSlash_snoc s k hlt HN.out (by rintro e; simp_all)⟩
        case measure => simp [intOf]; omega
    · have HA : Hid (noSlash s.data.toList = true) := by have := HN.out; rw [take_all s k hlt] at this; exact this
      go_wp2_with (first | (go_at_call 113; refine (l1In_any _ _ _ _).mono ?_; rintro e w' ⟨rfl, rfl⟩) | (go_at_call 142; refine (specPlain_any _ _ hs).mono ?_; rintro e w' ⟨rfl, rfl⟩))
      all_goals
        go_ret
        refine ⟨ret_bool ?_, rfl⟩
        have hA := HA.out
        simp_all [nameB]

set_option maxHeartbeats 1000000 in
theorem nameOk_any (s : ByteArray) (w : World) (hs : s.size ≤ maxLen) :
    Calls Tryz.prog 131 #[.string s] w fun e w' => e = .returned (.bool (nameB s)) ∧ Below w.heap.size w w' := by
  unfold maxLen at hs
  by_cases hc : (1 ≤ s.size ∧ s.size ≤ 8) ∧ ¬ s.toList = [46] ∧ ¬ s.toList = [46, 46]
  · obtain ⟨⟨h1, h8⟩, hd, hdd⟩ := hc
    have HI : Hid (inB s.size 1 8 = true) := by show inB s.size 1 8 = true; simp [inB]; omega
    have HD : Hid (¬ s.toList = [46] ∧ ¬ s.toList = [46, 46]) := ⟨hd, hdd⟩
    go_enter Tryz.func131, Tryz.ntmps131
    go_wp2
    · exfalso; simp_all; omega
    rename_i q1 q2 q3 _ _
    clear q1 q2 q3 hd hdd h1 h8
    go_loopw [] (fun wr => ∃ pos : Nat, wr = w.iter s pos ∧ pos ≤ s.size ∧ noSlash (s.data.toList.take pos) = true ∧ allB (s.data.toList.take pos) [0] = true) (fun wr => s.size - wr.iterPos w.heap.size)
    case atStart => exact ⟨0, rfl, Nat.zero_le _, rfl, rfl⟩
    case round =>
      obtain ⟨pos, rfl, hp, hn0, ha0⟩ := hrel
      have HN : Hid (noSlash (s.data.toList.take pos) = true) := hn0; clear hn0
      have HA : Hid (allB (s.data.toList.take pos) [0] = true) := ha0; clear ha0
      have hbe : Below w.heap.size w (w.iter s pos) := (Below.refl _ _).alloc (Nat.le_refl _) _
      by_cases hlt : pos < s.size
      · by_cases ha : (s[pos]'hlt).toNat < 128
        · have hnx : ∀ ty, (Instr.next (.pointer (some ⟨w.heap.size, 0, none⟩)) true ty).run Tryz.prog (w.iter s pos) = _ := fun ty => run_next_ascii w s pos ty hlt ha
          have hbe2 : Below w.heap.size w (w.iter s (pos + 1)) := (Below.refl _ _).alloc (Nat.le_refl _) _
          have hit2 := World.iter_heap w s (pos + 1)
          have hit := World.iter_heap w s pos
          by_cases hok : anyB (s[pos].toNat : Int) [0] = true ∧ ¬ s[pos] = 47
          · have HO : Hid (anyB (s[pos].toNat : Int) [0] = true ∧ ¬ s[pos] = 47) := hok
            have h32 : 32 ≤ (s[pos].toNat : Int) ∧ (s[pos].toNat : Int) ≤ 126 := by have := hok.1; simp [anyB, isB] at this; omega
            clear hok
            go_wp2
            · exact (okc_not (by assumption) HO.out).elim
            · go_roundw
              case rel => exact ⟨pos + 1, rfl, by omega, noSlash_snoc s pos hlt HN.out HO.out.2, allB_snoc s [0] pos hlt HA.out (by rw [HO.out.1]; rfl)⟩
              case measure => simp only [World.iterPos, hit2, hit]; omega
          · have HO : Hid (nameB s = false) := by
              show nameB s = false
              by_cases h0 : anyB (s[pos].toNat : Int) [0] = true
              · exact noSlash_no s pos hlt (by have : s[pos] = 47 := Classical.byContradiction fun e => hok ⟨h0, e⟩; rw [this]; rfl)
              · exact plain_no s pos hlt (by simpa using h0)
            go_wp2
            all_goals first
              | (go_ret; exact ⟨ret_bool HO.out.symm, hbe2⟩)
              | (exfalso; exact hok (okc_of (by assumption)))
        · have hh := decode_high s pos hlt (by omega)
          have hd1 := decode_le s pos
          have hnx : ∀ ty, (Instr.next (.pointer (some ⟨w.heap.size, 0, none⟩)) true ty).run Tryz.prog (w.iter s pos) = _ := fun ty => Lib.run_next_any_at (w.iter s pos) w.heap.size s pos ty (World.iter_heap w s pos) hlt
          have hbe2 := Lib.below_iterAt hbe (Nat.le_refl _) s (pos + (Utf8.decode s pos).2)
          have HP : Hid (nameB s = false) := plain_no s pos hlt (by simp [anyB, isB]; omega)
          go_wp2
          all_goals (go_ret; exact ⟨ret_bool HP.out.symm, hbe2⟩)
      · have hnx : ∀ ty, (Instr.next (.pointer (some ⟨w.heap.size, 0, none⟩)) true ty).run Tryz.prog (w.iter s pos) = _ := fun ty => run_next_end w s pos ty hlt
        go_wp2
        go_ret
        exact ⟨ret_bool (by rw [nameB_all s (by have := HN.out; rwa [take_all s pos hlt] at this) HI.out (by have := HA.out; rwa [take_all s pos hlt] at this) HD.out.1 HD.out.2]), hbe⟩
  · have HC : Hid (nameB s = false) := by
      show nameB s = false
      by_cases hi : 1 ≤ s.size ∧ s.size ≤ 8
      · by_cases hd : s.toList = [46]
        · simp [nameB, hd]
        · by_cases hdd : s.toList = [46, 46]
          · simp [nameB, hdd]
          · exact absurd ⟨hi, hd, hdd⟩ hc
      · have : inB s.size 1 8 = false := by simp [inB]; omega
        simp [nameB, this]
    go_enter Tryz.func131, Tryz.ntmps131
    go_wp2
    all_goals first
      | (go_ret; exact ⟨ret_bool HC.out.symm, Below.refl _ _⟩)
      | (exfalso; apply hc; simp_all; omega)
end Go.Proofs.YtfhcniifennfbaaGreatDoor
