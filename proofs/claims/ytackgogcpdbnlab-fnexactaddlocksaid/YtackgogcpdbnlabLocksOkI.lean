/-
  Two answers that are the same.
  Whether two slices of texts hold the same: what slices.Equal[[]string,string] does.
  What the program's Under does.
  What the program's SamePath does.
  What impl.Covers does.
  What impl.LockClash does.
  What the specification's l1In does; a byte as an int.
  What the specification's own Plain does.
  What the specification's and the program's NameOk do.
  What the specification's and the program's PathOk do.
  What impl.LockOk and spec.LockOk do.
  What impl.barEachOther, noTwo at it, and impl.LocksOk do.
-/
import Derived.Test.YtackgogcpdbnlabRows
import Derived.WalkKit
import Derived.Test.YtackgogcpdbnlabGenPick
import Derived.WalkSpells
import Derived.WalkLawsBesides
import Derived.Deep.Light
import Derived.Lib.OthersKept
import Derived.Laws.RangeAny
import Derived.Test.YtackgogcpdbnlabDropI
namespace Go.Proofs.Ytackgogcpdbnlab

theorem ret_bool {a b : Bool} (h : a = b) : Ending.returned (.bool a) = .returned (.bool b) := by rw [h]
end Go.Proofs.Ytackgogcpdbnlab
namespace Go.Proofs.Ytackgogcpdbnlab
open Go.RowKit
set_option linter.unusedVariables false

set_option maxHeartbeats 400000 in
theorem slicesEqual_any (a b : Option Addr) (ss tt : List ByteArray) (cap cap' B C : Nat) (w : World) (h : Strs w B a ss) (h' : Strs w C b tt) (hl : ss.length ≤ maxLen) (hl' : tt.length ≤ maxLen) :
    Calls Try.prog 79 #[.slice a ss.length cap, .slice b tt.length cap'] w fun e w' => e = .returned (.bool (sameL ss tt)) ∧ ∀ D, Below D w w' := by
  unfold maxLen at hl hl'
  by_cases hlen : ss.length = tt.length
  · have HL : Hid (ss.length = tt.length) := hlen
    go_enter Try.func79, Try.ntmps79
    rw [← hlen]
    clear hlen
    go_wp2
    go_loopw [13] (fun i wr => ∃ k n : Nat, k ≤ ss.length ∧ i = .int .i64 k ∧ ss.take k = tt.take k ∧ wr = w.drewN n) (fun i _ => ss.length - (intOf i).toNat)
    case atStart => exact ⟨0, 0, Nat.zero_le _, rfl, rfl, rfl⟩
    case round =>
      obtain ⟨k, n, hk, rfl, ht, rfl⟩ := hrel
      have HT : Hid (ss.take k = tt.take k) := ht
      clear ht
      by_cases hlt : k < ss.length
      · have hlt' : k < tt.length := by have := HL.out; omega
        obtain ⟨b1, o1, rfl, hb1, hc1⟩ := h (by omega)
        obtain ⟨b2, o2, rfl, hb2, hc2⟩ := h' (by have := HL.out; omega)
        have hcx := hc1 k hlt
        have hcy := hc2 k hlt'
        go_wp2
        go_quiet (fail)
        go_wp2
        · rename_i hne
          have hne' : ¬ ss[k] = tt[k] := fun e => by rw [e] at hne; simp at hne
          go_ret
          exact ⟨ret_bool (sameL_not k hlt hlt' hne').symm, fun D => below_drewN (below_drewN (Below.refl _ _) _) _⟩
        · rename_i he
          have he' : ss[k] = tt[k] := str_inj (by simpa using he)
          go_roundw
          case rel => exact ⟨k + 1, n + nq, by omega, by go_num, take_same k hlt hlt' HT.out he', by simp⟩
          case measure => simp [intOf]; omega
      · go_wp2
        go_ret
        exact ⟨ret_bool (sameL_all HL.out k hlt HT.out).symm, fun D => below_drewN (Below.refl _ _) _⟩
  · have HS := sameL_len hlen
    go_enter Try.func79, Try.ntmps79
    go_wp2
    go_ret
    exact ⟨ret_bool HS.symm, fun D => Below.refl _ _⟩
end Go.Proofs.Ytackgogcpdbnlab
namespace Go.Proofs.Ytackgogcpdbnlab
open Go.RowKit
set_option linter.unusedVariables false

set_option maxHeartbeats 400000 in
theorem under_any (a b : Option Addr) (ss tt : List ByteArray) (cap cap' B C : Nat) (w : World) (h : Strs w B a ss) (h' : Strs w C b tt) (hl : ss.length ≤ maxLen) (hl' : tt.length ≤ maxLen) (hc : ss.length ≤ cap) (hc' : cap ≤ maxLen) :
    Calls Try.prog 68 #[.slice a ss.length cap, .slice b tt.length cap'] w fun e w' => e = .returned (.bool (underB ss tt)) ∧ ∀ D, Below D w w' := by
  have hl1 := hl
  have hl2 := hl'
  have hc2 := hc'
  unfold maxLen at hl hl' hc'
  by_cases hlt : tt.length < ss.length
  · have ht : (ss.take tt.length).length = tt.length := by rw [List.length_take]; omega
    have cE := fun w1 cap1 (hh : Strs w1 B a ss) (hh' : Strs w1 C b tt) => slicesEqual_any a b (ss.take tt.length) tt cap1 cap' B C w1 (hh.take _) hh' (by omega) hl2
    rw [ht] at cE
    obtain ⟨b1, o1, rfl, _, _⟩ := h (by omega)
    go_enter Try.func68, Try.ntmps68
    go_wp2_with fail
    refine (cE _ _ h h').mono ?_
    rintro e w1 ⟨rfl, hb⟩
    go_wp2
    go_ret
    exact ⟨ret_bool (by simp [underB, hlt]), hb⟩
  · go_enter Try.func68, Try.ntmps68
    go_wp2
    go_ret
    exact ⟨ret_bool (by simp [underB, hlt]), fun D => Below.refl _ _⟩

end Go.Proofs.Ytackgogcpdbnlab
namespace Go.Proofs.Ytackgogcpdbnlab
open Go.RowKit
set_option linter.unusedVariables false

set_option maxHeartbeats 400000 in
theorem samePath_any (a b : Option Addr) (ss tt : List ByteArray) (cap cap' B C : Nat) (w : World) (h : Strs w B a ss) (h' : Strs w C b tt) (hl : ss.length ≤ maxLen) (hl' : tt.length ≤ maxLen) :
    Calls Try.prog 67 #[.slice a ss.length cap, .slice b tt.length cap'] w fun e w' => e = .returned (.bool (sameL ss tt)) ∧ ∀ D, Below D w w' := by
  go_enter Try.func67, Try.ntmps67
  go_wp2_with fail
  refine (slicesEqual_any a b ss tt cap cap' B C w h h' hl hl').mono ?_
  rintro e w1 ⟨rfl, hb⟩
  go_wp2
  go_ret
  exact ⟨rfl, hb⟩
end Go.Proofs.Ytackgogcpdbnlab
namespace Go.Proofs.Ytackgogcpdbnlab
open Go.RowKit M
set_option linter.unusedVariables false

set_option maxHeartbeats 1000000 in
theorem covers_any (r : Lk) (pa : Option Addr) (pc : Nat) (a : Option Addr) (ss : List ByteArray) (cap B C : Nat) (w : World) (h : LkIn w B r pa pc) (hB : B ≤ w.heap.size) (h' : Strs w C a ss) (hC : C ≤ w.heap.size) (hl : ss.length ≤ cap) (hm : cap ≤ maxLen) :
    Calls Try.prog 49 #[.agg #[.int .i64 r.tk, .slice pa r.pa.length pc, .bool r.de, .bool r.sh, .int .i64 r.un], .slice a ss.length cap] w fun e w' => e = .returned (.bool (covB r ss)) ∧ Below w.heap.size w w' := by
  have l1 := h.len
  have p1 := h.ph
  have l2 : ss.length ≤ maxLen := Nat.le_trans hl hm
  have F1 : Hid (sameL r.pa ss = true → covB r ss = true) := fun e => by unfold covB; rw [e]; rfl
  have F2 : Hid (sameL r.pa ss = false → r.de = false → covB r ss = false) := fun e e' => by unfold covB; rw [e, e']; rfl
  have F3 : Hid (sameL r.pa ss = false → r.de = true → covB r ss = underB ss r.pa) := fun e e' => by unfold covB; rw [e, e']; rfl
  generalize covB r ss = dd at *
  clear h
  obtain ⟨tk, tt, de, sh, un⟩ := r
  simp only at *
  have hb0 : Below w.heap.size w (w.alloc (Obj.cells #[.int .i64 tk, .slice pa tt.length pc, .bool de, .bool sh, .int .i64 un] 32)) := (Below.refl _ _).alloc (Nat.le_refl _) _
  have hS := samePath_any pa a tt ss pc cap B C _ (p1.below hb0 hB) (h'.below hb0 hC) l1 l2
  have HU := hide (fun w1 (hb : ∀ D, Below D (w.alloc (Obj.cells #[.int .i64 tk, .slice pa tt.length pc, .bool de, .bool sh, .int .i64 un] 32)) w1) => under_any a pa ss tt cap pc C B w1 ((h'.below hb0 hC).below (hb _) (Nat.le_refl _)) ((p1.below hb0 hB).below (hb _) (Nat.le_refl _)) l2 l1 hl hm)
  have HB0 := hide hb0
  clear hb0 p1 h'
  obtain ⟨z, hz⟩ : ∃ z, sameL tt ss = z := ⟨_, rfl⟩
  rw [hz] at hS
  have HS := hide hS
  clear hS
  cases z
  · cases de
    · rw [F2.out hz rfl]
      clear hz
      go_enter Try.func49, Try.ntmps49
      go_wp2_with fail
      refine HS.out.mono ?_
      rintro e w1 ⟨rfl, hb1⟩
      have hcl : ∀ b o, w1.cell? ⟨b, o, none⟩ = _ := fun b o => (hb1 (b + 1)).cell (p := ⟨b, o, none⟩) (Nat.lt_succ_self _)
      have HC1 := hide (HB0.out.trans (hb1 _))
      clear hb1
      go_wp2
      go_ret
      exact ⟨rfl, HC1.out⟩
    · rw [F3.out hz rfl]
      clear hz
      go_enter Try.func49, Try.ntmps49
      go_wp2_with fail
      refine HS.out.mono ?_
      rintro e w1 ⟨rfl, hb1⟩
      have hcl : ∀ b o, w1.cell? ⟨b, o, none⟩ = _ := fun b o => (hb1 (b + 1)).cell (p := ⟨b, o, none⟩) (Nat.lt_succ_self _)
      have HC1 := hide (HB0.out.trans (hb1 _))
      have HU1 := hide (HU.out w1 hb1)
      clear hb1
      go_wp2_with fail
      refine HU1.out.mono ?_
      rintro e w2 ⟨rfl, hb2⟩
      have c2 := HC1.out.trans (hb2 _)
      go_wp2
      go_ret
      exact ⟨rfl, c2⟩
  · rw [F1.out hz]
    clear hz
    go_enter Try.func49, Try.ntmps49
    go_wp2_with fail
    refine HS.out.mono ?_
    rintro e w1 ⟨rfl, hb1⟩
    have HC1 := hide (HB0.out.trans (hb1 _))
    clear hb1
    go_wp2
    go_ret
    exact ⟨rfl, HC1.out⟩
end Go.Proofs.Ytackgogcpdbnlab
namespace Go.Proofs.Ytackgogcpdbnlab
open Go.RowKit M
set_option linter.unusedVariables false

set_option maxHeartbeats 2000000 in
theorem lockClash_any (r : Lk) (pa : Option Addr) (pc : Nat) (s : Lk) (qa : Option Addr) (qc B C : Nat) (w : World) (h : LkIn w B r pa pc) (hB : B ≤ w.heap.size) (h' : LkIn w C s qa qc) (hC : C ≤ w.heap.size) :
    Calls Try.prog 77 #[.agg #[.int .i64 r.tk, .slice pa r.pa.length pc, .bool r.de, .bool r.sh, .int .i64 r.un], .agg #[.int .i64 s.tk, .slice qa s.pa.length qc, .bool s.de, .bool s.sh, .int .i64 s.un]] w fun e w' => e = .returned (.bool (clashB r s)) ∧ Below w.heap.size w w' := by
  have F0 : Hid (r.sh = true → s.sh = true → clashB r s = false) := fun e e' => by unfold clashB; rw [e, e']; rfl
  have F1 : Hid ((!r.sh || !s.sh) = true → covB r s.pa = true → clashB r s = true) := fun e e' => by unfold clashB; rw [e, e']; rfl
  have F2 : Hid ((!r.sh || !s.sh) = true → covB r s.pa = false → clashB r s = covB s r.pa) := fun e e' => by unfold clashB; rw [e, e']; rfl
  have hb0 : Below w.heap.size w ((w.alloc (Obj.cells #[.int .i64 r.tk, .slice pa r.pa.length pc, .bool r.de, .bool r.sh, .int .i64 r.un] 32)).alloc (Obj.cells #[.int .i64 s.tk, .slice qa s.pa.length qc, .bool s.de, .bool s.sh, .int .i64 s.un] 32)) := ((Below.refl _ _).alloc (Nat.le_refl _) _).alloc (by simp) _
  have hS := covers_any r pa pc qa s.pa qc B C _ (h.below hb0 hB) (Nat.le_trans hB hb0.size) (h'.ph.below hb0 hC) (Nat.le_trans hC hb0.size) h'.pl h'.pm
  have HU := hide (fun w1 (hb : Below w.heap.size w w1) => covers_any s qa qc pa r.pa pc C B w1 (h'.below hb hC) (Nat.le_trans hC hb.size) (h.ph.below hb hB) (Nat.le_trans hB hb.size) h.pl h.pm)
  have HB0 := hide hb0
  obtain ⟨z1, hz1⟩ : ∃ z, covB r s.pa = z := ⟨_, rfl⟩
  obtain ⟨z2, hz2⟩ : ∃ z, covB s r.pa = z := ⟨_, rfl⟩
  rw [hz1] at hS F1 F2
  rw [hz2] at HU F2
  generalize clashB r s = dd at *
  clear hb0 h h' hz1 hz2
  obtain ⟨tk, ss, de, sh, un⟩ := r
  obtain ⟨tk', ss', de', sh', un'⟩ := s
  simp only at *
  have HS := hide hS
  clear hS
  by_cases hsh : (!sh || !sh') = true
  · have hdd : dd = if z1 = true then true else z2 := by
      cases z1
      · rw [F2.out hsh rfl]; rfl
      · rw [F1.out hsh rfl]; rfl
    clear F0 F1 F2
    have hsh2 : sh = false ∨ (sh = true ∧ sh' = false) := by cases sh <;> cases sh' <;> simp_all
    clear hsh
    rcases hsh2 with rfl | ⟨rfl, rfl⟩
    all_goals
      cases z1
      · obtain rfl : dd = z2 := by simpa using hdd
        clear hdd
        go_enter Try.func77, Try.ntmps77
        go_wp2_with fail
        refine HS.out.mono ?_
        rintro e w1 ⟨rfl, hb1⟩
        obtain ⟨hcl, _⟩ := bcellL hb1
        have HC1 := hide (HB0.out.trans (hb1.mono HB0.out.size))
        have HU1 := hide (HU.out w1 HC1.out)
        clear hb1
        go_wp2_with fail
        refine HU1.out.mono ?_
        rintro e w2 ⟨rfl, hb2⟩
        have c2 := HC1.out.trans (hb2.mono HC1.out.size)
        go_wp2
        go_ret
        exact ⟨rfl, c2⟩
      · obtain rfl : dd = true := by simpa using hdd
        clear hdd
        go_enter Try.func77, Try.ntmps77
        go_wp2_with fail
        refine HS.out.mono ?_
        rintro e w1 ⟨rfl, hb1⟩
        have HC1 := hide (HB0.out.trans (hb1.mono HB0.out.size))
        clear hb1
        go_wp2
        go_ret
        exact ⟨rfl, HC1.out⟩
  · have hsh2 : sh = true ∧ sh' = true := by cases sh <;> cases sh' <;> simp_all
    obtain ⟨rfl, rfl⟩ := hsh2
    rw [F0.out rfl rfl]
    clear hsh
    go_enter Try.func77, Try.ntmps77
    go_wp2
    go_ret
    exact ⟨rfl, HB0.out⟩
end Go.Proofs.Ytackgogcpdbnlab
namespace Go.Proofs.Ytackgogcpdbnlab
open Go.RowKit M

set_option maxHeartbeats 400000 in
theorem l1In_any (x a b : Int) (w : World) :
    Calls Try.prog 72 #[.int .i64 x, .int .i64 a, .int .i64 b] w fun e w' => e = .returned (.bool (inB x a b)) ∧ w' = w := by
  go_enter Try.func72, Try.ntmps72
  go_wp2
  all_goals
    go_ret
    refine ⟨ret_bool ?_, rfl⟩
    go_light
    unfold inB
    simp_all
    try omega

theorem wrap64_u8 (c : UInt8) : wrap64 (c.toNat : Int) = c.toNat := by
  have := c.toNat_lt
  unfold wrap64
  omega
end Go.Proofs.Ytackgogcpdbnlab
namespace Go.Proofs.Ytackgogcpdbnlab
open Go.RowKit M

set_option maxHeartbeats 400000 in
theorem specPlain_any (s : ByteArray) (w : World) (hs : s.size ≤ maxLen) :
    Calls Try.prog 83 #[.string s] w fun e w' => e = .returned (.bool (allB s.data.toList [0])) ∧ w' = w := by
  unfold maxLen at hs
  go_enter Try.func83, Try.ntmps83
  go_wp2
  go_loop [3] (fun i => ∃ k : Nat, k ≤ s.size ∧ i = .int .i64 k ∧ allB (s.data.toList.take k) [0] = true) (fun i => s.size - (intOf i).toNat)
  case atStart => exact ⟨0, Nat.zero_le _, rfl, rfl⟩
  case round =>
    obtain ⟨k, hk, rfl, hn⟩ := hrel
    have HN : Hid (allB (s.data.toList.take k) [0] = true) := hn; clear hn
    by_cases hlt : k < s.size
    · go_wp2_with (go_at_call 72; refine (l1In_any _ _ _ _).mono ?_; rintro e w' ⟨rfl, rfl⟩; rw [wrap64_u8, inB_plain])
      · go_ret
        exact ⟨ret_bool (by rw [allB_not s [0] k hlt (by assumption)]), rfl⟩
      · go_round
        case rel => exact ⟨k + 1, by omega, by go_num, allB_snoc s [0] k hlt HN.out (by assumption)⟩
        case measure => simp [intOf]; omega
    · go_wp2
      go_ret
      exact ⟨ret_bool (by rw [← HN.out, take_all s k hlt]), rfl⟩

end Go.Proofs.Ytackgogcpdbnlab
namespace Go.Proofs.Ytackgogcpdbnlab
open Go.RowKit M

set_option maxHeartbeats 400000 in
theorem specNameOk_any (s : ByteArray) (w : World) (hs : s.size ≤ maxLen) :
    Calls Try.prog 80 #[.string s] w fun e w' => e = .returned (.bool (nameB s)) ∧ w' = w := by
  have hs' := hs
  unfold maxLen at hs'
  go_enter Try.func80, Try.ntmps80
  go_wp2
  go_loop [3] (fun i => ∃ k : Nat, k ≤ s.size ∧ i = .int .i64 k ∧ noSlash (s.data.toList.take k) = true) (fun i => s.size - (intOf i).toNat)
  case atStart => exact ⟨0, Nat.zero_le _, rfl, rfl⟩
  case round =>
    obtain ⟨k, hk, rfl, hn⟩ := hrel
    have HN : Hid (noSlash (s.data.toList.take k) = true) := hn; clear hn
    by_cases hlt : k < s.size
    · go_wp2
      · go_ret
        exact ⟨ret_bool (by rw [noSlash_no s k hlt (by assumption)]), rfl⟩
      · go_round
        case rel => exact ⟨k + 1, by omega, by go_num, noSlash_snoc s k hlt HN.out (by rintro e; simp_all)⟩
        case measure => simp [intOf]; omega
    · have HA : Hid (noSlash s.data.toList = true) := by have := HN.out; rw [take_all s k hlt] at this; exact this
      go_wp2_with (first | (go_at_call 72; refine (l1In_any _ _ _ _).mono ?_; rintro e w' ⟨rfl, rfl⟩) | (go_at_call 83; refine (specPlain_any _ _ hs).mono ?_; rintro e w' ⟨rfl, rfl⟩))
      all_goals
        go_ret
        refine ⟨ret_bool ?_, rfl⟩
        have hA := HA.out
        simp_all [nameB]

set_option maxHeartbeats 1000000 in
theorem nameOk_any (s : ByteArray) (w : World) (hs : s.size ≤ maxLen) :
    Calls Try.prog 81 #[.string s] w fun e w' => e = .returned (.bool (nameB s)) ∧ Below w.heap.size w w' := by
  unfold maxLen at hs
  by_cases hc : (1 ≤ s.size ∧ s.size ≤ 8) ∧ ¬ s.toList = [46] ∧ ¬ s.toList = [46, 46]
  · obtain ⟨⟨h1, h8⟩, hd, hdd⟩ := hc
    have HI : Hid (inB s.size 1 8 = true) := by show inB s.size 1 8 = true; simp [inB]; omega
    have HD : Hid (¬ s.toList = [46] ∧ ¬ s.toList = [46, 46]) := ⟨hd, hdd⟩
    go_enter Try.func81, Try.ntmps81
    go_wp2
    · exfalso; simp_all; omega
    rename_i q1 q2 q3 _ _
    clear q1 q2 q3 hd hdd h1 h8
    go_loopw [] (fun wr => ∃ pos : Nat, wr = w.iter s pos ∧ pos ≤ s.size ∧ noSlash (s.data.toList.take pos) = true ∧ allB (s.data.toList.take pos) [0] = true) (fun wr => s.size - wr.iterPos w.heap.size)
    case atStart => exact ⟨0, rfl, Nat.zero_le _, rfl, rfl⟩
    case round =>
      obtain ⟨pos, rfl, hp, hn0, ha0⟩ := hrel
      have HN : Hid (noSlash (s.data.toList.take pos) = true) := hn0; clear hn0
      have HA : Hid (allB (s.data.toList.take pos) [0] = true) := ha0; clear ha0
      have hbe : Below w.heap.size w (w.iter s pos) := (Below.refl _ _).alloc (Nat.le_refl _) _
      by_cases hlt : pos < s.size
      · by_cases ha : (s[pos]'hlt).toNat < 128
        · have hnx : ∀ ty, (Instr.next (.pointer (some ⟨w.heap.size, 0, none⟩)) true ty).run Try.prog (w.iter s pos) = _ := fun ty => run_next_ascii w s pos ty hlt ha
          have hbe2 : Below w.heap.size w (w.iter s (pos + 1)) := (Below.refl _ _).alloc (Nat.le_refl _) _
          have hit2 := World.iter_heap w s (pos + 1)
          have hit := World.iter_heap w s pos
          by_cases hok : anyB (s[pos].toNat : Int) [0] = true ∧ ¬ s[pos] = 47
          · have HO : Hid (anyB (s[pos].toNat : Int) [0] = true ∧ ¬ s[pos] = 47) := hok
            have h32 : 32 ≤ (s[pos].toNat : Int) ∧ (s[pos].toNat : Int) ≤ 126 := by have := hok.1; simp [anyB, isB] at this; omega
            clear hok
            go_wp2
            · exact (okc_not (by assumption) HO.out).elim
            · go_roundw
              case rel => exact ⟨pos + 1, rfl, by omega, noSlash_snoc s pos hlt HN.out HO.out.2, allB_snoc s [0] pos hlt HA.out (by rw [HO.out.1]; rfl)⟩
              case measure => simp only [World.iterPos, hit2, hit]; omega
          · have HO : Hid (nameB s = false) := by
              show nameB s = false
              by_cases h0 : anyB (s[pos].toNat : Int) [0] = true
              · exact noSlash_no s pos hlt (by have : s[pos] = 47 := Classical.byContradiction fun e => hok ⟨h0, e⟩; rw [this]; rfl)
              · exact plain_no s pos hlt (by simpa using h0)
            go_wp2
            all_goals first
              | (go_ret; exact ⟨ret_bool HO.out.symm, hbe2⟩)
              | (exfalso; exact hok (okc_of (by assumption)))
        · have hh := decode_high s pos hlt (by omega)
          have hd1 := decode_le s pos
          have hnx : ∀ ty, (Instr.next (.pointer (some ⟨w.heap.size, 0, none⟩)) true ty).run Try.prog (w.iter s pos) = _ := fun ty => Lib.run_next_any_at (w.iter s pos) w.heap.size s pos ty (World.iter_heap w s pos) hlt
          have hbe2 := Lib.below_iterAt hbe (Nat.le_refl _) s (pos + (Utf8.decode s pos).2)
          have HP : Hid (nameB s = false) := plain_no s pos hlt (by simp [anyB, isB]; omega)
          go_wp2
          all_goals (go_ret; exact ⟨ret_bool HP.out.symm, hbe2⟩)
      · have hnx : ∀ ty, (Instr.next (.pointer (some ⟨w.heap.size, 0, none⟩)) true ty).run Try.prog (w.iter s pos) = _ := fun ty => run_next_end w s pos ty hlt
        go_wp2
        go_ret
        exact ⟨ret_bool (by rw [nameB_all s (by have := HN.out; rwa [take_all s pos hlt] at this) HI.out (by have := HA.out; rwa [take_all s pos hlt] at this) HD.out.1 HD.out.2]), hbe⟩
  · have HC : Hid (nameB s = false) := by
      show nameB s = false
      by_cases hi : 1 ≤ s.size ∧ s.size ≤ 8
      · by_cases hd : s.toList = [46]
        · simp [nameB, hd]
        · by_cases hdd : s.toList = [46, 46]
          · simp [nameB, hdd]
          · exact absurd ⟨hi, hd, hdd⟩ hc
      · have : inB s.size 1 8 = false := by simp [inB]; omega
        simp [nameB, this]
    go_enter Try.func81, Try.ntmps81
    go_wp2
    all_goals first
      | (go_ret; exact ⟨ret_bool HC.out.symm, Below.refl _ _⟩)
      | (exfalso; apply hc; simp_all; omega)
end Go.Proofs.Ytackgogcpdbnlab
namespace Go.Proofs.Ytackgogcpdbnlab
open Go.RowKit M
set_option linter.unusedVariables false


theorem names_snoc (ss : List ByteArray) (k : Nat) (h : k < ss.length) (h0 : (ss.take k).all nameB = true) (h1 : nameB ss[k] = true) : (ss.take (k + 1)).all nameB = true := by
  rw [List.take_succ_eq_append_getElem h, List.all_append, h0]; simp [h1]
theorem names_not (ss : List ByteArray) (k : Nat) (h : k < ss.length) (h1 : nameB ss[k] = false) : pathB ss = false := by
  have : ss.all nameB = false := by rw [List.all_eq_false]; exact ⟨_, List.getElem_mem h, by simp [h1]⟩
  simp [pathB, this]

set_option maxHeartbeats 400000 in
theorem specPathOk_any (a : Option Addr) (ss : List ByteArray) (cap B : Nat) (w : World) (h : Strs w B a ss) (hs : Short ss) (hl : ss.length ≤ maxLen) :
    Calls Try.prog 73 #[.slice a ss.length cap] w fun e w' => e = .returned (.bool (pathB ss)) ∧ w' = w := by
  unfold maxLen at hl
  go_enter Try.func73, Try.ntmps73
  go_wp2
  go_loop [3] (fun i => ∃ k : Nat, k ≤ ss.length ∧ i = .int .i64 k ∧ (ss.take k).all nameB = true) (fun i => ss.length - (intOf i).toNat)
  case atStart => exact ⟨0, Nat.zero_le _, rfl, rfl⟩
  case round =>
    obtain ⟨k, hk, rfl, hn⟩ := hrel
    have HN : Hid ((ss.take k).all nameB = true) := hn; clear hn
    by_cases hlt : k < ss.length
    · obtain ⟨b, o, rfl, hb, hc⟩ := h (by omega)
      have hcx := hc k hlt
      have hsz := hs.at k hlt
      cases hB : nameB ss[k]
      · go_wp2_with (go_at_call 80; refine (specNameOk_any _ _ hsz).mono ?_; rintro e w1 ⟨rfl, hw⟩; obtain rfl := hw.symm; rw [hB])
        go_ret
        exact ⟨ret_bool (names_not ss k hlt hB).symm, rfl⟩
      · go_wp2_with (go_at_call 80; refine (specNameOk_any _ _ hsz).mono ?_; rintro e w1 ⟨rfl, hw⟩; obtain rfl := hw.symm; rw [hB])
        go_round
        case rel => exact ⟨k + 1, by omega, by go_num, names_snoc ss k hlt HN.out hB⟩
        case measure => simp [intOf]; omega
    · go_wp2
      go_ret
      refine ⟨ret_bool ?_, rfl⟩
      have hA := HN.out
      rw [sumS_all ss k hlt] at hA
      simp only [pathB, hA, Bool.true_and]
      exact decide_eq_decide.2 (by omega)

set_option maxHeartbeats 400000 in
theorem pathOk_any (a : Option Addr) (ss : List ByteArray) (cap : Nat) (w : World) (h : Strs w w.heap.size a ss) (hs : Short ss) (hl : ss.length ≤ maxLen) :
    Calls Try.prog 75 #[.slice a ss.length cap] w fun e w' => e = .returned (.bool (pathB ss)) ∧ Below w.heap.size w w' := by
  unfold maxLen at hl
  by_cases h4 : (4 : Int) < ss.length
  · go_enter Try.func75, Try.ntmps75
    go_wp2
    go_ret
    refine ⟨ret_bool ?_, Below.refl _ _⟩
    have : ¬ ss.length ≤ 4 := by omega
    simp [pathB, this]
  · go_enter Try.func75, Try.ntmps75
    go_wp2
    go_loopw [10] (fun i wr => ∃ k : Nat, k ≤ ss.length ∧ i = .int .i64 k ∧ (ss.take k).all nameB = true ∧ Below w.heap.size w wr) (fun i _ => ss.length - (intOf i).toNat)
    case atStart => exact ⟨0, Nat.zero_le _, rfl, rfl, Below.refl _ _⟩
    case round =>
      obtain ⟨k, hk, rfl, hn, hbe⟩ := hrel
      have HN : Hid ((ss.take k).all nameB = true) := hn; clear hn
      by_cases hlt : k < ss.length
      · obtain ⟨b, o, rfl, hb, hc⟩ := (h.below hbe (Nat.le_refl _)) (by omega)
        have hcx := hc k hlt
        have hsz := hs.at k hlt
        cases hB : nameB ss[k]
        · go_wp2_with fail
          refine (nameOk_any _ _ hsz).mono ?_
          rintro e w1 ⟨rfl, hb1⟩
          rw [hB]
          go_wp2
          go_ret
          exact ⟨ret_bool (names_not ss k hlt hB).symm, hbe.trans (hb1.mono hbe.size)⟩
        · go_wp2_with fail
          refine (nameOk_any _ _ hsz).mono ?_
          rintro e w1 ⟨rfl, hb1⟩
          rw [hB]
          go_wp2
          go_roundw
          case rel => exact ⟨k + 1, by omega, by go_num, names_snoc ss k hlt HN.out hB, hbe.trans (hb1.mono hbe.size)⟩
          case measure => simp [intOf]; omega
      · go_wp2
        go_ret
        refine ⟨ret_bool ?_, hbe⟩
        have hA := HN.out
        rw [sumS_all ss k hlt] at hA
        have : ss.length ≤ 4 := by omega
        simp [pathB, hA, this]
end Go.Proofs.Ytackgogcpdbnlab
namespace Go.Proofs.Ytackgogcpdbnlab
open Go.RowKit M
set_option linter.unusedVariables false

set_option maxHeartbeats 400000 in
theorem tokenOk_any (x : Int) (w : World) :
    Calls Try.prog 74 #[.int .i64 x] w fun e w' => e = .returned (.bool (inB x 1 9999)) ∧ w' = w := by
  go_enter Try.func74, Try.ntmps74
  go_wp2
  all_goals
    go_ret
    refine ⟨ret_bool ?_, rfl⟩
    go_light
    unfold inB
    simp_all
    try omega

set_option maxHeartbeats 400000 in
theorem timeOk_any (x : Int) (w : World) :
    Calls Try.prog 76 #[.int .i64 x] w fun e w' => e = .returned (.bool (inB x 0 9999999)) ∧ w' = w := by
  go_enter Try.func76, Try.ntmps76
  go_wp2
  all_goals
    go_ret
    refine ⟨ret_bool ?_, rfl⟩
    go_light
    unfold inB
    simp_all
    try omega

theorem lockB_is (r : Lk) (z1 z2 z3 : Bool) (h1 : inB r.tk 1 9999 = z1) (h2 : pathB r.pa = z2) (h3 : inB r.un 0 9999999 = z3) : lockB r = (z1 && (z2 && z3)) := by
  unfold lockB; rw [h1, h2, h3]

set_option maxHeartbeats 1000000 in
theorem lockOk_any (r : Lk) (pa : Option Addr) (pc B : Nat) (w : World) (h : LkIn w B r pa pc) (hB : B ≤ w.heap.size) (hs : Short r.pa) :
    Calls Try.prog 61 #[.agg #[.int .i64 r.tk, .slice pa r.pa.length pc, .bool r.de, .bool r.sh, .int .i64 r.un]] w fun e w' => e = .returned (.bool (lockB r)) ∧ Below w.heap.size w w' := by
  have l1 := h.len
  have p1 := h.ph
  obtain ⟨z1, hz1⟩ : ∃ z, inB r.tk 1 9999 = z := ⟨_, rfl⟩
  obtain ⟨z2, hz2⟩ : ∃ z, pathB r.pa = z := ⟨_, rfl⟩
  obtain ⟨z3, hz3⟩ : ∃ z, inB r.un 0 9999999 = z := ⟨_, rfl⟩
  rw [lockB_is r z1 z2 z3 hz1 hz2 hz3]
  clear h
  obtain ⟨tk, ss, de, sh, un⟩ := r
  simp only at *
  have hb0 : Below w.heap.size w (w.alloc (Obj.cells #[.int .i64 tk, .slice pa ss.length pc, .bool de, .bool sh, .int .i64 un] 32)) := (Below.refl _ _).alloc (Nat.le_refl _) _
  have hT := fun W => tokenOk_any tk W
  have hU := fun W => timeOk_any un W
  have hP := pathOk_any pa ss pc _ ((p1.below hb0 hB).mono (Nat.le_trans hB hb0.size)) hs l1
  rw [hz1] at hT
  rw [hz3] at hU
  rw [hz2] at hP
  have HT := hide hT
  have HU := hide hU
  have HP := hide hP
  have HB0 := hide hb0
  clear hT hU hP hz1 hz2 hz3 hb0 p1
  cases z1
  · go_enter Try.func61, Try.ntmps61
    go_wp2_with fail
    refine (HT.out _).mono ?_
    rintro e w1 ⟨rfl, hw⟩
    obtain rfl := hw
    go_wp2
    go_ret
    exact ⟨rfl, HB0.out⟩
  · cases z2
    · go_enter Try.func61, Try.ntmps61
      go_wp2_with fail
      refine (HT.out _).mono ?_
      rintro e w1 ⟨rfl, hw⟩
      obtain rfl := hw
      go_wp2_with fail
      refine HP.out.mono ?_
      rintro e w2 ⟨rfl, hb2⟩
      have c2 := HB0.out.trans (hb2.mono HB0.out.size)
      go_wp2
      go_ret
      exact ⟨rfl, c2⟩
    · go_enter Try.func61, Try.ntmps61
      go_wp2_with fail
      refine (HT.out _).mono ?_
      rintro e w1 ⟨rfl, hw⟩
      obtain rfl := hw
      go_wp2_with fail
      refine HP.out.mono ?_
      rintro e w2 ⟨rfl, hb2⟩
      have c2 := HB0.out.trans (hb2.mono HB0.out.size)
      obtain ⟨hcl, _⟩ := bcellL hb2
      clear hb2
      go_wp2_with fail
      refine (HU.out _).mono ?_
      rintro e w3 ⟨rfl, hw⟩
      obtain rfl := hw.symm
      go_wp2
      go_ret
      exact ⟨rfl, c2⟩

set_option maxHeartbeats 1000000 in
theorem specLockOk_any (r : Lk) (pa : Option Addr) (pc B : Nat) (w : World) (h : LkIn w B r pa pc) (hB : B ≤ w.heap.size) (hs : Short r.pa) :
    Calls Try.prog 59 #[.agg #[.int .i64 r.tk, .slice pa r.pa.length pc, .bool r.de, .bool r.sh, .int .i64 r.un]] w fun e w' => e = .returned (.bool (lockB r)) ∧ Below w.heap.size w w' := by
  have l1 := h.len
  have p1 := h.ph
  obtain ⟨z1, hz1⟩ : ∃ z, inB r.tk 1 9999 = z := ⟨_, rfl⟩
  obtain ⟨z2, hz2⟩ : ∃ z, pathB r.pa = z := ⟨_, rfl⟩
  obtain ⟨z3, hz3⟩ : ∃ z, inB r.un 0 9999999 = z := ⟨_, rfl⟩
  rw [lockB_is r z1 z2 z3 hz1 hz2 hz3]
  clear h
  obtain ⟨tk, ss, de, sh, un⟩ := r
  simp only at *
  have hb0 : Below w.heap.size w (w.alloc (Obj.cells #[.int .i64 tk, .slice pa ss.length pc, .bool de, .bool sh, .int .i64 un] 32)) := (Below.refl _ _).alloc (Nat.le_refl _) _
  have hT := fun W => l1In_any tk 1 9999 W
  have hU := fun W => l1In_any un 0 9999999 W
  have hP := specPathOk_any pa ss pc B _ (p1.below hb0 hB) hs l1
  rw [hz1] at hT
  rw [hz3] at hU
  rw [hz2] at hP
  have HT := hide hT
  have HU := hide hU
  have HP := hide hP
  have HB0 := hide hb0
  clear hT hU hP hz1 hz2 hz3 hb0 p1
  cases z1
  · go_enter Try.func59, Try.ntmps59
    go_wp2_with fail
    refine (HT.out _).mono ?_
    rintro e w1 ⟨rfl, hw⟩
    obtain rfl := hw
    go_wp2
    go_ret
    exact ⟨rfl, HB0.out⟩
  · cases z2
    all_goals
      go_enter Try.func59, Try.ntmps59
      go_wp2_with fail
      refine (HT.out _).mono ?_
      rintro e w1 ⟨rfl, hw⟩
      obtain rfl := hw
      go_wp2_with fail
      refine HP.out.mono ?_
      rintro e w2 ⟨rfl, hw⟩
      obtain rfl := hw
    · go_wp2
      go_ret
      exact ⟨rfl, HB0.out⟩
    · go_wp2_with fail
      refine (HU.out _).mono ?_
      rintro e w3 ⟨rfl, hw⟩
      obtain rfl := hw
      go_wp2
      go_ret
      exact ⟨rfl, HB0.out⟩
end Go.Proofs.Ytackgogcpdbnlab
namespace Go.Proofs.Ytackgogcpdbnlab
open Go.RowKit M
set_option linter.unusedVariables false

set_option maxHeartbeats 1000000 in
theorem barEach_any (r : Lk) (pa : Option Addr) (pc : Nat) (s : Lk) (qa : Option Addr) (qc B C : Nat) (w : World) (h : LkIn w B r pa pc) (hB : B ≤ w.heap.size) (h' : LkIn w C s qa qc) (hC : C ≤ w.heap.size) :
    Calls Try.prog 63 #[.agg #[.int .i64 r.tk, .slice pa r.pa.length pc, .bool r.de, .bool r.sh, .int .i64 r.un], .agg #[.int .i64 s.tk, .slice qa s.pa.length qc, .bool s.de, .bool s.sh, .int .i64 s.un]] w fun e w' => e = .returned (.bool (barB r s)) ∧ Below w.heap.size w w' := by
  have hb0 : Below w.heap.size w ((w.alloc (Obj.cells #[.int .i64 r.tk, .slice pa r.pa.length pc, .bool r.de, .bool r.sh, .int .i64 r.un] 32)).alloc (Obj.cells #[.int .i64 s.tk, .slice qa s.pa.length qc, .bool s.de, .bool s.sh, .int .i64 s.un] 32)) := ((Below.refl _ _).alloc (Nat.le_refl _) _).alloc (by simp) _
  have HS := hide (lockClash_any r pa pc s qa qc B C _ (h.below hb0 hB) (Nat.le_trans hB hb0.size) (h'.below hb0 hC) (Nat.le_trans hC hb0.size))
  have HB0 := hide hb0
  clear hb0 h h'
  by_cases htk : r.tk = s.tk
  · rw [bar_tk htk]
    have hv : (r.tk == s.tk) = true := by rw [htk]; simp
    clear htk
    go_enter Try.func63, Try.ntmps63
    go_wp2
    go_ret
    exact ⟨rfl, HB0.out⟩
  · rw [bar_cl htk]
    have hv : (r.tk == s.tk) = false := by rw [beq_eq_false_iff_ne]; exact htk
    clear htk
    go_enter Try.func63, Try.ntmps63
    go_wp2_with fail
    refine HS.out.mono ?_
    rintro e w1 ⟨rfl, hb1⟩
    have c1 := HB0.out.trans (hb1.mono HB0.out.size)
    go_wp2
    go_ret
    exact ⟨rfl, c1⟩

/-- Whether no two of them bar each other. -/
def noTwoB (l : List Lk) : Prop := ∀ i k (hk : k < i) (hi : i < l.length), barB (l[k]'(by omega)) l[i] = false

set_option maxRecDepth 100000 in
set_option maxHeartbeats 4000000 in
theorem noTwo_any (a : Option Addr) (l : List Lk) (cap B : Nat) (w : World) (h : Lks w B a l) (hB : B ≤ w.heap.size) (hl : l.length ≤ cap) (hm : cap ≤ maxLen) :
    Calls Try.prog 62 #[.slice a l.length cap, .func (.func 63) #[] #[]] w fun e w' => (∃ z : Bool, e = .returned (.bool z) ∧ (z = true → noTwoB l) ∧ (z = false → ∃ k i, ∃ (hk : k < i) (hi : i < l.length), barB (l[k]'(by omega)) l[i] = true)) ∧ Below w.heap.size w w' := by
  unfold maxLen at hm
  have HH := hide h
  clear h
  go_enter Try.func62, Try.ntmps62
  go_wp2
  go_loopw [11] (fun iv wr => ∃ i : Nat, i ≤ l.length ∧ iv = .int .i64 i ∧ Hid (∀ j k (hk : k < j) (hj : j < l.length), j < i → barB (l[k]'(by omega)) l[j] = false) ∧ Below w.heap.size w wr) (fun iv _ => l.length - (intOf iv).toNat)
  case atStart => exact ⟨0, Nat.zero_le _, rfl, fun j _ _ _ hj => absurd hj (Nat.not_lt_zero _), Below.refl _ _⟩
  case round =>
    obtain ⟨i, hi, rfl, ht2, hbe⟩ := hrel
    by_cases hlt : i < l.length
    · obtain ⟨b, o, rfl, hb, hc⟩ := (HH.out.below hbe hB) (by omega)
      obtain ⟨pa, pc, ⟨hc0, hc1, hc2, hc3, hc4⟩, hin⟩ := hc i hlt
      obtain ⟨wo, hwo⟩ : ∃ wo : World, wo = wr := ⟨_, rfl⟩
      subst hwo
      have b1 := (Below.refl wo.heap.size wo).alloc (Nat.le_refl _) (Obj.cells #[.int .i64 l[i].tk, .slice pa l[i].pa.length pc, .bool l[i].de, .bool l[i].sh, .int .i64 l[i].un] 32)
      have HBX := hide (BoxL.made wo l[i] pa pc 32)
      have HCA := hide (hbe.alloc hbe.size (Obj.cells #[.int .i64 l[i].tk, .slice pa l[i].pa.length pc, .bool l[i].de, .bool l[i].sh, .int .i64 l[i].un] 32))
      have HIN := hide (hin.below b1 (Nat.le_trans hB hbe.size))
      clear hc hin b1
      have hic : (i : Int) ≤ cap := by omega
      have hi0 : (0 : Int) ≤ (i : Int) := by omega
      go_wp2
      clear hc0 hc1 hc2 hc3 hc4
      go_loopw [20] (fun kv wz => ∃ k : Nat, k ≤ i ∧ kv = .int .i64 k ∧ Hid (∀ j (hj : j < i), j < k → barB (l[j]'(by omega)) l[i] = false) ∧ Hid (BoxL wz wo.heap.size l[i] pa pc) ∧ Hid (Below w.heap.size w wz) ∧ Hid (LkIn wz B l[i] pa pc)) (fun kv _ => i - (intOf kv).toNat)
      case atStart => exact ⟨0, Nat.zero_le _, rfl, fun j _ hj => absurd hj (Nat.not_lt_zero _), HBX, HCA, HIN⟩
      case round =>
        obtain ⟨k, hk, rfl, ht3, HBX2, HC2, HIN2⟩ := hrel
        by_cases hki : k < i
        · have hkl : k < l.length := by omega
          obtain ⟨b2, o2, e2, hb2, hc⟩ := (HH.out.below HC2.out hB) (by omega)
          cases e2
          obtain ⟨qa, qc, ⟨hx0, hx1, hx2, hx3, hx4⟩, hin1⟩ := hc k hkl
          have b3 := (Below.refl wr.heap.size wr).alloc (Nat.le_refl _) (Obj.cells #[.int .i64 l[k].tk, .slice qa l[k].pa.length qc, .bool l[k].de, .bool l[k].sh, .int .i64 l[k].un] 32)
          have c3 := HC2.out.trans (b3.mono HC2.out.size)
          have HB3 := hide (HBX2.out.alloc (Obj.cells #[.int .i64 l[k].tk, .slice qa l[k].pa.length qc, .bool l[k].de, .bool l[k].sh, .int .i64 l[k].un] 32))
          have HI3 := hide (HIN2.out.below b3 (Nat.le_trans hB HC2.out.size))
          have HS := hide (barEach_any l[k] qa qc l[i] pa pc B B _ (hin1.below b3 (Nat.le_trans hB HC2.out.size)) (Nat.le_trans hB c3.size) HI3.out (Nat.le_trans hB c3.size))
          have HC3 := hide c3
          obtain ⟨z, hz⟩ : ∃ z, barB l[k] l[i] = z := ⟨_, rfl⟩
          rw [hz] at HS
          have HZ := hide hz
          obtain ⟨_, y0, y1, y2, y3, y4⟩ := HB3.out
          clear hz hc hin1 b3 c3 HBX2 HIN2
          have hk0 : (0 : Int) ≤ (k : Int) := by omega
          have hk1 : (k : Int) < (i : Int) := by omega
          go_wp2_with fail
          refine HS.out.mono ?_
          rintro e w5 ⟨rfl, b5⟩
          have HB5 := hide (HB3.out.next b5)
          have HI5 := hide (HI3.out.below b5 (Nat.le_trans hB HC3.out.size))
          have HC5 := hide (HC3.out.trans (b5.mono HC3.out.size))
          clear b5 HB3 HI3 HC3 HS y0 y1 y2 y3 y4
          cases z
          · go_wp2
            go_roundw
            case rel => exact ⟨k + 1, by omega, by go_num, fun j hj hjk => if e : j = k then by subst e; exact HZ.out else ht3.out j hj (by omega), HB5, HC5, HI5⟩
            case measure => simp [intOf]; omega
          · go_wp2
            go_ret
            exact ⟨⟨false, rfl, fun e => absurd e (by decide), fun _ => ⟨k, i, hki, hlt, HZ.out⟩⟩, HC5.out⟩
        · have hke : k = i := by omega
          subst hke
          have HC2' := HC2
          go_wp2
          go_roundw
          case rel => exact ⟨k + 1, by omega, by go_num, fun j q hq hj hjk => if e : j = k then by subst e; exact ht3.out q hq hq else ht2.out j q hq hj (by omega), HC2'.out⟩
          case measure => simp [intOf]; omega
    · go_wp2
      go_ret
      exact ⟨⟨true, rfl, fun _ j q hq hj => ht2.out j q hq hj (by omega), fun e => absurd e (by decide)⟩, hbe⟩

set_option maxRecDepth 100000 in
set_option maxHeartbeats 4000000 in
theorem locksOk_any (a : Option Addr) (l : List Lk) (cap B : Nat) (w : World) (h : Lks w B a l) (hB : B ≤ w.heap.size) (hsh : ShortK l) (hl : l.length ≤ cap) (hm : cap ≤ maxLen) :
    Calls Try.prog 38 #[.slice a l.length cap] w fun e w' => e = .returned (.bool (locksB l)) ∧ Below w.heap.size w w' := by
  have hm2 := hm
  unfold maxLen at hm2
  have HH := hide h
  clear h
  by_cases h6 : l.length ≤ 6
  rotate_left
  · have HF := hide (locksB_long h6)
    go_enter Try.func38, Try.ntmps38
    go_wp2
    go_ret
    exact ⟨ret_bool HF.out.symm, Below.refl _ _⟩
  · go_enter Try.func38, Try.ntmps38
    go_wp2
    go_loopw [10] (fun iv wr => ∃ i : Nat, i ≤ l.length ∧ iv = .int .i64 i ∧ Hid (∀ j (hj : j < l.length), j < i → lockB l[j] = true) ∧ Below w.heap.size w wr) (fun iv _ => l.length - (intOf iv).toNat)
    case atStart => exact ⟨0, Nat.zero_le _, rfl, fun j _ hj => absurd hj (Nat.not_lt_zero _), Below.refl _ _⟩
    case round =>
      obtain ⟨i, hi, rfl, ht1, hbe⟩ := hrel
      by_cases hlt : i < l.length
      · obtain ⟨b, o, rfl, hb, hc⟩ := (HH.out.below hbe hB) (by omega)
        obtain ⟨pa, pc, ⟨hc0, hc1, hc2, hc3, hc4⟩, hin⟩ := hc i hlt
        have b1 := (Below.refl wr.heap.size wr).alloc (Nat.le_refl _) (Obj.cells #[.int .i64 l[i].tk, .slice pa l[i].pa.length pc, .bool l[i].de, .bool l[i].sh, .int .i64 l[i].un] 32)
        have c1 := hbe.trans (b1.mono hbe.size)
        have HC := hide (lockOk_any l[i] pa pc B _ (hin.below b1 (Nat.le_trans hB hbe.size)) (Nat.le_trans hB c1.size) (hsh.at i hlt).ps)
        have HC1 := hide c1
        obtain ⟨z, hz⟩ : ∃ z, lockB l[i] = z := ⟨_, rfl⟩
        rw [hz] at HC
        have HZ := hide hz
        clear hz hc hin b1 c1
        go_wp2_with fail
        refine HC.out.mono ?_
        rintro e w1 ⟨rfl, hb1⟩
        have c2 := HC1.out.trans (hb1.mono HC1.out.size)
        clear HC hb1 HC1 hc0 hc1 hc2 hc3 hc4
        cases z
        · have HF := hide (locksB_not i hlt HZ.out)
          go_wp2
          go_ret
          exact ⟨ret_bool HF.out.symm, c2⟩
        · go_wp2
          go_roundw
          case rel => exact ⟨i + 1, by omega, by go_num, fun j hj hjk => if e : j = i then by subst e; exact HZ.out else ht1.out j hj (by omega), c2⟩
          case measure => simp [intOf]; omega
      · have HN := hide (noTwo_any a l cap B wr (HH.out.below hbe hB) (Nat.le_trans hB hbe.size) hl hm)
        have HT := hide (fun j hj => ht1.out j hj (by omega))
        clear ht1
        go_wp2_with fail
        refine HN.out.mono ?_
        rintro e w1 ⟨⟨z, rfl, hz1, hz2⟩, hb1⟩
        have c2 := hbe.trans (hb1.mono hbe.size)
        cases z
        · obtain ⟨k, j, hk, hj, hbar⟩ := hz2 rfl
          have HF := hide (locksB_bar k j hk hj hbar)
          clear hz1 hz2 hbar
          go_wp2
          go_ret
          exact ⟨ret_bool HF.out.symm, c2⟩
        · have HF := hide (locksB_yes h6 (fun j hj => HT.out j hj) (fun j q hq hj => hz1 rfl j q hq hj))
          clear hz1 hz2
          go_wp2
          go_ret
          exact ⟨ret_bool HF.out.symm, c2⟩
end Go.Proofs.Ytackgogcpdbnlab
