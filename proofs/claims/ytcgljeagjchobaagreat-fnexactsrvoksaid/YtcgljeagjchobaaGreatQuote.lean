/-
  Whether two slices of texts hold the same: what slices.Equal[[]string,string] does.
  What the program's Under does.
  What the program's SamePath does.
  What impl.Covers does.
  What impl.LockClash does.
  What impl.barEachOther, noTwo at it, and impl.LocksOk do.
  Which keys a map of texts has.
  What impl.Above does.
  Rows of bytes that the call itself made: what string(b) gives of one; where the walk wants it.
  What writing one byte into a strings.Builder does that the call made itself.
  What the program's calls on kinds of bytes do: isOf, isOneOf: each computes, and turns nothing in memory.
  What the program's Quote does.
-/
import Derived.Test.YtcgljeagjchobaaGreatGenSrv
import Derived.Test.YtcgljeagjchobaaGreatLockOkI
import Derived.Test.YtcgljeagjchobaaGreatLocks
import Derived.Test.YtcgljeagjchobaaGreatMathLocks
import Derived.Test.YtcgljeagjchobaaGreatLockRows
import Derived.Test.YtcgljeagjchobaaGreatRows
import Derived.Maps.OwnOps
import Derived.Maps.OwnSet
import Derived.Maps.Views
import Derived.StringKeys
import Derived.Test.YtcgljeagjchobaaGreatCopyPath
import Derived.WalkKit
import Derived.WalkSpells
import Derived.WalkLawsBesides
import Derived.Deep.Light
import Derived.Lib.BufferWrite
import Derived.Laws.IdiomStrings
import Derived.Laws.BytesArg
import Derived.Lib.Builder
import Derived.Test.YtcgljeagjchobaaGreatTurn
import Derived.Test.YtcgljeagjchobaaGreatShelf
namespace Go.Proofs.YtcgljeagjchobaaGreat
open Go.RowKit
set_option linter.unusedVariables false

set_option maxHeartbeats 400000 in
theorem slicesEqual_any (a b : Option Addr) (ss tt : List ByteArray) (cap cap' B C : Nat) (w : World) (h : Strs w B a ss) (h' : Strs w C b tt) (hl : ss.length ≤ maxLen) (hl' : tt.length ≤ maxLen) :
    Calls Tryz.prog 158 #[.slice a ss.length cap, .slice b tt.length cap'] w fun e w' => e = .returned (.bool (sameL ss tt)) ∧ ∀ D, Below D w w' := by
  unfold maxLen at hl hl'
  by_cases hlen : ss.length = tt.length
  · have HL : Hid (ss.length = tt.length) := hlen
    go_enter Tryz.func158, Tryz.ntmps158
    rw [← hlen]
    clear hlen
    go_wp2
    go_loopw [13] (fun i wr => ∃ k n : Nat, k ≤ ss.length ∧ i = .int .i64 k ∧ ss.take k = tt.take k ∧ wr = w.drewN n) (fun i _ => ss.length - (intOf i).toNat)
    case atStart => exact ⟨0, 0, Nat.zero_le _, rfl, rfl, rfl⟩
    case round =>
      obtain ⟨k, n, hk, rfl, ht, rfl⟩ := hrel
      have HT : Hid (ss.take k = tt.take k) := ht
      clear ht
      by_cases hlt : k < ss.length
      · have hlt' : k < tt.length := by have := HL.out; omega
        obtain ⟨b1, o1, rfl, hb1, hc1⟩ := h (by omega)
        obtain ⟨b2, o2, rfl, hb2, hc2⟩ := h' (by have := HL.out; omega)
        have hcx := hc1 k hlt
        have hcy := hc2 k hlt'
        go_wp2
        go_quiet (fail)
        go_wp2
        · rename_i hne
          have hne' : ¬ ss[k] = tt[k] := fun e => by rw [e] at hne; simp at hne
          go_ret
          exact ⟨ret_bool (sameL_not k hlt hlt' hne').symm, fun D => below_drewN (below_drewN (Below.refl _ _) _) _⟩
        · rename_i he
          have he' : ss[k] = tt[k] := str_inj (by simpa using he)
          go_roundw
          case rel => exact ⟨k + 1, n + nq, by omega, by go_num, take_same k hlt hlt' HT.out he', by simp⟩
          case measure => simp [intOf]; omega
      · go_wp2
        go_ret
        exact ⟨ret_bool (sameL_all HL.out k hlt HT.out).symm, fun D => below_drewN (Below.refl _ _) _⟩
  · have HS := sameL_len hlen
    go_enter Tryz.func158, Tryz.ntmps158
    go_wp2
    go_ret
    exact ⟨ret_bool HS.symm, fun D => Below.refl _ _⟩
end Go.Proofs.YtcgljeagjchobaaGreat
namespace Go.Proofs.YtcgljeagjchobaaGreat
open Go.RowKit
set_option linter.unusedVariables false

set_option maxHeartbeats 400000 in
theorem under_any (a b : Option Addr) (ss tt : List ByteArray) (cap cap' B C : Nat) (w : World) (h : Strs w B a ss) (h' : Strs w C b tt) (hl : ss.length ≤ maxLen) (hl' : tt.length ≤ maxLen) (hc : ss.length ≤ cap) (hc' : cap ≤ maxLen) :
    Calls Tryz.prog 150 #[.slice a ss.length cap, .slice b tt.length cap'] w fun e w' => e = .returned (.bool (underB ss tt)) ∧ ∀ D, Below D w w' := by
  have hl1 := hl
  have hl2 := hl'
  have hc2 := hc'
  unfold maxLen at hl hl' hc'
  by_cases hlt : tt.length < ss.length
  · have ht : (ss.take tt.length).length = tt.length := by rw [List.length_take]; omega
    have cE := fun w1 cap1 (hh : Strs w1 B a ss) (hh' : Strs w1 C b tt) => slicesEqual_any a b (ss.take tt.length) tt cap1 cap' B C w1 (hh.take _) hh' (by omega) hl2
    rw [ht] at cE
    obtain ⟨b1, o1, rfl, _, _⟩ := h (by omega)
    go_enter Tryz.func150, Tryz.ntmps150
    go_wp2_with fail
    refine (cE _ _ h h').mono ?_
    rintro e w1 ⟨rfl, hb⟩
    go_wp2
    go_ret
    exact ⟨ret_bool (by simp [underB, hlt]), hb⟩
  · go_enter Tryz.func150, Tryz.ntmps150
    go_wp2
    go_ret
    exact ⟨ret_bool (by simp [underB, hlt]), fun D => Below.refl _ _⟩

end Go.Proofs.YtcgljeagjchobaaGreat
namespace Go.Proofs.YtcgljeagjchobaaGreat
open Go.RowKit
set_option linter.unusedVariables false

set_option maxHeartbeats 400000 in
theorem samePath_any (a b : Option Addr) (ss tt : List ByteArray) (cap cap' B C : Nat) (w : World) (h : Strs w B a ss) (h' : Strs w C b tt) (hl : ss.length ≤ maxLen) (hl' : tt.length ≤ maxLen) :
    Calls Tryz.prog 149 #[.slice a ss.length cap, .slice b tt.length cap'] w fun e w' => e = .returned (.bool (sameL ss tt)) ∧ ∀ D, Below D w w' := by
  go_enter Tryz.func149, Tryz.ntmps149
  go_wp2_with fail
  refine (slicesEqual_any a b ss tt cap cap' B C w h h' hl hl').mono ?_
  rintro e w1 ⟨rfl, hb⟩
  go_wp2
  go_ret
  exact ⟨rfl, hb⟩
end Go.Proofs.YtcgljeagjchobaaGreat
namespace Go.Proofs.YtcgljeagjchobaaGreat
open Go.RowKit M
set_option linter.unusedVariables false

set_option maxHeartbeats 1000000 in
theorem covers_any (r : Lk) (pa : Option Addr) (pc : Nat) (a : Option Addr) (ss : List ByteArray) (cap B C : Nat) (w : World) (h : LkIn w B r pa pc) (hB : B ≤ w.heap.size) (h' : Strs w C a ss) (hC : C ≤ w.heap.size) (hl : ss.length ≤ cap) (hm : cap ≤ maxLen) :
    Calls Tryz.prog 133 #[.agg #[.int .i64 r.tk, .slice pa r.pa.length pc, .bool r.de, .bool r.sh, .int .i64 r.un], .slice a ss.length cap] w fun e w' => e = .returned (.bool (covB r ss)) ∧ Below w.heap.size w w' := by
  have l1 := h.len
  have p1 := h.ph
  have l2 : ss.length ≤ maxLen := Nat.le_trans hl hm
  have F1 : Hid (sameL r.pa ss = true → covB r ss = true) := fun e => by unfold covB; rw [e]; rfl
  have F2 : Hid (sameL r.pa ss = false → r.de = false → covB r ss = false) := fun e e' => by unfold covB; rw [e, e']; rfl
  have F3 : Hid (sameL r.pa ss = false → r.de = true → covB r ss = underB ss r.pa) := fun e e' => by unfold covB; rw [e, e']; rfl
  generalize covB r ss = dd at *
  clear h
  obtain ⟨tk, tt, de, sh, un⟩ := r
  simp only at *
  have hb0 : Below w.heap.size w (w.alloc (Obj.cells #[.int .i64 tk, .slice pa tt.length pc, .bool de, .bool sh, .int .i64 un] 48)) := (Below.refl _ _).alloc (Nat.le_refl _) _
  have hS := samePath_any pa a tt ss pc cap B C _ (p1.below hb0 hB) (h'.below hb0 hC) l1 l2
  have HU := hide (fun w1 (hb : ∀ D, Below D (w.alloc (Obj.cells #[.int .i64 tk, .slice pa tt.length pc, .bool de, .bool sh, .int .i64 un] 48)) w1) => under_any a pa ss tt cap pc C B w1 ((h'.below hb0 hC).below (hb _) (Nat.le_refl _)) ((p1.below hb0 hB).below (hb _) (Nat.le_refl _)) l2 l1 hl hm)
  have HB0 := hide hb0
  clear hb0 p1 h'
  obtain ⟨z, hz⟩ : ∃ z, sameL tt ss = z := ⟨_, rfl⟩
  rw [hz] at hS
  have HS := hide hS
  clear hS
  cases z
  · cases de
    · rw [F2.out hz rfl]
      clear hz
      go_enter Tryz.func133, Tryz.ntmps133
      go_wp2_with fail
      refine HS.out.mono ?_
      rintro e w1 ⟨rfl, hb1⟩
      have hcl : ∀ b o, w1.cell? ⟨b, o, none⟩ = _ := fun b o => (hb1 (b + 1)).cell (p := ⟨b, o, none⟩) (Nat.lt_succ_self _)
      have HC1 := hide (HB0.out.trans (hb1 _))
      clear hb1
      go_wp2
      go_ret
      exact ⟨rfl, HC1.out⟩
    · rw [F3.out hz rfl]
      clear hz
      go_enter Tryz.func133, Tryz.ntmps133
      go_wp2_with fail
      refine HS.out.mono ?_
      rintro e w1 ⟨rfl, hb1⟩
      have hcl : ∀ b o, w1.cell? ⟨b, o, none⟩ = _ := fun b o => (hb1 (b + 1)).cell (p := ⟨b, o, none⟩) (Nat.lt_succ_self _)
      have HC1 := hide (HB0.out.trans (hb1 _))
      have HU1 := hide (HU.out w1 hb1)
      clear hb1
      go_wp2_with fail
      refine HU1.out.mono ?_
      rintro e w2 ⟨rfl, hb2⟩
      have c2 := HC1.out.trans (hb2 _)
      go_wp2
      go_ret
      exact ⟨rfl, c2⟩
  · rw [F1.out hz]
    clear hz
    go_enter Tryz.func133, Tryz.ntmps133
    go_wp2_with fail
    refine HS.out.mono ?_
    rintro e w1 ⟨rfl, hb1⟩
    have HC1 := hide (HB0.out.trans (hb1 _))
    clear hb1
    go_wp2
    go_ret
    exact ⟨rfl, HC1.out⟩
end Go.Proofs.YtcgljeagjchobaaGreat
namespace Go.Proofs.YtcgljeagjchobaaGreat
open Go.RowKit M
set_option linter.unusedVariables false

set_option maxHeartbeats 2000000 in
theorem lockClash_any (r : Lk) (pa : Option Addr) (pc : Nat) (s : Lk) (qa : Option Addr) (qc B C : Nat) (w : World) (h : LkIn w B r pa pc) (hB : B ≤ w.heap.size) (h' : LkIn w C s qa qc) (hC : C ≤ w.heap.size) :
    Calls Tryz.prog 106 #[.agg #[.int .i64 r.tk, .slice pa r.pa.length pc, .bool r.de, .bool r.sh, .int .i64 r.un], .agg #[.int .i64 s.tk, .slice qa s.pa.length qc, .bool s.de, .bool s.sh, .int .i64 s.un]] w fun e w' => e = .returned (.bool (clashB r s)) ∧ Below w.heap.size w w' := by
  have F0 : Hid (r.sh = true → s.sh = true → clashB r s = false) := fun e e' => by unfold clashB; rw [e, e']; rfl
  have F1 : Hid ((!r.sh || !s.sh) = true → covB r s.pa = true → clashB r s = true) := fun e e' => by unfold clashB; rw [e, e']; rfl
  have F2 : Hid ((!r.sh || !s.sh) = true → covB r s.pa = false → clashB r s = covB s r.pa) := fun e e' => by unfold clashB; rw [e, e']; rfl
  have hb0 : Below w.heap.size w ((w.alloc (Obj.cells #[.int .i64 r.tk, .slice pa r.pa.length pc, .bool r.de, .bool r.sh, .int .i64 r.un] 48)).alloc (Obj.cells #[.int .i64 s.tk, .slice qa s.pa.length qc, .bool s.de, .bool s.sh, .int .i64 s.un] 48)) := ((Below.refl _ _).alloc (Nat.le_refl _) _).alloc (by simp) _
  have hS := covers_any r pa pc qa s.pa qc B C _ (h.below hb0 hB) (Nat.le_trans hB hb0.size) (h'.ph.below hb0 hC) (Nat.le_trans hC hb0.size) h'.pl h'.pm
  have HU := hide (fun w1 (hb : Below w.heap.size w w1) => covers_any s qa qc pa r.pa pc C B w1 (h'.below hb hC) (Nat.le_trans hC hb.size) (h.ph.below hb hB) (Nat.le_trans hB hb.size) h.pl h.pm)
  have HB0 := hide hb0
  obtain ⟨z1, hz1⟩ : ∃ z, covB r s.pa = z := ⟨_, rfl⟩
  obtain ⟨z2, hz2⟩ : ∃ z, covB s r.pa = z := ⟨_, rfl⟩
  rw [hz1] at hS F1 F2
  rw [hz2] at HU F2
  generalize clashB r s = dd at *
  clear hb0 h h' hz1 hz2
  obtain ⟨tk, ss, de, sh, un⟩ := r
  obtain ⟨tk', ss', de', sh', un'⟩ := s
  simp only at *
  have HS := hide hS
  clear hS
  by_cases hsh : (!sh || !sh') = true
  · have hdd : dd = if z1 = true then true else z2 := by
      cases z1
      · rw [F2.out hsh rfl]; rfl
      · rw [F1.out hsh rfl]; rfl
    clear F0 F1 F2
    have hsh2 : sh = false ∨ (sh = true ∧ sh' = false) := by cases sh <;> cases sh' <;> simp_all
    clear hsh
    rcases hsh2 with rfl | ⟨rfl, rfl⟩
    all_goals
      cases z1
      · obtain rfl : dd = z2 := by simpa using hdd
        clear hdd
        go_enter Tryz.func106, Tryz.ntmps106
        go_wp2_with fail
        refine HS.out.mono ?_
        rintro e w1 ⟨rfl, hb1⟩
        obtain ⟨hcl, _⟩ := bcellL hb1
        have HC1 := hide (HB0.out.trans (hb1.mono HB0.out.size))
        have HU1 := hide (HU.out w1 HC1.out)
        clear hb1
        go_wp2_with fail
        refine HU1.out.mono ?_
        rintro e w2 ⟨rfl, hb2⟩
        have c2 := HC1.out.trans (hb2.mono HC1.out.size)
        go_wp2
        go_ret
        exact ⟨rfl, c2⟩
      · obtain rfl : dd = true := by simpa using hdd
        clear hdd
        go_enter Tryz.func106, Tryz.ntmps106
        go_wp2_with fail
        refine HS.out.mono ?_
        rintro e w1 ⟨rfl, hb1⟩
        have HC1 := hide (HB0.out.trans (hb1.mono HB0.out.size))
        clear hb1
        go_wp2
        go_ret
        exact ⟨rfl, HC1.out⟩
  · have hsh2 : sh = true ∧ sh' = true := by cases sh <;> cases sh' <;> simp_all
    obtain ⟨rfl, rfl⟩ := hsh2
    rw [F0.out rfl rfl]
    clear hsh
    go_enter Tryz.func106, Tryz.ntmps106
    go_wp2
    go_ret
    exact ⟨rfl, HB0.out⟩
end Go.Proofs.YtcgljeagjchobaaGreat
namespace Go.Proofs.YtcgljeagjchobaaGreat
open Go.RowKit M
set_option linter.unusedVariables false

set_option maxHeartbeats 1000000 in
theorem barEach_any (r : Lk) (pa : Option Addr) (pc : Nat) (s : Lk) (qa : Option Addr) (qc B C : Nat) (w : World) (h : LkIn w B r pa pc) (hB : B ≤ w.heap.size) (h' : LkIn w C s qa qc) (hC : C ≤ w.heap.size) :
    Calls Tryz.prog 69 #[.agg #[.int .i64 r.tk, .slice pa r.pa.length pc, .bool r.de, .bool r.sh, .int .i64 r.un], .agg #[.int .i64 s.tk, .slice qa s.pa.length qc, .bool s.de, .bool s.sh, .int .i64 s.un]] w fun e w' => e = .returned (.bool (barB r s)) ∧ Below w.heap.size w w' := by
  have hb0 : Below w.heap.size w ((w.alloc (Obj.cells #[.int .i64 r.tk, .slice pa r.pa.length pc, .bool r.de, .bool r.sh, .int .i64 r.un] 48)).alloc (Obj.cells #[.int .i64 s.tk, .slice qa s.pa.length qc, .bool s.de, .bool s.sh, .int .i64 s.un] 48)) := ((Below.refl _ _).alloc (Nat.le_refl _) _).alloc (by simp) _
  have HS := hide (lockClash_any r pa pc s qa qc B C _ (h.below hb0 hB) (Nat.le_trans hB hb0.size) (h'.below hb0 hC) (Nat.le_trans hC hb0.size))
  have HB0 := hide hb0
  clear hb0 h h'
  by_cases htk : r.tk = s.tk
  · rw [bar_tk htk]
    have hv : (r.tk == s.tk) = true := by rw [htk]; simp
    clear htk
    go_enter Tryz.func69, Tryz.ntmps69
    go_wp2
    go_ret
    exact ⟨rfl, HB0.out⟩
  · rw [bar_cl htk]
    have hv : (r.tk == s.tk) = false := by rw [beq_eq_false_iff_ne]; exact htk
    clear htk
    go_enter Tryz.func69, Tryz.ntmps69
    go_wp2_with fail
    refine HS.out.mono ?_
    rintro e w1 ⟨rfl, hb1⟩
    have c1 := HB0.out.trans (hb1.mono HB0.out.size)
    go_wp2
    go_ret
    exact ⟨rfl, c1⟩

/-- Whether no two of them bar each other. -/
def noTwoB (l : List Lk) : Prop := ∀ i k (hk : k < i) (hi : i < l.length), barB (l[k]'(by omega)) l[i] = false

set_option maxRecDepth 100000 in
set_option maxHeartbeats 4000000 in
theorem noTwo_any (a : Option Addr) (l : List Lk) (cap B : Nat) (w : World) (h : Lks w B a l) (hB : B ≤ w.heap.size) (hl : l.length ≤ cap) (hm : cap ≤ maxLen) :
    Calls Tryz.prog 68 #[.slice a l.length cap, .func (.func 69) #[] #[]] w fun e w' => (∃ z : Bool, e = .returned (.bool z) ∧ (z = true → noTwoB l) ∧ (z = false → ∃ k i, ∃ (hk : k < i) (hi : i < l.length), barB (l[k]'(by omega)) l[i] = true)) ∧ Below w.heap.size w w' := by
  unfold maxLen at hm
  have HH := hide h
  clear h
  go_enter Tryz.func68, Tryz.ntmps68
  go_wp2
  go_loopw [11] (fun iv wr => ∃ i : Nat, i ≤ l.length ∧ iv = .int .i64 i ∧ Hid (∀ j k (hk : k < j) (hj : j < l.length), j < i → barB (l[k]'(by omega)) l[j] = false) ∧ Below w.heap.size w wr) (fun iv _ => l.length - (intOf iv).toNat)
  case atStart => exact ⟨0, Nat.zero_le _, rfl, fun j _ _ _ hj => absurd hj (Nat.not_lt_zero _), Below.refl _ _⟩
  case round =>
    obtain ⟨i, hi, rfl, ht2, hbe⟩ := hrel
    by_cases hlt : i < l.length
    · obtain ⟨b, o, rfl, hb, hc⟩ := (HH.out.below hbe hB) (by omega)
      obtain ⟨pa, pc, ⟨hc0, hc1, hc2, hc3, hc4⟩, hin⟩ := hc i hlt
      obtain ⟨wo, hwo⟩ : ∃ wo : World, wo = wr := ⟨_, rfl⟩
      subst hwo
      have b1 := (Below.refl wo.heap.size wo).alloc (Nat.le_refl _) (Obj.cells #[.int .i64 l[i].tk, .slice pa l[i].pa.length pc, .bool l[i].de, .bool l[i].sh, .int .i64 l[i].un] 48)
      have HBX := hide (BoxL.made wo l[i] pa pc 48)
      have HCA := hide (hbe.alloc hbe.size (Obj.cells #[.int .i64 l[i].tk, .slice pa l[i].pa.length pc, .bool l[i].de, .bool l[i].sh, .int .i64 l[i].un] 48))
      have HIN := hide (hin.below b1 (Nat.le_trans hB hbe.size))
      clear hc hin b1
      have hic : (i : Int) ≤ cap := by omega
      have hi0 : (0 : Int) ≤ (i : Int) := by omega
      go_wp2
      clear hc0 hc1 hc2 hc3 hc4
      go_loopw [20] (fun kv wz => ∃ k : Nat, k ≤ i ∧ kv = .int .i64 k ∧ Hid (∀ j (hj : j < i), j < k → barB (l[j]'(by omega)) l[i] = false) ∧ Hid (BoxL wz wo.heap.size l[i] pa pc) ∧ Hid (Below w.heap.size w wz) ∧ Hid (LkIn wz B l[i] pa pc)) (fun kv _ => i - (intOf kv).toNat)
      case atStart => exact ⟨0, Nat.zero_le _, rfl, fun j _ hj => absurd hj (Nat.not_lt_zero _), HBX, HCA, HIN⟩
      case round =>
        obtain ⟨k, hk, rfl, ht3, HBX2, HC2, HIN2⟩ := hrel
        by_cases hki : k < i
        · have hkl : k < l.length := by omega
          obtain ⟨b2, o2, e2, hb2, hc⟩ := (HH.out.below HC2.out hB) (by omega)
          cases e2
          obtain ⟨qa, qc, ⟨hx0, hx1, hx2, hx3, hx4⟩, hin1⟩ := hc k hkl
          have b3 := (Below.refl wr.heap.size wr).alloc (Nat.le_refl _) (Obj.cells #[.int .i64 l[k].tk, .slice qa l[k].pa.length qc, .bool l[k].de, .bool l[k].sh, .int .i64 l[k].un] 48)
          have c3 := HC2.out.trans (b3.mono HC2.out.size)
          have HB3 := hide (HBX2.out.alloc (Obj.cells #[.int .i64 l[k].tk, .slice qa l[k].pa.length qc, .bool l[k].de, .bool l[k].sh, .int .i64 l[k].un] 48))
          have HI3 := hide (HIN2.out.below b3 (Nat.le_trans hB HC2.out.size))
          have HS := hide (barEach_any l[k] qa qc l[i] pa pc B B _ (hin1.below b3 (Nat.le_trans hB HC2.out.size)) (Nat.le_trans hB c3.size) HI3.out (Nat.le_trans hB c3.size))
          have HC3 := hide c3
          obtain ⟨z, hz⟩ : ∃ z, barB l[k] l[i] = z := ⟨_, rfl⟩
          rw [hz] at HS
          have HZ := hide hz
          obtain ⟨_, y0, y1, y2, y3, y4⟩ := HB3.out
          clear hz hc hin1 b3 c3 HBX2 HIN2
          have hk0 : (0 : Int) ≤ (k : Int) := by omega
          have hk1 : (k : Int) < (i : Int) := by omega
          go_wp2_with fail
          refine HS.out.mono ?_
          rintro e w5 ⟨rfl, b5⟩
          have HB5 := hide (HB3.out.next b5)
          have HI5 := hide (HI3.out.below b5 (Nat.le_trans hB HC3.out.size))
          have HC5 := hide (HC3.out.trans (b5.mono HC3.out.size))
          clear b5 HB3 HI3 HC3 HS y0 y1 y2 y3 y4
          cases z
          · go_wp2
            go_roundw
            case rel => exact ⟨k + 1, by omega, by go_num, fun j hj hjk => if e : j = k then by subst e; exact HZ.out else ht3.out j hj (by omega), HB5, HC5, HI5⟩
            case measure => simp [intOf]; omega
          · go_wp2
            go_ret
            exact ⟨⟨false, rfl, fun e => absurd e (by decide), fun _ => ⟨k, i, hki, hlt, HZ.out⟩⟩, HC5.out⟩
        · have hke : k = i := by omega
          subst hke
          have HC2' := HC2
          go_wp2
          go_roundw
          case rel => exact ⟨k + 1, by omega, by go_num, fun j q hq hj hjk => if e : j = k then by subst e; exact ht3.out q hq hq else ht2.out j q hq hj (by omega), HC2'.out⟩
          case measure => simp [intOf]; omega
    · go_wp2
      go_ret
      exact ⟨⟨true, rfl, fun _ j q hq hj => ht2.out j q hq hj (by omega), fun e => absurd e (by decide)⟩, hbe⟩

set_option maxRecDepth 100000 in
set_option maxHeartbeats 4000000 in
theorem locksOk_any (a : Option Addr) (l : List Lk) (cap B : Nat) (w : World) (h : Lks w B a l) (hB : B ≤ w.heap.size) (hsh : ShortK l) (hl : l.length ≤ cap) (hm : cap ≤ maxLen) :
    Calls Tryz.prog 29 #[.slice a l.length cap] w fun e w' => e = .returned (.bool (locksB l)) ∧ Below w.heap.size w w' := by
  have hm2 := hm
  unfold maxLen at hm2
  have HH := hide h
  clear h
  by_cases h6 : l.length ≤ 6
  rotate_left
  · have HF := hide (locksB_long h6)
    go_enter Tryz.func29, Tryz.ntmps29
    go_wp2
    go_ret
    exact ⟨ret_bool HF.out.symm, Below.refl _ _⟩
  · go_enter Tryz.func29, Tryz.ntmps29
    go_wp2
    go_loopw [10] (fun iv wr => ∃ i : Nat, i ≤ l.length ∧ iv = .int .i64 i ∧ Hid (∀ j (hj : j < l.length), j < i → lockB l[j] = true) ∧ Below w.heap.size w wr) (fun iv _ => l.length - (intOf iv).toNat)
    case atStart => exact ⟨0, Nat.zero_le _, rfl, fun j _ hj => absurd hj (Nat.not_lt_zero _), Below.refl _ _⟩
    case round =>
      obtain ⟨i, hi, rfl, ht1, hbe⟩ := hrel
      by_cases hlt : i < l.length
      · obtain ⟨b, o, rfl, hb, hc⟩ := (HH.out.below hbe hB) (by omega)
        obtain ⟨pa, pc, ⟨hc0, hc1, hc2, hc3, hc4⟩, hin⟩ := hc i hlt
        have b1 := (Below.refl wr.heap.size wr).alloc (Nat.le_refl _) (Obj.cells #[.int .i64 l[i].tk, .slice pa l[i].pa.length pc, .bool l[i].de, .bool l[i].sh, .int .i64 l[i].un] 48)
        have c1 := hbe.trans (b1.mono hbe.size)
        have HC := hide (lockOk_any l[i] pa pc B _ (hin.below b1 (Nat.le_trans hB hbe.size)) (Nat.le_trans hB c1.size) (hsh.at i hlt).ps)
        have HC1 := hide c1
        obtain ⟨z, hz⟩ : ∃ z, lockB l[i] = z := ⟨_, rfl⟩
        rw [hz] at HC
        have HZ := hide hz
        clear hz hc hin b1 c1
        go_wp2_with fail
        refine HC.out.mono ?_
        rintro e w1 ⟨rfl, hb1⟩
        have c2 := HC1.out.trans (hb1.mono HC1.out.size)
        clear HC hb1 HC1 hc0 hc1 hc2 hc3 hc4
        cases z
        · have HF := hide (locksB_not i hlt HZ.out)
          go_wp2
          go_ret
          exact ⟨ret_bool HF.out.symm, c2⟩
        · go_wp2
          go_roundw
          case rel => exact ⟨i + 1, by omega, by go_num, fun j hj hjk => if e : j = i then by subst e; exact HZ.out else ht1.out j hj (by omega), c2⟩
          case measure => simp [intOf]; omega
      · have HN := hide (noTwo_any a l cap B wr (HH.out.below hbe hB) (Nat.le_trans hB hbe.size) hl hm)
        have HT := hide (fun j hj => ht1.out j hj (by omega))
        clear ht1
        go_wp2_with fail
        refine HN.out.mono ?_
        rintro e w1 ⟨⟨z, rfl, hz1, hz2⟩, hb1⟩
        have c2 := hbe.trans (hb1.mono hbe.size)
        cases z
        · obtain ⟨k, j, hk, hj, hbar⟩ := hz2 rfl
          have HF := hide (locksB_bar k j hk hj hbar)
          clear hz1 hz2 hbar
          go_wp2
          go_ret
          exact ⟨ret_bool HF.out.symm, c2⟩
        · have HF := hide (locksB_yes h6 (fun j hj => HT.out j hj) (fun j q hq hj => hz1 rfl j q hq hj))
          clear hz1 hz2
          go_wp2
          go_ret
          exact ⟨ret_bool HF.out.symm, c2⟩
end Go.Proofs.YtcgljeagjchobaaGreat
namespace Go.Proofs.YtcgljeagjchobaaGreat
open Go.RowKit Go.Maps

/-- Its keys are just the texts of which P holds. -/
def Holds (D : DataW Unit) (P : ByteArray → Prop) : Prop := ∃ es, D = .map es ∧ ∀ k : Lit, (∃ p ∈ es, p.1 = k) ↔ ∃ s : ByteArray, P s ∧ k = .string s.data.toList

theorem key_inj {s t : ByteArray} (h : Lit.string s.data.toList = .string t.data.toList) : s = t := by
  have : s.data.toList = t.data.toList := by injection h
  exact ByteArray.ext (Array.ext' this)
theorem mem_insertK (x : Lit × DataW Unit) : ∀ (l : List (Lit × DataW Unit)) (p : Lit × DataW Unit), p ∈ DataW.insert x l ↔ p = x ∨ p ∈ l
  | [], p => by simp [DataW.insert]
  | y :: r, p => by
    rw [DataW.insert]
    by_cases h : x.1.before y.1 = true
    · rw [if_pos h]; simp
    · rw [if_neg h, List.mem_cons, mem_insertK x r p, List.mem_cons]
      constructor
      · rintro (h | h | h)
        · exact .inr (.inl h)
        · exact .inl h
        · exact .inr (.inr h)
      · rintro (h | h | h)
        · exact .inr (.inl h)
        · exact .inl h
        · exact .inr (.inr h)
theorem Holds.nil : Holds (.map []) (fun _ => False) := ⟨[], rfl, fun k => ⟨(fun ⟨_, h, _⟩ => by cases h), (fun ⟨_, h, _⟩ => h.elim)⟩⟩
theorem not_key {k : Lit} {p : Lit × DataW Unit} (hk : WideAt.IsKeyLit k) : (!p.1.sameKey k) = true ↔ p.1 ≠ k := by
  constructor
  · intro h e
    rw [e, WideAt.sameKey_self hk] at h
    cases h
  · intro h
    cases hs : p.1.sameKey k
    · rfl
    · exact absurd (WideAt.sameKey_eq hs) h
theorem Holds.put {D : DataW Unit} {P : ByteArray → Prop} (h : Holds D P) (s : ByteArray) (d : DataW Unit) : Holds (D.put (.string s.data.toList) d) (fun x => x = s ∨ P x) := by
  obtain ⟨es, rfl, hk⟩ := h
  refine ⟨_, rfl, fun k => ?_⟩
  constructor
  · rintro ⟨p, hp, rfl⟩
    rcases (mem_insertK _ _ p).1 hp with rfl | hp
    · exact ⟨s, .inl rfl, rfl⟩
    · obtain ⟨t, ht, e⟩ := (hk p.1).1 ⟨p, (List.mem_filter.1 hp).1, rfl⟩
      exact ⟨t, .inr ht, e⟩
  · rintro ⟨t, ht, rfl⟩
    by_cases e : t = s
    · subst e
      exact ⟨_, (mem_insertK _ _ _).2 (.inl rfl), rfl⟩
    · rcases ht with ht | ht
      · exact absurd ht e
      · obtain ⟨p, hp, e2⟩ := (hk _).2 ⟨t, ht, rfl⟩
        refine ⟨p, (mem_insertK _ _ _).2 (.inr (List.mem_filter.2 ⟨hp, (not_key (by trivial)).2 ?_⟩)), e2⟩
        rw [e2]
        exact fun e3 => e (key_inj e3)
theorem Holds.del {D : DataW Unit} {P : ByteArray → Prop} (h : Holds D P) (s : ByteArray) : Holds (D.del (.string s.data.toList)) (fun x => P x ∧ x ≠ s) := by
  obtain ⟨es, rfl, hk⟩ := h
  refine ⟨_, rfl, fun k => ?_⟩
  constructor
  · rintro ⟨p, hp, rfl⟩
    obtain ⟨h1, h2⟩ := List.mem_filter.1 hp
    obtain ⟨t, ht, e⟩ := (hk p.1).1 ⟨p, h1, rfl⟩
    refine ⟨t, ⟨ht, fun e2 => ?_⟩, e⟩
    have h3 := (not_key (k := .string s.data.toList) (by trivial)).1 h2
    rw [e, e2] at h3
    exact h3 rfl
  · rintro ⟨t, ⟨ht, hne⟩, rfl⟩
    obtain ⟨p, hp, e2⟩ := (hk _).2 ⟨t, ht, rfl⟩
    refine ⟨p, List.mem_filter.2 ⟨hp, (not_key (by trivial)).2 ?_⟩, e2⟩
    rw [e2]
    exact fun e3 => hne (key_inj e3)
theorem Holds.size {D : DataW Unit} {P : ByteArray → Prop} (h : Holds D P) : Maps.size D = 0 ↔ ∀ s, ¬ P s := by
  obtain ⟨es, rfl, hk⟩ := h
  rw [size_eq]
  constructor
  · intro h0 s hs
    have : es = [] := List.length_eq_zero_iff.1 h0
    subst this
    obtain ⟨p, hp, _⟩ := (hk _).2 ⟨s, hs, rfl⟩
    cases hp
  · intro h0
    cases es with
    | nil => rfl
    | cons p r =>
      obtain ⟨s, hs, _⟩ := (hk p.1).1 ⟨p, by simp, rfl⟩
      exact absurd hs (h0 s)
theorem Holds.same {D : DataW Unit} {P Q : ByteArray → Prop} (h : Holds D P) (e : ∀ s, P s ↔ Q s) : Holds D Q := by
  obtain ⟨es, rfl, hk⟩ := h
  refine ⟨es, rfl, fun k => (hk k).trans ?_⟩
  constructor
  · rintro ⟨s, hs, e2⟩; exact ⟨s, (e s).1 hs, e2⟩
  · rintro ⟨s, hs, e2⟩; exact ⟨s, (e s).2 hs, e2⟩
end Go.Proofs.YtcgljeagjchobaaGreat
namespace Go.Proofs.YtcgljeagjchobaaGreat
open Go.RowKit M
set_option linter.unusedVariables false

set_option maxHeartbeats 400000 in
theorem above_any (b o : Nat) (ss : List ByteArray) (cap B : Nat) (w : World) (h : Strs w B (some ⟨b, o, none⟩) ss) (hB : B ≤ w.heap.size) (hl : ss.length ≤ 1048576) (hs : ∀ s ∈ ss, s.size ≤ 281474976710656) (hc : ss.length ≤ cap) (hc' : cap ≤ maxLen) :
    Calls Tryz.prog 104 #[.slice (some ⟨b, o, none⟩) ss.length cap] w fun e w' => e = .returned (.slice (some ⟨w.heap.size, 0, none⟩) (aboveL ss).length (aboveL ss).length) ∧ RowS w' w.heap.size (aboveL ss) ∧ Below w.heap.size w w' := by
  unfold maxLen at hc'
  have hC := fun cap => copyPath_any (some ⟨b, o, none⟩) (aboveL ss) cap B w (h.take _) hB (by rw [aboveL_len]; omega) (fun s hs' => hs s (List.mem_of_mem_take hs'))
  rw [aboveL_len] at hC ⊢
  by_cases h0 : ss.length = 0
  · have h1 : ss.length - 1 = 0 := by omega
    rw [h1] at hC ⊢
    rw [h0] at hc ⊢
    clear h1
    have HC := hide hC
    clear hC
    go_enter Tryz.func104, Tryz.ntmps104
    go_wp2_with fail
    refine (HC.out _).mono ?_
    rintro e w1 ⟨rfl, hR, hb⟩
    go_wp2
    go_ret
    exact ⟨rfl, hR, hb⟩
  · have HC := hide hC
    clear hC
    have e1 : (ss.length : Int) - 1 = ((ss.length - 1 : Nat) : Int) := by omega
    obtain ⟨n, hn⟩ : ∃ n, ss.length = n + 1 := ⟨ss.length - 1, by omega⟩
    rw [hn] at HC hc ⊢
    have HN := hide hn
    clear e1 h0 hn
    simp only [Nat.add_sub_cancel] at HC ⊢
    have hl2 : n + 1 ≤ 1048576 := by rw [← HN.out]; exact hl
    go_enter Tryz.func104, Tryz.ntmps104
    go_wp2_with fail
    refine (HC.out _).mono ?_
    rintro e w1 ⟨rfl, hR, hb⟩
    go_wp2
    go_ret
    exact ⟨rfl, hR, hb⟩
end Go.Proofs.YtcgljeagjchobaaGreat
namespace Go.Proofs.YtcgljeagjchobaaGreat
open Go.RowKit

theorem ret_str {l m : List UInt8} (h : l = m) : Ending.returned (.string ⟨l.toArray⟩) = .returned (.string ⟨m.toArray⟩) := by rw [h]

/-- 'string(b)' of a row of bytes that the call owns: its bytes; the world is as it was. -/
theorem conv_own {w : World} {B n : Nat} {v : Value} {l : List UInt8} (h : w.ownsRow B 5 1 v n (Lib.byteCells l)) :
    (convert 121 9 v).run Tryz.prog w = .ok (.string ⟨l.toArray⟩) w := by
  have hn : n = l.length := by have := h.1; rw [Lib.byteCells_length] at this; omega
  subst hn
  rcases h.2 with ⟨rfl, h0⟩ | ⟨g, cap, cur, rfl, _, hg, _, _, _, htk⟩
  · have : l = [] := List.length_eq_zero_iff.1 h0
    subst this
    exact run_convert_bytes_nil w 121 5 Tryz.underlying121 Tryz.underlying5 0 0 9 Tryz.underlying9
  · refine run_convert_bytes_back w 121 9 5 _ cap l Tryz.underlying121 Tryz.underlying5 Tryz.underlying9 ?_
    intro j hj
    exact h.cells (g := g) rfl j _ (by simp [Lib.byteCells, List.getElem?_eq_getElem hj])

/-- What grew by writes to a row that the call owns is as it was below. -/
theorem below_grown {w w' : World} {B n : Nat} {e : TypeId} {v : Value} {xs : List Value} (h : w.ownsRow B e 1 v n xs) (hB : B ≤ w.heap.size) (hg : w.grownBy w' v.ownBlock) : Below B w w' :=
  ⟨hg.os, hg.tape, hg.output, hg.size, fun k hk => hg.block k (Nat.lt_of_lt_of_le hk hB) (fun e => by have := h.lt k e.symm; omega)⟩

theorem info_byte : (Tryz.prog.info? 5).map (fun i => (i.zero, i.size, i.bytes)) = some (some (.int .u8 0), 1, 1) := by kernel_rfl

/-- 'b = append(b, c)' on a row of bytes that the call owns. -/
theorem wp_append_byte {w : World} {ops : Array Oper} {rest : List Oper} {o : Oper} {a : Act} {Q : Exit → Act → World → Prop} (hgd : o.guard = none) (s x : Operand)
    (ho : o.op = .call { callee := .builtin .append, args := #[s, x], argTypes := #[121, 121] })
    (B : Nat) (v : Value) (n : Nat) (l : List UInt8) (hs : a.eval s = v) (hown : w.ownsRow B 5 1 v n (Lib.byteCells l))
    (ad : Addr) (c : UInt8) (hx : a.eval x = .slice (some ad) 1 1) (hcell : w.cell? ad = some (.int .u8 c.toNat)) (hlen : n + 1 ≤ 140737488355328) (hB : B ≤ w.heap.size)
    (h : ∀ v' w', w'.ownsRow B 5 1 v' (n + 1) (Lib.byteCells (l ++ [c])) → Below B w w' → wpList Tryz.prog ops Q rest (a.put o.dst v') w') : wpList Tryz.prog ops Q (o :: rest) a w := by
  obtain ⟨i0, hi, hz0, hz1, hz2⟩ := info_parts info_byte
  refine wpList_append_own w hgd s x 121 ho B 5 i0 (.int .u8 0) 1 1 Tryz.underlying121 hi hz0 hz1 hz2 rfl (by decide) v n _ hs hown ad 1 1 [.int .u8 c.toNat] hx rfl ?_ ?_ ?_ ?_ hB ?_
  · intro j u hj
    match j, hj with
    | 0, hj =>
      simp at hj; subst hj
      have : ad.add 0 = ad := by unfold Addr.add; split <;> simp_all
      rw [this]; exact hcell
  · intro u hu; simp at hu; subst hu; rfl
  · unfold maxLen; omega
  · omega
  · intro v' w' ho' hg _
    refine h v' w' ?_ (below_grown hown hB hg)
    rw [Lib.byteCells_append]
    exact ho'

/-- A row of bytes in block N, none of them frozen. -/
def RowAt (w : World) (N : Nat) (l : List UInt8) : Prop := ∀ j (hj : j < l.length), w.cell? ⟨N, j, none⟩ = some (.int .u8 l[j].toNat) ∧ w.frozen? ⟨N, j, none⟩ = false

theorem RowAt.alloc {w : World} {N : Nat} {l : List UInt8} (h : RowAt w N l) (hN : N < w.heap.size) (o : Obj) : RowAt (w.alloc o) N l := fun j hj =>
  ⟨(World.cell?_alloc_past o N j hN).trans (h j hj).1, (World.frozen?_alloc_past o N j hN).trans (h j hj).2⟩

theorem RowAt.set {w : World} {N : Nat} {l : List UInt8} (h : RowAt w N l) (k : Nat) (hk : k < l.length) (c : UInt8) : RowAt (w.setCell ⟨N, k, none⟩ (.int .u8 c.toNat)) N (l.set k c) := by
  intro j hj
  have hj' : j < l.length := by simpa using hj
  refine ⟨?_, by rw [World.frozen?_setCell]; exact (h j hj').2⟩
  by_cases e : k = j
  · subst e
    rw [World.cell?_setCell_same _ _ _ (h k hk).1]
    simp
  · have hne : (⟨N, k, none⟩ : Addr) ≠ ⟨N, j, none⟩ := fun e' => e (congrArg Addr.off e')
    rw [World.cell?_setCell_other _ _ _ _ hne, (h j hj').1]
    simp [e]

/-- 'string(b)' of such a row. -/
theorem conv_row {w : World} {N n cap : Nat} {l : List UInt8} (h : RowAt w N l) (hn : l.length = n) :
    (convert 121 9 (.slice (some ⟨N, 0, none⟩) n cap)).run Tryz.prog w = .ok (.string ⟨l.toArray⟩) w := by
  subst hn
  refine run_convert_bytes_back w 121 9 5 _ cap l Tryz.underlying121 Tryz.underlying5 Tryz.underlying9 ?_
  intro j hj
  have : (⟨N, 0, none⟩ : Addr).add j = ⟨N, j, none⟩ := by
    unfold Addr.add; split <;> simp_all
  rw [this]; exact (h j hj).1

/-- 'string(b)' of the end of such a row. -/
theorem conv_at {w : World} {N o n cap : Nat} {pre l : List UInt8} (h : RowAt w N (pre ++ l)) (ho : pre.length = o) (hn : l.length = n) :
    (convert 121 9 (.slice (some ⟨N, o, none⟩) n cap)).run Tryz.prog w = .ok (.string ⟨l.toArray⟩) w := by
  subst hn ho
  refine run_convert_bytes_back w 121 9 5 _ cap l Tryz.underlying121 Tryz.underlying5 Tryz.underlying9 ?_
  intro j hj
  have e : (⟨N, pre.length, none⟩ : Addr).add j = ⟨N, pre.length + j, none⟩ := by
    unfold Addr.add; split <;> simp_all
  rw [e, (h (pre.length + j) (by simp; omega)).1]
  simp

end Go.Proofs.YtcgljeagjchobaaGreat
namespace Go.Proofs.YtcgljeagjchobaaGreat
open Go.RowKit

theorem bld_size : (Tryz.prog.info? 135).map (·.size) = some 2 := by kernel_rfl
theorem bld_lies : liesAt Tryz.prog Tryz.prog.depth 135 (2 / Tryz.prog.cellsOf 135) 0 135 1 = true := by kernel_rfl

set_option maxHeartbeats 1000000 in
set_option maxRecDepth 100000 in
theorem copyCheck_fresh (b : Nat) (w : World) (h0 : w.cell? ⟨b, 0, none⟩ = some (.pointer none)) (hsh : w.shape? b = some (135, 2)) (hfz : w.frozen? ⟨b, 0, none⟩ = false) :
    Calls Tryz.prog 155 #[.pointer (some ⟨b, 0, none⟩)] w fun e w' => e = .returned (.tuple #[]) ∧ w' = w.setCell ⟨b, 0, none⟩ (.pointer (some ⟨b, 0, none⟩)) := by
  obtain ⟨j, hj, hjs⟩ := Option.map_eq_some_iff.1 bld_size
  have q1 := Lib.run_to_unsafe w ⟨b, 0, none⟩ Tryz.underlying133 Tryz.underlying150 hj (by rw [hjs]; decide) hsh (Nat.zero_lt_succ 1)
  have q2 := Lib.run_from_unsafe w ⟨b, 0, none⟩ Tryz.underlying150 Tryz.underlying133 hj hsh bld_lies
  have q3 : ∀ x : Value, (callFunc 160 #[x]).run Tryz.prog w = .ok (.value x) w := fun x => by
    rw [run_callFunc_extern Tryz.func160 (by kernel_rfl) (by kernel_rfl) (by kernel_rfl) (e := Extern.AbiNoEscape.same) (by kernel_rfl), Lib.run_noEscape]
    rfl
  go_enter Tryz.func155, Tryz.ntmps155
  go_wp2
  go_end0
  exact ⟨rfl, rfl⟩

set_option maxHeartbeats 1000000 in
theorem copyCheck_used (b : Nat) (w : World) (h0 : w.cell? ⟨b, 0, none⟩ = some (.pointer (some ⟨b, 0, none⟩))) :
    Calls Tryz.prog 155 #[.pointer (some ⟨b, 0, none⟩)] w fun e w' => e = .returned (.tuple #[]) ∧ w' = w := by
  obtain ⟨j, hj, _⟩ := Option.map_eq_some_iff.1 bld_size
  have q := Lib.run_neq_ptr_same w ⟨b, 0, none⟩ Tryz.underlying133 hj
  go_enter Tryz.func155, Tryz.ntmps155
  go_wp2
  go_end0
  exact ⟨rfl, rfl⟩

theorem copyCheck_any (B b : Nat) (bs : List Value) (w : World) (h : Lib.IsBuilder 135 5 B b bs w) :
    Calls Tryz.prog 155 #[.pointer (some ⟨b, 0, none⟩)] w fun e w' => e = .returned (.tuple #[]) ∧ Lib.BuilderAt 135 5 B b (.pointer (some ⟨b, 0, none⟩)) bs w' ∧ Below B w w' := by
  rcases h with h | h
  · refine (copyCheck_fresh b w h.cell0 h.shape h.frozen0).mono ?_
    rintro e w' ⟨rfl, rfl⟩
    exact ⟨rfl, h.used _, (Below.refl B w).setCell (p := ⟨b, 0, none⟩) h.1 _⟩
  · refine (copyCheck_used b w h.cell0).mono ?_
    rintro e w' ⟨rfl, rfl⟩
    exact ⟨rfl, h, Below.refl B _⟩

/-- A builder stays what it is where only new memory is laid. -/
theorem bld_below {T e : TypeId} {B b : Nat} {bs : List Value} {w w' : World} (h : Lib.IsBuilder T e B b bs w) (hb : Below w.heap.size w w') : Lib.IsBuilder T e B b bs w' := by
  have go : ∀ p, Lib.BuilderAt T e B b p bs w → Lib.BuilderAt T e B b p bs w' := fun p hp => by
    have hlt := hp.lt
    obtain ⟨hB, v, hv, hown, hne⟩ := hp
    exact ⟨hB, v, (hb.block b hlt).trans hv, hown.kept (row := none) ⟨hb.os, hb.tape, hb.output, hb.size, fun k hk _ => hb.block k hk⟩ (Classical.em _), hne⟩
  exact h.elim (fun x => .inl (go _ x)) (fun x => .inr (go _ x))

set_option maxHeartbeats 2000000 in
set_option maxRecDepth 100000 in
theorem writeByte_any (B b : Nat) (l : List UInt8) (c : UInt8) (w : World) (h : Lib.IsBuilder 135 5 B b (Lib.byteCells l) w) (hlen : l.length + 1 ≤ 140737488355328) (hBw : B ≤ w.heap.size) :
    Calls Tryz.prog 144 #[.pointer (some ⟨b, 0, none⟩), .int .u8 c.toNat] w fun e w' => e = .returned .nilIface ∧ Lib.IsBuilder 135 5 B b (Lib.byteCells (l ++ [c])) w' ∧ Below B w w' := by
  obtain ⟨i0, hi, hz0, hz1, hz2⟩ := info_parts info_byte
  go_enter Tryz.func144, Tryz.ntmps144
  go_wp2_with fail
  refine (copyCheck_any B b _ w h).mono ?_
  rintro e w1 ⟨rfl, h1, hb1⟩
  have hlt := h1.lt
  obtain ⟨hB, v, hbk, hown, hne⟩ := h1
  rw [Lib.byteCells_length] at hown
  have c0 : w1.cell? ⟨b, 0, none⟩ = some (.pointer (some ⟨b, 0, none⟩)) := by rw [Lib.cell_of_heap hbk]; rfl
  have c1 : w1.cell? ⟨b, 1, none⟩ = some v := by rw [Lib.cell_of_heap hbk]; rfl
  go_wp2_with (at_builtin; refine wpList_append_own _ rfl _ _ 121 rfl B 5 i0 (.int .u8 0) 1 1 Tryz.underlying121 hi hz0 hz1 hz2 rfl (by decide) v l.length _ rfl (hown.alloc _) ⟨w1.heap.size, 0, none⟩ 1 1 [.int .u8 c.toNat] rfl rfl ?c1 ?c2 ?c3 ?c4 ?c5 ?_)
  case c1 =>
    intro j u hj
    match j, hj with
    | 0, hj => simp at hj; subst hj; simp [Addr.add]
  case c2 => intro u hu; simp at hu; subst hu; rfl
  case c3 => unfold maxLen; omega
  case c4 => omega
  case c5 => have := hb1.size; simp; omega
  intro v' w2 hown' hgrow _
  have hb2 : w2.heap[b]? = some (.cells #[.pointer (some ⟨b, 0, none⟩), v] 135 (0, 0)) := by
    rw [hgrow.block b (by simp; omega) (fun e => hne e.symm), Lib.alloc_old w1 _ b hlt]
    exact hbk
  have d0 : w2.cell? ⟨b, 0, none⟩ = some (.pointer (some ⟨b, 0, none⟩)) := by rw [Lib.cell_of_heap hb2]; rfl
  have d1 : w2.cell? ⟨b, 1, none⟩ = some v := by rw [Lib.cell_of_heap hb2]; rfl
  have f1 : w2.frozen? ⟨b, 1, none⟩ = false := Lib.frozen_of_heap hb2 1
  obtain ⟨g, cap, rfl⟩ : ∃ g cap, v' = .slice (some ⟨g, 0, none⟩) (l.length + 1) cap := by
    rcases hown'.2 with ⟨_, h0⟩ | ⟨g, cap, cur, hv, _⟩
    · omega
    · exact ⟨g, cap, hv⟩
  go_wp2
  go_ret
  refine ⟨rfl, .inr ?_, ?_⟩
  · refine Lib.BuilderAt.put (T := 135) (e := 5) hB hb2 (bs' := Lib.byteCells (l ++ [c])) ?_ (by decide)
    rw [Lib.byteCells_length, List.length_append, Lib.byteCells_append]
    exact hown'
  · exact ((hb1.alloc (by have := hb1.size; omega) _).grown hgrow (by have := hb1.size; simp; omega) (fun k hk => (hown.lt k hk).1)).setCell (p := ⟨b, 1, none⟩) hB _
end Go.Proofs.YtcgljeagjchobaaGreat
namespace Go.Proofs.YtcgljeagjchobaaGreat
open Go.RowKit M

set_option maxHeartbeats 400000 in
theorem isOf_any (c k : Int) (w : World) :
    Calls Tryz.prog 159 #[.int .u8 c, .int .i64 k] w fun e w' => e = .returned (.bool (isB c k)) ∧ w' = w := by
  go_enter Tryz.func159, Tryz.ntmps159
  go_wp2
  all_goals
    go_ret
    refine ⟨ret_bool ?_, rfl⟩
    go_light
    unfold isB
    simp_all
    try omega

set_option maxHeartbeats 400000 in
theorem isOneOf_any (c : Int) (ks : List Int) (n b o cap : Nat) (w : World) (hn : ks.length = n) (hl : ks.length ≤ maxLen)
    (hc : ∀ i, i < ks.length → w.cell? ⟨b, o + i, none⟩ = some (.int .i64 (ks.getD i 0))) :
    Calls Tryz.prog 153 #[.int .u8 c, .slice (some ⟨b, o, none⟩) n cap] w fun e w' => e = .returned (.bool (anyB c ks)) ∧ w' = w := by
  subst hn
  unfold maxLen at hl
  go_enter Tryz.func153, Tryz.ntmps153
  go_wp2
  go_loop [9] (fun i => ∃ k : Nat, k ≤ ks.length ∧ i = .int .i64 k ∧ anyB c (ks.take k) = false) (fun i => ks.length - (intOf i).toNat)
  case atStart => exact ⟨0, Nat.zero_le _, rfl, rfl⟩
  case round =>
    obtain ⟨k, hk, rfl, hn⟩ := hrel
    have HN : Hid (anyB c (ks.take k) = false) := hn; clear hn
    by_cases hlt : k < ks.length
    · have hcx := hc k hlt
      go_wp2_with (go_at_call 159; refine (isOf_any _ _ _).mono ?_; rintro e w' ⟨rfl, rfl⟩)
      · go_ret
        exact ⟨ret_bool (by rw [anyB_of c ks k hlt (by assumption)]), rfl⟩
      · go_round
        case rel => exact ⟨k + 1, by omega, by go_num, anyB_snoc c ks k hlt HN.out (by assumption)⟩
        case measure => simp [intOf]; omega
    · go_wp2
      go_ret
      exact ⟨ret_bool (by rw [← HN.out, List.take_of_length_le (by omega)]), rfl⟩
theorem cells1 (w : World) (a : Int) (T : TypeId) : ∀ i, i < [a].length → (w.alloc (Obj.cells #[.int .i64 a] T)).cell? ⟨w.heap.size, 0 + i, none⟩ = some (.int .i64 ([a].getD i 0)) := by
  intro i hi
  match i, hi with
  | 0, _ => simp

theorem cells3 (w : World) (n : Nat) (a b c : Int) (T : TypeId) (hn : w.heap.size = n) : ∀ i, i < [a, b, c].length → (w.alloc (Obj.cells #[.int .i64 a, .int .i64 b, .int .i64 c] T)).cell? ⟨n, 0 + i, none⟩ = some (.int .i64 ([a, b, c].getD i 0)) := by
  subst hn
  intro i hi
  match i, hi with
  | 0, _ => simp
  | 1, _ => simp
  | 2, _ => simp
end Go.Proofs.YtcgljeagjchobaaGreat
namespace Go.Proofs.YtcgljeagjchobaaGreat
open Go.RowKit M
set_option linter.unusedVariables false

theorem cells4 (w : World) (n : Nat) (a b c d : Int) (T : TypeId) (hn : w.heap.size = n) : ∀ i, i < [a, b, c, d].length → (w.alloc (Obj.cells #[.int .i64 a, .int .i64 b, .int .i64 c, .int .i64 d] T)).cell? ⟨n, 0 + i, none⟩ = some (.int .i64 ([a, b, c, d].getD i 0)) := by
  subst hn
  intro i hi
  match i, hi with
  | 0, _ => simp
  | 1, _ => simp
  | 2, _ => simp
  | 3, _ => simp

theorem free_any (c : Int) : freeB c = (anyB c [2, 3, 4, 7] || c == 46 || c == 95 || c == 126) := by
  simp only [freeB, anyB, List.any_cons, List.any_nil, Bool.or_false]
  have : isB c 7 = (c == 45) := by simp [isB]
  rw [this]
  simp only [Bool.or_assoc]

set_option maxHeartbeats 1000000 in
theorem stays_any (c : UInt8) (w : World) :
    Calls Tryz.prog 143 #[.int .u8 c.toNat] w fun e w' => e = .returned (.bool (freeB c.toNat)) ∧ Below w.heap.size w w' := by
  have HF := free_any (c.toNat : Int)
  cases hb : anyB (c.toNat : Int) [2, 3, 4, 7]
  · rw [hb] at HF
    have HF2 : Hid (freeB (c.toNat : Int) = (false || (c.toNat : Int) == 46 || (c.toNat : Int) == 95 || (c.toNat : Int) == 126)) := HF
    clear HF
    go_enter Tryz.func143, Tryz.ntmps143
    go_wp2_with (go_at_call 153; refine (isOneOf_any _ [2, 3, 4, 7] 4 _ 0 4 _ rfl (by decide) (cells4 _ _ 2 3 4 7 _ rfl)).mono ?_; rintro e w1 ⟨rfl, rfl⟩; rw [hb])
    all_goals
      go_ret
      refine ⟨ret_bool ?_, (Below.refl _ _).alloc (Nat.le_refl _) _⟩
      rw [HF2.out]
      simp_all
  · rw [hb] at HF
    have HF2 : Hid (freeB (c.toNat : Int) = true) := by show freeB (c.toNat : Int) = true; rw [HF]; simp
    clear HF
    go_enter Tryz.func143, Tryz.ntmps143
    go_wp2_with (go_at_call 153; refine (isOneOf_any _ [2, 3, 4, 7] 4 _ 0 4 _ rfl (by decide) (cells4 _ _ 2 3 4 7 _ rfl)).mono ?_; rintro e w1 ⟨rfl, rfl⟩; rw [hb])
    all_goals
      go_ret
      exact ⟨ret_bool HF2.out.symm, (Below.refl _ _).alloc (Nat.le_refl _) _⟩

set_option maxHeartbeats 2000000 in
theorem quote_any (s : ByteArray) (w : World) (hs : s.size ≤ 1099511627776) :
    Calls Tryz.prog 130 #[.string s] w fun e w' => e = .returned (.string ⟨(quoteL s.data.toList).toArray⟩) ∧ Below w.heap.size w w' := by
  go_enter Tryz.func130, Tryz.ntmps130
  go_wp2
  go_loopw [4] (fun i wr => ∃ k : Nat, k ≤ s.size ∧ i = .int .i64 k ∧ (quoteL (s.data.toList.take k)).length ≤ 3 * k ∧ Lib.IsBuilder 135 5 w.heap.size w.heap.size (Lib.byteCells (quoteL (s.data.toList.take k))) wr ∧ Below w.heap.size w wr) (fun i _ => s.size - (intOf i).toNat)
  case atStart => exact ⟨0, Nat.zero_le _, rfl, Nat.zero_le _, Lib.fresh_isBuilder _ _ w, (Below.refl _ _).alloc (Nat.le_refl _) _⟩
  case round =>
    obtain ⟨k, hk, rfl, hn3, hI, hbe⟩ := hrel
    by_cases hlt : k < s.size
    · have HL : Hid (quoteL (s.data.toList.take (k + 1)) = quoteL (s.data.toList.take k) ++ quoteB s[k]) := quoteL_snoc s k hlt
      have HK : Hid ((quoteL (s.data.toList.take (k + 1))).length ≤ 3 * (k + 1)) := by
        have h3 := quoteB_length s[k]
        show (quoteL (s.data.toList.take (k + 1))).length ≤ 3 * (k + 1)
        rw [HL.out, List.length_append]; omega
      cases hb : freeB ((s[k]).toNat : Int)
      · have HB : Hid (quoteB s[k] = [37, digL (s[k].toNat / 16), digL (s[k].toNat % 16)]) := quoteB_no hb
        have h256 := UInt8.toNat_lt s[k]
        go_wp2_with fail
        refine (stays_any s[k] wr).mono ?_
        rintro e w1 ⟨rfl, b1⟩
        rw [hb]
        have c1 := hbe.trans (b1.mono hbe.size)
        go_wp2_with fail
        refine (writeByte_any w.heap.size w.heap.size _ 37 w1 (bld_below hI b1) (by omega) c1.size).mono ?_
        rintro e w2 ⟨rfl, I2, b2⟩
        have c2 := c1.trans b2
        go_wp2_with fail
        rw [hex_at (s[k].toNat / 16) (by omega)]
        refine (writeByte_any w.heap.size w.heap.size _ (digL (s[k].toNat / 16)) w2 I2 (by simp; omega) c2.size).mono ?_
        rintro e w3 ⟨rfl, I3, b3⟩
        have c3 := c2.trans b3
        go_wp2_with fail
        rw [hex_at (s[k].toNat % 16) (by omega)]
        refine (writeByte_any w.heap.size w.heap.size _ (digL (s[k].toNat % 16)) w3 I3 (by simp; omega) c3.size).mono ?_
        rintro e w4 ⟨rfl, I4, b4⟩
        have HE := HL.out
        rw [HB.out] at HE
        have e4 : quoteL (s.data.toList.take k) ++ [37] ++ [digL (s[k].toNat / 16)] ++ [digL (s[k].toNat % 16)] = quoteL (s.data.toList.take (k + 1)) := by rw [HE]; simp
        rw [e4] at I4
        go_wp2
        go_roundw
        case rel => exact ⟨k + 1, by omega, by go_num, HK.out, I4, c3.trans b4⟩
        case measure => simp [intOf]; omega
      · have HB : Hid (quoteB s[k] = [s[k]]) := quoteB_yes hb
        go_wp2_with fail
        refine (stays_any s[k] wr).mono ?_
        rintro e w1 ⟨rfl, b1⟩
        rw [hb]
        have c1 := hbe.trans (b1.mono hbe.size)
        go_wp2_with fail
        refine (writeByte_any w.heap.size w.heap.size _ s[k] w1 (bld_below hI b1) (by omega) c1.size).mono ?_
        rintro e w2 ⟨rfl, I2, b2⟩
        have HE := HL.out
        rw [HB.out] at HE
        rw [← HE] at I2
        go_wp2
        go_roundw
        case rel => exact ⟨k + 1, by omega, by go_num, HK.out, I2, c1.trans b2⟩
        case measure => simp [intOf]; omega
    · go_wp2_with fail
      refine (Tryz.Builder_String_any w.heap.size w.heap.size _ wr hI hbe.size).mono ?_
      rintro e w1 ⟨rfl, b1⟩
      go_wp2
      go_ret
      exact ⟨ret_str (by rw [take_all s k hlt]), hbe.trans b1⟩
end Go.Proofs.YtcgljeagjchobaaGreat
