/-
  What the specification's Under does.
  What spec.Covers does.
  What spec.LockClash does.
-/
import Derived.Test.YtcgljeagjchobaaGreatSpecLess
import Derived.Test.YtcgljeagjchobaaGreatGenSrv
import Derived.Test.YtcgljeagjchobaaGreatGenPick
namespace Go.Proofs.YtcgljeagjchobaaGreat
open Go.RowKit
set_option linter.unusedVariables false

set_option maxHeartbeats 400000 in
theorem specUnder_any (a b : Option Addr) (ss tt : List ByteArray) (cap cap' B C : Nat) (w : World) (h : Strs w B a ss) (h' : Strs w C b tt) (hl : ss.length ≤ maxLen) (hl' : tt.length ≤ maxLen) (hc : ss.length ≤ cap) (hc' : cap ≤ maxLen) :
    Calls Tryz.prog 123 #[.slice a ss.length cap, .slice b tt.length cap'] w fun e w' => e = .returned (.bool (underB ss tt)) ∧ ∀ D, Below D w w' := by
  have hl1 := hl
  have hl2 := hl'
  have hc2 := hc'
  unfold maxLen at hl hl' hc'
  by_cases hlt : tt.length < ss.length
  · have ht : (ss.take tt.length).length = tt.length := by rw [List.length_take]; omega
    have cE := fun w1 cap1 (hh : Strs w1 B a ss) (hh' : Strs w1 C b tt) => specSamePath_any a b (ss.take tt.length) tt cap1 cap' B C w1 (hh.take _) hh' (by omega) hl2
    rw [ht] at cE
    obtain ⟨b1, o1, rfl, _, _⟩ := h (by omega)
    go_enter Tryz.func123, Tryz.ntmps123
    go_wp2_with fail
    refine (cE _ _ h h').mono ?_
    rintro e w1 ⟨rfl, hb⟩
    go_wp2
    go_ret
    exact ⟨ret_bool (by simp [underB, hlt]), hb⟩
  · go_enter Tryz.func123, Tryz.ntmps123
    go_wp2
    go_ret
    exact ⟨ret_bool (by simp [underB, hlt]), fun D => Below.refl _ _⟩

end Go.Proofs.YtcgljeagjchobaaGreat
namespace Go.Proofs.YtcgljeagjchobaaGreat
open Go.RowKit M
set_option linter.unusedVariables false

set_option maxHeartbeats 1000000 in
theorem specCovers_any (r : Lk) (pa : Option Addr) (pc : Nat) (a : Option Addr) (ss : List ByteArray) (cap B C : Nat) (w : World) (h : LkIn w B r pa pc) (hB : B ≤ w.heap.size) (h' : Strs w C a ss) (hC : C ≤ w.heap.size) (hl : ss.length ≤ cap) (hm : cap ≤ maxLen) :
    Calls Tryz.prog 96 #[.agg #[.int .i64 r.tk, .slice pa r.pa.length pc, .bool r.de, .bool r.sh, .int .i64 r.un], .slice a ss.length cap] w fun e w' => e = .returned (.bool (covB r ss)) ∧ Below w.heap.size w w' := by
  have l1 := h.len
  have p1 := h.ph
  have l2 : ss.length ≤ maxLen := Nat.le_trans hl hm
  have F1 : Hid (sameL r.pa ss = true → covB r ss = true) := fun e => by unfold covB; rw [e]; rfl
  have F2 : Hid (sameL r.pa ss = false → r.de = false → covB r ss = false) := fun e e' => by unfold covB; rw [e, e']; rfl
  have F3 : Hid (sameL r.pa ss = false → r.de = true → covB r ss = underB ss r.pa) := fun e e' => by unfold covB; rw [e, e']; rfl
  generalize covB r ss = dd at *
  clear h
  obtain ⟨tk, tt, de, sh, un⟩ := r
  simp only at *
  have hb0 : Below w.heap.size w (w.alloc (Obj.cells #[.int .i64 tk, .slice pa tt.length pc, .bool de, .bool sh, .int .i64 un] 48)) := (Below.refl _ _).alloc (Nat.le_refl _) _
  have hS := specSamePath_any pa a tt ss pc cap B C _ (p1.below hb0 hB) (h'.below hb0 hC) l1 l2
  have HU := hide (fun w1 (hb : ∀ D, Below D (w.alloc (Obj.cells #[.int .i64 tk, .slice pa tt.length pc, .bool de, .bool sh, .int .i64 un] 48)) w1) => specUnder_any a pa ss tt cap pc C B w1 ((h'.below hb0 hC).below (hb _) (Nat.le_refl _)) ((p1.below hb0 hB).below (hb _) (Nat.le_refl _)) l2 l1 hl hm)
  have HB0 := hide hb0
  clear hb0 p1 h'
  obtain ⟨z, hz⟩ : ∃ z, sameL tt ss = z := ⟨_, rfl⟩
  rw [hz] at hS
  have HS := hide hS
  clear hS
  cases z
  · cases de
    · rw [F2.out hz rfl]
      clear hz
      go_enter Tryz.func96, Tryz.ntmps96
      go_wp2_with fail
      refine HS.out.mono ?_
      rintro e w1 ⟨rfl, hb1⟩
      have hcl : ∀ b o, w1.cell? ⟨b, o, none⟩ = _ := fun b o => (hb1 (b + 1)).cell (p := ⟨b, o, none⟩) (Nat.lt_succ_self _)
      have HC1 := hide (HB0.out.trans (hb1 _))
      clear hb1
      go_wp2
      go_ret
      exact ⟨rfl, HC1.out⟩
    · rw [F3.out hz rfl]
      clear hz
      go_enter Tryz.func96, Tryz.ntmps96
      go_wp2_with fail
      refine HS.out.mono ?_
      rintro e w1 ⟨rfl, hb1⟩
      have hcl : ∀ b o, w1.cell? ⟨b, o, none⟩ = _ := fun b o => (hb1 (b + 1)).cell (p := ⟨b, o, none⟩) (Nat.lt_succ_self _)
      have HC1 := hide (HB0.out.trans (hb1 _))
      have HU1 := hide (HU.out w1 hb1)
      clear hb1
      go_wp2_with fail
      refine HU1.out.mono ?_
      rintro e w2 ⟨rfl, hb2⟩
      have c2 := HC1.out.trans (hb2 _)
      go_wp2
      go_ret
      exact ⟨rfl, c2⟩
  · rw [F1.out hz]
    clear hz
    go_enter Tryz.func96, Tryz.ntmps96
    go_wp2_with fail
    refine HS.out.mono ?_
    rintro e w1 ⟨rfl, hb1⟩
    have HC1 := hide (HB0.out.trans (hb1 _))
    clear hb1
    go_wp2
    go_ret
    exact ⟨rfl, HC1.out⟩
end Go.Proofs.YtcgljeagjchobaaGreat
namespace Go.Proofs.YtcgljeagjchobaaGreat
open Go.RowKit M
set_option linter.unusedVariables false

set_option maxHeartbeats 2000000 in
theorem specLockClash_any (r : Lk) (pa : Option Addr) (pc : Nat) (s : Lk) (qa : Option Addr) (qc B C : Nat) (w : World) (h : LkIn w B r pa pc) (hB : B ≤ w.heap.size) (h' : LkIn w C s qa qc) (hC : C ≤ w.heap.size) :
    Calls Tryz.prog 58 #[.agg #[.int .i64 r.tk, .slice pa r.pa.length pc, .bool r.de, .bool r.sh, .int .i64 r.un], .agg #[.int .i64 s.tk, .slice qa s.pa.length qc, .bool s.de, .bool s.sh, .int .i64 s.un]] w fun e w' => e = .returned (.bool (clashB r s)) ∧ Below w.heap.size w w' := by
  have F0 : Hid (r.sh = true → s.sh = true → clashB r s = false) := fun e e' => by unfold clashB; rw [e, e']; rfl
  have F1 : Hid ((!r.sh || !s.sh) = true → covB r s.pa = true → clashB r s = true) := fun e e' => by unfold clashB; rw [e, e']; rfl
  have F2 : Hid ((!r.sh || !s.sh) = true → covB r s.pa = false → clashB r s = covB s r.pa) := fun e e' => by unfold clashB; rw [e, e']; rfl
  have hb0 : Below w.heap.size w ((w.alloc (Obj.cells #[.int .i64 r.tk, .slice pa r.pa.length pc, .bool r.de, .bool r.sh, .int .i64 r.un] 48)).alloc (Obj.cells #[.int .i64 s.tk, .slice qa s.pa.length qc, .bool s.de, .bool s.sh, .int .i64 s.un] 48)) := ((Below.refl _ _).alloc (Nat.le_refl _) _).alloc (by simp) _
  have hS := specCovers_any r pa pc qa s.pa qc B C _ (h.below hb0 hB) (Nat.le_trans hB hb0.size) (h'.ph.below hb0 hC) (Nat.le_trans hC hb0.size) h'.pl h'.pm
  have HU := hide (fun w1 (hb : Below w.heap.size w w1) => specCovers_any s qa qc pa r.pa pc C B w1 (h'.below hb hC) (Nat.le_trans hC hb.size) (h.ph.below hb hB) (Nat.le_trans hB hb.size) h.pl h.pm)
  have HB0 := hide hb0
  obtain ⟨z1, hz1⟩ : ∃ z, covB r s.pa = z := ⟨_, rfl⟩
  obtain ⟨z2, hz2⟩ : ∃ z, covB s r.pa = z := ⟨_, rfl⟩
  rw [hz1] at hS F1 F2
  rw [hz2] at HU F2
  generalize clashB r s = dd at *
  clear hb0 h h' hz1 hz2
  obtain ⟨tk, ss, de, sh, un⟩ := r
  obtain ⟨tk', ss', de', sh', un'⟩ := s
  simp only at *
  have HS := hide hS
  clear hS
  by_cases hsh : (!sh || !sh') = true
  · have hdd : dd = if z1 = true then true else z2 := by
      cases z1
      · rw [F2.out hsh rfl]; rfl
      · rw [F1.out hsh rfl]; rfl
    clear F0 F1 F2
    have hsh2 : sh = false ∨ (sh = true ∧ sh' = false) := by cases sh <;> cases sh' <;> simp_all
    clear hsh
    rcases hsh2 with rfl | ⟨rfl, rfl⟩
    all_goals
      cases z1
      · obtain rfl : dd = z2 := by simpa using hdd
        clear hdd
        go_enter Tryz.func58, Tryz.ntmps58
        go_wp2_with fail
        refine HS.out.mono ?_
        rintro e w1 ⟨rfl, hb1⟩
        obtain ⟨hcl, _⟩ := bcellL hb1
        have HC1 := hide (HB0.out.trans (hb1.mono HB0.out.size))
        have HU1 := hide (HU.out w1 HC1.out)
        clear hb1
        go_wp2_with fail
        refine HU1.out.mono ?_
        rintro e w2 ⟨rfl, hb2⟩
        have c2 := HC1.out.trans (hb2.mono HC1.out.size)
        go_wp2
        go_ret
        exact ⟨rfl, c2⟩
      · obtain rfl : dd = true := by simpa using hdd
        clear hdd
        go_enter Tryz.func58, Tryz.ntmps58
        go_wp2_with fail
        refine HS.out.mono ?_
        rintro e w1 ⟨rfl, hb1⟩
        have HC1 := hide (HB0.out.trans (hb1.mono HB0.out.size))
        clear hb1
        go_wp2
        go_ret
        exact ⟨rfl, HC1.out⟩
  · have hsh2 : sh = true ∧ sh' = true := by cases sh <;> cases sh' <;> simp_all
    obtain ⟨rfl, rfl⟩ := hsh2
    rw [F0.out rfl rfl]
    clear hsh
    go_enter Tryz.func58, Tryz.ntmps58
    go_wp2
    go_ret
    exact ⟨rfl, HB0.out⟩
end Go.Proofs.YtcgljeagjchobaaGreat
