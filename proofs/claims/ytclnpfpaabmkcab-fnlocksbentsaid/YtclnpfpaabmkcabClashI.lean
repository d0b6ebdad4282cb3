/-
  What impl.LockClash does.
-/
import Derived.Test.YtclnpfpaabmkcabCoversI
namespace Go.Proofs.Ytclnpfpaabmkcab
open Go.RowKit M
set_option linter.unusedVariables false

set_option maxHeartbeats 2000000 in
theorem lockClash_any (r : Lk) (pa : Option Addr) (pc : Nat) (s : Lk) (qa : Option Addr) (qc B C : Nat) (w : World) (h : LkIn w B r pa pc) (hB : B ≤ w.heap.size) (h' : LkIn w C s qa qc) (hC : C ≤ w.heap.size) :
    Calls Try.prog 19 #[.agg #[.int .i64 r.tk, .slice pa r.pa.length pc, .bool r.de, .bool r.sh, .int .i64 r.un], .agg #[.int .i64 s.tk, .slice qa s.pa.length qc, .bool s.de, .bool s.sh, .int .i64 s.un]] w fun e w' => e = .returned (.bool (clashB r s)) ∧ Below w.heap.size w w' := by
  have F0 : Hid (r.sh = true → s.sh = true → clashB r s = false) := fun e e' => by unfold clashB; rw [e, e']; rfl
  have F1 : Hid ((!r.sh || !s.sh) = true → covB r s.pa = true → clashB r s = true) := fun e e' => by unfold clashB; rw [e, e']; rfl
  have F2 : Hid ((!r.sh || !s.sh) = true → covB r s.pa = false → clashB r s = covB s r.pa) := fun e e' => by unfold clashB; rw [e, e']; rfl
  have hb0 : Below w.heap.size w ((w.alloc (Obj.cells #[.int .i64 r.tk, .slice pa r.pa.length pc, .bool r.de, .bool r.sh, .int .i64 r.un] 26)).alloc (Obj.cells #[.int .i64 s.tk, .slice qa s.pa.length qc, .bool s.de, .bool s.sh, .int .i64 s.un] 26)) := ((Below.refl _ _).alloc (Nat.le_refl _) _).alloc (by simp) _
  have hS := covers_any r pa pc qa s.pa qc B C _ (h.below hb0 hB) (Nat.le_trans hB hb0.size) (h'.ph.below hb0 hC) (Nat.le_trans hC hb0.size) h'.pl h'.pm
  have HU := hide (fun w1 (hb : Below w.heap.size w w1) => covers_any s qa qc pa r.pa pc C B w1 (h'.below hb hC) (Nat.le_trans hC hb.size) (h.ph.below hb hB) (Nat.le_trans hB hb.size) h.pl h.pm)
  have HB0 := hide hb0
  obtain ⟨z1, hz1⟩ : ∃ z, covB r s.pa = z := ⟨_, rfl⟩
  obtain ⟨z2, hz2⟩ : ∃ z, covB s r.pa = z := ⟨_, rfl⟩
  rw [hz1] at hS F1 F2
  rw [hz2] at HU F2
  generalize clashB r s = dd at *
  clear hb0 h h' hz1 hz2
  obtain ⟨tk, ss, de, sh, un⟩ := r
  obtain ⟨tk', ss', de', sh', un'⟩ := s
  simp only at *
  have HS := hide hS
  clear hS
  by_cases hsh : (!sh || !sh') = true
  · have hdd : dd = if z1 = true then true else z2 := by
      cases z1
      · rw [F2.out hsh rfl]; rfl
      · rw [F1.out hsh rfl]; rfl
    clear F0 F1 F2
    have hsh2 : sh = false ∨ (sh = true ∧ sh' = false) := by cases sh <;> cases sh' <;> simp_all
    clear hsh
    rcases hsh2 with rfl | ⟨rfl, rfl⟩
    all_goals
      cases z1
      · obtain rfl : dd = z2 := by simpa using hdd
        clear hdd
        go_enter Try.func19, Try.ntmps19
        go_wp2_with fail
        refine HS.out.mono ?_
        rintro e w1 ⟨rfl, hb1⟩
        obtain ⟨hcl, _⟩ := bcellL hb1
        have HC1 := hide (HB0.out.trans (hb1.mono HB0.out.size))
        have HU1 := hide (HU.out w1 HC1.out)
        clear hb1
        go_wp2_with fail
        refine HU1.out.mono ?_
        rintro e w2 ⟨rfl, hb2⟩
        have c2 := HC1.out.trans (hb2.mono HC1.out.size)
        go_wp2
        go_ret
        exact ⟨rfl, c2⟩
      · obtain rfl : dd = true := by simpa using hdd
        clear hdd
        go_enter Try.func19, Try.ntmps19
        go_wp2_with fail
        refine HS.out.mono ?_
        rintro e w1 ⟨rfl, hb1⟩
        have HC1 := hide (HB0.out.trans (hb1.mono HB0.out.size))
        clear hb1
        go_wp2
        go_ret
        exact ⟨rfl, HC1.out⟩
  · have hsh2 : sh = true ∧ sh' = true := by cases sh <;> cases sh' <;> simp_all
    obtain ⟨rfl, rfl⟩ := hsh2
    rw [F0.out rfl rfl]
    clear hsh
    go_enter Try.func19, Try.ntmps19
    go_wp2
    go_ret
    exact ⟨rfl, HB0.out⟩
end Go.Proofs.Ytclnpfpaabmkcab
