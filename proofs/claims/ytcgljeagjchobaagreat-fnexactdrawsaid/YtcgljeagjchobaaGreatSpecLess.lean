/-
  Whether two slices of texts hold the same: what spec.SamePath does.
  What spec.FindRes does.
  What spec.IsColl does.
  What spec.Above does of a path of one name at least.
  Whether a list of texts comes ahead of another: what spec.LessPath does.
-/
import Derived.Test.YtcgljeagjchobaaGreatGenSrv
import Derived.Test.YtcgljeagjchobaaGreatTokenOk
import Derived.Test.YtcgljeagjchobaaGreatMathBack3
import Derived.Test.YtcgljeagjchobaaGreatSpecCopyAll
import Derived.Test.YtcgljeagjchobaaGreatTurn
namespace Go.Proofs.YtcgljeagjchobaaGreat
open Go.RowKit
set_option linter.unusedVariables false

set_option maxHeartbeats 400000 in
theorem specSamePath_any (a b : Option Addr) (ss tt : List ByteArray) (cap cap' B C : Nat) (w : World) (h : Strs w B a ss) (h' : Strs w C b tt) (hl : ss.length ≤ maxLen) (hl' : tt.length ≤ maxLen) :
    Calls Tryz.prog 122 #[.slice a ss.length cap, .slice b tt.length cap'] w fun e w' => e = .returned (.bool (sameL ss tt)) ∧ ∀ D, Below D w w' := by
  unfold maxLen at hl hl'
  by_cases hlen : ss.length = tt.length
  · have HL : Hid (ss.length = tt.length) := hlen
    go_enter Tryz.func122, Tryz.ntmps122
    rw [← hlen]
    clear hlen
    go_wp2
    go_loopw [5] (fun i wr => ∃ k n : Nat, k ≤ ss.length ∧ i = .int .i64 k ∧ ss.take k = tt.take k ∧ wr = w.drewN n) (fun i _ => ss.length - (intOf i).toNat)
    case atStart => exact ⟨0, 0, Nat.zero_le _, rfl, rfl, rfl⟩
    case round =>
      obtain ⟨k, n, hk, rfl, ht, rfl⟩ := hrel
      have HT : Hid (ss.take k = tt.take k) := ht
      clear ht
      by_cases hlt : k < ss.length
      · have hlt' : k < tt.length := by have := HL.out; omega
        obtain ⟨b1, o1, rfl, hb1, hc1⟩ := h (by omega)
        obtain ⟨b2, o2, rfl, hb2, hc2⟩ := h' (by have := HL.out; omega)
        have hcx := hc1 k hlt
        have hcy := hc2 k hlt'
        go_wp2
        go_quiet (fail)
        go_wp2
        · rename_i hne
          have hne' : ¬ ss[k] = tt[k] := fun e => by rw [e] at hne; simp at hne
          go_ret
          exact ⟨ret_bool (sameL_not k hlt hlt' hne').symm, fun D => below_drewN (below_drewN (Below.refl _ _) _) _⟩
        · rename_i he
          have he' : ss[k] = tt[k] := str_inj (by simpa using he)
          go_roundw
          case rel => exact ⟨k + 1, n + nq, by omega, by go_num, take_same k hlt hlt' HT.out he', by simp⟩
          case measure => simp [intOf]; omega
      · go_wp2
        go_ret
        exact ⟨ret_bool (sameL_all HL.out k hlt HT.out).symm, fun D => below_drewN (Below.refl _ _) _⟩
  · have HS := sameL_len hlen
    go_enter Tryz.func122, Tryz.ntmps122
    go_wp2
    go_ret
    exact ⟨ret_bool HS.symm, fun D => Below.refl _ _⟩
end Go.Proofs.YtcgljeagjchobaaGreat
namespace Go.Proofs.YtcgljeagjchobaaGreat
open Go.RowKit M
set_option linter.unusedVariables false

theorem ret_intS {a b : Int} (h : a = b) : Ending.returned (.int .i64 a) = .returned (.int .i64 b) := by rw [h]

set_option maxHeartbeats 1000000 in
theorem specFind_any (a : Option Addr) (rs : List Rs) (cap B : Nat) (a' : Option Addr) (p : List ByteArray) (cap' C : Nat) (w : World) (h : Rss w B a rs) (h' : Strs w C a' p) (hl : rs.length ≤ maxLen) (hl' : p.length ≤ maxLen) :
    Calls Tryz.prog 95 #[.slice a rs.length cap, .slice a' p.length cap'] w fun e w' => e = .returned (.int .i64 (findI rs p)) ∧ ∀ D, Below D w w' := by
  unfold maxLen at hl
  go_enter Tryz.func95, Tryz.ntmps95
  go_wp2
  go_loopw [5] (fun i wr => ∃ k : Nat, k ≤ rs.length ∧ i = .int .i64 k ∧ (∀ j (hj : j < rs.length), j < k → sameL rs[j].pa p = false) ∧ ∀ D, Below D w wr) (fun i _ => rs.length - (intOf i).toNat)
  case atStart => exact ⟨0, Nat.zero_le _, rfl, fun j _ hj => absurd hj (Nat.not_lt_zero _), fun D => Below.refl _ _⟩
  case round =>
    obtain ⟨k, hk, rfl, ht, hbe⟩ := hrel
    have HT := hide ht
    clear ht
    by_cases hlt : k < rs.length
    · obtain ⟨b, o, rfl, hb, hcc⟩ := (h.below (hbe B) (Nat.le_refl _)) (by omega)
      obtain ⟨pa, pc, qa, qc, ⟨hc0, hc1, hc2, hc3, hc4⟩, hin⟩ := hcc k hlt
      clear hcc
      have HC := hide (specSamePath_any pa a' rs[k].pa p pc cap' B C wr hin.ph (h'.below (hbe C) (Nat.le_refl _)) (Nat.le_trans hin.pl hin.pm) hl')
      obtain ⟨z, hz⟩ : ∃ z, sameL rs[k].pa p = z := ⟨_, rfl⟩
      rw [hz] at HC
      have HZ := hide hz
      clear hz hin
      go_wp2_with fail
      refine HC.out.mono ?_
      rintro e w1 ⟨rfl, hb1⟩
      have c1 : ∀ D, Below D w w1 := fun D => (hbe D).trans (hb1 D)
      clear HC
      cases z
      · go_wp2
        go_roundw
        case rel => exact ⟨k + 1, by omega, by go_num, fun j hj hjk => by
                      by_cases e : j = k
                      · subst e; exact HZ.out
                      · exact HT.out j hj (by omega), c1⟩
        case measure => simp [intOf]; omega
      · go_wp2
        go_ret
        exact ⟨ret_intS (findI_at k hlt HT.out HZ.out).symm, c1⟩
    · have HE := hide (findI_none (rs := rs) (p := p) (fun j hj => HT.out j hj (by omega)))
      go_wp2
      go_ret
      exact ⟨ret_intS HE.out.symm, hbe⟩
end Go.Proofs.YtcgljeagjchobaaGreat
namespace Go.Proofs.YtcgljeagjchobaaGreat
open Go.RowKit M
set_option linter.unusedVariables false

set_option maxHeartbeats 1000000 in
theorem specIsColl_any (a : Option Addr) (rs : List Rs) (cap B : Nat) (a' : Option Addr) (p : List ByteArray) (cap' C : Nat) (w : World) (h : Rss w B a rs) (h' : Strs w C a' p) (hl : rs.length ≤ maxLen) (hl' : p.length ≤ maxLen) :
    Calls Tryz.prog 55 #[.slice a rs.length cap, .slice a' p.length cap'] w fun e w' => e = .returned (.bool (collB rs p)) ∧ ∀ D, Below D w w' := by
  have hF := specFind_any a rs cap B a' p cap' C w h h' hl hl'
  unfold maxLen at hl hl'
  by_cases hp : p.length = 0
  · rw [collB_root hp]
    rw [hp] at hF ⊢
    have HF := hide hF
    clear hF hp
    go_enter Tryz.func55, Tryz.ntmps55
    go_wp2_with fail
    refine HF.out.mono ?_
    rintro e w1 ⟨rfl, b1⟩
    go_wp2
    go_ret
    exact ⟨rfl, b1⟩
  · have HP0 := hide (show ((p.length : Int) == 0) = false by rw [beq_eq_false_iff_ne]; omega)
    rcases findI_cases rs p with e | ⟨k, hk, e, _⟩
    · rw [collB_none e hp]
      rw [e] at hF
      have HF := hide hF
      clear hF e
      go_enter Tryz.func55, Tryz.ntmps55
      go_wp2_with fail
      refine HF.out.mono ?_
      rintro e w1 ⟨rfl, b1⟩
      go_wp2
      go_ret
      exact ⟨by show Ending.returned (.bool ((p.length : Int) == 0)) = _; rw [HP0.out], b1⟩
    · rw [collB_at k hk e hp]
      rw [e] at hF
      have HF := hide hF
      clear hF e
      obtain ⟨b, o, rfl, hb, hcc⟩ := h (by omega)
      obtain ⟨pa, pc, qa, qc, ⟨hc0, hc1, hc2, hc3, hc4⟩, hin⟩ := hcc k hk
      clear hcc hin
      have hk0 : (0 : Int) ≤ (k : Int) := by omega
      go_enter Tryz.func55, Tryz.ntmps55
      go_wp2_with fail
      refine HF.out.mono ?_
      rintro e w1 ⟨rfl, b1⟩
      have hd := ((b1 (b + 1)).cell (p := ⟨b, o + k * 5 + 1, none⟩) (Nat.lt_succ_self _)).trans hc1
      go_wp2
      go_ret
      exact ⟨by show Ending.returned (.bool (((p.length : Int) == 0) || rs[k].co)) = _; rw [HP0.out]; rfl, b1⟩
end Go.Proofs.YtcgljeagjchobaaGreat
namespace Go.Proofs.YtcgljeagjchobaaGreat
open Go.RowKit M
set_option linter.unusedVariables false

set_option maxHeartbeats 1000000 in
theorem specAboveT_any (b o : Nat) (ss : List ByteArray) (cap B : Nat) (w : World) (h : Strs w B (some ⟨b, o, none⟩) ss) (hB : B ≤ w.heap.size) (hl : ss.length ≤ 1048576) (h0 : 0 < ss.length) (hc : ss.length ≤ cap) (hc' : cap ≤ maxLen) :
    Calls Tryz.prog 56 #[.slice (some ⟨b, o, none⟩) ss.length cap] w fun e w' => (∃ g c, e = .returned (.slice (some ⟨g, 0, none⟩) (aboveL ss).length c) ∧ (aboveL ss).length ≤ c ∧ c ≤ maxLen ∧ RowS w' g (aboveL ss)) ∧ Below w.heap.size w w' := by
  unfold maxLen at hc'
  obtain ⟨n, hn⟩ : ∃ n, ss.length = n + 1 := ⟨ss.length - 1, by omega⟩
  have hn2 : n = (aboveL ss).length := by rw [aboveL_len, hn]; rfl
  have hst := h.take (ss.length - 1)
  have hst2 : Strs (w.alloc (Obj.cells #[] 9)) B (some ⟨b, o, none⟩) (aboveL ss) := hst.below ((Below.refl w.heap.size w).alloc (Nat.le_refl _) _) hB
  have HST := hide hst2
  rw [← hn2, hn]
  have hl2 : n + 1 ≤ 1048576 := by omega
  have hc2 : n + 1 ≤ cap := by omega
  have HN := hide hn2
  clear hn2 hn hst hst2 h0 h
  go_enter Tryz.func56, Tryz.ntmps56
  go_wp2_with (at_builtin; refine wp_append_strs rfl _ _ rfl w.heap.size _ (aboveL ss) n HN.out rfl (World.ownsRow_made w #[] 0 (Nat.le_refl _) (by decide) rfl) B (some ⟨b, o, none⟩) cap rfl HST.out (fun e => by cases e) (by omega) (by simp) ?_)
  intro g c w4 r4 hg h1 h2 b4
  have HB := hide (((Below.refl w.heap.size w).alloc (Nat.le_refl _) (Obj.cells #[] 9)).trans b4)
  clear b4
  go_wp2
  go_ret
  exact ⟨⟨g, c, rfl, h1, h2, r4⟩, HB.out⟩
end Go.Proofs.YtcgljeagjchobaaGreat
namespace Go.Proofs.YtcgljeagjchobaaGreat
open Go.RowKit M
set_option linter.unusedVariables false

set_option maxHeartbeats 1000000 in
theorem specLessPath_any (a b : Option Addr) (ss tt : List ByteArray) (cap cap' B C : Nat) (w : World) (h : Strs w B a ss) (h' : Strs w C b tt) (hl : ss.length ≤ maxLen) (hl' : tt.length ≤ maxLen) :
    Calls Tryz.prog 54 #[.slice a ss.length cap, .slice b tt.length cap'] w fun e w' => e = .returned (.bool (lessL ss tt)) ∧ ∀ D, Below D w w' := by
  unfold maxLen at hl hl'
  go_enter Tryz.func54, Tryz.ntmps54
  go_wp2
  go_loopw [5] (fun i wr => ∃ k n : Nat, k ≤ ss.length ∧ k ≤ tt.length ∧ i = .int .i64 k ∧ lessL (ss.drop k) (tt.drop k) = lessL ss tt ∧ wr = w.drewN n) (fun i _ => ss.length - (intOf i).toNat)
  case atStart => exact ⟨0, 0, Nat.zero_le _, Nat.zero_le _, rfl, rfl, rfl⟩
  case round =>
    obtain ⟨k, n, hk, hk', rfl, ht, rfl⟩ := hrel
    have HT := hide ht
    clear ht
    by_cases hlt : k < ss.length ∧ k < tt.length
    · have hlt1 := hlt.1
      have hlt2 := hlt.2
      obtain ⟨b1, o1, rfl, hb1, hc1⟩ := h (by omega)
      obtain ⟨b2, o2, rfl, hb2, hc2⟩ := h' (by omega)
      have hcx := hc1 k hlt1
      have hcy := hc2 k hlt2
      clear hc1 hc2 hlt
      by_cases he : ss[k] = tt[k]
      · have HE := hide (lessL_step k hlt1 hlt2 he)
        have hq : (ss[k].toList == tt[k].toList) = true := by rw [he]; simp
        clear he
        go_wp2
        go_quiet (fail)
        go_wp2
        go_roundw
        case rel => exact ⟨k + 1, n + nq, by omega, by omega, by go_num, by rw [← HE.out]; exact HT.out, by simp⟩
        case measure => simp [intOf]; omega
      · have HE := hide (lessL_at k hlt1 hlt2 he)
        have hq : (ss[k].toList == tt[k].toList) = false := by rw [beq_eq_false_iff_ne]; exact fun e => he (str_inj e)
        clear he
        go_wp2
        go_quiet (fail)
        go_wp2
        go_quiet (fail)
        go_wp2
        go_ret
        exact ⟨ret_bool (by rw [← HT.out, HE.out]; rfl), fun D => below_drewN (below_drewN (below_drewN (Below.refl _ _) _) _) _⟩
    · have HE := hide (lessL_end k hlt hk hk')
      go_wp2
      all_goals
        go_ret
        exact ⟨ret_bool (by rw [← HT.out, HE.out]), fun D => below_drewN (Below.refl _ _) _⟩
end Go.Proofs.YtcgljeagjchobaaGreat
