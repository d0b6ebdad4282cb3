/-
  What the specification's and the program's NameOk do.
  What the specification's and the program's PathOk do.
  Whether two slices of texts hold the same: what spec.SamePath does.
  What spec.FindRes does.
  What spec.IsColl does.
  'append([]string{}, p...)' of whatever slice of texts.
  What spec.Above does of a path of one name at least.
  Whether a list of texts comes ahead of another: what spec.LessPath does.
-/
import Derived.Test.YtifnolomekhmfaaGreatEqBs
import Derived.Test.YtifnolomekhmfaaGreatMathPath
import Derived.Lib.OthersKept
import Derived.Laws.RangeAny
import Derived.Test.YtifnolomekhmfaaGreatHide
import Derived.Test.YtifnolomekhmfaaGreatMathText
import Derived.Test.YtifnolomekhmfaaGreatMathOrder
namespace Go.Proofs.YtifnolomekhmfaaGreat
open Go.RowKit M

set_option maxHeartbeats 400000 in
theorem specNameOk_any (s : ByteArray) (w : World) (hs : s.size ≤ maxLen) :
    Calls Tryz.prog 120 #[.string s] w fun e w' => e = .returned (.bool (nameB s)) ∧ w' = w := by
  have hs' := hs
  unfold maxLen at hs'
  go_enter Tryz.func120, Tryz.ntmps120
  go_wp2
  go_loop [3] (fun i => ∃ k : Nat, k ≤ s.size ∧ i = .int .i64 k ∧ noSlash (s.data.toList.take k) = true) (fun i => s.size - (intOf i).toNat)
  case atStart => exact ⟨0, Nat.zero_le _, rfl, rfl⟩
  case round =>
    obtain ⟨k, hk, rfl, hn⟩ := hrel
    have HN : Hid (noSlash (s.data.toList.take k) = true) := hn; clear hn
    by_cases hlt : k < s.size
    · go_wp2
      · go_ret
        exact ⟨ret_bool (by rw [noSlash_no s k hlt (by assumption)]), rfl⟩
      · go_round
        case rel => exact ⟨k + 1, by omega, by go_num, noSlash_snoc s k hlt HN.out (by rintro e; simp_all)⟩
        case measure => simp [intOf]; omega
    · have HA : Hid (noSlash s.data.toList = true) := by have := HN.out; rw [take_all s k hlt] at this; exact this
      go_wp2_with (first | (go_at_call 81; refine (l1In_any _ _ _ _).mono ?_; rintro e w' ⟨rfl, rfl⟩) | (go_at_call 128; refine (specPlain_any _ _ hs).mono ?_; rintro e w' ⟨rfl, rfl⟩))
      all_goals
        go_ret
        refine ⟨ret_bool ?_, rfl⟩
        have hA := HA.out
        simp_all [nameB]

set_option maxHeartbeats 1000000 in
theorem nameOk_any (s : ByteArray) (w : World) (hs : s.size ≤ maxLen) :
    Calls Tryz.prog 137 #[.string s] w fun e w' => e = .returned (.bool (nameB s)) ∧ Below w.heap.size w w' := by
  unfold maxLen at hs
  by_cases hc : (1 ≤ s.size ∧ s.size ≤ 8) ∧ ¬ s.toList = [46] ∧ ¬ s.toList = [46, 46]
  · obtain ⟨⟨h1, h8⟩, hd, hdd⟩ := hc
    have HI : Hid (inB s.size 1 8 = true) := by show inB s.size 1 8 = true; simp [inB]; omega
    have HD : Hid (¬ s.toList = [46] ∧ ¬ s.toList = [46, 46]) := ⟨hd, hdd⟩
    go_enter Tryz.func137, Tryz.ntmps137
    go_wp2
    · exfalso; simp_all; omega
    rename_i q1 q2 q3 _ _
    clear q1 q2 q3 hd hdd h1 h8
    go_loopw [] (fun wr => ∃ pos : Nat, wr = w.iter s pos ∧ pos ≤ s.size ∧ noSlash (s.data.toList.take pos) = true ∧ allB (s.data.toList.take pos) [0] = true) (fun wr => s.size - wr.iterPos w.heap.size)
    case atStart => exact ⟨0, rfl, Nat.zero_le _, rfl, rfl⟩
    case round =>
      obtain ⟨pos, rfl, hp, hn0, ha0⟩ := hrel
      have HN : Hid (noSlash (s.data.toList.take pos) = true) := hn0; clear hn0
      have HA : Hid (allB (s.data.toList.take pos) [0] = true) := ha0; clear ha0
      have hbe : Below w.heap.size w (w.iter s pos) := (Below.refl _ _).alloc (Nat.le_refl _) _
      by_cases hlt : pos < s.size
      · by_cases ha : (s[pos]'hlt).toNat < 128
        · have hnx : ∀ ty, (Instr.next (.pointer (some ⟨w.heap.size, 0, none⟩)) true ty).run Tryz.prog (w.iter s pos) = _ := fun ty => run_next_ascii w s pos ty hlt ha
          have hbe2 : Below w.heap.size w (w.iter s (pos + 1)) := (Below.refl _ _).alloc (Nat.le_refl _) _
          have hit2 := World.iter_heap w s (pos + 1)
          have hit := World.iter_heap w s pos
          by_cases hok : anyB (s[pos].toNat : Int) [0] = true ∧ ¬ s[pos] = 47
          · have HO : Hid (anyB (s[pos].toNat : Int) [0] = true ∧ ¬ s[pos] = 47) := hok
            have h32 : 32 ≤ (s[pos].toNat : Int) ∧ (s[pos].toNat : Int) ≤ 126 := by have := hok.1; simp [anyB, isB] at this; omega
            clear hok
            go_wp2
            · exact (okc_not (by assumption) HO.out).elim
            · go_roundw
              case rel => exact ⟨pos + 1, rfl, by omega, noSlash_snoc s pos hlt HN.out HO.out.2, allB_snoc s [0] pos hlt HA.out (by rw [HO.out.1]; rfl)⟩
              case measure => simp only [World.iterPos, hit2, hit]; omega
          · have HO : Hid (nameB s = false) := by
              show nameB s = false
              by_cases h0 : anyB (s[pos].toNat : Int) [0] = true
              · exact noSlash_no s pos hlt (by have : s[pos] = 47 := Classical.byContradiction fun e => hok ⟨h0, e⟩; rw [this]; rfl)
              · exact plain_no s pos hlt (by simpa using h0)
            go_wp2
            all_goals first
              | (go_ret; exact ⟨ret_bool HO.out.symm, hbe2⟩)
              | (exfalso; exact hok (okc_of (by assumption)))
        · have hh := decode_high s pos hlt (by omega)
          have hd1 := decode_le s pos
          have hnx : ∀ ty, (Instr.next (.pointer (some ⟨w.heap.size, 0, none⟩)) true ty).run Tryz.prog (w.iter s pos) = _ := fun ty => Lib.run_next_any_at (w.iter s pos) w.heap.size s pos ty (World.iter_heap w s pos) hlt
          have hbe2 := Lib.below_iterAt hbe (Nat.le_refl _) s (pos + (Utf8.decode s pos).2)
          have HP : Hid (nameB s = false) := plain_no s pos hlt (by simp [anyB, isB]; omega)
          go_wp2
          all_goals (go_ret; exact ⟨ret_bool HP.out.symm, hbe2⟩)
      · have hnx : ∀ ty, (Instr.next (.pointer (some ⟨w.heap.size, 0, none⟩)) true ty).run Tryz.prog (w.iter s pos) = _ := fun ty => run_next_end w s pos ty hlt
        go_wp2
        go_ret
        exact ⟨ret_bool (by rw [nameB_all s (by have := HN.out; rwa [take_all s pos hlt] at this) HI.out (by have := HA.out; rwa [take_all s pos hlt] at this) HD.out.1 HD.out.2]), hbe⟩
  · have HC : Hid (nameB s = false) := by
      show nameB s = false
      by_cases hi : 1 ≤ s.size ∧ s.size ≤ 8
      · by_cases hd : s.toList = [46]
        · simp [nameB, hd]
        · by_cases hdd : s.toList = [46, 46]
          · simp [nameB, hdd]
          · exact absurd ⟨hi, hd, hdd⟩ hc
      · have : inB s.size 1 8 = false := by simp [inB]; omega
        simp [nameB, this]
    go_enter Tryz.func137, Tryz.ntmps137
    go_wp2
    all_goals first
      | (go_ret; exact ⟨ret_bool HC.out.symm, Below.refl _ _⟩)
      | (exfalso; apply hc; simp_all; omega)
end Go.Proofs.YtifnolomekhmfaaGreat
namespace Go.Proofs.YtifnolomekhmfaaGreat
open Go.RowKit M
set_option linter.unusedVariables false


theorem names_snoc (ss : List ByteArray) (k : Nat) (h : k < ss.length) (h0 : (ss.take k).all nameB = true) (h1 : nameB ss[k] = true) : (ss.take (k + 1)).all nameB = true := by
  rw [List.take_succ_eq_append_getElem h, List.all_append, h0]; simp [h1]
theorem names_not (ss : List ByteArray) (k : Nat) (h : k < ss.length) (h1 : nameB ss[k] = false) : pathB ss = false := by
  have : ss.all nameB = false := by rw [List.all_eq_false]; exact ⟨_, List.getElem_mem h, by simp [h1]⟩
  simp [pathB, this]

set_option maxHeartbeats 400000 in
theorem specPathOk_any (a : Option Addr) (ss : List ByteArray) (cap B : Nat) (w : World) (h : Strs w B a ss) (hs : Short ss) (hl : ss.length ≤ maxLen) :
    Calls Tryz.prog 80 #[.slice a ss.length cap] w fun e w' => e = .returned (.bool (pathB ss)) ∧ w' = w := by
  unfold maxLen at hl
  go_enter Tryz.func80, Tryz.ntmps80
  go_wp2
  go_loop [3] (fun i => ∃ k : Nat, k ≤ ss.length ∧ i = .int .i64 k ∧ (ss.take k).all nameB = true) (fun i => ss.length - (intOf i).toNat)
  case atStart => exact ⟨0, Nat.zero_le _, rfl, rfl⟩
  case round =>
    obtain ⟨k, hk, rfl, hn⟩ := hrel
    have HN : Hid ((ss.take k).all nameB = true) := hn; clear hn
    by_cases hlt : k < ss.length
    · obtain ⟨b, o, rfl, hb, hc⟩ := h (by omega)
      have hcx := hc k hlt
      have hsz := hs.at k hlt
      cases hB : nameB ss[k]
      · go_wp2_with (go_at_call 120; refine (specNameOk_any _ _ hsz).mono ?_; rintro e w1 ⟨rfl, hw⟩; obtain rfl := hw.symm; rw [hB])
        go_ret
        exact ⟨ret_bool (names_not ss k hlt hB).symm, rfl⟩
      · go_wp2_with (go_at_call 120; refine (specNameOk_any _ _ hsz).mono ?_; rintro e w1 ⟨rfl, hw⟩; obtain rfl := hw.symm; rw [hB])
        go_round
        case rel => exact ⟨k + 1, by omega, by go_num, names_snoc ss k hlt HN.out hB⟩
        case measure => simp [intOf]; omega
    · go_wp2
      go_ret
      refine ⟨ret_bool ?_, rfl⟩
      have hA := HN.out
      rw [sumS_all ss k hlt] at hA
      simp only [pathB, hA, Bool.true_and]
      exact decide_eq_decide.2 (by omega)

set_option maxHeartbeats 400000 in
theorem pathOk_any (a : Option Addr) (ss : List ByteArray) (cap : Nat) (w : World) (h : Strs w w.heap.size a ss) (hs : Short ss) (hl : ss.length ≤ maxLen) :
    Calls Tryz.prog 118 #[.slice a ss.length cap] w fun e w' => e = .returned (.bool (pathB ss)) ∧ Below w.heap.size w w' := by
  unfold maxLen at hl
  by_cases h4 : (4 : Int) < ss.length
  · go_enter Tryz.func118, Tryz.ntmps118
    go_wp2
    go_ret
    refine ⟨ret_bool ?_, Below.refl _ _⟩
    have : ¬ ss.length ≤ 4 := by omega
    simp [pathB, this]
  · go_enter Tryz.func118, Tryz.ntmps118
    go_wp2
    go_loopw [10] (fun i wr => ∃ k : Nat, k ≤ ss.length ∧ i = .int .i64 k ∧ (ss.take k).all nameB = true ∧ Below w.heap.size w wr) (fun i _ => ss.length - (intOf i).toNat)
    case atStart => exact ⟨0, Nat.zero_le _, rfl, rfl, Below.refl _ _⟩
    case round =>
      obtain ⟨k, hk, rfl, hn, hbe⟩ := hrel
      have HN : Hid ((ss.take k).all nameB = true) := hn; clear hn
      by_cases hlt : k < ss.length
      · obtain ⟨b, o, rfl, hb, hc⟩ := (h.below hbe (Nat.le_refl _)) (by omega)
        have hcx := hc k hlt
        have hsz := hs.at k hlt
        cases hB : nameB ss[k]
        · go_wp2_with fail
          refine (nameOk_any _ _ hsz).mono ?_
          rintro e w1 ⟨rfl, hb1⟩
          rw [hB]
          go_wp2
          go_ret
          exact ⟨ret_bool (names_not ss k hlt hB).symm, hbe.trans (hb1.mono hbe.size)⟩
        · go_wp2_with fail
          refine (nameOk_any _ _ hsz).mono ?_
          rintro e w1 ⟨rfl, hb1⟩
          rw [hB]
          go_wp2
          go_roundw
          case rel => exact ⟨k + 1, by omega, by go_num, names_snoc ss k hlt HN.out hB, hbe.trans (hb1.mono hbe.size)⟩
          case measure => simp [intOf]; omega
      · go_wp2
        go_ret
        refine ⟨ret_bool ?_, hbe⟩
        have hA := HN.out
        rw [sumS_all ss k hlt] at hA
        have : ss.length ≤ 4 := by omega
        simp [pathB, hA, this]
end Go.Proofs.YtifnolomekhmfaaGreat
namespace Go.Proofs.YtifnolomekhmfaaGreat
open Go.RowKit
set_option linter.unusedVariables false

set_option maxHeartbeats 400000 in
theorem specSamePath_any (a b : Option Addr) (ss tt : List ByteArray) (cap cap' B C : Nat) (w : World) (h : Strs w B a ss) (h' : Strs w C b tt) (hl : ss.length ≤ maxLen) (hl' : tt.length ≤ maxLen) :
    Calls Tryz.prog 84 #[.slice a ss.length cap, .slice b tt.length cap'] w fun e w' => e = .returned (.bool (sameL ss tt)) ∧ ∀ D, Below D w w' := by
  unfold maxLen at hl hl'
  by_cases hlen : ss.length = tt.length
  · have HL : Hid (ss.length = tt.length) := hlen
    go_enter Tryz.func84, Tryz.ntmps84
    rw [← hlen]
    clear hlen
    go_wp2
    go_loopw [5] (fun i wr => ∃ k n : Nat, k ≤ ss.length ∧ i = .int .i64 k ∧ ss.take k = tt.take k ∧ wr = w.drewN n) (fun i _ => ss.length - (intOf i).toNat)
    case atStart => exact ⟨0, 0, Nat.zero_le _, rfl, rfl, rfl⟩
    case round =>
      obtain ⟨k, n, hk, rfl, ht, rfl⟩ := hrel
      have HT : Hid (ss.take k = tt.take k) := ht
      clear ht
      by_cases hlt : k < ss.length
      · have hlt' : k < tt.length := by have := HL.out; omega
        obtain ⟨b1, o1, rfl, hb1, hc1⟩ := h (by omega)
        obtain ⟨b2, o2, rfl, hb2, hc2⟩ := h' (by have := HL.out; omega)
        have hcx := hc1 k hlt
        have hcy := hc2 k hlt'
        go_wp2
        go_quiet (fail)
        go_wp2
        · rename_i hne
          have hne' : ¬ ss[k] = tt[k] := fun e => by rw [e] at hne; simp at hne
          go_ret
          exact ⟨ret_bool (sameL_not k hlt hlt' hne').symm, fun D => below_drewN (below_drewN (Below.refl _ _) _) _⟩
        · rename_i he
          have he' : ss[k] = tt[k] := str_inj (by simpa using he)
          go_roundw
          case rel => exact ⟨k + 1, n + nq, by omega, by go_num, take_same k hlt hlt' HT.out he', by simp⟩
          case measure => simp [intOf]; omega
      · go_wp2
        go_ret
        exact ⟨ret_bool (sameL_all HL.out k hlt HT.out).symm, fun D => below_drewN (Below.refl _ _) _⟩
  · have HS := sameL_len hlen
    go_enter Tryz.func84, Tryz.ntmps84
    go_wp2
    go_ret
    exact ⟨ret_bool HS.symm, fun D => Below.refl _ _⟩
end Go.Proofs.YtifnolomekhmfaaGreat
namespace Go.Proofs.YtifnolomekhmfaaGreat
open Go.RowKit M
set_option linter.unusedVariables false

theorem ret_intS {a b : Int} (h : a = b) : Ending.returned (.int .i64 a) = .returned (.int .i64 b) := by rw [h]

set_option maxHeartbeats 1000000 in
theorem specFind_any (a : Option Addr) (rs : List Rs) (cap B : Nat) (a' : Option Addr) (p : List ByteArray) (cap' C : Nat) (w : World) (h : Rss w B a rs) (h' : Strs w C a' p) (hl : rs.length ≤ maxLen) (hl' : p.length ≤ maxLen) :
    Calls Tryz.prog 32 #[.slice a rs.length cap, .slice a' p.length cap'] w fun e w' => e = .returned (.int .i64 (findI rs p)) ∧ ∀ D, Below D w w' := by
  unfold maxLen at hl
  go_enter Tryz.func32, Tryz.ntmps32
  go_wp2
  go_loopw [5] (fun i wr => ∃ k : Nat, k ≤ rs.length ∧ i = .int .i64 k ∧ (∀ j (hj : j < rs.length), j < k → sameL rs[j].pa p = false) ∧ ∀ D, Below D w wr) (fun i _ => rs.length - (intOf i).toNat)
  case atStart => exact ⟨0, Nat.zero_le _, rfl, fun j _ hj => absurd hj (Nat.not_lt_zero _), fun D => Below.refl _ _⟩
  case round =>
    obtain ⟨k, hk, rfl, ht, hbe⟩ := hrel
    have HT := hide ht
    clear ht
    by_cases hlt : k < rs.length
    · obtain ⟨b, o, rfl, hb, hcc⟩ := (h.below (hbe B) (Nat.le_refl _)) (by omega)
      obtain ⟨pa, pc, qa, qc, ⟨hc0, hc1, hc2, hc3, hc4⟩, hin⟩ := hcc k hlt
      clear hcc
      have HC := hide (specSamePath_any pa a' rs[k].pa p pc cap' B C wr hin.ph (h'.below (hbe C) (Nat.le_refl _)) (Nat.le_trans hin.pl hin.pm) hl')
      obtain ⟨z, hz⟩ : ∃ z, sameL rs[k].pa p = z := ⟨_, rfl⟩
      rw [hz] at HC
      have HZ := hide hz
      clear hz hin
      go_wp2_with fail
      refine HC.out.mono ?_
      rintro e w1 ⟨rfl, hb1⟩
      have c1 : ∀ D, Below D w w1 := fun D => (hbe D).trans (hb1 D)
      clear HC
      cases z
      · go_wp2
        go_roundw
        case rel => exact ⟨k + 1, by omega, by go_num, fun j hj hjk => by
                      by_cases e : j = k
                      · subst e; exact HZ.out
                      · exact HT.out j hj (by omega), c1⟩
        case measure => simp [intOf]; omega
      · go_wp2
        go_ret
        exact ⟨ret_intS (findI_at k hlt HT.out HZ.out).symm, c1⟩
    · have HE := hide (findI_none (rs := rs) (p := p) (fun j hj => HT.out j hj (by omega)))
      go_wp2
      go_ret
      exact ⟨ret_intS HE.out.symm, hbe⟩
end Go.Proofs.YtifnolomekhmfaaGreat
namespace Go.Proofs.YtifnolomekhmfaaGreat
open Go.RowKit M
set_option linter.unusedVariables false

set_option maxHeartbeats 1000000 in
theorem specIsColl_any (a : Option Addr) (rs : List Rs) (cap B : Nat) (a' : Option Addr) (p : List ByteArray) (cap' C : Nat) (w : World) (h : Rss w B a rs) (h' : Strs w C a' p) (hl : rs.length ≤ maxLen) (hl' : p.length ≤ maxLen) :
    Calls Tryz.prog 34 #[.slice a rs.length cap, .slice a' p.length cap'] w fun e w' => e = .returned (.bool (collB rs p)) ∧ ∀ D, Below D w w' := by
  have hF := specFind_any a rs cap B a' p cap' C w h h' hl hl'
  unfold maxLen at hl hl'
  by_cases hp : p.length = 0
  · rw [collB_root hp]
    rw [hp] at hF ⊢
    have HF := hide hF
    clear hF hp
    go_enter Tryz.func34, Tryz.ntmps34
    go_wp2_with fail
    refine HF.out.mono ?_
    rintro e w1 ⟨rfl, b1⟩
    go_wp2
    go_ret
    exact ⟨rfl, b1⟩
  · have HP0 := hide (show ((p.length : Int) == 0) = false by rw [beq_eq_false_iff_ne]; omega)
    rcases findI_cases rs p with e | ⟨k, hk, e, _⟩
    · rw [collB_none e hp]
      rw [e] at hF
      have HF := hide hF
      clear hF e
      go_enter Tryz.func34, Tryz.ntmps34
      go_wp2_with fail
      refine HF.out.mono ?_
      rintro e w1 ⟨rfl, b1⟩
      go_wp2
      go_ret
      exact ⟨by show Ending.returned (.bool ((p.length : Int) == 0)) = _; rw [HP0.out], b1⟩
    · rw [collB_at k hk e hp]
      rw [e] at hF
      have HF := hide hF
      clear hF e
      obtain ⟨b, o, rfl, hb, hcc⟩ := h (by omega)
      obtain ⟨pa, pc, qa, qc, ⟨hc0, hc1, hc2, hc3, hc4⟩, hin⟩ := hcc k hk
      clear hcc hin
      have hk0 : (0 : Int) ≤ (k : Int) := by omega
      go_enter Tryz.func34, Tryz.ntmps34
      go_wp2_with fail
      refine HF.out.mono ?_
      rintro e w1 ⟨rfl, b1⟩
      have hd := ((b1 (b + 1)).cell (p := ⟨b, o + k * 5 + 1, none⟩) (Nat.lt_succ_self _)).trans hc1
      go_wp2
      go_ret
      exact ⟨by show Ending.returned (.bool (((p.length : Int) == 0) || rs[k].co)) = _; rw [HP0.out]; rfl, b1⟩
end Go.Proofs.YtifnolomekhmfaaGreat
namespace Go.Proofs.YtifnolomekhmfaaGreat
open Go.RowKit
set_option linter.unusedVariables false

theorem owns_rowS {w : World} {B g n cap : Nat} {ns : List ByteArray} (h : w.ownsRow B 9 1 (.slice (some ⟨g, 0, none⟩) n cap) n (strCells ns)) (hn : ns.length = n) : RowS w g ns ∧ B ≤ g ∧ n ≤ cap ∧ cap ≤ maxLen := by
  subst hn
  have hlt := h.lt g rfl
  have hcap : ns.length ≤ cap ∧ cap ≤ maxLen := by
    rcases h.2 with ⟨e, _⟩ | ⟨g', cap', cur, hv, _, _, h1, h2, _⟩
    · cases e
    · cases hv; exact ⟨h1, h2⟩
  refine ⟨⟨hlt.2, fun j hj => ⟨?_, h.frozenAt j⟩⟩, hlt.1, hcap.1, hcap.2⟩
  rw [h.cellAt j (by omega)]
  simp [strCells, List.getElem?_eq_getElem hj]

/-- The same texts, in a new row. -/
theorem wp_append_strs {w : World} {ops : Array Oper} {rest : List Oper} {o : Oper} {a : Act} {Q : Exit → Act → World → Prop} (hgd : o.guard = none) (s x : Operand)
    (ho : o.op = .call { callee := .builtin .append, args := #[s, x], argTypes := #[25, 25] })
    (B g0 : Nat) (l : List ByteArray) (n : Nat) (hn : n = l.length) (hs : a.eval s = .slice (some ⟨g0, 0, none⟩) 0 0) (hown : w.ownsRow B 9 1 (.slice (some ⟨g0, 0, none⟩) 0 0) 0 [])
    (C : Nat) (pa : Option Addr) (pc : Nat) (hx : a.eval x = .slice pa n pc) (hst : Strs w C pa l) (hpn : pa = none → pc = 0) (hlen : n ≤ 1099511627776) (hB : B ≤ w.heap.size)
    (h : ∀ g cap w', RowS w' g l → B ≤ g → n ≤ cap → cap ≤ maxLen → Below B w w' → wpList Tryz.prog ops Q rest (a.put o.dst (.slice (some ⟨g, 0, none⟩) n cap)) w') : wpList Tryz.prog ops Q (o :: rest) a w := by
  obtain ⟨i0, hi, hz0, hz1, hz2⟩ := info_parts info_str
  cases pa with
  | none =>
    have h0 : n = 0 := by
      rw [hn]
      by_cases e : 0 < l.length
      · obtain ⟨_, _, e', _⟩ := hst e; cases e'
      · omega
    have hl : l = [] := List.length_eq_zero_iff.1 (by omega)
    subst hl h0
    rw [hpn rfl] at hx
    have hr := run_append_owned_none (P := Tryz.prog) (w := w) B 25 o.type 9 i0 1 Tryz.underlying25 hi _ _ _ hown
    refine wpList_plain hgd fun K hK => ?_
    unfold Oper.wp execOp
    simp only [ho, resolve, invoke, builtin, Sem.run_bind, Sem.run_pure, Result.andThen_ok, List.map_toArray, List.map_cons, List.map_nil, hs, hx, hr]
    obtain ⟨r1, r2, r3, r4⟩ := owns_rowS (ns := []) (n := 0) hown rfl
    exact hK _ _ (h g0 0 w r1 r2 r3 r4 (Below.refl _ _))
  | some ad =>
    refine wpList_append_own w hgd s x 25 ho B 9 i0 (.string ByteArray.empty) 1 16 Tryz.underlying25 hi hz0 hz1 hz2 rfl (by decide) _ 0 _ hs hown ad n pc (strCells l) hx (by rw [strCells_length, hn, Nat.mul_one]) ?_ ?_ ?_ ?_ hB ?_
    · intro j u hj
      have hjl : j < l.length := by have := (List.getElem?_eq_some_iff.1 hj).1; rwa [strCells_length] at this
      obtain ⟨b, o', e, _, hc⟩ := hst (by omega)
      have e' : ad = ⟨b, o', none⟩ := by cases e; rfl
      subst e'
      have e2 : (⟨b, o', none⟩ : Addr).add j = ⟨b, o' + j, none⟩ := by unfold Addr.add; split <;> simp_all
      rw [e2, hc j hjl]
      unfold strCells at hj
      rw [List.getElem?_map, List.getElem?_eq_getElem hjl] at hj
      exact hj
    · intro u hu
      unfold strCells at hu
      obtain ⟨y, _, rfl⟩ := List.mem_map.1 hu
      rfl
    · unfold maxLen; omega
    · omega
    · intro v' w' ho' hg hnn
      rw [Nat.zero_add] at ho'
      obtain ⟨g, cap, rfl⟩ : ∃ g cap, v' = .slice (some ⟨g, 0, none⟩) n cap := by
        rcases ho'.2 with ⟨e, h0⟩ | ⟨g, cap, cur, hv, _⟩
        · have := (hnn.1 e).1; cases this
        · exact ⟨g, cap, hv⟩
      have ho2 : w'.ownsRow B 9 1 (.slice (some ⟨g, 0, none⟩) n cap) n (strCells l) := ho'
      obtain ⟨r1, r2, r3, r4⟩ := owns_rowS ho2 hn.symm
      exact h g cap w' r1 r2 r3 r4 (below_grown hown hB hg)
end Go.Proofs.YtifnolomekhmfaaGreat
namespace Go.Proofs.YtifnolomekhmfaaGreat
open Go.RowKit M
set_option linter.unusedVariables false

set_option maxHeartbeats 1000000 in
theorem specAboveT_any (b o : Nat) (ss : List ByteArray) (cap B : Nat) (w : World) (h : Strs w B (some ⟨b, o, none⟩) ss) (hB : B ≤ w.heap.size) (hl : ss.length ≤ 1048576) (h0 : 0 < ss.length) (hc : ss.length ≤ cap) (hc' : cap ≤ maxLen) :
    Calls Tryz.prog 46 #[.slice (some ⟨b, o, none⟩) ss.length cap] w fun e w' => (∃ g c, e = .returned (.slice (some ⟨g, 0, none⟩) (aboveL ss).length c) ∧ (aboveL ss).length ≤ c ∧ c ≤ maxLen ∧ RowS w' g (aboveL ss)) ∧ Below w.heap.size w w' := by
  unfold maxLen at hc'
  obtain ⟨n, hn⟩ : ∃ n, ss.length = n + 1 := ⟨ss.length - 1, by omega⟩
  have hn2 : n = (aboveL ss).length := by rw [aboveL_len, hn]; rfl
  have hst := h.take (ss.length - 1)
  have hst2 : Strs (w.alloc (Obj.cells #[] 9)) B (some ⟨b, o, none⟩) (aboveL ss) := hst.below ((Below.refl w.heap.size w).alloc (Nat.le_refl _) _) hB
  have HST := hide hst2
  rw [← hn2, hn]
  have hl2 : n + 1 ≤ 1048576 := by omega
  have hc2 : n + 1 ≤ cap := by omega
  have HN := hide hn2
  clear hn2 hn hst hst2 h0 h
  go_enter Tryz.func46, Tryz.ntmps46
  go_wp2_with (at_builtin; refine wp_append_strs rfl _ _ rfl w.heap.size _ (aboveL ss) n HN.out rfl (World.ownsRow_made w #[] 0 (Nat.le_refl _) (by decide) rfl) B (some ⟨b, o, none⟩) cap rfl HST.out (fun e => by cases e) (by omega) (by simp) ?_)
  intro g c w4 r4 hg h1 h2 b4
  have HB := hide (((Below.refl w.heap.size w).alloc (Nat.le_refl _) (Obj.cells #[] 9)).trans b4)
  clear b4
  go_wp2
  go_ret
  exact ⟨⟨g, c, rfl, h1, h2, r4⟩, HB.out⟩
end Go.Proofs.YtifnolomekhmfaaGreat
namespace Go.Proofs.YtifnolomekhmfaaGreat
open Go.RowKit M
set_option linter.unusedVariables false

set_option maxHeartbeats 1000000 in
theorem specLessPath_any (a b : Option Addr) (ss tt : List ByteArray) (cap cap' B C : Nat) (w : World) (h : Strs w B a ss) (h' : Strs w C b tt) (hl : ss.length ≤ maxLen) (hl' : tt.length ≤ maxLen) :
    Calls Tryz.prog 43 #[.slice a ss.length cap, .slice b tt.length cap'] w fun e w' => e = .returned (.bool (lessL ss tt)) ∧ ∀ D, Below D w w' := by
  unfold maxLen at hl hl'
  go_enter Tryz.func43, Tryz.ntmps43
  go_wp2
  go_loopw [5] (fun i wr => ∃ k n : Nat, k ≤ ss.length ∧ k ≤ tt.length ∧ i = .int .i64 k ∧ lessL (ss.drop k) (tt.drop k) = lessL ss tt ∧ wr = w.drewN n) (fun i _ => ss.length - (intOf i).toNat)
  case atStart => exact ⟨0, 0, Nat.zero_le _, Nat.zero_le _, rfl, rfl, rfl⟩
  case round =>
    obtain ⟨k, n, hk, hk', rfl, ht, rfl⟩ := hrel
    have HT := hide ht
    clear ht
    by_cases hlt : k < ss.length ∧ k < tt.length
    · have hlt1 := hlt.1
      have hlt2 := hlt.2
      obtain ⟨b1, o1, rfl, hb1, hc1⟩ := h (by omega)
      obtain ⟨b2, o2, rfl, hb2, hc2⟩ := h' (by omega)
      have hcx := hc1 k hlt1
      have hcy := hc2 k hlt2
      clear hc1 hc2 hlt
      by_cases he : ss[k] = tt[k]
      · have HE := hide (lessL_step k hlt1 hlt2 he)
        have hq : (ss[k].toList == tt[k].toList) = true := by rw [he]; simp
        clear he
        go_wp2
        go_quiet (fail)
        go_wp2
        go_roundw
        case rel => exact ⟨k + 1, n + nq, by omega, by omega, by go_num, by rw [← HE.out]; exact HT.out, by simp⟩
        case measure => simp [intOf]; omega
      · have HE := hide (lessL_at k hlt1 hlt2 he)
        have hq : (ss[k].toList == tt[k].toList) = false := by rw [beq_eq_false_iff_ne]; exact fun e => he (str_inj e)
        clear he
        go_wp2
        go_quiet (fail)
        go_wp2
        go_quiet (fail)
        go_wp2
        go_ret
        exact ⟨ret_bool (by rw [← HT.out, HE.out]; rfl), fun D => below_drewN (below_drewN (below_drewN (Below.refl _ _) _) _) _⟩
    · have HE := hide (lessL_end k hlt hk hk')
      go_wp2
      all_goals
        go_ret
        exact ⟨ret_bool (by rw [← HT.out, HE.out]), fun D => below_drewN (Below.refl _ _) _⟩
end Go.Proofs.YtifnolomekhmfaaGreat
