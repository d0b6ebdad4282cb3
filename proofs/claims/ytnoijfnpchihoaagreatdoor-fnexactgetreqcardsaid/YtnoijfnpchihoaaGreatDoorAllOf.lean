/-
  What the specification's l1Digit does.
  What l1Small and SmallName (the specification's) do.
  What the specification's looks at heads do.
  What the specification's ReqOk does.
  What the program's tellsLength and tellsCoding do.
  What the program's allOf does: whether all bytes of a text are of one of these kinds.
-/
import Derived.Test.YtnoijfnpchihoaaGreatDoorSpecPl
import Derived.Test.YtnoijfnpchihoaaGreatDoorMathSmall
import Derived.Test.YtnoijfnpchihoaaGreatDoorRowsH
namespace Go.Proofs.YtnoijfnpchihoaaGreatDoor
open Go.RowKit M

set_option maxHeartbeats 400000 in
theorem l1Digit_any (c : UInt8) (w : World) :
    Calls Tryz.prog 134 #[.int .u8 c.toNat] w fun e w' => e = .returned (.bool (isB c.toNat 4)) ∧ w' = w := by
  go_enter Tryz.func134, Tryz.ntmps134
  go_wp2_with (go_at_call 61; refine (l1In_any _ _ _ _).mono ?_; rintro e w' ⟨rfl, rfl⟩; rw [wrap64_u8, inB_digit])
  go_ret
  exact ⟨rfl, rfl⟩
end Go.Proofs.YtnoijfnpchihoaaGreatDoor
namespace Go.Proofs.YtnoijfnpchihoaaGreatDoor
open Go.RowKit M

set_option maxHeartbeats 400000 in
theorem l1Small_any (c : UInt8) (w : World) :
    Calls Tryz.prog 133 #[.int .u8 c.toNat] w fun e w' => e = .returned (.bool (isB c.toNat 2)) ∧ w' = w := by
  go_enter Tryz.func133, Tryz.ntmps133
  go_wp2_with (go_at_call 61; refine (l1In_any _ _ _ _).mono ?_; rintro e w' ⟨rfl, rfl⟩; rw [wrap64_u8, inB_small])
  go_ret
  exact ⟨rfl, rfl⟩

set_option maxHeartbeats 1000000 in
theorem specSmallName_any (s : ByteArray) (w : World) (hs : s.size ≤ maxLen) :
    Calls Tryz.prog 114 #[.string s] w fun e w' => e = .returned (.bool (smB s.data.toList)) ∧ w' = w := by
  unfold maxLen at hs
  go_enter Tryz.func114, Tryz.ntmps114
  go_wp2
  go_loop [3] (fun i => ∃ k : Nat, k ≤ s.size ∧ i = .int .i64 k ∧ ∀ j (hj : j < s.size), j < k → okAt j (s[j].toNat : Int) = true) (fun i => s.size - (intOf i).toNat)
  case atStart => exact ⟨0, Nat.zero_le _, rfl, fun _ _ h => absurd h (Nat.not_lt_zero _)⟩
  case round =>
    obtain ⟨k, hk, rfl, hn⟩ := hrel
    have HN : Hid (∀ j (hj : j < s.size), j < k → okAt j (s[j].toNat : Int) = true) := hn; clear hn
    by_cases hlt : k < s.size
    · have hnext : okAt k (s[k].toNat : Int) = true → ∀ j (hj : j < s.size), j < k + 1 → okAt j (s[j].toNat : Int) = true := by
        intro ho j hj hjk
        by_cases e : j = k
        · subst e; exact ho
        · exact HN.out j hj (by omega)
      have HX : Hid (okAt k (s[k].toNat : Int) = true → ∀ j (hj : j < s.size), j < k + 1 → okAt j (s[j].toNat : Int) = true) := hnext
      clear hnext
      go_wp2_with (first | (go_at_call 133; refine (l1Small_any _ _).mono ?_; rintro e w' ⟨rfl, rfl⟩) | (go_at_call 134; refine (l1Digit_any _ _).mono ?_; rintro e w' ⟨rfl, rfl⟩))
      · go_round
        case rel => exact ⟨k + 1, by omega, by go_num, HX.out (ok1 (by assumption))⟩
        case measure => simp [intOf]; omega
      · go_ret
        exact ⟨ret_bool (smB_not s k hlt (no2 (by assumption) (by assumption))).symm, rfl⟩
      · go_round
        case rel => exact ⟨k + 1, by omega, by go_num, HX.out (ok3 (by assumption) (by assumption))⟩
        case measure => simp [intOf]; omega
      · go_ret
        exact ⟨ret_bool (smB_not s k hlt (no4 (by assumption) (by assumption) (by assumption) (by assumption))).symm, rfl⟩
      · go_round
        case rel => exact ⟨k + 1, by omega, by go_num, HX.out (ok5 (by assumption) (by assumption))⟩
        case measure => simp [intOf]; omega
    · go_wp2_with (go_at_call 61; refine (l1In_any _ _ _ _).mono ?_; rintro e w' ⟨rfl, rfl⟩)
      go_ret
      exact ⟨ret_bool (by rw [smB_all s (fun i hi => HN.out i hi (by omega))]), rfl⟩
end Go.Proofs.YtnoijfnpchihoaaGreatDoor
namespace Go.Proofs.YtnoijfnpchihoaaGreatDoor
open Go.RowKit M
set_option linter.unusedVariables false

theorem lenEq (x : ByteArray) : (x.toList == [99, 111, 110, 116, 101, 110, 116, 45, 108, 101, 110, 103, 116, 104]) = decide (x = lenName) := by
  by_cases h : x = lenName
  · subst h; rw [ByteArray.toList_eq]; decide
  · have : ¬ x.toList = [99, 111, 110, 116, 101, 110, 116, 45, 108, 101, 110, 103, 116, 104] := fun e => h (strInj (by rw [e, ByteArray.toList_eq]; rfl))
    simp [h, this]
theorem codEq (x : ByteArray) : (x.toList == [116, 114, 97, 110, 115, 102, 101, 114, 45, 101, 110, 99, 111, 100, 105, 110, 103]) = decide (x = codName) := by
  by_cases h : x = codName
  · subst h; rw [ByteArray.toList_eq]; decide
  · have : ¬ x.toList = [116, 114, 97, 110, 115, 102, 101, 114, 45, 101, 110, 99, 111, 100, 105, 110, 103] := fun e => h (strInj (by rw [e, ByteArray.toList_eq]; rfl))
    simp [h, this]

set_option maxHeartbeats 1000000 in
theorem l3Heads_any (a : Option Addr) (hs : List Hd) (cap B : Nat) (w : World) (h : Hds w B a hs) (hsh : ShortH hs) (hl : hs.length ≤ maxLen) :
    Calls Tryz.prog 118 #[.slice a hs.length cap] w fun e w' => e = .returned (.bool (hdsB hs)) ∧ w' = w := by
  unfold maxLen at hl
  go_enter Tryz.func118, Tryz.ntmps118
  go_wp2
  go_loop [3] (fun i => ∃ k : Nat, k ≤ hs.length ∧ i = .int .i64 k ∧ (hs.take k).all hdFree = true) (fun i => hs.length - (intOf i).toNat)
  case atStart => exact ⟨0, Nat.zero_le _, rfl, rfl⟩
  case round =>
    obtain ⟨k, hk, rfl, hn⟩ := hrel
    have HN : Hid ((hs.take k).all hdFree = true) := hn; clear hn
    by_cases hlt : k < hs.length
    · obtain ⟨b, o, rfl, hb, hc⟩ := h (by omega)
      have hcx := (hc k hlt).1
      have hcy := (hc k hlt).2
      have hsz := hsh.at k hlt
      clear hc
      cases h1 : smB hs[k].1.data.toList
      · have HE : Hid (hdsB hs = false) := hdsB_not hs k hlt (by simp [hdFree, hdB, h1])
        go_wp2_with (go_at_call 114; refine (specSmallName_any _ _ hsz.1).mono ?_; rintro e w1 ⟨rfl, hw⟩; obtain rfl := hw.symm; rw [h1])
        go_ret
        exact ⟨ret_bool HE.out.symm, rfl⟩
      · cases h2 : valB hs[k].2
        · have HE : Hid (hdsB hs = false) := hdsB_not hs k hlt (by simp [hdFree, hdB, h2])
          go_wp2_with (first | (go_at_call 114; refine (specSmallName_any _ _ hsz.1).mono ?_; rintro e w1 ⟨rfl, hw⟩; obtain rfl := hw.symm; rw [h1]) | (go_at_call 115; refine (l3Val_any _ _ hsz.2).mono ?_; rintro e w1 ⟨rfl, hw⟩; obtain rfl := hw.symm; rw [h2]))
          go_ret
          exact ⟨ret_bool HE.out.symm, rfl⟩
        · have e3 := lenEq hs[k].1
          have e4 := codEq hs[k].1
          by_cases h3 : hs[k].1 = lenName
          · have HE : Hid (hdsB hs = false) := hdsB_not hs k hlt (by simp [hdFree, h3])
            rw [decide_eq_true h3] at e3
            clear h3 e4
            go_wp2_with (first | (go_at_call 114; refine (specSmallName_any _ _ hsz.1).mono ?_; rintro e w1 ⟨rfl, hw⟩; obtain rfl := hw.symm; rw [h1]) | (go_at_call 115; refine (l3Val_any _ _ hsz.2).mono ?_; rintro e w1 ⟨rfl, hw⟩; obtain rfl := hw.symm; rw [h2]))
            go_ret
            exact ⟨ret_bool HE.out.symm, rfl⟩
          · rw [decide_eq_false h3] at e3
            by_cases h4 : hs[k].1 = codName
            · have HE : Hid (hdsB hs = false) := hdsB_not hs k hlt (by simp [hdFree, h4])
              rw [decide_eq_true h4] at e4
              clear h3 h4
              go_wp2_with (first | (go_at_call 114; refine (specSmallName_any _ _ hsz.1).mono ?_; rintro e w1 ⟨rfl, hw⟩; obtain rfl := hw.symm; rw [h1]) | (go_at_call 115; refine (l3Val_any _ _ hsz.2).mono ?_; rintro e w1 ⟨rfl, hw⟩; obtain rfl := hw.symm; rw [h2]))
              go_ret
              exact ⟨ret_bool HE.out.symm, rfl⟩
            · have HE : Hid ((hs.take (k + 1)).all hdFree = true) := hdsB_snoc hs k hlt HN.out (by simp [hdFree, hdB, h1, h2, h3, h4])
              rw [decide_eq_false h4] at e4
              clear h3 h4
              go_wp2_with (first | (go_at_call 114; refine (specSmallName_any _ _ hsz.1).mono ?_; rintro e w1 ⟨rfl, hw⟩; obtain rfl := hw.symm; rw [h1]) | (go_at_call 115; refine (l3Val_any _ _ hsz.2).mono ?_; rintro e w1 ⟨rfl, hw⟩; obtain rfl := hw.symm; rw [h2]))
              go_round
              case rel => exact ⟨k + 1, by omega, by go_num, HE.out⟩
              case measure => simp [intOf]; omega
    · have HE : Hid (hdsB hs = decide ((hs.length : Int) ≤ 8)) := by
        show hdsB hs = _
        rw [hdsB_all hs k hlt HN.out]
        by_cases e : hs.length ≤ 8
        · have e2 : (hs.length : Int) ≤ 8 := by omega
          simp [e, e2]
        · have e2 : ¬ (hs.length : Int) ≤ 8 := by omega
          simp [e, e2]
      go_wp2
      go_ret
      exact ⟨ret_bool HE.out.symm, rfl⟩
end Go.Proofs.YtnoijfnpchihoaaGreatDoor
namespace Go.Proofs.YtnoijfnpchihoaaGreatDoor
open Go.RowKit M
set_option linter.unusedVariables false

theorem reqB_m {r : Rq} (h : methB r.m = false) : reqB r = false := by simp [reqB, h]
theorem reqB_p {r : Rq} (h : targB r.p = false) : reqB r = false := by simp [reqB, h]
theorem reqB_h {r : Rq} (h : hdsB r.hs = false) : reqB r = false := by simp [reqB, h]
theorem reqB_b {r : Rq} (h1 : methB r.m = true) (h2 : targB r.p = true) (h3 : hdsB r.hs = true) : reqB r = decide ((r.b.size : Int) ≤ 200) := by
  by_cases e : r.b.size ≤ 200
  · have e2 : (r.b.size : Int) ≤ 200 := by omega
    simp [reqB, h1, h2, h3, e, e2]
  · have e2 : ¬ (r.b.size : Int) ≤ 200 := by omega
    simp [reqB, h1, h2, h3, e, e2]

set_option maxHeartbeats 1000000 in
theorem specReqOk_any (a : Option Addr) (r : Rq) (cap B : Nat) (w : World) (h : Hds w B a r.hs) (hB : B ≤ w.heap.size) (hsh : ShortR r) :
    Calls Tryz.prog 86 #[.agg #[.string r.m, .string r.p, .slice a r.hs.length cap, .string r.b]] w fun e w' => e = .returned (.bool (reqB r)) ∧ Below w.heap.size w w' := by
  obtain ⟨q1, q2, q3, q4, q5⟩ := hsh
  have HM : Hid (methB r.m = false → reqB r = false) := reqB_m
  have HP : Hid (targB r.p = false → reqB r = false) := reqB_p
  have HH : Hid (hdsB r.hs = false → reqB r = false) := reqB_h
  have HA : Hid (methB r.m = true → targB r.p = true → hdsB r.hs = true → reqB r = decide ((r.b.size : Int) ≤ 200)) := reqB_b
  obtain ⟨z, hz⟩ : ∃ z, reqB r = z := ⟨_, rfl⟩
  rw [hz] at HM HP HH HA ⊢
  clear hz
  obtain ⟨rm, rp, hs, rb⟩ := r
  simp only at *
  have q3' := q3
  unfold maxLen at q3'
  have hb0 : Below w.heap.size w (w.alloc (Obj.cells #[Value.string rm, Value.string rp, Value.slice a hs.length cap, Value.string rb] 26)) := (Below.refl _ _).alloc (Nat.le_refl _) _
  have HD := hide (h.below hb0 hB)
  clear h
  cases h1 : methB rm
  · have hz := HM.out h1
    subst hz
    go_enter Tryz.func86, Tryz.ntmps86
    go_wp2_with (go_at_call 110; refine (l3Method_any rm _ q1).mono ?_; rintro e w1 ⟨rfl, hw⟩; obtain rfl := hw.symm; rw [h1])
    go_ret
    exact ⟨rfl, hb0⟩
  · cases h2 : targB rp
    · have hz := HP.out h2
      subst hz
      go_enter Tryz.func86, Tryz.ntmps86
      go_wp2_with (first | (go_at_call 110; refine (l3Method_any rm _ q1).mono ?_; rintro e w1 ⟨rfl, hw⟩; obtain rfl := hw.symm; rw [h1]) | (go_at_call 111; refine (l3Target_any rp _ q2).mono ?_; rintro e w1 ⟨rfl, hw⟩; obtain rfl := hw.symm; rw [h2]))
      go_ret
      exact ⟨rfl, hb0⟩
    · cases h3 : hdsB hs
      · have hz := HH.out h3
        subst hz
        go_enter Tryz.func86, Tryz.ntmps86
        go_wp2_with (first | (go_at_call 110; refine (l3Method_any rm _ q1).mono ?_; rintro e w1 ⟨rfl, hw⟩; obtain rfl := hw.symm; rw [h1]) | (go_at_call 111; refine (l3Target_any rp _ q2).mono ?_; rintro e w1 ⟨rfl, hw⟩; obtain rfl := hw.symm; rw [h2]) | (go_at_call 118; refine (l3Heads_any a hs cap B _ HD.out q5 q4).mono ?_; rintro e w1 ⟨rfl, hw⟩; obtain rfl := hw.symm; rw [h3]))
        go_ret
        exact ⟨rfl, hb0⟩
      · have hz := HA.out h1 h2 h3
        subst hz
        go_enter Tryz.func86, Tryz.ntmps86
        go_wp2_with (first | (go_at_call 110; refine (l3Method_any rm _ q1).mono ?_; rintro e w1 ⟨rfl, hw⟩; obtain rfl := hw.symm; rw [h1]) | (go_at_call 111; refine (l3Target_any rp _ q2).mono ?_; rintro e w1 ⟨rfl, hw⟩; obtain rfl := hw.symm; rw [h2]) | (go_at_call 118; refine (l3Heads_any a hs cap B _ HD.out q5 q4).mono ?_; rintro e w1 ⟨rfl, hw⟩; obtain rfl := hw.symm; rw [h3]))
        go_ret
        exact ⟨rfl, hb0⟩
end Go.Proofs.YtnoijfnpchihoaaGreatDoor
namespace Go.Proofs.YtnoijfnpchihoaaGreatDoor
open Go.RowKit M
set_option linter.unusedVariables false

set_option maxHeartbeats 400000 in
theorem tellsLength_any (x y : ByteArray) (w : World) :
    Calls Tryz.prog 75 #[.agg #[.string x, .string y]] w fun e w' => e = .returned (.bool (decide (x = lenName))) ∧ Below w.heap.size w w' := by
  have e := lenEq x
  generalize decide (x = lenName) = z at *
  go_enter Tryz.func75, Tryz.ntmps75
  go_wp2
  go_ret
  exact ⟨rfl, (Below.refl _ _).alloc (Nat.le_refl _) _⟩

set_option maxHeartbeats 400000 in
theorem tellsCoding_any (x y : ByteArray) (w : World) :
    Calls Tryz.prog 76 #[.agg #[.string x, .string y]] w fun e w' => e = .returned (.bool (decide (x = codName))) ∧ Below w.heap.size w w' := by
  have e := codEq x
  generalize decide (x = codName) = z at *
  go_enter Tryz.func76, Tryz.ntmps76
  go_wp2
  go_ret
  exact ⟨rfl, (Below.refl _ _).alloc (Nat.le_refl _) _⟩
end Go.Proofs.YtnoijfnpchihoaaGreatDoor
namespace Go.Proofs.YtnoijfnpchihoaaGreatDoor
open Go.RowKit M

set_option maxHeartbeats 400000 in
theorem allOf_any (s : ByteArray) (ks : List Int) (n b o cap : Nat) (w : World) (hn : ks.length = n) (hs : s.size ≤ maxLen) (hl : ks.length ≤ maxLen)
    (hc : ∀ i, i < ks.length → w.cell? ⟨b, o + i, none⟩ = some (.int .i64 (ks.getD i 0))) :
    Calls Tryz.prog 82 #[.string s, .slice (some ⟨b, o, none⟩) n cap] w fun e w' => e = .returned (.bool (allB s.data.toList ks)) ∧ w' = w := by
  subst hn
  unfold maxLen at hs
  have HC : Hid (∀ i, i < ks.length → w.cell? ⟨b, o + i, none⟩ = some (.int .i64 (ks.getD i 0))) := hc
  clear hc
  go_enter Tryz.func82, Tryz.ntmps82
  go_wp2
  go_loop [5] (fun i => ∃ k : Nat, k ≤ s.size ∧ i = .int .i64 k ∧ allB (s.data.toList.take k) ks = true) (fun i => s.size - (intOf i).toNat)
  case atStart => exact ⟨0, Nat.zero_le _, rfl, rfl⟩
  case round =>
    obtain ⟨k, hk, rfl, hn⟩ := hrel
    have HN : Hid (allB (s.data.toList.take k) ks = true) := hn; clear hn
    by_cases hlt : k < s.size
    · go_wp2_with (go_at_call 105; refine (isOneOf_any _ ks _ b o cap _ rfl hl HC.out).mono ?_; rintro e w' ⟨rfl, rfl⟩)
      · go_ret
        exact ⟨ret_bool (by rw [allB_not s ks k hlt (by assumption)]), rfl⟩
      · go_round
        case rel => exact ⟨k + 1, by omega, by go_num, allB_snoc s ks k hlt HN.out (by assumption)⟩
        case measure => simp [intOf]; omega
    · go_wp2
      go_ret
      exact ⟨ret_bool (by rw [← HN.out, take_all s k hlt]), rfl⟩
end Go.Proofs.YtnoijfnpchihoaaGreatDoor
