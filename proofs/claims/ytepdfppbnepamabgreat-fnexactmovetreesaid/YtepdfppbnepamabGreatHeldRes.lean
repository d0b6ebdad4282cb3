/-
  What laws.heldResS does.
-/
import Derived.Test.YtepdfppbnepamabGreatMarkResS
namespace Go.Proofs.YtepdfppbnepamabGreat
open Go.RowKit M
set_option linter.unusedVariables false

set_option maxRecDepth 100000 in
set_option maxHeartbeats 4000000 in
theorem heldResS_from (lo hi g cap k0 : Nat) (rs : List Rs) (pb qb : Nat → Nat) (hsz : rs.length + sumR rs ≤ 1048576) (hk1 : 1 ≤ k0) (hk0 : k0 ≤ 10000000) (w : World) (h : MixR w lo hi g rs pb qb (kAt k0 rs) rs.length) :
    Calls Tryz.prog 17 #[.slice (some ⟨g, 0, none⟩) rs.length cap, .int .i64 k0] w fun e w' => e = .returned (.int .i64 ((kAt k0 rs rs.length : Nat) : Int)) ∧ Below w.heap.size w w' := by
  have hl : rs.length ≤ 1048576 := by omega
  have HC := hide (cnt_sum rs)
  have HSZ := hide hsz
  have hg0 : kAt k0 rs 0 = k0 := by simp [kAt]
  clear hsz
  go_enter Tryz.func17, Tryz.ntmps17
  go_wp2
  go_loopw [1, 5] (fun kv i wr => ∃ (j : Nat), j ≤ rs.length ∧ i = .int .i64 j ∧ kv = .int .i64 ((kAt k0 rs j : Nat) : Int) ∧ Below w.heap.size w wr) (fun _ i _ => rs.length - (intOf i).toNat)
  case atStart => exact ⟨0, Nat.zero_le _, rfl, by rw [hg0], Below.refl _ _⟩
  case round =>
    obtain ⟨j, hj, rfl, rfl, hbe⟩ := hrel
    by_cases hlt : j < rs.length
    · have HN := hide (kAt_next k0 rs j hlt)
      have hb1 := kAt_mono k0 rs j hj
      have hb2 := kAt_mono k0 rs (j + 1) hlt
      have hm := sumR_mem rs _ (List.getElem_mem hlt)
      have hr2 : szR rs[j] = (rs[j]).pa.length + sumL (rs[j]).pa + (rs[j]).bo.size + ((rs[j]).ps.length + sumP (rs[j]).ps) := rfl
      have hkb : kAt k0 rs j + rs[j].pa.length + 3 + 3 * rs[j].ps.length ≤ 20000000 ∧ 1 ≤ kAt k0 rs j := by have := HC.out; have := HSZ.out; have := HN.out; omega
      have hlp : rs[j].pa.length ≤ 1048576 ∧ rs[j].ps.length ≤ 1048576 := by have := HSZ.out; omega
      clear hb1 hb2 hm hr2
      have hR := h.below hbe
      obtain ⟨hs0, hs4⟩ := hR.sl j hlt
      obtain ⟨rp, rq, x1, x2, x3⟩ := hR.rp j hlt hlt
      have hgs := hR.gs
      have hM := heldStringS_from (pb j) rs[j].pa.length rs[j].pa.length (kAt k0 rs j) hlp.1 hkb.2 (by omega) wr rp
      obtain ⟨M, hMM⟩ : ∃ M : Nat, M = kAt k0 rs j + rs[j].pa.length := ⟨_, rfl⟩
      have eM : ((kAt k0 rs j : Nat) : Int) + (rs[j].pa.length : Int) = (M : Int) := by omega
      rw [eM] at hM
      rw [← hMM] at x1 x2 x3 rq
      have hT := fun W => markText_any (M + 1) (by omega) (by omega) W
      have e1 : ((M + 1 : Nat) : Int) = (M : Int) + 1 := by omega
      rw [e1] at hT
      have hP := fun W (hW : MarkP W (qb j) rs[j].ps.length (M + 3)) => heldPropS_from (qb j) rs[j].ps.length rs[j].ps.length (M + 3) hlp.2 (by omega) (by omega) W hW
      have e3 : ((M + 3 : Nat) : Int) = (M : Int) + 1 + 1 + 1 := by omega
      simp only [e3] at hP
      have HMM := hide hMM
      have HM := hide hM
      have HT := hide hT
      have HP := hide hP
      have HQ := hide rq
      have hMb : M ≤ 30000000 := by omega
      have HK2 := hide (show (M + 3 + 3 * rs[j].ps.length : Nat) = kAt k0 rs (j + 1) by rw [HN.out, hMM])
      have x1' : wr.cell? ⟨g, j * 5 + 1, none⟩ = some (.bool ((M : Int) % 3 == 0)) := x1
      have hM3 : (M + 3 + 3 * rs[j].ps.length : Nat) ≤ 30000000 := by omega
      clear hMM eM hM hT e1 hP e3 rp rq hkb hR x1
      go_wp2_with fail
      refine HM.out.mono ?_
      rintro e w1 ⟨rfl, b1⟩
      have y1 := (b1.cell (p := ⟨g, j * 5 + 1, none⟩) hgs).trans x1'
      have y2 := (b1.cell (p := ⟨g, j * 5 + 2, none⟩) hgs).trans x2
      have y3 := (b1.cell (p := ⟨g, j * 5 + 3, none⟩) hgs).trans x3
      have y4 := (b1.cell (p := ⟨g, j * 5 + 4, none⟩) hgs).trans hs4
      have hg1 : g < w1.heap.size := Nat.lt_of_lt_of_le hgs b1.size
      have Q1 := hide (CellsP.below HQ.out b1)
      have c1 := hbe.trans (b1.mono hbe.size)
      clear x1' x2 x3 hs0 hs4 b1 HM HQ
      have hi0 : (0 : Int) ≤ (j : Int) := by omega
      have hi1 : (j : Int) < (rs.length : Int) := by omega
      go_wp2
      go_region_held3 (fun w' => w'.cell? ⟨g, j * 5 + 2, none⟩ = some (.string (mt (M + 1)))) (first | go_keep | (exact (b3.cell (p := ⟨g, j * 5 + 2, none⟩) (by first | omega | (simp; omega))).trans (by assumption))) ((go_at_call 38; refine (HT.out _).mono ?_; rintro e w3 ⟨rfl, b3⟩))
      all_goals
        have hb3 : Below w1.heap.size w1 w3 := ((Below.refl w1.heap.size w1).drew).trans b3
        have u3 := (hb3.cell (p := ⟨g, j * 5 + 3, none⟩) hg1).trans y3
        have u4 := (hb3.cell (p := ⟨g, j * 5 + 4, none⟩) hg1).trans y4
        have Q3 := hide (CellsP.below Q1.out hb3)
        have c3 := c1.trans (hb3.mono c1.size)
        clear b3 hb3 y1 y2 y3 y4
        go_wp2_with fail
        refine (HP.out w3 Q3.out).mono ?_
        rintro e w6 ⟨rfl, b6⟩
        have c6 := c3.trans (b6.mono c3.size)
        clear b6 u3 u4
        go_wp2
        go_roundw
        case rel => exact ⟨j + 1, by omega, by go_num, (by rw [← HK2.out]; first | rfl | (congr 1; omega)), c6⟩
        case measure => simp [intOf]; omega
    · have hjn : j = rs.length := by omega
      subst hjn
      go_wp2
      go_ret
      exact ⟨rfl, hbe⟩
end Go.Proofs.YtepdfppbnepamabGreat
