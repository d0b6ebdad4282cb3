/-
  What laws.markResS and laws.heldResS do.
-/
import Derived.Test.YtepdfppbnepamabGreatMarkRes
namespace Go.Proofs.YtepdfppbnepamabGreat
open Go.RowKit M
set_option linter.unusedVariables false

/-- Where the marks of thing j begin. -/
def kAt (k0 : Nat) (rs : List Rs) (j : Nat) : Nat := k0 + ((rs.take j).map cntR).sum
theorem kAt_next (k0 : Nat) (rs : List Rs) (j : Nat) (hj : j < rs.length) : kAt k0 rs (j + 1) = kAt k0 rs j + rs[j].pa.length + 3 + 3 * rs[j].ps.length := by
  unfold kAt
  rw [List.take_succ_eq_append_getElem hj, List.map_append, List.sum_append]
  simp only [List.map_cons, List.map_nil, List.sum_cons, List.sum_nil, cntR]
  omega
theorem kAt_mono (k0 : Nat) (rs : List Rs) (j : Nat) (hj : j ≤ rs.length) : k0 ≤ kAt k0 rs j ∧ kAt k0 rs j ≤ k0 + (rs.map cntR).sum := by
  unfold kAt
  have h : ((rs.take j).map cntR).sum + ((rs.drop j).map cntR).sum = (rs.map cntR).sum := by
    rw [← List.sum_append, ← List.map_append, List.take_append_drop]
  omega
theorem cnt_sum (rs : List Rs) : (rs.map cntR).sum ≤ 3 * (rs.length + sumR rs) := by
  induction rs with
  | nil => simp
  | cons r l ih =>
    have h1 : sumR (r :: l) = szR r + sumR l := by simp [sumR]
    have h2 : szR r = r.pa.length + sumL r.pa + r.bo.size + (r.ps.length + sumP r.ps) := rfl
    have h3 : cntR r = r.pa.length + 3 + 3 * r.ps.length := rfl
    rw [h1, List.map_cons, List.sum_cons, List.length_cons]
    omega

set_option maxRecDepth 100000 in
set_option maxHeartbeats 4000000 in
theorem markResS_from (lo hi g cap k0 : Nat) (rs : List Rs) (pb qb : Nat → Nat) (hsz : rs.length + sumR rs ≤ 1048576) (hk1 : 1 ≤ k0) (hk0 : k0 ≤ 10000000) (w : World) (h : OwnR w lo hi g rs pb qb) :
    Calls Tryz.prog 15 #[.slice (some ⟨g, 0, none⟩) rs.length cap, .int .i64 k0] w fun e w' => e = .returned (.int .i64 ((kAt k0 rs rs.length : Nat) : Int)) ∧ MixR w' lo hi g rs pb qb (kAt k0 rs) rs.length ∧ Turn (fun x => lo ≤ x ∧ x < hi) w w' := by
  have hl : rs.length ≤ 1048576 := by omega
  have HC := hide (cnt_sum rs)
  have HSZ := hide hsz
  have h0 := h.mix (kAt k0 rs)
  have hg0 : kAt k0 rs 0 = k0 := by simp [kAt]
  clear hsz h
  go_enter Tryz.func15, Tryz.ntmps15
  go_wp2
  go_loopw [1, 5] (fun kv i wr => ∃ (j : Nat), j ≤ rs.length ∧ i = .int .i64 j ∧ kv = .int .i64 ((kAt k0 rs j : Nat) : Int) ∧ MixR wr lo hi g rs pb qb (kAt k0 rs) j ∧ Turn (fun x => lo ≤ x ∧ x < hi) w wr) (fun _ i _ => rs.length - (intOf i).toNat)
  case atStart => exact ⟨0, Nat.zero_le _, rfl, by rw [hg0], h0, Turn.refl _ _⟩
  case round =>
    obtain ⟨j, hj, rfl, rfl, hR, hbe⟩ := hrel
    by_cases hlt : j < rs.length
    · have HN := hide (kAt_next k0 rs j hlt)
      have hb1 := kAt_mono k0 rs j hj
      have hb2 := kAt_mono k0 rs (j + 1) hlt
      have hm := sumR_mem rs _ (List.getElem_mem hlt)
      have hr2 : szR rs[j] = (rs[j]).pa.length + sumL (rs[j]).pa + (rs[j]).bo.size + ((rs[j]).ps.length + sumP (rs[j]).ps) := rfl
      have hkb : kAt k0 rs j + rs[j].pa.length + 3 + 3 * rs[j].ps.length ≤ 20000000 ∧ 1 ≤ kAt k0 rs j := by have := HC.out; have := HSZ.out; have := HN.out; omega
      have hlp : rs[j].pa.length ≤ 1048576 ∧ rs[j].ps.length ≤ 1048576 := by have := HSZ.out; omega
      clear hb1 hb2 hm hr2
      have HR := hide hR
      obtain ⟨hs0, hs4⟩ := hR.sl j hlt
      obtain ⟨v1, v2, v3, x1, x2, x3⟩ := hR.ex j hlt
      obtain ⟨rp, rq⟩ := hR.rq j hlt (Nat.le_refl _)
      obtain ⟨bd1, bd2, bd3, bd4, bd5⟩ := hR.bnd j hlt
      have hgs := hR.gs
      have hfz := hR.fz
      obtain ⟨FQ, rq⟩ := rq.cellsP
      have hM := markStringS_from (pb j) rs[j].pa.length rs[j].pa.length (kAt k0 rs j) rs[j].pa rfl hlp.1 hkb.2 (by omega) wr rp
      obtain ⟨M, hMM⟩ : ∃ M : Nat, M = kAt k0 rs j + rs[j].pa.length := ⟨_, rfl⟩
      have eM : ((kAt k0 rs j : Nat) : Int) + (rs[j].pa.length : Int) = (M : Int) := by omega
      rw [eM] at hM
      have hT := fun W => markText_any (M + 1) (by omega) (by omega) W
      have e1 : ((M + 1 : Nat) : Int) = (M : Int) + 1 := by omega
      rw [e1] at hT
      have HMM := hide hMM
      have HM := hide hM
      have HT := hide hT
      have hP := fun W F (hW : CellsP W (qb j) rs[j].ps.length F) => markPropS_from (qb j) rs[j].ps.length rs[j].ps.length (M + 3) F hlp.2 (by omega) (by omega) W hW
      have e3 : ((M + 3 : Nat) : Int) = (M : Int) + 1 + 1 + 1 := by omega
      simp only [e3] at hP
      have HP := hide hP
      have HK := hide hkb
      clear hMM eM hM hT e1 rp hkb hR hP e3
      have hMb : M ≤ 30000000 := by have := HMM.out; have := HK.out; omega
      go_wp2_with fail
      refine HM.out.mono ?_
      rintro e w1 ⟨rfl, r1, t1⟩
      have y1 := (t1.cell hgs (fun e => bd4 e.symm) (j * 5 + 1)).trans x1
      have y2 := (t1.cell hgs (fun e => bd4 e.symm) (j * 5 + 2)).trans x2
      have y3 := (t1.cell hgs (fun e => bd4 e.symm) (j * 5 + 3)).trans x3
      have y4 := (t1.cell hgs (fun e => bd4 e.symm) (j * 5 + 4)).trans hs4
      have z1 : ∀ o, w1.frozen? ⟨g, o, none⟩ = false := fun o => (t1.frozen hgs (fun e => bd4 e.symm) o).trans (hfz o)
      have q1 := rq.heap t1.size (t1.block _ rq.1 (by omega))
      have hg1 : g < w1.heap.size := Nat.lt_of_lt_of_le hgs t1.size
      clear hs0 hs4 x1 x2 x3 rq
      go_wp2_with fail
      refine (HT.out _).mono ?_
      rintro e w3 ⟨rfl, b3⟩
      have B3 : Below (w1.setCell ⟨g, j * 5 + 1, none⟩ (.bool (coM M))).heap.size (w1.setCell ⟨g, j * 5 + 1, none⟩ (.bool (coM M))) w3 := b3
      have hg2 : g < (w1.setCell ⟨g, j * 5 + 1, none⟩ (.bool (coM M))).heap.size := by simpa using hg1
      have hq2 : qb j < (w1.setCell ⟨g, j * 5 + 1, none⟩ (.bool (coM M))).heap.size := by simpa using q1.1
      have far : ∀ (W : World) (o p : Nat) (v : Value), o ≠ p → (W.setCell ⟨g, p, none⟩ v).cell? ⟨g, o, none⟩ = W.cell? ⟨g, o, none⟩ := fun W o p v hne => World.cell?_setCell_other _ _ _ _ (fun e => hne (congrArg Addr.off e).symm)
      have u2 : w3.cell? ⟨g, j * 5 + 2, none⟩ = some v2 := by rw [B3.cell (p := ⟨g, j * 5 + 2, none⟩) hg2, far _ _ _ _ (by omega)]; exact y2
      have u3 : w3.cell? ⟨g, j * 5 + 3, none⟩ = some v3 := by rw [B3.cell (p := ⟨g, j * 5 + 3, none⟩) hg2, far _ _ _ _ (by omega)]; exact y3
      have u4 : w3.cell? ⟨g, j * 5 + 4, none⟩ = some (.slice (some ⟨qb j, 0, none⟩) rs[j].ps.length rs[j].ps.length) := by rw [B3.cell (p := ⟨g, j * 5 + 4, none⟩) hg2, far _ _ _ _ (by omega)]; exact y4
      have z3 : ∀ o, w3.frozen? ⟨g, o, none⟩ = false := fun o => by rw [B3.frozen (p := ⟨g, o, none⟩) hg2, World.frozen?_setCell]; exact z1 o
      have q3 : CellsP w3 (qb j) rs[j].ps.length FQ := (q1.heap (w' := w1.setCell ⟨g, j * 5 + 1, none⟩ (.bool (coM M))) (by simp) (Below.heap_setCell _ _ _ _ bd5)).below B3
      have q5 : CellsP ((w3.setCell ⟨g, j * 5 + 2, none⟩ (.string (mt (M + 1)))).setCell ⟨g, j * 5 + 3, none⟩ (.int .i64 ((M : Int) + 1 + 1))) (qb j) rs[j].ps.length FQ := (q3.heap (w' := w3.setCell ⟨g, j * 5 + 2, none⟩ (.string (mt (M + 1)))) (by simp) (Below.heap_setCell _ _ _ _ bd5)).heap (by simp) (Below.heap_setCell _ _ _ _ bd5)
      have HB3 := hide B3
      have HQ5 := hide q5
      have R1 := hide r1
      have T1 := hide t1
      clear y1 y2 y3 y4 z1 q1 q3 q5 far b3 B3 hg2 hq2 r1 t1 HM HT
      go_wp2_with fail
      refine (HP.out _ FQ HQ5.out).mono ?_
      rintro e w6 ⟨rfl, r6, t6⟩
      have R6 := hide r6
      have T6 := hide t6
      clear r6 t6 u2 u3 u4 z3 HP HQ5
      have hfin : Hid (MixR w6 lo hi g rs pb qb (kAt k0 rs) (j + 1) ∧ Turn (fun x => lo ≤ x ∧ x < hi) wr w6) ∧ Hid ((M + 3 + 3 * rs[j].ps.length : Nat) = kAt k0 rs (j + 1)) := by
        have hMM := HMM.out
        subst hMM
        exact ⟨HR.out.round hlt R1.out T1.out HB3.out R6.out T6.out, HN.out.symm⟩
      obtain ⟨hf1, hf2⟩ := hfin
      clear R1 T1 HB3 R6 T6 HR HMM
      go_wp2
      go_roundw
      case rel => exact ⟨j + 1, by omega, by go_num, (by rw [← hf2.out]; first | rfl | (congr 1; omega)), hf1.out.1, hbe.trans hf1.out.2⟩
      case measure => simp [intOf]; omega
    · have hjn : j = rs.length := by omega
      subst hjn
      go_wp2
      go_ret
      exact ⟨rfl, hR, hbe⟩
end Go.Proofs.YtepdfppbnepamabGreat
