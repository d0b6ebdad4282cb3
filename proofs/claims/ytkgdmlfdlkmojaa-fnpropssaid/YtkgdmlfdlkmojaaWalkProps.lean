/-
  The walk of the law FnProps: what is set is told, what is taken is not; in all, or not at all.
-/
import Derived.Test.YtkgdmlfdlkmojaaNeName
import Derived.Test.YtkgdmlfdlkmojaaSetPropsI
import Derived.Test.YtkgdmlfdlkmojaaPropOfI
import Derived.Test.YtkgdmlfdlkmojaaSpecPropOf
import Derived.Test.YtkgdmlfdlkmojaaSameProps
import Derived.Test.YtkgdmlfdlkmojaaMathOne
import Derived.Test.YtkgdmlfdlkmojaaBig
import Derived.Test.YtkgdmlfdlkmojaaIsRow
namespace Go.Proofs.Ytkgdmlfdlkmojaa
open Go.RowKit M
set_option linter.unusedVariables false

theorem FewQ.small {ps : List Pp} (h : FewQ ps) : SmallPs ps := fun p hp => by have := h.2 p hp; omega
theorem FewS.small {n : Nat} {ss : List Sx} (h : FewS n ss) : SmallSs ss := fun s hs => by
  obtain ⟨h1, h2, h3⟩ := h.2 s hs
  exact ⟨by omega, by omega, by omega⟩
theorem sets_small {l : List Pp} {ss : List Sx} (h1 : SmallPs l) (h2 : SmallSs ss) : SmallPs (setsL l ss) := by
  unfold setsL
  split
  · have := turn_small h1 h2 ss.length
    rw [List.take_length] at this
    exact this
  · exact h1
theorem know_val {ps : List Pp} (h : SmallPs ps) (x y : ByteArray) : (valP (knowL ps x y)).size ≤ 281474976710656 := by
  cases e : knowL ps x y with
  | none => exact Nat.zero_le _
  | some p => exact (h p (List.mem_of_find?_eq_some e)).2.2
theorem sets_lenP (l : List Pp) (ss : List Sx) : (setsL l ss).length ≤ l.length + ss.length := by
  unfold setsL
  split
  · have := turn_len l ss ss.length
    rw [List.take_length] at this
    exact this
  · omega

/-- A set in a box. -/
def Cell4 (W : World) (b : Nat) (d : Bool) (p : Pp) : Prop := W.cell? ⟨b, 0, none⟩ = some (.bool d) ∧ W.cell? ⟨b, 1, none⟩ = some (.string p.1) ∧ W.cell? ⟨b, 2, none⟩ = some (.string p.2.1) ∧ W.cell? ⟨b, 3, none⟩ = some (.string p.2.2)
theorem Cell4.below {W w1 : World} {b : Nat} {d : Bool} {p : Pp} (h : Cell4 W b d p) (hb : Below W.heap.size W w1) : Cell4 w1 b d p := by
  have hB : b < W.heap.size := World.block_lt_of_cell? W _ h.1
  unfold Cell4 at *
  simp only [(bcellP hb).1 b _ hB]
  exact h

set_option maxRecDepth 100000 in
set_option maxHeartbeats 16000000 in
theorem FnProps_walk (a : Option Addr) (len cap : Nat) (zs : List Int) (w : World) (hr : IsRow .u8 w a len cap zs) :
    Calls Try.prog 3 #[.slice a len cap] w fun e w' => e = .returned (.bool true) ∧ Below w.heap.size w w' := by
  have hml := row_len hr
  by_cases hb : (1048576 : Int) < (len : Int)
  · clear hr
    go_enter Try.func3, Try.ntmps3
    go_wp2_with (go_at_call 7; refine (big_any a len cap _ hml).mono ?_; rintro e w1 ⟨rfl, hw⟩; obtain rfl := hw.symm; rw [decide_eq_true hb])
    go_ret
    exact ⟨rfl, Below.refl _ _⟩
  · have HC : Hid (CodeIn w w.heap.size a len zs) := code_of_row hr (by omega)
    clear hr
    go_enter Try.func3, Try.ntmps3
    go_wp2_with (go_at_call 7; refine (big_any a len cap _ hml).mono ?_; rintro e w1 ⟨rfl, hw⟩; obtain rfl := hw.symm; rw [decide_eq_false hb])
    refine (drawSetProps_any HC.out cap (Nat.le_refl _)).mono ?_
    rintro e w1 ⟨⟨ps, g, n, c, ss, g2, n2, c2, hf, hn, hfs, hn2, rfl, hP, ⟨hc1, hc2⟩, hS⟩, b1⟩
    subst hn hn2
    have hpl : ps.length ≤ 5 := hf.1
    have hsl : ss.length ≤ 8 := hfs.1
    have hsm := hf.small
    have hss := hfs.small
    have hkq : (setsL ps ss).length ≤ 13 := by have := sets_lenP ps ss; omega
    have hkm : (setsL ps ss).length ≤ maxLen := by unfold maxLen; omega
    have hks := sets_small hsm hss
    have HSI := hide (setProps_any g 0 ps c w1.heap.size (some ⟨g2, 0, none⟩) ss c2 w1.heap.size w1 hP (Nat.le_refl _) hc1 hc2 hS (Nat.le_refl _) (by omega) (by omega) hsm hss)
    have HSS := hide (fun W (hW : Below w1.heap.size w1 W) => specSetProps_any (some ⟨g, 0, none⟩) ps c w1.heap.size (some ⟨g2, 0, none⟩) ss c2 w1.heap.size W (hP.below hW (Nat.le_refl _)) hW.size (fun e => by cases e) (hS.below hW (Nat.le_refl _)) hW.size (by omega) (by omega) hsm.short hss.short)
    have HLK := hide (fun k hk e => last_know (l := ps) (ss := ss) k hk e)
    have HNO := hide (fun e => sets_no (l := ps) (ss := ss) e)
    have HPB := hide (show setsB ps ss = true → propsB (setsL ps ss) = true from fun e => by rw [sets_yes e]; unfold setsB at e; exact (Bool.and_eq_true_iff.1 e).2)
    have HB1 := hide b1
    have HC1 := hide (HC.out.below b1)
    have HP := hide hP
    have HS := hide hS
    clear hf b1 HC hP hS
    obtain ⟨ls, hls⟩ : ∃ ls, setsL ps ss = ls := ⟨_, rfl⟩
    obtain ⟨bb, hbb⟩ : ∃ b, setsB ps ss = b := ⟨_, rfl⟩
    rw [hls, hbb] at HSI
    simp only [hls, hbb] at HSS HLK HNO HPB
    rw [hls] at hkq hkm hks
    clear hls hbb
    have hbn : (bb == bb) = true := beq_self_eq_true _
    go_wp2_with fail
    refine HSI.out.mono ?_
    rintro e w2 ⟨⟨gx, hgx, rfl, r2⟩, b2⟩
    have HS1 := hide (HSS.out w2 b2)
    clear HSI HSS
    go_wp2_with fail
    refine HS1.out.mono ?_
    rintro e w3 ⟨⟨gy, ny, cy, rfl, hny, hO3⟩, b3⟩
    have hY3 := (hO3.row hny).1
    subst hny
    have d3 := b2.trans (b3.mono b2.size)
    have x3 := r2.below b3
    have HC3 := hide (HC1.out.below (d3.mono HB1.out.size))
    clear hO3 HS1 r2
    go_wp2_with fail
    refine (drawPropOf_any HC3.out cap).mono ?_
    rintro e w4 ⟨⟨qs, gq, nq, cq, x, y, hfq, hnq, hx, hy, rfl, hQ4⟩, b4⟩
    subst hnq
    have hql : qs.length ≤ 5 := hfq.1
    have hqs := hfq.small
    have hqv := know_val hqs x y
    have HPO := hide (propOf_any (some ⟨gq, 0, none⟩) qs cq w4.heap.size x y w4 hQ4 (Nat.le_refl _) hqs.short (by omega) (by unfold maxLen; omega) (by unfold maxLen; omega) hqv)
    have HQO := hide (fun W (hW : Below w4.heap.size w4 W) => specPropOf_any (some ⟨gq, 0, none⟩) qs cq w4.heap.size x y W (hQ4.below hW (Nat.le_refl _)) (by unfold maxLen; omega))
    have x4 := x3.below b4
    have y4 := hY3.below b4
    have d4 := d3.trans (b4.mono d3.size)
    clear x3 hY3 hfq HC3
    obtain ⟨vq, hvq⟩ : ∃ v, valP (knowL qs x y) = v := ⟨_, rfl⟩
    obtain ⟨kq, hkq2⟩ : ∃ v, (knowL qs x y).isSome = v := ⟨_, rfl⟩
    rw [hvq, hkq2] at HPO
    simp only [hvq, hkq2] at HQO
    clear hvq hkq2 hqv
    go_wp2_with fail
    refine HPO.out.mono ?_
    rintro e w5 ⟨rfl, b5⟩
    have HQ1 := hide (HQO.out w5 b5)
    have x5 := x4.below b5
    have y5 := y4.below b5
    have d5 := d4.trans (b5.mono d4.size)
    clear HPO HQO x4 y4
    go_wp2_with fail
    refine HQ1.out.mono ?_
    rintro e w5' ⟨rfl, hw5⟩
    obtain rfl := hw5.symm
    have HE1 := hide (sameProps_same (some ⟨gx, 0, none⟩) (some ⟨gy, 0, none⟩) ls ls.length cy w5.heap.size w5.heap.size w5 (x5.pps x5.1) (y5.pps y5.1) hkm)
    have hkk : (kq == kq) = true := beq_self_eq_true _
    have hvv : (vq.toList == vq.toList) = true := beq_self_eq_true _
    clear HQ1
    go_wp2_with fail
    refine HE1.out.mono ?_
    rintro e w6 ⟨rfl, b6'⟩
    have b6 := b6' w5.heap.size
    have x6 := x5.below b6
    have d6 := d5.trans (b6.mono d5.size)
    have z6 := HB1.out.trans (d6.mono HB1.out.size)
    clear HE1 x5 y5 b6'
    cases bb
    · have HX := hide (HNO.out (by trivial))
      have HE2 := hide (sameProps_same (some ⟨gx, 0, none⟩) (some ⟨g, 0, none⟩) ls ls.length c w6.heap.size w1.heap.size w6 (x6.pps x6.1) (by rw [HX.out]; exact HP.out.below d6 (Nat.le_refl _)) hkm)
      have hll : ls.length = ps.length := by rw [HX.out]
      rw [hll] at HE2 ⊢
      clear hll
      go_wp2_with fail
      refine HE2.out.mono ?_
      rintro e w7 ⟨rfl, b7'⟩
      have z7 := z6.trans (b7' w.heap.size)
      go_wp2
      go_ret
      exact ⟨rfl, z7⟩
    · have HPT := hide (HPB.out (by trivial))
      have HPK := hide (fun W (hW : Below w6.heap.size w6 W) => propsOk_any (some ⟨gx, 0, none⟩) ls ls.length w6.heap.size W ((x6.pps x6.1).below hW (Nat.le_refl _)) hW.size hks.short hkm)
      simp only [HPT.out] at HPK
      by_cases h0 : ss.length = 0
      · obtain rfl := List.length_eq_zero_iff.1 h0
        have HQ2 := hide (HPK.out w6 (Below.refl _ _))
        clear h0
        go_wp2_with fail
        refine HQ2.out.mono ?_
        rintro e w7 ⟨rfl, b7⟩
        have z7 := z6.trans (b7.mono z6.size)
        go_wp2
        go_ret
        exact ⟨rfl, z7⟩
      · obtain ⟨k, hk⟩ : ∃ k, ss.length = k + 1 := ⟨ss.length - 1, by omega⟩
        have hkl : k < ss.length := by omega
        have HKN := hide (HLK.out k hk (by trivial))
        obtain ⟨bs, os, es, hbs, hcs⟩ := (HS.out.below d6 (Nat.le_refl _)) (by omega)
        have es' : bs = g2 ∧ os = 0 := by cases es; exact ⟨rfl, rfl⟩
        obtain ⟨rfl, rfl⟩ := es'
        obtain ⟨v0, v1, v2, v3⟩ := hcs k hkl
        simp only [Nat.zero_add] at v0 v1 v2 v3
        obtain ⟨f1, f2, f3⟩ := hfs.2 _ (List.getElem_mem hkl)
        obtain ⟨s, hs⟩ : ∃ s, ss[k] = s := ⟨_, rfl⟩
        rw [hs] at v0 v1 v2 v3 f1 f2 f3
        simp only [hs] at HKN
        clear hs hcs es
        obtain ⟨del, p⟩ := s
        simp only at v0 v1 v2 v3 f1 f2 f3
        have hki : (k : Int) < (ss.length : Int) := by omega
        have hk0 : (0 : Int) ≤ (k : Int) := by omega
        have hwk : IntKind.i64.wrap (k : Int) = (k : Int) := by rw [IntKind.wrap_i64]; omega
        have hsk : ((ss.length : Nat) : Int) = (k : Int) + 1 := by omega
        have HBA := hide ((Below.refl w6.heap.size w6).alloc (Nat.le_refl _) (Obj.cells #[.bool del, .string p.1, .string p.2.1, .string p.2.2] 38))
        have HPQ := hide (propOf_any (some ⟨gx, 0, none⟩) ls ls.length w6.heap.size p.1 p.2.1 _ ((x6.pps x6.1).below HBA.out (Nat.le_refl _)) HBA.out.size hks.short (by omega) (by unfold maxLen; omega) (by unfold maxLen; omega) (know_val hks _ _))
        rw [HKN.out] at HPQ
        have hsz6 : (w6.alloc (Obj.cells #[.bool del, .string p.1, .string p.2.1, .string p.2.2] 38)).heap.size = w6.heap.size + 1 := by simp
        have HBX := hide (show Cell4 (w6.alloc (Obj.cells #[.bool del, .string p.1, .string p.2.1, .string p.2.2] 38)) w6.heap.size del p by unfold Cell4; simp)
        have hk1 : ss.length = k + 1 := hk
        rw [hk1]
        clear hk hk1 h0 HKN hsk
        cases del
        · simp only [Bool.false_eq_true, if_false] at HPQ
          have HV := hide (show valP (some p) = p.2.2 from rfl)
          go_wp2_with fail
          refine HPQ.out.mono ?_
          rintro e w7 ⟨rfl, b7⟩
          have c7 := HBA.out.trans (b7.mono HBA.out.size)
          obtain ⟨q0, q1, q2, q3⟩ := HBX.out.below b7
          have z7 := z6.trans (c7.mono z6.size)
          have HQ3 := hide (HPK.out w7 c7)
          have hvv2 : (p.2.2.toList == p.2.2.toList) = true := beq_self_eq_true _
          rw [HV.out]
          simp only [Option.isSome_some]
          clear HPQ b7 HBX
          go_wp2_with fail
          refine HQ3.out.mono ?_
          rintro e w8 ⟨rfl, b8⟩
          have z8 := z7.trans (b8.mono z7.size)
          go_wp2
          go_ret
          exact ⟨rfl, z8⟩
        · simp only [if_true] at HPQ
          go_wp2_with fail
          refine HPQ.out.mono ?_
          rintro e w7 ⟨rfl, b7⟩
          have c7 := HBA.out.trans (b7.mono HBA.out.size)
          obtain ⟨q0, q1, q2, q3⟩ := HBX.out.below b7
          have z7 := z6.trans (c7.mono z6.size)
          have HQ3 := hide (HPK.out w7 c7)
          simp only [Option.isSome_none]
          clear HPQ b7 HBX
          go_wp2_with fail
          refine HQ3.out.mono ?_
          rintro e w8 ⟨rfl, b8⟩
          have z8 := z7.trans (b8.mono z7.size)
          go_wp2
          go_ret
          exact ⟨rfl, z8⟩
end Go.Proofs.Ytkgdmlfdlkmojaa
