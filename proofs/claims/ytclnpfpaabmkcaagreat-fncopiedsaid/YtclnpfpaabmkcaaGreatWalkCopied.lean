/-
  The walk of the law FnCopied: a copy has all that was copied, and what was copied stays; a move is a copy, and then taking away.
-/
import Derived.Test.YtclnpfpaabmkcaaGreatSameTexts
import Derived.Test.YtclnpfpaabmkcaaGreatMapHeld
import Derived.Test.YtclnpfpaabmkcaaGreatFarI
import Derived.Test.YtclnpfpaabmkcaaGreatRemoveI
import Derived.Test.YtclnpfpaabmkcaaGreatDeepAny
import Derived.Test.YtclnpfpaabmkcaaGreatAskRef
import Derived.Test.YtclnpfpaabmkcaaGreatIsRow
import Derived.Test.YtclnpfpaabmkcaaGreatSpecLong
import Derived.Test.YtclnpfpaabmkcaaGreatGaveIs
import Derived.Deep.RegionHeld3
namespace Go.Proofs.YtclnpfpaabmkcaaGreat
open Go.RowKit M
set_option linter.unusedVariables false
set_option linter.unusedSimpArgs false

theorem strs_cells {W : World} {B b o : Nat} {ss : List ByteArray} (h : Strs W B (some ⟨b, o, none⟩) ss) : ∀ j u, (strV ss)[j]? = some u → W.cell? ((⟨b, o, none⟩ : Addr).add j) = some u := fun j u hj => by
  have hjl : j < ss.length := by
    have := (List.getElem?_eq_some_iff.1 hj).1
    rw [strV_length] at this
    exact this
  obtain ⟨b0, o0, ea, _, hc⟩ := h (by omega)
  cases ea
  rw [Addr.add_lit, hc j hjl]
  unfold strV at hj
  rw [List.getElem?_map, List.getElem?_eq_getElem hjl] at hj
  exact hj
theorem row_got {W : World} {base n : Nat} {v : Value} {xs : List Value} {ss : List ByteArray} (h : W.ownsRow base 9 1 v n xs) (h0 : 0 < n) (hx : xs = strV ss) (hn : n = ss.length) : ∃ b9 c8, v = .slice (some ⟨b9, 0, none⟩) ss.length c8 ∧ base ≤ b9 ∧ ss.length ≤ c8 ∧ c8 ≤ maxLen ∧ Strs W W.heap.size (some ⟨b9, 0, none⟩) ss := by
  subst hx hn
  have h' := h
  rcases h.2 with ⟨_, e⟩ | ⟨b9, c8, cur, rfl, q1, q2, q3, q4, q5, q6⟩
  · omega
  · refine ⟨b9, c8, rfl, q1, q3, q4, fun _ => ⟨b9, 0, rfl, (h'.lt b9 rfl).2, fun j hj => ?_⟩⟩
    rw [Nat.zero_add, h'.cellAt j (by rw [Nat.mul_one]; exact hj)]
    unfold strV
    rw [List.getElem?_map, List.getElem?_eq_getElem hj]
    rfl

theorem belowDF {n : Nat} {w w' : World} (h : Below n w w') : Below n w w'.drew := ⟨h.os, h.tape, h.output, h.size, h.block⟩
theorem far_treeT {rs : List Rs} {fr to : List ByteArray} {ov : Bool} {v : Int} {mv : Bool} (h : treeB rs = true) : treeB (farR rs fr to ov v mv) = true := by
  by_cases h0 : farI rs fr to ov v mv = 0
  · exact far_tree h0
  · rw [(far_code rfl h0).1]; exact h
theorem copy_no2 {rs : List Rs} {fr to : List ByteArray} {ov : Bool} {v : Int} (h : ¬ farI rs fr to ov v false = 0) : farR rs fr to ov v false = rs ∧ farC rs fr to ov v false ≠ 201 ∧ farC rs fr to ov v false ≠ 204 ∧ ((farC rs fr to ov v true = farC rs fr to ov v false ∧ farR rs fr to ov v true = rs) ∨ (farC rs fr to ov v false = 507 ∧ farC rs fr to ov v true ≠ 507)) := by
  obtain ⟨h1, h2, h3, h4⟩ := copy_no h
  refine ⟨h1, h2, h3, ?_⟩
  rcases h4 with e | e
  · by_cases h5 : farI rs fr to ov v true = 0
    · right
      refine ⟨e, ?_⟩
      unfold farC takenC
      rw [if_pos h5]
      split <;> decide
    · obtain ⟨k1, k2⟩ := far_code rfl h5
      by_cases h6 : farI rs fr to ov v true = 507
      · left; exact ⟨by rw [e, k2, h6], k1⟩
      · right; exact ⟨e, by rw [k2]; exact h6⟩
  · exact .inl e

set_option maxRecDepth 100000 in
set_option maxHeartbeats 32000000 in
theorem FnCopied_walk (a : Option Addr) (len cap : Nat) (zs : List Int) (w : World) (hr : IsRow .u8 w a len cap zs) :
    Calls Tryz.prog 3 #[.slice a len cap] w fun e w' => e = .returned (.bool true) ∧ Below w.heap.size w w' := by
  have hml := row_len hr
  by_cases hb : (1048576 : Int) < (len : Int)
  · clear hr
    go_enter Tryz.func3, Tryz.ntmps3
    go_wp2_with (go_at_call 7; refine (big_any a len cap _ hml).mono ?_; rintro e w1 ⟨rfl, hw⟩; obtain rfl := hw.symm; rw [decide_eq_true hb])
    go_ret
    exact ⟨rfl, Below.refl _ _⟩
  have HC : Hid (CodeIn w w.heap.size a len zs) := code_of_row hr (by omega)
  clear hr
  go_enter Tryz.func3, Tryz.ntmps3
  go_wp2_with (go_at_call 7; refine (big_any a len cap _ hml).mono ?_; rintro e w1 ⟨rfl, hw⟩; obtain rfl := hw.symm; rw [decide_eq_false hb])
  refine (drawShelves_any HC.out cap).mono ?_
  rintro e w1 ⟨⟨rs, g, c, ss, gp, cp, tt, gq, cq, htr, hf, hf2, rfl, hR, hP, ⟨hp1, hp2⟩, hQ, ⟨hq1, hq2⟩⟩, b1⟩
  have hrl := tree_len htr
  have hS := short_of_sumK (tree_sum htr)
  have hSh := short_sum (tree_sum htr)
  have hpl : ss.length ≤ 6 := hf.1
  have hql : tt.length ≤ 6 := hf2.1
  have hlm : rs.length ≤ maxLen := by unfold maxLen; omega
  have hpm : ss.length ≤ maxLen := by unfold maxLen; omega
  have hqm : tt.length ≤ maxLen := by unfold maxLen; omega
  have hqz : ∀ x ∈ tt, x.size ≤ 281474976710656 := fun x hx => by have := hf2.2 x hx; omega
  have HR := hide hR
  have HP := hide hP
  have HQ := hide hQ
  have HFR := hide hf.short
  have HFQ := hide hf2.short
  have HAT := hide (at_is (HC.out.below b1) cap 2 (by decide))
  obtain ⟨z, hz⟩ : ∃ z, atN len zs 2 = z := ⟨_, rfl⟩
  rw [hz] at HAT
  have hzm : (z : Int).tmod 2 = ((z % 2 : Nat) : Int) := by rw [Int.tmod_eq_emod_of_nonneg (by omega)]; omega
  have HCT := hide (fun ov => copyTreeI_any (some ⟨g, 0, none⟩) rs c w1.heap.size (some ⟨gp, 0, none⟩) ss cp gq 0 tt cq ov 88 w1 hR hP hQ (Nat.le_refl _) hSh (by omega) hS hf.short (by omega) hf2.short (by omega) hqz hp1 hp2 hq1 hq2)
  have HMT := hide (fun ov W (hW : Below w1.heap.size w1 W) => moveTreeI_any (some ⟨g, 0, none⟩) rs c w1.heap.size (some ⟨gp, 0, none⟩) ss cp gq 0 tt cq ov 88 W (HR.out.below hW (Nat.le_refl _)) (HP.out.below hW (Nat.le_refl _)) (HQ.out.below hW (Nat.le_refl _)) hW.size hSh (by omega) hS hf.short (by omega) hf2.short (by omega) hqz hp1 hp2 hq1 hq2)
  have HNO := hide (fun ov => @copy_no2 rs ss tt ov 88)
  have HIS := hide (fun ov => @copy_is rs ss tt ov 88)
  have HTX := hide (fun ov mv => @far_treeT rs ss tt ov 88 mv htr)
  have HDS := hide (fun r (hr : r ∈ deepL rs ss) => (⟨(hS r (deepL_mem.1 hr).1), deep_iff.1 (deepL_mem.1 hr).2⟩ : _ ∧ _))
  have HDT := hide (fun W (hW : Below w1.heap.size w1 W) => deepOf_any (some ⟨g, 0, none⟩) rs c w1.heap.size (some ⟨gp, 0, none⟩) ss cp w1.heap.size W (HR.out.below hW (Nat.le_refl _)) (HP.out.below hW (Nat.le_refl _)) hW.size hW.size (by omega) (by omega) hS)
  have hdl : (deepL rs ss).length ≤ rs.length := List.length_filter_le _ _
  have HFT := hide (fun W (hW : Below w1.heap.size w1 W) => findRes_any (some ⟨g, 0, none⟩) rs c w1.heap.size (some ⟨gq, 0, none⟩) tt cq w1.heap.size W (HR.out.below hW (Nat.le_refl _)) (HQ.out.below hW (Nat.le_refl _)) hlm hqm hW.size hW.size)
  have HB1 := hide b1
  have z1 := b1.size
  clear HC b1 hR hP hQ hf hf2 hS hSh hz htr
  go_wp2_with fail
  refine HAT.out.mono ?_
  rintro e w1' ⟨rfl, hw⟩
  obtain rfl := hw.symm
  clear HAT hw
  obtain ⟨ov, hov⟩ : ∃ ov, (((z % 2 : Nat) : Int) == 0) = ov := ⟨_, rfl⟩
  generalize z % 2 = y2 at hzm hov
  go_wp2_with fail
  refine (HCT.out ov).mono ?_
  rintro e w2 ⟨⟨gx, cx0, pbx, qbx, rfl, oX⟩, b2⟩
  have HM1 := hide (HMT.out ov w2 b2)
  have HTX1 := HTX.out ov false
  have HTY1 := HTX.out ov true
  have HNO1 := hide (HNO.out ov)
  have HIS1 := hide (HIS.out ov)
  clear HCT HMT HTX HNO HIS
  obtain ⟨X, hX⟩ : ∃ X, farR rs ss tt ov 88 false = X := ⟨_, rfl⟩
  obtain ⟨Y, hY⟩ : ∃ Y, farR rs ss tt ov 88 true = Y := ⟨_, rfl⟩
  obtain ⟨cc, hcc⟩ : ∃ cc, farC rs ss tt ov 88 false = cc := ⟨_, rfl⟩
  obtain ⟨dd, hdd⟩ : ∃ dd, farC rs ss tt ov 88 true = dd := ⟨_, rfl⟩
  rw [hX] at oX HTX1 ⊢
  rw [hY] at HTY1 HM1
  rw [hcc]
  rw [hdd] at HM1
  simp only [hX, hY, hcc, hdd] at HNO1 HIS1
  clear hX hY hcc hdd
  obtain ⟨fi, hfi⟩ : ∃ fi, farI rs ss tt ov 88 false = fi := ⟨_, rfl⟩
  simp only [hfi] at HNO1 HIS1
  clear hfi
  have hxl := tree_len HTX1
  have hXS := short_of_sumK (tree_sum HTX1)
  have hXSh := short_sum (tree_sum HTX1)
  have hyl := tree_len HTY1
  have hYS := short_of_sumK (tree_sum HTY1)
  have hYSh := short_sum (tree_sum HTY1)
  have hxm : X.length ≤ maxLen := by unfold maxLen; omega
  have hym : Y.length ≤ maxLen := by unfold maxLen; omega
  have HX2 : Hid (Rss w2 w2.heap.size (some ⟨gx, 0, none⟩) X) := oX.rss (fun r hr => by have := hXS r hr; unfold maxLen; omega) (Nat.le_refl _)
  have B2 := hide b2
  clear oX b2
  go_wp2_with fail
  refine HM1.out.mono ?_
  rintro e w3 ⟨⟨gy, cy0, pby, qby, rfl, oY⟩, b3⟩
  have HY3 : Hid (Rss w3 w3.heap.size (some ⟨gy, 0, none⟩) Y) := oY.rss (fun r hr => by have := hYS r hr; unfold maxLen; omega) (Nat.le_refl _)
  have B3 := hide b3
  have B13 := hide (B2.out.trans (b3.mono B2.out.size))
  clear oY b3 HM1
  by_cases h0 : fi = 0
  · have CP := HIS1.out h0
    clear HNO1 HIS1 h0
    have HNEW := hide CP.new
    have HOLD := hide CP.old
    have HREM := hide CP.rem
    have HRMC := hide CP.remc
    have HDEEP := hide CP.deep
    have hcd := CP.same
    subst hcd
    have hco := CP.code
    have hsp := CP.frp
    have htp := CP.top
    clear CP
    generalize deepL rs ss = ls at HNEW HOLD HDEEP HDS HDT hdl
    have hlsn : (ls.length : Int) ≤ 12 := by omega
    rcases hco with ⟨rfl, hft⟩ | ⟨rfl, hft⟩
    · go_wp2_with fail
      refine (HDT.out w3 B13.out).mono ?_
      rintro e w4 ⟨⟨gl, cl0, pbl, qbl, rfl, oL⟩, b4⟩
      have HL4 : Hid (Rss w4 w4.heap.size (some ⟨gl, 0, none⟩) ls) := oL.rss (fun r hr => by have := (HDS.out r hr).1; unfold maxLen; omega) (Nat.le_refl _)
      have HX4 := hide ((HX2.out.below (B3.out.trans (b4.mono B3.out.size)) (Nat.le_refl _)).mono (B3.out.trans (b4.mono B3.out.size)).size)
      have HY4 := hide ((HY3.out.below b4 (Nat.le_refl _)).mono b4.size)
      have B14 := hide (B13.out.trans (b4.mono B13.out.size))
      clear oL b4 HX2 HY3 B2 B3 B13
      have z4 := B14.out.size
      obtain ⟨ii, hii, hz, hsz, hby⟩ := info_parts info_strC
      go_wp2
      go_loopw [12] (fun i wr => ∃ k : Nat, k ≤ ls.length ∧ i = .int .i64 k ∧ Below w4.heap.size w4 wr) (fun i _ => ls.length - (intOf i).toNat)
      case atStart => exact ⟨0, Nat.zero_le _, rfl, Below.refl _ _⟩
      case round =>
        obtain ⟨k, hk, rfl, hbe⟩ := hrel
        have zr := hbe.size
        have B1r := B14.out.trans (hbe.mono z4)
        by_cases hlt : k < ls.length
        · obtain ⟨i1, hi1, hf1, he1⟩ := HNEW.out k hlt
          obtain ⟨j1, hj1, hf2, he2⟩ := HOLD.out k hlt
          obtain ⟨hsr, hpre⟩ := HDS.out _ (List.getElem_mem hlt)
          obtain ⟨gl', ol, egl, hgl, hcl⟩ := (HL4.out.below hbe (Nat.le_refl _)) (by omega)
          cases egl
          obtain ⟨pa, cx, qa, qc, ⟨l0, l1, l2, l3, l4⟩, hin⟩ := hcl k hlt
          obtain ⟨gx', oxx, egx, hgx, hcx2⟩ := (HX4.out.below hbe (Nat.le_refl _)) (by omega)
          cases egx
          obtain ⟨pa1, pc1, qa1, qc1, ⟨n0, n1, n2, n3, n4⟩, hin1⟩ := hcx2 i1 hi1
          obtain ⟨pa2, pc2, qa2, qc2, ⟨o0, o1, o2, o3, o4⟩, hin2⟩ := hcx2 j1 hj1
          rw [he1] at n0 n1 n2 n3 n4 hin1
          rw [he2] at o0 o1 o2 o3 o4 hin2
          clear hcl hcx2 he1 he2
          have hfr0 : ss.length ≤ (ls[k]).pa.length := hpre.length_le
          obtain ⟨hs1, hs2, hs3, hs4, hs5⟩ := hsr
          obtain ⟨rk, hrk⟩ : ∃ rk, ls[k] = rk := ⟨_, rfl⟩
          simp only [hrk] at hf1 hf2 hin hin1 hin2 l0 l1 l2 l3 l4 n0 n1 n2 n3 n4 o0 o1 o2 o3 o4 hfr0 hs1 hs2 hpre
          clear hrk hs3 hs4 hs5
          obtain ⟨pk, ck, bk, vk, qk⟩ := rk
          unfold carryR at n0 n1 n2 n3 n4 hin1
          simp only [Nat.zero_add] at hf1 hf2 hin hin1 hin2 l0 l1 l2 l3 l4 n0 n1 n2 n3 n4 o0 o1 o2 o3 o4 hfr0 hs1 hs2 hpre
          obtain ⟨np, hnp⟩ : ∃ np, tt ++ pk.drop ss.length = np := ⟨_, rfl⟩
          have HNP := hide hnp
          have HNL := hide (show np.length = tt.length + (pk.length - ss.length) by rw [← hnp, List.length_append, List.length_drop])
          simp only [hnp] at hf1 n0 hin1
          clear hnp
          have hnm : np.length ≤ maxLen := by have := HNL.out; unfold maxLen; omega
          have hkm : pk.length ≤ maxLen := by unfold maxLen; omega
          have hqkm : qk.length ≤ maxLen := by unfold maxLen; omega
          have hph := hin.ph
          obtain ⟨bx, ox, rfl, hbx, hpc⟩ := hin.ph (by omega : 0 < pk.length)
          have hpcx := hin.pl
          have hpmx := hin.pm
          simp only at hpcx hpmx hph hpc
          have hpd : ∀ j (hj : j < (pk.drop ss.length).length), wr.cell? ⟨bx, ox + ss.length + j, none⟩ = some (.string (pk.drop ss.length)[j]) := fun j hj => by
            have hj2 : ss.length + j < pk.length := by rw [List.length_drop] at hj; omega
            rw [Nat.add_assoc, hpc (ss.length + j) hj2, List.getElem_drop]
          have hglr : gl < wr.heap.size := by omega
          have hgxr : gx < wr.heap.size := by omega
          have kp : ∀ {wA : World}, Below wr.drew.heap.size wr.drew wA → wA.cell? ⟨gl, k * 5, none⟩ = some (.slice (some ⟨bx, ox, none⟩) pk.length cx) := fun hb => (hb.cell (p := ⟨gl, k * 5, none⟩) hglr).trans l0
          have HTQ : Hid (Strs wr.drew wr.drew.heap.size (some ⟨gq, 0, none⟩) tt) := hide ((HQ.out.below (belowDF B1r) (Nat.le_refl _)).mono B1r.size)
          have HSF := hide (fun (W : World) (hb : Below wr.drew.heap.size wr.drew W) => show ∀ j u, (strV (pk.drop ss.length))[j]? = some u → W.cell? ((⟨bx, ox + ss.length, none⟩ : Addr).add j) = some u from fun j u hj => by
            have hjl : j < (pk.drop ss.length).length := by
              have := (List.getElem?_eq_some_iff.1 hj).1
              rw [strV_length] at this
              exact this
            rw [Addr.add_lit]
            refine (hb.cell (p := ⟨bx, ox + ss.length + j, none⟩) (show bx < wr.heap.size by omega)).trans ((hpd j hjl).trans ?_)
            unfold strV at hj
            rw [List.getElem?_map, List.getElem?_eq_getElem hjl] at hj
            exact hj)
          have hi0 : (0 : Int) ≤ (k : Int) := by omega
          have hi3 : (k : Int) < (ls.length : Int) := by omega
          have hj0 : (0 : Int) ≤ (ss.length : Int) := by omega
          have hj3 : (ss.length : Int) ≤ (pk.length : Int) := by omega
          have ha0 : (0 : Int) ≤ (i1 : Int) := by omega
          have ha3 : (i1 : Int) < (X.length : Int) := by omega
          have ha4 : ¬ (i1 : Int) < 0 := by omega
          have hd0 : (0 : Int) ≤ (j1 : Int) := by omega
          have hd3 : (j1 : Int) < (X.length : Int) := by omega
          have hd4 : ¬ (j1 : Int) < 0 := by omega
          have HIN := hide hin
          have HIN1 := hide hin1
          have HIN2 := hide hin2
          have HNC := hide (And.intro n0 (And.intro n1 (And.intro n2 (And.intro n3 n4))))
          have HOC := hide (And.intro o0 (And.intro o1 (And.intro o2 (And.intro o3 o4))))
          have HLC := hide (And.intro l0 (And.intro l1 (And.intro l2 (And.intro l3 l4))))
          clear hin hin1 hin2 n0 n1 n2 n3 n4 o0 o1 o2 o3 o4 l0 l1 l2 l3 l4 hpd hpc
          go_wp2
          by_cases hcx : cx = ss.length
          · have hsl0 : pk.length - ss.length = 0 := by omega
            have hnil : pk.drop ss.length = [] := List.drop_of_length_le (by omega)
            have HSG := hide (show ∀ (W : World), Below wr.drew.heap.size wr.drew W → ∀ j u, (strV (pk.drop ss.length))[j]? = some u → W.cell? ((⟨bx, ox, none⟩ : Addr).add j) = some u from fun W _ j u hj => by rw [hnil] at hj; simp [strV] at hj)
            subst hcx
            clear hnil hsl0
            as_aux_lemma =>
              refine wp_region_held_drew (S := (fun W => W.cell? ⟨gl, k * 5, none⟩ = some (.slice (some ⟨bx, ox, none⟩) pk.length ss.length))) (by kernel_rfl) (kp (wA := wr.drew) (Below.refl _ _)) (fun hHeld => ?_)
              simp only [List.size_toArray, List.length_cons, List.length_nil, Nat.reduceAdd, Array.replicate_succ, Array.replicate_zero, List.push_toArray, List.nil_append, List.cons_append]
              refine wpAnyH_take (i := 1) (v := ?_) rfl (by kernel_rfl) (by kernel_rfl) (by kernel_rfl) (fun _ _ _ h => h) (Or.inl ⟨by rfl, ?_⟩) (by assumption) ?_
              rotate_left
              · intro w hSw; (try dsimp only at hSw); go_simp; try with_reducible rfl
              simp only [Act.put, List.getElem_toArray, List.getElem_cons_succ, List.getElem_cons_zero, List.setIfInBounds_toArray, List.set_cons_succ, List.set_cons_zero]
              refine wpAnyH_take (i := 3) (v := ?_) rfl (by kernel_rfl) (by kernel_rfl) (by kernel_rfl) (fun _ _ _ h => h) (Or.inl ⟨by rfl, ?_⟩) (by assumption) ?_
              rotate_left
              · intro w hSw; (try dsimp only at hSw); go_simp; try with_reducible rfl
              simp only [Act.put, List.getElem_toArray, List.getElem_cons_succ, List.getElem_cons_zero, List.setIfInBounds_toArray, List.set_cons_succ, List.set_cons_zero]
              refine wpAnyH_take (i := 4) (v := ?_) rfl (by kernel_rfl) (by kernel_rfl) (by kernel_rfl) (fun _ _ _ h => h) (Or.inl ⟨by rfl, ?_⟩) (by assumption) ?_
              rotate_left
              · intro w hSw; (try dsimp only at hSw); go_simp; try with_reducible rfl
              simp only [Act.put, List.getElem_toArray, List.getElem_cons_succ, List.getElem_cons_zero, List.setIfInBounds_toArray, List.set_cons_succ, List.set_cons_zero]
              refine wpAnyH_take (i := 5) (v := ?_) rfl (by kernel_rfl) (by kernel_rfl) (by kernel_rfl) (fun _ _ _ h => h) (Or.inl ⟨by rfl, ?_⟩) (by assumption) ?_
              rotate_left
              · intro w hSw; (try dsimp only at hSw); go_simp; try with_reducible rfl
              simp only [Act.put, List.getElem_toArray, List.getElem_cons_succ, List.getElem_cons_zero, List.setIfInBounds_toArray, List.set_cons_succ, List.set_cons_zero]
              refine wpAnyH_take (i := 6) (v := ?_) rfl (by kernel_rfl) (by kernel_rfl) (by kernel_rfl) (fun _ _ _ h => h) (Or.inl ⟨by rfl, ?_⟩) (by assumption) ?_
              rotate_left
              · intro w hSw; (try dsimp only at hSw); go_simp; try with_reducible rfl
              simp only [Act.put, List.getElem_toArray, List.getElem_cons_succ, List.getElem_cons_zero, List.setIfInBounds_toArray, List.set_cons_succ, List.set_cons_zero]
              refine wpAnyH_take (i := 7) (v := ?_) rfl (by kernel_rfl) (by kernel_rfl) (by kernel_rfl) (fun _ _ _ h => h) (Or.inl ⟨by rfl, ?_⟩) (by assumption) ?_
              rotate_left
              · intro w hSw; (try dsimp only at hSw); go_simp; try with_reducible rfl
              simp only [Act.put, List.getElem_toArray, List.getElem_cons_succ, List.getElem_cons_zero, List.setIfInBounds_toArray, List.set_cons_succ, List.set_cons_zero]
              refine wpAnyH_take (i := 8) (v := ?_) rfl (by kernel_rfl) (by kernel_rfl) (by kernel_rfl) (fun _ _ _ h => h) (Or.inl ⟨by rfl, ?_⟩) (by assumption) ?_
              rotate_left
              · intro w hSw; (try dsimp only at hSw); go_simp; try with_reducible rfl
              simp only [Act.put, List.getElem_toArray, List.getElem_cons_succ, List.getElem_cons_zero, List.setIfInBounds_toArray, List.set_cons_succ, List.set_cons_zero]
              refine wpAnyH_take (i := 9) (v := ?_) rfl (by kernel_rfl) (by kernel_rfl) (by kernel_rfl) (fun _ _ _ h => h) (Or.inl ⟨by rfl, ?_⟩) (by assumption) ?_
              rotate_left
              · intro w hSw; (try dsimp only at hSw); go_simp; try with_reducible rfl
              simp only [Act.put, List.getElem_toArray, List.getElem_cons_succ, List.getElem_cons_zero, List.setIfInBounds_toArray, List.set_cons_succ, List.set_cons_zero]
              refine wpAnyH_take (i := 10) (v := ?_) rfl (by kernel_rfl) (by kernel_rfl) (by kernel_rfl) (fun _ _ _ h => h) (Or.inl ⟨by rfl, ?_⟩) (by assumption) ?_
              rotate_left
              · intro w hSw; (try dsimp only at hSw); go_simp; try with_reducible rfl
              simp only [Act.put, List.getElem_toArray, List.getElem_cons_succ, List.getElem_cons_zero, List.setIfInBounds_toArray, List.set_cons_succ, List.set_cons_zero]
              refine wpAnyH_ready (rs := [0]) (by kernel_rfl) (by simp) ?_
              refine AllReadyH.cons rfl (fun K hK => ?_) AllReadyH.nil
              go_simp
              refine hK.out _ _ (kp (wA := _) ((Below.refl _ _).alloc (Nat.le_refl _) _)) (fun hHeld2 => ?_)
              have k4 := (Below.refl wr.drew.heap.size wr.drew).alloc (Nat.le_refl _) (Obj.cells #[] 9)
              have hT4 := hide (HTQ.out.below k4 (Nat.le_refl _))
              clear hK K hHeld
              have hHeld := hHeld2
              clear hHeld2
              simp only [List.setIfInBounds_toArray, List.set_cons_succ, List.set_cons_zero]
              refine wpAnyH_ready (rs := [2]) (by kernel_rfl) (by simp) ?_
              refine AllReadyH.cons rfl (fun K hK => ?_) AllReadyH.nil
              refine step_append_ownT rfl _ _ 25 rfl wr.heap.size 9 ii _ 1 16 Tryz.underlying25 hii hz hsz hby rfl (by omega) (.slice (some ⟨wr.heap.size, 0, none⟩) 0 0) 0 [] (by simp [Act.eval, Act.put]) (World.ownsRow_made wr.drew #[] 0 (Nat.le_refl _) (by decide) rfl) ⟨gq, 0, none⟩ tt.length cq (strV tt) (by simp [Act.eval, Act.put]) (by rw [strV_length]; omega) (strs_cells hT4.out) (strV_one _) (by unfold maxLen; omega) (by omega) (by simp) ?_
              intro v5 w5 hown5 hgr5
              have b5 := k4.trans (below_own (e := 9) (size := 1) (World.ownsRow_made wr.drew #[] 0 (Nat.le_refl _) (by decide) rfl) hgr5 (Nat.le_refl _) (by simp))
              have HO5 := hide hown5
              refine hK.out _ _ (kp (wA := w5) b5) (fun hHeld2 => ?_)
              clear hown5 hgr5
              clear hK K hHeld
              have hHeld := hHeld2
              clear hHeld2
              simp only [List.setIfInBounds_toArray, List.set_cons_succ, List.set_cons_zero]
              refine wpAnyH_ready (rs := [11]) (by kernel_rfl) (by simp) ?_
              refine AllReadyH.cons rfl (fun K hK => ?_) AllReadyH.nil
              refine step_append_ownT rfl _ _ 25 rfl wr.heap.size 9 ii _ 1 16 Tryz.underlying25 hii hz hsz hby rfl (by omega) v5 (0 + tt.length) ([] ++ strV tt) (by simp [Act.eval, Act.put]) HO5.out ⟨bx, ox, none⟩ (pk.length - ss.length) 0 (strV (pk.drop ss.length)) (by simp [Act.eval, Act.put]; omega) (by rw [strV_length, List.length_drop]; omega) (HSG.out w5 b5) (strV_one _) (by unfold maxLen; omega) (by omega) (by have := b5.size; show wr.heap.size ≤ w5.heap.size; exact this) ?_
              intro v6 w6 hown6 hgr6
              obtain ⟨b9, c8, rfl, q1, q2, q3, hst6⟩ := row_got (ss := np) hown6 (by omega) (by rw [← HNP.out, List.nil_append, strV_append]) (by rw [HNL.out]; omega)
              have b6 := b5.trans (below_own HO5.out hgr6 (Nat.le_refl _) (by have := b5.size; exact this))
              refine hK.out _ _ (kp (wA := w6) b6) (fun hHeld2 => ?_)
              clear hown6 hgr6
              clear hK K hHeld
              have hHeld := hHeld2
              clear hHeld2
              simp only [List.setIfInBounds_toArray, List.set_cons_succ, List.set_cons_zero]
              refine wpAnyH_take (i := 12) (v := ?_) rfl (by kernel_rfl) (by kernel_rfl) (by kernel_rfl) (fun _ _ _ h => h) (Or.inl ⟨by rfl, ?_⟩) (by assumption) ?_
              rotate_left
              · intro w hSw; (try dsimp only at hSw); go_simp; try with_reducible rfl
              simp only [Act.put, List.getElem_toArray, List.getElem_cons_succ, List.getElem_cons_zero, List.setIfInBounds_toArray, List.set_cons_succ, List.set_cons_zero]
              refine wpAnyH_done (by kernel_rfl) ?_ _
              clear hHeld
              have b6r : Below wr.heap.size wr w6 := (belowDF (Below.refl wr.heap.size wr)).trans b6
              have c6 := hbe.trans (b6r.mono zr)
              have HF14 := hide (findRes_any (some ⟨gx, 0, none⟩) X cx0 w4.heap.size (some ⟨b9, 0, none⟩) np c8 w6.heap.size w6 (HX4.out.below c6 (Nat.le_refl _)) hst6 hxm hnm c6.size (Nat.le_refl _))
              rw [hf1] at HF14
              clear hst6 HO5 hT4 q1 q2 q3 b5 k4 b6 HTQ HSF kp
              go_wp2_with fail
              refine HF14.out.mono ?_
              rintro e w7 ⟨rfl, b7⟩
              have b7r := b6r.trans (b7.mono b6r.size)
              have c7 := hbe.trans (b7r.mono zr)
              have m0 : w7.cell? ⟨gl, k * 5, none⟩ = some (.slice (some ⟨bx, ox, none⟩) pk.length ss.length) := (b7r.cell (p := ⟨gl, k * 5, none⟩) hglr).trans HLC.out.1
              have HF15 := hide (findRes_any (some ⟨gx, 0, none⟩) X cx0 w4.heap.size (some ⟨bx, ox, none⟩) pk ss.length w4.heap.size w7 (HX4.out.below c7 (Nat.le_refl _)) (hph.below b7r zr) hxm hkm c7.size c7.size)
              rw [hf2] at HF15
              clear b7 HF14 c6 b6r
              go_wp2_with fail
              refine HF15.out.mono ?_
              rintro e w9 ⟨rfl, b8⟩
              have b9r := b7r.trans (b8.mono b7r.size)
              have C9 := hide (hbe.trans (b9r.mono zr))
              have z9 := b9r.size
              clear m0 b8 HF15 b7r c7
              have hgx9 : gx < w9.heap.size := by omega
              have hgl9 : gl < w9.heap.size := by omega
              have BD9 : Below w9.heap.size w9 w9.drew := belowDF (Below.refl w9.heap.size w9)
              have HSC := hide (fun W (hb : Below w9.heap.size w9 W) => show W.cell? ⟨gx, i1 * 5, none⟩ = some (.slice pa1 np.length pc1) ∧ W.cell? ⟨gx, i1 * 5 + 1, none⟩ = some (.bool ck) ∧ W.cell? ⟨gx, i1 * 5 + 2, none⟩ = some (.string bk) ∧ W.cell? ⟨gx, i1 * 5 + 3, none⟩ = some (.int .i64 88) ∧ W.cell? ⟨gx, i1 * 5 + 4, none⟩ = some (.slice qa1 qk.length qc1) ∧ W.cell? ⟨gx, j1 * 5, none⟩ = some (.slice pa2 pk.length pc2) ∧ W.cell? ⟨gx, j1 * 5 + 1, none⟩ = some (.bool ck) ∧ W.cell? ⟨gx, j1 * 5 + 2, none⟩ = some (.string bk) ∧ W.cell? ⟨gx, j1 * 5 + 3, none⟩ = some (.int .i64 vk) ∧ W.cell? ⟨gx, j1 * 5 + 4, none⟩ = some (.slice qa2 qk.length qc2) ∧ W.cell? ⟨gl, k * 5, none⟩ = some (.slice (some ⟨bx, ox, none⟩) pk.length ss.length) ∧ W.cell? ⟨gl, k * 5 + 1, none⟩ = some (.bool ck) ∧ W.cell? ⟨gl, k * 5 + 2, none⟩ = some (.string bk) ∧ W.cell? ⟨gl, k * 5 + 3, none⟩ = some (.int .i64 vk) ∧ W.cell? ⟨gl, k * 5 + 4, none⟩ = some (.slice qa qk.length qc) from by
                obtain ⟨n0, n1, n2, n3, n4⟩ := HNC.out
                obtain ⟨o0, o1, o2, o3, o4⟩ := HOC.out
                obtain ⟨l0, l1, l2, l3, l4⟩ := HLC.out
                have kx : ∀ (o : Nat) (v : Value), wr.cell? ⟨gx, o, none⟩ = some v → W.cell? ⟨gx, o, none⟩ = some v := fun o v h => (hb.cell (p := ⟨gx, o, none⟩) hgx9).trans ((b9r.cell (p := ⟨gx, o, none⟩) hgxr).trans h)
                have kl : ∀ (o : Nat) (v : Value), wr.cell? ⟨gl, o, none⟩ = some v → W.cell? ⟨gl, o, none⟩ = some v := fun o v h => (hb.cell (p := ⟨gl, o, none⟩) hgl9).trans ((b9r.cell (p := ⟨gl, o, none⟩) hglr).trans h)
                exact ⟨kx _ _ n0, kx _ _ n1, kx _ _ n2, kx _ _ n3, kx _ _ n4, kx _ _ o0, kx _ _ o1, kx _ _ o2, kx _ _ o3, kx _ _ o4, kl _ _ l0, kl _ _ l1, kl _ _ l2, kl _ _ l3, kl _ _ l4⟩)
              have HSP := hide (fun W (hb : Below w9.heap.size w9 W) => sameProps_same qa1 qa qk qc1 qc w4.heap.size w4.heap.size W (HIN1.out.below (b9r.trans (hb.mono z9)) zr).qh (HIN.out.below (b9r.trans (hb.mono z9)) zr).qh hqkm)
              have HSR := hide (fun W (hb : Below w9.heap.size w9 W) => sameRes_same ⟨pk, ck, bk, vk, qk⟩ pa2 pc2 qa2 qc2 (some ⟨bx, ox, none⟩) ss.length qa qc w4.heap.size w4.heap.size W (HIN2.out.below (b9r.trans (hb.mono z9)) zr) (HIN.out.below (b9r.trans (hb.mono z9)) zr) (Nat.le_trans C9.out.size hb.size) (Nat.le_trans C9.out.size hb.size))
              clear HIN HIN1 HIN2 HNC HOC HLC
              go_wp2
              refine wp_region_held_drew (S := (fun W => W.cell? ⟨gx, i1 * 5, none⟩ = some (.slice pa1 np.length pc1) ∧ W.cell? ⟨gx, i1 * 5 + 1, none⟩ = some (.bool ck) ∧ W.cell? ⟨gx, i1 * 5 + 2, none⟩ = some (.string bk) ∧ W.cell? ⟨gx, i1 * 5 + 3, none⟩ = some (.int .i64 88) ∧ W.cell? ⟨gx, i1 * 5 + 4, none⟩ = some (.slice qa1 qk.length qc1) ∧ W.cell? ⟨gx, j1 * 5, none⟩ = some (.slice pa2 pk.length pc2) ∧ W.cell? ⟨gx, j1 * 5 + 1, none⟩ = some (.bool ck) ∧ W.cell? ⟨gx, j1 * 5 + 2, none⟩ = some (.string bk) ∧ W.cell? ⟨gx, j1 * 5 + 3, none⟩ = some (.int .i64 vk) ∧ W.cell? ⟨gx, j1 * 5 + 4, none⟩ = some (.slice qa2 qk.length qc2) ∧ W.cell? ⟨gl, k * 5, none⟩ = some (.slice (some ⟨bx, ox, none⟩) pk.length ss.length) ∧ W.cell? ⟨gl, k * 5 + 1, none⟩ = some (.bool ck) ∧ W.cell? ⟨gl, k * 5 + 2, none⟩ = some (.string bk) ∧ W.cell? ⟨gl, k * 5 + 3, none⟩ = some (.int .i64 vk) ∧ W.cell? ⟨gl, k * 5 + 4, none⟩ = some (.slice qa qk.length qc))) (by kernel_rfl) (HSC.out w9.drew BD9) (fun hHeld => ?_)
              simp only [List.size_toArray, List.length_cons, List.length_nil, Nat.reduceAdd, Array.replicate_succ, Array.replicate_zero, List.push_toArray, List.nil_append, List.cons_append, List.append_eq]
              refine wpAnyH_take (i := 0) (v := ?_) rfl (by kernel_rfl) (by kernel_rfl) (by kernel_rfl) (fun _ _ _ h => h) (Or.inl ⟨by rfl, ?_⟩) (by assumption) ?_
              rotate_left
              · intro w hSw; (try dsimp only at hSw); go_simp; try with_reducible rfl
              simp only [Act.put, List.getElem_toArray, List.getElem_cons_zero, List.setIfInBounds_toArray, List.set_cons_zero]
              refine wpAnyH_take (i := 1) (v := ?_) rfl (by kernel_rfl) (by kernel_rfl) (by kernel_rfl) (fun _ _ _ h => h) (Or.inl ⟨by rfl, ?_⟩) (by assumption) ?_
              rotate_left
              · intro w hSw; (try dsimp only at hSw); go_simp; try with_reducible rfl
              simp only [Act.put, List.getElem_toArray, List.getElem_cons_succ, List.getElem_cons_zero, List.setIfInBounds_toArray, List.set_cons_succ, List.set_cons_zero]
              refine wpAnyH_take (i := 2) (v := .bool false) rfl (by kernel_rfl) (by kernel_rfl) (by kernel_rfl) (fun _ _ _ h => h) (Or.inl ⟨by rfl, ?_⟩) (by assumption) ?_
              · intro w hSw; (try dsimp only at hSw); go_simp
              simp only [Act.put, List.getElem_toArray, List.getElem_cons_succ, List.getElem_cons_zero, List.setIfInBounds_toArray, List.set_cons_succ, List.set_cons_zero]
              refine wpAnyH_take (i := 3) (v := ?_) rfl (by kernel_rfl) (by kernel_rfl) (by kernel_rfl) (fun _ _ _ h => h) (Or.inl ⟨by rfl, ?_⟩) (by assumption) ?_
              rotate_left
              · intro w hSw; (try dsimp only at hSw); go_simp; try with_reducible rfl
              simp only [Act.put, List.getElem_toArray, List.getElem_cons_succ, List.getElem_cons_zero, List.setIfInBounds_toArray, List.set_cons_succ, List.set_cons_zero]
              refine wpAnyH_take (i := 4) (v := ?_) rfl (by kernel_rfl) (by kernel_rfl) (by kernel_rfl) (fun _ _ _ h => h) (Or.inl ⟨by rfl, ?_⟩) (by assumption) ?_
              rotate_left
              · intro w hSw; (try dsimp only at hSw); go_simp; try with_reducible rfl
              simp only [Act.put, List.getElem_toArray, List.getElem_cons_succ, List.getElem_cons_zero, List.setIfInBounds_toArray, List.set_cons_succ, List.set_cons_zero]
              refine wpAnyH_take (i := 5) (v := ?_) rfl (by kernel_rfl) (by kernel_rfl) (by kernel_rfl) (fun _ _ _ h => h) (Or.inl ⟨by rfl, ?_⟩) (by assumption) ?_
              rotate_left
              · intro w hSw; (try dsimp only at hSw); go_simp; try with_reducible rfl
              simp only [Act.put, List.getElem_toArray, List.getElem_cons_succ, List.getElem_cons_zero, List.setIfInBounds_toArray, List.set_cons_succ, List.set_cons_zero]
              refine wpAnyH_take (i := 6) (v := .bool false) rfl (by kernel_rfl) (by kernel_rfl) (by kernel_rfl) (fun _ _ _ h => h) (Or.inl ⟨by rfl, ?_⟩) (by assumption) ?_
              · intro w hSw; (try dsimp only at hSw); go_simp
              simp only [Act.put, List.getElem_toArray, List.getElem_cons_succ, List.getElem_cons_zero, List.setIfInBounds_toArray, List.set_cons_succ, List.set_cons_zero]
              refine wpAnyH_take (i := 7) (v := ?_) rfl (by kernel_rfl) (by kernel_rfl) (by kernel_rfl) (fun _ _ _ h => h) (Or.inl ⟨by rfl, ?_⟩) (by assumption) ?_
              rotate_left
              · intro w hSw; (try dsimp only at hSw); go_simp; try with_reducible rfl
              simp only [Act.put, List.getElem_toArray, List.getElem_cons_succ, List.getElem_cons_zero, List.setIfInBounds_toArray, List.set_cons_succ, List.set_cons_zero]
              refine wpAnyH_take (i := 8) (v := ?_) rfl (by kernel_rfl) (by kernel_rfl) (by kernel_rfl) (fun _ _ _ h => h) (Or.inl ⟨by rfl, ?_⟩) (by assumption) ?_
              rotate_left
              · intro w hSw; (try dsimp only at hSw); go_simp; try with_reducible rfl
              simp only [Act.put, List.getElem_toArray, List.getElem_cons_succ, List.getElem_cons_zero, List.setIfInBounds_toArray, List.set_cons_succ, List.set_cons_zero]
              refine wpAnyH_take (i := 9) (v := ?_) rfl (by kernel_rfl) (by kernel_rfl) (by kernel_rfl) (fun _ _ _ h => h) (Or.inl ⟨by rfl, ?_⟩) (by assumption) ?_
              rotate_left
              · intro w hSw; (try dsimp only at hSw); go_simp; try with_reducible rfl
              simp only [Act.put, List.getElem_toArray, List.getElem_cons_succ, List.getElem_cons_zero, List.setIfInBounds_toArray, List.set_cons_succ, List.set_cons_zero]
              refine wpAnyH_take (i := 10) (v := ?_) rfl (by kernel_rfl) (by kernel_rfl) (by kernel_rfl) (fun _ _ _ h => h) (Or.inl ⟨by rfl, ?_⟩) (by assumption) ?_
              rotate_left
              · intro w hSw; (try dsimp only at hSw); go_simp; try with_reducible rfl
              simp only [Act.put, List.getElem_toArray, List.getElem_cons_succ, List.getElem_cons_zero, List.setIfInBounds_toArray, List.set_cons_succ, List.set_cons_zero]
              refine wpAnyH_take (i := 11) (v := ?_) rfl (by kernel_rfl) (by kernel_rfl) (by kernel_rfl) (fun _ _ _ h => h) (Or.inl ⟨by rfl, ?_⟩) (by assumption) ?_
              rotate_left
              · intro w hSw; (try dsimp only at hSw); go_simp; try with_reducible rfl
              simp only [Act.put, List.getElem_toArray, List.getElem_cons_succ, List.getElem_cons_zero, List.setIfInBounds_toArray, List.set_cons_succ, List.set_cons_zero]
              refine wpAnyH_take (i := 12) (v := ?_) rfl (by kernel_rfl) (by kernel_rfl) (by kernel_rfl) (fun _ _ _ h => h) (Or.inl ⟨by rfl, ?_⟩) (by assumption) ?_
              rotate_left
              · intro w hSw; (try dsimp only at hSw); go_simp; try with_reducible rfl
              simp only [Act.put, List.getElem_toArray, List.getElem_cons_succ, List.getElem_cons_zero, List.setIfInBounds_toArray, List.set_cons_succ, List.set_cons_zero]
              refine wpAnyH_take (i := 13) (v := ?_) rfl (by kernel_rfl) (by kernel_rfl) (by kernel_rfl) (fun _ _ _ h => h) (Or.inl ⟨by rfl, ?_⟩) (by assumption) ?_
              rotate_left
              · intro w hSw; (try dsimp only at hSw); go_simp; try with_reducible rfl
              simp only [Act.put, List.getElem_toArray, List.getElem_cons_succ, List.getElem_cons_zero, List.setIfInBounds_toArray, List.set_cons_succ, List.set_cons_zero]
              refine wpAnyH_take (i := 14) (v := ?_) rfl (by kernel_rfl) (by kernel_rfl) (by kernel_rfl) (fun _ _ _ h => h) (Or.inl ⟨by rfl, ?_⟩) (by assumption) ?_
              rotate_left
              · intro w hSw; (try dsimp only at hSw); go_simp; try with_reducible rfl
              simp only [Act.put, List.getElem_toArray, List.getElem_cons_succ, List.getElem_cons_zero, List.setIfInBounds_toArray, List.set_cons_succ, List.set_cons_zero]
              refine wpAnyH_take (i := 15) (v := ?_) rfl (by kernel_rfl) (by kernel_rfl) (by kernel_rfl) (fun _ _ _ h => h) (Or.inl ⟨by rfl, ?_⟩) (by assumption) ?_
              rotate_left
              · intro w hSw; (try dsimp only at hSw); go_simp; try with_reducible rfl
              simp only [Act.put, List.getElem_toArray, List.getElem_cons_succ, List.getElem_cons_zero, List.setIfInBounds_toArray, List.set_cons_succ, List.set_cons_zero]
              refine wpAnyH_take (i := 16) (v := ?_) rfl (by kernel_rfl) (by kernel_rfl) (by kernel_rfl) (fun _ _ _ h => h) (Or.inl ⟨by rfl, ?_⟩) (by assumption) ?_
              rotate_left
              · intro w hSw; (try dsimp only at hSw); go_simp; try with_reducible rfl
              simp only [Act.put, List.getElem_toArray, List.getElem_cons_succ, List.getElem_cons_zero, List.setIfInBounds_toArray, List.set_cons_succ, List.set_cons_zero]
              refine wpAnyH_take (i := 17) (v := ?_) rfl (by kernel_rfl) (by kernel_rfl) (by kernel_rfl) (fun _ _ _ h => h) (Or.inl ⟨by rfl, ?_⟩) (by assumption) ?_
              rotate_left
              · intro w hSw; (try dsimp only at hSw); go_simp; try with_reducible rfl
              simp only [Act.put, List.getElem_toArray, List.getElem_cons_succ, List.getElem_cons_zero, List.setIfInBounds_toArray, List.set_cons_succ, List.set_cons_zero]
              refine wpAnyH_take (i := 18) (v := ?_) rfl (by kernel_rfl) (by kernel_rfl) (by kernel_rfl) (fun _ _ _ h => h) (Or.inl ⟨by rfl, ?_⟩) (by assumption) ?_
              rotate_left
              · intro w hSw; (try dsimp only at hSw); go_simp; try with_reducible rfl
              simp only [Act.put, List.getElem_toArray, List.getElem_cons_succ, List.getElem_cons_zero, List.setIfInBounds_toArray, List.set_cons_succ, List.set_cons_zero]
              refine wpAnyH_take (i := 19) (v := .bool false) rfl (by kernel_rfl) (by kernel_rfl) (by kernel_rfl) (fun _ _ _ h => h) (Or.inl ⟨by rfl, ?_⟩) (by assumption) ?_
              · intro w hSw; (try dsimp only at hSw); go_simp
              simp only [Act.put, List.getElem_toArray, List.getElem_cons_succ, List.getElem_cons_zero, List.setIfInBounds_toArray, List.set_cons_succ, List.set_cons_zero]
              refine wpAnyH_take (i := 20) (v := ?_) rfl (by kernel_rfl) (by kernel_rfl) (by kernel_rfl) (fun _ _ _ h => h) (Or.inl ⟨by rfl, ?_⟩) (by assumption) ?_
              rotate_left
              · intro w hSw; (try dsimp only at hSw); go_simp; try with_reducible rfl
              simp only [Act.put, List.getElem_toArray, List.getElem_cons_succ, List.getElem_cons_zero, List.setIfInBounds_toArray, List.set_cons_succ, List.set_cons_zero]
              refine wpAnyH_take (i := 21) (v := ?_) rfl (by kernel_rfl) (by kernel_rfl) (by kernel_rfl) (fun _ _ _ h => h) (Or.inl ⟨by rfl, ?_⟩) (by assumption) ?_
              rotate_left
              · intro w hSw; (try dsimp only at hSw); go_simp; try with_reducible rfl
              simp only [Act.put, List.getElem_toArray, List.getElem_cons_succ, List.getElem_cons_zero, List.setIfInBounds_toArray, List.set_cons_succ, List.set_cons_zero]
              refine wpAnyH_take (i := 22) (v := ?_) rfl (by kernel_rfl) (by kernel_rfl) (by kernel_rfl) (fun _ _ _ h => h) (Or.inl ⟨by rfl, ?_⟩) (by assumption) ?_
              rotate_left
              · intro w hSw; (try dsimp only at hSw); go_simp; try with_reducible rfl
              simp only [Act.put, List.getElem_toArray, List.getElem_cons_succ, List.getElem_cons_zero, List.setIfInBounds_toArray, List.set_cons_succ, List.set_cons_zero]
              refine wpAnyH_take (i := 23) (v := ?_) rfl (by kernel_rfl) (by kernel_rfl) (by kernel_rfl) (fun _ _ _ h => h) (Or.inl ⟨by rfl, ?_⟩) (by assumption) ?_
              rotate_left
              · intro w hSw; (try dsimp only at hSw); go_simp; try with_reducible rfl
              simp only [Act.put, List.getElem_toArray, List.getElem_cons_succ, List.getElem_cons_zero, List.setIfInBounds_toArray, List.set_cons_succ, List.set_cons_zero]
              refine wpAnyH_take (i := 24) (v := ?_) rfl (by kernel_rfl) (by kernel_rfl) (by kernel_rfl) (fun _ _ _ h => h) (Or.inl ⟨by rfl, ?_⟩) (by assumption) ?_
              rotate_left
              · intro w hSw; (try dsimp only at hSw); go_simp; try with_reducible rfl
              simp only [Act.put, List.getElem_toArray, List.getElem_cons_succ, List.getElem_cons_zero, List.setIfInBounds_toArray, List.set_cons_succ, List.set_cons_zero]
              refine wpAnyH_take (i := 25) (v := ?_) rfl (by kernel_rfl) (by kernel_rfl) (by kernel_rfl) (fun _ _ _ h => h) (Or.inl ⟨by rfl, ?_⟩) (by assumption) ?_
              rotate_left
              · intro w hSw; (try dsimp only at hSw); go_simp; try with_reducible rfl
              simp only [Act.put, List.getElem_toArray, List.getElem_cons_succ, List.getElem_cons_zero, List.setIfInBounds_toArray, List.set_cons_succ, List.set_cons_zero]
              refine wpAnyH_take (i := 26) (v := ?_) rfl (by kernel_rfl) (by kernel_rfl) (by kernel_rfl) (fun _ _ _ h => h) (Or.inl ⟨by rfl, ?_⟩) (by assumption) ?_
              rotate_left
              · intro w hSw; (try dsimp only at hSw); go_simp; try with_reducible rfl
              simp only [Act.put, List.getElem_toArray, List.getElem_cons_succ, List.getElem_cons_zero, List.setIfInBounds_toArray, List.set_cons_succ, List.set_cons_zero]
              refine wpAnyH_take (i := 27) (v := ?_) rfl (by kernel_rfl) (by kernel_rfl) (by kernel_rfl) (fun _ _ _ h => h) (Or.inl ⟨by rfl, ?_⟩) (by assumption) ?_
              rotate_left
              · intro w hSw; (try dsimp only at hSw); go_simp; try with_reducible rfl
              simp only [Act.put, List.getElem_toArray, List.getElem_cons_succ, List.getElem_cons_zero, List.setIfInBounds_toArray, List.set_cons_succ, List.set_cons_zero]
              refine wpAnyH_take (i := 28) (v := ?_) rfl (by kernel_rfl) (by kernel_rfl) (by kernel_rfl) (fun _ _ _ h => h) (Or.inl ⟨by rfl, ?_⟩) (by assumption) ?_
              rotate_left
              · intro w hSw; (try dsimp only at hSw); go_simp; try with_reducible rfl
              simp only [Act.put, List.getElem_toArray, List.getElem_cons_succ, List.getElem_cons_zero, List.setIfInBounds_toArray, List.set_cons_succ, List.set_cons_zero]
              refine wpAnyH_take (i := 29) (v := ?_) rfl (by kernel_rfl) (by kernel_rfl) (by kernel_rfl) (fun _ _ _ h => h) (Or.inl ⟨by rfl, ?_⟩) (by assumption) ?_
              rotate_left
              · intro w hSw; (try dsimp only at hSw); go_simp; try with_reducible rfl
              simp only [Act.put, List.getElem_toArray, List.getElem_cons_succ, List.getElem_cons_zero, List.setIfInBounds_toArray, List.set_cons_succ, List.set_cons_zero]
              refine wpAnyH_take (i := 30) (v := ?_) rfl (by kernel_rfl) (by kernel_rfl) (by kernel_rfl) (fun _ _ _ h => h) (Or.inl ⟨by rfl, ?_⟩) (by assumption) ?_
              rotate_left
              · intro w hSw; (try dsimp only at hSw); go_simp; try with_reducible rfl
              simp only [Act.put, List.getElem_toArray, List.getElem_cons_succ, List.getElem_cons_zero, List.setIfInBounds_toArray, List.set_cons_succ, List.set_cons_zero]
              refine wpAnyH_take (i := 31) (v := ?_) rfl (by kernel_rfl) (by kernel_rfl) (by kernel_rfl) (fun _ _ _ h => h) (Or.inl ⟨by rfl, ?_⟩) (by assumption) ?_
              rotate_left
              · intro w hSw; (try dsimp only at hSw); go_simp; try with_reducible rfl
              simp only [Act.put, List.getElem_toArray, List.getElem_cons_succ, List.getElem_cons_zero, List.setIfInBounds_toArray, List.set_cons_succ, List.set_cons_zero]
              refine wpAnyH_take (i := 32) (v := .bool false) rfl (by kernel_rfl) (by kernel_rfl) (by kernel_rfl) (fun _ _ _ h => h) (Or.inl ⟨by rfl, ?_⟩) (by assumption) ?_
              · intro w hSw; (try dsimp only at hSw); go_simp
              simp only [Act.put, List.getElem_toArray, List.getElem_cons_succ, List.getElem_cons_zero, List.setIfInBounds_toArray, List.set_cons_succ, List.set_cons_zero]
              refine wpAnyH_take (i := 33) (v := ?_) rfl (by kernel_rfl) (by kernel_rfl) (by kernel_rfl) (fun _ _ _ h => h) (Or.inl ⟨by rfl, ?_⟩) (by assumption) ?_
              rotate_left
              · intro w hSw; (try dsimp only at hSw); go_simp; try with_reducible rfl
              simp only [Act.put, List.getElem_toArray, List.getElem_cons_succ, List.getElem_cons_zero, List.setIfInBounds_toArray, List.set_cons_succ, List.set_cons_zero]
              refine wpAnyH_take (i := 34) (v := ?_) rfl (by kernel_rfl) (by kernel_rfl) (by kernel_rfl) (fun _ _ _ h => h) (Or.inl ⟨by rfl, ?_⟩) (by assumption) ?_
              rotate_left
              · intro w hSw; (try dsimp only at hSw); go_simp; try with_reducible rfl
              simp only [Act.put, List.getElem_toArray, List.getElem_cons_succ, List.getElem_cons_zero, List.setIfInBounds_toArray, List.set_cons_succ, List.set_cons_zero]
              refine wpAnyH_take (i := 35) (v := ?_) rfl (by kernel_rfl) (by kernel_rfl) (by kernel_rfl) (fun _ _ _ h => h) (Or.inl ⟨by rfl, ?_⟩) (by assumption) ?_
              rotate_left
              · intro w hSw; (try dsimp only at hSw); go_simp; try with_reducible rfl
              simp only [Act.put, List.getElem_toArray, List.getElem_cons_succ, List.getElem_cons_zero, List.setIfInBounds_toArray, List.set_cons_succ, List.set_cons_zero]
              refine wpAnyH_take (i := 36) (v := ?_) rfl (by kernel_rfl) (by kernel_rfl) (by kernel_rfl) (fun _ _ _ h => h) (Or.inl ⟨by rfl, ?_⟩) (by assumption) ?_
              rotate_left
              · intro w hSw; (try dsimp only at hSw); go_simp; try with_reducible rfl
              simp only [Act.put, List.getElem_toArray, List.getElem_cons_succ, List.getElem_cons_zero, List.setIfInBounds_toArray, List.set_cons_succ, List.set_cons_zero]
              refine wpAnyH_take (i := 37) (v := ?_) rfl (by kernel_rfl) (by kernel_rfl) (by kernel_rfl) (fun _ _ _ h => h) (Or.inl ⟨by rfl, ?_⟩) (by assumption) ?_
              rotate_left
              · intro w hSw; (try dsimp only at hSw); go_simp; try with_reducible rfl
              simp only [Act.put, List.getElem_toArray, List.getElem_cons_succ, List.getElem_cons_zero, List.setIfInBounds_toArray, List.set_cons_succ, List.set_cons_zero]
              refine wpAnyH_take (i := 38) (v := ?_) rfl (by kernel_rfl) (by kernel_rfl) (by kernel_rfl) (fun _ _ _ h => h) (Or.inl ⟨by rfl, ?_⟩) (by assumption) ?_
              rotate_left
              · intro w hSw; (try dsimp only at hSw); go_simp; try with_reducible rfl
              simp only [Act.put, List.getElem_toArray, List.getElem_cons_succ, List.getElem_cons_zero, List.setIfInBounds_toArray, List.set_cons_succ, List.set_cons_zero]
              refine wpAnyH_take (i := 39) (v := ?_) rfl (by kernel_rfl) (by kernel_rfl) (by kernel_rfl) (fun _ _ _ h => h) (Or.inl ⟨by rfl, ?_⟩) (by assumption) ?_
              rotate_left
              · intro w hSw; (try dsimp only at hSw); go_simp; try with_reducible rfl
              simp only [Act.put, List.getElem_toArray, List.getElem_cons_succ, List.getElem_cons_zero, List.setIfInBounds_toArray, List.set_cons_succ, List.set_cons_zero]
              refine wpAnyH_take (i := 40) (v := .bool false) rfl (by kernel_rfl) (by kernel_rfl) (by kernel_rfl) (fun _ _ _ h => h) (Or.inl ⟨by rfl, ?_⟩) (by assumption) ?_
              · intro w hSw; (try dsimp only at hSw); go_simp
              simp only [Act.put, List.getElem_toArray, List.getElem_cons_succ, List.getElem_cons_zero, List.setIfInBounds_toArray, List.set_cons_succ, List.set_cons_zero]
              refine wpAnyH_take (i := 41) (v := ?_) rfl (by kernel_rfl) (by kernel_rfl) (by kernel_rfl) (fun _ _ _ h => h) (Or.inl ⟨by rfl, ?_⟩) (by assumption) ?_
              rotate_left
              · intro w hSw; (try dsimp only at hSw); go_simp; try with_reducible rfl
              simp only [Act.put, List.getElem_toArray, List.getElem_cons_succ, List.getElem_cons_zero, List.setIfInBounds_toArray, List.set_cons_succ, List.set_cons_zero]
              refine wpAnyH_take (i := 42) (v := ?_) rfl (by kernel_rfl) (by kernel_rfl) (by kernel_rfl) (fun _ _ _ h => h) (Or.inl ⟨by rfl, ?_⟩) (by assumption) ?_
              rotate_left
              · intro w hSw; (try dsimp only at hSw); go_simp; try with_reducible rfl
              simp only [Act.put, List.getElem_toArray, List.getElem_cons_succ, List.getElem_cons_zero, List.setIfInBounds_toArray, List.set_cons_succ, List.set_cons_zero]
              refine wpAnyH_take (i := 43) (v := ?_) rfl (by kernel_rfl) (by kernel_rfl) (by kernel_rfl) (fun _ _ _ h => h) (Or.inl ⟨by rfl, ?_⟩) (by assumption) ?_
              rotate_left
              · intro w hSw; (try dsimp only at hSw); go_simp; try with_reducible rfl
              simp only [Act.put, List.getElem_toArray, List.getElem_cons_succ, List.getElem_cons_zero, List.setIfInBounds_toArray, List.set_cons_succ, List.set_cons_zero]
              refine wpAnyH_take (i := 44) (v := ?_) rfl (by kernel_rfl) (by kernel_rfl) (by kernel_rfl) (fun _ _ _ h => h) (Or.inl ⟨by rfl, ?_⟩) (by assumption) ?_
              rotate_left
              · intro w hSw; (try dsimp only at hSw); go_simp; try with_reducible rfl
              simp only [Act.put, List.getElem_toArray, List.getElem_cons_succ, List.getElem_cons_zero, List.setIfInBounds_toArray, List.set_cons_succ, List.set_cons_zero]
              refine wpAnyH_take (i := 45) (v := ?_) rfl (by kernel_rfl) (by kernel_rfl) (by kernel_rfl) (fun _ _ _ h => h) (Or.inl ⟨by rfl, ?_⟩) (by assumption) ?_
              rotate_left
              · intro w hSw; (try dsimp only at hSw); go_simp; try with_reducible rfl
              simp only [Act.put, List.getElem_toArray, List.getElem_cons_succ, List.getElem_cons_zero, List.setIfInBounds_toArray, List.set_cons_succ, List.set_cons_zero]
              refine wpAnyH_take (i := 46) (v := ?_) rfl (by kernel_rfl) (by kernel_rfl) (by kernel_rfl) (fun _ _ _ h => h) (Or.inl ⟨by rfl, ?_⟩) (by assumption) ?_
              rotate_left
              · intro w hSw; (try dsimp only at hSw); go_simp; try with_reducible rfl
              simp only [Act.put, List.getElem_toArray, List.getElem_cons_succ, List.getElem_cons_zero, List.setIfInBounds_toArray, List.set_cons_succ, List.set_cons_zero]
              refine wpAnyH_take (i := 47) (v := ?_) rfl (by kernel_rfl) (by kernel_rfl) (by kernel_rfl) (fun _ _ _ h => h) (Or.inl ⟨by rfl, ?_⟩) (by assumption) ?_
              rotate_left
              · intro w hSw; (try dsimp only at hSw); go_simp; try with_reducible rfl
              simp only [Act.put, List.getElem_toArray, List.getElem_cons_succ, List.getElem_cons_zero, List.setIfInBounds_toArray, List.set_cons_succ, List.set_cons_zero]
              refine wpAnyH_take (i := 48) (v := ?_) rfl (by kernel_rfl) (by kernel_rfl) (by kernel_rfl) (fun _ _ _ h => h) (Or.inl ⟨by rfl, ?_⟩) (by assumption) ?_
              rotate_left
              · intro w hSw; (try dsimp only at hSw); go_simp; try with_reducible rfl
              simp only [Act.put, List.getElem_toArray, List.getElem_cons_succ, List.getElem_cons_zero, List.setIfInBounds_toArray, List.set_cons_succ, List.set_cons_zero]
              refine wpAnyH_take (i := 49) (v := ?_) rfl (by kernel_rfl) (by kernel_rfl) (by kernel_rfl) (fun _ _ _ h => h) (Or.inl ⟨by rfl, ?_⟩) (by assumption) ?_
              rotate_left
              · intro w hSw; (try dsimp only at hSw); go_simp; try with_reducible rfl
              simp only [Act.put, List.getElem_toArray, List.getElem_cons_succ, List.getElem_cons_zero, List.setIfInBounds_toArray, List.set_cons_succ, List.set_cons_zero]
              refine wpAnyH_take (i := 50) (v := ?_) rfl (by kernel_rfl) (by kernel_rfl) (by kernel_rfl) (fun _ _ _ h => h) (Or.inl ⟨by rfl, ?_⟩) (by assumption) ?_
              rotate_left
              · intro w hSw; (try dsimp only at hSw); go_simp; try with_reducible rfl
              simp only [Act.put, List.getElem_toArray, List.getElem_cons_succ, List.getElem_cons_zero, List.setIfInBounds_toArray, List.set_cons_succ, List.set_cons_zero]
              refine wpAnyH_ready (rs := [51]) (by kernel_rfl) (by simp) ?_
              refine AllReadyH.cons rfl (fun K hK => ?_) AllReadyH.nil
              go_simp
              refine (HSP.out _ BD9).mono ?_
              rintro e w10 ⟨rfl, b10'⟩
              have c10 := hide (BD9.trans (b10' w9.drew.heap.size))
              refine hK.out _ _ (HSC.out w10 c10.out) (fun hHeld2 => ?_)
              clear hK K hHeld
              have hHeld := hHeld2
              clear hHeld2
              simp only [List.setIfInBounds_toArray, List.set_cons_succ, List.set_cons_zero]
              refine wpAnyH_take (i := 52) (v := ?_) rfl (by kernel_rfl) (by kernel_rfl) (by kernel_rfl) (fun _ _ _ h => h) (Or.inl ⟨by rfl, ?_⟩) (by assumption) ?_
              rotate_left
              · intro w hSw; (try dsimp only at hSw); go_simp; try with_reducible rfl
              simp only [Act.put, List.getElem_toArray, List.getElem_cons_succ, List.getElem_cons_zero, List.setIfInBounds_toArray, List.set_cons_succ, List.set_cons_zero]
              refine wpAnyH_take (i := 53) (v := ?_) rfl (by kernel_rfl) (by kernel_rfl) (by kernel_rfl) (fun _ _ _ h => h) (Or.inl ⟨by rfl, ?_⟩) (by assumption) ?_
              rotate_left
              · intro w hSw; (try dsimp only at hSw); go_simp; try with_reducible rfl
              simp only [Act.put, List.getElem_toArray, List.getElem_cons_succ, List.getElem_cons_zero, List.setIfInBounds_toArray, List.set_cons_succ, List.set_cons_zero]
              refine wpAnyH_take (i := 54) (v := .bool false) rfl (by kernel_rfl) (by kernel_rfl) (by kernel_rfl) (fun _ _ _ h => h) (Or.inl ⟨by rfl, ?_⟩) (by assumption) ?_
              · intro w hSw; (try dsimp only at hSw); go_simp
              simp only [Act.put, List.getElem_toArray, List.getElem_cons_succ, List.getElem_cons_zero, List.setIfInBounds_toArray, List.set_cons_succ, List.set_cons_zero]
              refine wpAnyH_take (i := 55) (v := ?_) rfl (by kernel_rfl) (by kernel_rfl) (by kernel_rfl) (fun _ _ _ h => h) (Or.inl ⟨by rfl, ?_⟩) (by assumption) ?_
              rotate_left
              · intro w hSw; (try dsimp only at hSw); go_simp; try with_reducible rfl
              simp only [Act.put, List.getElem_toArray, List.getElem_cons_succ, List.getElem_cons_zero, List.setIfInBounds_toArray, List.set_cons_succ, List.set_cons_zero]
              refine wpAnyH_take (i := 56) (v := ?_) rfl (by kernel_rfl) (by kernel_rfl) (by kernel_rfl) (fun _ _ _ h => h) (Or.inl ⟨by rfl, ?_⟩) (by assumption) ?_
              rotate_left
              · intro w hSw; (try dsimp only at hSw); go_simp; try with_reducible rfl
              simp only [Act.put, List.getElem_toArray, List.getElem_cons_succ, List.getElem_cons_zero, List.setIfInBounds_toArray, List.set_cons_succ, List.set_cons_zero]
              refine wpAnyH_take (i := 57) (v := ?_) rfl (by kernel_rfl) (by kernel_rfl) (by kernel_rfl) (fun _ _ _ h => h) (Or.inl ⟨by rfl, ?_⟩) (by assumption) ?_
              rotate_left
              · intro w hSw; (try dsimp only at hSw); go_simp; try with_reducible rfl
              simp only [Act.put, List.getElem_toArray, List.getElem_cons_succ, List.getElem_cons_zero, List.setIfInBounds_toArray, List.set_cons_succ, List.set_cons_zero]
              refine wpAnyH_take (i := 58) (v := ?_) rfl (by kernel_rfl) (by kernel_rfl) (by kernel_rfl) (fun _ _ _ h => h) (Or.inl ⟨by rfl, ?_⟩) (by assumption) ?_
              rotate_left
              · intro w hSw; (try dsimp only at hSw); go_simp; try with_reducible rfl
              simp only [Act.put, List.getElem_toArray, List.getElem_cons_succ, List.getElem_cons_zero, List.setIfInBounds_toArray, List.set_cons_succ, List.set_cons_zero]
              refine wpAnyH_take (i := 59) (v := ?_) rfl (by kernel_rfl) (by kernel_rfl) (by kernel_rfl) (fun _ _ _ h => h) (Or.inl ⟨by rfl, ?_⟩) (by assumption) ?_
              rotate_left
              · intro w hSw; (try dsimp only at hSw); go_simp; try with_reducible rfl
              simp only [Act.put, List.getElem_toArray, List.getElem_cons_succ, List.getElem_cons_zero, List.setIfInBounds_toArray, List.set_cons_succ, List.set_cons_zero]
              refine wpAnyH_take (i := 60) (v := ?_) rfl (by kernel_rfl) (by kernel_rfl) (by kernel_rfl) (fun _ _ _ h => h) (Or.inl ⟨by rfl, ?_⟩) (by assumption) ?_
              rotate_left
              · intro w hSw; (try dsimp only at hSw); go_simp; try with_reducible rfl
              simp only [Act.put, List.getElem_toArray, List.getElem_cons_succ, List.getElem_cons_zero, List.setIfInBounds_toArray, List.set_cons_succ, List.set_cons_zero]
              refine wpAnyH_take (i := 61) (v := ?_) rfl (by kernel_rfl) (by kernel_rfl) (by kernel_rfl) (fun _ _ _ h => h) (Or.inl ⟨by rfl, ?_⟩) (by assumption) ?_
              rotate_left
              · intro w hSw; (try dsimp only at hSw); go_simp; try with_reducible rfl
              simp only [Act.put, List.getElem_toArray, List.getElem_cons_succ, List.getElem_cons_zero, List.setIfInBounds_toArray, List.set_cons_succ, List.set_cons_zero]
              refine wpAnyH_take (i := 62) (v := ?_) rfl (by kernel_rfl) (by kernel_rfl) (by kernel_rfl) (fun _ _ _ h => h) (Or.inl ⟨by rfl, ?_⟩) (by assumption) ?_
              rotate_left
              · intro w hSw; (try dsimp only at hSw); go_simp; try with_reducible rfl
              simp only [Act.put, List.getElem_toArray, List.getElem_cons_succ, List.getElem_cons_zero, List.setIfInBounds_toArray, List.set_cons_succ, List.set_cons_zero]
              refine wpAnyH_ready (rs := [63]) (by kernel_rfl) (by simp) ?_
              refine AllReadyH.cons rfl (fun K hK => ?_) AllReadyH.nil
              go_simp
              refine (HSR.out w10 c10.out).mono ?_
              rintro e w11 ⟨rfl, b11⟩
              have c11 := hide (c10.out.trans (b11.mono c10.out.size))
              refine hK.out _ _ (HSC.out w11 c11.out) (fun hHeld2 => ?_)
              clear hK K hHeld
              have hHeld := hHeld2
              clear hHeld2
              simp only [List.setIfInBounds_toArray, List.set_cons_succ, List.set_cons_zero]
              refine wpAnyH_take (i := 64) (v := ?_) rfl (by kernel_rfl) (by kernel_rfl) (by kernel_rfl) (fun _ _ _ h => h) (Or.inl ⟨by rfl, ?_⟩) (by assumption) ?_
              rotate_left
              · intro w hSw; (try dsimp only at hSw); go_simp; try with_reducible rfl
              simp only [Act.put, List.getElem_toArray, List.getElem_cons_succ, List.getElem_cons_zero, List.setIfInBounds_toArray, List.set_cons_succ, List.set_cons_zero]
              refine wpAnyH_take (i := 65) (v := ?_) rfl (by kernel_rfl) (by kernel_rfl) (by kernel_rfl) (fun _ _ _ h => h) (Or.inl ⟨by rfl, ?_⟩) (by assumption) ?_
              rotate_left
              · intro w hSw; (try dsimp only at hSw); go_simp; try with_reducible rfl
              simp only [Act.put, List.getElem_toArray, List.getElem_cons_succ, List.getElem_cons_zero, List.setIfInBounds_toArray, List.set_cons_succ, List.set_cons_zero]
              refine wpAnyH_done (by kernel_rfl) ?_ _
              clear hHeld
              have HE11 := hide (C9.out.trans (c11.out.mono C9.out.size))
              go_wp2
              go_roundw
              case rel => exact ⟨k + 1, by omega, by go_num, HE11.out⟩
              case measure => simp [intOf]; omega
          · as_aux_lemma =>
              refine wp_region_held_drew (S := (fun W => W.cell? ⟨gl, k * 5, none⟩ = some (.slice (some ⟨bx, ox, none⟩) pk.length cx))) (by kernel_rfl) (kp (wA := wr.drew) (Below.refl _ _)) (fun hHeld => ?_)
              simp only [List.size_toArray, List.length_cons, List.length_nil, Nat.reduceAdd, Array.replicate_succ, Array.replicate_zero, List.push_toArray, List.nil_append, List.cons_append]
              refine wpAnyH_take (i := 1) (v := ?_) rfl (by kernel_rfl) (by kernel_rfl) (by kernel_rfl) (fun _ _ _ h => h) (Or.inl ⟨by rfl, ?_⟩) (by assumption) ?_
              rotate_left
              · intro w hSw; (try dsimp only at hSw); go_simp; try with_reducible rfl
              simp only [Act.put, List.getElem_toArray, List.getElem_cons_succ, List.getElem_cons_zero, List.setIfInBounds_toArray, List.set_cons_succ, List.set_cons_zero]
              refine wpAnyH_take (i := 3) (v := ?_) rfl (by kernel_rfl) (by kernel_rfl) (by kernel_rfl) (fun _ _ _ h => h) (Or.inl ⟨by rfl, ?_⟩) (by assumption) ?_
              rotate_left
              · intro w hSw; (try dsimp only at hSw); go_simp; try with_reducible rfl
              simp only [Act.put, List.getElem_toArray, List.getElem_cons_succ, List.getElem_cons_zero, List.setIfInBounds_toArray, List.set_cons_succ, List.set_cons_zero]
              refine wpAnyH_take (i := 4) (v := ?_) rfl (by kernel_rfl) (by kernel_rfl) (by kernel_rfl) (fun _ _ _ h => h) (Or.inl ⟨by rfl, ?_⟩) (by assumption) ?_
              rotate_left
              · intro w hSw; (try dsimp only at hSw); go_simp; try with_reducible rfl
              simp only [Act.put, List.getElem_toArray, List.getElem_cons_succ, List.getElem_cons_zero, List.setIfInBounds_toArray, List.set_cons_succ, List.set_cons_zero]
              refine wpAnyH_take (i := 5) (v := ?_) rfl (by kernel_rfl) (by kernel_rfl) (by kernel_rfl) (fun _ _ _ h => h) (Or.inl ⟨by rfl, ?_⟩) (by assumption) ?_
              rotate_left
              · intro w hSw; (try dsimp only at hSw); go_simp; try with_reducible rfl
              simp only [Act.put, List.getElem_toArray, List.getElem_cons_succ, List.getElem_cons_zero, List.setIfInBounds_toArray, List.set_cons_succ, List.set_cons_zero]
              refine wpAnyH_take (i := 6) (v := ?_) rfl (by kernel_rfl) (by kernel_rfl) (by kernel_rfl) (fun _ _ _ h => h) (Or.inl ⟨by rfl, ?_⟩) (by assumption) ?_
              rotate_left
              · intro w hSw; (try dsimp only at hSw); go_simp; try with_reducible rfl
              simp only [Act.put, List.getElem_toArray, List.getElem_cons_succ, List.getElem_cons_zero, List.setIfInBounds_toArray, List.set_cons_succ, List.set_cons_zero]
              refine wpAnyH_take (i := 7) (v := ?_) rfl (by kernel_rfl) (by kernel_rfl) (by kernel_rfl) (fun _ _ _ h => h) (Or.inl ⟨by rfl, ?_⟩) (by assumption) ?_
              rotate_left
              · intro w hSw; (try dsimp only at hSw); go_simp; try with_reducible rfl
              simp only [Act.put, List.getElem_toArray, List.getElem_cons_succ, List.getElem_cons_zero, List.setIfInBounds_toArray, List.set_cons_succ, List.set_cons_zero]
              refine wpAnyH_take (i := 8) (v := ?_) rfl (by kernel_rfl) (by kernel_rfl) (by kernel_rfl) (fun _ _ _ h => h) (Or.inl ⟨by rfl, ?_⟩) (by assumption) ?_
              rotate_left
              · intro w hSw; (try dsimp only at hSw); go_simp; try with_reducible rfl
              simp only [Act.put, List.getElem_toArray, List.getElem_cons_succ, List.getElem_cons_zero, List.setIfInBounds_toArray, List.set_cons_succ, List.set_cons_zero]
              refine wpAnyH_take (i := 9) (v := ?_) rfl (by kernel_rfl) (by kernel_rfl) (by kernel_rfl) (fun _ _ _ h => h) (Or.inl ⟨by rfl, ?_⟩) (by assumption) ?_
              rotate_left
              · intro w hSw; (try dsimp only at hSw); go_simp; try with_reducible rfl
              simp only [Act.put, List.getElem_toArray, List.getElem_cons_succ, List.getElem_cons_zero, List.setIfInBounds_toArray, List.set_cons_succ, List.set_cons_zero]
              refine wpAnyH_take (i := 10) (v := ?_) rfl (by kernel_rfl) (by kernel_rfl) (by kernel_rfl) (fun _ _ _ h => h) (Or.inl ⟨by rfl, ?_⟩) (by assumption) ?_
              rotate_left
              · intro w hSw; (try dsimp only at hSw); go_simp; try with_reducible rfl
              simp only [Act.put, List.getElem_toArray, List.getElem_cons_succ, List.getElem_cons_zero, List.setIfInBounds_toArray, List.set_cons_succ, List.set_cons_zero]
              refine wpAnyH_ready (rs := [0]) (by kernel_rfl) (by simp) ?_
              refine AllReadyH.cons rfl (fun K hK => ?_) AllReadyH.nil
              go_simp
              refine hK.out _ _ (kp (wA := _) ((Below.refl _ _).alloc (Nat.le_refl _) _)) (fun hHeld2 => ?_)
              have k4 := (Below.refl wr.drew.heap.size wr.drew).alloc (Nat.le_refl _) (Obj.cells #[] 9)
              have hT4 := hide (HTQ.out.below k4 (Nat.le_refl _))
              clear hK K hHeld
              have hHeld := hHeld2
              clear hHeld2
              simp only [List.setIfInBounds_toArray, List.set_cons_succ, List.set_cons_zero]
              refine wpAnyH_ready (rs := [2]) (by kernel_rfl) (by simp) ?_
              refine AllReadyH.cons rfl (fun K hK => ?_) AllReadyH.nil
              refine step_append_ownT rfl _ _ 25 rfl wr.heap.size 9 ii _ 1 16 Tryz.underlying25 hii hz hsz hby rfl (by omega) (.slice (some ⟨wr.heap.size, 0, none⟩) 0 0) 0 [] (by simp [Act.eval, Act.put]) (World.ownsRow_made wr.drew #[] 0 (Nat.le_refl _) (by decide) rfl) ⟨gq, 0, none⟩ tt.length cq (strV tt) (by simp [Act.eval, Act.put]) (by rw [strV_length]; omega) (strs_cells hT4.out) (strV_one _) (by unfold maxLen; omega) (by omega) (by simp) ?_
              intro v5 w5 hown5 hgr5
              have b5 := k4.trans (below_own (e := 9) (size := 1) (World.ownsRow_made wr.drew #[] 0 (Nat.le_refl _) (by decide) rfl) hgr5 (Nat.le_refl _) (by simp))
              have HO5 := hide hown5
              refine hK.out _ _ (kp (wA := w5) b5) (fun hHeld2 => ?_)
              clear hown5 hgr5
              clear hK K hHeld
              have hHeld := hHeld2
              clear hHeld2
              simp only [List.setIfInBounds_toArray, List.set_cons_succ, List.set_cons_zero]
              refine wpAnyH_ready (rs := [11]) (by kernel_rfl) (by simp) ?_
              refine AllReadyH.cons rfl (fun K hK => ?_) AllReadyH.nil
              refine step_append_ownT rfl _ _ 25 rfl wr.heap.size 9 ii _ 1 16 Tryz.underlying25 hii hz hsz hby rfl (by omega) v5 (0 + tt.length) ([] ++ strV tt) (by simp [Act.eval, Act.put]) HO5.out ⟨bx, ox + ss.length, none⟩ (pk.length - ss.length) (cx - ss.length) (strV (pk.drop ss.length)) (by simp [Act.eval, Act.put]) (by rw [strV_length, List.length_drop]; omega) (HSF.out w5 b5) (strV_one _) (by unfold maxLen; omega) (by omega) (by have := b5.size; show wr.heap.size ≤ w5.heap.size; exact this) ?_
              intro v6 w6 hown6 hgr6
              obtain ⟨b9, c8, rfl, q1, q2, q3, hst6⟩ := row_got (ss := np) hown6 (by omega) (by rw [← HNP.out, List.nil_append, strV_append]) (by rw [HNL.out]; omega)
              have b6 := b5.trans (below_own HO5.out hgr6 (Nat.le_refl _) (by have := b5.size; exact this))
              refine hK.out _ _ (kp (wA := w6) b6) (fun hHeld2 => ?_)
              clear hown6 hgr6
              clear hK K hHeld
              have hHeld := hHeld2
              clear hHeld2
              simp only [List.setIfInBounds_toArray, List.set_cons_succ, List.set_cons_zero]
              refine wpAnyH_take (i := 12) (v := ?_) rfl (by kernel_rfl) (by kernel_rfl) (by kernel_rfl) (fun _ _ _ h => h) (Or.inl ⟨by rfl, ?_⟩) (by assumption) ?_
              rotate_left
              · intro w hSw; (try dsimp only at hSw); go_simp; try with_reducible rfl
              simp only [Act.put, List.getElem_toArray, List.getElem_cons_succ, List.getElem_cons_zero, List.setIfInBounds_toArray, List.set_cons_succ, List.set_cons_zero]
              refine wpAnyH_done (by kernel_rfl) ?_ _
              clear hHeld
              have b6r : Below wr.heap.size wr w6 := (belowDF (Below.refl wr.heap.size wr)).trans b6
              have c6 := hbe.trans (b6r.mono zr)
              have HF14 := hide (findRes_any (some ⟨gx, 0, none⟩) X cx0 w4.heap.size (some ⟨b9, 0, none⟩) np c8 w6.heap.size w6 (HX4.out.below c6 (Nat.le_refl _)) hst6 hxm hnm c6.size (Nat.le_refl _))
              rw [hf1] at HF14
              clear hst6 HO5 hT4 q1 q2 q3 b5 k4 b6 HTQ HSF kp
              go_wp2_with fail
              refine HF14.out.mono ?_
              rintro e w7 ⟨rfl, b7⟩
              have b7r := b6r.trans (b7.mono b6r.size)
              have c7 := hbe.trans (b7r.mono zr)
              have m0 : w7.cell? ⟨gl, k * 5, none⟩ = some (.slice (some ⟨bx, ox, none⟩) pk.length cx) := (b7r.cell (p := ⟨gl, k * 5, none⟩) hglr).trans HLC.out.1
              have HF15 := hide (findRes_any (some ⟨gx, 0, none⟩) X cx0 w4.heap.size (some ⟨bx, ox, none⟩) pk cx w4.heap.size w7 (HX4.out.below c7 (Nat.le_refl _)) (hph.below b7r zr) hxm hkm c7.size c7.size)
              rw [hf2] at HF15
              clear b7 HF14 c6 b6r
              go_wp2_with fail
              refine HF15.out.mono ?_
              rintro e w9 ⟨rfl, b8⟩
              have b9r := b7r.trans (b8.mono b7r.size)
              have C9 := hide (hbe.trans (b9r.mono zr))
              have z9 := b9r.size
              clear m0 b8 HF15 b7r c7
              have hgx9 : gx < w9.heap.size := by omega
              have hgl9 : gl < w9.heap.size := by omega
              have BD9 : Below w9.heap.size w9 w9.drew := belowDF (Below.refl w9.heap.size w9)
              have HSC := hide (fun W (hb : Below w9.heap.size w9 W) => show W.cell? ⟨gx, i1 * 5, none⟩ = some (.slice pa1 np.length pc1) ∧ W.cell? ⟨gx, i1 * 5 + 1, none⟩ = some (.bool ck) ∧ W.cell? ⟨gx, i1 * 5 + 2, none⟩ = some (.string bk) ∧ W.cell? ⟨gx, i1 * 5 + 3, none⟩ = some (.int .i64 88) ∧ W.cell? ⟨gx, i1 * 5 + 4, none⟩ = some (.slice qa1 qk.length qc1) ∧ W.cell? ⟨gx, j1 * 5, none⟩ = some (.slice pa2 pk.length pc2) ∧ W.cell? ⟨gx, j1 * 5 + 1, none⟩ = some (.bool ck) ∧ W.cell? ⟨gx, j1 * 5 + 2, none⟩ = some (.string bk) ∧ W.cell? ⟨gx, j1 * 5 + 3, none⟩ = some (.int .i64 vk) ∧ W.cell? ⟨gx, j1 * 5 + 4, none⟩ = some (.slice qa2 qk.length qc2) ∧ W.cell? ⟨gl, k * 5, none⟩ = some (.slice (some ⟨bx, ox, none⟩) pk.length cx) ∧ W.cell? ⟨gl, k * 5 + 1, none⟩ = some (.bool ck) ∧ W.cell? ⟨gl, k * 5 + 2, none⟩ = some (.string bk) ∧ W.cell? ⟨gl, k * 5 + 3, none⟩ = some (.int .i64 vk) ∧ W.cell? ⟨gl, k * 5 + 4, none⟩ = some (.slice qa qk.length qc) from by
                obtain ⟨n0, n1, n2, n3, n4⟩ := HNC.out
                obtain ⟨o0, o1, o2, o3, o4⟩ := HOC.out
                obtain ⟨l0, l1, l2, l3, l4⟩ := HLC.out
                have kx : ∀ (o : Nat) (v : Value), wr.cell? ⟨gx, o, none⟩ = some v → W.cell? ⟨gx, o, none⟩ = some v := fun o v h => (hb.cell (p := ⟨gx, o, none⟩) hgx9).trans ((b9r.cell (p := ⟨gx, o, none⟩) hgxr).trans h)
                have kl : ∀ (o : Nat) (v : Value), wr.cell? ⟨gl, o, none⟩ = some v → W.cell? ⟨gl, o, none⟩ = some v := fun o v h => (hb.cell (p := ⟨gl, o, none⟩) hgl9).trans ((b9r.cell (p := ⟨gl, o, none⟩) hglr).trans h)
                exact ⟨kx _ _ n0, kx _ _ n1, kx _ _ n2, kx _ _ n3, kx _ _ n4, kx _ _ o0, kx _ _ o1, kx _ _ o2, kx _ _ o3, kx _ _ o4, kl _ _ l0, kl _ _ l1, kl _ _ l2, kl _ _ l3, kl _ _ l4⟩)
              have HSP := hide (fun W (hb : Below w9.heap.size w9 W) => sameProps_same qa1 qa qk qc1 qc w4.heap.size w4.heap.size W (HIN1.out.below (b9r.trans (hb.mono z9)) zr).qh (HIN.out.below (b9r.trans (hb.mono z9)) zr).qh hqkm)
              have HSR := hide (fun W (hb : Below w9.heap.size w9 W) => sameRes_same ⟨pk, ck, bk, vk, qk⟩ pa2 pc2 qa2 qc2 (some ⟨bx, ox, none⟩) cx qa qc w4.heap.size w4.heap.size W (HIN2.out.below (b9r.trans (hb.mono z9)) zr) (HIN.out.below (b9r.trans (hb.mono z9)) zr) (Nat.le_trans C9.out.size hb.size) (Nat.le_trans C9.out.size hb.size))
              clear HIN HIN1 HIN2 HNC HOC HLC
              go_wp2
              refine wp_region_held_drew (S := (fun W => W.cell? ⟨gx, i1 * 5, none⟩ = some (.slice pa1 np.length pc1) ∧ W.cell? ⟨gx, i1 * 5 + 1, none⟩ = some (.bool ck) ∧ W.cell? ⟨gx, i1 * 5 + 2, none⟩ = some (.string bk) ∧ W.cell? ⟨gx, i1 * 5 + 3, none⟩ = some (.int .i64 88) ∧ W.cell? ⟨gx, i1 * 5 + 4, none⟩ = some (.slice qa1 qk.length qc1) ∧ W.cell? ⟨gx, j1 * 5, none⟩ = some (.slice pa2 pk.length pc2) ∧ W.cell? ⟨gx, j1 * 5 + 1, none⟩ = some (.bool ck) ∧ W.cell? ⟨gx, j1 * 5 + 2, none⟩ = some (.string bk) ∧ W.cell? ⟨gx, j1 * 5 + 3, none⟩ = some (.int .i64 vk) ∧ W.cell? ⟨gx, j1 * 5 + 4, none⟩ = some (.slice qa2 qk.length qc2) ∧ W.cell? ⟨gl, k * 5, none⟩ = some (.slice (some ⟨bx, ox, none⟩) pk.length cx) ∧ W.cell? ⟨gl, k * 5 + 1, none⟩ = some (.bool ck) ∧ W.cell? ⟨gl, k * 5 + 2, none⟩ = some (.string bk) ∧ W.cell? ⟨gl, k * 5 + 3, none⟩ = some (.int .i64 vk) ∧ W.cell? ⟨gl, k * 5 + 4, none⟩ = some (.slice qa qk.length qc))) (by kernel_rfl) (HSC.out w9.drew BD9) (fun hHeld => ?_)
              simp only [List.size_toArray, List.length_cons, List.length_nil, Nat.reduceAdd, Array.replicate_succ, Array.replicate_zero, List.push_toArray, List.nil_append, List.cons_append, List.append_eq]
              refine wpAnyH_take (i := 0) (v := ?_) rfl (by kernel_rfl) (by kernel_rfl) (by kernel_rfl) (fun _ _ _ h => h) (Or.inl ⟨by rfl, ?_⟩) (by assumption) ?_
              rotate_left
              · intro w hSw; (try dsimp only at hSw); go_simp; try with_reducible rfl
              simp only [Act.put, List.getElem_toArray, List.getElem_cons_zero, List.setIfInBounds_toArray, List.set_cons_zero]
              refine wpAnyH_take (i := 1) (v := ?_) rfl (by kernel_rfl) (by kernel_rfl) (by kernel_rfl) (fun _ _ _ h => h) (Or.inl ⟨by rfl, ?_⟩) (by assumption) ?_
              rotate_left
              · intro w hSw; (try dsimp only at hSw); go_simp; try with_reducible rfl
              simp only [Act.put, List.getElem_toArray, List.getElem_cons_succ, List.getElem_cons_zero, List.setIfInBounds_toArray, List.set_cons_succ, List.set_cons_zero]
              refine wpAnyH_take (i := 2) (v := .bool false) rfl (by kernel_rfl) (by kernel_rfl) (by kernel_rfl) (fun _ _ _ h => h) (Or.inl ⟨by rfl, ?_⟩) (by assumption) ?_
              · intro w hSw; (try dsimp only at hSw); go_simp
              simp only [Act.put, List.getElem_toArray, List.getElem_cons_succ, List.getElem_cons_zero, List.setIfInBounds_toArray, List.set_cons_succ, List.set_cons_zero]
              refine wpAnyH_take (i := 3) (v := ?_) rfl (by kernel_rfl) (by kernel_rfl) (by kernel_rfl) (fun _ _ _ h => h) (Or.inl ⟨by rfl, ?_⟩) (by assumption) ?_
              rotate_left
              · intro w hSw; (try dsimp only at hSw); go_simp; try with_reducible rfl
              simp only [Act.put, List.getElem_toArray, List.getElem_cons_succ, List.getElem_cons_zero, List.setIfInBounds_toArray, List.set_cons_succ, List.set_cons_zero]
              refine wpAnyH_take (i := 4) (v := ?_) rfl (by kernel_rfl) (by kernel_rfl) (by kernel_rfl) (fun _ _ _ h => h) (Or.inl ⟨by rfl, ?_⟩) (by assumption) ?_
              rotate_left
              · intro w hSw; (try dsimp only at hSw); go_simp; try with_reducible rfl
              simp only [Act.put, List.getElem_toArray, List.getElem_cons_succ, List.getElem_cons_zero, List.setIfInBounds_toArray, List.set_cons_succ, List.set_cons_zero]
              refine wpAnyH_take (i := 5) (v := ?_) rfl (by kernel_rfl) (by kernel_rfl) (by kernel_rfl) (fun _ _ _ h => h) (Or.inl ⟨by rfl, ?_⟩) (by assumption) ?_
              rotate_left
              · intro w hSw; (try dsimp only at hSw); go_simp; try with_reducible rfl
              simp only [Act.put, List.getElem_toArray, List.getElem_cons_succ, List.getElem_cons_zero, List.setIfInBounds_toArray, List.set_cons_succ, List.set_cons_zero]
              refine wpAnyH_take (i := 6) (v := .bool false) rfl (by kernel_rfl) (by kernel_rfl) (by kernel_rfl) (fun _ _ _ h => h) (Or.inl ⟨by rfl, ?_⟩) (by assumption) ?_
              · intro w hSw; (try dsimp only at hSw); go_simp
              simp only [Act.put, List.getElem_toArray, List.getElem_cons_succ, List.getElem_cons_zero, List.setIfInBounds_toArray, List.set_cons_succ, List.set_cons_zero]
              refine wpAnyH_take (i := 7) (v := ?_) rfl (by kernel_rfl) (by kernel_rfl) (by kernel_rfl) (fun _ _ _ h => h) (Or.inl ⟨by rfl, ?_⟩) (by assumption) ?_
              rotate_left
              · intro w hSw; (try dsimp only at hSw); go_simp; try with_reducible rfl
              simp only [Act.put, List.getElem_toArray, List.getElem_cons_succ, List.getElem_cons_zero, List.setIfInBounds_toArray, List.set_cons_succ, List.set_cons_zero]
              refine wpAnyH_take (i := 8) (v := ?_) rfl (by kernel_rfl) (by kernel_rfl) (by kernel_rfl) (fun _ _ _ h => h) (Or.inl ⟨by rfl, ?_⟩) (by assumption) ?_
              rotate_left
              · intro w hSw; (try dsimp only at hSw); go_simp; try with_reducible rfl
              simp only [Act.put, List.getElem_toArray, List.getElem_cons_succ, List.getElem_cons_zero, List.setIfInBounds_toArray, List.set_cons_succ, List.set_cons_zero]
              refine wpAnyH_take (i := 9) (v := ?_) rfl (by kernel_rfl) (by kernel_rfl) (by kernel_rfl) (fun _ _ _ h => h) (Or.inl ⟨by rfl, ?_⟩) (by assumption) ?_
              rotate_left
              · intro w hSw; (try dsimp only at hSw); go_simp; try with_reducible rfl
              simp only [Act.put, List.getElem_toArray, List.getElem_cons_succ, List.getElem_cons_zero, List.setIfInBounds_toArray, List.set_cons_succ, List.set_cons_zero]
              refine wpAnyH_take (i := 10) (v := ?_) rfl (by kernel_rfl) (by kernel_rfl) (by kernel_rfl) (fun _ _ _ h => h) (Or.inl ⟨by rfl, ?_⟩) (by assumption) ?_
              rotate_left
              · intro w hSw; (try dsimp only at hSw); go_simp; try with_reducible rfl
              simp only [Act.put, List.getElem_toArray, List.getElem_cons_succ, List.getElem_cons_zero, List.setIfInBounds_toArray, List.set_cons_succ, List.set_cons_zero]
              refine wpAnyH_take (i := 11) (v := ?_) rfl (by kernel_rfl) (by kernel_rfl) (by kernel_rfl) (fun _ _ _ h => h) (Or.inl ⟨by rfl, ?_⟩) (by assumption) ?_
              rotate_left
              · intro w hSw; (try dsimp only at hSw); go_simp; try with_reducible rfl
              simp only [Act.put, List.getElem_toArray, List.getElem_cons_succ, List.getElem_cons_zero, List.setIfInBounds_toArray, List.set_cons_succ, List.set_cons_zero]
              refine wpAnyH_take (i := 12) (v := ?_) rfl (by kernel_rfl) (by kernel_rfl) (by kernel_rfl) (fun _ _ _ h => h) (Or.inl ⟨by rfl, ?_⟩) (by assumption) ?_
              rotate_left
              · intro w hSw; (try dsimp only at hSw); go_simp; try with_reducible rfl
              simp only [Act.put, List.getElem_toArray, List.getElem_cons_succ, List.getElem_cons_zero, List.setIfInBounds_toArray, List.set_cons_succ, List.set_cons_zero]
              refine wpAnyH_take (i := 13) (v := ?_) rfl (by kernel_rfl) (by kernel_rfl) (by kernel_rfl) (fun _ _ _ h => h) (Or.inl ⟨by rfl, ?_⟩) (by assumption) ?_
              rotate_left
              · intro w hSw; (try dsimp only at hSw); go_simp; try with_reducible rfl
              simp only [Act.put, List.getElem_toArray, List.getElem_cons_succ, List.getElem_cons_zero, List.setIfInBounds_toArray, List.set_cons_succ, List.set_cons_zero]
              refine wpAnyH_take (i := 14) (v := ?_) rfl (by kernel_rfl) (by kernel_rfl) (by kernel_rfl) (fun _ _ _ h => h) (Or.inl ⟨by rfl, ?_⟩) (by assumption) ?_
              rotate_left
              · intro w hSw; (try dsimp only at hSw); go_simp; try with_reducible rfl
              simp only [Act.put, List.getElem_toArray, List.getElem_cons_succ, List.getElem_cons_zero, List.setIfInBounds_toArray, List.set_cons_succ, List.set_cons_zero]
              refine wpAnyH_take (i := 15) (v := ?_) rfl (by kernel_rfl) (by kernel_rfl) (by kernel_rfl) (fun _ _ _ h => h) (Or.inl ⟨by rfl, ?_⟩) (by assumption) ?_
              rotate_left
              · intro w hSw; (try dsimp only at hSw); go_simp; try with_reducible rfl
              simp only [Act.put, List.getElem_toArray, List.getElem_cons_succ, List.getElem_cons_zero, List.setIfInBounds_toArray, List.set_cons_succ, List.set_cons_zero]
              refine wpAnyH_take (i := 16) (v := ?_) rfl (by kernel_rfl) (by kernel_rfl) (by kernel_rfl) (fun _ _ _ h => h) (Or.inl ⟨by rfl, ?_⟩) (by assumption) ?_
              rotate_left
              · intro w hSw; (try dsimp only at hSw); go_simp; try with_reducible rfl
              simp only [Act.put, List.getElem_toArray, List.getElem_cons_succ, List.getElem_cons_zero, List.setIfInBounds_toArray, List.set_cons_succ, List.set_cons_zero]
              refine wpAnyH_take (i := 17) (v := ?_) rfl (by kernel_rfl) (by kernel_rfl) (by kernel_rfl) (fun _ _ _ h => h) (Or.inl ⟨by rfl, ?_⟩) (by assumption) ?_
              rotate_left
              · intro w hSw; (try dsimp only at hSw); go_simp; try with_reducible rfl
              simp only [Act.put, List.getElem_toArray, List.getElem_cons_succ, List.getElem_cons_zero, List.setIfInBounds_toArray, List.set_cons_succ, List.set_cons_zero]
              refine wpAnyH_take (i := 18) (v := ?_) rfl (by kernel_rfl) (by kernel_rfl) (by kernel_rfl) (fun _ _ _ h => h) (Or.inl ⟨by rfl, ?_⟩) (by assumption) ?_
              rotate_left
              · intro w hSw; (try dsimp only at hSw); go_simp; try with_reducible rfl
              simp only [Act.put, List.getElem_toArray, List.getElem_cons_succ, List.getElem_cons_zero, List.setIfInBounds_toArray, List.set_cons_succ, List.set_cons_zero]
              refine wpAnyH_take (i := 19) (v := .bool false) rfl (by kernel_rfl) (by kernel_rfl) (by kernel_rfl) (fun _ _ _ h => h) (Or.inl ⟨by rfl, ?_⟩) (by assumption) ?_
              · intro w hSw; (try dsimp only at hSw); go_simp
              simp only [Act.put, List.getElem_toArray, List.getElem_cons_succ, List.getElem_cons_zero, List.setIfInBounds_toArray, List.set_cons_succ, List.set_cons_zero]
              refine wpAnyH_take (i := 20) (v := ?_) rfl (by kernel_rfl) (by kernel_rfl) (by kernel_rfl) (fun _ _ _ h => h) (Or.inl ⟨by rfl, ?_⟩) (by assumption) ?_
              rotate_left
              · intro w hSw; (try dsimp only at hSw); go_simp; try with_reducible rfl
              simp only [Act.put, List.getElem_toArray, List.getElem_cons_succ, List.getElem_cons_zero, List.setIfInBounds_toArray, List.set_cons_succ, List.set_cons_zero]
              refine wpAnyH_take (i := 21) (v := ?_) rfl (by kernel_rfl) (by kernel_rfl) (by kernel_rfl) (fun _ _ _ h => h) (Or.inl ⟨by rfl, ?_⟩) (by assumption) ?_
              rotate_left
              · intro w hSw; (try dsimp only at hSw); go_simp; try with_reducible rfl
              simp only [Act.put, List.getElem_toArray, List.getElem_cons_succ, List.getElem_cons_zero, List.setIfInBounds_toArray, List.set_cons_succ, List.set_cons_zero]
              refine wpAnyH_take (i := 22) (v := ?_) rfl (by kernel_rfl) (by kernel_rfl) (by kernel_rfl) (fun _ _ _ h => h) (Or.inl ⟨by rfl, ?_⟩) (by assumption) ?_
              rotate_left
              · intro w hSw; (try dsimp only at hSw); go_simp; try with_reducible rfl
              simp only [Act.put, List.getElem_toArray, List.getElem_cons_succ, List.getElem_cons_zero, List.setIfInBounds_toArray, List.set_cons_succ, List.set_cons_zero]
              refine wpAnyH_take (i := 23) (v := ?_) rfl (by kernel_rfl) (by kernel_rfl) (by kernel_rfl) (fun _ _ _ h => h) (Or.inl ⟨by rfl, ?_⟩) (by assumption) ?_
              rotate_left
              · intro w hSw; (try dsimp only at hSw); go_simp; try with_reducible rfl
              simp only [Act.put, List.getElem_toArray, List.getElem_cons_succ, List.getElem_cons_zero, List.setIfInBounds_toArray, List.set_cons_succ, List.set_cons_zero]
              refine wpAnyH_take (i := 24) (v := ?_) rfl (by kernel_rfl) (by kernel_rfl) (by kernel_rfl) (fun _ _ _ h => h) (Or.inl ⟨by rfl, ?_⟩) (by assumption) ?_
              rotate_left
              · intro w hSw; (try dsimp only at hSw); go_simp; try with_reducible rfl
              simp only [Act.put, List.getElem_toArray, List.getElem_cons_succ, List.getElem_cons_zero, List.setIfInBounds_toArray, List.set_cons_succ, List.set_cons_zero]
              refine wpAnyH_take (i := 25) (v := ?_) rfl (by kernel_rfl) (by kernel_rfl) (by kernel_rfl) (fun _ _ _ h => h) (Or.inl ⟨by rfl, ?_⟩) (by assumption) ?_
              rotate_left
              · intro w hSw; (try dsimp only at hSw); go_simp; try with_reducible rfl
              simp only [Act.put, List.getElem_toArray, List.getElem_cons_succ, List.getElem_cons_zero, List.setIfInBounds_toArray, List.set_cons_succ, List.set_cons_zero]
              refine wpAnyH_take (i := 26) (v := ?_) rfl (by kernel_rfl) (by kernel_rfl) (by kernel_rfl) (fun _ _ _ h => h) (Or.inl ⟨by rfl, ?_⟩) (by assumption) ?_
              rotate_left
              · intro w hSw; (try dsimp only at hSw); go_simp; try with_reducible rfl
              simp only [Act.put, List.getElem_toArray, List.getElem_cons_succ, List.getElem_cons_zero, List.setIfInBounds_toArray, List.set_cons_succ, List.set_cons_zero]
              refine wpAnyH_take (i := 27) (v := ?_) rfl (by kernel_rfl) (by kernel_rfl) (by kernel_rfl) (fun _ _ _ h => h) (Or.inl ⟨by rfl, ?_⟩) (by assumption) ?_
              rotate_left
              · intro w hSw; (try dsimp only at hSw); go_simp; try with_reducible rfl
              simp only [Act.put, List.getElem_toArray, List.getElem_cons_succ, List.getElem_cons_zero, List.setIfInBounds_toArray, List.set_cons_succ, List.set_cons_zero]
              refine wpAnyH_take (i := 28) (v := ?_) rfl (by kernel_rfl) (by kernel_rfl) (by kernel_rfl) (fun _ _ _ h => h) (Or.inl ⟨by rfl, ?_⟩) (by assumption) ?_
              rotate_left
              · intro w hSw; (try dsimp only at hSw); go_simp; try with_reducible rfl
              simp only [Act.put, List.getElem_toArray, List.getElem_cons_succ, List.getElem_cons_zero, List.setIfInBounds_toArray, List.set_cons_succ, List.set_cons_zero]
              refine wpAnyH_take (i := 29) (v := ?_) rfl (by kernel_rfl) (by kernel_rfl) (by kernel_rfl) (fun _ _ _ h => h) (Or.inl ⟨by rfl, ?_⟩) (by assumption) ?_
              rotate_left
              · intro w hSw; (try dsimp only at hSw); go_simp; try with_reducible rfl
              simp only [Act.put, List.getElem_toArray, List.getElem_cons_succ, List.getElem_cons_zero, List.setIfInBounds_toArray, List.set_cons_succ, List.set_cons_zero]
              refine wpAnyH_take (i := 30) (v := ?_) rfl (by kernel_rfl) (by kernel_rfl) (by kernel_rfl) (fun _ _ _ h => h) (Or.inl ⟨by rfl, ?_⟩) (by assumption) ?_
              rotate_left
              · intro w hSw; (try dsimp only at hSw); go_simp; try with_reducible rfl
              simp only [Act.put, List.getElem_toArray, List.getElem_cons_succ, List.getElem_cons_zero, List.setIfInBounds_toArray, List.set_cons_succ, List.set_cons_zero]
              refine wpAnyH_take (i := 31) (v := ?_) rfl (by kernel_rfl) (by kernel_rfl) (by kernel_rfl) (fun _ _ _ h => h) (Or.inl ⟨by rfl, ?_⟩) (by assumption) ?_
              rotate_left
              · intro w hSw; (try dsimp only at hSw); go_simp; try with_reducible rfl
              simp only [Act.put, List.getElem_toArray, List.getElem_cons_succ, List.getElem_cons_zero, List.setIfInBounds_toArray, List.set_cons_succ, List.set_cons_zero]
              refine wpAnyH_take (i := 32) (v := .bool false) rfl (by kernel_rfl) (by kernel_rfl) (by kernel_rfl) (fun _ _ _ h => h) (Or.inl ⟨by rfl, ?_⟩) (by assumption) ?_
              · intro w hSw; (try dsimp only at hSw); go_simp
              simp only [Act.put, List.getElem_toArray, List.getElem_cons_succ, List.getElem_cons_zero, List.setIfInBounds_toArray, List.set_cons_succ, List.set_cons_zero]
              refine wpAnyH_take (i := 33) (v := ?_) rfl (by kernel_rfl) (by kernel_rfl) (by kernel_rfl) (fun _ _ _ h => h) (Or.inl ⟨by rfl, ?_⟩) (by assumption) ?_
              rotate_left
              · intro w hSw; (try dsimp only at hSw); go_simp; try with_reducible rfl
              simp only [Act.put, List.getElem_toArray, List.getElem_cons_succ, List.getElem_cons_zero, List.setIfInBounds_toArray, List.set_cons_succ, List.set_cons_zero]
              refine wpAnyH_take (i := 34) (v := ?_) rfl (by kernel_rfl) (by kernel_rfl) (by kernel_rfl) (fun _ _ _ h => h) (Or.inl ⟨by rfl, ?_⟩) (by assumption) ?_
              rotate_left
              · intro w hSw; (try dsimp only at hSw); go_simp; try with_reducible rfl
              simp only [Act.put, List.getElem_toArray, List.getElem_cons_succ, List.getElem_cons_zero, List.setIfInBounds_toArray, List.set_cons_succ, List.set_cons_zero]
              refine wpAnyH_take (i := 35) (v := ?_) rfl (by kernel_rfl) (by kernel_rfl) (by kernel_rfl) (fun _ _ _ h => h) (Or.inl ⟨by rfl, ?_⟩) (by assumption) ?_
              rotate_left
              · intro w hSw; (try dsimp only at hSw); go_simp; try with_reducible rfl
              simp only [Act.put, List.getElem_toArray, List.getElem_cons_succ, List.getElem_cons_zero, List.setIfInBounds_toArray, List.set_cons_succ, List.set_cons_zero]
              refine wpAnyH_take (i := 36) (v := ?_) rfl (by kernel_rfl) (by kernel_rfl) (by kernel_rfl) (fun _ _ _ h => h) (Or.inl ⟨by rfl, ?_⟩) (by assumption) ?_
              rotate_left
              · intro w hSw; (try dsimp only at hSw); go_simp; try with_reducible rfl
              simp only [Act.put, List.getElem_toArray, List.getElem_cons_succ, List.getElem_cons_zero, List.setIfInBounds_toArray, List.set_cons_succ, List.set_cons_zero]
              refine wpAnyH_take (i := 37) (v := ?_) rfl (by kernel_rfl) (by kernel_rfl) (by kernel_rfl) (fun _ _ _ h => h) (Or.inl ⟨by rfl, ?_⟩) (by assumption) ?_
              rotate_left
              · intro w hSw; (try dsimp only at hSw); go_simp; try with_reducible rfl
              simp only [Act.put, List.getElem_toArray, List.getElem_cons_succ, List.getElem_cons_zero, List.setIfInBounds_toArray, List.set_cons_succ, List.set_cons_zero]
              refine wpAnyH_take (i := 38) (v := ?_) rfl (by kernel_rfl) (by kernel_rfl) (by kernel_rfl) (fun _ _ _ h => h) (Or.inl ⟨by rfl, ?_⟩) (by assumption) ?_
              rotate_left
              · intro w hSw; (try dsimp only at hSw); go_simp; try with_reducible rfl
              simp only [Act.put, List.getElem_toArray, List.getElem_cons_succ, List.getElem_cons_zero, List.setIfInBounds_toArray, List.set_cons_succ, List.set_cons_zero]
              refine wpAnyH_take (i := 39) (v := ?_) rfl (by kernel_rfl) (by kernel_rfl) (by kernel_rfl) (fun _ _ _ h => h) (Or.inl ⟨by rfl, ?_⟩) (by assumption) ?_
              rotate_left
              · intro w hSw; (try dsimp only at hSw); go_simp; try with_reducible rfl
              simp only [Act.put, List.getElem_toArray, List.getElem_cons_succ, List.getElem_cons_zero, List.setIfInBounds_toArray, List.set_cons_succ, List.set_cons_zero]
              refine wpAnyH_take (i := 40) (v := .bool false) rfl (by kernel_rfl) (by kernel_rfl) (by kernel_rfl) (fun _ _ _ h => h) (Or.inl ⟨by rfl, ?_⟩) (by assumption) ?_
              · intro w hSw; (try dsimp only at hSw); go_simp
              simp only [Act.put, List.getElem_toArray, List.getElem_cons_succ, List.getElem_cons_zero, List.setIfInBounds_toArray, List.set_cons_succ, List.set_cons_zero]
              refine wpAnyH_take (i := 41) (v := ?_) rfl (by kernel_rfl) (by kernel_rfl) (by kernel_rfl) (fun _ _ _ h => h) (Or.inl ⟨by rfl, ?_⟩) (by assumption) ?_
              rotate_left
              · intro w hSw; (try dsimp only at hSw); go_simp; try with_reducible rfl
              simp only [Act.put, List.getElem_toArray, List.getElem_cons_succ, List.getElem_cons_zero, List.setIfInBounds_toArray, List.set_cons_succ, List.set_cons_zero]
              refine wpAnyH_take (i := 42) (v := ?_) rfl (by kernel_rfl) (by kernel_rfl) (by kernel_rfl) (fun _ _ _ h => h) (Or.inl ⟨by rfl, ?_⟩) (by assumption) ?_
              rotate_left
              · intro w hSw; (try dsimp only at hSw); go_simp; try with_reducible rfl
              simp only [Act.put, List.getElem_toArray, List.getElem_cons_succ, List.getElem_cons_zero, List.setIfInBounds_toArray, List.set_cons_succ, List.set_cons_zero]
              refine wpAnyH_take (i := 43) (v := ?_) rfl (by kernel_rfl) (by kernel_rfl) (by kernel_rfl) (fun _ _ _ h => h) (Or.inl ⟨by rfl, ?_⟩) (by assumption) ?_
              rotate_left
              · intro w hSw; (try dsimp only at hSw); go_simp; try with_reducible rfl
              simp only [Act.put, List.getElem_toArray, List.getElem_cons_succ, List.getElem_cons_zero, List.setIfInBounds_toArray, List.set_cons_succ, List.set_cons_zero]
              refine wpAnyH_take (i := 44) (v := ?_) rfl (by kernel_rfl) (by kernel_rfl) (by kernel_rfl) (fun _ _ _ h => h) (Or.inl ⟨by rfl, ?_⟩) (by assumption) ?_
              rotate_left
              · intro w hSw; (try dsimp only at hSw); go_simp; try with_reducible rfl
              simp only [Act.put, List.getElem_toArray, List.getElem_cons_succ, List.getElem_cons_zero, List.setIfInBounds_toArray, List.set_cons_succ, List.set_cons_zero]
              refine wpAnyH_take (i := 45) (v := ?_) rfl (by kernel_rfl) (by kernel_rfl) (by kernel_rfl) (fun _ _ _ h => h) (Or.inl ⟨by rfl, ?_⟩) (by assumption) ?_
              rotate_left
              · intro w hSw; (try dsimp only at hSw); go_simp; try with_reducible rfl
              simp only [Act.put, List.getElem_toArray, List.getElem_cons_succ, List.getElem_cons_zero, List.setIfInBounds_toArray, List.set_cons_succ, List.set_cons_zero]
              refine wpAnyH_take (i := 46) (v := ?_) rfl (by kernel_rfl) (by kernel_rfl) (by kernel_rfl) (fun _ _ _ h => h) (Or.inl ⟨by rfl, ?_⟩) (by assumption) ?_
              rotate_left
              · intro w hSw; (try dsimp only at hSw); go_simp; try with_reducible rfl
              simp only [Act.put, List.getElem_toArray, List.getElem_cons_succ, List.getElem_cons_zero, List.setIfInBounds_toArray, List.set_cons_succ, List.set_cons_zero]
              refine wpAnyH_take (i := 47) (v := ?_) rfl (by kernel_rfl) (by kernel_rfl) (by kernel_rfl) (fun _ _ _ h => h) (Or.inl ⟨by rfl, ?_⟩) (by assumption) ?_
              rotate_left
              · intro w hSw; (try dsimp only at hSw); go_simp; try with_reducible rfl
              simp only [Act.put, List.getElem_toArray, List.getElem_cons_succ, List.getElem_cons_zero, List.setIfInBounds_toArray, List.set_cons_succ, List.set_cons_zero]
              refine wpAnyH_take (i := 48) (v := ?_) rfl (by kernel_rfl) (by kernel_rfl) (by kernel_rfl) (fun _ _ _ h => h) (Or.inl ⟨by rfl, ?_⟩) (by assumption) ?_
              rotate_left
              · intro w hSw; (try dsimp only at hSw); go_simp; try with_reducible rfl
              simp only [Act.put, List.getElem_toArray, List.getElem_cons_succ, List.getElem_cons_zero, List.setIfInBounds_toArray, List.set_cons_succ, List.set_cons_zero]
              refine wpAnyH_take (i := 49) (v := ?_) rfl (by kernel_rfl) (by kernel_rfl) (by kernel_rfl) (fun _ _ _ h => h) (Or.inl ⟨by rfl, ?_⟩) (by assumption) ?_
              rotate_left
              · intro w hSw; (try dsimp only at hSw); go_simp; try with_reducible rfl
              simp only [Act.put, List.getElem_toArray, List.getElem_cons_succ, List.getElem_cons_zero, List.setIfInBounds_toArray, List.set_cons_succ, List.set_cons_zero]
              refine wpAnyH_take (i := 50) (v := ?_) rfl (by kernel_rfl) (by kernel_rfl) (by kernel_rfl) (fun _ _ _ h => h) (Or.inl ⟨by rfl, ?_⟩) (by assumption) ?_
              rotate_left
              · intro w hSw; (try dsimp only at hSw); go_simp; try with_reducible rfl
              simp only [Act.put, List.getElem_toArray, List.getElem_cons_succ, List.getElem_cons_zero, List.setIfInBounds_toArray, List.set_cons_succ, List.set_cons_zero]
              refine wpAnyH_ready (rs := [51]) (by kernel_rfl) (by simp) ?_
              refine AllReadyH.cons rfl (fun K hK => ?_) AllReadyH.nil
              go_simp
              refine (HSP.out _ BD9).mono ?_
              rintro e w10 ⟨rfl, b10'⟩
              have c10 := hide (BD9.trans (b10' w9.drew.heap.size))
              refine hK.out _ _ (HSC.out w10 c10.out) (fun hHeld2 => ?_)
              clear hK K hHeld
              have hHeld := hHeld2
              clear hHeld2
              simp only [List.setIfInBounds_toArray, List.set_cons_succ, List.set_cons_zero]
              refine wpAnyH_take (i := 52) (v := ?_) rfl (by kernel_rfl) (by kernel_rfl) (by kernel_rfl) (fun _ _ _ h => h) (Or.inl ⟨by rfl, ?_⟩) (by assumption) ?_
              rotate_left
              · intro w hSw; (try dsimp only at hSw); go_simp; try with_reducible rfl
              simp only [Act.put, List.getElem_toArray, List.getElem_cons_succ, List.getElem_cons_zero, List.setIfInBounds_toArray, List.set_cons_succ, List.set_cons_zero]
              refine wpAnyH_take (i := 53) (v := ?_) rfl (by kernel_rfl) (by kernel_rfl) (by kernel_rfl) (fun _ _ _ h => h) (Or.inl ⟨by rfl, ?_⟩) (by assumption) ?_
              rotate_left
              · intro w hSw; (try dsimp only at hSw); go_simp; try with_reducible rfl
              simp only [Act.put, List.getElem_toArray, List.getElem_cons_succ, List.getElem_cons_zero, List.setIfInBounds_toArray, List.set_cons_succ, List.set_cons_zero]
              refine wpAnyH_take (i := 54) (v := .bool false) rfl (by kernel_rfl) (by kernel_rfl) (by kernel_rfl) (fun _ _ _ h => h) (Or.inl ⟨by rfl, ?_⟩) (by assumption) ?_
              · intro w hSw; (try dsimp only at hSw); go_simp
              simp only [Act.put, List.getElem_toArray, List.getElem_cons_succ, List.getElem_cons_zero, List.setIfInBounds_toArray, List.set_cons_succ, List.set_cons_zero]
              refine wpAnyH_take (i := 55) (v := ?_) rfl (by kernel_rfl) (by kernel_rfl) (by kernel_rfl) (fun _ _ _ h => h) (Or.inl ⟨by rfl, ?_⟩) (by assumption) ?_
              rotate_left
              · intro w hSw; (try dsimp only at hSw); go_simp; try with_reducible rfl
              simp only [Act.put, List.getElem_toArray, List.getElem_cons_succ, List.getElem_cons_zero, List.setIfInBounds_toArray, List.set_cons_succ, List.set_cons_zero]
              refine wpAnyH_take (i := 56) (v := ?_) rfl (by kernel_rfl) (by kernel_rfl) (by kernel_rfl) (fun _ _ _ h => h) (Or.inl ⟨by rfl, ?_⟩) (by assumption) ?_
              rotate_left
              · intro w hSw; (try dsimp only at hSw); go_simp; try with_reducible rfl
              simp only [Act.put, List.getElem_toArray, List.getElem_cons_succ, List.getElem_cons_zero, List.setIfInBounds_toArray, List.set_cons_succ, List.set_cons_zero]
              refine wpAnyH_take (i := 57) (v := ?_) rfl (by kernel_rfl) (by kernel_rfl) (by kernel_rfl) (fun _ _ _ h => h) (Or.inl ⟨by rfl, ?_⟩) (by assumption) ?_
              rotate_left
              · intro w hSw; (try dsimp only at hSw); go_simp; try with_reducible rfl
              simp only [Act.put, List.getElem_toArray, List.getElem_cons_succ, List.getElem_cons_zero, List.setIfInBounds_toArray, List.set_cons_succ, List.set_cons_zero]
              refine wpAnyH_take (i := 58) (v := ?_) rfl (by kernel_rfl) (by kernel_rfl) (by kernel_rfl) (fun _ _ _ h => h) (Or.inl ⟨by rfl, ?_⟩) (by assumption) ?_
              rotate_left
              · intro w hSw; (try dsimp only at hSw); go_simp; try with_reducible rfl
              simp only [Act.put, List.getElem_toArray, List.getElem_cons_succ, List.getElem_cons_zero, List.setIfInBounds_toArray, List.set_cons_succ, List.set_cons_zero]
              refine wpAnyH_take (i := 59) (v := ?_) rfl (by kernel_rfl) (by kernel_rfl) (by kernel_rfl) (fun _ _ _ h => h) (Or.inl ⟨by rfl, ?_⟩) (by assumption) ?_
              rotate_left
              · intro w hSw; (try dsimp only at hSw); go_simp; try with_reducible rfl
              simp only [Act.put, List.getElem_toArray, List.getElem_cons_succ, List.getElem_cons_zero, List.setIfInBounds_toArray, List.set_cons_succ, List.set_cons_zero]
              refine wpAnyH_take (i := 60) (v := ?_) rfl (by kernel_rfl) (by kernel_rfl) (by kernel_rfl) (fun _ _ _ h => h) (Or.inl ⟨by rfl, ?_⟩) (by assumption) ?_
              rotate_left
              · intro w hSw; (try dsimp only at hSw); go_simp; try with_reducible rfl
              simp only [Act.put, List.getElem_toArray, List.getElem_cons_succ, List.getElem_cons_zero, List.setIfInBounds_toArray, List.set_cons_succ, List.set_cons_zero]
              refine wpAnyH_take (i := 61) (v := ?_) rfl (by kernel_rfl) (by kernel_rfl) (by kernel_rfl) (fun _ _ _ h => h) (Or.inl ⟨by rfl, ?_⟩) (by assumption) ?_
              rotate_left
              · intro w hSw; (try dsimp only at hSw); go_simp; try with_reducible rfl
              simp only [Act.put, List.getElem_toArray, List.getElem_cons_succ, List.getElem_cons_zero, List.setIfInBounds_toArray, List.set_cons_succ, List.set_cons_zero]
              refine wpAnyH_take (i := 62) (v := ?_) rfl (by kernel_rfl) (by kernel_rfl) (by kernel_rfl) (fun _ _ _ h => h) (Or.inl ⟨by rfl, ?_⟩) (by assumption) ?_
              rotate_left
              · intro w hSw; (try dsimp only at hSw); go_simp; try with_reducible rfl
              simp only [Act.put, List.getElem_toArray, List.getElem_cons_succ, List.getElem_cons_zero, List.setIfInBounds_toArray, List.set_cons_succ, List.set_cons_zero]
              refine wpAnyH_ready (rs := [63]) (by kernel_rfl) (by simp) ?_
              refine AllReadyH.cons rfl (fun K hK => ?_) AllReadyH.nil
              go_simp
              refine (HSR.out w10 c10.out).mono ?_
              rintro e w11 ⟨rfl, b11⟩
              have c11 := hide (c10.out.trans (b11.mono c10.out.size))
              refine hK.out _ _ (HSC.out w11 c11.out) (fun hHeld2 => ?_)
              clear hK K hHeld
              have hHeld := hHeld2
              clear hHeld2
              simp only [List.setIfInBounds_toArray, List.set_cons_succ, List.set_cons_zero]
              refine wpAnyH_take (i := 64) (v := ?_) rfl (by kernel_rfl) (by kernel_rfl) (by kernel_rfl) (fun _ _ _ h => h) (Or.inl ⟨by rfl, ?_⟩) (by assumption) ?_
              rotate_left
              · intro w hSw; (try dsimp only at hSw); go_simp; try with_reducible rfl
              simp only [Act.put, List.getElem_toArray, List.getElem_cons_succ, List.getElem_cons_zero, List.setIfInBounds_toArray, List.set_cons_succ, List.set_cons_zero]
              refine wpAnyH_take (i := 65) (v := ?_) rfl (by kernel_rfl) (by kernel_rfl) (by kernel_rfl) (fun _ _ _ h => h) (Or.inl ⟨by rfl, ?_⟩) (by assumption) ?_
              rotate_left
              · intro w hSw; (try dsimp only at hSw); go_simp; try with_reducible rfl
              simp only [Act.put, List.getElem_toArray, List.getElem_cons_succ, List.getElem_cons_zero, List.setIfInBounds_toArray, List.set_cons_succ, List.set_cons_zero]
              refine wpAnyH_done (by kernel_rfl) ?_ _
              clear hHeld
              have HE11 := hide (C9.out.trans (c11.out.mono C9.out.size))
              go_wp2
              go_roundw
              case rel => exact ⟨k + 1, by omega, by go_num, HE11.out⟩
              case measure => simp [intOf]; omega
        · have HRV := hide (remove_any (some ⟨gx, 0, none⟩) X cx0 w4.heap.size (some ⟨gp, 0, none⟩) ss cp w1.heap.size wr (HX4.out.below hbe (Nat.le_refl _)) (HP.out.below B1r (Nat.le_refl _)) zr B1r.size hXSh (by omega) hXS HFR.out (by omega))
          rw [HREM.out, HRMC.out] at HRV
          go_wp2_with fail
          refine HRV.out.mono ?_
          rintro e w5 ⟨⟨gz, cz, pbz, qbz, rfl, oZ⟩, b5⟩
          have HZ5 : Hid (Rss w5 w5.heap.size (some ⟨gz, 0, none⟩) Y) := oZ.rss (fun r hr => by have := hYS r hr; unfold maxLen; omega) (Nat.le_refl _)
          have B45 := hide (hbe.trans (b5.mono zr))
          have B15 := hide (B14.out.trans (B45.out.mono z4))
          clear oZ b5 HRV
          have HSZ := hide (sameTree_same (some ⟨gz, 0, none⟩) (some ⟨gy, 0, none⟩) Y cz cy0 w5.heap.size w4.heap.size w5 HZ5.out (HY4.out.below B45.out (Nat.le_refl _)) (Nat.le_refl _) B45.out.size hym)
          go_wp2_with fail
          refine HSZ.out.mono ?_
          rintro e w6 ⟨rfl, b6⟩
          have B46 := hide (B45.out.trans (b6.mono B45.out.size))
          have HT1 := hide (treeOk_any (some ⟨gx, 0, none⟩) X cx0 w4.heap.size w6 (HX4.out.below B46.out (Nat.le_refl _)) B46.out.size hXSh hxm)
          rw [HTX1] at HT1
          clear b6 HSZ
          go_wp2_with fail
          refine HT1.out.mono ?_
          rintro e w7 ⟨rfl, b7⟩
          have B47 := hide (B46.out.trans (b7.mono B46.out.size))
          have HT2 := hide (treeOk_any (some ⟨gy, 0, none⟩) Y cy0 w4.heap.size w7 (HY4.out.below B47.out (Nat.le_refl _)) B47.out.size hYSh hym)
          rw [HTY1] at HT2
          clear b7 HT1
          go_wp2_with fail
          refine HT2.out.mono ?_
          rintro e w8 ⟨rfl, b8⟩
          have B48 := hide (B47.out.trans (b8.mono B47.out.size))
          have B18 := hide (B14.out.trans (B48.out.mono z4))
          have HDX := hide (deepOf_any (some ⟨gx, 0, none⟩) X cx0 w4.heap.size (some ⟨gq, 0, none⟩) tt cq w1.heap.size w8 (HX4.out.below B48.out (Nat.le_refl _)) (HQ.out.below B18.out (Nat.le_refl _)) B48.out.size B18.out.size (by omega) (by omega) hXS)
          rw [HDEEP.out] at HDX
          clear b8 HT2
          go_wp2_with fail
          refine HDX.out.mono ?_
          rintro e w9 ⟨⟨gd, cd, pbd, qbd, rfl, _⟩, b9⟩
          have B19 := hide (B18.out.trans (b9.mono B18.out.size))
          clear b9 HDX
          obtain ⟨F, hF⟩ : ∃ F, findI rs tt = F := ⟨_, rfl⟩
          have HF9 := hide (HFT.out w9 B19.out)
          rw [hF] at HF9 hft
          clear hF
          have hfd : decide (0 ≤ F) = true := by simpa using hft
          go_wp2_with fail
          refine HF9.out.mono ?_
          rintro e w10 ⟨rfl, b10⟩
          have HZZ := hide (HB1.out.trans ((B19.out.trans (b10.mono B19.out.size)).mono z1))
          clear b10 HF9
          go_wp2
          go_ret
          exact ⟨rfl, HZZ.out⟩
    · go_wp2_with fail
      refine (HDT.out w3 B13.out).mono ?_
      rintro e w4 ⟨⟨gl, cl0, pbl, qbl, rfl, oL⟩, b4⟩
      have HL4 : Hid (Rss w4 w4.heap.size (some ⟨gl, 0, none⟩) ls) := oL.rss (fun r hr => by have := (HDS.out r hr).1; unfold maxLen; omega) (Nat.le_refl _)
      have HX4 := hide ((HX2.out.below (B3.out.trans (b4.mono B3.out.size)) (Nat.le_refl _)).mono (B3.out.trans (b4.mono B3.out.size)).size)
      have HY4 := hide ((HY3.out.below b4 (Nat.le_refl _)).mono b4.size)
      have B14 := hide (B13.out.trans (b4.mono B13.out.size))
      clear oL b4 HX2 HY3 B2 B3 B13
      have z4 := B14.out.size
      obtain ⟨ii, hii, hz, hsz, hby⟩ := info_parts info_strC
      go_wp2
      go_loopw [12] (fun i wr => ∃ k : Nat, k ≤ ls.length ∧ i = .int .i64 k ∧ Below w4.heap.size w4 wr) (fun i _ => ls.length - (intOf i).toNat)
      case atStart => exact ⟨0, Nat.zero_le _, rfl, Below.refl _ _⟩
      case round =>
        obtain ⟨k, hk, rfl, hbe⟩ := hrel
        have zr := hbe.size
        have B1r := B14.out.trans (hbe.mono z4)
        by_cases hlt : k < ls.length
        · obtain ⟨i1, hi1, hf1, he1⟩ := HNEW.out k hlt
          obtain ⟨j1, hj1, hf2, he2⟩ := HOLD.out k hlt
          obtain ⟨hsr, hpre⟩ := HDS.out _ (List.getElem_mem hlt)
          obtain ⟨gl', ol, egl, hgl, hcl⟩ := (HL4.out.below hbe (Nat.le_refl _)) (by omega)
          cases egl
          obtain ⟨pa, cx, qa, qc, ⟨l0, l1, l2, l3, l4⟩, hin⟩ := hcl k hlt
          obtain ⟨gx', oxx, egx, hgx, hcx2⟩ := (HX4.out.below hbe (Nat.le_refl _)) (by omega)
          cases egx
          obtain ⟨pa1, pc1, qa1, qc1, ⟨n0, n1, n2, n3, n4⟩, hin1⟩ := hcx2 i1 hi1
          obtain ⟨pa2, pc2, qa2, qc2, ⟨o0, o1, o2, o3, o4⟩, hin2⟩ := hcx2 j1 hj1
          rw [he1] at n0 n1 n2 n3 n4 hin1
          rw [he2] at o0 o1 o2 o3 o4 hin2
          clear hcl hcx2 he1 he2
          have hfr0 : ss.length ≤ (ls[k]).pa.length := hpre.length_le
          obtain ⟨hs1, hs2, hs3, hs4, hs5⟩ := hsr
          obtain ⟨rk, hrk⟩ : ∃ rk, ls[k] = rk := ⟨_, rfl⟩
          simp only [hrk] at hf1 hf2 hin hin1 hin2 l0 l1 l2 l3 l4 n0 n1 n2 n3 n4 o0 o1 o2 o3 o4 hfr0 hs1 hs2 hpre
          clear hrk hs3 hs4 hs5
          obtain ⟨pk, ck, bk, vk, qk⟩ := rk
          unfold carryR at n0 n1 n2 n3 n4 hin1
          simp only [Nat.zero_add] at hf1 hf2 hin hin1 hin2 l0 l1 l2 l3 l4 n0 n1 n2 n3 n4 o0 o1 o2 o3 o4 hfr0 hs1 hs2 hpre
          obtain ⟨np, hnp⟩ : ∃ np, tt ++ pk.drop ss.length = np := ⟨_, rfl⟩
          have HNP := hide hnp
          have HNL := hide (show np.length = tt.length + (pk.length - ss.length) by rw [← hnp, List.length_append, List.length_drop])
          simp only [hnp] at hf1 n0 hin1
          clear hnp
          have hnm : np.length ≤ maxLen := by have := HNL.out; unfold maxLen; omega
          have hkm : pk.length ≤ maxLen := by unfold maxLen; omega
          have hqkm : qk.length ≤ maxLen := by unfold maxLen; omega
          have hph := hin.ph
          obtain ⟨bx, ox, rfl, hbx, hpc⟩ := hin.ph (by omega : 0 < pk.length)
          have hpcx := hin.pl
          have hpmx := hin.pm
          simp only at hpcx hpmx hph hpc
          have hpd : ∀ j (hj : j < (pk.drop ss.length).length), wr.cell? ⟨bx, ox + ss.length + j, none⟩ = some (.string (pk.drop ss.length)[j]) := fun j hj => by
            have hj2 : ss.length + j < pk.length := by rw [List.length_drop] at hj; omega
            rw [Nat.add_assoc, hpc (ss.length + j) hj2, List.getElem_drop]
          have hglr : gl < wr.heap.size := by omega
          have hgxr : gx < wr.heap.size := by omega
          have kp : ∀ {wA : World}, Below wr.drew.heap.size wr.drew wA → wA.cell? ⟨gl, k * 5, none⟩ = some (.slice (some ⟨bx, ox, none⟩) pk.length cx) := fun hb => (hb.cell (p := ⟨gl, k * 5, none⟩) hglr).trans l0
          have HTQ : Hid (Strs wr.drew wr.drew.heap.size (some ⟨gq, 0, none⟩) tt) := hide ((HQ.out.below (belowDF B1r) (Nat.le_refl _)).mono B1r.size)
          have HSF := hide (fun (W : World) (hb : Below wr.drew.heap.size wr.drew W) => show ∀ j u, (strV (pk.drop ss.length))[j]? = some u → W.cell? ((⟨bx, ox + ss.length, none⟩ : Addr).add j) = some u from fun j u hj => by
            have hjl : j < (pk.drop ss.length).length := by
              have := (List.getElem?_eq_some_iff.1 hj).1
              rw [strV_length] at this
              exact this
            rw [Addr.add_lit]
            refine (hb.cell (p := ⟨bx, ox + ss.length + j, none⟩) (show bx < wr.heap.size by omega)).trans ((hpd j hjl).trans ?_)
            unfold strV at hj
            rw [List.getElem?_map, List.getElem?_eq_getElem hjl] at hj
            exact hj)
          have hi0 : (0 : Int) ≤ (k : Int) := by omega
          have hi3 : (k : Int) < (ls.length : Int) := by omega
          have hj0 : (0 : Int) ≤ (ss.length : Int) := by omega
          have hj3 : (ss.length : Int) ≤ (pk.length : Int) := by omega
          have ha0 : (0 : Int) ≤ (i1 : Int) := by omega
          have ha3 : (i1 : Int) < (X.length : Int) := by omega
          have ha4 : ¬ (i1 : Int) < 0 := by omega
          have hd0 : (0 : Int) ≤ (j1 : Int) := by omega
          have hd3 : (j1 : Int) < (X.length : Int) := by omega
          have hd4 : ¬ (j1 : Int) < 0 := by omega
          have HIN := hide hin
          have HIN1 := hide hin1
          have HIN2 := hide hin2
          have HNC := hide (And.intro n0 (And.intro n1 (And.intro n2 (And.intro n3 n4))))
          have HOC := hide (And.intro o0 (And.intro o1 (And.intro o2 (And.intro o3 o4))))
          have HLC := hide (And.intro l0 (And.intro l1 (And.intro l2 (And.intro l3 l4))))
          clear hin hin1 hin2 n0 n1 n2 n3 n4 o0 o1 o2 o3 o4 l0 l1 l2 l3 l4 hpd hpc
          go_wp2
          by_cases hcx : cx = ss.length
          · have hsl0 : pk.length - ss.length = 0 := by omega
            have hnil : pk.drop ss.length = [] := List.drop_of_length_le (by omega)
            have HSG := hide (show ∀ (W : World), Below wr.drew.heap.size wr.drew W → ∀ j u, (strV (pk.drop ss.length))[j]? = some u → W.cell? ((⟨bx, ox, none⟩ : Addr).add j) = some u from fun W _ j u hj => by rw [hnil] at hj; simp [strV] at hj)
            subst hcx
            clear hnil hsl0
            as_aux_lemma =>
              refine wp_region_held_drew (S := (fun W => W.cell? ⟨gl, k * 5, none⟩ = some (.slice (some ⟨bx, ox, none⟩) pk.length ss.length))) (by kernel_rfl) (kp (wA := wr.drew) (Below.refl _ _)) (fun hHeld => ?_)
              simp only [List.size_toArray, List.length_cons, List.length_nil, Nat.reduceAdd, Array.replicate_succ, Array.replicate_zero, List.push_toArray, List.nil_append, List.cons_append]
              refine wpAnyH_take (i := 1) (v := ?_) rfl (by kernel_rfl) (by kernel_rfl) (by kernel_rfl) (fun _ _ _ h => h) (Or.inl ⟨by rfl, ?_⟩) (by assumption) ?_
              rotate_left
              · intro w hSw; (try dsimp only at hSw); go_simp; try with_reducible rfl
              simp only [Act.put, List.getElem_toArray, List.getElem_cons_succ, List.getElem_cons_zero, List.setIfInBounds_toArray, List.set_cons_succ, List.set_cons_zero]
              refine wpAnyH_take (i := 3) (v := ?_) rfl (by kernel_rfl) (by kernel_rfl) (by kernel_rfl) (fun _ _ _ h => h) (Or.inl ⟨by rfl, ?_⟩) (by assumption) ?_
              rotate_left
              · intro w hSw; (try dsimp only at hSw); go_simp; try with_reducible rfl
              simp only [Act.put, List.getElem_toArray, List.getElem_cons_succ, List.getElem_cons_zero, List.setIfInBounds_toArray, List.set_cons_succ, List.set_cons_zero]
              refine wpAnyH_take (i := 4) (v := ?_) rfl (by kernel_rfl) (by kernel_rfl) (by kernel_rfl) (fun _ _ _ h => h) (Or.inl ⟨by rfl, ?_⟩) (by assumption) ?_
              rotate_left
              · intro w hSw; (try dsimp only at hSw); go_simp; try with_reducible rfl
              simp only [Act.put, List.getElem_toArray, List.getElem_cons_succ, List.getElem_cons_zero, List.setIfInBounds_toArray, List.set_cons_succ, List.set_cons_zero]
              refine wpAnyH_take (i := 5) (v := ?_) rfl (by kernel_rfl) (by kernel_rfl) (by kernel_rfl) (fun _ _ _ h => h) (Or.inl ⟨by rfl, ?_⟩) (by assumption) ?_
              rotate_left
              · intro w hSw; (try dsimp only at hSw); go_simp; try with_reducible rfl
              simp only [Act.put, List.getElem_toArray, List.getElem_cons_succ, List.getElem_cons_zero, List.setIfInBounds_toArray, List.set_cons_succ, List.set_cons_zero]
              refine wpAnyH_take (i := 6) (v := ?_) rfl (by kernel_rfl) (by kernel_rfl) (by kernel_rfl) (fun _ _ _ h => h) (Or.inl ⟨by rfl, ?_⟩) (by assumption) ?_
              rotate_left
              · intro w hSw; (try dsimp only at hSw); go_simp; try with_reducible rfl
              simp only [Act.put, List.getElem_toArray, List.getElem_cons_succ, List.getElem_cons_zero, List.setIfInBounds_toArray, List.set_cons_succ, List.set_cons_zero]
              refine wpAnyH_take (i := 7) (v := ?_) rfl (by kernel_rfl) (by kernel_rfl) (by kernel_rfl) (fun _ _ _ h => h) (Or.inl ⟨by rfl, ?_⟩) (by assumption) ?_
              rotate_left
              · intro w hSw; (try dsimp only at hSw); go_simp; try with_reducible rfl
              simp only [Act.put, List.getElem_toArray, List.getElem_cons_succ, List.getElem_cons_zero, List.setIfInBounds_toArray, List.set_cons_succ, List.set_cons_zero]
              refine wpAnyH_take (i := 8) (v := ?_) rfl (by kernel_rfl) (by kernel_rfl) (by kernel_rfl) (fun _ _ _ h => h) (Or.inl ⟨by rfl, ?_⟩) (by assumption) ?_
              rotate_left
              · intro w hSw; (try dsimp only at hSw); go_simp; try with_reducible rfl
              simp only [Act.put, List.getElem_toArray, List.getElem_cons_succ, List.getElem_cons_zero, List.setIfInBounds_toArray, List.set_cons_succ, List.set_cons_zero]
              refine wpAnyH_take (i := 9) (v := ?_) rfl (by kernel_rfl) (by kernel_rfl) (by kernel_rfl) (fun _ _ _ h => h) (Or.inl ⟨by rfl, ?_⟩) (by assumption) ?_
              rotate_left
              · intro w hSw; (try dsimp only at hSw); go_simp; try with_reducible rfl
              simp only [Act.put, List.getElem_toArray, List.getElem_cons_succ, List.getElem_cons_zero, List.setIfInBounds_toArray, List.set_cons_succ, List.set_cons_zero]
              refine wpAnyH_take (i := 10) (v := ?_) rfl (by kernel_rfl) (by kernel_rfl) (by kernel_rfl) (fun _ _ _ h => h) (Or.inl ⟨by rfl, ?_⟩) (by assumption) ?_
              rotate_left
              · intro w hSw; (try dsimp only at hSw); go_simp; try with_reducible rfl
              simp only [Act.put, List.getElem_toArray, List.getElem_cons_succ, List.getElem_cons_zero, List.setIfInBounds_toArray, List.set_cons_succ, List.set_cons_zero]
              refine wpAnyH_ready (rs := [0]) (by kernel_rfl) (by simp) ?_
              refine AllReadyH.cons rfl (fun K hK => ?_) AllReadyH.nil
              go_simp
              refine hK.out _ _ (kp (wA := _) ((Below.refl _ _).alloc (Nat.le_refl _) _)) (fun hHeld2 => ?_)
              have k4 := (Below.refl wr.drew.heap.size wr.drew).alloc (Nat.le_refl _) (Obj.cells #[] 9)
              have hT4 := hide (HTQ.out.below k4 (Nat.le_refl _))
              clear hK K hHeld
              have hHeld := hHeld2
              clear hHeld2
              simp only [List.setIfInBounds_toArray, List.set_cons_succ, List.set_cons_zero]
              refine wpAnyH_ready (rs := [2]) (by kernel_rfl) (by simp) ?_
              refine AllReadyH.cons rfl (fun K hK => ?_) AllReadyH.nil
              refine step_append_ownT rfl _ _ 25 rfl wr.heap.size 9 ii _ 1 16 Tryz.underlying25 hii hz hsz hby rfl (by omega) (.slice (some ⟨wr.heap.size, 0, none⟩) 0 0) 0 [] (by simp [Act.eval, Act.put]) (World.ownsRow_made wr.drew #[] 0 (Nat.le_refl _) (by decide) rfl) ⟨gq, 0, none⟩ tt.length cq (strV tt) (by simp [Act.eval, Act.put]) (by rw [strV_length]; omega) (strs_cells hT4.out) (strV_one _) (by unfold maxLen; omega) (by omega) (by simp) ?_
              intro v5 w5 hown5 hgr5
              have b5 := k4.trans (below_own (e := 9) (size := 1) (World.ownsRow_made wr.drew #[] 0 (Nat.le_refl _) (by decide) rfl) hgr5 (Nat.le_refl _) (by simp))
              have HO5 := hide hown5
              refine hK.out _ _ (kp (wA := w5) b5) (fun hHeld2 => ?_)
              clear hown5 hgr5
              clear hK K hHeld
              have hHeld := hHeld2
              clear hHeld2
              simp only [List.setIfInBounds_toArray, List.set_cons_succ, List.set_cons_zero]
              refine wpAnyH_ready (rs := [11]) (by kernel_rfl) (by simp) ?_
              refine AllReadyH.cons rfl (fun K hK => ?_) AllReadyH.nil
              refine step_append_ownT rfl _ _ 25 rfl wr.heap.size 9 ii _ 1 16 Tryz.underlying25 hii hz hsz hby rfl (by omega) v5 (0 + tt.length) ([] ++ strV tt) (by simp [Act.eval, Act.put]) HO5.out ⟨bx, ox, none⟩ (pk.length - ss.length) 0 (strV (pk.drop ss.length)) (by simp [Act.eval, Act.put]; omega) (by rw [strV_length, List.length_drop]; omega) (HSG.out w5 b5) (strV_one _) (by unfold maxLen; omega) (by omega) (by have := b5.size; show wr.heap.size ≤ w5.heap.size; exact this) ?_
              intro v6 w6 hown6 hgr6
              obtain ⟨b9, c8, rfl, q1, q2, q3, hst6⟩ := row_got (ss := np) hown6 (by omega) (by rw [← HNP.out, List.nil_append, strV_append]) (by rw [HNL.out]; omega)
              have b6 := b5.trans (below_own HO5.out hgr6 (Nat.le_refl _) (by have := b5.size; exact this))
              refine hK.out _ _ (kp (wA := w6) b6) (fun hHeld2 => ?_)
              clear hown6 hgr6
              clear hK K hHeld
              have hHeld := hHeld2
              clear hHeld2
              simp only [List.setIfInBounds_toArray, List.set_cons_succ, List.set_cons_zero]
              refine wpAnyH_take (i := 12) (v := ?_) rfl (by kernel_rfl) (by kernel_rfl) (by kernel_rfl) (fun _ _ _ h => h) (Or.inl ⟨by rfl, ?_⟩) (by assumption) ?_
              rotate_left
              · intro w hSw; (try dsimp only at hSw); go_simp; try with_reducible rfl
              simp only [Act.put, List.getElem_toArray, List.getElem_cons_succ, List.getElem_cons_zero, List.setIfInBounds_toArray, List.set_cons_succ, List.set_cons_zero]
              refine wpAnyH_done (by kernel_rfl) ?_ _
              clear hHeld
              have b6r : Below wr.heap.size wr w6 := (belowDF (Below.refl wr.heap.size wr)).trans b6
              have c6 := hbe.trans (b6r.mono zr)
              have HF14 := hide (findRes_any (some ⟨gx, 0, none⟩) X cx0 w4.heap.size (some ⟨b9, 0, none⟩) np c8 w6.heap.size w6 (HX4.out.below c6 (Nat.le_refl _)) hst6 hxm hnm c6.size (Nat.le_refl _))
              rw [hf1] at HF14
              clear hst6 HO5 hT4 q1 q2 q3 b5 k4 b6 HTQ HSF kp
              go_wp2_with fail
              refine HF14.out.mono ?_
              rintro e w7 ⟨rfl, b7⟩
              have b7r := b6r.trans (b7.mono b6r.size)
              have c7 := hbe.trans (b7r.mono zr)
              have m0 : w7.cell? ⟨gl, k * 5, none⟩ = some (.slice (some ⟨bx, ox, none⟩) pk.length ss.length) := (b7r.cell (p := ⟨gl, k * 5, none⟩) hglr).trans HLC.out.1
              have HF15 := hide (findRes_any (some ⟨gx, 0, none⟩) X cx0 w4.heap.size (some ⟨bx, ox, none⟩) pk ss.length w4.heap.size w7 (HX4.out.below c7 (Nat.le_refl _)) (hph.below b7r zr) hxm hkm c7.size c7.size)
              rw [hf2] at HF15
              clear b7 HF14 c6 b6r
              go_wp2_with fail
              refine HF15.out.mono ?_
              rintro e w9 ⟨rfl, b8⟩
              have b9r := b7r.trans (b8.mono b7r.size)
              have C9 := hide (hbe.trans (b9r.mono zr))
              have z9 := b9r.size
              clear m0 b8 HF15 b7r c7
              have hgx9 : gx < w9.heap.size := by omega
              have hgl9 : gl < w9.heap.size := by omega
              have BD9 : Below w9.heap.size w9 w9.drew := belowDF (Below.refl w9.heap.size w9)
              have HSC := hide (fun W (hb : Below w9.heap.size w9 W) => show W.cell? ⟨gx, i1 * 5, none⟩ = some (.slice pa1 np.length pc1) ∧ W.cell? ⟨gx, i1 * 5 + 1, none⟩ = some (.bool ck) ∧ W.cell? ⟨gx, i1 * 5 + 2, none⟩ = some (.string bk) ∧ W.cell? ⟨gx, i1 * 5 + 3, none⟩ = some (.int .i64 88) ∧ W.cell? ⟨gx, i1 * 5 + 4, none⟩ = some (.slice qa1 qk.length qc1) ∧ W.cell? ⟨gx, j1 * 5, none⟩ = some (.slice pa2 pk.length pc2) ∧ W.cell? ⟨gx, j1 * 5 + 1, none⟩ = some (.bool ck) ∧ W.cell? ⟨gx, j1 * 5 + 2, none⟩ = some (.string bk) ∧ W.cell? ⟨gx, j1 * 5 + 3, none⟩ = some (.int .i64 vk) ∧ W.cell? ⟨gx, j1 * 5 + 4, none⟩ = some (.slice qa2 qk.length qc2) ∧ W.cell? ⟨gl, k * 5, none⟩ = some (.slice (some ⟨bx, ox, none⟩) pk.length ss.length) ∧ W.cell? ⟨gl, k * 5 + 1, none⟩ = some (.bool ck) ∧ W.cell? ⟨gl, k * 5 + 2, none⟩ = some (.string bk) ∧ W.cell? ⟨gl, k * 5 + 3, none⟩ = some (.int .i64 vk) ∧ W.cell? ⟨gl, k * 5 + 4, none⟩ = some (.slice qa qk.length qc) from by
                obtain ⟨n0, n1, n2, n3, n4⟩ := HNC.out
                obtain ⟨o0, o1, o2, o3, o4⟩ := HOC.out
                obtain ⟨l0, l1, l2, l3, l4⟩ := HLC.out
                have kx : ∀ (o : Nat) (v : Value), wr.cell? ⟨gx, o, none⟩ = some v → W.cell? ⟨gx, o, none⟩ = some v := fun o v h => (hb.cell (p := ⟨gx, o, none⟩) hgx9).trans ((b9r.cell (p := ⟨gx, o, none⟩) hgxr).trans h)
                have kl : ∀ (o : Nat) (v : Value), wr.cell? ⟨gl, o, none⟩ = some v → W.cell? ⟨gl, o, none⟩ = some v := fun o v h => (hb.cell (p := ⟨gl, o, none⟩) hgl9).trans ((b9r.cell (p := ⟨gl, o, none⟩) hglr).trans h)
                exact ⟨kx _ _ n0, kx _ _ n1, kx _ _ n2, kx _ _ n3, kx _ _ n4, kx _ _ o0, kx _ _ o1, kx _ _ o2, kx _ _ o3, kx _ _ o4, kl _ _ l0, kl _ _ l1, kl _ _ l2, kl _ _ l3, kl _ _ l4⟩)
              have HSP := hide (fun W (hb : Below w9.heap.size w9 W) => sameProps_same qa1 qa qk qc1 qc w4.heap.size w4.heap.size W (HIN1.out.below (b9r.trans (hb.mono z9)) zr).qh (HIN.out.below (b9r.trans (hb.mono z9)) zr).qh hqkm)
              have HSR := hide (fun W (hb : Below w9.heap.size w9 W) => sameRes_same ⟨pk, ck, bk, vk, qk⟩ pa2 pc2 qa2 qc2 (some ⟨bx, ox, none⟩) ss.length qa qc w4.heap.size w4.heap.size W (HIN2.out.below (b9r.trans (hb.mono z9)) zr) (HIN.out.below (b9r.trans (hb.mono z9)) zr) (Nat.le_trans C9.out.size hb.size) (Nat.le_trans C9.out.size hb.size))
              clear HIN HIN1 HIN2 HNC HOC HLC
              go_wp2
              refine wp_region_held_drew (S := (fun W => W.cell? ⟨gx, i1 * 5, none⟩ = some (.slice pa1 np.length pc1) ∧ W.cell? ⟨gx, i1 * 5 + 1, none⟩ = some (.bool ck) ∧ W.cell? ⟨gx, i1 * 5 + 2, none⟩ = some (.string bk) ∧ W.cell? ⟨gx, i1 * 5 + 3, none⟩ = some (.int .i64 88) ∧ W.cell? ⟨gx, i1 * 5 + 4, none⟩ = some (.slice qa1 qk.length qc1) ∧ W.cell? ⟨gx, j1 * 5, none⟩ = some (.slice pa2 pk.length pc2) ∧ W.cell? ⟨gx, j1 * 5 + 1, none⟩ = some (.bool ck) ∧ W.cell? ⟨gx, j1 * 5 + 2, none⟩ = some (.string bk) ∧ W.cell? ⟨gx, j1 * 5 + 3, none⟩ = some (.int .i64 vk) ∧ W.cell? ⟨gx, j1 * 5 + 4, none⟩ = some (.slice qa2 qk.length qc2) ∧ W.cell? ⟨gl, k * 5, none⟩ = some (.slice (some ⟨bx, ox, none⟩) pk.length ss.length) ∧ W.cell? ⟨gl, k * 5 + 1, none⟩ = some (.bool ck) ∧ W.cell? ⟨gl, k * 5 + 2, none⟩ = some (.string bk) ∧ W.cell? ⟨gl, k * 5 + 3, none⟩ = some (.int .i64 vk) ∧ W.cell? ⟨gl, k * 5 + 4, none⟩ = some (.slice qa qk.length qc))) (by kernel_rfl) (HSC.out w9.drew BD9) (fun hHeld => ?_)
              simp only [List.size_toArray, List.length_cons, List.length_nil, Nat.reduceAdd, Array.replicate_succ, Array.replicate_zero, List.push_toArray, List.nil_append, List.cons_append, List.append_eq]
              refine wpAnyH_take (i := 0) (v := ?_) rfl (by kernel_rfl) (by kernel_rfl) (by kernel_rfl) (fun _ _ _ h => h) (Or.inl ⟨by rfl, ?_⟩) (by assumption) ?_
              rotate_left
              · intro w hSw; (try dsimp only at hSw); go_simp; try with_reducible rfl
              simp only [Act.put, List.getElem_toArray, List.getElem_cons_zero, List.setIfInBounds_toArray, List.set_cons_zero]
              refine wpAnyH_take (i := 1) (v := ?_) rfl (by kernel_rfl) (by kernel_rfl) (by kernel_rfl) (fun _ _ _ h => h) (Or.inl ⟨by rfl, ?_⟩) (by assumption) ?_
              rotate_left
              · intro w hSw; (try dsimp only at hSw); go_simp; try with_reducible rfl
              simp only [Act.put, List.getElem_toArray, List.getElem_cons_succ, List.getElem_cons_zero, List.setIfInBounds_toArray, List.set_cons_succ, List.set_cons_zero]
              refine wpAnyH_take (i := 2) (v := .bool false) rfl (by kernel_rfl) (by kernel_rfl) (by kernel_rfl) (fun _ _ _ h => h) (Or.inl ⟨by rfl, ?_⟩) (by assumption) ?_
              · intro w hSw; (try dsimp only at hSw); go_simp
              simp only [Act.put, List.getElem_toArray, List.getElem_cons_succ, List.getElem_cons_zero, List.setIfInBounds_toArray, List.set_cons_succ, List.set_cons_zero]
              refine wpAnyH_take (i := 3) (v := ?_) rfl (by kernel_rfl) (by kernel_rfl) (by kernel_rfl) (fun _ _ _ h => h) (Or.inl ⟨by rfl, ?_⟩) (by assumption) ?_
              rotate_left
              · intro w hSw; (try dsimp only at hSw); go_simp; try with_reducible rfl
              simp only [Act.put, List.getElem_toArray, List.getElem_cons_succ, List.getElem_cons_zero, List.setIfInBounds_toArray, List.set_cons_succ, List.set_cons_zero]
              refine wpAnyH_take (i := 4) (v := ?_) rfl (by kernel_rfl) (by kernel_rfl) (by kernel_rfl) (fun _ _ _ h => h) (Or.inl ⟨by rfl, ?_⟩) (by assumption) ?_
              rotate_left
              · intro w hSw; (try dsimp only at hSw); go_simp; try with_reducible rfl
              simp only [Act.put, List.getElem_toArray, List.getElem_cons_succ, List.getElem_cons_zero, List.setIfInBounds_toArray, List.set_cons_succ, List.set_cons_zero]
              refine wpAnyH_take (i := 5) (v := ?_) rfl (by kernel_rfl) (by kernel_rfl) (by kernel_rfl) (fun _ _ _ h => h) (Or.inl ⟨by rfl, ?_⟩) (by assumption) ?_
              rotate_left
              · intro w hSw; (try dsimp only at hSw); go_simp; try with_reducible rfl
              simp only [Act.put, List.getElem_toArray, List.getElem_cons_succ, List.getElem_cons_zero, List.setIfInBounds_toArray, List.set_cons_succ, List.set_cons_zero]
              refine wpAnyH_take (i := 6) (v := .bool false) rfl (by kernel_rfl) (by kernel_rfl) (by kernel_rfl) (fun _ _ _ h => h) (Or.inl ⟨by rfl, ?_⟩) (by assumption) ?_
              · intro w hSw; (try dsimp only at hSw); go_simp
              simp only [Act.put, List.getElem_toArray, List.getElem_cons_succ, List.getElem_cons_zero, List.setIfInBounds_toArray, List.set_cons_succ, List.set_cons_zero]
              refine wpAnyH_take (i := 7) (v := ?_) rfl (by kernel_rfl) (by kernel_rfl) (by kernel_rfl) (fun _ _ _ h => h) (Or.inl ⟨by rfl, ?_⟩) (by assumption) ?_
              rotate_left
              · intro w hSw; (try dsimp only at hSw); go_simp; try with_reducible rfl
              simp only [Act.put, List.getElem_toArray, List.getElem_cons_succ, List.getElem_cons_zero, List.setIfInBounds_toArray, List.set_cons_succ, List.set_cons_zero]
              refine wpAnyH_take (i := 8) (v := ?_) rfl (by kernel_rfl) (by kernel_rfl) (by kernel_rfl) (fun _ _ _ h => h) (Or.inl ⟨by rfl, ?_⟩) (by assumption) ?_
              rotate_left
              · intro w hSw; (try dsimp only at hSw); go_simp; try with_reducible rfl
              simp only [Act.put, List.getElem_toArray, List.getElem_cons_succ, List.getElem_cons_zero, List.setIfInBounds_toArray, List.set_cons_succ, List.set_cons_zero]
              refine wpAnyH_take (i := 9) (v := ?_) rfl (by kernel_rfl) (by kernel_rfl) (by kernel_rfl) (fun _ _ _ h => h) (Or.inl ⟨by rfl, ?_⟩) (by assumption) ?_
              rotate_left
              · intro w hSw; (try dsimp only at hSw); go_simp; try with_reducible rfl
              simp only [Act.put, List.getElem_toArray, List.getElem_cons_succ, List.getElem_cons_zero, List.setIfInBounds_toArray, List.set_cons_succ, List.set_cons_zero]
              refine wpAnyH_take (i := 10) (v := ?_) rfl (by kernel_rfl) (by kernel_rfl) (by kernel_rfl) (fun _ _ _ h => h) (Or.inl ⟨by rfl, ?_⟩) (by assumption) ?_
              rotate_left
              · intro w hSw; (try dsimp only at hSw); go_simp; try with_reducible rfl
              simp only [Act.put, List.getElem_toArray, List.getElem_cons_succ, List.getElem_cons_zero, List.setIfInBounds_toArray, List.set_cons_succ, List.set_cons_zero]
              refine wpAnyH_take (i := 11) (v := ?_) rfl (by kernel_rfl) (by kernel_rfl) (by kernel_rfl) (fun _ _ _ h => h) (Or.inl ⟨by rfl, ?_⟩) (by assumption) ?_
              rotate_left
              · intro w hSw; (try dsimp only at hSw); go_simp; try with_reducible rfl
              simp only [Act.put, List.getElem_toArray, List.getElem_cons_succ, List.getElem_cons_zero, List.setIfInBounds_toArray, List.set_cons_succ, List.set_cons_zero]
              refine wpAnyH_take (i := 12) (v := ?_) rfl (by kernel_rfl) (by kernel_rfl) (by kernel_rfl) (fun _ _ _ h => h) (Or.inl ⟨by rfl, ?_⟩) (by assumption) ?_
              rotate_left
              · intro w hSw; (try dsimp only at hSw); go_simp; try with_reducible rfl
              simp only [Act.put, List.getElem_toArray, List.getElem_cons_succ, List.getElem_cons_zero, List.setIfInBounds_toArray, List.set_cons_succ, List.set_cons_zero]
              refine wpAnyH_take (i := 13) (v := ?_) rfl (by kernel_rfl) (by kernel_rfl) (by kernel_rfl) (fun _ _ _ h => h) (Or.inl ⟨by rfl, ?_⟩) (by assumption) ?_
              rotate_left
              · intro w hSw; (try dsimp only at hSw); go_simp; try with_reducible rfl
              simp only [Act.put, List.getElem_toArray, List.getElem_cons_succ, List.getElem_cons_zero, List.setIfInBounds_toArray, List.set_cons_succ, List.set_cons_zero]
              refine wpAnyH_take (i := 14) (v := ?_) rfl (by kernel_rfl) (by kernel_rfl) (by kernel_rfl) (fun _ _ _ h => h) (Or.inl ⟨by rfl, ?_⟩) (by assumption) ?_
              rotate_left
              · intro w hSw; (try dsimp only at hSw); go_simp; try with_reducible rfl
              simp only [Act.put, List.getElem_toArray, List.getElem_cons_succ, List.getElem_cons_zero, List.setIfInBounds_toArray, List.set_cons_succ, List.set_cons_zero]
              refine wpAnyH_take (i := 15) (v := ?_) rfl (by kernel_rfl) (by kernel_rfl) (by kernel_rfl) (fun _ _ _ h => h) (Or.inl ⟨by rfl, ?_⟩) (by assumption) ?_
              rotate_left
              · intro w hSw; (try dsimp only at hSw); go_simp; try with_reducible rfl
              simp only [Act.put, List.getElem_toArray, List.getElem_cons_succ, List.getElem_cons_zero, List.setIfInBounds_toArray, List.set_cons_succ, List.set_cons_zero]
              refine wpAnyH_take (i := 16) (v := ?_) rfl (by kernel_rfl) (by kernel_rfl) (by kernel_rfl) (fun _ _ _ h => h) (Or.inl ⟨by rfl, ?_⟩) (by assumption) ?_
              rotate_left
              · intro w hSw; (try dsimp only at hSw); go_simp; try with_reducible rfl
              simp only [Act.put, List.getElem_toArray, List.getElem_cons_succ, List.getElem_cons_zero, List.setIfInBounds_toArray, List.set_cons_succ, List.set_cons_zero]
              refine wpAnyH_take (i := 17) (v := ?_) rfl (by kernel_rfl) (by kernel_rfl) (by kernel_rfl) (fun _ _ _ h => h) (Or.inl ⟨by rfl, ?_⟩) (by assumption) ?_
              rotate_left
              · intro w hSw; (try dsimp only at hSw); go_simp; try with_reducible rfl
              simp only [Act.put, List.getElem_toArray, List.getElem_cons_succ, List.getElem_cons_zero, List.setIfInBounds_toArray, List.set_cons_succ, List.set_cons_zero]
              refine wpAnyH_take (i := 18) (v := ?_) rfl (by kernel_rfl) (by kernel_rfl) (by kernel_rfl) (fun _ _ _ h => h) (Or.inl ⟨by rfl, ?_⟩) (by assumption) ?_
              rotate_left
              · intro w hSw; (try dsimp only at hSw); go_simp; try with_reducible rfl
              simp only [Act.put, List.getElem_toArray, List.getElem_cons_succ, List.getElem_cons_zero, List.setIfInBounds_toArray, List.set_cons_succ, List.set_cons_zero]
              refine wpAnyH_take (i := 19) (v := .bool false) rfl (by kernel_rfl) (by kernel_rfl) (by kernel_rfl) (fun _ _ _ h => h) (Or.inl ⟨by rfl, ?_⟩) (by assumption) ?_
              · intro w hSw; (try dsimp only at hSw); go_simp
              simp only [Act.put, List.getElem_toArray, List.getElem_cons_succ, List.getElem_cons_zero, List.setIfInBounds_toArray, List.set_cons_succ, List.set_cons_zero]
              refine wpAnyH_take (i := 20) (v := ?_) rfl (by kernel_rfl) (by kernel_rfl) (by kernel_rfl) (fun _ _ _ h => h) (Or.inl ⟨by rfl, ?_⟩) (by assumption) ?_
              rotate_left
              · intro w hSw; (try dsimp only at hSw); go_simp; try with_reducible rfl
              simp only [Act.put, List.getElem_toArray, List.getElem_cons_succ, List.getElem_cons_zero, List.setIfInBounds_toArray, List.set_cons_succ, List.set_cons_zero]
              refine wpAnyH_take (i := 21) (v := ?_) rfl (by kernel_rfl) (by kernel_rfl) (by kernel_rfl) (fun _ _ _ h => h) (Or.inl ⟨by rfl, ?_⟩) (by assumption) ?_
              rotate_left
              · intro w hSw; (try dsimp only at hSw); go_simp; try with_reducible rfl
              simp only [Act.put, List.getElem_toArray, List.getElem_cons_succ, List.getElem_cons_zero, List.setIfInBounds_toArray, List.set_cons_succ, List.set_cons_zero]
              refine wpAnyH_take (i := 22) (v := ?_) rfl (by kernel_rfl) (by kernel_rfl) (by kernel_rfl) (fun _ _ _ h => h) (Or.inl ⟨by rfl, ?_⟩) (by assumption) ?_
              rotate_left
              · intro w hSw; (try dsimp only at hSw); go_simp; try with_reducible rfl
              simp only [Act.put, List.getElem_toArray, List.getElem_cons_succ, List.getElem_cons_zero, List.setIfInBounds_toArray, List.set_cons_succ, List.set_cons_zero]
              refine wpAnyH_take (i := 23) (v := ?_) rfl (by kernel_rfl) (by kernel_rfl) (by kernel_rfl) (fun _ _ _ h => h) (Or.inl ⟨by rfl, ?_⟩) (by assumption) ?_
              rotate_left
              · intro w hSw; (try dsimp only at hSw); go_simp; try with_reducible rfl
              simp only [Act.put, List.getElem_toArray, List.getElem_cons_succ, List.getElem_cons_zero, List.setIfInBounds_toArray, List.set_cons_succ, List.set_cons_zero]
              refine wpAnyH_take (i := 24) (v := ?_) rfl (by kernel_rfl) (by kernel_rfl) (by kernel_rfl) (fun _ _ _ h => h) (Or.inl ⟨by rfl, ?_⟩) (by assumption) ?_
              rotate_left
              · intro w hSw; (try dsimp only at hSw); go_simp; try with_reducible rfl
              simp only [Act.put, List.getElem_toArray, List.getElem_cons_succ, List.getElem_cons_zero, List.setIfInBounds_toArray, List.set_cons_succ, List.set_cons_zero]
              refine wpAnyH_take (i := 25) (v := ?_) rfl (by kernel_rfl) (by kernel_rfl) (by kernel_rfl) (fun _ _ _ h => h) (Or.inl ⟨by rfl, ?_⟩) (by assumption) ?_
              rotate_left
              · intro w hSw; (try dsimp only at hSw); go_simp; try with_reducible rfl
              simp only [Act.put, List.getElem_toArray, List.getElem_cons_succ, List.getElem_cons_zero, List.setIfInBounds_toArray, List.set_cons_succ, List.set_cons_zero]
              refine wpAnyH_take (i := 26) (v := ?_) rfl (by kernel_rfl) (by kernel_rfl) (by kernel_rfl) (fun _ _ _ h => h) (Or.inl ⟨by rfl, ?_⟩) (by assumption) ?_
              rotate_left
              · intro w hSw; (try dsimp only at hSw); go_simp; try with_reducible rfl
              simp only [Act.put, List.getElem_toArray, List.getElem_cons_succ, List.getElem_cons_zero, List.setIfInBounds_toArray, List.set_cons_succ, List.set_cons_zero]
              refine wpAnyH_take (i := 27) (v := ?_) rfl (by kernel_rfl) (by kernel_rfl) (by kernel_rfl) (fun _ _ _ h => h) (Or.inl ⟨by rfl, ?_⟩) (by assumption) ?_
              rotate_left
              · intro w hSw; (try dsimp only at hSw); go_simp; try with_reducible rfl
              simp only [Act.put, List.getElem_toArray, List.getElem_cons_succ, List.getElem_cons_zero, List.setIfInBounds_toArray, List.set_cons_succ, List.set_cons_zero]
              refine wpAnyH_take (i := 28) (v := ?_) rfl (by kernel_rfl) (by kernel_rfl) (by kernel_rfl) (fun _ _ _ h => h) (Or.inl ⟨by rfl, ?_⟩) (by assumption) ?_
              rotate_left
              · intro w hSw; (try dsimp only at hSw); go_simp; try with_reducible rfl
              simp only [Act.put, List.getElem_toArray, List.getElem_cons_succ, List.getElem_cons_zero, List.setIfInBounds_toArray, List.set_cons_succ, List.set_cons_zero]
              refine wpAnyH_take (i := 29) (v := ?_) rfl (by kernel_rfl) (by kernel_rfl) (by kernel_rfl) (fun _ _ _ h => h) (Or.inl ⟨by rfl, ?_⟩) (by assumption) ?_
              rotate_left
              · intro w hSw; (try dsimp only at hSw); go_simp; try with_reducible rfl
              simp only [Act.put, List.getElem_toArray, List.getElem_cons_succ, List.getElem_cons_zero, List.setIfInBounds_toArray, List.set_cons_succ, List.set_cons_zero]
              refine wpAnyH_take (i := 30) (v := ?_) rfl (by kernel_rfl) (by kernel_rfl) (by kernel_rfl) (fun _ _ _ h => h) (Or.inl ⟨by rfl, ?_⟩) (by assumption) ?_
              rotate_left
              · intro w hSw; (try dsimp only at hSw); go_simp; try with_reducible rfl
              simp only [Act.put, List.getElem_toArray, List.getElem_cons_succ, List.getElem_cons_zero, List.setIfInBounds_toArray, List.set_cons_succ, List.set_cons_zero]
              refine wpAnyH_take (i := 31) (v := ?_) rfl (by kernel_rfl) (by kernel_rfl) (by kernel_rfl) (fun _ _ _ h => h) (Or.inl ⟨by rfl, ?_⟩) (by assumption) ?_
              rotate_left
              · intro w hSw; (try dsimp only at hSw); go_simp; try with_reducible rfl
              simp only [Act.put, List.getElem_toArray, List.getElem_cons_succ, List.getElem_cons_zero, List.setIfInBounds_toArray, List.set_cons_succ, List.set_cons_zero]
              refine wpAnyH_take (i := 32) (v := .bool false) rfl (by kernel_rfl) (by kernel_rfl) (by kernel_rfl) (fun _ _ _ h => h) (Or.inl ⟨by rfl, ?_⟩) (by assumption) ?_
              · intro w hSw; (try dsimp only at hSw); go_simp
              simp only [Act.put, List.getElem_toArray, List.getElem_cons_succ, List.getElem_cons_zero, List.setIfInBounds_toArray, List.set_cons_succ, List.set_cons_zero]
              refine wpAnyH_take (i := 33) (v := ?_) rfl (by kernel_rfl) (by kernel_rfl) (by kernel_rfl) (fun _ _ _ h => h) (Or.inl ⟨by rfl, ?_⟩) (by assumption) ?_
              rotate_left
              · intro w hSw; (try dsimp only at hSw); go_simp; try with_reducible rfl
              simp only [Act.put, List.getElem_toArray, List.getElem_cons_succ, List.getElem_cons_zero, List.setIfInBounds_toArray, List.set_cons_succ, List.set_cons_zero]
              refine wpAnyH_take (i := 34) (v := ?_) rfl (by kernel_rfl) (by kernel_rfl) (by kernel_rfl) (fun _ _ _ h => h) (Or.inl ⟨by rfl, ?_⟩) (by assumption) ?_
              rotate_left
              · intro w hSw; (try dsimp only at hSw); go_simp; try with_reducible rfl
              simp only [Act.put, List.getElem_toArray, List.getElem_cons_succ, List.getElem_cons_zero, List.setIfInBounds_toArray, List.set_cons_succ, List.set_cons_zero]
              refine wpAnyH_take (i := 35) (v := ?_) rfl (by kernel_rfl) (by kernel_rfl) (by kernel_rfl) (fun _ _ _ h => h) (Or.inl ⟨by rfl, ?_⟩) (by assumption) ?_
              rotate_left
              · intro w hSw; (try dsimp only at hSw); go_simp; try with_reducible rfl
              simp only [Act.put, List.getElem_toArray, List.getElem_cons_succ, List.getElem_cons_zero, List.setIfInBounds_toArray, List.set_cons_succ, List.set_cons_zero]
              refine wpAnyH_take (i := 36) (v := ?_) rfl (by kernel_rfl) (by kernel_rfl) (by kernel_rfl) (fun _ _ _ h => h) (Or.inl ⟨by rfl, ?_⟩) (by assumption) ?_
              rotate_left
              · intro w hSw; (try dsimp only at hSw); go_simp; try with_reducible rfl
              simp only [Act.put, List.getElem_toArray, List.getElem_cons_succ, List.getElem_cons_zero, List.setIfInBounds_toArray, List.set_cons_succ, List.set_cons_zero]
              refine wpAnyH_take (i := 37) (v := ?_) rfl (by kernel_rfl) (by kernel_rfl) (by kernel_rfl) (fun _ _ _ h => h) (Or.inl ⟨by rfl, ?_⟩) (by assumption) ?_
              rotate_left
              · intro w hSw; (try dsimp only at hSw); go_simp; try with_reducible rfl
              simp only [Act.put, List.getElem_toArray, List.getElem_cons_succ, List.getElem_cons_zero, List.setIfInBounds_toArray, List.set_cons_succ, List.set_cons_zero]
              refine wpAnyH_take (i := 38) (v := ?_) rfl (by kernel_rfl) (by kernel_rfl) (by kernel_rfl) (fun _ _ _ h => h) (Or.inl ⟨by rfl, ?_⟩) (by assumption) ?_
              rotate_left
              · intro w hSw; (try dsimp only at hSw); go_simp; try with_reducible rfl
              simp only [Act.put, List.getElem_toArray, List.getElem_cons_succ, List.getElem_cons_zero, List.setIfInBounds_toArray, List.set_cons_succ, List.set_cons_zero]
              refine wpAnyH_take (i := 39) (v := ?_) rfl (by kernel_rfl) (by kernel_rfl) (by kernel_rfl) (fun _ _ _ h => h) (Or.inl ⟨by rfl, ?_⟩) (by assumption) ?_
              rotate_left
              · intro w hSw; (try dsimp only at hSw); go_simp; try with_reducible rfl
              simp only [Act.put, List.getElem_toArray, List.getElem_cons_succ, List.getElem_cons_zero, List.setIfInBounds_toArray, List.set_cons_succ, List.set_cons_zero]
              refine wpAnyH_take (i := 40) (v := .bool false) rfl (by kernel_rfl) (by kernel_rfl) (by kernel_rfl) (fun _ _ _ h => h) (Or.inl ⟨by rfl, ?_⟩) (by assumption) ?_
              · intro w hSw; (try dsimp only at hSw); go_simp
              simp only [Act.put, List.getElem_toArray, List.getElem_cons_succ, List.getElem_cons_zero, List.setIfInBounds_toArray, List.set_cons_succ, List.set_cons_zero]
              refine wpAnyH_take (i := 41) (v := ?_) rfl (by kernel_rfl) (by kernel_rfl) (by kernel_rfl) (fun _ _ _ h => h) (Or.inl ⟨by rfl, ?_⟩) (by assumption) ?_
              rotate_left
              · intro w hSw; (try dsimp only at hSw); go_simp; try with_reducible rfl
              simp only [Act.put, List.getElem_toArray, List.getElem_cons_succ, List.getElem_cons_zero, List.setIfInBounds_toArray, List.set_cons_succ, List.set_cons_zero]
              refine wpAnyH_take (i := 42) (v := ?_) rfl (by kernel_rfl) (by kernel_rfl) (by kernel_rfl) (fun _ _ _ h => h) (Or.inl ⟨by rfl, ?_⟩) (by assumption) ?_
              rotate_left
              · intro w hSw; (try dsimp only at hSw); go_simp; try with_reducible rfl
              simp only [Act.put, List.getElem_toArray, List.getElem_cons_succ, List.getElem_cons_zero, List.setIfInBounds_toArray, List.set_cons_succ, List.set_cons_zero]
              refine wpAnyH_take (i := 43) (v := ?_) rfl (by kernel_rfl) (by kernel_rfl) (by kernel_rfl) (fun _ _ _ h => h) (Or.inl ⟨by rfl, ?_⟩) (by assumption) ?_
              rotate_left
              · intro w hSw; (try dsimp only at hSw); go_simp; try with_reducible rfl
              simp only [Act.put, List.getElem_toArray, List.getElem_cons_succ, List.getElem_cons_zero, List.setIfInBounds_toArray, List.set_cons_succ, List.set_cons_zero]
              refine wpAnyH_take (i := 44) (v := ?_) rfl (by kernel_rfl) (by kernel_rfl) (by kernel_rfl) (fun _ _ _ h => h) (Or.inl ⟨by rfl, ?_⟩) (by assumption) ?_
              rotate_left
              · intro w hSw; (try dsimp only at hSw); go_simp; try with_reducible rfl
              simp only [Act.put, List.getElem_toArray, List.getElem_cons_succ, List.getElem_cons_zero, List.setIfInBounds_toArray, List.set_cons_succ, List.set_cons_zero]
              refine wpAnyH_take (i := 45) (v := ?_) rfl (by kernel_rfl) (by kernel_rfl) (by kernel_rfl) (fun _ _ _ h => h) (Or.inl ⟨by rfl, ?_⟩) (by assumption) ?_
              rotate_left
              · intro w hSw; (try dsimp only at hSw); go_simp; try with_reducible rfl
              simp only [Act.put, List.getElem_toArray, List.getElem_cons_succ, List.getElem_cons_zero, List.setIfInBounds_toArray, List.set_cons_succ, List.set_cons_zero]
              refine wpAnyH_take (i := 46) (v := ?_) rfl (by kernel_rfl) (by kernel_rfl) (by kernel_rfl) (fun _ _ _ h => h) (Or.inl ⟨by rfl, ?_⟩) (by assumption) ?_
              rotate_left
              · intro w hSw; (try dsimp only at hSw); go_simp; try with_reducible rfl
              simp only [Act.put, List.getElem_toArray, List.getElem_cons_succ, List.getElem_cons_zero, List.setIfInBounds_toArray, List.set_cons_succ, List.set_cons_zero]
              refine wpAnyH_take (i := 47) (v := ?_) rfl (by kernel_rfl) (by kernel_rfl) (by kernel_rfl) (fun _ _ _ h => h) (Or.inl ⟨by rfl, ?_⟩) (by assumption) ?_
              rotate_left
              · intro w hSw; (try dsimp only at hSw); go_simp; try with_reducible rfl
              simp only [Act.put, List.getElem_toArray, List.getElem_cons_succ, List.getElem_cons_zero, List.setIfInBounds_toArray, List.set_cons_succ, List.set_cons_zero]
              refine wpAnyH_take (i := 48) (v := ?_) rfl (by kernel_rfl) (by kernel_rfl) (by kernel_rfl) (fun _ _ _ h => h) (Or.inl ⟨by rfl, ?_⟩) (by assumption) ?_
              rotate_left
              · intro w hSw; (try dsimp only at hSw); go_simp; try with_reducible rfl
              simp only [Act.put, List.getElem_toArray, List.getElem_cons_succ, List.getElem_cons_zero, List.setIfInBounds_toArray, List.set_cons_succ, List.set_cons_zero]
              refine wpAnyH_take (i := 49) (v := ?_) rfl (by kernel_rfl) (by kernel_rfl) (by kernel_rfl) (fun _ _ _ h => h) (Or.inl ⟨by rfl, ?_⟩) (by assumption) ?_
              rotate_left
              · intro w hSw; (try dsimp only at hSw); go_simp; try with_reducible rfl
              simp only [Act.put, List.getElem_toArray, List.getElem_cons_succ, List.getElem_cons_zero, List.setIfInBounds_toArray, List.set_cons_succ, List.set_cons_zero]
              refine wpAnyH_take (i := 50) (v := ?_) rfl (by kernel_rfl) (by kernel_rfl) (by kernel_rfl) (fun _ _ _ h => h) (Or.inl ⟨by rfl, ?_⟩) (by assumption) ?_
              rotate_left
              · intro w hSw; (try dsimp only at hSw); go_simp; try with_reducible rfl
              simp only [Act.put, List.getElem_toArray, List.getElem_cons_succ, List.getElem_cons_zero, List.setIfInBounds_toArray, List.set_cons_succ, List.set_cons_zero]
              refine wpAnyH_ready (rs := [51]) (by kernel_rfl) (by simp) ?_
              refine AllReadyH.cons rfl (fun K hK => ?_) AllReadyH.nil
              go_simp
              refine (HSP.out _ BD9).mono ?_
              rintro e w10 ⟨rfl, b10'⟩
              have c10 := hide (BD9.trans (b10' w9.drew.heap.size))
              refine hK.out _ _ (HSC.out w10 c10.out) (fun hHeld2 => ?_)
              clear hK K hHeld
              have hHeld := hHeld2
              clear hHeld2
              simp only [List.setIfInBounds_toArray, List.set_cons_succ, List.set_cons_zero]
              refine wpAnyH_take (i := 52) (v := ?_) rfl (by kernel_rfl) (by kernel_rfl) (by kernel_rfl) (fun _ _ _ h => h) (Or.inl ⟨by rfl, ?_⟩) (by assumption) ?_
              rotate_left
              · intro w hSw; (try dsimp only at hSw); go_simp; try with_reducible rfl
              simp only [Act.put, List.getElem_toArray, List.getElem_cons_succ, List.getElem_cons_zero, List.setIfInBounds_toArray, List.set_cons_succ, List.set_cons_zero]
              refine wpAnyH_take (i := 53) (v := ?_) rfl (by kernel_rfl) (by kernel_rfl) (by kernel_rfl) (fun _ _ _ h => h) (Or.inl ⟨by rfl, ?_⟩) (by assumption) ?_
              rotate_left
              · intro w hSw; (try dsimp only at hSw); go_simp; try with_reducible rfl
              simp only [Act.put, List.getElem_toArray, List.getElem_cons_succ, List.getElem_cons_zero, List.setIfInBounds_toArray, List.set_cons_succ, List.set_cons_zero]
              refine wpAnyH_take (i := 54) (v := .bool false) rfl (by kernel_rfl) (by kernel_rfl) (by kernel_rfl) (fun _ _ _ h => h) (Or.inl ⟨by rfl, ?_⟩) (by assumption) ?_
              · intro w hSw; (try dsimp only at hSw); go_simp
              simp only [Act.put, List.getElem_toArray, List.getElem_cons_succ, List.getElem_cons_zero, List.setIfInBounds_toArray, List.set_cons_succ, List.set_cons_zero]
              refine wpAnyH_take (i := 55) (v := ?_) rfl (by kernel_rfl) (by kernel_rfl) (by kernel_rfl) (fun _ _ _ h => h) (Or.inl ⟨by rfl, ?_⟩) (by assumption) ?_
              rotate_left
              · intro w hSw; (try dsimp only at hSw); go_simp; try with_reducible rfl
              simp only [Act.put, List.getElem_toArray, List.getElem_cons_succ, List.getElem_cons_zero, List.setIfInBounds_toArray, List.set_cons_succ, List.set_cons_zero]
              refine wpAnyH_take (i := 56) (v := ?_) rfl (by kernel_rfl) (by kernel_rfl) (by kernel_rfl) (fun _ _ _ h => h) (Or.inl ⟨by rfl, ?_⟩) (by assumption) ?_
              rotate_left
              · intro w hSw; (try dsimp only at hSw); go_simp; try with_reducible rfl
              simp only [Act.put, List.getElem_toArray, List.getElem_cons_succ, List.getElem_cons_zero, List.setIfInBounds_toArray, List.set_cons_succ, List.set_cons_zero]
              refine wpAnyH_take (i := 57) (v := ?_) rfl (by kernel_rfl) (by kernel_rfl) (by kernel_rfl) (fun _ _ _ h => h) (Or.inl ⟨by rfl, ?_⟩) (by assumption) ?_
              rotate_left
              · intro w hSw; (try dsimp only at hSw); go_simp; try with_reducible rfl
              simp only [Act.put, List.getElem_toArray, List.getElem_cons_succ, List.getElem_cons_zero, List.setIfInBounds_toArray, List.set_cons_succ, List.set_cons_zero]
              refine wpAnyH_take (i := 58) (v := ?_) rfl (by kernel_rfl) (by kernel_rfl) (by kernel_rfl) (fun _ _ _ h => h) (Or.inl ⟨by rfl, ?_⟩) (by assumption) ?_
              rotate_left
              · intro w hSw; (try dsimp only at hSw); go_simp; try with_reducible rfl
              simp only [Act.put, List.getElem_toArray, List.getElem_cons_succ, List.getElem_cons_zero, List.setIfInBounds_toArray, List.set_cons_succ, List.set_cons_zero]
              refine wpAnyH_take (i := 59) (v := ?_) rfl (by kernel_rfl) (by kernel_rfl) (by kernel_rfl) (fun _ _ _ h => h) (Or.inl ⟨by rfl, ?_⟩) (by assumption) ?_
              rotate_left
              · intro w hSw; (try dsimp only at hSw); go_simp; try with_reducible rfl
              simp only [Act.put, List.getElem_toArray, List.getElem_cons_succ, List.getElem_cons_zero, List.setIfInBounds_toArray, List.set_cons_succ, List.set_cons_zero]
              refine wpAnyH_take (i := 60) (v := ?_) rfl (by kernel_rfl) (by kernel_rfl) (by kernel_rfl) (fun _ _ _ h => h) (Or.inl ⟨by rfl, ?_⟩) (by assumption) ?_
              rotate_left
              · intro w hSw; (try dsimp only at hSw); go_simp; try with_reducible rfl
              simp only [Act.put, List.getElem_toArray, List.getElem_cons_succ, List.getElem_cons_zero, List.setIfInBounds_toArray, List.set_cons_succ, List.set_cons_zero]
              refine wpAnyH_take (i := 61) (v := ?_) rfl (by kernel_rfl) (by kernel_rfl) (by kernel_rfl) (fun _ _ _ h => h) (Or.inl ⟨by rfl, ?_⟩) (by assumption) ?_
              rotate_left
              · intro w hSw; (try dsimp only at hSw); go_simp; try with_reducible rfl
              simp only [Act.put, List.getElem_toArray, List.getElem_cons_succ, List.getElem_cons_zero, List.setIfInBounds_toArray, List.set_cons_succ, List.set_cons_zero]
              refine wpAnyH_take (i := 62) (v := ?_) rfl (by kernel_rfl) (by kernel_rfl) (by kernel_rfl) (fun _ _ _ h => h) (Or.inl ⟨by rfl, ?_⟩) (by assumption) ?_
              rotate_left
              · intro w hSw; (try dsimp only at hSw); go_simp; try with_reducible rfl
              simp only [Act.put, List.getElem_toArray, List.getElem_cons_succ, List.getElem_cons_zero, List.setIfInBounds_toArray, List.set_cons_succ, List.set_cons_zero]
              refine wpAnyH_ready (rs := [63]) (by kernel_rfl) (by simp) ?_
              refine AllReadyH.cons rfl (fun K hK => ?_) AllReadyH.nil
              go_simp
              refine (HSR.out w10 c10.out).mono ?_
              rintro e w11 ⟨rfl, b11⟩
              have c11 := hide (c10.out.trans (b11.mono c10.out.size))
              refine hK.out _ _ (HSC.out w11 c11.out) (fun hHeld2 => ?_)
              clear hK K hHeld
              have hHeld := hHeld2
              clear hHeld2
              simp only [List.setIfInBounds_toArray, List.set_cons_succ, List.set_cons_zero]
              refine wpAnyH_take (i := 64) (v := ?_) rfl (by kernel_rfl) (by kernel_rfl) (by kernel_rfl) (fun _ _ _ h => h) (Or.inl ⟨by rfl, ?_⟩) (by assumption) ?_
              rotate_left
              · intro w hSw; (try dsimp only at hSw); go_simp; try with_reducible rfl
              simp only [Act.put, List.getElem_toArray, List.getElem_cons_succ, List.getElem_cons_zero, List.setIfInBounds_toArray, List.set_cons_succ, List.set_cons_zero]
              refine wpAnyH_take (i := 65) (v := ?_) rfl (by kernel_rfl) (by kernel_rfl) (by kernel_rfl) (fun _ _ _ h => h) (Or.inl ⟨by rfl, ?_⟩) (by assumption) ?_
              rotate_left
              · intro w hSw; (try dsimp only at hSw); go_simp; try with_reducible rfl
              simp only [Act.put, List.getElem_toArray, List.getElem_cons_succ, List.getElem_cons_zero, List.setIfInBounds_toArray, List.set_cons_succ, List.set_cons_zero]
              refine wpAnyH_done (by kernel_rfl) ?_ _
              clear hHeld
              have HE11 := hide (C9.out.trans (c11.out.mono C9.out.size))
              go_wp2
              go_roundw
              case rel => exact ⟨k + 1, by omega, by go_num, HE11.out⟩
              case measure => simp [intOf]; omega
          · as_aux_lemma =>
              refine wp_region_held_drew (S := (fun W => W.cell? ⟨gl, k * 5, none⟩ = some (.slice (some ⟨bx, ox, none⟩) pk.length cx))) (by kernel_rfl) (kp (wA := wr.drew) (Below.refl _ _)) (fun hHeld => ?_)
              simp only [List.size_toArray, List.length_cons, List.length_nil, Nat.reduceAdd, Array.replicate_succ, Array.replicate_zero, List.push_toArray, List.nil_append, List.cons_append]
              refine wpAnyH_take (i := 1) (v := ?_) rfl (by kernel_rfl) (by kernel_rfl) (by kernel_rfl) (fun _ _ _ h => h) (Or.inl ⟨by rfl, ?_⟩) (by assumption) ?_
              rotate_left
              · intro w hSw; (try dsimp only at hSw); go_simp; try with_reducible rfl
              simp only [Act.put, List.getElem_toArray, List.getElem_cons_succ, List.getElem_cons_zero, List.setIfInBounds_toArray, List.set_cons_succ, List.set_cons_zero]
              refine wpAnyH_take (i := 3) (v := ?_) rfl (by kernel_rfl) (by kernel_rfl) (by kernel_rfl) (fun _ _ _ h => h) (Or.inl ⟨by rfl, ?_⟩) (by assumption) ?_
              rotate_left
              · intro w hSw; (try dsimp only at hSw); go_simp; try with_reducible rfl
              simp only [Act.put, List.getElem_toArray, List.getElem_cons_succ, List.getElem_cons_zero, List.setIfInBounds_toArray, List.set_cons_succ, List.set_cons_zero]
              refine wpAnyH_take (i := 4) (v := ?_) rfl (by kernel_rfl) (by kernel_rfl) (by kernel_rfl) (fun _ _ _ h => h) (Or.inl ⟨by rfl, ?_⟩) (by assumption) ?_
              rotate_left
              · intro w hSw; (try dsimp only at hSw); go_simp; try with_reducible rfl
              simp only [Act.put, List.getElem_toArray, List.getElem_cons_succ, List.getElem_cons_zero, List.setIfInBounds_toArray, List.set_cons_succ, List.set_cons_zero]
              refine wpAnyH_take (i := 5) (v := ?_) rfl (by kernel_rfl) (by kernel_rfl) (by kernel_rfl) (fun _ _ _ h => h) (Or.inl ⟨by rfl, ?_⟩) (by assumption) ?_
              rotate_left
              · intro w hSw; (try dsimp only at hSw); go_simp; try with_reducible rfl
              simp only [Act.put, List.getElem_toArray, List.getElem_cons_succ, List.getElem_cons_zero, List.setIfInBounds_toArray, List.set_cons_succ, List.set_cons_zero]
              refine wpAnyH_take (i := 6) (v := ?_) rfl (by kernel_rfl) (by kernel_rfl) (by kernel_rfl) (fun _ _ _ h => h) (Or.inl ⟨by rfl, ?_⟩) (by assumption) ?_
              rotate_left
              · intro w hSw; (try dsimp only at hSw); go_simp; try with_reducible rfl
              simp only [Act.put, List.getElem_toArray, List.getElem_cons_succ, List.getElem_cons_zero, List.setIfInBounds_toArray, List.set_cons_succ, List.set_cons_zero]
              refine wpAnyH_take (i := 7) (v := ?_) rfl (by kernel_rfl) (by kernel_rfl) (by kernel_rfl) (fun _ _ _ h => h) (Or.inl ⟨by rfl, ?_⟩) (by assumption) ?_
              rotate_left
              · intro w hSw; (try dsimp only at hSw); go_simp; try with_reducible rfl
              simp only [Act.put, List.getElem_toArray, List.getElem_cons_succ, List.getElem_cons_zero, List.setIfInBounds_toArray, List.set_cons_succ, List.set_cons_zero]
              refine wpAnyH_take (i := 8) (v := ?_) rfl (by kernel_rfl) (by kernel_rfl) (by kernel_rfl) (fun _ _ _ h => h) (Or.inl ⟨by rfl, ?_⟩) (by assumption) ?_
              rotate_left
              · intro w hSw; (try dsimp only at hSw); go_simp; try with_reducible rfl
              simp only [Act.put, List.getElem_toArray, List.getElem_cons_succ, List.getElem_cons_zero, List.setIfInBounds_toArray, List.set_cons_succ, List.set_cons_zero]
              refine wpAnyH_take (i := 9) (v := ?_) rfl (by kernel_rfl) (by kernel_rfl) (by kernel_rfl) (fun _ _ _ h => h) (Or.inl ⟨by rfl, ?_⟩) (by assumption) ?_
              rotate_left
              · intro w hSw; (try dsimp only at hSw); go_simp; try with_reducible rfl
              simp only [Act.put, List.getElem_toArray, List.getElem_cons_succ, List.getElem_cons_zero, List.setIfInBounds_toArray, List.set_cons_succ, List.set_cons_zero]
              refine wpAnyH_take (i := 10) (v := ?_) rfl (by kernel_rfl) (by kernel_rfl) (by kernel_rfl) (fun _ _ _ h => h) (Or.inl ⟨by rfl, ?_⟩) (by assumption) ?_
              rotate_left
              · intro w hSw; (try dsimp only at hSw); go_simp; try with_reducible rfl
              simp only [Act.put, List.getElem_toArray, List.getElem_cons_succ, List.getElem_cons_zero, List.setIfInBounds_toArray, List.set_cons_succ, List.set_cons_zero]
              refine wpAnyH_ready (rs := [0]) (by kernel_rfl) (by simp) ?_
              refine AllReadyH.cons rfl (fun K hK => ?_) AllReadyH.nil
              go_simp
              refine hK.out _ _ (kp (wA := _) ((Below.refl _ _).alloc (Nat.le_refl _) _)) (fun hHeld2 => ?_)
              have k4 := (Below.refl wr.drew.heap.size wr.drew).alloc (Nat.le_refl _) (Obj.cells #[] 9)
              have hT4 := hide (HTQ.out.below k4 (Nat.le_refl _))
              clear hK K hHeld
              have hHeld := hHeld2
              clear hHeld2
              simp only [List.setIfInBounds_toArray, List.set_cons_succ, List.set_cons_zero]
              refine wpAnyH_ready (rs := [2]) (by kernel_rfl) (by simp) ?_
              refine AllReadyH.cons rfl (fun K hK => ?_) AllReadyH.nil
              refine step_append_ownT rfl _ _ 25 rfl wr.heap.size 9 ii _ 1 16 Tryz.underlying25 hii hz hsz hby rfl (by omega) (.slice (some ⟨wr.heap.size, 0, none⟩) 0 0) 0 [] (by simp [Act.eval, Act.put]) (World.ownsRow_made wr.drew #[] 0 (Nat.le_refl _) (by decide) rfl) ⟨gq, 0, none⟩ tt.length cq (strV tt) (by simp [Act.eval, Act.put]) (by rw [strV_length]; omega) (strs_cells hT4.out) (strV_one _) (by unfold maxLen; omega) (by omega) (by simp) ?_
              intro v5 w5 hown5 hgr5
              have b5 := k4.trans (below_own (e := 9) (size := 1) (World.ownsRow_made wr.drew #[] 0 (Nat.le_refl _) (by decide) rfl) hgr5 (Nat.le_refl _) (by simp))
              have HO5 := hide hown5
              refine hK.out _ _ (kp (wA := w5) b5) (fun hHeld2 => ?_)
              clear hown5 hgr5
              clear hK K hHeld
              have hHeld := hHeld2
              clear hHeld2
              simp only [List.setIfInBounds_toArray, List.set_cons_succ, List.set_cons_zero]
              refine wpAnyH_ready (rs := [11]) (by kernel_rfl) (by simp) ?_
              refine AllReadyH.cons rfl (fun K hK => ?_) AllReadyH.nil
              refine step_append_ownT rfl _ _ 25 rfl wr.heap.size 9 ii _ 1 16 Tryz.underlying25 hii hz hsz hby rfl (by omega) v5 (0 + tt.length) ([] ++ strV tt) (by simp [Act.eval, Act.put]) HO5.out ⟨bx, ox + ss.length, none⟩ (pk.length - ss.length) (cx - ss.length) (strV (pk.drop ss.length)) (by simp [Act.eval, Act.put]) (by rw [strV_length, List.length_drop]; omega) (HSF.out w5 b5) (strV_one _) (by unfold maxLen; omega) (by omega) (by have := b5.size; show wr.heap.size ≤ w5.heap.size; exact this) ?_
              intro v6 w6 hown6 hgr6
              obtain ⟨b9, c8, rfl, q1, q2, q3, hst6⟩ := row_got (ss := np) hown6 (by omega) (by rw [← HNP.out, List.nil_append, strV_append]) (by rw [HNL.out]; omega)
              have b6 := b5.trans (below_own HO5.out hgr6 (Nat.le_refl _) (by have := b5.size; exact this))
              refine hK.out _ _ (kp (wA := w6) b6) (fun hHeld2 => ?_)
              clear hown6 hgr6
              clear hK K hHeld
              have hHeld := hHeld2
              clear hHeld2
              simp only [List.setIfInBounds_toArray, List.set_cons_succ, List.set_cons_zero]
              refine wpAnyH_take (i := 12) (v := ?_) rfl (by kernel_rfl) (by kernel_rfl) (by kernel_rfl) (fun _ _ _ h => h) (Or.inl ⟨by rfl, ?_⟩) (by assumption) ?_
              rotate_left
              · intro w hSw; (try dsimp only at hSw); go_simp; try with_reducible rfl
              simp only [Act.put, List.getElem_toArray, List.getElem_cons_succ, List.getElem_cons_zero, List.setIfInBounds_toArray, List.set_cons_succ, List.set_cons_zero]
              refine wpAnyH_done (by kernel_rfl) ?_ _
              clear hHeld
              have b6r : Below wr.heap.size wr w6 := (belowDF (Below.refl wr.heap.size wr)).trans b6
              have c6 := hbe.trans (b6r.mono zr)
              have HF14 := hide (findRes_any (some ⟨gx, 0, none⟩) X cx0 w4.heap.size (some ⟨b9, 0, none⟩) np c8 w6.heap.size w6 (HX4.out.below c6 (Nat.le_refl _)) hst6 hxm hnm c6.size (Nat.le_refl _))
              rw [hf1] at HF14
              clear hst6 HO5 hT4 q1 q2 q3 b5 k4 b6 HTQ HSF kp
              go_wp2_with fail
              refine HF14.out.mono ?_
              rintro e w7 ⟨rfl, b7⟩
              have b7r := b6r.trans (b7.mono b6r.size)
              have c7 := hbe.trans (b7r.mono zr)
              have m0 : w7.cell? ⟨gl, k * 5, none⟩ = some (.slice (some ⟨bx, ox, none⟩) pk.length cx) := (b7r.cell (p := ⟨gl, k * 5, none⟩) hglr).trans HLC.out.1
              have HF15 := hide (findRes_any (some ⟨gx, 0, none⟩) X cx0 w4.heap.size (some ⟨bx, ox, none⟩) pk cx w4.heap.size w7 (HX4.out.below c7 (Nat.le_refl _)) (hph.below b7r zr) hxm hkm c7.size c7.size)
              rw [hf2] at HF15
              clear b7 HF14 c6 b6r
              go_wp2_with fail
              refine HF15.out.mono ?_
              rintro e w9 ⟨rfl, b8⟩
              have b9r := b7r.trans (b8.mono b7r.size)
              have C9 := hide (hbe.trans (b9r.mono zr))
              have z9 := b9r.size
              clear m0 b8 HF15 b7r c7
              have hgx9 : gx < w9.heap.size := by omega
              have hgl9 : gl < w9.heap.size := by omega
              have BD9 : Below w9.heap.size w9 w9.drew := belowDF (Below.refl w9.heap.size w9)
              have HSC := hide (fun W (hb : Below w9.heap.size w9 W) => show W.cell? ⟨gx, i1 * 5, none⟩ = some (.slice pa1 np.length pc1) ∧ W.cell? ⟨gx, i1 * 5 + 1, none⟩ = some (.bool ck) ∧ W.cell? ⟨gx, i1 * 5 + 2, none⟩ = some (.string bk) ∧ W.cell? ⟨gx, i1 * 5 + 3, none⟩ = some (.int .i64 88) ∧ W.cell? ⟨gx, i1 * 5 + 4, none⟩ = some (.slice qa1 qk.length qc1) ∧ W.cell? ⟨gx, j1 * 5, none⟩ = some (.slice pa2 pk.length pc2) ∧ W.cell? ⟨gx, j1 * 5 + 1, none⟩ = some (.bool ck) ∧ W.cell? ⟨gx, j1 * 5 + 2, none⟩ = some (.string bk) ∧ W.cell? ⟨gx, j1 * 5 + 3, none⟩ = some (.int .i64 vk) ∧ W.cell? ⟨gx, j1 * 5 + 4, none⟩ = some (.slice qa2 qk.length qc2) ∧ W.cell? ⟨gl, k * 5, none⟩ = some (.slice (some ⟨bx, ox, none⟩) pk.length cx) ∧ W.cell? ⟨gl, k * 5 + 1, none⟩ = some (.bool ck) ∧ W.cell? ⟨gl, k * 5 + 2, none⟩ = some (.string bk) ∧ W.cell? ⟨gl, k * 5 + 3, none⟩ = some (.int .i64 vk) ∧ W.cell? ⟨gl, k * 5 + 4, none⟩ = some (.slice qa qk.length qc) from by
                obtain ⟨n0, n1, n2, n3, n4⟩ := HNC.out
                obtain ⟨o0, o1, o2, o3, o4⟩ := HOC.out
                obtain ⟨l0, l1, l2, l3, l4⟩ := HLC.out
                have kx : ∀ (o : Nat) (v : Value), wr.cell? ⟨gx, o, none⟩ = some v → W.cell? ⟨gx, o, none⟩ = some v := fun o v h => (hb.cell (p := ⟨gx, o, none⟩) hgx9).trans ((b9r.cell (p := ⟨gx, o, none⟩) hgxr).trans h)
                have kl : ∀ (o : Nat) (v : Value), wr.cell? ⟨gl, o, none⟩ = some v → W.cell? ⟨gl, o, none⟩ = some v := fun o v h => (hb.cell (p := ⟨gl, o, none⟩) hgl9).trans ((b9r.cell (p := ⟨gl, o, none⟩) hglr).trans h)
                exact ⟨kx _ _ n0, kx _ _ n1, kx _ _ n2, kx _ _ n3, kx _ _ n4, kx _ _ o0, kx _ _ o1, kx _ _ o2, kx _ _ o3, kx _ _ o4, kl _ _ l0, kl _ _ l1, kl _ _ l2, kl _ _ l3, kl _ _ l4⟩)
              have HSP := hide (fun W (hb : Below w9.heap.size w9 W) => sameProps_same qa1 qa qk qc1 qc w4.heap.size w4.heap.size W (HIN1.out.below (b9r.trans (hb.mono z9)) zr).qh (HIN.out.below (b9r.trans (hb.mono z9)) zr).qh hqkm)
              have HSR := hide (fun W (hb : Below w9.heap.size w9 W) => sameRes_same ⟨pk, ck, bk, vk, qk⟩ pa2 pc2 qa2 qc2 (some ⟨bx, ox, none⟩) cx qa qc w4.heap.size w4.heap.size W (HIN2.out.below (b9r.trans (hb.mono z9)) zr) (HIN.out.below (b9r.trans (hb.mono z9)) zr) (Nat.le_trans C9.out.size hb.size) (Nat.le_trans C9.out.size hb.size))
              clear HIN HIN1 HIN2 HNC HOC HLC
              go_wp2
              refine wp_region_held_drew (S := (fun W => W.cell? ⟨gx, i1 * 5, none⟩ = some (.slice pa1 np.length pc1) ∧ W.cell? ⟨gx, i1 * 5 + 1, none⟩ = some (.bool ck) ∧ W.cell? ⟨gx, i1 * 5 + 2, none⟩ = some (.string bk) ∧ W.cell? ⟨gx, i1 * 5 + 3, none⟩ = some (.int .i64 88) ∧ W.cell? ⟨gx, i1 * 5 + 4, none⟩ = some (.slice qa1 qk.length qc1) ∧ W.cell? ⟨gx, j1 * 5, none⟩ = some (.slice pa2 pk.length pc2) ∧ W.cell? ⟨gx, j1 * 5 + 1, none⟩ = some (.bool ck) ∧ W.cell? ⟨gx, j1 * 5 + 2, none⟩ = some (.string bk) ∧ W.cell? ⟨gx, j1 * 5 + 3, none⟩ = some (.int .i64 vk) ∧ W.cell? ⟨gx, j1 * 5 + 4, none⟩ = some (.slice qa2 qk.length qc2) ∧ W.cell? ⟨gl, k * 5, none⟩ = some (.slice (some ⟨bx, ox, none⟩) pk.length cx) ∧ W.cell? ⟨gl, k * 5 + 1, none⟩ = some (.bool ck) ∧ W.cell? ⟨gl, k * 5 + 2, none⟩ = some (.string bk) ∧ W.cell? ⟨gl, k * 5 + 3, none⟩ = some (.int .i64 vk) ∧ W.cell? ⟨gl, k * 5 + 4, none⟩ = some (.slice qa qk.length qc))) (by kernel_rfl) (HSC.out w9.drew BD9) (fun hHeld => ?_)
              simp only [List.size_toArray, List.length_cons, List.length_nil, Nat.reduceAdd, Array.replicate_succ, Array.replicate_zero, List.push_toArray, List.nil_append, List.cons_append, List.append_eq]
              refine wpAnyH_take (i := 0) (v := ?_) rfl (by kernel_rfl) (by kernel_rfl) (by kernel_rfl) (fun _ _ _ h => h) (Or.inl ⟨by rfl, ?_⟩) (by assumption) ?_
              rotate_left
              · intro w hSw; (try dsimp only at hSw); go_simp; try with_reducible rfl
              simp only [Act.put, List.getElem_toArray, List.getElem_cons_zero, List.setIfInBounds_toArray, List.set_cons_zero]
              refine wpAnyH_take (i := 1) (v := ?_) rfl (by kernel_rfl) (by kernel_rfl) (by kernel_rfl) (fun _ _ _ h => h) (Or.inl ⟨by rfl, ?_⟩) (by assumption) ?_
              rotate_left
              · intro w hSw; (try dsimp only at hSw); go_simp; try with_reducible rfl
              simp only [Act.put, List.getElem_toArray, List.getElem_cons_succ, List.getElem_cons_zero, List.setIfInBounds_toArray, List.set_cons_succ, List.set_cons_zero]
              refine wpAnyH_take (i := 2) (v := .bool false) rfl (by kernel_rfl) (by kernel_rfl) (by kernel_rfl) (fun _ _ _ h => h) (Or.inl ⟨by rfl, ?_⟩) (by assumption) ?_
              · intro w hSw; (try dsimp only at hSw); go_simp
              simp only [Act.put, List.getElem_toArray, List.getElem_cons_succ, List.getElem_cons_zero, List.setIfInBounds_toArray, List.set_cons_succ, List.set_cons_zero]
              refine wpAnyH_take (i := 3) (v := ?_) rfl (by kernel_rfl) (by kernel_rfl) (by kernel_rfl) (fun _ _ _ h => h) (Or.inl ⟨by rfl, ?_⟩) (by assumption) ?_
              rotate_left
              · intro w hSw; (try dsimp only at hSw); go_simp; try with_reducible rfl
              simp only [Act.put, List.getElem_toArray, List.getElem_cons_succ, List.getElem_cons_zero, List.setIfInBounds_toArray, List.set_cons_succ, List.set_cons_zero]
              refine wpAnyH_take (i := 4) (v := ?_) rfl (by kernel_rfl) (by kernel_rfl) (by kernel_rfl) (fun _ _ _ h => h) (Or.inl ⟨by rfl, ?_⟩) (by assumption) ?_
              rotate_left
              · intro w hSw; (try dsimp only at hSw); go_simp; try with_reducible rfl
              simp only [Act.put, List.getElem_toArray, List.getElem_cons_succ, List.getElem_cons_zero, List.setIfInBounds_toArray, List.set_cons_succ, List.set_cons_zero]
              refine wpAnyH_take (i := 5) (v := ?_) rfl (by kernel_rfl) (by kernel_rfl) (by kernel_rfl) (fun _ _ _ h => h) (Or.inl ⟨by rfl, ?_⟩) (by assumption) ?_
              rotate_left
              · intro w hSw; (try dsimp only at hSw); go_simp; try with_reducible rfl
              simp only [Act.put, List.getElem_toArray, List.getElem_cons_succ, List.getElem_cons_zero, List.setIfInBounds_toArray, List.set_cons_succ, List.set_cons_zero]
              refine wpAnyH_take (i := 6) (v := .bool false) rfl (by kernel_rfl) (by kernel_rfl) (by kernel_rfl) (fun _ _ _ h => h) (Or.inl ⟨by rfl, ?_⟩) (by assumption) ?_
              · intro w hSw; (try dsimp only at hSw); go_simp
              simp only [Act.put, List.getElem_toArray, List.getElem_cons_succ, List.getElem_cons_zero, List.setIfInBounds_toArray, List.set_cons_succ, List.set_cons_zero]
              refine wpAnyH_take (i := 7) (v := ?_) rfl (by kernel_rfl) (by kernel_rfl) (by kernel_rfl) (fun _ _ _ h => h) (Or.inl ⟨by rfl, ?_⟩) (by assumption) ?_
              rotate_left
              · intro w hSw; (try dsimp only at hSw); go_simp; try with_reducible rfl
              simp only [Act.put, List.getElem_toArray, List.getElem_cons_succ, List.getElem_cons_zero, List.setIfInBounds_toArray, List.set_cons_succ, List.set_cons_zero]
              refine wpAnyH_take (i := 8) (v := ?_) rfl (by kernel_rfl) (by kernel_rfl) (by kernel_rfl) (fun _ _ _ h => h) (Or.inl ⟨by rfl, ?_⟩) (by assumption) ?_
              rotate_left
              · intro w hSw; (try dsimp only at hSw); go_simp; try with_reducible rfl
              simp only [Act.put, List.getElem_toArray, List.getElem_cons_succ, List.getElem_cons_zero, List.setIfInBounds_toArray, List.set_cons_succ, List.set_cons_zero]
              refine wpAnyH_take (i := 9) (v := ?_) rfl (by kernel_rfl) (by kernel_rfl) (by kernel_rfl) (fun _ _ _ h => h) (Or.inl ⟨by rfl, ?_⟩) (by assumption) ?_
              rotate_left
              · intro w hSw; (try dsimp only at hSw); go_simp; try with_reducible rfl
              simp only [Act.put, List.getElem_toArray, List.getElem_cons_succ, List.getElem_cons_zero, List.setIfInBounds_toArray, List.set_cons_succ, List.set_cons_zero]
              refine wpAnyH_take (i := 10) (v := ?_) rfl (by kernel_rfl) (by kernel_rfl) (by kernel_rfl) (fun _ _ _ h => h) (Or.inl ⟨by rfl, ?_⟩) (by assumption) ?_
              rotate_left
              · intro w hSw; (try dsimp only at hSw); go_simp; try with_reducible rfl
              simp only [Act.put, List.getElem_toArray, List.getElem_cons_succ, List.getElem_cons_zero, List.setIfInBounds_toArray, List.set_cons_succ, List.set_cons_zero]
              refine wpAnyH_take (i := 11) (v := ?_) rfl (by kernel_rfl) (by kernel_rfl) (by kernel_rfl) (fun _ _ _ h => h) (Or.inl ⟨by rfl, ?_⟩) (by assumption) ?_
              rotate_left
              · intro w hSw; (try dsimp only at hSw); go_simp; try with_reducible rfl
              simp only [Act.put, List.getElem_toArray, List.getElem_cons_succ, List.getElem_cons_zero, List.setIfInBounds_toArray, List.set_cons_succ, List.set_cons_zero]
              refine wpAnyH_take (i := 12) (v := ?_) rfl (by kernel_rfl) (by kernel_rfl) (by kernel_rfl) (fun _ _ _ h => h) (Or.inl ⟨by rfl, ?_⟩) (by assumption) ?_
              rotate_left
              · intro w hSw; (try dsimp only at hSw); go_simp; try with_reducible rfl
              simp only [Act.put, List.getElem_toArray, List.getElem_cons_succ, List.getElem_cons_zero, List.setIfInBounds_toArray, List.set_cons_succ, List.set_cons_zero]
              refine wpAnyH_take (i := 13) (v := ?_) rfl (by kernel_rfl) (by kernel_rfl) (by kernel_rfl) (fun _ _ _ h => h) (Or.inl ⟨by rfl, ?_⟩) (by assumption) ?_
              rotate_left
              · intro w hSw; (try dsimp only at hSw); go_simp; try with_reducible rfl
              simp only [Act.put, List.getElem_toArray, List.getElem_cons_succ, List.getElem_cons_zero, List.setIfInBounds_toArray, List.set_cons_succ, List.set_cons_zero]
              refine wpAnyH_take (i := 14) (v := ?_) rfl (by kernel_rfl) (by kernel_rfl) (by kernel_rfl) (fun _ _ _ h => h) (Or.inl ⟨by rfl, ?_⟩) (by assumption) ?_
              rotate_left
              · intro w hSw; (try dsimp only at hSw); go_simp; try with_reducible rfl
              simp only [Act.put, List.getElem_toArray, List.getElem_cons_succ, List.getElem_cons_zero, List.setIfInBounds_toArray, List.set_cons_succ, List.set_cons_zero]
              refine wpAnyH_take (i := 15) (v := ?_) rfl (by kernel_rfl) (by kernel_rfl) (by kernel_rfl) (fun _ _ _ h => h) (Or.inl ⟨by rfl, ?_⟩) (by assumption) ?_
              rotate_left
              · intro w hSw; (try dsimp only at hSw); go_simp; try with_reducible rfl
              simp only [Act.put, List.getElem_toArray, List.getElem_cons_succ, List.getElem_cons_zero, List.setIfInBounds_toArray, List.set_cons_succ, List.set_cons_zero]
              refine wpAnyH_take (i := 16) (v := ?_) rfl (by kernel_rfl) (by kernel_rfl) (by kernel_rfl) (fun _ _ _ h => h) (Or.inl ⟨by rfl, ?_⟩) (by assumption) ?_
              rotate_left
              · intro w hSw; (try dsimp only at hSw); go_simp; try with_reducible rfl
              simp only [Act.put, List.getElem_toArray, List.getElem_cons_succ, List.getElem_cons_zero, List.setIfInBounds_toArray, List.set_cons_succ, List.set_cons_zero]
              refine wpAnyH_take (i := 17) (v := ?_) rfl (by kernel_rfl) (by kernel_rfl) (by kernel_rfl) (fun _ _ _ h => h) (Or.inl ⟨by rfl, ?_⟩) (by assumption) ?_
              rotate_left
              · intro w hSw; (try dsimp only at hSw); go_simp; try with_reducible rfl
              simp only [Act.put, List.getElem_toArray, List.getElem_cons_succ, List.getElem_cons_zero, List.setIfInBounds_toArray, List.set_cons_succ, List.set_cons_zero]
              refine wpAnyH_take (i := 18) (v := ?_) rfl (by kernel_rfl) (by kernel_rfl) (by kernel_rfl) (fun _ _ _ h => h) (Or.inl ⟨by rfl, ?_⟩) (by assumption) ?_
              rotate_left
              · intro w hSw; (try dsimp only at hSw); go_simp; try with_reducible rfl
              simp only [Act.put, List.getElem_toArray, List.getElem_cons_succ, List.getElem_cons_zero, List.setIfInBounds_toArray, List.set_cons_succ, List.set_cons_zero]
              refine wpAnyH_take (i := 19) (v := .bool false) rfl (by kernel_rfl) (by kernel_rfl) (by kernel_rfl) (fun _ _ _ h => h) (Or.inl ⟨by rfl, ?_⟩) (by assumption) ?_
              · intro w hSw; (try dsimp only at hSw); go_simp
              simp only [Act.put, List.getElem_toArray, List.getElem_cons_succ, List.getElem_cons_zero, List.setIfInBounds_toArray, List.set_cons_succ, List.set_cons_zero]
              refine wpAnyH_take (i := 20) (v := ?_) rfl (by kernel_rfl) (by kernel_rfl) (by kernel_rfl) (fun _ _ _ h => h) (Or.inl ⟨by rfl, ?_⟩) (by assumption) ?_
              rotate_left
              · intro w hSw; (try dsimp only at hSw); go_simp; try with_reducible rfl
              simp only [Act.put, List.getElem_toArray, List.getElem_cons_succ, List.getElem_cons_zero, List.setIfInBounds_toArray, List.set_cons_succ, List.set_cons_zero]
              refine wpAnyH_take (i := 21) (v := ?_) rfl (by kernel_rfl) (by kernel_rfl) (by kernel_rfl) (fun _ _ _ h => h) (Or.inl ⟨by rfl, ?_⟩) (by assumption) ?_
              rotate_left
              · intro w hSw; (try dsimp only at hSw); go_simp; try with_reducible rfl
              simp only [Act.put, List.getElem_toArray, List.getElem_cons_succ, List.getElem_cons_zero, List.setIfInBounds_toArray, List.set_cons_succ, List.set_cons_zero]
              refine wpAnyH_take (i := 22) (v := ?_) rfl (by kernel_rfl) (by kernel_rfl) (by kernel_rfl) (fun _ _ _ h => h) (Or.inl ⟨by rfl, ?_⟩) (by assumption) ?_
              rotate_left
              · intro w hSw; (try dsimp only at hSw); go_simp; try with_reducible rfl
              simp only [Act.put, List.getElem_toArray, List.getElem_cons_succ, List.getElem_cons_zero, List.setIfInBounds_toArray, List.set_cons_succ, List.set_cons_zero]
              refine wpAnyH_take (i := 23) (v := ?_) rfl (by kernel_rfl) (by kernel_rfl) (by kernel_rfl) (fun _ _ _ h => h) (Or.inl ⟨by rfl, ?_⟩) (by assumption) ?_
              rotate_left
              · intro w hSw; (try dsimp only at hSw); go_simp; try with_reducible rfl
              simp only [Act.put, List.getElem_toArray, List.getElem_cons_succ, List.getElem_cons_zero, List.setIfInBounds_toArray, List.set_cons_succ, List.set_cons_zero]
              refine wpAnyH_take (i := 24) (v := ?_) rfl (by kernel_rfl) (by kernel_rfl) (by kernel_rfl) (fun _ _ _ h => h) (Or.inl ⟨by rfl, ?_⟩) (by assumption) ?_
              rotate_left
              · intro w hSw; (try dsimp only at hSw); go_simp; try with_reducible rfl
              simp only [Act.put, List.getElem_toArray, List.getElem_cons_succ, List.getElem_cons_zero, List.setIfInBounds_toArray, List.set_cons_succ, List.set_cons_zero]
              refine wpAnyH_take (i := 25) (v := ?_) rfl (by kernel_rfl) (by kernel_rfl) (by kernel_rfl) (fun _ _ _ h => h) (Or.inl ⟨by rfl, ?_⟩) (by assumption) ?_
              rotate_left
              · intro w hSw; (try dsimp only at hSw); go_simp; try with_reducible rfl
              simp only [Act.put, List.getElem_toArray, List.getElem_cons_succ, List.getElem_cons_zero, List.setIfInBounds_toArray, List.set_cons_succ, List.set_cons_zero]
              refine wpAnyH_take (i := 26) (v := ?_) rfl (by kernel_rfl) (by kernel_rfl) (by kernel_rfl) (fun _ _ _ h => h) (Or.inl ⟨by rfl, ?_⟩) (by assumption) ?_
              rotate_left
              · intro w hSw; (try dsimp only at hSw); go_simp; try with_reducible rfl
              simp only [Act.put, List.getElem_toArray, List.getElem_cons_succ, List.getElem_cons_zero, List.setIfInBounds_toArray, List.set_cons_succ, List.set_cons_zero]
              refine wpAnyH_take (i := 27) (v := ?_) rfl (by kernel_rfl) (by kernel_rfl) (by kernel_rfl) (fun _ _ _ h => h) (Or.inl ⟨by rfl, ?_⟩) (by assumption) ?_
              rotate_left
              · intro w hSw; (try dsimp only at hSw); go_simp; try with_reducible rfl
              simp only [Act.put, List.getElem_toArray, List.getElem_cons_succ, List.getElem_cons_zero, List.setIfInBounds_toArray, List.set_cons_succ, List.set_cons_zero]
              refine wpAnyH_take (i := 28) (v := ?_) rfl (by kernel_rfl) (by kernel_rfl) (by kernel_rfl) (fun _ _ _ h => h) (Or.inl ⟨by rfl, ?_⟩) (by assumption) ?_
              rotate_left
              · intro w hSw; (try dsimp only at hSw); go_simp; try with_reducible rfl
              simp only [Act.put, List.getElem_toArray, List.getElem_cons_succ, List.getElem_cons_zero, List.setIfInBounds_toArray, List.set_cons_succ, List.set_cons_zero]
              refine wpAnyH_take (i := 29) (v := ?_) rfl (by kernel_rfl) (by kernel_rfl) (by kernel_rfl) (fun _ _ _ h => h) (Or.inl ⟨by rfl, ?_⟩) (by assumption) ?_
              rotate_left
              · intro w hSw; (try dsimp only at hSw); go_simp; try with_reducible rfl
              simp only [Act.put, List.getElem_toArray, List.getElem_cons_succ, List.getElem_cons_zero, List.setIfInBounds_toArray, List.set_cons_succ, List.set_cons_zero]
              refine wpAnyH_take (i := 30) (v := ?_) rfl (by kernel_rfl) (by kernel_rfl) (by kernel_rfl) (fun _ _ _ h => h) (Or.inl ⟨by rfl, ?_⟩) (by assumption) ?_
              rotate_left
              · intro w hSw; (try dsimp only at hSw); go_simp; try with_reducible rfl
              simp only [Act.put, List.getElem_toArray, List.getElem_cons_succ, List.getElem_cons_zero, List.setIfInBounds_toArray, List.set_cons_succ, List.set_cons_zero]
              refine wpAnyH_take (i := 31) (v := ?_) rfl (by kernel_rfl) (by kernel_rfl) (by kernel_rfl) (fun _ _ _ h => h) (Or.inl ⟨by rfl, ?_⟩) (by assumption) ?_
              rotate_left
              · intro w hSw; (try dsimp only at hSw); go_simp; try with_reducible rfl
              simp only [Act.put, List.getElem_toArray, List.getElem_cons_succ, List.getElem_cons_zero, List.setIfInBounds_toArray, List.set_cons_succ, List.set_cons_zero]
              refine wpAnyH_take (i := 32) (v := .bool false) rfl (by kernel_rfl) (by kernel_rfl) (by kernel_rfl) (fun _ _ _ h => h) (Or.inl ⟨by rfl, ?_⟩) (by assumption) ?_
              · intro w hSw; (try dsimp only at hSw); go_simp
              simp only [Act.put, List.getElem_toArray, List.getElem_cons_succ, List.getElem_cons_zero, List.setIfInBounds_toArray, List.set_cons_succ, List.set_cons_zero]
              refine wpAnyH_take (i := 33) (v := ?_) rfl (by kernel_rfl) (by kernel_rfl) (by kernel_rfl) (fun _ _ _ h => h) (Or.inl ⟨by rfl, ?_⟩) (by assumption) ?_
              rotate_left
              · intro w hSw; (try dsimp only at hSw); go_simp; try with_reducible rfl
              simp only [Act.put, List.getElem_toArray, List.getElem_cons_succ, List.getElem_cons_zero, List.setIfInBounds_toArray, List.set_cons_succ, List.set_cons_zero]
              refine wpAnyH_take (i := 34) (v := ?_) rfl (by kernel_rfl) (by kernel_rfl) (by kernel_rfl) (fun _ _ _ h => h) (Or.inl ⟨by rfl, ?_⟩) (by assumption) ?_
              rotate_left
              · intro w hSw; (try dsimp only at hSw); go_simp; try with_reducible rfl
              simp only [Act.put, List.getElem_toArray, List.getElem_cons_succ, List.getElem_cons_zero, List.setIfInBounds_toArray, List.set_cons_succ, List.set_cons_zero]
              refine wpAnyH_take (i := 35) (v := ?_) rfl (by kernel_rfl) (by kernel_rfl) (by kernel_rfl) (fun _ _ _ h => h) (Or.inl ⟨by rfl, ?_⟩) (by assumption) ?_
              rotate_left
              · intro w hSw; (try dsimp only at hSw); go_simp; try with_reducible rfl
              simp only [Act.put, List.getElem_toArray, List.getElem_cons_succ, List.getElem_cons_zero, List.setIfInBounds_toArray, List.set_cons_succ, List.set_cons_zero]
              refine wpAnyH_take (i := 36) (v := ?_) rfl (by kernel_rfl) (by kernel_rfl) (by kernel_rfl) (fun _ _ _ h => h) (Or.inl ⟨by rfl, ?_⟩) (by assumption) ?_
              rotate_left
              · intro w hSw; (try dsimp only at hSw); go_simp; try with_reducible rfl
              simp only [Act.put, List.getElem_toArray, List.getElem_cons_succ, List.getElem_cons_zero, List.setIfInBounds_toArray, List.set_cons_succ, List.set_cons_zero]
              refine wpAnyH_take (i := 37) (v := ?_) rfl (by kernel_rfl) (by kernel_rfl) (by kernel_rfl) (fun _ _ _ h => h) (Or.inl ⟨by rfl, ?_⟩) (by assumption) ?_
              rotate_left
              · intro w hSw; (try dsimp only at hSw); go_simp; try with_reducible rfl
              simp only [Act.put, List.getElem_toArray, List.getElem_cons_succ, List.getElem_cons_zero, List.setIfInBounds_toArray, List.set_cons_succ, List.set_cons_zero]
              refine wpAnyH_take (i := 38) (v := ?_) rfl (by kernel_rfl) (by kernel_rfl) (by kernel_rfl) (fun _ _ _ h => h) (Or.inl ⟨by rfl, ?_⟩) (by assumption) ?_
              rotate_left
              · intro w hSw; (try dsimp only at hSw); go_simp; try with_reducible rfl
              simp only [Act.put, List.getElem_toArray, List.getElem_cons_succ, List.getElem_cons_zero, List.setIfInBounds_toArray, List.set_cons_succ, List.set_cons_zero]
              refine wpAnyH_take (i := 39) (v := ?_) rfl (by kernel_rfl) (by kernel_rfl) (by kernel_rfl) (fun _ _ _ h => h) (Or.inl ⟨by rfl, ?_⟩) (by assumption) ?_
              rotate_left
              · intro w hSw; (try dsimp only at hSw); go_simp; try with_reducible rfl
              simp only [Act.put, List.getElem_toArray, List.getElem_cons_succ, List.getElem_cons_zero, List.setIfInBounds_toArray, List.set_cons_succ, List.set_cons_zero]
              refine wpAnyH_take (i := 40) (v := .bool false) rfl (by kernel_rfl) (by kernel_rfl) (by kernel_rfl) (fun _ _ _ h => h) (Or.inl ⟨by rfl, ?_⟩) (by assumption) ?_
              · intro w hSw; (try dsimp only at hSw); go_simp
              simp only [Act.put, List.getElem_toArray, List.getElem_cons_succ, List.getElem_cons_zero, List.setIfInBounds_toArray, List.set_cons_succ, List.set_cons_zero]
              refine wpAnyH_take (i := 41) (v := ?_) rfl (by kernel_rfl) (by kernel_rfl) (by kernel_rfl) (fun _ _ _ h => h) (Or.inl ⟨by rfl, ?_⟩) (by assumption) ?_
              rotate_left
              · intro w hSw; (try dsimp only at hSw); go_simp; try with_reducible rfl
              simp only [Act.put, List.getElem_toArray, List.getElem_cons_succ, List.getElem_cons_zero, List.setIfInBounds_toArray, List.set_cons_succ, List.set_cons_zero]
              refine wpAnyH_take (i := 42) (v := ?_) rfl (by kernel_rfl) (by kernel_rfl) (by kernel_rfl) (fun _ _ _ h => h) (Or.inl ⟨by rfl, ?_⟩) (by assumption) ?_
              rotate_left
              · intro w hSw; (try dsimp only at hSw); go_simp; try with_reducible rfl
              simp only [Act.put, List.getElem_toArray, List.getElem_cons_succ, List.getElem_cons_zero, List.setIfInBounds_toArray, List.set_cons_succ, List.set_cons_zero]
              refine wpAnyH_take (i := 43) (v := ?_) rfl (by kernel_rfl) (by kernel_rfl) (by kernel_rfl) (fun _ _ _ h => h) (Or.inl ⟨by rfl, ?_⟩) (by assumption) ?_
              rotate_left
              · intro w hSw; (try dsimp only at hSw); go_simp; try with_reducible rfl
              simp only [Act.put, List.getElem_toArray, List.getElem_cons_succ, List.getElem_cons_zero, List.setIfInBounds_toArray, List.set_cons_succ, List.set_cons_zero]
              refine wpAnyH_take (i := 44) (v := ?_) rfl (by kernel_rfl) (by kernel_rfl) (by kernel_rfl) (fun _ _ _ h => h) (Or.inl ⟨by rfl, ?_⟩) (by assumption) ?_
              rotate_left
              · intro w hSw; (try dsimp only at hSw); go_simp; try with_reducible rfl
              simp only [Act.put, List.getElem_toArray, List.getElem_cons_succ, List.getElem_cons_zero, List.setIfInBounds_toArray, List.set_cons_succ, List.set_cons_zero]
              refine wpAnyH_take (i := 45) (v := ?_) rfl (by kernel_rfl) (by kernel_rfl) (by kernel_rfl) (fun _ _ _ h => h) (Or.inl ⟨by rfl, ?_⟩) (by assumption) ?_
              rotate_left
              · intro w hSw; (try dsimp only at hSw); go_simp; try with_reducible rfl
              simp only [Act.put, List.getElem_toArray, List.getElem_cons_succ, List.getElem_cons_zero, List.setIfInBounds_toArray, List.set_cons_succ, List.set_cons_zero]
              refine wpAnyH_take (i := 46) (v := ?_) rfl (by kernel_rfl) (by kernel_rfl) (by kernel_rfl) (fun _ _ _ h => h) (Or.inl ⟨by rfl, ?_⟩) (by assumption) ?_
              rotate_left
              · intro w hSw; (try dsimp only at hSw); go_simp; try with_reducible rfl
              simp only [Act.put, List.getElem_toArray, List.getElem_cons_succ, List.getElem_cons_zero, List.setIfInBounds_toArray, List.set_cons_succ, List.set_cons_zero]
              refine wpAnyH_take (i := 47) (v := ?_) rfl (by kernel_rfl) (by kernel_rfl) (by kernel_rfl) (fun _ _ _ h => h) (Or.inl ⟨by rfl, ?_⟩) (by assumption) ?_
              rotate_left
              · intro w hSw; (try dsimp only at hSw); go_simp; try with_reducible rfl
              simp only [Act.put, List.getElem_toArray, List.getElem_cons_succ, List.getElem_cons_zero, List.setIfInBounds_toArray, List.set_cons_succ, List.set_cons_zero]
              refine wpAnyH_take (i := 48) (v := ?_) rfl (by kernel_rfl) (by kernel_rfl) (by kernel_rfl) (fun _ _ _ h => h) (Or.inl ⟨by rfl, ?_⟩) (by assumption) ?_
              rotate_left
              · intro w hSw; (try dsimp only at hSw); go_simp; try with_reducible rfl
              simp only [Act.put, List.getElem_toArray, List.getElem_cons_succ, List.getElem_cons_zero, List.setIfInBounds_toArray, List.set_cons_succ, List.set_cons_zero]
              refine wpAnyH_take (i := 49) (v := ?_) rfl (by kernel_rfl) (by kernel_rfl) (by kernel_rfl) (fun _ _ _ h => h) (Or.inl ⟨by rfl, ?_⟩) (by assumption) ?_
              rotate_left
              · intro w hSw; (try dsimp only at hSw); go_simp; try with_reducible rfl
              simp only [Act.put, List.getElem_toArray, List.getElem_cons_succ, List.getElem_cons_zero, List.setIfInBounds_toArray, List.set_cons_succ, List.set_cons_zero]
              refine wpAnyH_take (i := 50) (v := ?_) rfl (by kernel_rfl) (by kernel_rfl) (by kernel_rfl) (fun _ _ _ h => h) (Or.inl ⟨by rfl, ?_⟩) (by assumption) ?_
              rotate_left
              · intro w hSw; (try dsimp only at hSw); go_simp; try with_reducible rfl
              simp only [Act.put, List.getElem_toArray, List.getElem_cons_succ, List.getElem_cons_zero, List.setIfInBounds_toArray, List.set_cons_succ, List.set_cons_zero]
              refine wpAnyH_ready (rs := [51]) (by kernel_rfl) (by simp) ?_
              refine AllReadyH.cons rfl (fun K hK => ?_) AllReadyH.nil
              go_simp
              refine (HSP.out _ BD9).mono ?_
              rintro e w10 ⟨rfl, b10'⟩
              have c10 := hide (BD9.trans (b10' w9.drew.heap.size))
              refine hK.out _ _ (HSC.out w10 c10.out) (fun hHeld2 => ?_)
              clear hK K hHeld
              have hHeld := hHeld2
              clear hHeld2
              simp only [List.setIfInBounds_toArray, List.set_cons_succ, List.set_cons_zero]
              refine wpAnyH_take (i := 52) (v := ?_) rfl (by kernel_rfl) (by kernel_rfl) (by kernel_rfl) (fun _ _ _ h => h) (Or.inl ⟨by rfl, ?_⟩) (by assumption) ?_
              rotate_left
              · intro w hSw; (try dsimp only at hSw); go_simp; try with_reducible rfl
              simp only [Act.put, List.getElem_toArray, List.getElem_cons_succ, List.getElem_cons_zero, List.setIfInBounds_toArray, List.set_cons_succ, List.set_cons_zero]
              refine wpAnyH_take (i := 53) (v := ?_) rfl (by kernel_rfl) (by kernel_rfl) (by kernel_rfl) (fun _ _ _ h => h) (Or.inl ⟨by rfl, ?_⟩) (by assumption) ?_
              rotate_left
              · intro w hSw; (try dsimp only at hSw); go_simp; try with_reducible rfl
              simp only [Act.put, List.getElem_toArray, List.getElem_cons_succ, List.getElem_cons_zero, List.setIfInBounds_toArray, List.set_cons_succ, List.set_cons_zero]
              refine wpAnyH_take (i := 54) (v := .bool false) rfl (by kernel_rfl) (by kernel_rfl) (by kernel_rfl) (fun _ _ _ h => h) (Or.inl ⟨by rfl, ?_⟩) (by assumption) ?_
              · intro w hSw; (try dsimp only at hSw); go_simp
              simp only [Act.put, List.getElem_toArray, List.getElem_cons_succ, List.getElem_cons_zero, List.setIfInBounds_toArray, List.set_cons_succ, List.set_cons_zero]
              refine wpAnyH_take (i := 55) (v := ?_) rfl (by kernel_rfl) (by kernel_rfl) (by kernel_rfl) (fun _ _ _ h => h) (Or.inl ⟨by rfl, ?_⟩) (by assumption) ?_
              rotate_left
              · intro w hSw; (try dsimp only at hSw); go_simp; try with_reducible rfl
              simp only [Act.put, List.getElem_toArray, List.getElem_cons_succ, List.getElem_cons_zero, List.setIfInBounds_toArray, List.set_cons_succ, List.set_cons_zero]
              refine wpAnyH_take (i := 56) (v := ?_) rfl (by kernel_rfl) (by kernel_rfl) (by kernel_rfl) (fun _ _ _ h => h) (Or.inl ⟨by rfl, ?_⟩) (by assumption) ?_
              rotate_left
              · intro w hSw; (try dsimp only at hSw); go_simp; try with_reducible rfl
              simp only [Act.put, List.getElem_toArray, List.getElem_cons_succ, List.getElem_cons_zero, List.setIfInBounds_toArray, List.set_cons_succ, List.set_cons_zero]
              refine wpAnyH_take (i := 57) (v := ?_) rfl (by kernel_rfl) (by kernel_rfl) (by kernel_rfl) (fun _ _ _ h => h) (Or.inl ⟨by rfl, ?_⟩) (by assumption) ?_
              rotate_left
              · intro w hSw; (try dsimp only at hSw); go_simp; try with_reducible rfl
              simp only [Act.put, List.getElem_toArray, List.getElem_cons_succ, List.getElem_cons_zero, List.setIfInBounds_toArray, List.set_cons_succ, List.set_cons_zero]
              refine wpAnyH_take (i := 58) (v := ?_) rfl (by kernel_rfl) (by kernel_rfl) (by kernel_rfl) (fun _ _ _ h => h) (Or.inl ⟨by rfl, ?_⟩) (by assumption) ?_
              rotate_left
              · intro w hSw; (try dsimp only at hSw); go_simp; try with_reducible rfl
              simp only [Act.put, List.getElem_toArray, List.getElem_cons_succ, List.getElem_cons_zero, List.setIfInBounds_toArray, List.set_cons_succ, List.set_cons_zero]
              refine wpAnyH_take (i := 59) (v := ?_) rfl (by kernel_rfl) (by kernel_rfl) (by kernel_rfl) (fun _ _ _ h => h) (Or.inl ⟨by rfl, ?_⟩) (by assumption) ?_
              rotate_left
              · intro w hSw; (try dsimp only at hSw); go_simp; try with_reducible rfl
              simp only [Act.put, List.getElem_toArray, List.getElem_cons_succ, List.getElem_cons_zero, List.setIfInBounds_toArray, List.set_cons_succ, List.set_cons_zero]
              refine wpAnyH_take (i := 60) (v := ?_) rfl (by kernel_rfl) (by kernel_rfl) (by kernel_rfl) (fun _ _ _ h => h) (Or.inl ⟨by rfl, ?_⟩) (by assumption) ?_
              rotate_left
              · intro w hSw; (try dsimp only at hSw); go_simp; try with_reducible rfl
              simp only [Act.put, List.getElem_toArray, List.getElem_cons_succ, List.getElem_cons_zero, List.setIfInBounds_toArray, List.set_cons_succ, List.set_cons_zero]
              refine wpAnyH_take (i := 61) (v := ?_) rfl (by kernel_rfl) (by kernel_rfl) (by kernel_rfl) (fun _ _ _ h => h) (Or.inl ⟨by rfl, ?_⟩) (by assumption) ?_
              rotate_left
              · intro w hSw; (try dsimp only at hSw); go_simp; try with_reducible rfl
              simp only [Act.put, List.getElem_toArray, List.getElem_cons_succ, List.getElem_cons_zero, List.setIfInBounds_toArray, List.set_cons_succ, List.set_cons_zero]
              refine wpAnyH_take (i := 62) (v := ?_) rfl (by kernel_rfl) (by kernel_rfl) (by kernel_rfl) (fun _ _ _ h => h) (Or.inl ⟨by rfl, ?_⟩) (by assumption) ?_
              rotate_left
              · intro w hSw; (try dsimp only at hSw); go_simp; try with_reducible rfl
              simp only [Act.put, List.getElem_toArray, List.getElem_cons_succ, List.getElem_cons_zero, List.setIfInBounds_toArray, List.set_cons_succ, List.set_cons_zero]
              refine wpAnyH_ready (rs := [63]) (by kernel_rfl) (by simp) ?_
              refine AllReadyH.cons rfl (fun K hK => ?_) AllReadyH.nil
              go_simp
              refine (HSR.out w10 c10.out).mono ?_
              rintro e w11 ⟨rfl, b11⟩
              have c11 := hide (c10.out.trans (b11.mono c10.out.size))
              refine hK.out _ _ (HSC.out w11 c11.out) (fun hHeld2 => ?_)
              clear hK K hHeld
              have hHeld := hHeld2
              clear hHeld2
              simp only [List.setIfInBounds_toArray, List.set_cons_succ, List.set_cons_zero]
              refine wpAnyH_take (i := 64) (v := ?_) rfl (by kernel_rfl) (by kernel_rfl) (by kernel_rfl) (fun _ _ _ h => h) (Or.inl ⟨by rfl, ?_⟩) (by assumption) ?_
              rotate_left
              · intro w hSw; (try dsimp only at hSw); go_simp; try with_reducible rfl
              simp only [Act.put, List.getElem_toArray, List.getElem_cons_succ, List.getElem_cons_zero, List.setIfInBounds_toArray, List.set_cons_succ, List.set_cons_zero]
              refine wpAnyH_take (i := 65) (v := ?_) rfl (by kernel_rfl) (by kernel_rfl) (by kernel_rfl) (fun _ _ _ h => h) (Or.inl ⟨by rfl, ?_⟩) (by assumption) ?_
              rotate_left
              · intro w hSw; (try dsimp only at hSw); go_simp; try with_reducible rfl
              simp only [Act.put, List.getElem_toArray, List.getElem_cons_succ, List.getElem_cons_zero, List.setIfInBounds_toArray, List.set_cons_succ, List.set_cons_zero]
              refine wpAnyH_done (by kernel_rfl) ?_ _
              clear hHeld
              have HE11 := hide (C9.out.trans (c11.out.mono C9.out.size))
              go_wp2
              go_roundw
              case rel => exact ⟨k + 1, by omega, by go_num, HE11.out⟩
              case measure => simp [intOf]; omega
        · have HRV := hide (remove_any (some ⟨gx, 0, none⟩) X cx0 w4.heap.size (some ⟨gp, 0, none⟩) ss cp w1.heap.size wr (HX4.out.below hbe (Nat.le_refl _)) (HP.out.below B1r (Nat.le_refl _)) zr B1r.size hXSh (by omega) hXS HFR.out (by omega))
          rw [HREM.out, HRMC.out] at HRV
          go_wp2_with fail
          refine HRV.out.mono ?_
          rintro e w5 ⟨⟨gz, cz, pbz, qbz, rfl, oZ⟩, b5⟩
          have HZ5 : Hid (Rss w5 w5.heap.size (some ⟨gz, 0, none⟩) Y) := oZ.rss (fun r hr => by have := hYS r hr; unfold maxLen; omega) (Nat.le_refl _)
          have B45 := hide (hbe.trans (b5.mono zr))
          have B15 := hide (B14.out.trans (B45.out.mono z4))
          clear oZ b5 HRV
          have HSZ := hide (sameTree_same (some ⟨gz, 0, none⟩) (some ⟨gy, 0, none⟩) Y cz cy0 w5.heap.size w4.heap.size w5 HZ5.out (HY4.out.below B45.out (Nat.le_refl _)) (Nat.le_refl _) B45.out.size hym)
          go_wp2_with fail
          refine HSZ.out.mono ?_
          rintro e w6 ⟨rfl, b6⟩
          have B46 := hide (B45.out.trans (b6.mono B45.out.size))
          have HT1 := hide (treeOk_any (some ⟨gx, 0, none⟩) X cx0 w4.heap.size w6 (HX4.out.below B46.out (Nat.le_refl _)) B46.out.size hXSh hxm)
          rw [HTX1] at HT1
          clear b6 HSZ
          go_wp2_with fail
          refine HT1.out.mono ?_
          rintro e w7 ⟨rfl, b7⟩
          have B47 := hide (B46.out.trans (b7.mono B46.out.size))
          have HT2 := hide (treeOk_any (some ⟨gy, 0, none⟩) Y cy0 w4.heap.size w7 (HY4.out.below B47.out (Nat.le_refl _)) B47.out.size hYSh hym)
          rw [HTY1] at HT2
          clear b7 HT1
          go_wp2_with fail
          refine HT2.out.mono ?_
          rintro e w8 ⟨rfl, b8⟩
          have B48 := hide (B47.out.trans (b8.mono B47.out.size))
          have B18 := hide (B14.out.trans (B48.out.mono z4))
          have HDX := hide (deepOf_any (some ⟨gx, 0, none⟩) X cx0 w4.heap.size (some ⟨gq, 0, none⟩) tt cq w1.heap.size w8 (HX4.out.below B48.out (Nat.le_refl _)) (HQ.out.below B18.out (Nat.le_refl _)) B48.out.size B18.out.size (by omega) (by omega) hXS)
          rw [HDEEP.out] at HDX
          clear b8 HT2
          go_wp2_with fail
          refine HDX.out.mono ?_
          rintro e w9 ⟨⟨gd, cd, pbd, qbd, rfl, _⟩, b9⟩
          have B19 := hide (B18.out.trans (b9.mono B18.out.size))
          clear b9 HDX
          obtain ⟨F, hF⟩ : ∃ F, findI rs tt = F := ⟨_, rfl⟩
          have HF9 := hide (HFT.out w9 B19.out)
          rw [hF] at HF9 hft
          clear hF
          have hfd : decide (0 ≤ F) = false := by simpa using hft
          go_wp2_with fail
          refine HF9.out.mono ?_
          rintro e w10 ⟨rfl, b10⟩
          have HZZ := hide (HB1.out.trans ((B19.out.trans (b10.mono B19.out.size)).mono z1))
          clear b10 HF9
          go_wp2
          go_ret
          exact ⟨rfl, HZZ.out⟩
  · obtain ⟨rfl, hc1, hc2, hcs⟩ := HNO1.out h0
    have e1 : (cc != 201) = true := by simpa using hc1
    have e2 : (cc != 204) = true := by simpa using hc2
    clear HNO1 HIS1 h0
    have HSA := hide (fun W (hW : Below w3.heap.size w3 W) => sameTree_same (some ⟨gx, 0, none⟩) (some ⟨g, 0, none⟩) X cx0 c w2.heap.size w1.heap.size W (HX2.out.below (B3.out.trans (hW.mono B3.out.size)) (Nat.le_refl _)) (HR.out.below (B13.out.trans (hW.mono B13.out.size)) (Nat.le_refl _)) (B3.out.trans (hW.mono B3.out.size)).size (B13.out.trans (hW.mono B13.out.size)).size hlm)
    go_wp2_with fail
    refine (HSA.out w3 (Below.refl _ _)).mono ?_
    rintro e w4 ⟨rfl, b4⟩
    have B14 := hide (B13.out.trans (b4.mono B13.out.size))
    have HZ4 := hide (HB1.out.trans (B14.out.mono z1))
    rcases hcs with ⟨rfl, rfl⟩ | ⟨rfl, hd⟩
    · have HSB := hide (sameTree_same (some ⟨gy, 0, none⟩) (some ⟨g, 0, none⟩) Y cy0 c w3.heap.size w1.heap.size w4 (HY3.out.below b4 (Nat.le_refl _)) (HR.out.below B14.out (Nat.le_refl _)) b4.size B14.out.size hlm)
      go_wp2_with fail
      refine HSB.out.mono ?_
      rintro e w5 ⟨rfl, b5⟩
      have HZ5 := hide (HZ4.out.trans (b5.mono HZ4.out.size))
      clear b4 b5
      go_wp2
      go_ret
      exact ⟨rfl, HZ5.out⟩
    · have e3 : (dd == 507) = false := by simpa using hd
      clear b4
      go_wp2
      go_ret
      exact ⟨rfl, HZ4.out⟩
end Go.Proofs.YtclnpfpaabmkcaaGreat
