/-
  The walk of the law FnKids: what stands on a shelf is what is deep there of one name more; each has it above.
-/
import Derived.Test.YtafdbnadakclnaaSameTexts
import Derived.Test.YtafdbnadakclnaaKidsOf
import Derived.Test.YtafdbnadakclnaaMathRemoved
import Derived.Test.YtafdbnadakclnaaSamePathI
import Derived.Test.YtafdbnadakclnaaPlain
import Derived.Test.YtafdbnadakclnaaFind
import Derived.Test.YtafdbnadakclnaaIsColl
import Derived.Test.YtafdbnadakclnaaWalkRemoved
namespace Go.Proofs.Ytafdbnadakclnaa
open Go.RowKit M
set_option linter.unusedVariables false

def KAt (W : World) (g m : Nat) (x y : Value) : Prop := W.cell? ⟨g, m, none⟩ = some x ∧ W.cell? ⟨g, m + 1, none⟩ = some y
theorem KAt.below {W w1 : World} {g m : Nat} {x y : Value} (h : KAt W g m x y) (hb : Below W.heap.size W w1) : KAt w1 g m x y :=
  have hg : g < W.heap.size := World.block_lt_of_cell? W _ h.1
  ⟨((bcellP hb).1 g m hg).trans h.1, ((bcellP hb).1 g (m + 1) hg).trans h.2⟩
def KA0 (W : World) (g : Nat) (x : Value) : Prop := W.cell? ⟨g, 0, none⟩ = some x
theorem KA0.below {W w1 : World} {g : Nat} {x : Value} (h : KA0 W g x) (hb : Below W.heap.size W w1) : KA0 w1 g x :=
  ((bcellP hb).1 g 0 (World.block_lt_of_cell? W _ h)).trans h
/-- How many of these have one name more. -/
def cntK (n : Nat) (rs : List Rs) : Nat := (rs.filter fun r => decide (r.pa.length = n + 1)).length
theorem cntK_snoc (n : Nat) (rs : List Rs) (k : Nat) (hk : k < rs.length) : cntK n (rs.take (k + 1)) = cntK n (rs.take k) + (if rs[k].pa.length = n + 1 then 1 else 0) := by
  unfold cntK
  rw [List.take_succ_eq_append_getElem hk, List.filter_append, List.length_append]
  congr 1
  by_cases e : rs[k].pa.length = n + 1 <;> simp [e]

set_option maxRecDepth 100000 in
set_option maxHeartbeats 16000000 in
theorem FnKids_walk (a : Option Addr) (len cap : Nat) (zs : List Int) (w : World) (hr : IsRow .u8 w a len cap zs) :
    Calls Try.prog 4 #[.slice a len cap] w fun e w' => e = .returned (.bool true) ∧ Below w.heap.size w w' := by
  have hml := row_len hr
  by_cases hb : (1048576 : Int) < (len : Int)
  · clear hr
    go_enter Try.func4, Try.ntmps4
    go_wp2_with (go_at_call 5; refine (big_any a len cap _ hml).mono ?_; rintro e w1 ⟨rfl, hw⟩; obtain rfl := hw.symm; rw [decide_eq_true hb])
    go_ret
    exact ⟨rfl, Below.refl _ _⟩
  · have HC : Hid (CodeIn w w.heap.size a len zs) := code_of_row hr (by omega)
    clear hr
    go_enter Try.func4, Try.ntmps4
    go_wp2_with (go_at_call 5; refine (big_any a len cap _ hml).mono ?_; rintro e w1 ⟨rfl, hw⟩; obtain rfl := hw.symm; rw [decide_eq_false hb])
    refine (drawShelves_any HC.out cap).mono ?_
    rintro e w1 ⟨⟨rs, g, c, ss, gp, cp, tt, gq, cq, htr, hf, _, rfl, hR, hP, ⟨hp1, hp2⟩, _, _⟩, b1⟩
    have hrl := tree_len htr
    have hS := short_of_sumK (tree_sum htr)
    have hpl : ss.length ≤ 6 := hf.1
    have hlm : rs.length ≤ maxLen := by unfold maxLen; omega
    have hpm : ss.length ≤ maxLen := by unfold maxLen; omega
    have hdl : (deepL rs ss).length ≤ 12 := by unfold deepL; exact Nat.le_trans (List.length_filter_le _ _) hrl
    have hkl : (kidsL rs ss).length ≤ 12 := by unfold kidsL; rw [List.length_map]; exact Nat.le_trans (List.length_filter_le _ _) hrl
    have HKO := hide (kidsOf_caps (some ⟨g, 0, none⟩) rs c w1.heap.size (some ⟨gp, 0, none⟩) ss cp w1.heap.size w1 hR hP (Nat.le_refl _) (Nat.le_refl _) (by omega) (by omega) (fun r hr => ⟨(hS r hr).1, (hS r hr).2.2.1⟩))
    have HDO := hide (fun W (hW : Below w1.heap.size w1 W) => deepOf_any (some ⟨g, 0, none⟩) rs c w1.heap.size (some ⟨gp, 0, none⟩) ss cp w1.heap.size W (hR.below hW (Nat.le_refl _)) (hP.below hW (Nat.le_refl _)) hW.size hW.size (by omega) (by omega) hS)
    have HIC := hide (fun (b : Option Addr) (q : List ByteArray) (cb C : Nat) W (hW : Below w1.heap.size w1 W) (hq : Strs W C b q) (hql : q.length ≤ maxLen) (hC : C ≤ W.heap.size) => isColl_any (some ⟨g, 0, none⟩) rs c w1.heap.size b q cb C W (hR.below hW (Nat.le_refl _)) hq hlm hql hW.size hC)
    have HFN := hide (fun (b : Option Addr) (q : List ByteArray) (cb C : Nat) W (hW : Below w1.heap.size w1 W) (hq : Strs W C b q) (hql : q.length ≤ maxLen) (hC : C ≤ W.heap.size) => findRes_any (some ⟨g, 0, none⟩) rs c w1.heap.size b q cb C W (hR.below hW (Nat.le_refl _)) hq hlm hql hW.size hC)
    have HKA := hide (fun s (hs : s ∈ kidsL rs ss) => kids_above hs)
    have HKF := hide (fun s (hs : s ∈ kidsL rs ss) => kids_found hs)
    have HKN0 : Hid (∀ ks, kidsL rs ss = ks → ∀ i (hi : i + 1 < ks.length), lessL ks[i] ks[i + 1] = true) := fun ks e i hi => by subst e; exact kids_next (tree_asc htr) ss i hi
    have HKC := hide (show (kidsL rs ss).length = cntK ss.length (deepL rs ss) from kids_count rs ss)
    have HKS := hide (fun s (hs : s ∈ kidsL rs ss) => kids_shelf htr hs)
    have HKZ := hide (fun s (hs : s ∈ kidsL rs ss) => by
      obtain ⟨r, hr, e, _⟩ := kids_mem hs
      have := (tree_few htr) r hr
      rw [e] at this
      exact this)
    have hdp : ∀ r ∈ deepL rs ss, r.pa.length ≤ 5 := fun r hr => ((tree_few htr) r (List.mem_filter.1 hr).1).1
    obtain ⟨ks, hks⟩ : ∃ ks, kidsL rs ss = ks := ⟨_, rfl⟩
    obtain ⟨ds, hds⟩ : ∃ ds, deepL rs ss = ds := ⟨_, rfl⟩
    rw [hks] at HKO hkl HKC
    simp only [hks] at HKA HKF HKS HKZ
    have HKN := hide (HKN0.out ks hks)
    clear HKN0
    simp only [hds] at HDO hdl HKC hdp
    have HB1 := hide b1
    clear hf htr HC b1 hks hds
    have hri : (rs.length : Int) ≤ 12 := by omega
    have hsi : (ss.length : Int) ≤ 6 := by omega
    have hki : (ks.length : Int) ≤ 12 := by omega
    have hdi : (ds.length : Int) ≤ 12 := by omega
    go_wp2_with fail
    refine HKO.out.mono ?_
    rintro e w2 ⟨⟨gk, ck, pbk, rfl, oK, hcK⟩, b2⟩
    have HD1 := hide (HDO.out w2 b2)
    clear HDO HKO
    go_wp2_with fail
    refine HD1.out.mono ?_
    rintro e w3 ⟨⟨gd, cd, pbd, qbd, rfl, oD⟩, b3⟩
    have D3 := hide (b2.trans (b3.mono b2.size))
    have oK3 := oK.below b3
    have hgk : gk < w2.heap.size := oK.gs
    have HK3 := hide (fun j (hj : j < ks.length) => (by
      obtain ⟨q, hq⟩ := hcK j hj
      obtain ⟨pc, hpc⟩ := oK.cl j hj
      have hr := oK.rp j hj
      have hb := oK.bnd j hj
      rw [hpc] at hq
      have e1 : pbk j = q := by cases hq; rfl
      have e2 : pc = ks[j].length := by cases hq; rfl
      rw [e2] at hpc
      exact ⟨(b3.cell (p := ⟨gk, j, none⟩) hgk).trans hpc, hr.below b3⟩ : w3.cell? ⟨gk, j, none⟩ = some (.slice (some ⟨pbk j, 0, none⟩) ks[j].length ks[j].length) ∧ RowS w3 (pbk j) ks[j]))
    have hgd := oD.gs
    have HDC := hide (fun j (hj : j < ds.length) => (oD.cl j hj).1)
    clear HD1 b2 b3 oK oK3 hcK oD
    go_wp2
    go_loopw [7, 9] (fun nn i wr => ∃ k : Nat, k ≤ ds.length ∧ i = .int .i64 k ∧ nn = .int .i64 (cntK ss.length (ds.take k)) ∧ cntK ss.length (ds.take k) ≤ k ∧ Below w3.heap.size w3 wr) (fun _ i _ => ds.length - (intOf i).toNat)
    case atStart => exact ⟨0, Nat.zero_le _, rfl, rfl, Nat.le_refl _, Below.refl _ _⟩
    case round =>
      obtain ⟨k, hk, rfl, rfl, hcn, hbw⟩ := hrel
      by_cases hlt : k < ds.length
      · have x0 := (hbw.cell (p := ⟨gd, k * 5, none⟩) hgd).trans (HDC.out k hlt)
        have hd5 := hdp _ (List.getElem_mem hlt)
        have HSN := hide (cntK_snoc ss.length ds k hlt)
        obtain ⟨n0, hn0⟩ : ∃ n0, cntK ss.length (ds.take k) = n0 := ⟨_, rfl⟩
        rw [hn0] at HSN hcn
        simp only [hn0]
        clear hn0
        obtain ⟨pn, hpn⟩ : ∃ pn, ds[k].pa.length = pn := ⟨_, rfl⟩
        rw [hpn] at x0 hd5 HSN
        clear hpn
        by_cases e1 : pn = ss.length + 1
        · have e2 : ((pn : Int) == (ss.length : Int) + 1) = true := by rw [e1]; simp
          have HE := hide (show cntK ss.length (ds.take (k + 1)) = n0 + 1 by rw [HSN.out, if_pos e1])
          clear e1 HSN
          go_wp2
          go_roundw
          case rel => exact ⟨k + 1, by omega, by go_num, by rw [HE.out]; go_num, by rw [HE.out]; omega, hbw⟩
          case measure => simp [intOf]; omega
        · have e2 : ((pn : Int) == (ss.length : Int) + 1) = false := by rw [beq_eq_false_iff_ne]; omega
          have HE := hide (show cntK ss.length (ds.take (k + 1)) = n0 by rw [HSN.out, if_neg e1]; rfl)
          clear e1 HSN
          go_wp2
          go_roundw
          case rel => exact ⟨k + 1, by omega, by go_num, by rw [HE.out], by rw [HE.out]; omega, hbw⟩
          case measure => simp [intOf]; omega
      · have HE := hide (show cntK ss.length (ds.take k) = ks.length by rw [List.take_of_length_le (by omega)]; exact HKC.out.symm)
        simp only [HE.out]
        clear hcn
        go_wp2
        clear hlt
        go_loopw [10] (fun i wr => ∃ m : Nat, m ≤ ks.length ∧ i = .int .i64 m ∧ Below w3.heap.size w3 wr) (fun i _ => ks.length - (intOf i).toNat)
        case atStart => exact ⟨0, Nat.zero_le _, rfl, hbw⟩
        case round =>
          obtain ⟨k2, hk2, rfl, hbe⟩ := hrel
          have d4 := below_drewP hbe
          by_cases hlt : k2 < ks.length
          · obtain ⟨hck, hrk⟩ := HK3.out k2 hlt
            have hmem := List.getElem_mem hlt
            have hF6 := HKZ.out _ hmem
            have hA := HKA.out _ hmem
            have HAB := hide (fun W (hW : Below w3.heap.size w3 W) => above_any (pbk k2) 0 ks[k2] ks[k2].length w3.heap.size W ((hrk.strs' hrk.1).below hW (Nat.le_refl _)) hW.size (by have := hF6.1; omega) (fun s hs => by have := hF6.2 s hs; omega) (Nat.le_refl _) (by have := hF6.1; unfold maxLen; omega))
            simp only [hA] at HAB
            have HSM := hide (fun (q C : Nat) W (hq : Strs W C (some ⟨q, 0, none⟩) ss) (cb : Nat) (hW : Below w3.heap.size w3 W) => samePath_any (some ⟨q, 0, none⟩) (some ⟨gp, 0, none⟩) ss ss cb cp C w1.heap.size W hq ((hP.below D3.out (Nat.le_refl _)).below hW D3.out.size) hpm hpm)
            simp only [sameL_refl] at HSM
            have HFK := hide (fun W (hW : Below w3.heap.size w3 W) => HFN.out (some ⟨pbk k2, 0, none⟩) ks[k2] ks[k2].length w3.heap.size W (D3.out.trans (hW.mono D3.out.size)) ((hrk.strs' hrk.1).below hW (Nat.le_refl _)) (by have := hF6.1; unfold maxLen; omega) hW.size)
            have hF0 := HKF.out _ hmem
            obtain ⟨F, hF⟩ : ∃ F, findI rs ks[k2] = F := ⟨_, rfl⟩
            simp only [hF] at HFK hF0
            clear hF hA
            have hk2i : (k2 : Int) < (ks.length : Int) := by omega
            have hgk3 : gk < w3.heap.size := World.block_lt_of_cell? w3 _ hck
            by_cases hz : k2 = 0
            · subst hz
              have HKA := hide (show KA0 wr gk (.slice (some ⟨pbk 0, 0, none⟩) ks[0].length ks[0].length) from (hbe.cell (p := ⟨gk, 0, none⟩) hgk3).trans hck)
              clear hck hF6 hmem
              go_wp2
              refine wp_region_held_drew (S := (fun W => KA0 W gk (.slice (some ⟨pbk 0, 0, none⟩) ks[0].length ks[0].length))) (by kernel_rfl) (by exact HKA.out) (fun hHeld => ?_)
              simp only [List.size_toArray, List.length_cons, List.length_nil, Nat.reduceAdd, Array.replicate_succ, Array.replicate_zero, List.push_toArray, List.nil_append, List.cons_append]
              refine wpAnyH_take (i := 0) (v := ?_) rfl (by kernel_rfl) (by kernel_rfl) (by kernel_rfl) (fun _ _ _ h => h) (Or.inl ⟨by rfl, ?_⟩) (by assumption) ?_
              rotate_left
              · intro w hSw; (try dsimp only at hSw); have hs0 := hSw; unfold KA0 at hs0; go_simp; try with_reducible rfl
              simp only [Act.put, List.getElem_toArray, List.getElem_cons_zero, List.setIfInBounds_toArray, List.set_cons_zero]
              refine wpAnyH_take (i := 1) (v := ?_) rfl (by kernel_rfl) (by kernel_rfl) (by kernel_rfl) (fun _ _ _ h => h) (Or.inl ⟨by rfl, ?_⟩) (by assumption) ?_
              rotate_left
              · intro w hSw; (try dsimp only at hSw); have hs0 := hSw; unfold KA0 at hs0; go_simp; try with_reducible rfl
              simp only [Act.put, List.getElem_toArray, List.getElem_cons_succ, List.getElem_cons_zero, List.setIfInBounds_toArray, List.set_cons_succ, List.set_cons_zero]
              refine wpAnyH_take (i := 2) (v := ?_) rfl (by kernel_rfl) (by kernel_rfl) (by kernel_rfl) (fun _ _ _ h => h) (Or.inl ⟨by rfl, ?_⟩) (by assumption) ?_
              rotate_left
              · intro w hSw; (try dsimp only at hSw); have hs0 := hSw; unfold KA0 at hs0; go_simp; try with_reducible rfl
              simp only [Act.put, List.getElem_toArray, List.getElem_cons_succ, List.getElem_cons_zero, List.setIfInBounds_toArray, List.set_cons_succ, List.set_cons_zero]
              refine wpAnyH_take (i := 3) (v := ?_) rfl (by kernel_rfl) (by kernel_rfl) (by kernel_rfl) (fun _ _ _ h => h) (Or.inl ⟨by rfl, ?_⟩) (by assumption) ?_
              rotate_left
              · intro w hSw; (try dsimp only at hSw); have hs0 := hSw; unfold KA0 at hs0; go_simp; try with_reducible rfl
              simp only [Act.put, List.getElem_toArray, List.getElem_cons_succ, List.getElem_cons_zero, List.setIfInBounds_toArray, List.set_cons_succ, List.set_cons_zero]
              refine wpAnyH_take (i := 5) (v := ?_) rfl (by kernel_rfl) (by kernel_rfl) (by kernel_rfl) (fun _ _ _ h => h) (Or.inl ⟨by rfl, ?_⟩) (by assumption) ?_
              rotate_left
              · intro w hSw; (try dsimp only at hSw); have hs0 := hSw; unfold KA0 at hs0; go_simp; try with_reducible rfl
              simp only [Act.put, List.getElem_toArray, List.getElem_cons_succ, List.getElem_cons_zero, List.setIfInBounds_toArray, List.set_cons_succ, List.set_cons_zero]
              refine wpAnyH_ready (rs := [4]) (by kernel_rfl) (by simp) ?_
              refine AllReadyH.cons rfl (fun K hK => ?_) AllReadyH.nil
              go_simp
              refine (HAB.out _ d4).mono ?_
              rintro e w5 ⟨rfl, r5, b5⟩
              have d5 := d4.trans (b5.mono d4.size)
              have KK5 := hide (hHeld.below b5)
              refine hK.out _ _ KK5.out (fun hHeld2 => ?_)
              clear hK K hHeld
              have hHeld := hHeld2
              clear hHeld2
              simp only [List.setIfInBounds_toArray, List.set_cons_succ, List.set_cons_zero]
              refine wpAnyH_ready (rs := [6]) (by kernel_rfl) (by simp) ?_
              refine AllReadyH.cons rfl (fun K hK => ?_) AllReadyH.nil
              go_simp
              refine (HSM.out _ _ _ (r5.strs' r5.1) _ d5).mono ?_
              rintro e w6 ⟨rfl, b6'⟩
              have b6 := b6' w5.heap.size
              have d6 := d5.trans (b6.mono d5.size)
              have KK6 := hide (hHeld.below b6)
              refine hK.out _ _ KK6.out (fun hHeld2 => ?_)
              clear hK K hHeld
              have hHeld := hHeld2
              clear hHeld2
              simp only [List.setIfInBounds_toArray, List.set_cons_succ, List.set_cons_zero]
              refine wpAnyH_take (i := 7) (v := .bool false) rfl (by kernel_rfl) (by kernel_rfl) (by kernel_rfl) (fun _ _ _ h => h) (Or.inl ⟨by rfl, ?_⟩) (by assumption) ?_
              · intro w hSw; (try dsimp only at hSw); have hs0 := hSw; unfold KA0 at hs0; go_simp
              simp only [Act.put, List.getElem_toArray, List.getElem_cons_succ, List.getElem_cons_zero, List.setIfInBounds_toArray, List.set_cons_succ, List.set_cons_zero]
              refine wpAnyH_take (i := 8) (v := .bool false) rfl (by kernel_rfl) (by kernel_rfl) (by kernel_rfl) (fun _ _ _ h => h) (Or.inl ⟨by rfl, ?_⟩) (by assumption) ?_
              · intro w hSw; (try dsimp only at hSw); have hs0 := hSw; unfold KA0 at hs0; go_simp
              simp only [Act.put, List.getElem_toArray, List.getElem_cons_succ, List.getElem_cons_zero, List.setIfInBounds_toArray, List.set_cons_succ, List.set_cons_zero]
              refine wpAnyH_take (i := 9) (v := ?_) rfl (by kernel_rfl) (by kernel_rfl) (by kernel_rfl) (fun _ _ _ h => h) (Or.inl ⟨by rfl, ?_⟩) (by assumption) ?_
              rotate_left
              · intro w hSw; (try dsimp only at hSw); have hs0 := hSw; unfold KA0 at hs0; go_simp; try with_reducible rfl
              simp only [Act.put, List.getElem_toArray, List.getElem_cons_succ, List.getElem_cons_zero, List.setIfInBounds_toArray, List.set_cons_succ, List.set_cons_zero]
              refine wpAnyH_take (i := 10) (v := ?_) rfl (by kernel_rfl) (by kernel_rfl) (by kernel_rfl) (fun _ _ _ h => h) (Or.inl ⟨by rfl, ?_⟩) (by assumption) ?_
              rotate_left
              · intro w hSw; (try dsimp only at hSw); have hs0 := hSw; unfold KA0 at hs0; go_simp; try with_reducible rfl
              simp only [Act.put, List.getElem_toArray, List.getElem_cons_succ, List.getElem_cons_zero, List.setIfInBounds_toArray, List.set_cons_succ, List.set_cons_zero]
              refine wpAnyH_take (i := 11) (v := ?_) rfl (by kernel_rfl) (by kernel_rfl) (by kernel_rfl) (fun _ _ _ h => h) (Or.inl ⟨by rfl, ?_⟩) (by assumption) ?_
              rotate_left
              · intro w hSw; (try dsimp only at hSw); have hs0 := hSw; unfold KA0 at hs0; go_simp; try with_reducible rfl
              simp only [Act.put, List.getElem_toArray, List.getElem_cons_succ, List.getElem_cons_zero, List.setIfInBounds_toArray, List.set_cons_succ, List.set_cons_zero]
              refine wpAnyH_take (i := 12) (v := ?_) rfl (by kernel_rfl) (by kernel_rfl) (by kernel_rfl) (fun _ _ _ h => h) (Or.inl ⟨by rfl, ?_⟩) (by assumption) ?_
              rotate_left
              · intro w hSw; (try dsimp only at hSw); have hs0 := hSw; unfold KA0 at hs0; go_simp; try with_reducible rfl
              simp only [Act.put, List.getElem_toArray, List.getElem_cons_succ, List.getElem_cons_zero, List.setIfInBounds_toArray, List.set_cons_succ, List.set_cons_zero]
              refine wpAnyH_take (i := 13) (v := ?_) rfl (by kernel_rfl) (by kernel_rfl) (by kernel_rfl) (fun _ _ _ h => h) (Or.inl ⟨by rfl, ?_⟩) (by assumption) ?_
              rotate_left
              · intro w hSw; (try dsimp only at hSw); have hs0 := hSw; unfold KA0 at hs0; go_simp; try with_reducible rfl
              simp only [Act.put, List.getElem_toArray, List.getElem_cons_succ, List.getElem_cons_zero, List.setIfInBounds_toArray, List.set_cons_succ, List.set_cons_zero]
              refine wpAnyH_ready (rs := [14]) (by kernel_rfl) (by simp) ?_
              refine AllReadyH.cons rfl (fun K hK => ?_) AllReadyH.nil
              go_simp
              refine (HFK.out _ d6).mono ?_
              rintro e w7 ⟨rfl, b7⟩
              have d7 := d6.trans (b7.mono d6.size)
              have KK7 := hide (hHeld.below b7)
              refine hK.out _ _ KK7.out (fun hHeld2 => ?_)
              clear hK K hHeld
              have hHeld := hHeld2
              clear hHeld2
              simp only [List.setIfInBounds_toArray, List.set_cons_succ, List.set_cons_zero]
              refine wpAnyH_take (i := 15) (v := .bool false) rfl (by kernel_rfl) (by kernel_rfl) (by kernel_rfl) (fun _ _ _ h => h) (Or.inl ⟨by rfl, ?_⟩) (by assumption) ?_
              · intro w hSw; (try dsimp only at hSw); have hs0 := hSw; unfold KA0 at hs0; go_simp
              simp only [Act.put, List.getElem_toArray, List.getElem_cons_succ, List.getElem_cons_zero, List.setIfInBounds_toArray, List.set_cons_succ, List.set_cons_zero]
              refine wpAnyH_take (i := 16) (v := .bool false) rfl (by kernel_rfl) (by kernel_rfl) (by kernel_rfl) (fun _ _ _ h => h) (Or.inl ⟨by rfl, ?_⟩) (by assumption) ?_
              · intro w hSw; (try dsimp only at hSw); have hs0 := hSw; unfold KA0 at hs0; go_simp
              simp only [Act.put, List.getElem_toArray, List.getElem_cons_succ, List.getElem_cons_zero, List.setIfInBounds_toArray, List.set_cons_succ, List.set_cons_zero]
              refine wpAnyH_take (i := 17) (v := .bool false) rfl (by kernel_rfl) (by kernel_rfl) (by kernel_rfl) (fun _ _ _ h => h) (Or.inl ⟨by rfl, ?_⟩) (by assumption) ?_
              · intro w hSw; (try dsimp only at hSw); have hs0 := hSw; unfold KA0 at hs0; go_simp
              simp only [Act.put, List.getElem_toArray, List.getElem_cons_succ, List.getElem_cons_zero, List.setIfInBounds_toArray, List.set_cons_succ, List.set_cons_zero]
              refine wpAnyH_take (i := 18) (v := ?_) rfl (by kernel_rfl) (by kernel_rfl) (by kernel_rfl) (fun _ _ _ h => h) (Or.inl ⟨by rfl, ?_⟩) (by assumption) ?_
              rotate_left
              · intro w hSw; (try dsimp only at hSw); have hs0 := hSw; unfold KA0 at hs0; go_simp; try with_reducible rfl
              simp only [Act.put, List.getElem_toArray, List.getElem_cons_succ, List.getElem_cons_zero, List.setIfInBounds_toArray, List.set_cons_succ, List.set_cons_zero]
              refine wpAnyH_take (i := 19) (v := .bool false) rfl (by kernel_rfl) (by kernel_rfl) (by kernel_rfl) (fun _ _ _ h => h) (Or.inl ⟨by rfl, ?_⟩) (by assumption) ?_
              · intro w hSw; (try dsimp only at hSw); have hs0 := hSw; unfold KA0 at hs0; go_simp
              simp only [Act.put, List.getElem_toArray, List.getElem_cons_succ, List.getElem_cons_zero, List.setIfInBounds_toArray, List.set_cons_succ, List.set_cons_zero]
              refine wpAnyH_take (i := 20) (v := .bool false) rfl (by kernel_rfl) (by kernel_rfl) (by kernel_rfl) (fun _ _ _ h => h) (Or.inl ⟨by rfl, ?_⟩) (by assumption) ?_
              · intro w hSw; (try dsimp only at hSw); have hs0 := hSw; unfold KA0 at hs0; go_simp
              simp only [Act.put, List.getElem_toArray, List.getElem_cons_succ, List.getElem_cons_zero, List.setIfInBounds_toArray, List.set_cons_succ, List.set_cons_zero]
              refine wpAnyH_take (i := 21) (v := undef) rfl (by kernel_rfl) (by kernel_rfl) (by kernel_rfl) (fun _ _ _ h => h) (Or.inr ⟨by rfl, rfl⟩) (by assumption) ?_
              simp only [Act.put, List.getElem_toArray, List.getElem_cons_succ, List.getElem_cons_zero, List.setIfInBounds_toArray, List.set_cons_succ, List.set_cons_zero]
              refine wpAnyH_take (i := 22) (v := undef) rfl (by kernel_rfl) (by kernel_rfl) (by kernel_rfl) (fun _ _ _ h => h) (Or.inr ⟨by rfl, rfl⟩) (by assumption) ?_
              simp only [Act.put, List.getElem_toArray, List.getElem_cons_succ, List.getElem_cons_zero, List.setIfInBounds_toArray, List.set_cons_succ, List.set_cons_zero]
              refine wpAnyH_take (i := 23) (v := undef) rfl (by kernel_rfl) (by kernel_rfl) (by kernel_rfl) (fun _ _ _ h => h) (Or.inr ⟨by rfl, rfl⟩) (by assumption) ?_
              simp only [Act.put, List.getElem_toArray, List.getElem_cons_succ, List.getElem_cons_zero, List.setIfInBounds_toArray, List.set_cons_succ, List.set_cons_zero]
              refine wpAnyH_take (i := 24) (v := undef) rfl (by kernel_rfl) (by kernel_rfl) (by kernel_rfl) (fun _ _ _ h => h) (Or.inr ⟨by rfl, rfl⟩) (by assumption) ?_
              simp only [Act.put, List.getElem_toArray, List.getElem_cons_succ, List.getElem_cons_zero, List.setIfInBounds_toArray, List.set_cons_succ, List.set_cons_zero]
              refine wpAnyH_take (i := 25) (v := undef) rfl (by kernel_rfl) (by kernel_rfl) (by kernel_rfl) (fun _ _ _ h => h) (Or.inr ⟨by rfl, rfl⟩) (by assumption) ?_
              simp only [Act.put, List.getElem_toArray, List.getElem_cons_succ, List.getElem_cons_zero, List.setIfInBounds_toArray, List.set_cons_succ, List.set_cons_zero]
              refine wpAnyH_take (i := 26) (v := undef) rfl (by kernel_rfl) (by kernel_rfl) (by kernel_rfl) (fun _ _ _ h => h) (Or.inr ⟨by rfl, rfl⟩) (by assumption) ?_
              simp only [Act.put, List.getElem_toArray, List.getElem_cons_succ, List.getElem_cons_zero, List.setIfInBounds_toArray, List.set_cons_succ, List.set_cons_zero]
              refine wpAnyH_take (i := 27) (v := undef) rfl (by kernel_rfl) (by kernel_rfl) (by kernel_rfl) (fun _ _ _ h => h) (Or.inr ⟨by rfl, rfl⟩) (by assumption) ?_
              simp only [Act.put, List.getElem_toArray, List.getElem_cons_succ, List.getElem_cons_zero, List.setIfInBounds_toArray, List.set_cons_succ, List.set_cons_zero]
              refine wpAnyH_take (i := 28) (v := undef) rfl (by kernel_rfl) (by kernel_rfl) (by kernel_rfl) (fun _ _ _ h => h) (Or.inr ⟨by rfl, rfl⟩) (by assumption) ?_
              simp only [Act.put, List.getElem_toArray, List.getElem_cons_succ, List.getElem_cons_zero, List.setIfInBounds_toArray, List.set_cons_succ, List.set_cons_zero]
              refine wpAnyH_take (i := 29) (v := undef) rfl (by kernel_rfl) (by kernel_rfl) (by kernel_rfl) (fun _ _ _ h => h) (Or.inr ⟨by rfl, rfl⟩) (by assumption) ?_
              simp only [Act.put, List.getElem_toArray, List.getElem_cons_succ, List.getElem_cons_zero, List.setIfInBounds_toArray, List.set_cons_succ, List.set_cons_zero]
              refine wpAnyH_take (i := 30) (v := undef) rfl (by kernel_rfl) (by kernel_rfl) (by kernel_rfl) (fun _ _ _ h => h) (Or.inr ⟨by rfl, rfl⟩) (by assumption) ?_
              simp only [Act.put, List.getElem_toArray, List.getElem_cons_succ, List.getElem_cons_zero, List.setIfInBounds_toArray, List.set_cons_succ, List.set_cons_zero]
              refine wpAnyH_take (i := 31) (v := undef) rfl (by kernel_rfl) (by kernel_rfl) (by kernel_rfl) (fun _ _ _ h => h) (Or.inr ⟨by rfl, rfl⟩) (by assumption) ?_
              simp only [Act.put, List.getElem_toArray, List.getElem_cons_succ, List.getElem_cons_zero, List.setIfInBounds_toArray, List.set_cons_succ, List.set_cons_zero]
              refine wpAnyH_take (i := 32) (v := .bool false) rfl (by kernel_rfl) (by kernel_rfl) (by kernel_rfl) (fun _ _ _ h => h) (Or.inl ⟨by rfl, ?_⟩) (by assumption) ?_
              · intro w hSw; (try dsimp only at hSw); have hs0 := hSw; unfold KA0 at hs0; go_simp
              simp only [Act.put, List.getElem_toArray, List.getElem_cons_succ, List.getElem_cons_zero, List.setIfInBounds_toArray, List.set_cons_succ, List.set_cons_zero]
              refine wpAnyH_take (i := 33) (v := .bool false) rfl (by kernel_rfl) (by kernel_rfl) (by kernel_rfl) (fun _ _ _ h => h) (Or.inl ⟨by rfl, ?_⟩) (by assumption) ?_
              · intro w hSw; (try dsimp only at hSw); have hs0 := hSw; unfold KA0 at hs0; go_simp
              simp only [Act.put, List.getElem_toArray, List.getElem_cons_succ, List.getElem_cons_zero, List.setIfInBounds_toArray, List.set_cons_succ, List.set_cons_zero]
              refine wpAnyH_done (by kernel_rfl) ?_ _
              have c8 := d7
              clear hHeld HAB HSM HFK
              go_wp2
              go_roundw
              case rel => exact ⟨0 + 1, by omega, by go_num, c8⟩
              case measure => simp [intOf]; omega
            · obtain ⟨m, rfl⟩ : ∃ m, k2 = m + 1 := ⟨k2 - 1, by omega⟩
              obtain ⟨hcm, hrm⟩ := HK3.out m (by omega)
              have hFm := HKZ.out _ (List.getElem_mem (show m < ks.length by omega))
              have HLK := hide (fun W (hW : Below w3.heap.size w3 W) => lessPath_any (some ⟨pbk m, 0, none⟩) (some ⟨pbk (m + 1), 0, none⟩) ks[m] ks[m + 1] ks[m].length ks[m + 1].length w3.heap.size w3.heap.size W ((hrm.strs' hrm.1).below hW (Nat.le_refl _)) ((hrk.strs' hrk.1).below hW (Nat.le_refl _)) (by have := hFm.1; unfold maxLen; omega) (by have := hF6.1; unfold maxLen; omega))
              have hln := HKN.out m hlt
              simp only [hln] at HLK
              have HKA := hide (show KAt wr gk m (.slice (some ⟨pbk m, 0, none⟩) ks[m].length ks[m].length) (.slice (some ⟨pbk (m + 1), 0, none⟩) ks[m + 1].length ks[m + 1].length) from ⟨(hbe.cell (p := ⟨gk, m, none⟩) hgk3).trans hcm, (hbe.cell (p := ⟨gk, m + 1, none⟩) hgk3).trans hck⟩)
              clear hck hcm hF6 hmem hFm hln hz
              have hmi : (m : Int) + 1 < (ks.length : Int) := by omega
              have hmj : (m : Int) < (ks.length : Int) := by omega
              have hm0 : (0 : Int) ≤ (m : Int) + 1 := by omega
              have hm1 : (0 : Int) < (m : Int) + 1 := by omega
              have hm00 : (0 : Int) ≤ (m : Int) := by omega
              have hwm : IntKind.i64.wrap (m : Int) = (m : Int) := by rw [IntKind.wrap_i64]; omega
              go_wp2
              refine wp_region_held_drew (S := (fun W => KAt W gk m (.slice (some ⟨pbk m, 0, none⟩) ks[m].length ks[m].length) (.slice (some ⟨pbk (m + 1), 0, none⟩) ks[m + 1].length ks[m + 1].length))) (by kernel_rfl) (by exact HKA.out) (fun hHeld => ?_)
              simp only [List.size_toArray, List.length_cons, List.length_nil, Nat.reduceAdd, Array.replicate_succ, Array.replicate_zero, List.push_toArray, List.nil_append, List.cons_append]
              refine wpAnyH_take (i := 0) (v := ?_) rfl (by kernel_rfl) (by kernel_rfl) (by kernel_rfl) (fun _ _ _ h => h) (Or.inl ⟨by rfl, ?_⟩) (by assumption) ?_
              rotate_left
              · intro w hSw; (try dsimp only at hSw); obtain ⟨hs0, hs1⟩ := hSw; go_simp; try with_reducible rfl
              simp only [Act.put, List.getElem_toArray, List.getElem_cons_zero, List.setIfInBounds_toArray, List.set_cons_zero]
              refine wpAnyH_take (i := 1) (v := ?_) rfl (by kernel_rfl) (by kernel_rfl) (by kernel_rfl) (fun _ _ _ h => h) (Or.inl ⟨by rfl, ?_⟩) (by assumption) ?_
              rotate_left
              · intro w hSw; (try dsimp only at hSw); obtain ⟨hs0, hs1⟩ := hSw; go_simp; try with_reducible rfl
              simp only [Act.put, List.getElem_toArray, List.getElem_cons_succ, List.getElem_cons_zero, List.setIfInBounds_toArray, List.set_cons_succ, List.set_cons_zero]
              refine wpAnyH_take (i := 2) (v := ?_) rfl (by kernel_rfl) (by kernel_rfl) (by kernel_rfl) (fun _ _ _ h => h) (Or.inl ⟨by rfl, ?_⟩) (by assumption) ?_
              rotate_left
              · intro w hSw; (try dsimp only at hSw); obtain ⟨hs0, hs1⟩ := hSw; go_simp; try with_reducible rfl
              simp only [Act.put, List.getElem_toArray, List.getElem_cons_succ, List.getElem_cons_zero, List.setIfInBounds_toArray, List.set_cons_succ, List.set_cons_zero]
              refine wpAnyH_take (i := 3) (v := ?_) rfl (by kernel_rfl) (by kernel_rfl) (by kernel_rfl) (fun _ _ _ h => h) (Or.inl ⟨by rfl, ?_⟩) (by assumption) ?_
              rotate_left
              · intro w hSw; (try dsimp only at hSw); obtain ⟨hs0, hs1⟩ := hSw; go_simp; try with_reducible rfl
              simp only [Act.put, List.getElem_toArray, List.getElem_cons_succ, List.getElem_cons_zero, List.setIfInBounds_toArray, List.set_cons_succ, List.set_cons_zero]
              refine wpAnyH_take (i := 5) (v := ?_) rfl (by kernel_rfl) (by kernel_rfl) (by kernel_rfl) (fun _ _ _ h => h) (Or.inl ⟨by rfl, ?_⟩) (by assumption) ?_
              rotate_left
              · intro w hSw; (try dsimp only at hSw); obtain ⟨hs0, hs1⟩ := hSw; go_simp; try with_reducible rfl
              simp only [Act.put, List.getElem_toArray, List.getElem_cons_succ, List.getElem_cons_zero, List.setIfInBounds_toArray, List.set_cons_succ, List.set_cons_zero]
              refine wpAnyH_ready (rs := [4]) (by kernel_rfl) (by simp) ?_
              refine AllReadyH.cons rfl (fun K hK => ?_) AllReadyH.nil
              go_simp
              refine (HAB.out _ d4).mono ?_
              rintro e w5 ⟨rfl, r5, b5⟩
              have d5 := d4.trans (b5.mono d4.size)
              have KK5 := hide (hHeld.below b5)
              refine hK.out _ _ KK5.out (fun hHeld2 => ?_)
              clear hK K hHeld
              have hHeld := hHeld2
              clear hHeld2
              simp only [List.setIfInBounds_toArray, List.set_cons_succ, List.set_cons_zero]
              refine wpAnyH_ready (rs := [6]) (by kernel_rfl) (by simp) ?_
              refine AllReadyH.cons rfl (fun K hK => ?_) AllReadyH.nil
              go_simp
              refine (HSM.out _ _ _ (r5.strs' r5.1) _ d5).mono ?_
              rintro e w6 ⟨rfl, b6'⟩
              have b6 := b6' w5.heap.size
              have d6 := d5.trans (b6.mono d5.size)
              have KK6 := hide (hHeld.below b6)
              refine hK.out _ _ KK6.out (fun hHeld2 => ?_)
              clear hK K hHeld
              have hHeld := hHeld2
              clear hHeld2
              simp only [List.setIfInBounds_toArray, List.set_cons_succ, List.set_cons_zero]
              refine wpAnyH_take (i := 7) (v := .bool false) rfl (by kernel_rfl) (by kernel_rfl) (by kernel_rfl) (fun _ _ _ h => h) (Or.inl ⟨by rfl, ?_⟩) (by assumption) ?_
              · intro w hSw; (try dsimp only at hSw); obtain ⟨hs0, hs1⟩ := hSw; go_simp
              simp only [Act.put, List.getElem_toArray, List.getElem_cons_succ, List.getElem_cons_zero, List.setIfInBounds_toArray, List.set_cons_succ, List.set_cons_zero]
              refine wpAnyH_take (i := 8) (v := .bool false) rfl (by kernel_rfl) (by kernel_rfl) (by kernel_rfl) (fun _ _ _ h => h) (Or.inl ⟨by rfl, ?_⟩) (by assumption) ?_
              · intro w hSw; (try dsimp only at hSw); obtain ⟨hs0, hs1⟩ := hSw; go_simp
              simp only [Act.put, List.getElem_toArray, List.getElem_cons_succ, List.getElem_cons_zero, List.setIfInBounds_toArray, List.set_cons_succ, List.set_cons_zero]
              refine wpAnyH_take (i := 9) (v := ?_) rfl (by kernel_rfl) (by kernel_rfl) (by kernel_rfl) (fun _ _ _ h => h) (Or.inl ⟨by rfl, ?_⟩) (by assumption) ?_
              rotate_left
              · intro w hSw; (try dsimp only at hSw); obtain ⟨hs0, hs1⟩ := hSw; go_simp; try with_reducible rfl
              simp only [Act.put, List.getElem_toArray, List.getElem_cons_succ, List.getElem_cons_zero, List.setIfInBounds_toArray, List.set_cons_succ, List.set_cons_zero]
              refine wpAnyH_take (i := 10) (v := ?_) rfl (by kernel_rfl) (by kernel_rfl) (by kernel_rfl) (fun _ _ _ h => h) (Or.inl ⟨by rfl, ?_⟩) (by assumption) ?_
              rotate_left
              · intro w hSw; (try dsimp only at hSw); obtain ⟨hs0, hs1⟩ := hSw; go_simp; try with_reducible rfl
              simp only [Act.put, List.getElem_toArray, List.getElem_cons_succ, List.getElem_cons_zero, List.setIfInBounds_toArray, List.set_cons_succ, List.set_cons_zero]
              refine wpAnyH_take (i := 11) (v := ?_) rfl (by kernel_rfl) (by kernel_rfl) (by kernel_rfl) (fun _ _ _ h => h) (Or.inl ⟨by rfl, ?_⟩) (by assumption) ?_
              rotate_left
              · intro w hSw; (try dsimp only at hSw); obtain ⟨hs0, hs1⟩ := hSw; go_simp; try with_reducible rfl
              simp only [Act.put, List.getElem_toArray, List.getElem_cons_succ, List.getElem_cons_zero, List.setIfInBounds_toArray, List.set_cons_succ, List.set_cons_zero]
              refine wpAnyH_take (i := 12) (v := ?_) rfl (by kernel_rfl) (by kernel_rfl) (by kernel_rfl) (fun _ _ _ h => h) (Or.inl ⟨by rfl, ?_⟩) (by assumption) ?_
              rotate_left
              · intro w hSw; (try dsimp only at hSw); obtain ⟨hs0, hs1⟩ := hSw; go_simp; try with_reducible rfl
              simp only [Act.put, List.getElem_toArray, List.getElem_cons_succ, List.getElem_cons_zero, List.setIfInBounds_toArray, List.set_cons_succ, List.set_cons_zero]
              refine wpAnyH_take (i := 13) (v := ?_) rfl (by kernel_rfl) (by kernel_rfl) (by kernel_rfl) (fun _ _ _ h => h) (Or.inl ⟨by rfl, ?_⟩) (by assumption) ?_
              rotate_left
              · intro w hSw; (try dsimp only at hSw); obtain ⟨hs0, hs1⟩ := hSw; go_simp; try with_reducible rfl
              simp only [Act.put, List.getElem_toArray, List.getElem_cons_succ, List.getElem_cons_zero, List.setIfInBounds_toArray, List.set_cons_succ, List.set_cons_zero]
              refine wpAnyH_ready (rs := [14]) (by kernel_rfl) (by simp) ?_
              refine AllReadyH.cons rfl (fun K hK => ?_) AllReadyH.nil
              go_simp
              refine (HFK.out _ d6).mono ?_
              rintro e w7 ⟨rfl, b7⟩
              have d7 := d6.trans (b7.mono d6.size)
              have KK7 := hide (hHeld.below b7)
              refine hK.out _ _ KK7.out (fun hHeld2 => ?_)
              clear hK K hHeld
              have hHeld := hHeld2
              clear hHeld2
              simp only [List.setIfInBounds_toArray, List.set_cons_succ, List.set_cons_zero]
              refine wpAnyH_take (i := 15) (v := .bool false) rfl (by kernel_rfl) (by kernel_rfl) (by kernel_rfl) (fun _ _ _ h => h) (Or.inl ⟨by rfl, ?_⟩) (by assumption) ?_
              · intro w hSw; (try dsimp only at hSw); obtain ⟨hs0, hs1⟩ := hSw; go_simp
              simp only [Act.put, List.getElem_toArray, List.getElem_cons_succ, List.getElem_cons_zero, List.setIfInBounds_toArray, List.set_cons_succ, List.set_cons_zero]
              refine wpAnyH_take (i := 16) (v := .bool false) rfl (by kernel_rfl) (by kernel_rfl) (by kernel_rfl) (fun _ _ _ h => h) (Or.inl ⟨by rfl, ?_⟩) (by assumption) ?_
              · intro w hSw; (try dsimp only at hSw); obtain ⟨hs0, hs1⟩ := hSw; go_simp
              simp only [Act.put, List.getElem_toArray, List.getElem_cons_succ, List.getElem_cons_zero, List.setIfInBounds_toArray, List.set_cons_succ, List.set_cons_zero]
              refine wpAnyH_take (i := 17) (v := .bool false) rfl (by kernel_rfl) (by kernel_rfl) (by kernel_rfl) (fun _ _ _ h => h) (Or.inl ⟨by rfl, ?_⟩) (by assumption) ?_
              · intro w hSw; (try dsimp only at hSw); obtain ⟨hs0, hs1⟩ := hSw; go_simp
              simp only [Act.put, List.getElem_toArray, List.getElem_cons_succ, List.getElem_cons_zero, List.setIfInBounds_toArray, List.set_cons_succ, List.set_cons_zero]
              refine wpAnyH_take (i := 18) (v := ?_) rfl (by kernel_rfl) (by kernel_rfl) (by kernel_rfl) (fun _ _ _ h => h) (Or.inl ⟨by rfl, ?_⟩) (by assumption) ?_
              rotate_left
              · intro w hSw; (try dsimp only at hSw); obtain ⟨hs0, hs1⟩ := hSw; go_simp; try with_reducible rfl
              simp only [Act.put, List.getElem_toArray, List.getElem_cons_succ, List.getElem_cons_zero, List.setIfInBounds_toArray, List.set_cons_succ, List.set_cons_zero]
              refine wpAnyH_take (i := 19) (v := .bool true) rfl (by kernel_rfl) (by kernel_rfl) (by kernel_rfl) (fun _ _ _ h => h) (Or.inl ⟨by rfl, ?_⟩) (by assumption) ?_
              · intro w hSw; (try dsimp only at hSw); obtain ⟨hs0, hs1⟩ := hSw; go_simp
              simp only [Act.put, List.getElem_toArray, List.getElem_cons_succ, List.getElem_cons_zero, List.setIfInBounds_toArray, List.set_cons_succ, List.set_cons_zero]
              refine wpAnyH_take (i := 20) (v := .bool true) rfl (by kernel_rfl) (by kernel_rfl) (by kernel_rfl) (fun _ _ _ h => h) (Or.inl ⟨by rfl, ?_⟩) (by assumption) ?_
              · intro w hSw; (try dsimp only at hSw); obtain ⟨hs0, hs1⟩ := hSw; go_simp
              simp only [Act.put, List.getElem_toArray, List.getElem_cons_succ, List.getElem_cons_zero, List.setIfInBounds_toArray, List.set_cons_succ, List.set_cons_zero]
              refine wpAnyH_take (i := 21) (v := ?_) rfl (by kernel_rfl) (by kernel_rfl) (by kernel_rfl) (fun _ _ _ h => h) (Or.inl ⟨by rfl, ?_⟩) (by assumption) ?_
              rotate_left
              · intro w hSw; (try dsimp only at hSw); obtain ⟨hs0, hs1⟩ := hSw; go_simp; try with_reducible rfl
              simp only [Act.put, List.getElem_toArray, List.getElem_cons_succ, List.getElem_cons_zero, List.setIfInBounds_toArray, List.set_cons_succ, List.set_cons_zero]
              refine wpAnyH_take (i := 22) (v := ?_) rfl (by kernel_rfl) (by kernel_rfl) (by kernel_rfl) (fun _ _ _ h => h) (Or.inl ⟨by rfl, ?_⟩) (by assumption) ?_
              rotate_left
              · intro w hSw; (try dsimp only at hSw); obtain ⟨hs0, hs1⟩ := hSw; go_simp; try with_reducible rfl
              simp only [Act.put, List.getElem_toArray, List.getElem_cons_succ, List.getElem_cons_zero, List.setIfInBounds_toArray, List.set_cons_succ, List.set_cons_zero]
              refine wpAnyH_take (i := 23) (v := ?_) rfl (by kernel_rfl) (by kernel_rfl) (by kernel_rfl) (fun _ _ _ h => h) (Or.inl ⟨by rfl, ?_⟩) (by assumption) ?_
              rotate_left
              · intro w hSw; (try dsimp only at hSw); obtain ⟨hs0, hs1⟩ := hSw; go_simp; try with_reducible rfl
              simp only [Act.put, List.getElem_toArray, List.getElem_cons_succ, List.getElem_cons_zero, List.setIfInBounds_toArray, List.set_cons_succ, List.set_cons_zero]
              refine wpAnyH_take (i := 24) (v := ?_) rfl (by kernel_rfl) (by kernel_rfl) (by kernel_rfl) (fun _ _ _ h => h) (Or.inl ⟨by rfl, ?_⟩) (by assumption) ?_
              rotate_left
              · intro w hSw; (try dsimp only at hSw); obtain ⟨hs0, hs1⟩ := hSw; go_simp; try with_reducible rfl
              simp only [Act.put, List.getElem_toArray, List.getElem_cons_succ, List.getElem_cons_zero, List.setIfInBounds_toArray, List.set_cons_succ, List.set_cons_zero]
              refine wpAnyH_take (i := 25) (v := ?_) rfl (by kernel_rfl) (by kernel_rfl) (by kernel_rfl) (fun _ _ _ h => h) (Or.inl ⟨by rfl, ?_⟩) (by assumption) ?_
              rotate_left
              · intro w hSw; (try dsimp only at hSw); obtain ⟨hs0, hs1⟩ := hSw; go_simp; try with_reducible rfl
              simp only [Act.put, List.getElem_toArray, List.getElem_cons_succ, List.getElem_cons_zero, List.setIfInBounds_toArray, List.set_cons_succ, List.set_cons_zero]
              refine wpAnyH_take (i := 26) (v := ?_) rfl (by kernel_rfl) (by kernel_rfl) (by kernel_rfl) (fun _ _ _ h => h) (Or.inl ⟨by rfl, ?_⟩) (by assumption) ?_
              rotate_left
              · intro w hSw; (try dsimp only at hSw); obtain ⟨hs0, hs1⟩ := hSw; go_simp; try with_reducible rfl
              simp only [Act.put, List.getElem_toArray, List.getElem_cons_succ, List.getElem_cons_zero, List.setIfInBounds_toArray, List.set_cons_succ, List.set_cons_zero]
              refine wpAnyH_take (i := 27) (v := ?_) rfl (by kernel_rfl) (by kernel_rfl) (by kernel_rfl) (fun _ _ _ h => h) (Or.inl ⟨by rfl, ?_⟩) (by assumption) ?_
              rotate_left
              · intro w hSw; (try dsimp only at hSw); obtain ⟨hs0, hs1⟩ := hSw; go_simp; try with_reducible rfl
              simp only [Act.put, List.getElem_toArray, List.getElem_cons_succ, List.getElem_cons_zero, List.setIfInBounds_toArray, List.set_cons_succ, List.set_cons_zero]
              refine wpAnyH_take (i := 28) (v := ?_) rfl (by kernel_rfl) (by kernel_rfl) (by kernel_rfl) (fun _ _ _ h => h) (Or.inl ⟨by rfl, ?_⟩) (by assumption) ?_
              rotate_left
              · intro w hSw; (try dsimp only at hSw); obtain ⟨hs0, hs1⟩ := hSw; go_simp; try with_reducible rfl
              simp only [Act.put, List.getElem_toArray, List.getElem_cons_succ, List.getElem_cons_zero, List.setIfInBounds_toArray, List.set_cons_succ, List.set_cons_zero]
              refine wpAnyH_take (i := 29) (v := ?_) rfl (by kernel_rfl) (by kernel_rfl) (by kernel_rfl) (fun _ _ _ h => h) (Or.inl ⟨by rfl, ?_⟩) (by assumption) ?_
              rotate_left
              · intro w hSw; (try dsimp only at hSw); obtain ⟨hs0, hs1⟩ := hSw; go_simp; try with_reducible rfl
              simp only [Act.put, List.getElem_toArray, List.getElem_cons_succ, List.getElem_cons_zero, List.setIfInBounds_toArray, List.set_cons_succ, List.set_cons_zero]
              refine wpAnyH_ready (rs := [30]) (by kernel_rfl) (by simp) ?_
              refine AllReadyH.cons rfl (fun K hK => ?_) AllReadyH.nil
              go_simp
              refine (HLK.out _ d7).mono ?_
              rintro e w8 ⟨rfl, hw8⟩
              obtain rfl := hw8.symm
              have b8 : Below w7.heap.size w7 w7 := Below.refl _ _
              have d8 := d7.trans (b8.mono d7.size)
              have KK8 := hide (hHeld.below b8)
              refine hK.out _ _ KK8.out (fun hHeld2 => ?_)
              clear hK K hHeld
              have hHeld := hHeld2
              clear hHeld2
              simp only [List.setIfInBounds_toArray, List.set_cons_succ, List.set_cons_zero]
              refine wpAnyH_take (i := 31) (v := .bool false) rfl (by kernel_rfl) (by kernel_rfl) (by kernel_rfl) (fun _ _ _ h => h) (Or.inl ⟨by rfl, ?_⟩) (by assumption) ?_
              · intro w hSw; (try dsimp only at hSw); obtain ⟨hs0, hs1⟩ := hSw; go_simp
              simp only [Act.put, List.getElem_toArray, List.getElem_cons_succ, List.getElem_cons_zero, List.setIfInBounds_toArray, List.set_cons_succ, List.set_cons_zero]
              refine wpAnyH_take (i := 32) (v := .bool false) rfl (by kernel_rfl) (by kernel_rfl) (by kernel_rfl) (fun _ _ _ h => h) (Or.inl ⟨by rfl, ?_⟩) (by assumption) ?_
              · intro w hSw; (try dsimp only at hSw); obtain ⟨hs0, hs1⟩ := hSw; go_simp
              simp only [Act.put, List.getElem_toArray, List.getElem_cons_succ, List.getElem_cons_zero, List.setIfInBounds_toArray, List.set_cons_succ, List.set_cons_zero]
              refine wpAnyH_take (i := 33) (v := .bool false) rfl (by kernel_rfl) (by kernel_rfl) (by kernel_rfl) (fun _ _ _ h => h) (Or.inl ⟨by rfl, ?_⟩) (by assumption) ?_
              · intro w hSw; (try dsimp only at hSw); obtain ⟨hs0, hs1⟩ := hSw; go_simp
              simp only [Act.put, List.getElem_toArray, List.getElem_cons_succ, List.getElem_cons_zero, List.setIfInBounds_toArray, List.set_cons_succ, List.set_cons_zero]
              refine wpAnyH_done (by kernel_rfl) ?_ _
              have c8 := d8
              clear hHeld HAB HSM HFK HLK
              go_wp2
              go_roundw
              case rel => exact ⟨m + 1 + 1, by omega, by go_num, c8⟩
              case measure => simp [intOf]; omega
          · have HI1 := hide (HIC.out (some ⟨wr.heap.size, 0, none⟩) [] 0 0 (wr.alloc (Obj.cells #[] 9)) (D3.out.trans ((hbe.alloc hbe.size _).mono D3.out.size)) (fun h => absurd h (Nat.lt_irrefl _)) (Nat.zero_le _) (Nat.zero_le _))
            simp only [collB_root (rs := rs) (p := []) rfl] at HI1
            have hAL := hbe.alloc hbe.size (Obj.cells #[] 9)
            have HBE := hide hAL
            clear hAL
            go_wp2_with fail
            refine HI1.out.mono ?_
            rintro e w5 ⟨rfl, b5⟩
            have c5 := HBE.out.trans (b5.mono HBE.out.size)
            have c6 := HB1.out.trans ((D3.out.trans (c5.mono D3.out.size)).mono HB1.out.size)
            by_cases hz : ks.length = 0
            · obtain rfl := List.length_eq_zero_iff.1 hz
              clear hz
              go_wp2
              go_ret
              exact ⟨rfl, c6⟩
            · have e0 : ((ks.length : Int) == 0) = false := by rw [beq_eq_false_iff_ne]; omega
              have HCB := hide (HKS.out ks[0] (List.getElem_mem (by omega)))
              have HI2 := hide (HIC.out (some ⟨gp, 0, none⟩) ss cp w1.heap.size w5 (D3.out.trans (c5.mono D3.out.size)) ((hP.below D3.out (Nat.le_refl _)).below c5 D3.out.size) hpm (Nat.le_trans D3.out.size c5.size))
              simp only [HCB.out] at HI2
              clear hz
              go_wp2_with fail
              refine HI2.out.mono ?_
              rintro e w6 ⟨rfl, b6⟩
              have c7 := c6.trans (b6.mono c6.size)
              go_wp2
              go_ret
              exact ⟨rfl, c7⟩
end Go.Proofs.Ytafdbnadakclnaa
