/-
  What spec.SetsOf does.
-/
import Derived.Test.YtclnpfpaabmkcabSpecIs12
import Derived.Deep.RegionHeld3
namespace Go.Proofs.Ytclnpfpaabmkcab
open Go.RowKit M
set_option linter.unusedVariables false

def XS (W : World) (bk bx : Nat) (nm x y : ByteArray) : Prop := W.cell? ⟨bk, 1, none⟩ = some (.string nm) ∧ W.cell? ⟨bx, 0, none⟩ = some (.string x) ∧ W.cell? ⟨bx, 1, none⟩ = some (.string y)
theorem XS.alloc {W : World} {bk bx : Nat} {nm x y : ByteArray} (h : XS W bk bx nm x y) (o : Obj) : XS (W.alloc o) bk bx nm x y := by
  have hb := (Below.refl W.heap.size W).alloc (Nat.le_refl _) o
  have h1 : bk < W.heap.size := World.block_lt_of_cell? W _ h.1
  have h2 : bx < W.heap.size := World.block_lt_of_cell? W _ h.2.1
  unfold XS at *
  simp only [(bcellP hb).1 bk _ h1, (bcellP hb).1 bx _ h2]
  exact h
/-- What lay below stays, though two roads lead on from one world. -/
theorem nds_over {w u v : World} {B : Nat} {a : Option Addr} {ks : List Nd} (h : Nds u B a ks) (h1 : Below w.heap.size w u) (h2 : Below w.heap.size w v) (hB : B ≤ w.heap.size) : Nds v B a ks := by
  induction h with
  | nil a => exact .nil a
  | row b o ks aj cj hbB hc _ ih =>
    have e : ∀ o', v.cell? ⟨b, o', none⟩ = u.cell? ⟨b, o', none⟩ := fun o' => (h2.cell (p := ⟨b, o', none⟩) (Nat.lt_of_lt_of_le hbB hB)).trans (h1.cell (p := ⟨b, o', none⟩) (Nat.lt_of_lt_of_le hbB hB)).symm
    exact .row b o ks aj cj hbB (fun j hj => by simp only [e]; exact hc j hj) ih

set_option maxRecDepth 100000 in
set_option maxHeartbeats 16000000 in
theorem specSetsOf_any (n : Nd) (a : Option Addr) (c B : Nat) (w : World) (h : Nds w B a n.ks) (hB : B ≤ w.heap.size) (hz : n.szN ≤ 1048576) :
    Calls Try.prog 30 #[.agg #[.string n.ns, .string n.nm, .string n.tx, .slice a n.ks.length c]] w fun e w' => (∃ g m c', e = .returned (.tuple #[.slice (some ⟨g, 0, none⟩) m c', .bool (ofS n).isSome]) ∧ OwnV w' w.heap.size (.slice (some ⟨g, 0, none⟩) m c') (ansL (ofS n))) ∧ Below w.heap.size w w' := by
  have HN := hide h
  have HZ := hide hz
  have hkl : n.ks.length ≤ 1048576 := by have := szN_ks n; omega
  clear h hz
  have b0 := (Below.refl w.heap.size w).alloc (Nat.le_refl _) (Obj.cells #[.string n.ns, .string n.nm, .string n.tx, .slice a n.ks.length c] 59)
  have HM := hide (OwnV.made _ w.heap.size b0.size)
  have HB0 := hide (b0.alloc b0.size (Obj.cells #[] 93))
  have HN0 := hide ((NB.made w n.ns n.nm n.tx a n.ks.length c).below ((Below.refl _ _).alloc (Nat.le_refl _) (Obj.cells #[] 93)))
  clear b0
  have HNO : Hid (∀ W N (hN : N = W.heap.size) (hW : Below w.heap.size w W), ofS n = none → (∃ g m c', Ending.returned (.tuple #[.slice (some ⟨N, 0, none⟩) 0 0, .bool false]) = .returned (.tuple #[.slice (some ⟨g, 0, none⟩) m c', .bool (ofS n).isSome]) ∧ OwnV (W.alloc (Obj.cells #[] 93)) w.heap.size (.slice (some ⟨g, 0, none⟩) m c') (ansL (ofS n))) ∧ Below w.heap.size w (W.alloc (Obj.cells #[] 93))) := by
    intro W N hN hW e
    subst hN
    rw [e]
    exact ⟨⟨_, _, _, rfl, OwnV.made W w.heap.size hW.size⟩, hW.alloc hW.size _⟩
  have HIU := hide (fun W => is12_any updT n a n.ks.length c W)
  cases hu : isD updT n
  · have HOF := hide (show ofS n = none by unfold ofS; rw [hu]; rfl)
    simp only [hu] at HIU
    go_enter Try.func30, Try.ntmps30
    go_wp2_with fail
    refine (HIU.out _).mono ?_
    rintro e w1 ⟨rfl, b1⟩
    have HO1 := hide (HM.out.next b1)
    have HB1 := hide (HB0.out.trans (b1.mono HB0.out.size))
    clear b1
    go_wp2
    go_ret2
    rw [HOF.out]
    exact ⟨⟨_, _, _, rfl, by simpa [ansL] using HO1.out⟩, HB1.out⟩
  have HOF := hide (show ofS n = allS n.ks [] by unfold ofS; rw [hu]; rfl)
  simp only [hu] at HIU
  go_enter Try.func30, Try.ntmps30
  go_wp2_with fail
  refine (HIU.out _).mono ?_
  rintro e w1 ⟨rfl, b1⟩
  have HO1 := hide (HM.out.next b1)
  have HB1 := hide (HB0.out.trans (b1.mono HB0.out.size))
  have HN1 := hide (HN0.out.below b1)
  clear b1
  go_wp2
  go_loopw [4, 5] (fun v i wr => ∃ (j g m c3 : Nat) (acc : List Sx), j ≤ n.ks.length ∧ i = .int .i64 j ∧ v = .slice (some ⟨g, 0, none⟩) m c3 ∧ acc.length ≤ 8 ∧ Hid (allS (n.ks.drop j) acc = ofS n) ∧ Hid (NB wr w.heap.size n.ns n.nm n.tx a n.ks.length c) ∧ OwnV wr w.heap.size (.slice (some ⟨g, 0, none⟩) m c3) acc ∧ Below w.heap.size w wr) (fun _ i _ => n.ks.length - (intOf i).toNat)
  case atStart => exact ⟨0, _, 0, 0, [], Nat.zero_le _, rfl, by simp; rfl, Nat.zero_le _, HOF.out.symm, HN1, by simpa using HO1.out, HB1.out⟩
  case round =>
    obtain ⟨j, g, m, c3, acc, hj, rfl, rfl, hal, hac, HNn, hO, hbe⟩ := hrel
    obtain ⟨q0, q1, q2, q3⟩ := HNn.out.kb
    by_cases hlt : j < n.ks.length
    · obtain ⟨b2, o2, ea2, hb2, hat2⟩ := (HN.out.stays hbe hB).at (by omega)
      obtain ⟨aj, cj, v0, v1, v2, v3, hnj⟩ := hat2 j hlt
      have HNJ := hide ((HN.out.at (by omega)))
      subst ea2
      have HDR := hide (show n.ks.drop j = n.ks[j] :: n.ks.drop (j + 1) from List.drop_eq_getElem_cons hlt)
      have hzx : n.ks[j].szN ≤ 1048576 := by
        have h1 := szL_mem n.ks _ (List.getElem_mem hlt)
        have h2 := szN_ks n
        have := HZ.out
        omega
      obtain ⟨x, hx⟩ : ∃ x, n.ks[j] = x := ⟨_, rfl⟩
      rw [hx] at v0 v1 v2 v3 HDR hzx hnj
      clear hx hat2 HNJ
      have HNX := hide (nds_over hnj hbe (Below.refl w.heap.size w) hB)
      have hji : (j : Int) < (n.ks.length : Int) := by omega
      have bA := (Below.refl wr.heap.size wr).alloc (Nat.le_refl _) (Obj.cells #[.string x.ns, .string x.nm, .string x.tx, .slice aj x.ks.length cj] 59)
      have HKA := hide (NB.made wr x.ns x.nm x.tx aj x.ks.length cj)
      have HNA := hide (HNn.out.below bA)
      have HOA := hide (hO.next bA)
      have HBA := hide (hbe.trans (bA.mono hbe.size))
      obtain ⟨bk, hbk⟩ : ∃ b, wr.heap.size = b := ⟨_, rfl⟩
      have HBK := hide hbk
      clear hbk
      have HIS := hide (fun W => is12_any setT x aj x.ks.length cj W)
      have HIR := hide (fun W => is12_any remT x aj x.ks.length cj W)
      clear bA hO hnj
      cases hs : isD setT x
      · simp only [hs] at HIS
        go_wp2_with fail
        refine (HIS.out _).mono ?_
        rintro e w4 ⟨rfl, b4⟩
        have HK4 := hide (HKA.out.below b4)
        have HN4 := hide (HNA.out.below b4)
        have HO4 := hide (HOA.out.next b4)
        have HB4 := hide (HBA.out.trans (b4.mono HBA.out.size))
        rw [HBK.out] at HK4 ⊢
        obtain ⟨k0, k1, k2, k3⟩ := HK4.out.kb
        clear b4 q0 q1 q2 q3 v0 v1 v2 v3
        cases hr : isD remT x
        · simp only [hr] at HIR
          have HNN := hide (show ofS n = none by rw [← hac.out, HDR.out, all_none (kid_none hr hs)])
          go_wp2_with fail
          refine (HIR.out _).mono ?_
          rintro e w5 ⟨rfl, b5⟩
          have HE := hide (HNO.out w5 _ rfl (HB4.out.trans (b5.mono HB4.out.size)) HNN.out)
          go_wp2
          go_ret2
          exact HE.out
        · simp only [hr] at HIR
          have HOK := hide (show ¬ (isD remT x = false ∧ isD setT x = false) from fun e => by rw [hr] at e; cases e.1)
          have HRD := hide hr
          have HNM := hide (show x.nm = ⟨#[114, 101, 109, 111, 118, 101]⟩ from (isD_iff.1 hr).2)
          go_wp2_with fail
          refine (HIR.out _).mono ?_
          rintro e w5 ⟨rfl, b5⟩
          have NB5 := hide (HK4.out.below b5)
          have NN5 := hide (HN4.out.below b5)
          have hO5 := HO4.out.next b5
          have c5 := HB4.out.trans (b5.mono HB4.out.size)
          clear b5 k0 k1 k2 k3
          by_cases hl1 : x.ks.length = 1
          rotate_left
          · have HE := hide (HNO.out w5 _ rfl c5 (show ofS n = none by rw [← hac.out, HDR.out, all_none (kid_len hl1)]))
            obtain ⟨k0, k1, k2, k3⟩ := NB5.out.kb
            have e1 : ((x.ks.length : Int) == 1) = false := by rw [beq_eq_false_iff_ne]; omega
            have e1b : ((x.ks.length : Int) != 1) = true := by simp [bne, e1]
            have e1c : ¬ (x.ks.length : Int) = 1 := by omega
            go_wp2
            go_ret2
            exact HE.out
          obtain ⟨h0, hk1⟩ : ∃ h0, x.ks = [h0] := List.length_eq_one_iff.1 hl1
          obtain ⟨b3, o3, ea3, hb3, hat3⟩ := (HNX.out.stays c5 hB).at (by omega)
          obtain ⟨a1, c2', y0, y1, y2, y3, hn1⟩ := hat3 0 (by omega)
          have e0 : x.ks[0] = h0 := by simp [hk1]
          rw [e0] at y0 y1 y2 y3 hn1
          subst ea3
          simp only [Nat.zero_mul, Nat.add_zero] at y0 y1 y2 y3
          have hzh : h0.szN ≤ 1048576 := by have h1 := szN_ks x; have h2 := szL_mem x.ks h0 (by rw [hk1]; exact List.mem_cons_self ..); omega
          have HK1 := hide hk1
          have hkb : h0.ks.length ≤ 1048576 := by have := szN_ks h0; omega
          have HN1 := hide (hn1.stays (w' := w5) (Below.refl w.heap.size w5) hB)
          have HY3 := hide y3
          rw [hl1] at NB5
          clear hat3 e0 hk1 hn1 hl1
          obtain ⟨k0, k1, k2, k3⟩ := NB5.out.kb
          have HIP := hide (is12_any prpT h0 a1 h0.ks.length c2' w5)
          cases hp : isD prpT h0
          · rw [hp] at HIP
            have HNN := hide (show ofS n = none by rw [← hac.out, HDR.out, all_none (kid_prp HK1.out hp)])
            go_wp2_with fail
            refine HIP.out.mono ?_
            rintro e w6 ⟨rfl, b6⟩
            have HE := hide (HNO.out w6 _ rfl (c5.trans (b6.mono c5.size)) HNN.out)
            go_wp2
            go_ret2
            exact HE.out
          rw [hp] at HIP
          go_wp2_with fail
          refine HIP.out.mono ?_
          rintro e w6 ⟨rfl, b6⟩
          have c6 := c5.trans (b6.mono c5.size)
          have NB6 := hide (NB5.out.below b6)
          have NN6 := hide (NN5.out.below b6)
          have HO6 := hide (hO5.next b6)
          have HY6 := hide (show w6.cell? ⟨b3, o3 + 3, none⟩ = some (.slice a1 h0.ks.length c2') from (b6.cell (p := ⟨b3, o3 + 3, none⟩) (by have := c5.size; show b3 < w5.heap.size; omega)).trans HY3.out)
          clear k0 k1 k2 k3 y0 y1 y2 y3 hO5 b6
          have hnm := HNM.out
          rw [hnm] at NB6
          clear hnm
          go_wp2
          go_loopw [4, 7] (fun v i wr2 => ∃ (jj g2 m2 c4 : Nat) (l2 : List Sx), jj ≤ h0.ks.length ∧ i = .int .i64 jj ∧ v = .slice (some ⟨g2, 0, none⟩) m2 c4 ∧ l2.length ≤ 8 ∧ Hid (l2 = acc ++ (h0.ks.take jj).map (setL true)) ∧ Hid (∀ i' (hi : i' < h0.ks.length), i' < jj → h0.ks[i'].ks.length = 0) ∧ Hid (NB wr2 w.heap.size n.ns n.nm n.tx (some ⟨b2, o2, none⟩) n.ks.length c) ∧ Hid (NB wr2 bk x.ns ⟨#[114, 101, 109, 111, 118, 101]⟩ x.tx (some ⟨b3, o3, none⟩) 1 cj) ∧ OwnV wr2 w.heap.size (.slice (some ⟨g2, 0, none⟩) m2 c4) l2 ∧ Below w.heap.size w wr2) (fun _ i _ => h0.ks.length - (intOf i).toNat)
          case atStart => exact ⟨0, g, m, c3, acc, Nat.zero_le _, rfl, rfl, hal, hide (by simp), hide (fun i' _ h => absurd h (Nat.not_lt_zero _)), NN6, NB6, HO6.out, c6⟩
          case round =>
            obtain ⟨jj, g2, m2, c4, l2, hjj, rfl, rfl, hal2, hl2, hdn, HN2, HK2, hO2, hbe2⟩ := hrel
            rename World => wr2
            have hy3 : wr2.cell? ⟨b3, o3 + 3, none⟩ = some (.slice a1 h0.ks.length c2') := by
              have e1 := hbe2.cell (p := ⟨b3, o3 + 3, none⟩) (show b3 < w.heap.size by omega)
              have e2 := c6.cell (p := ⟨b3, o3 + 3, none⟩) (show b3 < w.heap.size by omega)
              exact e1.trans (e2.symm.trans HY6.out)
            obtain ⟨k0, k1, k2, k3⟩ := HK2.out.kb
            have hm2 := hO2.sts.1
            by_cases hlt2 : jj < h0.ks.length
            · obtain ⟨b4, o4, ea4, hb4, hat4⟩ := (nds_over HN1.out c5 hbe2 hB).at (by omega)
              obtain ⟨a5, c5', v0, v1, v2, v3, _⟩ := hat4 jj hlt2
              subst ea4
              have HMT := hide (show (h0.ks.take (jj + 1)).map (setL true) = (h0.ks.take jj).map (setL true) ++ [setL true h0.ks[jj]] by rw [List.take_succ_eq_append_getElem hlt2, List.map_append]; rfl)
              have HNONE := hide (fun hd => show ofS n = none by rw [← hac.out, HDR.out, all_none (kid_deep HK1.out jj hlt2 hd)])
              have HOVER := hide (show l2.length = 8 → ofS n = none from fun h8 => by
                rw [← hac.out, HDR.out]
                refine all_over HK1.out ?_
                have := congrArg List.length hl2.out
                rw [List.length_append, List.length_map, List.length_take] at this
                omega)
              obtain ⟨x2, hx2⟩ : ∃ x2, h0.ks[jj] = x2 := ⟨_, rfl⟩
              rw [hx2] at v0 v1 v2 v3 HMT
              have HX := hide hx2
              simp only [hx2] at HNONE
              clear hx2 hat4
              have hji2 : (jj : Int) < (h0.ks.length : Int) := by omega
              have bX := (Below.refl wr2.heap.size wr2).alloc (Nat.le_refl _) (Obj.cells #[.string x2.ns, .string x2.nm, .string x2.tx, .slice a5 x2.ks.length c5'] 59)
              have HXB := hide (NB.made wr2 x2.ns x2.nm x2.tx a5 x2.ks.length c5')
              have HOB := hide (hO2.next bX)
              have HNB := hide (HN2.out.below bX)
              have HKB := hide (HK2.out.below bX)
              have HBB := hide (hbe2.trans (bX.mono hbe2.size))
              clear bX hO2
              have HM2 := hide hm2
              clear hm2
              obtain ⟨kl, hkl⟩ : ∃ q, x2.ks.length = q := ⟨_, rfl⟩
              rw [hkl] at v3 HXB HOB HNB HKB HBB
              have HKL := hide hkl
              clear hkl
              by_cases hd : kl = 0
              rotate_left
              · have p1 := HKB.out.kb.2.1
                have hlit : (⟨#[114, 101, 109, 111, 118, 101]⟩ : ByteArray).toList = [114, 101, 109, 111, 118, 101] := by kernel_rfl
                obtain ⟨x0, x1, xq, x3⟩ := HXB.out.kb
                have bS : Below (wr2.alloc (Obj.cells #[.string x2.ns, .string x2.nm, .string x2.tx, .slice a5 kl c5'] 59)).heap.size (wr2.alloc (Obj.cells #[.string x2.ns, .string x2.nm, .string x2.tx, .slice a5 kl c5'] 59)) ((wr2.alloc (Obj.cells #[.string x2.ns, .string x2.nm, .string x2.tx, .slice a5 kl c5'] 59)).alloc (Obj.cells #[.bool true, .string x2.ns, .string x2.nm, .string ⟨#[]⟩] 93)) := (Below.refl _ _).alloc (Nat.le_refl _) _
                have BS : Bx ((wr2.alloc (Obj.cells #[.string x2.ns, .string x2.nm, .string x2.tx, .slice a5 kl c5'] 59)).alloc (Obj.cells #[.bool true, .string x2.ns, .string x2.nm, .string ⟨#[]⟩] 93)) (wr2.heap.size + 1) (.bool true) (.string x2.ns) (.string x2.nm) (.string ⟨#[]⟩) := by have h := Bx.made (wr2.alloc (Obj.cells #[.string x2.ns, .string x2.nm, .string x2.tx, .slice a5 kl c5'] 59)) (.bool true) (.string x2.ns) (.string x2.nm) (.string ⟨#[]⟩) 93; simpa using h
                have y2 := (HXB.out.below bS).kb.2.2.1
                have bV := bS
                have BV := BS
                have hs0 := BS.c0
                have hs3 := BS.c3
                have hsf := BS.fz
                have v0' := BV.c0
                have v1' := BV.c1
                have v2' := BV.c2
                have v3' := BV.c3
                have y3 := (HXB.out.below bV).kb.2.2.2
                have HO4 := hide (HOB.out.next bV)
                have HN4 := hide (HNB.out.below bV)
                have HK4 := hide (HKB.out.below bV)
                have HB4 := hide (HBB.out.trans (bV.mono HBB.out.size))
                have HNO4 := hide (fun e => HNO.out ((wr2.alloc (Obj.cells #[.string x2.ns, .string x2.nm, .string x2.tx, .slice a5 kl c5'] 59)).alloc (Obj.cells #[.bool true, .string x2.ns, .string x2.nm, .string ⟨#[]⟩] 93)) (wr2.heap.size + 1 + 1) (by simp) HB4.out e)
                clear bS bV BS BV
                have HE := hide (HNO4.out (HNONE.out (by rw [HKL.out]; exact hd)))
                have e3 : (0 : Int) < (kl : Int) := by omega
                clear hd
                go_wp2
                go_ret2
                exact HE.out
              subst hd
              have HDD := hide HKL.out
              have p1 := HKB.out.kb.2.1
              have hlit : (⟨#[114, 101, 109, 111, 118, 101]⟩ : ByteArray).toList = [114, 101, 109, 111, 118, 101] := by kernel_rfl
              obtain ⟨x0, x1, xq, x3⟩ := HXB.out.kb
              have bS : Below (wr2.alloc (Obj.cells #[.string x2.ns, .string x2.nm, .string x2.tx, .slice a5 0 c5'] 59)).heap.size (wr2.alloc (Obj.cells #[.string x2.ns, .string x2.nm, .string x2.tx, .slice a5 0 c5'] 59)) ((wr2.alloc (Obj.cells #[.string x2.ns, .string x2.nm, .string x2.tx, .slice a5 0 c5'] 59)).alloc (Obj.cells #[.bool true, .string x2.ns, .string x2.nm, .string ⟨#[]⟩] 93)) := (Below.refl _ _).alloc (Nat.le_refl _) _
              have BS : Bx ((wr2.alloc (Obj.cells #[.string x2.ns, .string x2.nm, .string x2.tx, .slice a5 0 c5'] 59)).alloc (Obj.cells #[.bool true, .string x2.ns, .string x2.nm, .string ⟨#[]⟩] 93)) (wr2.heap.size + 1) (.bool true) (.string x2.ns) (.string x2.nm) (.string ⟨#[]⟩) := by have h := Bx.made (wr2.alloc (Obj.cells #[.string x2.ns, .string x2.nm, .string x2.tx, .slice a5 0 c5'] 59)) (.bool true) (.string x2.ns) (.string x2.nm) (.string ⟨#[]⟩) 93; simpa using h
              have y2 := (HXB.out.below bS).kb.2.2.1
              have bV := bS
              have BV := BS
              have hs0 := BS.c0
              have hs3 := BS.c3
              have hsf := BS.fz
              have v0' := BV.c0
              have v1' := BV.c1
              have v2' := BV.c2
              have v3' := BV.c3
              have y3 := (HXB.out.below bV).kb.2.2.2
              have HO4 := hide (HOB.out.next bV)
              have HN4 := hide (HNB.out.below bV)
              have HK4 := hide (HKB.out.below bV)
              have HB4 := hide (HBB.out.trans (bV.mono HBB.out.size))
              have HNO4 := hide (fun e => HNO.out ((wr2.alloc (Obj.cells #[.string x2.ns, .string x2.nm, .string x2.tx, .slice a5 0 c5'] 59)).alloc (Obj.cells #[.bool true, .string x2.ns, .string x2.nm, .string ⟨#[]⟩] 93)) (wr2.heap.size + 1 + 1) (by simp) HB4.out e)
              clear bS bV BS BV
              by_cases h8 : l2.length = 8
              · have HE := hide (HNO4.out (HOVER.out h8))
                have e8 : (m2 : Int) = 8 := by have := HM2.out; omega
                have e8b : ((m2 : Int) == 8) = true := by rw [beq_iff_eq]; have := HM2.out; omega
                clear h8
                go_wp2
                go_ret2
                exact HE.out
              have e8 : ¬ (m2 : Int) = 8 := by have := HM2.out; omega
              have e8b : ((m2 : Int) == 8) = false := by rw [beq_eq_false_iff_ne]; have := HM2.out; omega
              have bA := (Below.refl ((wr2.alloc (Obj.cells #[.string x2.ns, .string x2.nm, .string x2.tx, .slice a5 0 c5'] 59)).alloc (Obj.cells #[.bool true, .string x2.ns, .string x2.nm, .string ⟨#[]⟩] 93)).heap.size ((wr2.alloc (Obj.cells #[.string x2.ns, .string x2.nm, .string x2.tx, .slice a5 0 c5'] 59)).alloc (Obj.cells #[.bool true, .string x2.ns, .string x2.nm, .string ⟨#[]⟩] 93))).alloc (Nat.le_refl _) (Obj.cells #[.bool true, .string x2.ns, .string x2.nm, .string ⟨#[]⟩] 93)
              have HO5 := hide (HO4.out.next bA)
              have HN5 := hide (HN4.out.below bA)
              have HK5 := hide (HK4.out.below bA)
              have HB5 := hide (HB4.out.trans (bA.mono HB4.out.size))
              have hln : l2.length + 1 ≤ 1099511627776 := by omega
              have hs5 := HB5.out.size
              clear bA h8
              go_wp2_with (at_builtin; refine wp_append_setG rfl _ _ rfl w.heap.size g2 m2 c4 l2 rfl HO5.out _ (true, x2.ns, x2.nm, ⟨#[]⟩) rfl ?_ ?_ ?_ ?_ hln hs5 ?_)
              iterate 4 (try (focus (simp; done)))
              intro g9 n9 c9 w9 hn9 hO9 hb9 hg9
              have HB9 := hide (HB5.out.trans hb9)
              have HN9 := hide (HN5.out.grown hg9 (HN5.out.ne HO5.out))
              have HK9 := hide (HK5.out.grown hg9 (HK5.out.ne HO5.out))
              have HA9 := hide (show l2 ++ [(true, x2.ns, x2.nm, ⟨#[]⟩)] = acc ++ (h0.ks.take (jj + 1)).map (setL true) by rw [HMT.out, hl2.out, List.append_assoc]; rfl)
              have HL9 := hide (show (l2 ++ [((true, x2.ns, x2.nm, ⟨#[]⟩) : Sx)]).length ≤ 8 by rw [List.length_append]; have := HM2.out; simp; omega)
              have HD9 := hide (show ∀ i' (hi : i' < h0.ks.length), i' < jj + 1 → h0.ks[i'].ks.length = 0 from fun i' hi hij => if e : i' = jj then by subst e; rw [HX.out]; exact HDD.out else hdn.out i' hi (by omega))
              have HO9 := hide hO9
              clear hb9 hn9 hg9 hO9 HO5 HN5 HK5 HB5 HO4 HN4 HK4 HB4 p1 x0 x1 xq x3 y2 y3 hs0 hs3 hsf v0' v1' v2' v3'
              go_wp2
              go_roundw
              case rel => exact ⟨jj + 1, g9, n9, c9, _, by omega, by go_num, rfl, HL9.out, HA9, HD9, HN9, HK9, HO9.out, HB9.out⟩
              case measure => simp [intOf]; omega
            · have HKS := hide (show kidS x = some (h0.ks.map (setL true)) by
                have := kid_some HK1.out HOK.out hp (fun i' hi => hdn.out i' hi (by omega))
                rw [HRD.out] at this; exact this)
              have HL2 := hide (show l2 = acc ++ h0.ks.map (setL true) by rw [hl2.out, List.take_of_length_le (by omega)])
              have HA2 := hide (show allS (n.ks.drop (j + 1)) l2 = ofS n by
                have h9 : ¬ 8 < acc.length + (h0.ks.map (setL true)).length := by
                  have := congrArg List.length HL2.out
                  rw [List.length_append] at this
                  omega
                rw [HL2.out, ← all_next HKS.out h9, ← HDR.out]; exact hac.out)
              go_wp2
              go_roundw
              case rel => exact ⟨j + 1, g2, m2, c4, l2, by omega, by go_num, rfl, hal2, HA2, HN2, hO2, hbe2⟩
              case measure => simp [intOf]; omega
      · simp only [hs] at HIS
        have HNM := hide (show x.nm = ⟨#[115, 101, 116]⟩ from (isD_iff.1 hs).2)
        have HRD := hide (show isD remT x = false by unfold isD; rw [HNM.out]; simp [remT])
        have HOK := hide (show ¬ (isD remT x = false ∧ isD setT x = false) from fun e => by rw [hs] at e; cases e.2)
        go_wp2_with fail
        refine (HIS.out _).mono ?_
        rintro e w5 ⟨rfl, b5⟩
        have NB5 := hide (HKA.out.below b5)
        have NN5 := hide (HNA.out.below b5)
        have hO5 := HOA.out.next b5
        have c5 := HBA.out.trans (b5.mono HBA.out.size)
        rw [HBK.out] at NB5 ⊢
        clear b5 q0 q1 q2 q3 v0 v1 v2 v3
        by_cases hl1 : x.ks.length = 1
        rotate_left
        · have HE := hide (HNO.out w5 _ rfl c5 (show ofS n = none by rw [← hac.out, HDR.out, all_none (kid_len hl1)]))
          obtain ⟨k0, k1, k2, k3⟩ := NB5.out.kb
          have e1 : ((x.ks.length : Int) == 1) = false := by rw [beq_eq_false_iff_ne]; omega
          have e1b : ((x.ks.length : Int) != 1) = true := by simp [bne, e1]
          have e1c : ¬ (x.ks.length : Int) = 1 := by omega
          go_wp2
          go_ret2
          exact HE.out
        obtain ⟨h0, hk1⟩ : ∃ h0, x.ks = [h0] := List.length_eq_one_iff.1 hl1
        obtain ⟨b3, o3, ea3, hb3, hat3⟩ := (HNX.out.stays c5 hB).at (by omega)
        obtain ⟨a1, c2', y0, y1, y2, y3, hn1⟩ := hat3 0 (by omega)
        have e0 : x.ks[0] = h0 := by simp [hk1]
        rw [e0] at y0 y1 y2 y3 hn1
        subst ea3
        simp only [Nat.zero_mul, Nat.add_zero] at y0 y1 y2 y3
        have hzh : h0.szN ≤ 1048576 := by have h1 := szN_ks x; have h2 := szL_mem x.ks h0 (by rw [hk1]; exact List.mem_cons_self ..); omega
        have HK1 := hide hk1
        have hkb : h0.ks.length ≤ 1048576 := by have := szN_ks h0; omega
        have HN1 := hide (hn1.stays (w' := w5) (Below.refl w.heap.size w5) hB)
        have HY3 := hide y3
        rw [hl1] at NB5
        clear hat3 e0 hk1 hn1 hl1
        obtain ⟨k0, k1, k2, k3⟩ := NB5.out.kb
        have HIP := hide (is12_any prpT h0 a1 h0.ks.length c2' w5)
        cases hp : isD prpT h0
        · rw [hp] at HIP
          have HNN := hide (show ofS n = none by rw [← hac.out, HDR.out, all_none (kid_prp HK1.out hp)])
          go_wp2_with fail
          refine HIP.out.mono ?_
          rintro e w6 ⟨rfl, b6⟩
          have HE := hide (HNO.out w6 _ rfl (c5.trans (b6.mono c5.size)) HNN.out)
          go_wp2
          go_ret2
          exact HE.out
        rw [hp] at HIP
        go_wp2_with fail
        refine HIP.out.mono ?_
        rintro e w6 ⟨rfl, b6⟩
        have c6 := c5.trans (b6.mono c5.size)
        have NB6 := hide (NB5.out.below b6)
        have NN6 := hide (NN5.out.below b6)
        have HO6 := hide (hO5.next b6)
        have HY6 := hide (show w6.cell? ⟨b3, o3 + 3, none⟩ = some (.slice a1 h0.ks.length c2') from (b6.cell (p := ⟨b3, o3 + 3, none⟩) (by have := c5.size; show b3 < w5.heap.size; omega)).trans HY3.out)
        clear k0 k1 k2 k3 y0 y1 y2 y3 hO5 b6
        have hnm := HNM.out
        rw [hnm] at NB6
        clear hnm
        go_wp2
        go_loopw [4, 7] (fun v i wr2 => ∃ (jj g2 m2 c4 : Nat) (l2 : List Sx), jj ≤ h0.ks.length ∧ i = .int .i64 jj ∧ v = .slice (some ⟨g2, 0, none⟩) m2 c4 ∧ l2.length ≤ 8 ∧ Hid (l2 = acc ++ (h0.ks.take jj).map (setL false)) ∧ Hid (∀ i' (hi : i' < h0.ks.length), i' < jj → h0.ks[i'].ks.length = 0) ∧ Hid (NB wr2 w.heap.size n.ns n.nm n.tx (some ⟨b2, o2, none⟩) n.ks.length c) ∧ Hid (NB wr2 bk x.ns ⟨#[115, 101, 116]⟩ x.tx (some ⟨b3, o3, none⟩) 1 cj) ∧ OwnV wr2 w.heap.size (.slice (some ⟨g2, 0, none⟩) m2 c4) l2 ∧ Below w.heap.size w wr2) (fun _ i _ => h0.ks.length - (intOf i).toNat)
        case atStart => exact ⟨0, g, m, c3, acc, Nat.zero_le _, rfl, rfl, hal, hide (by simp), hide (fun i' _ h => absurd h (Nat.not_lt_zero _)), NN6, NB6, HO6.out, c6⟩
        case round =>
          obtain ⟨jj, g2, m2, c4, l2, hjj, rfl, rfl, hal2, hl2, hdn, HN2, HK2, hO2, hbe2⟩ := hrel
          rename World => wr2
          have hy3 : wr2.cell? ⟨b3, o3 + 3, none⟩ = some (.slice a1 h0.ks.length c2') := by
            have e1 := hbe2.cell (p := ⟨b3, o3 + 3, none⟩) (show b3 < w.heap.size by omega)
            have e2 := c6.cell (p := ⟨b3, o3 + 3, none⟩) (show b3 < w.heap.size by omega)
            exact e1.trans (e2.symm.trans HY6.out)
          obtain ⟨k0, k1, k2, k3⟩ := HK2.out.kb
          have hm2 := hO2.sts.1
          by_cases hlt2 : jj < h0.ks.length
          · obtain ⟨b4, o4, ea4, hb4, hat4⟩ := (nds_over HN1.out c5 hbe2 hB).at (by omega)
            obtain ⟨a5, c5', v0, v1, v2, v3, _⟩ := hat4 jj hlt2
            subst ea4
            have HMT := hide (show (h0.ks.take (jj + 1)).map (setL false) = (h0.ks.take jj).map (setL false) ++ [setL false h0.ks[jj]] by rw [List.take_succ_eq_append_getElem hlt2, List.map_append]; rfl)
            have HNONE := hide (fun hd => show ofS n = none by rw [← hac.out, HDR.out, all_none (kid_deep HK1.out jj hlt2 hd)])
            have HOVER := hide (show l2.length = 8 → ofS n = none from fun h8 => by
              rw [← hac.out, HDR.out]
              refine all_over HK1.out ?_
              have := congrArg List.length hl2.out
              rw [List.length_append, List.length_map, List.length_take] at this
              omega)
            obtain ⟨x2, hx2⟩ : ∃ x2, h0.ks[jj] = x2 := ⟨_, rfl⟩
            rw [hx2] at v0 v1 v2 v3 HMT
            have HX := hide hx2
            simp only [hx2] at HNONE
            clear hx2 hat4
            have hji2 : (jj : Int) < (h0.ks.length : Int) := by omega
            have bX := (Below.refl wr2.heap.size wr2).alloc (Nat.le_refl _) (Obj.cells #[.string x2.ns, .string x2.nm, .string x2.tx, .slice a5 x2.ks.length c5'] 59)
            have HXB := hide (NB.made wr2 x2.ns x2.nm x2.tx a5 x2.ks.length c5')
            have HOB := hide (hO2.next bX)
            have HNB := hide (HN2.out.below bX)
            have HKB := hide (HK2.out.below bX)
            have HBB := hide (hbe2.trans (bX.mono hbe2.size))
            clear bX hO2
            have HM2 := hide hm2
            clear hm2
            obtain ⟨kl, hkl⟩ : ∃ q, x2.ks.length = q := ⟨_, rfl⟩
            rw [hkl] at v3 HXB HOB HNB HKB HBB
            have HKL := hide hkl
            clear hkl
            by_cases hd : kl = 0
            rotate_left
            · have p1 := HKB.out.kb.2.1
              have hlit : (⟨#[115, 101, 116]⟩ : ByteArray).toList = [115, 101, 116] := by kernel_rfl
              obtain ⟨x0, x1, xq, x3⟩ := HXB.out.kb
              have bS : Below (wr2.alloc (Obj.cells #[.string x2.ns, .string x2.nm, .string x2.tx, .slice a5 kl c5'] 59)).heap.size (wr2.alloc (Obj.cells #[.string x2.ns, .string x2.nm, .string x2.tx, .slice a5 kl c5'] 59)) ((wr2.alloc (Obj.cells #[.string x2.ns, .string x2.nm, .string x2.tx, .slice a5 kl c5'] 59)).alloc (Obj.cells #[.bool false, .string x2.ns, .string x2.nm, .string ⟨#[]⟩] 93)) := (Below.refl _ _).alloc (Nat.le_refl _) _
              have BS : Bx ((wr2.alloc (Obj.cells #[.string x2.ns, .string x2.nm, .string x2.tx, .slice a5 kl c5'] 59)).alloc (Obj.cells #[.bool false, .string x2.ns, .string x2.nm, .string ⟨#[]⟩] 93)) (wr2.heap.size + 1) (.bool false) (.string x2.ns) (.string x2.nm) (.string ⟨#[]⟩) := by have h := Bx.made (wr2.alloc (Obj.cells #[.string x2.ns, .string x2.nm, .string x2.tx, .slice a5 kl c5'] 59)) (.bool false) (.string x2.ns) (.string x2.nm) (.string ⟨#[]⟩) 93; simpa using h
              have y2 := (HXB.out.below bS).kb.2.2.1
              have bV : Below (wr2.alloc (Obj.cells #[.string x2.ns, .string x2.nm, .string x2.tx, .slice a5 kl c5'] 59)).heap.size (wr2.alloc (Obj.cells #[.string x2.ns, .string x2.nm, .string x2.tx, .slice a5 kl c5'] 59)) ((wr2.alloc (Obj.cells #[.string x2.ns, .string x2.nm, .string x2.tx, .slice a5 kl c5'] 59)).alloc (Obj.cells #[.bool false, .string x2.ns, .string x2.nm, .string x2.tx] 93)) := (Below.refl _ _).alloc (Nat.le_refl _) _
              have BV : Bx ((wr2.alloc (Obj.cells #[.string x2.ns, .string x2.nm, .string x2.tx, .slice a5 kl c5'] 59)).alloc (Obj.cells #[.bool false, .string x2.ns, .string x2.nm, .string x2.tx] 93)) (wr2.heap.size + 1) (.bool false) (.string x2.ns) (.string x2.nm) (.string x2.tx) := by have h := Bx.made (wr2.alloc (Obj.cells #[.string x2.ns, .string x2.nm, .string x2.tx, .slice a5 kl c5'] 59)) (.bool false) (.string x2.ns) (.string x2.nm) (.string x2.tx) 93; simpa using h
              have hs0 := BS.c0
              have hs3 := BS.c3
              have hsf := BS.fz
              have v0' := BV.c0
              have v1' := BV.c1
              have v2' := BV.c2
              have v3' := BV.c3
              have y3 := (HXB.out.below bV).kb.2.2.2
              have HO4 := hide (HOB.out.next bV)
              have HN4 := hide (HNB.out.below bV)
              have HK4 := hide (HKB.out.below bV)
              have HB4 := hide (HBB.out.trans (bV.mono HBB.out.size))
              have HNO4 := hide (fun e => HNO.out ((wr2.alloc (Obj.cells #[.string x2.ns, .string x2.nm, .string x2.tx, .slice a5 kl c5'] 59)).alloc (Obj.cells #[.bool false, .string x2.ns, .string x2.nm, .string x2.tx] 93)) (wr2.heap.size + 1 + 1) (by simp) HB4.out e)
              clear bS bV BS BV
              have HE := hide (HNO4.out (HNONE.out (by rw [HKL.out]; exact hd)))
              have e3 : (0 : Int) < (kl : Int) := by omega
              clear hd
              go_wp2
              go_ret2
              exact HE.out
            subst hd
            have HDD := hide HKL.out
            have p1 := HKB.out.kb.2.1
            have hlit : (⟨#[115, 101, 116]⟩ : ByteArray).toList = [115, 101, 116] := by kernel_rfl
            obtain ⟨x0, x1, xq, x3⟩ := HXB.out.kb
            have bS : Below (wr2.alloc (Obj.cells #[.string x2.ns, .string x2.nm, .string x2.tx, .slice a5 0 c5'] 59)).heap.size (wr2.alloc (Obj.cells #[.string x2.ns, .string x2.nm, .string x2.tx, .slice a5 0 c5'] 59)) ((wr2.alloc (Obj.cells #[.string x2.ns, .string x2.nm, .string x2.tx, .slice a5 0 c5'] 59)).alloc (Obj.cells #[.bool false, .string x2.ns, .string x2.nm, .string ⟨#[]⟩] 93)) := (Below.refl _ _).alloc (Nat.le_refl _) _
            have BS : Bx ((wr2.alloc (Obj.cells #[.string x2.ns, .string x2.nm, .string x2.tx, .slice a5 0 c5'] 59)).alloc (Obj.cells #[.bool false, .string x2.ns, .string x2.nm, .string ⟨#[]⟩] 93)) (wr2.heap.size + 1) (.bool false) (.string x2.ns) (.string x2.nm) (.string ⟨#[]⟩) := by have h := Bx.made (wr2.alloc (Obj.cells #[.string x2.ns, .string x2.nm, .string x2.tx, .slice a5 0 c5'] 59)) (.bool false) (.string x2.ns) (.string x2.nm) (.string ⟨#[]⟩) 93; simpa using h
            have y2 := (HXB.out.below bS).kb.2.2.1
            have bV : Below (wr2.alloc (Obj.cells #[.string x2.ns, .string x2.nm, .string x2.tx, .slice a5 0 c5'] 59)).heap.size (wr2.alloc (Obj.cells #[.string x2.ns, .string x2.nm, .string x2.tx, .slice a5 0 c5'] 59)) ((wr2.alloc (Obj.cells #[.string x2.ns, .string x2.nm, .string x2.tx, .slice a5 0 c5'] 59)).alloc (Obj.cells #[.bool false, .string x2.ns, .string x2.nm, .string x2.tx] 93)) := (Below.refl _ _).alloc (Nat.le_refl _) _
            have BV : Bx ((wr2.alloc (Obj.cells #[.string x2.ns, .string x2.nm, .string x2.tx, .slice a5 0 c5'] 59)).alloc (Obj.cells #[.bool false, .string x2.ns, .string x2.nm, .string x2.tx] 93)) (wr2.heap.size + 1) (.bool false) (.string x2.ns) (.string x2.nm) (.string x2.tx) := by have h := Bx.made (wr2.alloc (Obj.cells #[.string x2.ns, .string x2.nm, .string x2.tx, .slice a5 0 c5'] 59)) (.bool false) (.string x2.ns) (.string x2.nm) (.string x2.tx) 93; simpa using h
            have hs0 := BS.c0
            have hs3 := BS.c3
            have hsf := BS.fz
            have v0' := BV.c0
            have v1' := BV.c1
            have v2' := BV.c2
            have v3' := BV.c3
            have y3 := (HXB.out.below bV).kb.2.2.2
            have HO4 := hide (HOB.out.next bV)
            have HN4 := hide (HNB.out.below bV)
            have HK4 := hide (HKB.out.below bV)
            have HB4 := hide (HBB.out.trans (bV.mono HBB.out.size))
            have HNO4 := hide (fun e => HNO.out ((wr2.alloc (Obj.cells #[.string x2.ns, .string x2.nm, .string x2.tx, .slice a5 0 c5'] 59)).alloc (Obj.cells #[.bool false, .string x2.ns, .string x2.nm, .string x2.tx] 93)) (wr2.heap.size + 1 + 1) (by simp) HB4.out e)
            clear bS bV BS BV
            by_cases h8 : l2.length = 8
            · have HE := hide (HNO4.out (HOVER.out h8))
              have e8 : (m2 : Int) = 8 := by have := HM2.out; omega
              have e8b : ((m2 : Int) == 8) = true := by rw [beq_iff_eq]; have := HM2.out; omega
              clear h8
              go_wp2
              go_ret2
              exact HE.out
            have e8 : ¬ (m2 : Int) = 8 := by have := HM2.out; omega
            have e8b : ((m2 : Int) == 8) = false := by rw [beq_eq_false_iff_ne]; have := HM2.out; omega
            have bA := (Below.refl ((wr2.alloc (Obj.cells #[.string x2.ns, .string x2.nm, .string x2.tx, .slice a5 0 c5'] 59)).alloc (Obj.cells #[.bool false, .string x2.ns, .string x2.nm, .string x2.tx] 93)).heap.size ((wr2.alloc (Obj.cells #[.string x2.ns, .string x2.nm, .string x2.tx, .slice a5 0 c5'] 59)).alloc (Obj.cells #[.bool false, .string x2.ns, .string x2.nm, .string x2.tx] 93))).alloc (Nat.le_refl _) (Obj.cells #[.bool false, .string x2.ns, .string x2.nm, .string x2.tx] 93)
            have HO5 := hide (HO4.out.next bA)
            have HN5 := hide (HN4.out.below bA)
            have HK5 := hide (HK4.out.below bA)
            have HB5 := hide (HB4.out.trans (bA.mono HB4.out.size))
            have hln : l2.length + 1 ≤ 1099511627776 := by omega
            have hs5 := HB5.out.size
            clear bA h8
            go_wp2_with (at_builtin; refine wp_append_setG rfl _ _ rfl w.heap.size g2 m2 c4 l2 rfl HO5.out _ (false, x2.ns, x2.nm, x2.tx) rfl ?_ ?_ ?_ ?_ hln hs5 ?_)
            iterate 4 (try (focus (simp; done)))
            intro g9 n9 c9 w9 hn9 hO9 hb9 hg9
            have HB9 := hide (HB5.out.trans hb9)
            have HN9 := hide (HN5.out.grown hg9 (HN5.out.ne HO5.out))
            have HK9 := hide (HK5.out.grown hg9 (HK5.out.ne HO5.out))
            have HA9 := hide (show l2 ++ [(false, x2.ns, x2.nm, x2.tx)] = acc ++ (h0.ks.take (jj + 1)).map (setL false) by rw [HMT.out, hl2.out, List.append_assoc]; rfl)
            have HL9 := hide (show (l2 ++ [((false, x2.ns, x2.nm, x2.tx) : Sx)]).length ≤ 8 by rw [List.length_append]; have := HM2.out; simp; omega)
            have HD9 := hide (show ∀ i' (hi : i' < h0.ks.length), i' < jj + 1 → h0.ks[i'].ks.length = 0 from fun i' hi hij => if e : i' = jj then by subst e; rw [HX.out]; exact HDD.out else hdn.out i' hi (by omega))
            have HO9 := hide hO9
            clear hb9 hn9 hg9 hO9 HO5 HN5 HK5 HB5 HO4 HN4 HK4 HB4 p1 x0 x1 xq x3 y2 y3 hs0 hs3 hsf v0' v1' v2' v3'
            go_wp2
            go_roundw
            case rel => exact ⟨jj + 1, g9, n9, c9, _, by omega, by go_num, rfl, HL9.out, HA9, HD9, HN9, HK9, HO9.out, HB9.out⟩
            case measure => simp [intOf]; omega
          · have HKS := hide (show kidS x = some (h0.ks.map (setL false)) by
              have := kid_some HK1.out HOK.out hp (fun i' hi => hdn.out i' hi (by omega))
              rw [HRD.out] at this; exact this)
            have HL2 := hide (show l2 = acc ++ h0.ks.map (setL false) by rw [hl2.out, List.take_of_length_le (by omega)])
            have HA2 := hide (show allS (n.ks.drop (j + 1)) l2 = ofS n by
              have h9 : ¬ 8 < acc.length + (h0.ks.map (setL false)).length := by
                have := congrArg List.length HL2.out
                rw [List.length_append] at this
                omega
              rw [HL2.out, ← all_next HKS.out h9, ← HDR.out]; exact hac.out)
            go_wp2
            go_roundw
            case rel => exact ⟨j + 1, g2, m2, c4, l2, by omega, by go_num, rfl, hal2, HA2, HN2, hO2, hbe2⟩
            case measure => simp [intOf]; omega
    · have HE := hide (show ofS n = some acc by rw [← hac.out, List.drop_eq_nil_of_le (by omega)]; rfl)
      go_wp2
      go_ret2
      rw [HE.out]
      exact ⟨⟨_, _, _, rfl, hO⟩, hbe⟩
end Go.Proofs.Ytclnpfpaabmkcab
