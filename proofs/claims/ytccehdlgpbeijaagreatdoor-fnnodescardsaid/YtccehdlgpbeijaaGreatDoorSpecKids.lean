/-
  What the specification's l8Kids does: the walk.
-/
import Derived.Test.YtccehdlgpbeijaaGreatDoorSpecKids0
namespace Go.Proofs.YtccehdlgpbeijaaGreatDoor
open Go.RowKit M
set_option linter.unusedVariables false

set_option maxRecDepth 100000 in
set_option maxHeartbeats 8000000 in
theorem l8Kids_step (f : Nat) (ih : ∀ g, g < f → SpN g) : SpK f := by
  intro all k0 ns nm d N B M dd w hk0 hal hf hd hdd h hBM hNM hx hz
  have HI : Hid (∀ g, g < f → SpN g) := ih
  have HZ := hide hz
  have HDD := hide hdd
  have hd1 : 1 ≤ dd := by omega
  have hd5 : dd ≤ 5 := by omega
  have hNlt := h.lt
  have hBN := h.hB
  have hMlt := hx.lt
  have HK0 : Hid (KiG w w f k0 all ns nm d N B M ⟨#[]⟩) := ⟨f, k0, [], [], none, 0, Nat.le_refl _, hk0, hf, Nat.zero_le _, Nat.zero_le _, rfl, rfl, h, hx, GrowK.nil w _ (Nat.le_refl _), Two.refl _ _ _⟩
  clear ih hz h hx hdd
  go_enter Tryz.func57, Tryz.ntmps57
  go_wp2
  go_loopw [6] (fun v wr => ∃ t : ByteArray, v = .string t ∧ (KiG w wr f k0 all ns nm d N B M t ∨ KiB w wr f k0 all ns nm d N B M)) (fun _ wr => wAt N wr)
  case atStart => exact ⟨_, rfl, .inl HK0.out⟩
  case round =>
    obtain ⟨t, rfl, hin | hin⟩ := hrel
    · obtain ⟨g, k, acc, ts, av, cv, hgf, hkl, hg2, htz, htl, hta, hsd, hsr, hbx, hgk, htw⟩ := hin
      have HTA := hide hta
      have HSD := hide hsd
      have HSR := hide hsr
      have HBX := hide hbx
      have HGK := hide hgk
      have HTW := hide htw
      have hwz := htw.size
      obtain ⟨a, c, h1, h2⟩ := hsr.row
      have hc1 := hsr.c1
      have hc2 := hsr.c2
      have hfz := hsr.fz
      have hMS := hide (wAt_good hsr)
      clear hta hsd hsr hbx hgk htw HK0
      by_cases hlt : k < all.length
      · obtain ⟨b, o, rfl, hbB, hcs⟩ := h2 (by omega)
        obtain ⟨x0, x1, x2, x3, x4⟩ := hcs k hlt
        have hin : 0 ≤ (k : Int) ∧ (k : Int) < all.length := by omega
        have HDR := hide (List.drop_eq_getElem_cons hlt)
        have hps := HZ.out _ (List.getElem_mem hlt)
        clear hcs h2
        obtain ⟨p, hp⟩ : ∃ p, all[k] = p := ⟨_, rfl⟩
        rw [hp] at x0 x1 x2 x3 x4 HDR hps
        clear hp
        obtain ⟨pk, pn, pns, ph, ps⟩ := p
        simp only at x0 x1 x2 x3 x4 hps
        have hge : decide (all.length ≤ k) = false := decide_eq_false (by omega)
        have hge' : ¬ all.length ≤ k := by omega
        go_wp2
        go_quiet (fail)
        go_wp2
        have HSB := hide (HSR.out.drew nq)
        have HXB := hide (HBX.out.drewN nq)
        have bq : Below wr.heap.size wr (wr.drewN nq) := ⟨rfl, rfl, rfl, Nat.le_refl _, fun _ _ => rfl⟩
        have HGB := hide (HGK.out.next bq)
        have HTB := hide (HTW.out.below (bq.mono hwz))
        have zB : Hid ((wr.drewN nq).heap.size = wr.heap.size) := rfl
        have y0 : (wr.drewN nq).cell? ⟨b, o + k * 5, none⟩ = some (.int .i64 pk) := x0
        have y1 : (wr.drewN nq).cell? ⟨b, o + k * 5 + 1, none⟩ = some (.string pn) := x1
        have y2 : (wr.drewN nq).cell? ⟨b, o + k * 5 + 2, none⟩ = some (.string pns) := x2
        have y3 : (wr.drewN nq).cell? ⟨b, o + k * 5 + 3, none⟩ = some (.bool ph) := x3
        have y4 : (wr.drewN nq).cell? ⟨b, o + k * 5 + 4, none⟩ = some (.string ps) := x4
        have g0 : (wr.drewN nq).cell? ⟨N, 0, none⟩ = some (.slice (some ⟨b, o, none⟩) all.length c) := h1
        have g1 : (wr.drewN nq).cell? ⟨N, 1, none⟩ = some (.int .i64 k) := hc1
        obtain ⟨wB, hwB⟩ : ∃ wB, wr.drewN nq = wB := ⟨_, rfl⟩
        rw [hwB] at HSB HXB HGB HTB zB y0 y1 y2 y3 y4 g0 g1 ⊢
        clear hwB x0 x1 x2 x3 x4 h1 hc1 hc2 hfz HSR HBX HGK HTW bq
        have hbl : b < wB.heap.size := by have := HSB.out.hB; have := HSB.out.lt; omega
        have hNl : N < wB.heap.size := HSB.out.lt
        have ya0 := (World.cell?_alloc_past (w := wB) (Obj.cells #[Value.int IntKind.i64 0, Value.string { data := #[] }, Value.string { data := #[] }, Value.bool false, Value.string { data := #[] }] 89) b (o + k * 5) hbl).trans y0
        have ya1 := (World.cell?_alloc_past (w := wB) (Obj.cells #[Value.int IntKind.i64 0, Value.string { data := #[] }, Value.string { data := #[] }, Value.bool false, Value.string { data := #[] }] 89) b (o + k * 5 + 1) hbl).trans y1
        have ya2 := (World.cell?_alloc_past (w := wB) (Obj.cells #[Value.int IntKind.i64 0, Value.string { data := #[] }, Value.string { data := #[] }, Value.bool false, Value.string { data := #[] }] 89) b (o + k * 5 + 2) hbl).trans y2
        have ya3 := (World.cell?_alloc_past (w := wB) (Obj.cells #[Value.int IntKind.i64 0, Value.string { data := #[] }, Value.string { data := #[] }, Value.bool false, Value.string { data := #[] }] 89) b (o + k * 5 + 3) hbl).trans y3
        have ya4 := (World.cell?_alloc_past (w := wB) (Obj.cells #[Value.int IntKind.i64 0, Value.string { data := #[] }, Value.string { data := #[] }, Value.bool false, Value.string { data := #[] }] 89) b (o + k * 5 + 4) hbl).trans y4
        have ga0 := (World.cell?_alloc_past (w := wB) (Obj.cells #[Value.int IntKind.i64 0, Value.string { data := #[] }, Value.string { data := #[] }, Value.bool false, Value.string { data := #[] }] 89) N (0) hNl).trans g0
        have ga1 := (World.cell?_alloc_past (w := wB) (Obj.cells #[Value.int IntKind.i64 0, Value.string { data := #[] }, Value.string { data := #[] }, Value.bool false, Value.string { data := #[] }] 89) N (1) hNl).trans g1
        go_region
        have bC : Below wB.heap.size wB ((wB.alloc (Obj.cells #[.int .i64 pk, .string pn, .string pns, .bool ph, .string ps] 89)).drewN 1) := below_drewN ((Below.refl _ _).alloc (Nat.le_refl _) _)
        have HSC := hide (HSB.out.nextB bC hNl)
        have HXC := hide (HXB.out.next bC HXB.out.lt)
        have HGC := hide (HGB.out.next bC)
        have hwB2 : w.heap.size ≤ wB.heap.size := HTB.out.size
        have HTC := hide (HTB.out.below (bC.mono hwB2))
        have PPC : Hid (((wB.alloc (Obj.cells #[.int .i64 pk, .string pn, .string pns, .bool ph, .string ps] 89)).drewN 1).cell? ⟨wB.heap.size, 0, none⟩ = some (.int .i64 pk) ∧ ((wB.alloc (Obj.cells #[.int .i64 pk, .string pn, .string pns, .bool ph, .string ps] 89)).drewN 1).cell? ⟨wB.heap.size, 1, none⟩ = some (.string pn) ∧ ((wB.alloc (Obj.cells #[.int .i64 pk, .string pn, .string pns, .bool ph, .string ps] 89)).drewN 1).cell? ⟨wB.heap.size, 4, none⟩ = some (.string ps)) := ⟨by simp, by simp, by simp⟩
        have zC : Hid (((wB.alloc (Obj.cells #[.int .i64 pk, .string pn, .string pns, .bool ph, .string ps] 89)).drewN 1).heap.size = wB.heap.size + 1) := by show _ = _; simp
        obtain ⟨wC, hwC⟩ : ∃ wC, (wB.alloc (Obj.cells #[.int .i64 pk, .string pn, .string pns, .bool ph, .string ps] 89)).drewN 1 = wC := ⟨_, rfl⟩
        rw [hwC] at HSC HXC HGC HTC PPC zC
        have hwC' : (wB.alloc (Obj.cells #[.int .i64 pk, .string pn, .string pns, .bool ph, .string ps] 89)).drew = wC := hwC
        rw [hwC']
        obtain ⟨p0, p1, p4⟩ := PPC.out
        have q1 := HSC.out.c1
        have q2 := HSC.out.c2
        have qz := HSC.out.fz
        obtain ⟨_, m0, m1, m2, m3, mz⟩ := HXC.out
        have hPB : wr.heap.size ≤ wB.heap.size := by have := zB.out; omega
        obtain ⟨PB, hPBe⟩ : ∃ PB, wB.heap.size = PB := ⟨_, rfl⟩
        have hNP : N < PB := by omega
        have hMP : M < PB := by omega
        rw [hPBe] at p0 p1 p4 zC hPB hwB2
        rw [hPBe]
        clear hwC hwC' bC y0 y1 y2 y3 y4 g0 g1 ya0 ya1 ya2 ya3 ya4 ga0 ga1 hbl hNl HSB HXB HGB HTB zB PPC hPBe hge hge'
        by_cases hk2 : pk = 2
        · subst hk2
          by_cases hnm : pn = nm
          · subst hnm
            have S2 := hide (HSC.out.step (k + 1))
            have X2 := hide (HXC.out.other (b' := N) (k := 1) (.int .i64 ((k + 1 : Nat) : Int)) (Ne.symm hNM))
            have G2 := hide (HGC.out.store ⟨N, 1, none⟩ (.int .i64 ((k + 1 : Nat) : Int)) (by show N < w.heap.size; exact hNlt))
            have T2 := hide (HTC.out.setN (j := 1) (.int .i64 ((k + 1 : Nat) : Int)))
            have hne1 : (⟨N, 1, none⟩ : Addr) ≠ ⟨PB, 1, none⟩ := fun e => by have := congrArg Addr.block e; simp at this; omega
            have e1 : Hid ((wC.setCell ⟨N, 1, none⟩ (.int .i64 ((k + 1 : Nat) : Int))).cell? ⟨PB, 1, none⟩ = some (.string pn)) := (World.cell?_setCell_other _ _ _ _ hne1).trans p1
            have hkw : ((k + 1 : Nat) : Int) = (k : Int) + 1 := by simp
            rw [hkw] at S2 X2 G2 T2 e1
            obtain ⟨wD, hwD⟩ : ∃ wD, wC.setCell ⟨N, 1, none⟩ (.int .i64 ((k : Int) + 1)) = wD := ⟨_, rfl⟩
            rw [hwD] at S2 X2 G2 T2 e1
            have s2 := S2.out.c2
            have sz := S2.out.fz
            have n1 := X2.out.c1
            have f1 := e1.out
            have htm : t.size ≤ maxLen := by unfold maxLen; omega
            clear e1 hne1 hkw m0 m1 m2 m3 mz
            have hnn : (pn.toList == pn.toList) = true := by simp
            go_wp2
            go_region
            have S3 := hide ((S2.out.bad false).drew 1)
            have X3 := hide ((X2.out.other (b' := N) (k := 2) (.bool false) (Ne.symm hNM)).drewN 1)
            have bE : Below (wD.setCell ⟨N, 2, none⟩ (.bool false)).heap.size (wD.setCell ⟨N, 2, none⟩ (.bool false)) ((wD.setCell ⟨N, 2, none⟩ (.bool false)).drewN 1) := ⟨rfl, rfl, rfl, Nat.le_refl _, fun _ _ => rfl⟩
            have G3 := hide ((G2.out.store ⟨N, 2, none⟩ (.bool false) (by show N < w.heap.size; exact hNlt)).next bE)
            have T3 := hide ((T2.out.setN (j := 2) (.bool false)).below (bE.mono (by have := T2.out.size; simp; omega)))
            obtain ⟨wE, hwE⟩ : ∃ wE, (wD.setCell ⟨N, 2, none⟩ (.bool false)).drewN 1 = wE := ⟨_, rfl⟩
            rw [hwE] at S3 X3 G3 T3
            have hwE' : (wD.setCell ⟨N, 2, none⟩ (.bool false)).drew = wE := hwE
            rw [hwE']
            clear hwE hwE' bE s2 sz n1 f1 S2 X2 G2 T2 hwD
            obtain ⟨_, m0, m1, m2, m3, mz⟩ := X3.out
            have s2 := S3.out.c2
            have sz := S3.out.fz
            obtain ⟨n, hn⟩ : ∃ n, ts.length = n := ⟨_, rfl⟩
            have HNL := hide hn
            rw [hn] at m3 X3 htl
            clear hn
            by_cases hn0 : n = 0
            · subst hn0
              have hts : ts = [] := List.length_eq_zero_iff.1 HNL.out
              have hac : acc = [] := by rw [← HTA.out, hts]; rfl
              have HX : Hid (sdK f d (all.drop k0) ns pn [] [] = some (.mk ns pn t [], all.drop (k + 1))) := by
                show _ = _
                rw [HSD.out, HDR.out, sdK_two g d _ _ ns pn acc _ (by omega) rfl, if_pos rfl, if_pos hac, data_eta]
              have S4 := hide (S3.out.other (b := M) (j := 2) hBM hNM (.string t))
              have X4 := hide (X3.out.set2 (.string t))
              have T4 := hide (T3.out.setM (j := 2) (.string t))
              clear hts hac HSD HDR HTA
              go_wp2
              refine bodyPost_ret (results_none rfl _ _ _) rfl ⟨rfl, ?_, T4.out⟩
              rw [HX.out]
              exact ⟨⟨av, cv, X4.out, .nil _ _⟩, k + 1, by omega, rfl, S4.out⟩
            · have hac : ¬ acc = [] := fun e => by have h1 := HTA.out; have h2 := HNL.out; rw [e] at h1; have := congrArg List.length h1; rw [List.length_map] at this; simp at this; rw [this] at h2; exact hn0 h2.symm
              have hnb : ((n : Int) == 0) = false := by apply beq_eq_false_iff_ne.2; omega
              have HBL := hide (l8Blank_any t wE htm)
              by_cases hb : trimL t.data.toList = []
              · have HX : Hid (sdK f d (all.drop k0) ns pn [] [] = some (.mk ns pn ⟨#[]⟩ acc, all.drop (k + 1))) := by
                  show _ = _
                  rw [HSD.out, HDR.out, sdK_two g d _ _ ns pn acc _ (by omega) rfl, if_pos rfl, if_neg hac, if_pos hb]
                rw [decide_eq_true hb] at HBL
                clear hb HSD HDR hac
                go_wp2_with fail
                refine HBL.out.mono ?_
                rintro e w9 ⟨rfl, hw9⟩
                obtain rfl := hw9.symm
                obtain ⟨a9, c9, e9, o9⟩ := G3.out.done
                injection e9 with i1 i2 i3
                rw [HTA.out] at o9
                have O9 := hide o9
                have HAL : Hid (acc.length = n) := by show _ = _; rw [← HTA.out, List.length_map, HNL.out]
                clear o9 hnb
                go_wp2
                refine bodyPost_ret (results_none rfl _ _ _) rfl ⟨rfl, ?_, T3.out⟩
                rw [HX.out]
                refine ⟨⟨av, cv, ?_, ?_⟩, k + 1, by omega, rfl, S3.out⟩
                · have := X3.out
                  rw [← HAL.out] at this
                  exact this
                · rw [i1]; exact O9.out
              · have HN : Hid (sdK f d (all.drop k0) ns pn [] [] = none) := by
                  show _ = _
                  rw [HSD.out, HDR.out, sdK_two g d _ _ ns pn acc _ (by omega) rfl, if_pos rfl, if_neg hac, if_neg hb]
                rw [decide_eq_false hb] at HBL
                clear hb HSD HDR hac
                have S4 := hide (S3.out.bad true)
                have X4 := hide (X3.out.other (b' := N) (k := 2) (.bool true) (Ne.symm hNM))
                have T4 := hide (T3.out.setN (j := 2) (.bool true))
                go_wp2_with fail
                refine HBL.out.mono ?_
                rintro e w9 ⟨rfl, hw9⟩
                obtain rfl := hw9.symm
                go_wp2
                refine bodyPost_ret (results_none rfl _ _ _) rfl ⟨rfl, ?_, T4.out⟩
                rw [HN.out]
                exact ⟨⟨_, _, _, _, _, _, X4.out⟩, k + 1, by omega, S4.out⟩
          · have HN : Hid (sdK f d (all.drop k0) ns nm [] [] = none) := by
              show _ = _
              rw [HSD.out, HDR.out, sdK_two g d _ _ ns nm acc _ (by omega) rfl, if_neg hnm]
            have hnn : (pn.toList == nm.toList) = false := str_ne8 hnm
            have S2 := hide (HSC.out.step (k + 1))
            have X2 := hide (HXC.out.other (b' := N) (k := 1) (.int .i64 ((k + 1 : Nat) : Int)) (Ne.symm hNM))
            have G2 := hide (HGC.out.store ⟨N, 1, none⟩ (.int .i64 ((k + 1 : Nat) : Int)) (by show N < w.heap.size; exact hNlt))
            have T2 := hide (HTC.out.setN (j := 1) (.int .i64 ((k + 1 : Nat) : Int)))
            have hne1 : (⟨N, 1, none⟩ : Addr) ≠ ⟨PB, 1, none⟩ := fun e => by have := congrArg Addr.block e; simp at this; omega
            have e1 : Hid ((wC.setCell ⟨N, 1, none⟩ (.int .i64 ((k + 1 : Nat) : Int))).cell? ⟨PB, 1, none⟩ = some (.string pn)) := (World.cell?_setCell_other _ _ _ _ hne1).trans p1
            have hkw : ((k + 1 : Nat) : Int) = (k : Int) + 1 := by simp
            rw [hkw] at S2 X2 G2 T2 e1
            obtain ⟨wD, hwD⟩ : ∃ wD, wC.setCell ⟨N, 1, none⟩ (.int .i64 ((k : Int) + 1)) = wD := ⟨_, rfl⟩
            rw [hwD] at S2 X2 G2 T2 e1
            have s2 := S2.out.c2
            have sz := S2.out.fz
            have n1 := X2.out.c1
            have f1 := e1.out
            have htm : t.size ≤ maxLen := by unfold maxLen; omega
            clear e1 hne1 hkw m0 m1 m2 m3 mz
            clear hnm HSD HDR
            go_wp2
            go_region
            have S3 := hide ((S2.out.bad true).drew 1)
            have X3 := hide ((X2.out.other (b' := N) (k := 2) (.bool true) (Ne.symm hNM)).drewN 1)
            have bE : Below (wD.setCell ⟨N, 2, none⟩ (.bool true)).heap.size (wD.setCell ⟨N, 2, none⟩ (.bool true)) ((wD.setCell ⟨N, 2, none⟩ (.bool true)).drewN 1) := ⟨rfl, rfl, rfl, Nat.le_refl _, fun _ _ => rfl⟩
            have G3 := hide ((G2.out.store ⟨N, 2, none⟩ (.bool true) (by show N < w.heap.size; exact hNlt)).next bE)
            have T3 := hide ((T2.out.setN (j := 2) (.bool true)).below (bE.mono (by have := T2.out.size; simp; omega)))
            obtain ⟨wE, hwE⟩ : ∃ wE, (wD.setCell ⟨N, 2, none⟩ (.bool true)).drewN 1 = wE := ⟨_, rfl⟩
            rw [hwE] at S3 X3 G3 T3
            have hwE' : (wD.setCell ⟨N, 2, none⟩ (.bool true)).drew = wE := hwE
            rw [hwE']
            clear hwE hwE' bE s2 sz n1 f1 S2 X2 G2 T2 hwD
            obtain ⟨_, m0, m1, m2, m3, mz⟩ := X3.out
            have s2 := S3.out.c2
            have sz := S3.out.fz
            obtain ⟨n, hn⟩ : ∃ n, ts.length = n := ⟨_, rfl⟩
            have HNL := hide hn
            rw [hn] at m3 X3 htl
            clear hn
            by_cases hn0 : n = 0
            · subst hn0
              have S4 := hide (S3.out.other (b := M) (j := 2) hBM hNM (.string t))
              have X4 := hide (X3.out.set2 (.string t))
              have T4 := hide (T3.out.setM (j := 2) (.string t))
              go_wp2
              refine bodyPost_ret (results_none rfl _ _ _) rfl ⟨rfl, ?_, T4.out⟩
              rw [HN.out]
              exact ⟨⟨_, _, _, _, _, _, X4.out⟩, k + 1, by omega, S4.out⟩
            · have hnb : ((n : Int) == 0) = false := by apply beq_eq_false_iff_ne.2; omega
              have HBL := hide (l8Blank_any t wE htm)
              by_cases hb : trimL t.data.toList = []
              · rw [decide_eq_true hb] at HBL
                clear hb
                go_wp2_with fail
                refine HBL.out.mono ?_
                rintro e w9 ⟨rfl, hw9⟩
                obtain rfl := hw9.symm
                go_wp2
                refine bodyPost_ret (results_none rfl _ _ _) rfl ⟨rfl, ?_, T3.out⟩
                rw [HN.out]
                exact ⟨⟨_, _, _, _, _, _, X3.out⟩, k + 1, by omega, S3.out⟩
              · rw [decide_eq_false hb] at HBL
                clear hb
                have S4 := hide (S3.out.bad true)
                have X4 := hide (X3.out.other (b' := N) (k := 2) (.bool true) (Ne.symm hNM))
                have T4 := hide (T3.out.setN (j := 2) (.bool true))
                go_wp2_with fail
                refine HBL.out.mono ?_
                rintro e w9 ⟨rfl, hw9⟩
                obtain rfl := hw9.symm
                go_wp2
                refine bodyPost_ret (results_none rfl _ _ _) rfl ⟨rfl, ?_, T4.out⟩
                rw [HN.out]
                exact ⟨⟨_, _, _, _, _, _, X4.out⟩, k + 1, by omega, S4.out⟩
        · have e2 : (pk == 2) = false := by rw [beq_eq_false_iff_ne]; exact hk2
          by_cases hk4 : pk = 4
          · subst hk4
            have HX : Hid (sdK f d (all.drop k0) ns nm [] [] = sdK (g - 1) d (all.drop (k + 1)) ns nm acc (t.data.toList ++ ps.data.toList)) := by
              show _ = _
              rw [HSD.out, HDR.out]; exact sdK_four g d _ _ ns nm acc _ (by omega) rfl
            have S2 := hide (HSC.out.step (k + 1))
            have X2 := hide (HXC.out.other (b' := N) (k := 1) (.int .i64 ((k + 1 : Nat) : Int)) (Ne.symm hNM))
            have G2 := hide (HGC.out.store ⟨N, 1, none⟩ (.int .i64 ((k + 1 : Nat) : Int)) (by show N < w.heap.size; exact hNlt))
            have T2 := hide (HTC.out.setN (j := 1) (.int .i64 ((k + 1 : Nat) : Int)))
            have hsz : t.size + ps.size ≤ 9223372036854775807 := by omega
            clear HSD HDR
            go_wp2
            go_roundw
            case rel =>
              refine ⟨t ++ ps, rfl, .inl ⟨g - 1, k + 1, acc, ts, av, cv, by omega, by omega, by omega, by rw [ByteArray.size_append]; omega, by omega, HTA.out, ?_, S2.out, X2.out, ?_, T2.out⟩⟩
              · rw [app_data]; exact HX.out
              · have := G2.out.up (lo' := (wC.setCell ⟨N, 1, none⟩ (.int .i64 ((k + 1 : Nat) : Int))).heap.size) (by simp; have := zC.out; omega) (Nat.le_refl _)
                exact this
            case measure =>
              have e1 := wAt_good S2.out
              rw [hMS.out]
              show wAt N _ < _
              first | rw [e1] | (have e2 := e1; simp only [Int.natCast_add, Int.cast_ofNat_Int] at e2; rw [e2])
              omega
          · have e4 : (pk == 4) = false := by rw [beq_eq_false_iff_ne]; exact hk4
            have HQ := hide (HI.out (g - 1) (by omega) all k ns d N B (dd + 1) wC hkl hal (by omega) (by omega) (by have := HDD.out; omega) HSC.out HZ.out)
            go_wp2_with fail
            refine HQ.out.mono ?_
            rintro e w5 ⟨hret, g5⟩
            obtain ⟨v0, v1, v2, a5, n5, c5, k5, bad5, rfl, hk5, s5, hRI⟩ := ret_parts hret
            have HRI := hide hRI
            have S5 := hide s5
            have HLO : Hid (wr.heap.size ≤ wC.heap.size) := by show _ ≤ _; have := zC.out; omega
            clear hret hRI s5
            have z5 := g5.size
            have hwz5 : w.heap.size ≤ w5.heap.size := by have := HTC.out.size; omega
            have b6 : Below w5.heap.size w5 (w5.alloc (Obj.cells #[.string v0, .string v1, .string v2, .slice a5 n5 c5] 26)) := (Below.refl _ _).alloc (Nat.le_refl _) _
            have S6 := hide (S5.out.alloc (Obj.cells #[.string v0, .string v1, .string v2, .slice a5 n5 c5] 26))
            have X6 := hide ((HXC.out.grown g5 (Ne.symm hNM)).next b6 (by omega))
            have G6 := hide ((HGC.out.grown g5 hNlt).next b6)
            have T6 := hide ((HTC.out.grow g5).below (b6.mono hwz5))
            have XX : Hid ((w5.alloc (Obj.cells #[.string v0, .string v1, .string v2, .slice a5 n5 c5] 26)).cell? ⟨w5.heap.size, 0, none⟩ = some (.string v0) ∧ (w5.alloc (Obj.cells #[.string v0, .string v1, .string v2, .slice a5 n5 c5] 26)).cell? ⟨w5.heap.size, 1, none⟩ = some (.string v1) ∧ (w5.alloc (Obj.cells #[.string v0, .string v1, .string v2, .slice a5 n5 c5] 26)).cell? ⟨w5.heap.size, 2, none⟩ = some (.string v2) ∧ (w5.alloc (Obj.cells #[.string v0, .string v1, .string v2, .slice a5 n5 c5] 26)).cell? ⟨w5.heap.size, 3, none⟩ = some (.slice a5 n5 c5)) := ⟨by simp, by simp, by simp, by simp⟩
            have z6 : Hid ((w5.alloc (Obj.cells #[.string v0, .string v1, .string v2, .slice a5 n5 c5] 26)).heap.size = w5.heap.size + 1) := by show _ = _; simp
            go_wp2_with fail
            obtain ⟨w6, hw6⟩ : ∃ w6, w5.alloc (Obj.cells #[.string v0, .string v1, .string v2, .slice a5 n5 c5] 26) = w6 := ⟨_, rfl⟩
            rw [hw6] at S6 X6 G6 T6 XX z6 b6
            rw [hw6]
            have B6 := hide b6
            clear hw6 b6 g5 HSC HXC HGC HTC p0 p1 p4 q1 q2 qz m0 m1 m2 m3 mz HQ
            obtain ⟨xx0, xx1, xx2, xx3⟩ := XX.out
            obtain ⟨X, hX⟩ : ∃ X, w5.heap.size = X := ⟨_, rfl⟩
            have hXl : X < w6.heap.size := by have := z6.out; omega
            have hMX : M < X := by omega
            rw [hX] at xx0 xx1 xx2 xx3
            rw [hX]
            obtain ⟨_, m0, m1, m2, m3, mz⟩ := X6.out
            have hMl : M < w6.heap.size := X6.out.lt
            obtain ⟨n, hn⟩ : ∃ n, ts.length = n := ⟨_, rfl⟩
            have HNL := hide hn
            have xz0 := (World.cell?_alloc_past (w := w6) (Obj.cells #[Value.string { data := #[] }, Value.string { data := #[] }, Value.string { data := #[] }, Value.slice none 0 0] 26) X 0 hXl).trans xx0
            have xz1 := (World.cell?_alloc_past (w := w6) (Obj.cells #[Value.string { data := #[] }, Value.string { data := #[] }, Value.string { data := #[] }, Value.slice none 0 0] 26) X 1 hXl).trans xx1
            have xz2 := (World.cell?_alloc_past (w := w6) (Obj.cells #[Value.string { data := #[] }, Value.string { data := #[] }, Value.string { data := #[] }, Value.slice none 0 0] 26) X 2 hXl).trans xx2
            have xz3 := (World.cell?_alloc_past (w := w6) (Obj.cells #[Value.string { data := #[] }, Value.string { data := #[] }, Value.string { data := #[] }, Value.slice none 0 0] 26) X 3 hXl).trans xx3
            have mz3 := (World.cell?_alloc_past (w := w6) (Obj.cells #[Value.string { data := #[] }, Value.string { data := #[] }, Value.string { data := #[] }, Value.slice none 0 0] 26) M 3 hMl).trans m3
            have nz0 : (w6.alloc (Obj.cells #[Value.string { data := #[] }, Value.string { data := #[] }, Value.string { data := #[] }, Value.slice none 0 0] 26)).drew.cell? ⟨w6.heap.size, 0, none⟩ = some (.string ByteArray.empty) := by show (w6.alloc (Obj.cells #[Value.string { data := #[] }, Value.string { data := #[] }, Value.string { data := #[] }, Value.slice none 0 0] 26)).cell? _ = _; simp; rfl
            have nz1 : (w6.alloc (Obj.cells #[Value.string { data := #[] }, Value.string { data := #[] }, Value.string { data := #[] }, Value.slice none 0 0] 26)).drew.cell? ⟨w6.heap.size, 1, none⟩ = some (.string ByteArray.empty) := by show (w6.alloc (Obj.cells #[Value.string { data := #[] }, Value.string { data := #[] }, Value.string { data := #[] }, Value.slice none 0 0] 26)).cell? _ = _; simp; rfl
            have nz2 : (w6.alloc (Obj.cells #[Value.string { data := #[] }, Value.string { data := #[] }, Value.string { data := #[] }, Value.slice none 0 0] 26)).drew.cell? ⟨w6.heap.size, 2, none⟩ = some (.string ByteArray.empty) := by show (w6.alloc (Obj.cells #[Value.string { data := #[] }, Value.string { data := #[] }, Value.string { data := #[] }, Value.slice none 0 0] 26)).cell? _ = _; simp; rfl
            have nz3 : (w6.alloc (Obj.cells #[Value.string { data := #[] }, Value.string { data := #[] }, Value.string { data := #[] }, Value.slice none 0 0] 26)).drew.cell? ⟨w6.heap.size, 3, none⟩ = some (.slice none 0 0) := by show (w6.alloc (Obj.cells #[Value.string { data := #[] }, Value.string { data := #[] }, Value.string { data := #[] }, Value.slice none 0 0] 26)).cell? _ = _; simp
            have NZ := hide (And.intro nz0 (And.intro nz1 (And.intro nz2 nz3)))
            clear nz0 nz1 nz2 nz3
            have b7 : Below w6.heap.size w6 (w6.alloc (Obj.cells #[Value.string { data := #[] }, Value.string { data := #[] }, Value.string { data := #[] }, Value.slice none 0 0] 26)).drew := below_drewN ((Below.refl _ _).alloc (Nat.le_refl _) _)
            have G7 := hide (G6.out.next b7)
            have B7 := hide b7
            have hlo : w.heap.size ≤ wr.heap.size := hwz
            have hz6 : w.heap.size ≤ w6.heap.size := by have := T6.out.size; omega
            have hn1 : n ≤ 1000 := by omega
            have hnlt : (n : Int) < (n : Int) + 1 := by omega
            have hnw : IntKind.i64.wrap (n : Int) = (n : Int) := by rw [IntKind.wrap_i64]; omega
            clear b7 hX XX
            rw [hn] at m3 mz3 X6 G7
            clear hn
            go_region_law ((
              refine step_append_nodeZ rfl _ _ rfl w.heap.size wr.heap.size _ ts rfl G7.out w6.heap.size rfl NZ.out.1 NZ.out.2.1 NZ.out.2.2.1 NZ.out.2.2.2 (by have := HNL.out; omega) hlo ?_
              rw [HNL.out]
              intro g8 c8 w8 z8 gr8 hat8
              have Z8 := hide z8
              have GR8 := hide gr8
              have HAT8 := hide hat8
              have bb8 := grow_below G7.out gr8 hlo
              have BB8 := hide bb8
              obtain ⟨zc0, zc1, zc2, zc3, zfz⟩ := z8.cells
              rw [HNL.out] at zc0 zc1 zc2 zc3
              have hm8 : w8.cell? ⟨M, 3, none⟩ = some (.slice av n cv) := ((bb8.cell (p := ⟨M, 3, none⟩) hMlt).trans mz3)
              have hmf8 : w8.frozen? ⟨M, 3, none⟩ = false := (bb8.frozen (p := ⟨M, 3, none⟩) hMlt).trans ((B7.out.frozen (p := ⟨M, 3, none⟩) hMl).trans (mz 3))
              have hMg : M ≠ g8 := by have := z8.lt; omega
              have hMg' : g8 ≠ M := Ne.symm hMg
              have KE := hide (fun F hF => kids_end (F := F) (c5 := c5) HSD.out HDR.out hk2 hk4 HRI.out hk5 hlt hal hgf hg2 htz htl HTA.out HNL.out S6.out X6.out T6.out hNlt hMlt hBM hNM B6.out B7.out G7.out HLO.out hMS.out z8 gr8 hat8 bb8 hF)
              obtain ⟨wa, hwa⟩ : ∃ wa, putA w8 M g8 n c8 (.string v0) (.string v1) (.string v2) (.slice a5 n5 c5) = wa := ⟨_, rfl⟩
              obtain ⟨wb, hwb⟩ : ∃ wb, putB w8 M g8 n c8 (.string v0) (.string v1) (.string v2) (.slice a5 n5 c5) = wb := ⟨_, rfl⟩
              have KA := hide (KE.out wa (.inl hwa.symm))
              have KB := hide (KE.out wb (.inr hwb.symm))
              have HWA := hide hwa
              have HWB := hide hwb
              clear z8 gr8 hat8 bb8 hwa hwb KE))
            all_goals
              clear zc0 zc1 zc2 zc3 zfz hm8 hmf8 xx0 xx1 xx2 xx3 xz0 xz1 xz2 xz3 mz3 m0 m1 m2 m3 mz Z8 GR8 HAT8 BB8 S6 X6 G6 T6 G7 B7
              first
              | (rw [show ((((w8.setCell ⟨g8, n * 4, none⟩ (.string v0)).setCell ⟨g8, n * 4 + 1, none⟩ (.string v1)).setCell ⟨g8, n * 4 + 2, none⟩ (.string v2)).setCell ⟨g8, n * 4 + 3, none⟩ (.slice a5 n5 c5)).setCell ⟨M, 3, none⟩ (.slice (some ⟨g8, 0, none⟩) (n + 1) c8) = wa from HWA.out]
                 clear HWA HWB KB
                 go_wp2
                 go_roundw
                 case rel => exact ⟨t, rfl, KA.out.1⟩
                 case measure => exact KA.out.2)
              | (rw [show ((((w8.setCell ⟨M, 3, none⟩ (.slice (some ⟨g8, 0, none⟩) (n + 1) c8)).setCell ⟨g8, n * 4, none⟩ (.string v0)).setCell ⟨g8, n * 4 + 1, none⟩ (.string v1)).setCell ⟨g8, n * 4 + 2, none⟩ (.string v2)).setCell ⟨g8, n * 4 + 3, none⟩ (.slice a5 n5 c5) = wb from HWB.out]
                 clear HWA HWB KA
                 go_wp2
                 go_roundw
                 case rel => exact ⟨t, rfl, KB.out.1⟩
                 case measure => exact KB.out.2)
      · have HN : Hid (sdK f d (all.drop k0) ns nm [] [] = none) := by
          show _ = _
          rw [HSD.out, List.drop_of_length_le (by omega)]; exact sdK_end _ _ _ _ _ _
        have hge : decide (all.length ≤ k) = true := decide_eq_true (by omega)
        have hge' : all.length ≤ k := by omega
        clear h2 hlt
        go_wp2
        go_quiet (fail)
        have c2' : (wr.drewN nq).cell? ⟨N, 2, none⟩ = some (.bool false) := hc2
        have fz' : ∀ j, (wr.drewN nq).frozen? ⟨N, j, none⟩ = false := hfz
        have S1 := hide ((HSR.out.drew nq).bad true)
        have X1 := hide ((HBX.out.drewN nq).other (b' := N) (k := 2) (.bool true) (Ne.symm hNM))
        have T1 := hide ((HTW.out.below (w2 := wr.drewN nq) ⟨rfl, rfl, rfl, Nat.le_refl _, fun _ _ => rfl⟩).setN (j := 2) (.bool true))
        go_wp2
        refine bodyPost_ret (results_none rfl _ _ _) rfl ⟨rfl, ?_, T1.out⟩
        rw [HN.out]
        exact ⟨⟨_, _, _, _, _, _, X1.out⟩, k, hkl, S1.out⟩
    · obtain ⟨hN, ⟨k', hk', hsr⟩, ⟨v0, v1, v2, a, n, c, hbx⟩, htw⟩ := hin
      have HN := hide hN
      have HSR := hide hsr
      have HBX := hide hbx
      have HTW := hide htw
      have hc2 := hsr.c2
      clear hN hsr hbx htw HK0
      go_wp2
      go_end0
      refine ⟨rfl, ?_, HTW.out⟩
      rw [HN.out]
      exact ⟨⟨_, _, _, _, _, _, HBX.out⟩, k', hk', HSR.out⟩
end Go.Proofs.YtccehdlgpbeijaaGreatDoor
