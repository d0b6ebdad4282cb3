/-
  Things that are drawn: they are right, and lie behind the cursor.
-/
import Derived.Test.YtifnolomekhmfaaGreatHide
import Derived.Test.YtifnolomekhmfaaGreatDrawPathT
import Derived.Test.YtifnolomekhmfaaGreatSpecMake
import Derived.Test.YtifnolomekhmfaaGreatSpecPutOld
import Derived.Test.YtifnolomekhmfaaGreatSizesK
namespace Go.Proofs.YtifnolomekhmfaaGreat
open Go.RowKit M
set_option linter.unusedVariables false

theorem ownQ_room {w : World} {B g n c : Nat} {ps : List Pp} (h : OwnQ w B (.slice (some ⟨g, 0, none⟩) n c) ps) (hn : n = ps.length) : Room w g c := by subst hn; exact owns_roomP h
theorem tree_len {rs : List Rs} (h : treeB rs = true) : rs.length ≤ 12 := by
  by_cases e : rs.length ≤ 12
  · exact e
  · rw [treeB_long e] at h; cases h
theorem tree_res {rs : List Rs} (h : treeB rs = true) : ∀ r ∈ rs, resB r = true := by
  unfold treeB at h
  simp only [Bool.and_eq_true, List.all_eq_true] at h
  exact h.2.1
theorem path_few {p : List ByteArray} (h : pathB p = true) : Few 5 p := by
  unfold pathB at h
  simp only [Bool.and_eq_true, decide_eq_true_eq, List.all_eq_true] at h
  refine ⟨by have := h.2; omega, fun s hs => ?_⟩
  have h1 := sumL_small [s] (fun x hx => by have e : x = s := by simpa using hx
                                            rw [e]; exact h.1 s hs)
  have e : sumL [s] = s.size := by simp [sumL]
  rw [e] at h1
  simp at h1
  omega
theorem tree_few {rs : List Rs} (h : treeB rs = true) : ∀ r ∈ rs, Few 5 r.pa := fun r hr => path_few (resB_path (tree_res h r hr))
theorem tree_sum {rs : List Rs} (h : treeB rs = true) : rs.length + sumR rs ≤ 1048576 := by have := tree_small h; omega
theorem short_sum {rs : List Rs} (h : rs.length + sumR rs ≤ 1048576) : ShortT rs := fun r hr => by
  obtain ⟨h1, h2, h3, h4, h5⟩ := short_of_sumK h r hr
  refine ⟨by unfold maxLen; omega, fun s hs => ?_, by unfold maxLen; omega, by unfold maxLen; omega, fun p hp => ?_⟩
  · have := h3 s hs; unfold maxLen; omega
  · have := h5 p hp; unfold maxLen; omega
theorem owns_low {w : World} {B C g n c : Nat} {ss : List ByteArray} (h : w.ownsRow B 9 1 (.slice (some ⟨g, 0, none⟩) n c) n (strCells ss)) (hC : C ≤ B) : w.ownsRow C 9 1 (.slice (some ⟨g, 0, none⟩) n c) n (strCells ss) := ⟨h.1, by
  rcases h.2 with e | ⟨g', cap', cur, e, hB, hr⟩
  · exact .inl e
  · exact .inr ⟨g', cap', cur, e, Nat.le_trans hC hB, hr⟩⟩
theorem HasT.grownM {w w' : World} {N M g : Nat} {rs : List Rs} (h : HasT w M g rs) (hg : w.grownBy w' (some N)) (hNM : N ≤ M) : HasT w' M g rs := h.heap hg.size (fun b hN hbl => hg.block b hbl (by simp; omega))
theorem HasV.low {w : World} {N M g : Nat} {rs : List Rs} (h : HasV w M g rs) (hNM : N ≤ M) : HasV w N g rs := ⟨by have := h.gN; omega, h.gs, fun j hj => by
  obtain ⟨p, pc, qa, qc, x⟩ := h.el j hj
  refine ⟨p, pc, qa, qc, x.at', x.rp, by have := x.pN; omega, x.pg, x.cp, ?_⟩
  rcases x.qq with ⟨q, h1, h2, h3, h4⟩ | h
  · exact .inl ⟨q, h1, h2, ⟨by have := h3.1; omega, h3.2⟩, h4⟩
  · exact .inr h⟩
theorem make_draw {w : World} {N g gp np cp B : Nat} {rs : List Rs} {ss : List ByteArray} (h : HasT w N g rs) (ht : treeB rs = true) (ho : w.ownsRow B 9 1 (.slice (some ⟨gp, 0, none⟩) np cp) np (strCells ss)) (hnp : np = ss.length) (hf : Few 6 ss) (v : Int) (c : Nat) :
    Calls Tryz.prog 17 #[.slice (some ⟨g, 0, none⟩) rs.length c, .slice (some ⟨gp, 0, none⟩) ss.length cp, .int .i64 v] w fun e w' => TurnIs w w' e (makeR rs ss v) (codeM (collI rs ss v) 201) ∧ Below w.heap.size w w' := by
  obtain ⟨hs, h1, h2, _⟩ := own_strs ho hnp
  have hS := short_of_sumK (tree_sum ht)
  have := hf.1
  have hl := tree_len ht
  exact specMakeColl_any _ rs c w.heap.size _ ss cp v w h.rss hs (Nat.le_refl _) (short_sum (tree_sum ht)) (by omega) (fun r hr => ⟨(hS r hr).1, (hS r hr).2.1⟩) hf.short (by omega) (by omega) h2 (fun e => by cases e)
theorem put_draw {w : World} {N g gp np cp B : Nat} {rs : List Rs} {ss : List ByteArray} (h : HasT w N g rs) (ht : treeB rs = true) (ho : w.ownsRow B 9 1 (.slice (some ⟨gp, 0, none⟩) np cp) np (strCells ss)) (hnp : np = ss.length) (hf : Few 6 ss) (bo : ByteArray) (hbo : bo.size ≤ 1000) (v : Int) (c : Nat) :
    Calls Tryz.prog 14 #[.slice (some ⟨g, 0, none⟩) rs.length c, .slice (some ⟨gp, 0, none⟩) ss.length cp, .string bo, .int .i64 v] w fun e w' => TurnIs w w' e (putFR rs ss bo v) (codeM (fileI rs ss bo v) (okF (findI rs ss))) ∧ Below w.heap.size w w' := by
  obtain ⟨hs, h1, h2, _⟩ := own_strs ho hnp
  have hS := short_of_sumK (tree_sum ht)
  have := hf.1
  have hl := tree_len ht
  exact specPutFile_any _ rs c w.heap.size _ ss cp bo v w h.rss hs (Nat.le_refl _) (short_sum (tree_sum ht)) (by omega) (fun r hr => ⟨(hS r hr).1, (hS r hr).2.1⟩) hf.short (by omega) (by omega) h2 (fun e => by cases e) (by unfold maxLen; omega)
def bodiesD : List ByteArray := [⟨#[]⟩, ⟨#[120]⟩, ⟨#[104, 101, 108, 108, 111]⟩]

set_option maxRecDepth 100000 in
set_option maxHeartbeats 8000000 in
theorem l10Draw_any {w : World} {N : Nat} {a : Option Addr} {len cap : Nat} {zs : List Int} (h : DX w N a len cap zs) :
    Calls Tryz.prog 103 #[.pointer (some ⟨N, 0, none⟩)] w fun e w' => (∃ (rs : List Rs) (g n c : Nat), treeB rs = true ∧ n = rs.length ∧ e = .returned (.slice (some ⟨g, 0, none⟩) n c) ∧ HasT w' (w.heap.size - 1) g rs ∧ w.heap.size ≤ g ∧ OwnT w' g n c) ∧ DX w' N a len cap zs ∧ w.grownBy w' (some N) := by
  have hlt := h.lt
  have H := hide h
  obtain ⟨M, hM⟩ : ∃ M, w.heap.size - 1 = M := ⟨_, rfl⟩
  rw [hM]
  have hNM : N ≤ M := by omega
  have hMs : M < w.heap.size := by omega
  clear hM
  have HM := hide (HasT.made w M hMs)
  have HW0 := hide (OwnT.made w)
  clear h
  go_enter Tryz.func103, Tryz.ntmps103
  go_wp2_with fail
  refine (l1BelowX (H.out.alloc _) 10 (by decide) (by decide)).mono ?_
  rintro e w1 ⟨⟨k0, rfl, hk0⟩, hd1, hg1⟩
  have HG := hide (grown_trans (grown_alloc (grown_refl w (some N)) _) hg1)
  have HO1 := hide (HM.out.grownM hg1 hNM)
  have HW1 := hide (HW0.out.grown hg1 (by omega))
  have HD := hide hd1
  clear hg1 hd1
  go_wp2
  go_loopw [3, 4] (fun v i wr => ∃ (k : Nat) (rs : List Rs) (n g c : Nat), i = .int .i64 k ∧ k ≤ 10 ∧ v = .slice (some ⟨g, 0, none⟩) n c ∧ Hid (n = rs.length) ∧ Hid (treeB rs = true) ∧ Hid (HasT wr M g rs) ∧ (w.heap.size ≤ g ∧ Hid (OwnT wr g n c)) ∧ Hid (DX wr N a len cap zs) ∧ Hid (w.grownBy wr (some N))) (fun _ i _ => (intOf i).toNat)
  case atStart => exact ⟨k0, [], 0, w.heap.size, 0, rfl, by omega, rfl, rfl, hide (by decide), HO1, ⟨Nat.le_refl _, HW1⟩, HD, HG⟩
  case round =>
    obtain ⟨k, rs, n, g, c, rfl, hk3, rfl, hn, htr, HT, ⟨hgw, HWr⟩, HD2, HG2⟩ := hrel
    have hn12 : n ≤ 12 := by rw [hn.out]; exact tree_len htr.out
    by_cases h0 : 0 < k
    · have h0' : (0 : Int) < k := by omega
      go_wp2_with fail
      refine (l10Path_any HD2.out g n c rs hn (HT.out.weak.low hNM) (by omega) (tree_few htr.out)).mono ?_
      rintro e w2 ⟨⟨ss, np, gp, cp, hf, hnp, rfl, hop⟩, hd3, hg3⟩
      have HF := hide hf
      have HNP := hide hnp
      have HOP := hide (owns_low hop HG2.out.size)
      have HD3 := hide hd3
      have HG3 := hide (grown_trans HG2.out hg3)
      have HT3 := hide (HT.out.grownM hg3 hNM)
      clear hf hnp hop hd3 hg3 HD2 HG2 HT
      go_wp2_with fail
      refine (l1OnceQ HD3.out 2 (by decide) (by decide)).mono ?_
      rintro e w3 ⟨⟨b, rfl⟩, hd4, hg4⟩
      have HOP4 := hide (owns_grown HOP.out hg4 hlt)
      have HD4 := hide hd4
      have HG4 := hide (grown_trans HG3.out hg4)
      have HT4 := hide (HT3.out.grownM hg4 hNM)
      clear hd4 hg4 HD3 HG3 HT3 HOP
      cases b
      · go_wp2_with fail
        refine (strNewQ HD4.out 30 bodiesD _ _ 3 _ rfl rfl rfl (by decide) (by decide) (by decide)).mono ?_
        rintro e w4 ⟨⟨bo, rfl, hbo⟩, hd5, hg5⟩
        have HOP5 := hide (owns_grown HOP4.out hg5 hlt)
        have HD5 := hide hd5
        have HG5 := hide (grown_trans HG4.out hg5)
        have HT5 := hide (HT4.out.grownM hg5 hNM)
        clear hd5 hg5 HD4 HG4 HT4 HOP4
        go_wp2_with fail
        refine (l1BelowX HD5.out 9 (by decide) (by decide)).mono ?_
        rintro e w5 ⟨⟨v, rfl, hv⟩, hd6, hg6⟩
        have HOP6 := hide (owns_grown HOP5.out hg6 hlt)
        have HD6 := hide hd6
        have HG6 := hide (grown_trans HG5.out hg6)
        have HT6 := hide (HT5.out.grownM hg6 hNM)
        clear hd6 hg6 HD5 HG5 HT5 HOP5
        have HC := hide (put_draw HT6.out htr.out HOP6.out HNP.out HF.out bo (by omega) v c)
        rw [← hn.out] at HC
        rw [← HNP.out] at HC
        clear HOP6
        go_wp2_with fail
        refine HC.out.mono ?_
        rintro e w6 ⟨⟨vt, ts, base, hbase, rfl, hGr, hmr⟩, b6⟩
        have HTR := hide (put_tree (p := ss) (bo := bo) (v := v) htr.out)
        generalize codeM (fileI rs ss bo v) (okF (findI rs ss)) = cc at *
        generalize putFR rs ss bo v = rs2 at *
        obtain ⟨g7, c7, rfl, hT7, hW7⟩ := HasT.of_grow hGr (N := M) (by have := HG6.out.size; omega) hmr
        have hg7 : w.heap.size ≤ g7 := by
          obtain ⟨b', cap', hv', hb'⟩ := hGr.blk
          have := (World.ownsRow.lt hGr.own g7 rfl).1
          have := HG6.out.size
          omega
        have hNg7 : N ≠ g7 := by omega
        have HW7 := hide hW7
        have HT7 := hide hT7
        have HD7 := hide (HD6.out.below b6)
        have HG7 := hide (grown_belowQ HG6.out b6 HG6.out.size)
        have hrl : rs2.length ≤ 12 := tree_len HTR.out
        obtain ⟨n7, hn7⟩ : ∃ n7, rs2.length = n7 := ⟨_, rfl⟩
        rw [hn7] at hrl HW7 ⊢
        have HN7 := hide hn7.symm
        clear hGr hmr hT7 hW7 b6 HD6 HG6 HT6 HC hn7 hbase
        by_cases hz : n7 = 0
        · subst hz
          go_wp2
          go_roundw
          case rel => exact ⟨k - 1, rs2, 0, g7, c7, by first | go_num | (congr 1; omega), by omega, rfl, HN7, HTR, HT7, ⟨hg7, HW7⟩, HD7, HG7⟩
          case measure => simp [intOf]; omega
        · have hz' : (0 : Int) < n7 := by omega
          go_wp2_with fail
          refine (l1OnceQ HD7.out 3 (by decide) (by decide)).mono ?_
          rintro e w8 ⟨⟨b, rfl⟩, hd8, hg8⟩
          have HD8 := hide hd8
          have HG8 := hide (grown_trans HG7.out hg8)
          have HT8 := hide (HT7.out.grownM hg8 hNM)
          have HW8 := hide (HW7.out.grown hg8 hNg7)
          clear hd8 hg8 HD7 HG7 HT7
          cases b
          · go_wp2
            go_roundw
            case rel => exact ⟨k - 1, rs2, n7, g7, c7, by first | go_num | (congr 1; omega), by omega, rfl, HN7, HTR, HT8, ⟨hg7, HW8⟩, HD8, HG8⟩
            case measure => simp [intOf]; omega
          · go_wp2_with fail
            refine (l1BelowX HD8.out n7 hz' (by omega)).mono ?_
            rintro e w9 ⟨⟨j, rfl, hj⟩, hd9, hg9⟩
            have HD9 := hide hd9
            have HG9 := hide (grown_trans HG8.out hg9)
            have HT9 := hide (HT8.out.grownM hg9 hNM)
            have HW9 := hide (HW8.out.grown hg9 hNg7)
            clear hd9 hg9 HD8 HG8 HT8
            go_wp2_with fail
            refine (l10Props_any HD9.out).mono ?_
            rintro e w10 ⟨⟨ps, gq, nq, cq, hps, hnq, rfl, hoq⟩, hd10, hg10⟩
            have HD10 := hide hd10
            have HG10 := hide (grown_trans HG9.out hg10)
            have HT10 := hide (HT9.out.grownM hg10 hNM)
            have HW10 := hide (HW9.out.grown hg10 hNg7)
            have hjr : j < rs2.length := by have := HN7.out; omega
            obtain ⟨rq, hqB, hq1, hq2⟩ := hoq.row hnq
            have hgs9 := HT9.out.gs
            have HT11 := hide (HT10.out.setProps j hjr gq nq cq ps hnq ⟨rq, ownQ_room hoq hnq⟩ (fun i hi p pc q qc x => by have := HT9.out.low (hg10.block g7 hgs9 (by have := HT9.out.gN; simp; omega)) i hi p pc q qc x; omega) (by have := HG9.out.size; omega) (by omega) hq1 hq2)
            have HTR11 := hide (tree_setP HTR.out j hjr ps hps)
            obtain ⟨x0, x1, x2, x3, hx⟩ := HT10.out.el j hjr
            have hcell := hx.at'.2.2.2.2
            have hfz := HT10.out.fz (j * 5 + 4)
            have hji : (j : Int) < (n7 : Int) := by omega
            have HN11 := hide (show n7 = (rs2.set j (setP rs2[j] ps)).length by rw [List.length_set]; exact HN7.out)
            clear hoq hd10 hg10 hps hnq rq HT10 hx
            go_wp2
            go_roundw
            case rel => exact ⟨k - 1, _, n7, g7, c7, by first | go_num | (congr 1; omega), by omega, rfl, HN11, HTR11, HT11, ⟨hg7, hide (HW10.out.set _ _)⟩, hide (HD10.out.set _ (by omega)), hide (grown_setQ HG10.out _ hg7)⟩
            case measure => simp [intOf]; omega
      · go_wp2_with fail
        refine (l1BelowX HD4.out 9 (by decide) (by decide)).mono ?_
        rintro e w5 ⟨⟨v, rfl, hv⟩, hd6, hg6⟩
        have HOP6 := hide (owns_grown HOP4.out hg6 hlt)
        have HD6 := hide hd6
        have HG6 := hide (grown_trans HG4.out hg6)
        have HT6 := hide (HT4.out.grownM hg6 hNM)
        clear hd6 hg6 HD4 HG4 HT4 HOP4
        have HC := hide (make_draw HT6.out htr.out HOP6.out HNP.out HF.out v c)
        rw [← hn.out] at HC
        rw [← HNP.out] at HC
        clear HOP6
        go_wp2_with fail
        refine HC.out.mono ?_
        rintro e w6 ⟨⟨vt, ts, base, hbase, rfl, hGr, hmr⟩, b6⟩
        have HTR := hide (make_tree (p := ss) (v := v) htr.out)
        generalize codeM (collI rs ss v) 201 = cc at *
        generalize makeR rs ss v = rs2 at *
        obtain ⟨g7, c7, rfl, hT7, hW7⟩ := HasT.of_grow hGr (N := M) (by have := HG6.out.size; omega) hmr
        have hg7 : w.heap.size ≤ g7 := by
          obtain ⟨b', cap', hv', hb'⟩ := hGr.blk
          have := (World.ownsRow.lt hGr.own g7 rfl).1
          have := HG6.out.size
          omega
        have hNg7 : N ≠ g7 := by omega
        have HW7 := hide hW7
        have HT7 := hide hT7
        have HD7 := hide (HD6.out.below b6)
        have HG7 := hide (grown_belowQ HG6.out b6 HG6.out.size)
        have hrl : rs2.length ≤ 12 := tree_len HTR.out
        obtain ⟨n7, hn7⟩ : ∃ n7, rs2.length = n7 := ⟨_, rfl⟩
        rw [hn7] at hrl HW7 ⊢
        have HN7 := hide hn7.symm
        clear hGr hmr hT7 hW7 b6 HD6 HG6 HT6 HC hn7 hbase
        by_cases hz : n7 = 0
        · subst hz
          go_wp2
          go_roundw
          case rel => exact ⟨k - 1, rs2, 0, g7, c7, by first | go_num | (congr 1; omega), by omega, rfl, HN7, HTR, HT7, ⟨hg7, HW7⟩, HD7, HG7⟩
          case measure => simp [intOf]; omega
        · have hz' : (0 : Int) < n7 := by omega
          go_wp2_with fail
          refine (l1OnceQ HD7.out 3 (by decide) (by decide)).mono ?_
          rintro e w8 ⟨⟨b, rfl⟩, hd8, hg8⟩
          have HD8 := hide hd8
          have HG8 := hide (grown_trans HG7.out hg8)
          have HT8 := hide (HT7.out.grownM hg8 hNM)
          have HW8 := hide (HW7.out.grown hg8 hNg7)
          clear hd8 hg8 HD7 HG7 HT7
          cases b
          · go_wp2
            go_roundw
            case rel => exact ⟨k - 1, rs2, n7, g7, c7, by first | go_num | (congr 1; omega), by omega, rfl, HN7, HTR, HT8, ⟨hg7, HW8⟩, HD8, HG8⟩
            case measure => simp [intOf]; omega
          · go_wp2_with fail
            refine (l1BelowX HD8.out n7 hz' (by omega)).mono ?_
            rintro e w9 ⟨⟨j, rfl, hj⟩, hd9, hg9⟩
            have HD9 := hide hd9
            have HG9 := hide (grown_trans HG8.out hg9)
            have HT9 := hide (HT8.out.grownM hg9 hNM)
            have HW9 := hide (HW8.out.grown hg9 hNg7)
            clear hd9 hg9 HD8 HG8 HT8
            go_wp2_with fail
            refine (l10Props_any HD9.out).mono ?_
            rintro e w10 ⟨⟨ps, gq, nq, cq, hps, hnq, rfl, hoq⟩, hd10, hg10⟩
            have HD10 := hide hd10
            have HG10 := hide (grown_trans HG9.out hg10)
            have HT10 := hide (HT9.out.grownM hg10 hNM)
            have HW10 := hide (HW9.out.grown hg10 hNg7)
            have hjr : j < rs2.length := by have := HN7.out; omega
            obtain ⟨rq, hqB, hq1, hq2⟩ := hoq.row hnq
            have hgs9 := HT9.out.gs
            have HT11 := hide (HT10.out.setProps j hjr gq nq cq ps hnq ⟨rq, ownQ_room hoq hnq⟩ (fun i hi p pc q qc x => by have := HT9.out.low (hg10.block g7 hgs9 (by have := HT9.out.gN; simp; omega)) i hi p pc q qc x; omega) (by have := HG9.out.size; omega) (by omega) hq1 hq2)
            have HTR11 := hide (tree_setP HTR.out j hjr ps hps)
            obtain ⟨x0, x1, x2, x3, hx⟩ := HT10.out.el j hjr
            have hcell := hx.at'.2.2.2.2
            have hfz := HT10.out.fz (j * 5 + 4)
            have hji : (j : Int) < (n7 : Int) := by omega
            have HN11 := hide (show n7 = (rs2.set j (setP rs2[j] ps)).length by rw [List.length_set]; exact HN7.out)
            clear hoq hd10 hg10 hps hnq rq HT10 hx
            go_wp2
            go_roundw
            case rel => exact ⟨k - 1, _, n7, g7, c7, by first | go_num | (congr 1; omega), by omega, rfl, HN11, HTR11, HT11, ⟨hg7, hide (HW10.out.set _ _)⟩, hide (HD10.out.set _ (by omega)), hide (grown_setQ HG10.out _ hg7)⟩
            case measure => simp [intOf]; omega
    · have hk : k = 0 := by omega
      subst hk
      go_wp2
      go_ret
      exact ⟨⟨rs, g, n, c, htr.out, hn.out, rfl, HT.out, hgw, HWr.out⟩, HD2.out, HG2.out⟩
end Go.Proofs.YtifnolomekhmfaaGreat
