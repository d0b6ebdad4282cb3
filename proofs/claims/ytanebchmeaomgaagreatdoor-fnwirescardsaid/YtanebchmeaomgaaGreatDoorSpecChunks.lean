/-
  What the specification's GetChunks does.
-/
import Derived.Test.YtanebchmeaomgaaGreatDoorSpecChunk
import Derived.Test.YtanebchmeaomgaaGreatDoorSpecSm
namespace Go.Proofs.YtanebchmeaomgaaGreatDoor
open Go.RowKit M
set_option linter.unusedVariables false

theorem endC_zero {l : List UInt8} {k : Nat} (h : endC l k = 0) : k + 2 ≤ l.length := by
  unfold endC at h
  split at h
  · cases h
  · split at h
    · cases h
    · split at h
      · cases h
      · omega
theorem szC_zero {l : List UInt8} {a : Nat} (h : szC l a = 0) : szP l a ≤ l.length := by
  unfold szC at h
  split at h
  · cases h
  · split at h
    · have := endC_zero h; unfold szP; omega
    · cases h
theorem getC_bad {f : Nat} {l : List UInt8} {a : Nat} {body : List UInt8} {c : Int} (hf : 1 ≤ f) (h : pieceC l a (200 - body.length) = c) (hc : c ≠ 0) : getC f l a body = ([], 0, c) := by
  obtain ⟨f, rfl⟩ : ∃ g, f = g + 1 := ⟨f - 1, by omega⟩
  rw [getC, if_pos (by rw [h]; exact hc), h]
theorem getC_last {f : Nat} {l : List UInt8} {a : Nat} {body : List UInt8} (hf : 1 ≤ f) (h : pieceC l a (200 - body.length) = 0) (hn : szN l a = 0) : getC f l a body = (body, szP l a + 2, 0) := by
  obtain ⟨f, rfl⟩ : ∃ g, f = g + 1 := ⟨f - 1, by omega⟩
  rw [getC, if_neg (by rw [h]; decide), if_pos hn]
theorem getC_next {f : Nat} {l : List UInt8} {a : Nat} {body : List UInt8} (hf : 1 ≤ f) (h : pieceC l a (200 - body.length) = 0) (hn : szN l a ≠ 0) : getC f l a body = getC (f - 1) l (szP l a + szN l a + 2) (body ++ pieceL l a) := by
  obtain ⟨f, rfl⟩ : ∃ g, f = g + 1 := ⟨f - 1, by omega⟩
  rw [getC, if_neg (by rw [h]; decide), if_neg hn, Nat.add_sub_cancel]
theorem pieceL_len {l : List UInt8} {a : Nat} (h : szP l a + szN l a ≤ l.length) : (pieceL l a).length = szN l a := by
  unfold pieceL; rw [List.length_take, List.length_drop]; omega

theorem szN_lt {l : List UInt8} {a : Nat} (h : szC l a = 0) : szN l a < 1048576 := by
  unfold szC at h
  split at h
  · cases h
  · split at h
    · rename_i hx
      simp only [hexB, Bool.and_eq_true, decide_eq_true_eq] at hx
      have h1 := hexVal_lt (⟨(wordC l a).toArray⟩ : ByteArray) (wordC l a).length (Nat.le_refl _) (by show hexs (List.take _ (wordC l a)) = true; rw [List.take_length]; exact hx.2.2)
      have e : List.take (wordC l a).length ((⟨(wordC l a).toArray⟩ : ByteArray).data.toList) = wordC l a := List.take_length
      rw [e] at h1
      have h16 := pow16_le (k := (wordC l a).length) (by omega)
      show hexVal (wordC l a) < _
      omega
    · cases h
theorem szP_pos (l : List UInt8) (a : Nat) : 2 ≤ szP l a := by unfold szP; omega
theorem join_piece (s : ByteArray) (m : List UInt8) : s ++ (⟨m.toArray⟩ : ByteArray) = ⟨(s.data.toList ++ m).toArray⟩ := by
  apply ByteArray.ext
  simp

set_option maxRecDepth 100000 in
set_option maxHeartbeats 4000000 in
theorem specGetChunks_any (a : Option Addr) (l : List UInt8) (cap B : Nat) (at0 : Int) (w : World) (h : Byt w B a l) (hl : l.length ≤ 1073741824) (hlc : l.length ≤ cap) (hcm : cap ≤ maxLen) :
    Calls Tryz.prog 82 #[.slice a l.length cap, .int .i64 at0] w fun e w' => e = .returned (.tuple #[.string ⟨(chunksC l at0).1.toArray⟩, .int .i64 (chunksC l at0).2.1, .int .i64 (chunksC l at0).2.2]) ∧ ∀ D, Below D w w' := by
  by_cases hin : 0 ≤ at0 ∧ at0 ≤ l.length
  · obtain ⟨k0, rfl⟩ := Int.eq_ofNat_of_zero_le hin.1
    have hk0 : k0 ≤ l.length := by have := hin.2; omega
    have HC : Hid (chunksC l (k0 : Int) = getC 201 l k0 []) := by show chunksC l _ = _; unfold chunksC; rw [if_pos hin, Int.toNat_natCast]
    have hi : inB (k0 : Int) 0 (l.length : Int) = true := by simp [inB]; omega
    have HSz := hide (fun (k : Nat) (W : World) (h : Byt W B a l) (hk : k ≤ l.length) => l4Size_any a l cap B k W h hl hlc hcm hk)
    have HEn := hide (fun (k : Nat) (W : World) (h : Byt W B a l) (hk : k ≤ l.length) => l4End_any a l cap B k W h hl (by omega))
    unfold maxLen at hcm
    go_enter Tryz.func82, Tryz.ntmps82
    go_wp2_with (go_at_call 123; refine (l1In_any _ _ _ _).mono ?_; rintro e w' ⟨rfl, hw⟩; obtain rfl := hw.symm; rw [hi])
    go_loopw [1, 7] (fun av bv wr => ∃ (f k : Nat) (s : ByteArray), av = .int .i64 k ∧ bv = .string s ∧ k ≤ l.length ∧ s.size ≤ 200 ∧ 201 ≤ f + s.size ∧ getC 201 l k0 [] = getC f l k s.data.toList ∧ Byt wr B a l ∧ ∀ D, Below D w wr) (fun _ bv _ => 201 - (match bv with | .string s => s.size | _ => 0))
    case atStart => exact ⟨201, k0, ⟨#[]⟩, rfl, rfl, hk0, by decide, Nat.le_refl _, rfl, h, fun D => Below.refl _ _⟩
    case round =>
      obtain ⟨f, k, s, rfl, rfl, hk, hs, hf, hG, hy, hbe⟩ := hrel
      have hsl : s.data.toList.length = s.size := Array.length_toList
      have HG := hide hG
      have HY := hide hy
      have HBe := hide hbe
      have HSl := hide hsl
      have hs' : (s.size : Int) ≤ 200 := by omega
      clear hG hy hbe hsl
      by_cases hz : szC l k = 0
      · have hP := szC_zero hz
        have hNb := szN_lt hz
        have hP2 := szP_pos l k
        have HE := hide (sz3_good hz)
        have HZ := hide hz
        clear hz
        obtain ⟨N, hN⟩ : ∃ N, szN l k = N := ⟨_, rfl⟩
        obtain ⟨P, hPe⟩ : ∃ P, szP l k = P := ⟨_, rfl⟩
        have HN := hide hN
        have HPe := hide hPe
        rw [hPe] at hP hP2
        rw [hN] at hNb
        rw [hN, hPe] at HE
        clear hN hPe
        have hpc := hide (fun (c : Int) (e : (if 200 - s.size < N then (413 : Int) else if l.length < P + N then 1 else endC l (P + N)) = c) => show pieceC l k (200 - s.data.toList.length) = c by
          unfold pieceC; rw [if_neg (by rw [HZ.out]; decide), HN.out, HPe.out, HSl.out]; exact e)
        obtain ⟨b, o, ha, hb, hc⟩ := HY.out (by omega)
        subst ha
        clear hc
        by_cases c1 : 200 < s.size + N
        · have c1' : (200 : Int) < (s.size : Int) + N := by omega
          have HR : Hid (getC f l k s.data.toList = ([], 0, 413)) := getC_bad (by omega) (hpc.out 413 (if_pos (by omega))) (by decide)
          clear c1
          go_wp2_with fail
          refine (HSz.out k _ HY.out hk).mono ?_
          rintro e w1 ⟨rfl, n1, rfl⟩
          rw [HE.out]
          have Y1 : Hid (Byt (wr.drewN n1) B (some ⟨b, o, none⟩) l) := HY.out
          have B1 : Hid (∀ D, Below D w (wr.drewN n1)) := fun D => below_drewN (HBe.out D) n1
          generalize wr.drewN n1 = w1 at *
          go_wp2
          refine bodyPost_ret (v := .tuple #[.string ⟨#[]⟩, .int .i64 0, .int .i64 413]) (by simp [results, Tryz.results82, go_sem]) rfl ⟨by rw [HC.out, HG.out, HR.out]; rfl, B1.out⟩
        · have c1' : ¬ ((200 : Int) < (s.size : Int) + N) := by omega
          by_cases c2 : l.length < P + N
          · have c2' : (l.length : Int) - P < N := by omega
            have HR : Hid (getC f l k s.data.toList = ([], 0, 1)) := getC_bad (by omega) (hpc.out 1 (by rw [if_neg (by omega), if_pos c2])) (by decide)
            clear c1 c2
            go_wp2_with fail
            refine (HSz.out k _ HY.out hk).mono ?_
            rintro e w1 ⟨rfl, n1, rfl⟩
            rw [HE.out]
            have Y1 : Hid (Byt (wr.drewN n1) B (some ⟨b, o, none⟩) l) := HY.out
            have B1 : Hid (∀ D, Below D w (wr.drewN n1)) := fun D => below_drewN (HBe.out D) n1
            generalize wr.drewN n1 = w1 at *
            go_wp2
            refine bodyPost_ret (v := .tuple #[.string ⟨#[]⟩, .int .i64 0, .int .i64 1]) (by simp [results, Tryz.results82, go_sem]) rfl ⟨by rw [HC.out, HG.out, HR.out]; rfl, B1.out⟩
          · have c2' : ¬ ((l.length : Int) - P < N) := by omega
            have HPl : Hid (pieceC l k (200 - s.data.toList.length) = endC l (P + N)) := hpc.out _ (by rw [if_neg (by omega), if_neg c2])
            have hpl : (pieceL l k).length = N := by rw [pieceL_len (by rw [HN.out, HPe.out]; omega)]; exact HN.out
            have HLL : Hid (pieceL l k = (l.drop P).take N) := by show pieceL l k = _; unfold pieceL; rw [HN.out, HPe.out]
            have hPN : P + N ≤ l.length := by omega
            clear c1 c2 hpc
            by_cases cP : cap = P
            · have hN0 : N = 0 := by omega
              have HE1 : Hid (endC l (P + N) = 1) := by show endC l (P + N) = 1; unfold endC; rw [if_pos (by omega)]
              have HR : Hid (getC f l k s.data.toList = ([], 0, 1)) := getC_bad (by omega) (HPl.out.trans HE1.out) (by decide)
              have HEn3 := hide (fun (W : World) (h : Byt W B (some ⟨b, o, none⟩) l) => HEn.out (P + N) W h hPN)
              rw [HE1.out] at HEn3
              have hcv0 := fun (W : World) => conv_byt (Byt.nil W B (some ⟨b, o, none⟩)) 0 0 rfl
              clear HPl hpl HLL HN HE1 HEn
              subst hN0
              subst cP
              rw [Nat.add_zero] at HEn3
              have HE0 : Hid (sz3 l k = ((0 : Int), (cap : Int), 0)) := HE.out
              clear HE HPe c1' c2' hNb
              go_wp2_with fail
              refine (HSz.out k _ HY.out hk).mono ?_
              rintro e w1 ⟨rfl, n1, rfl⟩
              rw [HE0.out]
              have Y1 : Hid (Byt (wr.drewN n1) B (some ⟨b, o, none⟩) l) := HY.out
              have B1 : Hid (∀ D, Below D w (wr.drewN n1)) := fun D => below_drewN (HBe.out D) n1
              generalize wr.drewN n1 = w1 at *
              have hcv := hcv0 w1
              go_wp2_with fail
              refine (HEn3.out w1 Y1.out).mono ?_
              rintro e w2 ⟨rfl, hw2⟩
              obtain rfl := hw2.symm
              go_wp2
              refine bodyPost_ret (v := .tuple #[.string ⟨#[]⟩, .int .i64 0, .int .i64 1]) (by simp [results, Tryz.results82, go_sem]) rfl ⟨by rw [HC.out, HG.out, HR.out]; rfl, B1.out⟩
            · go_wp2_with fail
              refine (HSz.out k _ HY.out hk).mono ?_
              rintro e w1 ⟨rfl, n1, rfl⟩
              rw [HE.out]
              have Y1 : Hid (Byt (wr.drewN n1) B (some ⟨b, o, none⟩) l) := HY.out
              have B1 : Hid (∀ D, Below D w (wr.drewN n1)) := fun D => below_drewN (HBe.out D) n1
              generalize wr.drewN n1 = w1 at *
              have hcv := conv_byt ((Y1.out.drop P).take N) N (cap - P) (by rw [List.length_take, List.length_drop]; omega)
              rw [← HLL.out] at hcv
              obtain ⟨t, ht⟩ : ∃ t : ByteArray, t = ⟨(pieceL l k).toArray⟩ := ⟨_, rfl⟩
              have hts : t.size = N := by rw [ht]; show (pieceL l k).toArray.size = N; simpa using hpl
              rw [← ht] at hcv
              have HT : Hid (s ++ t = ⟨(s.data.toList ++ pieceL l k).toArray⟩) := by show s ++ t = _; rw [ht]; exact join_piece _ _
              have HTs := hide hts
              have htz : t.size ≤ 1048576 := by omega
              have hEn := HEn.out (P + N) w1 Y1.out hPN
              rw [show (((P + N : Nat)) : Int) = (P : Int) + N by omega] at hEn
              have HEn2 := hide hEn
              clear ht hts hpl hEn
              go_wp2_with fail
              refine HEn2.out.mono ?_
              rintro e w2 ⟨rfl, hw2⟩
              obtain rfl := hw2.symm
              by_cases c3 : endC l (P + N) = 0
              · have hend := endC_zero c3
                rw [c3]
                have HP0 := hide (HPl.out.trans c3)
                clear c3
                by_cases c4 : N = 0
                · have c4' : ((N : Int) == 0) = true := by rw [beq_iff_eq]; omega
                  have HR : Hid (getC f l k s.data.toList = (s.data.toList, P + 2, 0)) := by
                    show getC f l k _ = _
                    rw [getC_last (by omega) HP0.out (by rw [HN.out]; exact c4), HPe.out]
                  have HTe : Hid (s ++ t = ⟨s.data.toList.toArray⟩) := by
                    show s ++ t = _
                    rw [HT.out]
                    have : pieceL l k = [] := by rw [HLL.out, c4, List.take_zero]
                    rw [this, List.append_nil]
                  have HNz := hide c4
                  clear c4
                  go_wp2
                  refine bodyPost_ret (v := .tuple #[.string (s ++ t), .int .i64 ((P : Int) + N + 2), .int .i64 0]) (by simp [results, Tryz.results82, go_sem]) rfl ⟨by rw [HC.out, HG.out, HR.out, HTe.out, HNz.out]; simp, B1.out⟩
                · have c4' : ((N : Int) == 0) = false := by rw [beq_eq_false_iff_ne]; omega
                  have HR : Hid (getC f l k s.data.toList = getC (f - 1) l (P + N + 2) (s ++ t).data.toList) := by
                    show getC f l k _ = _
                    rw [getC_next (by omega) HP0.out (by rw [HN.out]; exact c4), HPe.out, HN.out, HT.out]
                  have hsz : (s ++ t).size = s.size + N := by rw [ByteArray.size_append, HTs.out]
                  have HSz2 := hide hsz
                  clear hsz
                  go_wp2
                  go_roundw
                  case rel => exact ⟨f - 1, P + N + 2, s ++ t, by go_num, rfl, hend, by rw [HSz2.out]; omega, by rw [HSz2.out]; omega, by rw [HG.out, HR.out], Y1.out, B1.out⟩
                  case measure => show 201 - (s ++ t).size < 201 - s.size; rw [HSz2.out]; omega
              · have c3' : (endC l (P + N) != 0) = true := by rw [bne_iff_ne]; exact c3
                have HR : Hid (getC f l k s.data.toList = ([], 0, endC l (P + N))) := getC_bad (by omega) HPl.out c3
                generalize endC l (P + N) = cc at *
                go_wp2
                refine bodyPost_ret (v := .tuple #[.string ⟨#[]⟩, .int .i64 0, .int .i64 cc]) (by simp [results, Tryz.results82, go_sem]) rfl ⟨by rw [HC.out, HG.out, HR.out]; rfl, B1.out⟩
      · have HE := hide (sz3_bad (c := szC l k) rfl hz)
        have HR : Hid (getC f l k s.data.toList = ([], 0, szC l k)) := getC_bad (by omega) (by unfold pieceC; rw [if_pos hz]) hz
        have hzb : (szC l k != 0) = true := by rw [bne_iff_ne]; exact hz
        generalize szC l k = cc at *
        go_wp2_with fail
        refine (HSz.out k _ HY.out hk).mono ?_
        rintro e w1 ⟨rfl, n1, rfl⟩
        rw [HE.out]
        have B1 : Hid (∀ D, Below D w (wr.drewN n1)) := fun D => below_drewN (HBe.out D) n1
        go_wp2
        refine bodyPost_ret (v := .tuple #[.string ⟨#[]⟩, .int .i64 0, .int .i64 cc]) (by simp [results, Tryz.results82, go_sem]) rfl ⟨by rw [HC.out, HG.out, HR.out]; rfl, B1.out⟩
  · have HC : Hid (chunksC l at0 = ([], 0, 400)) := by show chunksC l _ = _; unfold chunksC; rw [if_neg hin]
    have hi : inB at0 0 (l.length : Int) = false := by simp [inB]; omega
    unfold maxLen at hcm
    go_enter Tryz.func82, Tryz.ntmps82
    go_wp2_with (go_at_call 123; refine (l1In_any _ _ _ _).mono ?_; rintro e w' ⟨rfl, hw⟩; obtain rfl := hw.symm; rw [hi])
    refine bodyPost_ret (v := .tuple #[.string ⟨#[]⟩, .int .i64 0, .int .i64 400]) (by simp [results, Tryz.results82, go_sem]) rfl ⟨by rw [HC.out]; rfl, fun D => Below.refl _ _⟩
end Go.Proofs.YtanebchmeaomgaaGreatDoor
