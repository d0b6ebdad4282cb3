/-
  The walk of the law FnAlone: for every code it returns true, and turns nothing that was there.
-/
import Derived.Test.YtmgikfeknmbpbaaLocksOkI
import Derived.Test.YtmgikfeknmbpbaaSpecLocksOk
import Derived.Test.YtmgikfeknmbpbaaTokensI
import Derived.Test.YtmgikfeknmbpbaaMayTop
import Derived.Test.YtmgikfeknmbpbaaIntsV
import Derived.Test.YtmgikfeknmbpbaaBig
import Derived.Test.YtmgikfeknmbpbaaIsRow
namespace Go.Proofs.Ytmgikfeknmbpbaa
open Go.RowKit M
set_option linter.unusedVariables false

theorem FewM.short {k : Nat} {l : List Lk} (h : FewM k l) : ShortK l := fun r hr => by
  have := (h.2 r hr).2.2
  exact ⟨by have := this.1; unfold maxLen; omega, this.short⟩

set_option maxRecDepth 100000 in
set_option maxHeartbeats 16000000 in
theorem FnAlone_walk (a : Option Addr) (len cap : Nat) (zs : List Int) (w : World) (hr : IsRow .u8 w a len cap zs) :
    Calls Try.prog 4 #[.slice a len cap] w fun e w' => e = .returned (.bool true) ∧ Below w.heap.size w w' := by
  have hml := row_len hr
  by_cases hb : (1048576 : Int) < (len : Int)
  · clear hr
    go_enter Try.func4, Try.ntmps4
    go_wp2_with (go_at_call 6; refine (big_any a len cap _ hml).mono ?_; rintro e w1 ⟨rfl, hw⟩; obtain rfl := hw.symm; rw [decide_eq_true hb])
    go_ret
    exact ⟨rfl, Below.refl _ _⟩
  · have HC : Hid (CodeIn w w.heap.size a len zs) := code_of_row hr (by omega)
    clear hr
    go_enter Try.func4, Try.ntmps4
    go_wp2_with (go_at_call 6; refine (big_any a len cap _ hml).mono ?_; rintro e w1 ⟨rfl, hw⟩; obtain rfl := hw.symm; rw [decide_eq_false hb])
    refine (drawLocksOk_any HC.out cap).mono ?_
    rintro e w1 ⟨⟨l, g, n, c, rfl, hf, hn, hc1, hc2, hR⟩, b1⟩
    have HF := hide hf
    have HCC := hide (And.intro hc1 hc2)
    have R1 := hide hR.lks
    have K1 := hide b1
    subst hn
    clear hf hc1 hc2 hR b1
    go_wp2_with fail
    refine (drawTokensAt_any (HC.out.below K1.out) cap).mono ?_
    rintro e w2 ⟨⟨l', g', n', c', ss, p, m, k, rfl, hf', hn', hc1', hc2', hR', hf3, hm, hS, hk1, hk2, hpb⟩, b2⟩
    subst hm
    have HS := hide (show Strs w2 w2.heap.size (some ⟨p, 0, none⟩) ss from hS.strs' hS.1)
    have HKK := hide (And.intro hk1 hk2)
    have HL2 := hide (show Lks w2 w2.heap.size (some ⟨g, 0, none⟩) l from (R1.out.below b2 (Nat.le_refl _)).mono b2.size)
    have K2 := hide (K1.out.trans (b2.mono K1.out.size))
    clear hf' hn' hc1' hc2' hR' hf3 hS hk1 hk2 hpb b2 R1 K1
    have hl6 : l.length ≤ 6 := HF.out.1
    have HOI := hide (fun W (hb : Below w2.heap.size w2 W) => locksOk_any (some ⟨g, 0, none⟩) l c w2.heap.size W (HL2.out.below hb (Nat.le_refl _)) hb.size HF.out.short HCC.out.1 HCC.out.2)
    have HOS := hide (fun W (hb : Below w2.heap.size w2 W) => specLocksOk_any (some ⟨g, 0, none⟩) l c w2.heap.size W (HL2.out.below hb (Nat.le_refl _)) hb.size HF.out.short (Nat.le_trans HCC.out.1 HCC.out.2))
    have HAL := hide (fun (h : locksB l = true) => alone_one (p := ss) h)
    obtain ⟨ok, hok⟩ : ∃ x, locksB l = x := ⟨_, rfl⟩
    rw [hok] at HOI HOS HAL
    clear hok
    have hbb : (ok != ok) = false := by cases ok <;> rfl
    go_wp2_with fail
    refine (HOI.out w2 (Below.refl _ _)).mono ?_
    rintro e w3 ⟨rfl, b3⟩
    have J3 := hide b3
    clear b3
    go_wp2_with fail
    refine (HOS.out w3 J3.out).mono ?_
    rintro e w4 ⟨rfl, b4⟩
    have J4 := hide (J3.out.trans (b4.mono J3.out.size))
    clear b4 J3
    go_wp2_with fail
    refine (HOI.out w4 J4.out).mono ?_
    rintro e w5 ⟨rfl, b5⟩
    have J5 := hide (J4.out.trans (b5.mono J4.out.size))
    clear b5 J4 HOI HOS hbb
    cases ok
    · have HK := hide (K2.out.trans (J5.out.mono K2.out.size))
      go_wp2
      go_ret
      exact ⟨rfl, HK.out⟩
    go_wp2
    go_loopw [6, 7, 8] (fun v u i wr => ∃ (j q : Nat) (al : Bool), j ≤ l.length ∧ i = .int .i64 j ∧ v = .int .i64 q ∧ u = .bool al ∧ q ≤ j ∧ Hid (q = (covL (l.take j) ss).length ∧ al = (covL (l.take j) ss).any (fun x => !x.sh)) ∧ Hid (Below w2.heap.size w2 wr)) (fun _ _ i _ => l.length - (intOf i).toNat)
    case atStart => exact ⟨0, 0, false, Nat.zero_le _, rfl, rfl, rfl, Nat.le_refl _, hide ⟨rfl, rfl⟩, J5⟩
    case round =>
      obtain ⟨j, q, al, hj, rfl, rfl, rfl, hqj, HQ, HJ⟩ := hrel
      by_cases hlt : j < l.length
      · obtain ⟨b0, o0, eb, hb0, hcc⟩ := (HL2.out.below HJ.out (Nat.le_refl _)) (by omega)
        cases eb
        obtain ⟨pa, pc, hat, hin⟩ := hcc j hlt
        rw [Nat.zero_add] at hat
        have hi0 : (0 : Int) ≤ (j : Int) := by omega
        have hi1 : (j : Int) < (l.length : Int) := by omega
        have HX := hide (covL_next l ss j hlt)
        have HCV := hide (covers_any l[j] pa pc (some ⟨p, 0, none⟩) ss k w2.heap.size w2.heap.size wr hin HJ.out.size (HS.out.below HJ.out (Nat.le_refl _)) HJ.out.size HKK.out.1 HKK.out.2)
        have HAT := hide hat
        obtain ⟨r, hr⟩ : ∃ r, l[j] = r := ⟨_, rfl⟩
        rw [hr] at HX HCV HAT hat
        obtain ⟨y0, y1, y2, y3, y4⟩ := hat
        have hzr := HJ.out.size
        clear hcc hin hr
        go_wp2_with fail
        refine HCV.out.mono ?_
        rintro e w6 ⟨rfl, b6⟩
        have HJ6 := hide (HJ.out.trans (b6.mono HJ.out.size))
        have z3 := (HAT.out.of (w' := w6) (fun o' => b6.cell (p := ⟨g, o', none⟩) (by show g < wr.heap.size; omega))).2.2.2.1
        obtain ⟨cv, hcv⟩ : ∃ x, covB r ss = x := ⟨_, rfl⟩
        rw [hcv] at HX ⊢
        clear b6 y0 y1 y2 y3 y4 hcv HAT HCV HJ
        cases cv
        · have HQ2 := hide (show q = (covL (l.take (j + 1)) ss).length ∧ al = (covL (l.take (j + 1)) ss).any (fun x => !x.sh) by rw [HX.out]; exact HQ.out)
          clear HX HQ
          go_wp2
          go_roundw
          case rel => exact ⟨j + 1, q, al, by omega, by go_num, rfl, rfl, by omega, HQ2, HJ6⟩
          case measure => simp [intOf]; omega
        · have HQ2 := hide (show q + 1 = (covL (l.take (j + 1)) ss).length ∧ (al || !r.sh) = (covL (l.take (j + 1)) ss).any (fun x => !x.sh) by
            rw [HX.out, if_pos rfl, List.length_append, List.any_append, ← HQ.out.1, ← HQ.out.2]; simp)
          clear HX HQ
          cases al
          · obtain ⟨sh, hsh⟩ : ∃ x, r.sh = x := ⟨_, rfl⟩
            rw [hsh] at HQ2 z3
            clear hsh
            go_wp2
            go_roundw
            case rel => exact ⟨j + 1, q + 1, !sh, by omega, by go_num, by go_num, by cases sh <;> rfl, by omega, by simpa using HQ2, HJ6⟩
            case measure => simp [intOf]; omega
          · go_wp2
            go_roundw
            case rel => exact ⟨j + 1, q + 1, true, by omega, by go_num, by go_num, rfl, by omega, by simpa using HQ2, HJ6⟩
            case measure => simp [intOf]; omega
      · have hjl : j = l.length := by omega
        subst hjl
        have HQ2 := hide (show q = (covL l ss).length ∧ al = (covL l ss).any (fun x => !x.sh) by have := HQ.out; rw [List.take_length] at this; exact this)
        have HT := hide (fun W (hb : Below w2.heap.size w2 W) => tokensAt_any (some ⟨g, 0, none⟩) l c w2.heap.size (some ⟨p, 0, none⟩) ss k w2.heap.size W (HL2.out.below hb (Nat.le_refl _)) hb.size (HS.out.below hb (Nat.le_refl _)) hb.size HKK.out.1 HKK.out.2 (by omega))
        have HM := hide (fun W (hb : Below w2.heap.size w2 W) (ta : Option Addr) (toks : List Int) (tc D : Nat) (ht : Ints W D ta toks) (hD : D ≤ W.heap.size) (htl : toks.length ≤ 1048576) => mayTurn_any (some ⟨g, 0, none⟩) l c w2.heap.size (some ⟨p, 0, none⟩) ss k w2.heap.size false ta toks tc D W (HL2.out.below hb (Nat.le_refl _)) hb.size (HS.out.below hb (Nat.le_refl _)) hb.size ht hD HKK.out.1 HKK.out.2 (by omega) htl)
        have htq : (tokL l ss).length = q := by rw [tokL_len]; exact HQ2.out.1.symm
        have hone : al = true → q = 1 := fun e => by rw [HQ2.out.1]; exact HAL.out (by trivial) (by rw [← HQ2.out.2]; exact e)
        have HMO := hide (may_own l ss)
        have HMN := hide (show mayB l ss false [] = decide (q = 0) by rw [may_none, HQ2.out.1])
        have HTQ := hide htq
        clear htq HQ HQ2 HAL
        go_wp2_with fail
        refine (HT.out wr HJ.out).mono ?_
        rintro e w7 ⟨⟨r7, rfl, ho7⟩, b7⟩
        obtain ⟨a7, c7, rfl, _, _, _, hi7⟩ := ints_of_view (ho7.vw (Nat.le_refl _))
        rw [HTQ.out]
        have J7 := hide (HJ.out.trans (b7.mono HJ.out.size))
        clear ho7 hi7 b7
        have hal : al = false ∨ (al = true ∧ q = 1) := by cases al; exact .inl rfl; exact .inr ⟨rfl, hone rfl⟩
        clear hone
        rcases hal with rfl | ⟨rfl, rfl⟩
        · go_wp2_with fail
          refine (HT.out w7 J7.out).mono ?_
          rintro e w8 ⟨⟨r8, rfl, ho8⟩, b8⟩
          obtain ⟨a8, c8, rfl, _, _, _, hi8⟩ := ints_of_view (ho8.vw (Nat.le_refl _))
          have J8 := hide (J7.out.trans (b8.mono J7.out.size))
          have HM8 := hide (HM.out w8 J8.out a8 (tokL l ss) c8 _ hi8 (Nat.le_refl _) (by rw [HTQ.out]; omega))
          rw [HMO.out] at HM8
          clear ho8 hi8 b8
          go_wp2_with fail
          refine HM8.out.mono ?_
          rintro e w9 ⟨rfl, b9⟩
          have J9 := hide ((J8.out.trans (b9.mono J8.out.size)).alloc (Nat.le_trans J8.out.size b9.size) (Obj.cells #[] 3))
          have HM9 := hide (HM.out _ J9.out (some ⟨w9.heap.size, 0, none⟩) [] 0 0 (fun h0 => absurd h0 (Nat.lt_irrefl _)) (Nat.zero_le _) (by decide))
          rw [HMN.out] at HM9
          clear b9 HM8
          go_wp2_with fail
          refine HM9.out.mono ?_
          rintro e wx ⟨rfl, bx⟩
          have HK := hide (K2.out.trans ((J9.out.trans (bx.mono J9.out.size)).mono K2.out.size))
          clear bx HM9
          by_cases hq0 : q = 0
          · subst hq0
            go_wp2
            go_ret
            exact ⟨by simp, HK.out⟩
          · have hq1 : ¬ (q : Int) = 0 := by omega
            have hq2 : ((q : Int) == 0) = false := by rw [beq_eq_false_iff_ne]; exact hq1
            go_wp2
            go_ret
            exact ⟨by first | (simp; done) | (simp [hq0]; done) | (simp [hq2]; done), HK.out⟩
        · go_wp2_with fail
          refine (HT.out w7 J7.out).mono ?_
          rintro e w8 ⟨⟨r8, rfl, ho8⟩, b8⟩
          obtain ⟨a8, c8, rfl, _, _, _, hi8⟩ := ints_of_view (ho8.vw (Nat.le_refl _))
          have J8 := hide (J7.out.trans (b8.mono J7.out.size))
          have HM8 := hide (HM.out w8 J8.out a8 (tokL l ss) c8 _ hi8 (Nat.le_refl _) (by rw [HTQ.out]; omega))
          rw [HMO.out] at HM8
          clear ho8 hi8 b8
          go_wp2_with fail
          refine HM8.out.mono ?_
          rintro e w9 ⟨rfl, b9⟩
          have J9 := hide ((J8.out.trans (b9.mono J8.out.size)).alloc (Nat.le_trans J8.out.size b9.size) (Obj.cells #[] 3))
          have HM9 := hide (HM.out _ J9.out (some ⟨w9.heap.size, 0, none⟩) [] 0 0 (fun h0 => absurd h0 (Nat.lt_irrefl _)) (Nat.zero_le _) (by decide))
          rw [HMN.out] at HM9
          clear b9 HM8
          go_wp2_with fail
          refine HM9.out.mono ?_
          rintro e wx ⟨rfl, bx⟩
          have HK := hide (K2.out.trans ((J9.out.trans (bx.mono J9.out.size)).mono K2.out.size))
          clear bx HM9
          go_wp2
          go_ret
          exact ⟨by simp, HK.out⟩
end Go.Proofs.Ytmgikfeknmbpbaa
