/-
  The walk of the law FnLocks: for every code it returns true, and turns nothing that was there.
-/
import Derived.Test.YtclnpfpaabmkcaaCoversI
import Derived.Test.YtclnpfpaabmkcaaLocksOkI
import Derived.Test.YtclnpfpaabmkcaaAddI
import Derived.Test.YtclnpfpaabmkcaaIntsV
import Derived.Test.YtclnpfpaabmkcaaIsRow
namespace Go.Proofs.Ytclnpfpaabmkcaa
open Go.RowKit M
set_option linter.unusedVariables false

theorem FewM.short13 {k : Nat} {l : List Lk} (h : FewM k l) : ShortK l := fun r hr => by
  have := (h.2 r hr).2.2
  exact ⟨by have := this.1; unfold maxLen; omega, this.short⟩

set_option maxRecDepth 100000 in
set_option maxHeartbeats 16000000 in
theorem FnLocks_walk (a : Option Addr) (len cap : Nat) (zs : List Int) (w : World) (hr : IsRow .u8 w a len cap zs) :
    Calls Try.prog 3 #[.slice a len cap] w fun e w' => e = .returned (.bool true) ∧ Below w.heap.size w w' := by
  have hml := row_len hr
  by_cases hb : (1048576 : Int) < (len : Int)
  · clear hr
    go_enter Try.func3, Try.ntmps3
    go_wp2_with (go_at_call 4; refine (big_any a len cap _ hml).mono ?_; rintro e w1 ⟨rfl, hw⟩; obtain rfl := hw.symm; rw [decide_eq_true hb])
    go_ret
    exact ⟨rfl, Below.refl _ _⟩
  have HC : Hid (CodeIn w w.heap.size a len zs) := code_of_row hr (by omega)
  clear hr
  go_enter Try.func3, Try.ntmps3
  go_wp2_with (go_at_call 4; refine (big_any a len cap _ hml).mono ?_; rintro e w1 ⟨rfl, hw⟩; obtain rfl := hw.symm; rw [decide_eq_false hb])
  refine (drawAddLock_any HC.out cap).mono ?_
  rintro e w1 ⟨⟨l, g, n, c, x, p, m, k, rfl, hf, hn, hc1, hc2, hR, x1, x2, x3, hm, xr, hk1, hk2⟩, b1⟩
  subst hn hm
  have HF := hide hf
  have hl6 : l.length ≤ 6 := hf.1
  have HXF := hide x3
  have bA := (Below.refl w1.heap.size w1).alloc (Nat.le_refl _) (Obj.cells #[.int .i64 x.tk, .slice (some ⟨p, 0, none⟩) x.pa.length k, .bool x.de, .bool x.sh, .int .i64 x.un] 27)
  obtain ⟨N, hN⟩ : ∃ N, w1.heap.size = N := ⟨_, rfl⟩
  have X2 := hide (BoxV.made w1 [.int .i64 x.tk, .slice (some ⟨p, 0, none⟩) x.pa.length k, .bool x.de, .bool x.sh, .int .i64 x.un] 27)
  have HL2 := hide (((hR.lks.below bA (Nat.le_refl _)).mono bA.size : Lks (w1.alloc (Obj.cells #[.int .i64 x.tk, .slice (some ⟨p, 0, none⟩) x.pa.length k, .bool x.de, .bool x.sh, .int .i64 x.un] 27)) (w1.alloc (Obj.cells #[.int .i64 x.tk, .slice (some ⟨p, 0, none⟩) x.pa.length k, .bool x.de, .bool x.sh, .int .i64 x.un] 27)).heap.size (some ⟨g, 0, none⟩) l))
  have HS2 := hide (show Strs (w1.alloc (Obj.cells #[.int .i64 x.tk, .slice (some ⟨p, 0, none⟩) x.pa.length k, .bool x.de, .bool x.sh, .int .i64 x.un] 27)) (w1.alloc (Obj.cells #[.int .i64 x.tk, .slice (some ⟨p, 0, none⟩) x.pa.length k, .bool x.de, .bool x.sh, .int .i64 x.un] 27)).heap.size (some ⟨p, 0, none⟩) x.pa from ((xr.strs' xr.1).below bA (Nat.le_refl _)).mono bA.size)
  have K2 := hide (b1.trans (bA.mono b1.size))
  obtain ⟨w2, hw2⟩ : ∃ W, w1.alloc (Obj.cells #[.int .i64 x.tk, .slice (some ⟨p, 0, none⟩) x.pa.length k, .bool x.de, .bool x.sh, .int .i64 x.un] 27) = W := ⟨_, rfl⟩
  have HW2 := hide hw2
  rw [hw2] at X2 HL2 HS2 K2
  rw [hN] at X2
  have hNz : N < w2.heap.size := X2.out.1
  have hKK := And.intro hk1 hk2
  have HKK := hide hKK
  have HCC := hide (And.intro hc1 hc2)
  have HNN := hide hN
  clear hf hc1 hc2 hR x3 xr hk1 hk2 b1 bA hN hw2 hKK
  have HX := hide (fun W (hb : Below w2.heap.size w2 W) => (⟨HS2.out.below hb (Nat.le_refl _), HKK.out.1, HKK.out.2, fun e => by cases e⟩ : LkIn W w2.heap.size x (some ⟨p, 0, none⟩) k))
  have HLL := hide (fun W (hb : Below w2.heap.size w2 W) => HL2.out.below hb (Nat.le_refl _))
  have HFX := hide (show FewM 7 (l ++ [x]) from HF.out.snoc (by omega) (by omega) ⟨by have := HXF.out.1; omega, HXF.out.2⟩)
  have HSZ := hide (show ∀ r ∈ l ++ [x], r.pa.length ≤ 1048576 ∧ ∀ s ∈ r.pa, s.size ≤ 281474976710656 from fun r hr => by
    have h1 := (HFX.out.2 r hr).2.2
    exact ⟨by have := h1.1; omega, fun s hs => by have := h1.2 s hs; omega⟩)
  have hnx : (l ++ [x]).length ≤ 7 := HFX.out.1
  have HA := hide (fun W (hb : Below w2.heap.size w2 W) => addLock_any (some ⟨g, 0, none⟩) l c w2.heap.size x (some ⟨p, 0, none⟩) k W (HLL.out W hb) (HX.out W hb) hb.size (by omega) HSZ.out HFX.out.short13)
  have HSA := hide (fun W (hb : Below w2.heap.size w2 W) => specAdd_any (some ⟨g, 0, none⟩) l c w2.heap.size x (some ⟨p, 0, none⟩) k W (HLL.out W hb) (HX.out W hb) hb.size (by omega) (fun e => by cases e) (fun r hr => (HSZ.out r hr).1) HFX.out.short13)
  have HSL := hide (fun (ks : List Lk) (u v : Option Addr) (c1 c2 B C : Nat) (W : World) (h1 : Lks W B u ks) (h2 : Lks W C v ks) (hB : B ≤ W.heap.size) (hC : C ≤ W.heap.size) (hk : ks.length ≤ maxLen) => by
    have h := sameLocks_any u v ks ks c1 c2 B C W h1 h2 hB hC hk hk
    rw [decide_eq_true rfl] at h
    exact h)
  have hl9 : l.length ≤ maxLen := by unfold maxLen; omega
  obtain ⟨ok, hok⟩ : ∃ z, locksB (l ++ [x]) = z := ⟨_, rfl⟩
  cases ok
  · have hal : addL l x = l := by unfold addL; rw [hok]; rfl
    rw [hal, hok] at HA HSA
    clear hok hal
    go_wp2_with fail
    rw [HW2.out, HNN.out]
    refine (HA.out w2 (Below.refl _ _)).mono ?_
    rintro e w3 ⟨⟨ga, rfl, hga, pb, hO⟩, b3⟩
    have HM3 := hide (hO.lks (Nat.le_refl _))
    have J3 := hide b3
    have X3 := hide (X2.out.next b3)
    clear hO b3 HA X2
    have c0 := (X3.out.2 0 _ rfl).1
    have c1 := (X3.out.2 1 _ rfl).1
    have c2 := (X3.out.2 2 _ rfl).1
    have c3 := (X3.out.2 3 _ rfl).1
    have c4 := (X3.out.2 4 _ rfl).1
    go_wp2_with fail
    clear c0 c1 c2 c3 c4
    refine (HSA.out w3 J3.out).mono ?_
    rintro e w4 ⟨⟨gs, ns, cs, rfl, rfl, hcs1, hcs2, hLs⟩, b4⟩
    have HN4 := hide hLs
    have HM4 := hide (HM3.out.below b4 (Nat.le_refl _))
    have J4 := hide (J3.out.trans (b4.mono J3.out.size))
    have z4 := b4.size
    have HQ := hide (HSL.out l (some ⟨ga, 0, none⟩) (some ⟨gs, 0, none⟩) l.length cs w3.heap.size w4.heap.size w4 HM4.out HN4.out z4 (Nat.le_refl _) hl9)
    clear hLs b4 HM3 HN4 X3
    go_wp2_with fail
    refine HQ.out.mono ?_
    rintro e w5 ⟨rfl, b5⟩
    have J5 := hide (J4.out.trans (b5.mono J4.out.size))
    have HM5 := hide (HM4.out.below b5 z4)
    have z5 := b5.size
    have HQ2 := hide (HSL.out l (some ⟨ga, 0, none⟩) (some ⟨g, 0, none⟩) l.length c w3.heap.size w2.heap.size w5 HM5.out (HLL.out w5 J5.out) (by omega) J5.out.size hl9)
    clear b5 HQ HM4
    go_wp2_with fail
    refine HQ2.out.mono ?_
    rintro e w6 ⟨rfl, b6⟩
    have K6 := hide (K2.out.trans ((J5.out.trans (b6.mono J5.out.size)).mono K2.out.size))
    clear b6 HQ2
    go_wp2
    go_ret
    exact ⟨rfl, K6.out⟩
  have hal : addL l x = l ++ [x] := by unfold addL; rw [hok]; rfl
  have hdr := add_drop hok
  have HCL := hide (add_clash hok)
  have htk := add_tok l x
  have hno := add_none l x
  have how := fun hs => add_own hok hs
  rw [hal, hok] at HA HSA
  obtain ⟨m, hm⟩ : ∃ m, l ++ [x] = m := ⟨_, rfl⟩
  rw [hm] at HA HSA HSZ HFX hok hdr htk hno how hnx
  have HDR := hide hdr
  have HTK := hide htk
  have HNO := hide hno
  have HOW := hide how
  have HOK := hide hok
  clear hal hdr htk hno how hok hm
  have hm9 : m.length ≤ maxLen := by unfold maxLen; omega
  go_wp2_with fail
  rw [HW2.out, HNN.out]
  refine (HA.out w2 (Below.refl _ _)).mono ?_
  rintro e w3 ⟨⟨ga, rfl, hga, pb, hO⟩, b3⟩
  have HM3 := hide (hO.lks (Nat.le_refl _))
  have J3 := hide b3
  have X3 := hide (X2.out.next b3)
  clear hO b3 HA X2
  have c0 := (X3.out.2 0 _ rfl).1
  have c1 := (X3.out.2 1 _ rfl).1
  have c2 := (X3.out.2 2 _ rfl).1
  have c3 := (X3.out.2 3 _ rfl).1
  have c4 := (X3.out.2 4 _ rfl).1
  go_wp2_with fail
  clear c0 c1 c2 c3 c4
  refine (HSA.out w3 J3.out).mono ?_
  rintro e w4 ⟨⟨gs, ns, cs, rfl, rfl, hcs1, hcs2, hLs⟩, b4⟩
  have HN4 := hide hLs
  have HM4 := hide ((HM3.out.below b4 (Nat.le_refl _)).mono b4.size)
  have J4 := hide (J3.out.trans (b4.mono J3.out.size))
  have X4 := hide (X3.out.next b4)
  have HQ := hide (HSL.out m (some ⟨ga, 0, none⟩) (some ⟨gs, 0, none⟩) m.length cs w4.heap.size w4.heap.size w4 HM4.out HN4.out (Nat.le_refl _) (Nat.le_refl _) hm9)
  clear hLs b4 HM3 HN4 X3
  go_wp2_with fail
  refine HQ.out.mono ?_
  rintro e w5 ⟨rfl, b5⟩
  have J5 := hide (J4.out.trans (b5.mono J4.out.size))
  have HM5 := hide ((HM4.out.below b5 (Nat.le_refl _)).mono b5.size)
  have X5 := hide (X4.out.next b5)
  clear b5 HQ HM4 X4 J4 J3
  have HD := hide (dropLock_any (some ⟨ga, 0, none⟩) m m.length w5.heap.size x.tk w5 HM5.out (Nat.le_refl _) (by omega) (Nat.le_refl _) hm9 HSZ.out)
  rw [HDR.out.1, HDR.out.2] at HD
  have c0 := (X5.out.2 0 _ rfl).1
  go_wp2_with fail
  clear c0
  refine HD.out.mono ?_
  rintro e w6 ⟨⟨gd, rfl, hgd, pb6, hO6⟩, b6⟩
  have HG6 := hide (hO6.lks (Nat.le_refl _))
  have J6 := hide (J5.out.trans (b6.mono J5.out.size))
  have HM6 := hide ((HM5.out.below b6 (Nat.le_refl _)).mono b6.size)
  have X6 := hide (X5.out.next b6)
  have HL6 := hide (((HLL.out w6 J6.out).mono J6.out.size))
  clear hO6 b6 HD HM5 X5 J5
  go_wp2
  go_loopw [11] (fun i wr => ∃ j : Nat, j ≤ l.length ∧ i = .int .i64 j ∧ Hid (Below w6.heap.size w6 wr)) (fun i _ => l.length - (intOf i).toNat)
  case atStart => exact ⟨0, Nat.zero_le _, rfl, hide (Below.refl _ _)⟩
  case round =>
    obtain ⟨j, hj, rfl, HJ⟩ := hrel
    by_cases hlt : j < l.length
    · have hi0 : (0 : Int) ≤ (j : Int) := by omega
      have hi1 : (j : Int) < (l.length : Int) := by omega
      have hi4 : IntKind.i64.wrap (j : Int) = (j : Int) := by rw [IntKind.wrap_i64]; omega
      have JD := hide (show Below w6.heap.size w6 wr.drew from below_drewG HJ.out)
      obtain ⟨b0, o0, eb, hb0, hcc⟩ := (HL6.out.below JD.out (Nat.le_refl _)) (by omega)
      cases eb
      obtain ⟨pa, pc, hat, hin⟩ := hcc j hlt
      rw [Nat.zero_add] at hat
      have HZ := hide (HCL.out l[j] (List.getElem_mem hlt))
      obtain ⟨r, hr⟩ : ∃ r, l[j] = r := ⟨_, rfl⟩
      rw [hr] at HZ hat hin
      have HC1 := hide (fun W (hb : Below w6.heap.size w6 W) (hd : Below w6.heap.size wr.drew W) => lockClash_any r pa pc x (some ⟨p, 0, none⟩) k w6.heap.size w6.heap.size W ⟨hin.ph.below hd (Nat.le_refl _), hin.pl, hin.pm, hin.pn⟩ hb.size (by
        have q := HX.out W (J6.out.trans (hb.mono J6.out.size))
        exact ⟨q.ph.mono J6.out.size, q.pl, q.pm, q.pn⟩) hb.size)
      have HC2 := hide (fun W (hb : Below w6.heap.size w6 W) (hd : Below w6.heap.size wr.drew W) => lockClash_any x (some ⟨p, 0, none⟩) k r pa pc w6.heap.size w6.heap.size W (by
        have q := HX.out W (J6.out.trans (hb.mono J6.out.size))
        exact ⟨q.ph.mono J6.out.size, q.pl, q.pm, q.pn⟩) hb.size ⟨hin.ph.below hd (Nat.le_refl _), hin.pl, hin.pm, hin.pn⟩ hb.size)
      rw [HZ.out.1] at HC1
      rw [HZ.out.2] at HC2
      have hq1 : g < wr.drew.heap.size := by have := JD.out.size; omega
      have hq2 : N < wr.drew.heap.size := by have h1 := JD.out.size; have h2 := X6.out.1; omega
      have X7 := boxV_keep X6.out JD.out.size (JD.out.block N X6.out.1)
      have HS0 := hide (show (fun W : World => W.cell? ⟨g, j * 5, none⟩ = some (.int .i64 r.tk) ∧ W.cell? ⟨g, j * 5 + 1, none⟩ = some (.slice pa r.pa.length pc) ∧ W.cell? ⟨g, j * 5 + 2, none⟩ = some (.bool r.de) ∧ W.cell? ⟨g, j * 5 + 3, none⟩ = some (.bool r.sh) ∧ W.cell? ⟨g, j * 5 + 4, none⟩ = some (.int .i64 r.un) ∧ W.cell? ⟨N, 0, none⟩ = some (.int .i64 x.tk) ∧ W.cell? ⟨N, 1, none⟩ = some (.slice (some ⟨p, 0, none⟩) x.pa.length k) ∧ W.cell? ⟨N, 2, none⟩ = some (.bool x.de) ∧ W.cell? ⟨N, 3, none⟩ = some (.bool x.sh) ∧ W.cell? ⟨N, 4, none⟩ = some (.int .i64 x.un)) wr.drew from ⟨hat.1, hat.2.1, hat.2.2.1, hat.2.2.2.1, hat.2.2.2.2, (X7.2 0 _ rfl).1, (X7.2 1 _ rfl).1, (X7.2 2 _ rfl).1, (X7.2 3 _ rfl).1, (X7.2 4 _ rfl).1⟩)
      clear hat hin hcc X7 HJ HZ hr
      go_wp2
      refine wp_region_held_drew (S := (fun W => W.cell? ⟨g, j * 5, none⟩ = some (.int .i64 r.tk) ∧ W.cell? ⟨g, j * 5 + 1, none⟩ = some (.slice pa r.pa.length pc) ∧ W.cell? ⟨g, j * 5 + 2, none⟩ = some (.bool r.de) ∧ W.cell? ⟨g, j * 5 + 3, none⟩ = some (.bool r.sh) ∧ W.cell? ⟨g, j * 5 + 4, none⟩ = some (.int .i64 r.un) ∧ W.cell? ⟨N, 0, none⟩ = some (.int .i64 x.tk) ∧ W.cell? ⟨N, 1, none⟩ = some (.slice (some ⟨p, 0, none⟩) x.pa.length k) ∧ W.cell? ⟨N, 2, none⟩ = some (.bool x.de) ∧ W.cell? ⟨N, 3, none⟩ = some (.bool x.sh) ∧ W.cell? ⟨N, 4, none⟩ = some (.int .i64 x.un))) (by kernel_rfl) HS0.out (fun hHeld => ?_)
      clear hHeld
      obtain ⟨wd, hwd⟩ : ∃ X, wr.drew = X := ⟨_, rfl⟩
      rw [hwd] at JD HC1 HC2 hq1 hq2 HS0 ⊢
      clear hwd
      have hHeld := HS0.out
      simp only [List.size_toArray, List.length_cons, List.length_nil, Nat.reduceAdd, Array.replicate_succ, Array.replicate_zero, List.push_toArray, List.nil_append, List.cons_append]
      refine wpAnyH_take (i := 0) (v := ?_) rfl (by kernel_rfl) (by kernel_rfl) (by kernel_rfl) (fun _ _ _ h => h) (Or.inl ⟨by rfl, ?_⟩) (by assumption) ?_
      rotate_left
      · intro w hSw; (try dsimp only at hSw); go_simp; try with_reducible rfl
      simp only [Act.put, List.getElem_toArray, List.getElem_cons_zero, List.setIfInBounds_toArray, List.set_cons_zero]
      refine wpAnyH_take (i := 1) (v := ?_) rfl (by kernel_rfl) (by kernel_rfl) (by kernel_rfl) (fun _ _ _ h => h) (Or.inl ⟨by rfl, ?_⟩) (by assumption) ?_
      rotate_left
      · intro w hSw; (try dsimp only at hSw); go_simp; try with_reducible rfl
      simp only [Act.put, List.getElem_toArray, List.getElem_cons_succ, List.getElem_cons_zero, List.setIfInBounds_toArray, List.set_cons_succ, List.set_cons_zero]
      refine wpAnyH_take (i := 2) (v := ?_) rfl (by kernel_rfl) (by kernel_rfl) (by kernel_rfl) (fun _ _ _ h => h) (Or.inl ⟨by rfl, ?_⟩) (by assumption) ?_
      rotate_left
      · intro w hSw; (try dsimp only at hSw); go_simp; try with_reducible rfl
      simp only [Act.put, List.getElem_toArray, List.getElem_cons_succ, List.getElem_cons_zero, List.setIfInBounds_toArray, List.set_cons_succ, List.set_cons_zero]
      refine wpAnyH_take (i := 3) (v := ?_) rfl (by kernel_rfl) (by kernel_rfl) (by kernel_rfl) (fun _ _ _ h => h) (Or.inl ⟨by rfl, ?_⟩) (by assumption) ?_
      rotate_left
      · intro w hSw; (try dsimp only at hSw); go_simp; try with_reducible rfl
      simp only [Act.put, List.getElem_toArray, List.getElem_cons_succ, List.getElem_cons_zero, List.setIfInBounds_toArray, List.set_cons_succ, List.set_cons_zero]
      refine wpAnyH_take (i := 4) (v := ?_) rfl (by kernel_rfl) (by kernel_rfl) (by kernel_rfl) (fun _ _ _ h => h) (Or.inl ⟨by rfl, ?_⟩) (by assumption) ?_
      rotate_left
      · intro w hSw; (try dsimp only at hSw); go_simp; try with_reducible rfl
      simp only [Act.put, List.getElem_toArray, List.getElem_cons_succ, List.getElem_cons_zero, List.setIfInBounds_toArray, List.set_cons_succ, List.set_cons_zero]
      refine wpAnyH_ready (rs := [5]) (by kernel_rfl) (by simp) ?_
      refine AllReadyH.cons rfl (fun K hK => ?_) AllReadyH.nil
      go_simp
      refine (HC1.out wd JD.out (Below.refl _ _)).mono ?_
      rintro e wc1 ⟨rfl, bc1⟩
      have HS1 := hide (keep10 bc1 hq1 hq2 HS0.out)
      have JC1 := hide (JD.out.trans (bc1.mono JD.out.size))
      have hq1' : g < wc1.heap.size := Nat.lt_of_lt_of_le hq1 bc1.size
      have hq2' : N < wc1.heap.size := Nat.lt_of_lt_of_le hq2 bc1.size
      have bwc1 := hide (bc1.mono (by have := JD.out.size; omega) : Below w6.heap.size wd wc1)
      clear bc1 JD
      refine hK.out _ _ HS1.out (fun hHeld2 => ?_)
      clear hK K hHeld
      have hHeld := hHeld2
      clear hHeld2
      simp only [List.setIfInBounds_toArray, List.set_cons_succ, List.set_cons_zero]
      refine wpAnyH_take (i := 6) (v := ?_) rfl (by kernel_rfl) (by kernel_rfl) (by kernel_rfl) (fun _ _ _ h => h) (Or.inl ⟨by rfl, ?_⟩) (by assumption) ?_
      rotate_left
      · intro w hSw; (try dsimp only at hSw); go_simp; try with_reducible rfl
      simp only [Act.put, List.getElem_toArray, List.getElem_cons_succ, List.getElem_cons_zero, List.setIfInBounds_toArray, List.set_cons_succ, List.set_cons_zero]
      refine wpAnyH_take (i := 7) (v := ?_) rfl (by kernel_rfl) (by kernel_rfl) (by kernel_rfl) (fun _ _ _ h => h) (Or.inl ⟨by rfl, ?_⟩) (by assumption) ?_
      rotate_left
      · intro w hSw; (try dsimp only at hSw); go_simp; try with_reducible rfl
      simp only [Act.put, List.getElem_toArray, List.getElem_cons_succ, List.getElem_cons_zero, List.setIfInBounds_toArray, List.set_cons_succ, List.set_cons_zero]
      refine wpAnyH_take (i := 8) (v := ?_) rfl (by kernel_rfl) (by kernel_rfl) (by kernel_rfl) (fun _ _ _ h => h) (Or.inl ⟨by rfl, ?_⟩) (by assumption) ?_
      rotate_left
      · intro w hSw; (try dsimp only at hSw); go_simp; try with_reducible rfl
      simp only [Act.put, List.getElem_toArray, List.getElem_cons_succ, List.getElem_cons_zero, List.setIfInBounds_toArray, List.set_cons_succ, List.set_cons_zero]
      refine wpAnyH_take (i := 9) (v := ?_) rfl (by kernel_rfl) (by kernel_rfl) (by kernel_rfl) (fun _ _ _ h => h) (Or.inl ⟨by rfl, ?_⟩) (by assumption) ?_
      rotate_left
      · intro w hSw; (try dsimp only at hSw); go_simp; try with_reducible rfl
      simp only [Act.put, List.getElem_toArray, List.getElem_cons_succ, List.getElem_cons_zero, List.setIfInBounds_toArray, List.set_cons_succ, List.set_cons_zero]
      refine wpAnyH_take (i := 10) (v := ?_) rfl (by kernel_rfl) (by kernel_rfl) (by kernel_rfl) (fun _ _ _ h => h) (Or.inl ⟨by rfl, ?_⟩) (by assumption) ?_
      rotate_left
      · intro w hSw; (try dsimp only at hSw); go_simp; try with_reducible rfl
      simp only [Act.put, List.getElem_toArray, List.getElem_cons_succ, List.getElem_cons_zero, List.setIfInBounds_toArray, List.set_cons_succ, List.set_cons_zero]
      refine wpAnyH_take (i := 11) (v := ?_) rfl (by kernel_rfl) (by kernel_rfl) (by kernel_rfl) (fun _ _ _ h => h) (Or.inl ⟨by rfl, ?_⟩) (by assumption) ?_
      rotate_left
      · intro w hSw; (try dsimp only at hSw); go_simp; try with_reducible rfl
      simp only [Act.put, List.getElem_toArray, List.getElem_cons_succ, List.getElem_cons_zero, List.setIfInBounds_toArray, List.set_cons_succ, List.set_cons_zero]
      refine wpAnyH_ready (rs := [12]) (by kernel_rfl) (by simp) ?_
      refine AllReadyH.cons rfl (fun K hK => ?_) AllReadyH.nil
      go_simp
      refine (HC2.out wc1 JC1.out bwc1.out).mono ?_
      rintro e wc2 ⟨rfl, bc2⟩
      have HS2 := hide (keep10 bc2 hq1' hq2' HS1.out)
      have JC2 := hide (JC1.out.trans (bc2.mono JC1.out.size))
      clear bc2 JC1
      refine hK.out _ _ HS2.out (fun hHeld2 => ?_)
      clear hK K hHeld
      have hHeld := hHeld2
      clear hHeld2
      simp only [List.setIfInBounds_toArray, List.set_cons_succ, List.set_cons_zero]
      refine wpAnyH_take (i := 13) (v := ?_) rfl (by kernel_rfl) (by kernel_rfl) (by kernel_rfl) (fun _ _ _ h => h) (Or.inl ⟨by rfl, ?_⟩) (by assumption) ?_
      rotate_left
      · intro w hSw; (try dsimp only at hSw); go_simp; try with_reducible rfl
      simp only [Act.put, List.getElem_toArray, List.getElem_cons_succ, List.getElem_cons_zero, List.setIfInBounds_toArray, List.set_cons_succ, List.set_cons_zero]
      refine wpAnyH_done (by kernel_rfl) ?_ _
      clear hHeld
      go_wp2
      go_roundw
      case rel => exact ⟨j + 1, by omega, by go_num, JC2⟩
      case measure => simp [intOf]; omega
    · have hjl : j = l.length := by omega
      subst hjl
      have X7 := hide (boxV_keep X6.out HJ.out.size (HJ.out.block N X6.out.1))
      have J7 := hide (J6.out.trans (HJ.out.mono J6.out.size))
      have HM7 := hide ((HM6.out.below HJ.out (Nat.le_refl _)).mono HJ.out.size)
      have HG7 := hide ((HG6.out.below HJ.out (Nat.le_refl _)).mono HJ.out.size)
      have HS7 := hide (fun W (hb : Below w2.heap.size w2 W) => HS2.out.below hb (Nat.le_refl _))
      have HT := hide (tokensAt_any (some ⟨ga, 0, none⟩) m m.length wr.heap.size (some ⟨p, 0, none⟩) x.pa k w2.heap.size wr HM7.out (Nat.le_refl _) (HS7.out wr J7.out) J7.out.size HKK.out.1 HKK.out.2 (by omega))
      clear HJ X6 J6 HM6 HG6 HL6
      have c1 := (X7.out.2 1 _ rfl).1
      go_wp2_with fail
      clear c1
      refine HT.out.mono ?_
      rintro e w8 ⟨⟨r8, rfl, ho8⟩, b8⟩
      obtain ⟨a8, c8, rfl, h81, h82, h83, hi8⟩ := ints_of_view (ho8.vw (Nat.le_refl _))
      have X8 := hide (X7.out.next b8)
      have J8 := hide (J7.out.trans (b8.mono J7.out.size))
      have HM8 := hide ((HM7.out.below b8 (Nat.le_refl _)).mono b8.size)
      have HG8 := hide ((HG7.out.below b8 (Nat.le_refl _)).mono b8.size)
      have HI8 := hide hi8
      obtain ⟨tk, htk⟩ : ∃ t, tokL m x.pa = t := ⟨_, rfl⟩
      rw [htk] at HI8 HTK h81 ⊢
      have hmx : c8 ≤ 9223372036854775807 := by unfold maxLen at h82; omega
      clear ho8 hi8 b8 HT X7 J7 HM7 HG7 htk h82 h83
      go_wp2
      go_loopw [12, 14] (fun v i wr => ∃ q n : Nat, q ≤ tk.length ∧ i = .int .i64 q ∧ v = .bool ((tk.take q).any (· == x.tk)) ∧ wr = w8.drewN n) (fun _ i _ => tk.length - (intOf i).toNat)
      case atStart => exact ⟨0, 0, Nat.zero_le _, rfl, rfl, rfl⟩
      case round =>
        obtain ⟨q, n, hq, rfl, rfl, rfl⟩ := hrel
        by_cases hlt : q < tk.length
        · obtain ⟨b1, o1, eb, hb1, hcc⟩ := HI8.out (by omega)
          subst eb
          have hcx := hcc q hlt
          have c0 := (X8.out.2 0 _ rfl).1
          have hst : (tk.take (q + 1)).any (· == x.tk) = ((tk.take q).any (· == x.tk) || (tk[q] == x.tk)) := by rw [List.take_succ_eq_append_getElem hlt, List.any_append]; simp
          have HST := hide hst
          obtain ⟨z, hz⟩ : ∃ z, (tk.take q).any (· == x.tk) = z := ⟨_, rfl⟩
          rw [hz] at HST ⊢
          clear hcc hst hz
          cases z
          · obtain ⟨y, hy⟩ : ∃ y, (tk[q] == x.tk) = y := ⟨_, rfl⟩
            rw [hy] at HST
            go_wp2
            go_quiet (fail)
            go_wp2
            go_roundw
            case rel => exact ⟨q + 1, n + nq, by omega, by go_num, by rw [HST.out]; simp_all, by simp⟩
            case measure => simp [intOf]; omega
          · go_wp2
            go_quiet (fail)
            go_wp2
            go_roundw
            case rel => exact ⟨q + 1, n + nq, by omega, by go_num, by rw [HST.out]; rfl, by simp⟩
            case measure => simp [intOf]; omega
        · have hql : q = tk.length := by omega
          subst hql
          rw [List.take_length, HTK.out]
          have bD : Below w8.heap.size w8 (w8.drewN n) := below_drewN (Below.refl _ _) n
          have X9 := hide (X8.out.next bD)
          have J9 := hide (J8.out.trans (bD.mono J8.out.size))
          have HM9 := hide ((HM8.out.below bD (Nat.le_refl _)).mono bD.size)
          have HG9 := hide ((HG8.out.below bD (Nat.le_refl _)).mono bD.size)
          obtain ⟨w9, hw9⟩ : ∃ W, w8.drewN n = W := ⟨_, rfl⟩
          rw [hw9] at X9 J9 HM9 HG9 ⊢
          have HQ9 := hide (HSL.out l (some ⟨gd, 0, none⟩) (some ⟨g, 0, none⟩) l.length c w9.heap.size w2.heap.size w9 HG9.out (HLL.out w9 J9.out) (Nat.le_refl _) J9.out.size hl9)
          clear hw9 bD X8 J8 HM8 HG8
          go_wp2_with fail
          refine HQ9.out.mono ?_
          rintro e w10 ⟨rfl, b10⟩
          have X10 := hide (X9.out.next b10)
          have J10 := hide (J9.out.trans (b10.mono J9.out.size))
          have HM10 := hide ((HM9.out.below b10 (Nat.le_refl _)).mono b10.size)
          have HO10 := hide (locksOk_any (some ⟨ga, 0, none⟩) m m.length w10.heap.size w10 HM10.out (Nat.le_refl _) HFX.out.short13 (Nat.le_refl _) hm9)
          rw [HOK.out] at HO10
          clear b10 X9 J9 HM9 HG9 HQ9
          go_wp2_with fail
          refine HO10.out.mono ?_
          rintro e w11 ⟨rfl, b11⟩
          have bE := b11.trans (((Below.refl w11.heap.size w11).alloc (Nat.le_refl _) (Obj.cells #[] 3)).mono b11.size)
          have X11 := hide (X10.out.next bE)
          have J11 := hide (J10.out.trans (bE.mono J10.out.size))
          have HM11 := hide ((HM10.out.below bE (Nat.le_refl _)).mono bE.size)
          have HMY := hide (fun W (hb : Below w2.heap.size w2 W) (hm : Lks W W.heap.size (some ⟨ga, 0, none⟩) m) (ta : Option Addr) (toks : List Int) (tc D : Nat) (ht : Ints W D ta toks) (hD : D ≤ W.heap.size) (htl : toks.length ≤ 1048576) => mayTurn_any (some ⟨ga, 0, none⟩) m m.length W.heap.size (some ⟨p, 0, none⟩) x.pa k w2.heap.size false ta toks tc D W hm (Nat.le_refl _) (HS7.out W hb) hb.size ht hD HKK.out.1 HKK.out.2 (by omega) htl)
          have HMN := hide (HMY.out _ J11.out HM11.out (some ⟨w11.heap.size, 0, none⟩) [] 0 0 (fun h0 => absurd h0 (Nat.lt_irrefl _)) (Nat.zero_le _) (by decide))
          rw [HNO.out] at HMN
          have c1 := ((X10.out.next b11).2 1 _ rfl).1
          clear b11 bE X10 J10 HM10 HO10
          go_wp2_with fail
          clear c1
          refine HMN.out.mono ?_
          rintro e w12 ⟨rfl, b12⟩
          have X12 := hide (X11.out.next b12)
          have J12 := hide (J11.out.trans (b12.mono J11.out.size))
          have HM12 := hide ((HM11.out.below b12 (Nat.le_refl _)).mono b12.size)
          clear b12 X11 J11 HM11 HMN
          have c0 := (X12.out.2 0 _ rfl).1
          have c1 := (X12.out.2 1 _ rfl).1
          have c3 := (X12.out.2 3 _ rfl).1
          obtain ⟨sh, hsh⟩ : ∃ z, x.sh = z := ⟨_, rfl⟩
          rw [hsh] at c3 HOW
          cases sh
          · have bF := (Below.refl w12.heap.size w12).alloc (Nat.le_refl _) (Obj.cells #[.int .i64 x.tk] 3)
            have J13 := hide (J12.out.trans (bF.mono J12.out.size))
            have HM13 := hide ((HM12.out.below bF (Nat.le_refl _)).mono bF.size)
            have HME := hide (HMY.out _ J13.out HM13.out (some ⟨w12.heap.size, 0, none⟩) [x.tk] 1 (w12.heap.size + 1) (fun h0 => ⟨w12.heap.size, 0, rfl, Nat.lt_succ_self _, fun j hj => by
              have : j = 0 := by simpa using hj
              subst this
              simp⟩) (by simp) (by simp))
            rw [HOW.out rfl] at HME
            clear bF HM13
            go_wp2_with fail
            refine HME.out.mono ?_
            rintro e w14 ⟨rfl, b14⟩
            have K14 := hide (K2.out.trans ((J13.out.trans (b14.mono J13.out.size)).mono K2.out.size))
            clear b14
            go_wp2
            go_ret
            exact ⟨rfl, K14.out⟩
          · have K14 := hide (K2.out.trans (J12.out.mono K2.out.size))
            go_wp2
            go_ret
            exact ⟨rfl, K14.out⟩
end Go.Proofs.Ytclnpfpaabmkcaa
