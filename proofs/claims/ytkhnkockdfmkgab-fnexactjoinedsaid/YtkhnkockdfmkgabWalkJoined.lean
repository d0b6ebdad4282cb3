/-
  The walk of the law FnExactJoined: for all pieces it returns true, and turns nothing that was there.
-/
import Derived.Test.YtkhnkockdfmkgabJoined
import Derived.Test.YtkhnkockdfmkgabMarkSS
namespace Go.Proofs.Ytkhnkockdfmkgab
open Go.RowKit
set_option linter.unusedVariables false

theorem Within.fresh {lo hi B : Nat} {w w' : World} {v : Value} {l : List UInt8} (h : FreshY w B v l) (hw : Within lo hi w w') (hB : hi ≤ B) : FreshY w' B v l :=
  h.same hw.size (fun k hk hz => hw.block k hz (.inr (by omega)))

set_option maxRecDepth 100000 in
set_option maxHeartbeats 4000000 in
theorem FnExactJoined_walk (a : Option Addr) (ls : List (List UInt8)) (cap : Nat) (hl : ls.length ≤ maxLen) (w : World) (h : Bss w w.heap.size a ls) :
    Calls Try.prog 3 #[.slice a ls.length cap] w fun e w' => e = .returned (.bool true) ∧ Below w.heap.size w w' := by
  have HSz := hide (szByteSS_any a ls cap w.heap.size 1048576 w h hl (Nat.le_refl _))
  have HH := hide h
  clear h
  go_enter Try.func3, Try.ntmps3
  go_wp2_with fail
  refine HSz.out.mono ?_
  rintro e w0 ⟨⟨z, rfl, hz⟩, hw⟩
  obtain rfl := hw.symm
  clear HSz
  rcases hz with hz | ⟨m, rfl, hm⟩
  · go_wp2
    go_ret
    exact ⟨rfl, Below.refl _ _⟩
  · have hn1 : ls.length ≤ 1048576 := by omega
    have hn2 : sumB ls ≤ 1048576 := by omega
    have hn3 : ls.flatten.length ≤ 1048576 := by rw [sumB_flat]; exact hn2
    clear hm
    have HTo := hide (fun (W : World) (hc : Below w.heap.size w W) => toByteSS_any a ls cap w.heap.size W (HH.out.below hc (Nat.le_refl _)) hc.size hn1 hn2)
    have HSp := hide (fun (N hi : Nat) (W : World) (h : NewSS W N hi ls) => specJoined_any (some ⟨N, 0, none⟩) ls ls.length W.heap.size W (h.bss hn2) (Nat.le_refl _) hn1 (by omega))
    have HIm := hide (fun (N hi : Nat) (W : World) (h : NewSS W N hi ls) => joined_any (some ⟨N, 0, none⟩) ls ls.length W.heap.size W (h.bss hn2) (Nat.le_refl _) (Nat.le_refl _) hn1 (by omega))
    have HF := hide (sumB_flat ls)
    obtain ⟨L, hL⟩ : ∃ L, ls.flatten = L := ⟨_, rfl⟩
    rw [hL] at HSp HIm hn3
    clear hL HF
    have hLm : L.length ≤ maxLen := by unfold maxLen; omega
    go_wp2_with fail
    refine (HTo.out w (Below.refl _ _)).mono ?_
    rintro e w1 ⟨rfl, n1, c1⟩
    go_wp2_with fail
    refine (HSp.out _ _ w1 n1).mono ?_
    rintro e w2 ⟨⟨v2, rfl, o2⟩, b2⟩
    obtain ⟨g2, k2, rfl, hg2, hg2', _, _, y2⟩ := o2.byt
    have c2 := c1.trans (b2.mono c1.size)
    have Y2 := hide y2
    clear n1 o2 b2 y2 HSp
    go_wp2_with fail
    refine (HTo.out w2 c2).mono ?_
    rintro e w3 ⟨rfl, n3, b3⟩
    have c3 := c2.trans (b3.mono c2.size)
    have Y3 := hide (Y2.out.below b3 (Nat.le_refl _))
    have N3 := hide n3
    clear Y2 b3 n3 c1
    go_wp2_with fail
    refine (HIm.out _ _ w3 N3.out).mono ?_
    rintro e w4 ⟨⟨v4, rfl, f4⟩, b4⟩
    obtain ⟨a4, k4, hv4, f4a, f4b, f4c, y4⟩ := f4
    subst hv4
    have c4 := c3.trans (b4.mono c3.size)
    have Y4 := hide (Y3.out.below b4 (by have := N3.out.1; have := N3.out.lt; omega))
    have N4 := hide (N3.out.next b4)
    have F4 : Hid (FreshY w4 w3.heap.size (.slice a4 L.length k4) L) := hide ⟨_, _, rfl, f4a, f4b, f4c, y4⟩
    have Z4 := hide b4.size
    have Z3 := hide N3.out.lt
    have Q4 := hide y4
    clear Y3 b4 f4a f4b f4c y4 N3
    go_wp2_with fail
    refine (eqByteS_any _ _ L L _ _ _ _ w4 Q4.out Y4.out hLm hLm).mono ?_
    rintro e w5 ⟨rfl, b5⟩
    rw [sameY_refl]
    have c5 := c4.trans (b5 _)
    have Y5 := hide (Y4.out.below (b5 _) (Nat.le_refl _))
    have N5 := hide (N4.out.next (b5 _))
    have F5 := hide (F4.out.next (b5 _))
    have Z5 := hide (b5 0).size
    clear Y4 N4 F4 Q4 b5
    go_wp2_with fail
    refine (HTo.out w5 c5).mono ?_
    rintro e w6 ⟨rfl, n6, b6⟩
    have c6 := c5.trans (b6.mono c5.size)
    have Y6 := hide (Y5.out.below b6 (by have := Z3.out; have := Z4.out; have := Z5.out; omega))
    have N6 := hide (N5.out.next b6)
    have F6 := hide (F5.out.next b6)
    have M6 := hide (n6.bss hn2)
    have Z6 := hide b6.size
    clear Y5 N5 F5 n6 b6
    go_wp2_with fail
    refine (eqByteSS_same _ _ ls _ _ _ _ w6 (N6.out.bss hn2) M6.out hl).mono ?_
    rintro e w7 ⟨rfl, b7⟩
    have c7 := c6.trans (b7 _)
    have Y7 := hide (Y6.out.below (b7 _) (Nat.le_refl _))
    have N7 := hide (N6.out.next (b7 _))
    have F7 := hide (F6.out.next (b7 _))
    have Z7 := hide (b7 0).size
    clear Y6 N6 F6 M6 b7
    go_wp2_with fail
    refine (markByteSS_any _ _ _ ls w7 N7.out hn1 hn2).mono ?_
    rintro e w8 ⟨rfl, m8⟩
    have zz : w2.heap.size < w3.heap.size ∧ w3.heap.size ≤ w7.heap.size := by have := Z3.out; have := Z4.out; have := Z5.out; have := Z6.out; have := Z7.out; omega
    have b8 := m8.below (by omega)
    have c8 := c7.trans (b8.mono c2.size)
    have Y8 := hide (Y7.out.below b8 (Nat.le_refl _))
    have F8 := hide (Within.fresh F7.out m8 (Nat.le_refl _))
    have Z8 := hide m8.size
    have ZZ := hide zz
    clear Y7 F7 N7 m8 b8 zz
    obtain ⟨a8, k8, hv8, _, _, _, q8⟩ := F8.out
    cases hv8
    have Q8 := hide q8
    clear q8
    have hnn : ¬ (((1 + sumB ls : Nat) : Int) < 0) := by omega
    go_wp2_with fail
    refine (eqByteS_any _ _ L L _ _ _ _ w8 Q8.out Y8.out hLm hLm).mono ?_
    rintro e w9 ⟨rfl, b9⟩
    rw [sameY_refl]
    have c9 := c8.trans (b9 _)
    have Y9 := hide (Y8.out.below (b9 _) (Nat.le_refl _))
    have F9 := hide (F8.out.next (b9 _))
    have Z9 := hide (b9 0).size
    clear Y8 F8 Q8 b9
    go_wp2_with fail
    refine (markY w9 w3.heap.size _ L F9.out (by have := ZZ.out; have := Z8.out; have := Z9.out; omega) (by omega)).mono ?_
    rintro e wa ⟨rfl, ma, ba, _⟩
    have ca := c9.trans (ba.mono c3.size)
    have Ya := hide (Y9.out.below ba (Nat.le_of_lt Z3.out))
    have Ma := hide ma
    have Za := hide ba.size
    clear Y9 F9 ma ba
    go_wp2_with fail
    refine (heldY wa _ L.length Ma.out (by omega)).mono ?_
    rintro e wb ⟨rfl, bb⟩
    have cb := ca.trans (bb _)
    have Yb := hide (Ya.out.below (bb _) (Nat.le_refl _))
    have Mb := hide (Ma.out.next (bb _))
    have Zb := hide (bb 0).size
    clear Ya Ma bb
    have hn4 : ¬ (1 + (L.length : Int) < 0) := by omega
    go_wp2_with fail
    refine (HTo.out wb cb).mono ?_
    rintro e wc ⟨rfl, nc, bc⟩
    have cc := cb.trans (bc.mono cb.size)
    have hzb : w2.heap.size ≤ wb.heap.size := by have := ZZ.out; have := Z8.out; have := Z9.out; have := Za.out; have := Zb.out; omega
    have Yc := hide (Yb.out.below bc hzb)
    have Mc := hide (Mb.out.next bc)
    have Nc := hide nc
    have Zc := hide bc.size
    clear Yb Mb nc bc
    go_wp2_with fail
    refine (HIm.out _ _ wc Nc.out).mono ?_
    rintro e wd ⟨⟨vd, rfl, fd⟩, bd⟩
    obtain ⟨ad, kd, hvd, _, _, _, yd⟩ := fd
    subst hvd
    have cd := cc.trans (bd.mono cc.size)
    have Yd := hide (Yc.out.below bd (Nat.le_trans hzb Zc.out))
    have Md := hide (Mc.out.next bd)
    have Qd := hide yd
    clear Yc Mc Nc bd yd
    go_wp2_with fail
    refine (eqByteS_any _ _ L L _ _ _ _ wd Qd.out Yd.out hLm hLm).mono ?_
    rintro e we ⟨rfl, be⟩
    rw [sameY_refl]
    have ce := cd.trans (be _)
    have Me := hide (Md.out.next (be _))
    clear Yd Md Qd be
    go_wp2_with fail
    refine (heldY we _ L.length Me.out (by omega)).mono ?_
    rintro e wf ⟨rfl, bf⟩
    have cf := ce.trans (bf _)
    clear Me bf
    go_wp2
    go_ret
    exact ⟨rfl, cf⟩
end Go.Proofs.Ytkhnkockdfmkgab
