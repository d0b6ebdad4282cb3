/-
  The walk of the law FnExactFeedAll: for all pieces it returns true, and turns nothing that was there.
  Slices of slices of bytes as the row hands them in.
  The wrap of a row that lists variables, with the world's shape handed on.
-/
import Derived.Test.YtkhnkockdfmkgabGreatDoorWalkFeed
import Derived.Test.YtkhnkockdfmkgabGreatDoorSpecFeedAll
import Derived.Test.YtkhnkockdfmkgabGreatDoorBytss
import Derived.Test.YtkhnkockdfmkgabGreatDoorIsByt
import Derived.Deep.Matrix
import Derived.Test.YtkhnkockdfmkgabGreatDoorRows
import Derived.HandedShaped
import Derived.Handed
namespace Go.Proofs.YtkhnkockdfmkgabGreatDoor
open Go.RowKit M
set_option linter.unusedVariables false

set_option maxRecDepth 100000 in
set_option maxHeartbeats 8000000 in
theorem FnExactFeedAll_walk (a : Option Addr) (ls : List (List UInt8)) (cap : Nat) (hl : ls.length ≤ maxLen) (w : World) (h : Bss w w.heap.size a ls) (hL : laidMet Tryz.prog Rows.fnExactFeedAllRow.laid w) (mx : Int) (hmx : w.cell? ⟨0, 0, none⟩ = some (.int .i64 mx)) :
    Calls Tryz.prog 4 #[.slice a ls.length cap] w fun e w' => e = .returned (.bool true) ∧ Below w.heap.size w w' := by
  clear hL
  have h0 : 0 < w.heap.size := World.block_lt_of_cell? w _ hmx
  have HSz := hide (szByteSS_any a ls cap w.heap.size 1048576 w h hl (Nat.le_refl _))
  have HH := hide h
  have HM := hide (fun (W : World) (hb : Below w.heap.size w W) => (hb.cell (p := ⟨0, 0, none⟩) h0).trans hmx)
  clear h hmx
  go_enter Tryz.func4, Tryz.ntmps4
  go_wp2_with fail
  refine HSz.out.mono ?_
  rintro e w0 ⟨⟨z, rfl, hz⟩, hw⟩
  obtain rfl := hw.symm
  clear HSz
  rcases hz with hz | ⟨z2, rfl, hz2⟩
  · go_wp2
    go_ret
    exact ⟨rfl, Below.refl _ _⟩
  have hn1 : ls.length ≤ 1048576 := by omega
  have hn2 : sumB ls ≤ 1048576 := by omega
  clear hz2
  have HTo := hide (fun (W : World) (hc : Below w.heap.size w W) => toByteSS_any a ls cap w.heap.size W (HH.out.below hc (Nat.le_refl _)) hc.size hn1 hn2)
  have HSp := hide (fun (N hi : Nat) (W : World) (k1 : NewSS W N hi ls) => specFeedAll_any (some ⟨N, 0, none⟩) ls ls.length W (k1.bss hn2) hn1 (by omega))
  have HIm := hide (fun (N hi : Nat) (W : World) (k1 : NewSS W N hi ls) (hc : Below w.heap.size w W) => feedAllI_any (some ⟨N, 0, none⟩) ls ls.length mx W (k1.bss hn2) hn1 (by omega) (Nat.lt_of_lt_of_le h0 hc.size) (HM.out W hc))
  have hcnt := (feedsM_all ls [] 0).2
  have h8 := heads8 (feedsM_all ls [] 0).1
  simp only [List.length_nil, Nat.zero_add] at hcnt
  rw [sumB_flat] at hcnt
  obtain ⟨rs, buf, bd, hD⟩ : ∃ rs buf bd, feedsM ls [] 0 = (rs, buf, bd) := ⟨_, _, _, rfl⟩
  rw [hD] at HSp HIm hcnt h8
  have hcnt' : rs.length + buf.length ≤ 1048576 := Nat.le_trans hcnt hn2
  have H8 : Hid (∀ r ∈ rs, r.hs.length ≤ 8) := h8
  have hrm : rs.length ≤ maxLen := by unfold maxLen; omega
  have hbm : buf.length ≤ maxLen := by unfold maxLen; omega
  have H8m : Hid (∀ r ∈ rs, r.hs.length ≤ maxLen) := hide (fun r hr => Nat.le_trans (H8.out r hr) (by decide))
  clear hD hcnt h8
  -- the specification's
  go_wp2_with fail
  refine (HTo.out w (Below.refl _ _)).mono ?_
  rintro e w2 ⟨rfl, n2, c2⟩
  have C2 := hide c2
  have N2 := hide n2
  clear n2 c2
  go_wp2_with fail
  refine (HSp.out _ _ w2 N2.out).mono ?_
  rintro e w3 ⟨⟨aw, cw, aq, cq, rfl, yw, rq3⟩, b3⟩
  have c3 := C2.out.trans (b3.mono C2.out.size)
  obtain ⟨w3b, hw3b⟩ : ∃ w3b, w3.alloc (Obj.cells #[.slice aw buf.length cw, .int .i64 bd] 26) = w3b := ⟨_, rfl⟩
  have bx3 : Below w3.heap.size w3 w3b := by rw [← hw3b]; exact (Below.refl _ _).alloc (Nat.le_refl _) _
  have BW3 : Hid (BoxW w3b w3.heap.size (.slice aw buf.length cw) bd) := by rw [← hw3b]; exact BoxW.made w3 _ _
  have s3 : w3.heap.size < w3b.heap.size := by rw [← hw3b]; simp
  have YW := hide (yw.below bx3 (Nat.le_refl _))
  have RW := hide (rq3.below bx3 (Nat.le_refl _))
  have C3 := hide (c3.trans (bx3.mono c3.size))
  have C3s := hide C3.out.size
  clear C2 N2 yw rq3 b3 c3 bx3 HSp
  -- x0
  go_wp2_with fail
  refine (HTo.out w3b C3.out).mono ?_
  rintro e w5 ⟨rfl, n5, b5⟩
  have zz5 := b5.size
  have C5 := hide (C3.out.trans (b5.mono C3.out.size))
  have N5x := hide n5
  have BW5 := hide (BW3.out.next b5)
  have YW5 := hide (YW.out.below b5 (Nat.le_of_lt s3))
  have RW5 := hide (RW.out.below b5 (Nat.le_of_lt s3))
  clear hw3b n5 b5 BW3 YW RW C3
  -- the program's
  go_wp2_with fail
  refine (HIm.out _ _ w5 N5x.out C5.out).mono ?_
  rintro e w6 ⟨hf6, b6⟩
  obtain ⟨bv, qv, qs, rfl, f6, r6, e6, p6, h86⟩ := hf6.heads H8.out
  obtain ⟨ab, cb, rfl, yb6⟩ := f6.byt
  obtain ⟨ag, cg, rfl, _⟩ := r6.rq e6
  have e6' : qs.map Prod.fst = rs := e6
  have hql : qs.length = rs.length := by have := congrArg List.length e6'; rwa [List.length_map] at this
  obtain ⟨w6b, hw6b⟩ : ∃ w6b, w6.alloc (Obj.cells #[.slice ab buf.length cb, .int .i64 bd] 26) = w6b := ⟨_, rfl⟩
  have bx6 : Below w6.heap.size w6 w6b := by rw [← hw6b]; exact (Below.refl _ _).alloc (Nat.le_refl _) _
  have BG6 : Hid (BoxW w6b w6.heap.size (.slice ab buf.length cb) bd) := by rw [← hw6b]; exact BoxW.made w6 _ _
  have s6 : w6.heap.size < w6b.heap.size := by rw [← hw6b]; simp
  have zz6 := b6.size
  have bb6 := b6.trans (bx6.mono b6.size)
  have C6 := hide (C5.out.trans (bb6.mono C5.out.size))
  have N6x := hide (N5x.out.next bb6)
  have BW6 := hide (BW5.out.next bb6)
  have YW6 := hide (YW5.out.below bb6 (by omega))
  have RW6 := hide (RW5.out.below bb6 (by omega))
  have HBv : Hid (∀ g, 0 < buf.length → (Value.slice ab buf.length cb).ownBlock = some g → g < w6.heap.size) := hide (fun g h0 hg => by
    obtain ⟨_, _, e, _, _, q3, _⟩ := f6
    cases e
    obtain ⟨g', e', _, hr'⟩ := q3 h0
    subst e'
    have e'' : g' = g := Option.some.inj hg
    subst e''
    exact hr'.1)
  have HRl : Hid (∀ g, ((Value.slice ag rs.length cg).ownBlock = some g ∨ ∃ q ∈ qs, q.2.ownBlock = some g) → g < w6.heap.size) := hide (fun g hg => (r6.lt g hg).2)
  have F6 := hide (f6.next bx6)
  have R6 := hide (r6.next bx6)
  have E6 := hide e6'
  have P6 : Hid (∀ g, 0 < buf.length → (Value.slice ab buf.length cb).ownBlock = some g → (Value.slice ag rs.length cg).ownBlock ≠ some g ∧ ∀ q ∈ qs, q.2.ownBlock ≠ some g) := hide p6
  have H86 := hide h86
  have hmk := marksQ_bd qs h86
  clear hf6 f6 r6 e6 e6' p6 h86 yb6 b6 bx6 bb6 N5x BW5 YW5 RW5 C5
  obtain ⟨x6, x6'⟩ := BG6.out.cells
  obtain ⟨y6, y6'⟩ := BW6.out.cells
  obtain ⟨ab', cb', e1, yb⟩ := F6.out.byt
  cases e1
  obtain ⟨ag', cg', e2, rg⟩ := R6.out.rq E6.out
  cases e2
  go_wp2_with fail
  refine (eqWire_same _ _ buf bd _ _ _ _ w6b yb YW6.out (Nat.le_refl _) (by omega) hbm).mono ?_
  rintro e w7 ⟨rfl, b7⟩
  have hw7 := b7.size
  have C7 := hide (C6.out.trans (b7.mono C6.out.size))
  have N7x := hide (N6x.out.next b7)
  have BW7 := hide (BW6.out.next b7)
  have BG7 := hide (BG6.out.next b7)
  have YW7 := hide (YW6.out.below b7 (by omega))
  have RW7 := hide (RW6.out.below b7 (by omega))
  have F7 := hide (F6.out.next b7)
  have R7 := hide (R6.out.next b7)
  have rg7 := rg.next b7
  clear hw6b b7 N6x BW6 BG6 YW6 RW6 F6 R6 C6 yb rg x6 x6' y6 y6'
  go_wp2_with fail
  refine (eqReqS_same _ _ rs _ _ _ _ w7 rg7 RW7.out (Nat.le_refl _) (by omega) hrm H8m.out).mono ?_
  rintro e w8 ⟨rfl, b8⟩
  have hw8 := b8.size
  have C8 := hide (C7.out.trans (b8.mono C7.out.size))
  have N8x := hide (N7x.out.next b8)
  have BW8 := hide (BW7.out.next b8)
  have BG8 := hide (BG7.out.next b8)
  have YW8 := hide (YW7.out.below b8 (by omega))
  have RW8 := hide (RW7.out.below b8 (by omega))
  have F8 := hide (F7.out.next b8)
  have R8 := hide (R7.out.next b8)
  clear b8 N7x BW7 BG7 YW7 RW7 F7 R7 C7 rg7
  go_wp2_with fail
  refine (HTo.out w8 C8.out).mono ?_
  rintro e w11 ⟨rfl, n11, b11⟩
  have hw11 := b11.size
  have C11 := hide (C8.out.trans (b11.mono C8.out.size))
  have N11x := hide (N8x.out.next b11)
  have BW11 := hide (BW8.out.next b11)
  have BG11 := hide (BG8.out.next b11)
  have YW11 := hide (YW8.out.below b11 (by omega))
  have RW11 := hide (RW8.out.below b11 (by omega))
  have F11 := hide (F8.out.next b11)
  have R11 := hide (R8.out.next b11)
  clear N8x BW8 BG8 YW8 RW8 F8 R8 C8
  have Y11 := hide (n11.bss hn2)
  clear n11 b11
  go_wp2_with fail
  refine (eqByteSS_same _ _ ls _ _ _ _ w11 (N11x.out.bss hn2) Y11.out hl).mono ?_
  rintro e w12 ⟨rfl, b12⟩
  have c12 := b12 w11.heap.size
  have hw12 := c12.size
  have C12 := hide (C11.out.trans (c12.mono C11.out.size))
  have N12x := hide (N11x.out.next c12)
  have BW12 := hide (BW11.out.next c12)
  have BG12 := hide (BG11.out.next c12)
  have YW12 := hide (YW11.out.below c12 (by omega))
  have RW12 := hide (RW11.out.below c12 (by omega))
  have F12 := hide (F11.out.next c12)
  have R12 := hide (R11.out.next c12)
  clear N11x BW11 BG11 YW11 RW11 F11 R11 C11
  clear b12 c12 Y11
  -- what was handed in is marked
  go_wp2_with fail
  refine (markByteSS_any _ _ _ ls w12 N12x.out hn1 hn2).mono ?_
  rintro e w14 ⟨rfl, wi⟩
  have hw14 := wi.size
  have bw := wi.below (by omega)
  have C14 := hide (C12.out.trans (bw.mono (by have := C3s.out; omega)))
  have BW14 := hide (BW12.out.below bw s3)
  have BG14 : Hid (BoxW w14 w6.heap.size (.slice ab buf.length cb) bd) := hide ((wi.block _ BG12.out.lt (.inr (by omega))).trans BG12.out)
  have YW14 := hide (YW12.out.below bw (by omega))
  have RW14 := hide (RW12.out.below bw (by omega))
  have F14 := hide (F12.out.within wi (Nat.le_refl _))
  have R14 := hide (R12.out.within wi (Nat.le_refl _))
  obtain ⟨k2, hk2⟩ : ∃ k2 : Nat, 1 + sumB ls = k2 := ⟨_, rfl⟩
  rw [hk2]
  have hnn : ¬ ((k2 : Int) < 0) := by omega
  clear N12x BW12 BG12 YW12 RW12 F12 R12 C12 wi bw hk2
  obtain ⟨x14, x14'⟩ := BG14.out.cells
  obtain ⟨y14, y14'⟩ := BW14.out.cells
  obtain ⟨ab', cb', e1, yb⟩ := F14.out.byt
  cases e1
  obtain ⟨ag', cg', e2, rg⟩ := R14.out.rq E6.out
  cases e2
  go_wp2_with fail
  refine (eqWire_same _ _ buf bd _ _ _ _ w14 yb YW14.out (Nat.le_refl _) (by omega) hbm).mono ?_
  rintro e w15 ⟨rfl, b15⟩
  have hw15 := b15.size
  have C15 := hide (C14.out.trans (b15.mono C14.out.size))
  have BW15 := hide (BW14.out.next b15)
  have BG15 := hide (BG14.out.next b15)
  have YW15 := hide (YW14.out.below b15 (by omega))
  have RW15 := hide (RW14.out.below b15 (by omega))
  have F15 := hide (F14.out.next b15)
  have R15 := hide (R14.out.next b15)
  have rg15 := rg.next b15
  clear BW14 BG14 YW14 RW14 F14 R14 C14 yb rg b15 x14 x14' y14 y14'
  go_wp2_with fail
  refine (eqReqS_same _ _ rs _ _ _ _ w15 rg15 RW15.out (Nat.le_refl _) (by omega) hrm H8m.out).mono ?_
  rintro e w16 ⟨rfl, b16⟩
  have hw16 := b16.size
  have C16 := hide (C15.out.trans (b16.mono C15.out.size))
  have BW16 := hide (BW15.out.next b16)
  have BG16 := hide (BG15.out.next b16)
  have YW16 := hide (YW15.out.below b16 (by omega))
  have RW16 := hide (RW15.out.below b16 (by omega))
  have F16 := hide (F15.out.next b16)
  have R16 := hide (R15.out.next b16)
  clear BW15 BG15 YW15 RW15 F15 R15 C15 rg15 b16
  obtain ⟨x16, x16'⟩ := BG16.out.cells
  -- what was answered is marked
  obtain ⟨K0, hK0⟩ : ∃ K0 : Nat, 1 + buf.length = K0 := ⟨_, rfl⟩
  have hKc : (1 + (buf.length : Int)) = (K0 : Int) := by omega
  have HKc := hide hKc
  have hK1 : 1 ≤ K0 := by omega
  have hK2 : K0 + marksQ qs ≤ 49000000 := by omega
  clear hKc hK0
  go_wp2_with fail
  refine (markWire_any w16 w5.heap.size _ buf bd F16.out (by omega) (by omega)).mono ?_
  rintro e w17 ⟨rfl, mk17, b17, k17⟩
  rw [HKc.out]
  have hw17 := b17.size
  have hap17 : ∀ g, ((Value.slice ag rs.length cg).ownBlock = some g ∨ ∃ q ∈ qs, q.2.ownBlock = some g) → 0 < buf.length → some g ≠ (Value.slice ab buf.length cb).ownBlock := fun g hg h0 e => by
    have hp := P6.out g h0 e.symm
    rcases hg with hg | ⟨q, hq, hg⟩
    · exact hp.1 hg
    · exact hp.2 q hq hg
  have C17 := hide (C16.out.trans (b17.mono (by have := C3s.out; omega)))
  have R17 := hide (R16.out.of (fun g hg => k17 g (R16.out.lt g hg).2 (hap17 g hg)))
  have BG17 : Hid (BoxW w17 w6.heap.size (.slice ab buf.length cb) bd) := hide ((k17 _ BG16.out.lt (fun h0 e => by have := HBv.out _ h0 e.symm; omega)).trans BG16.out)
  have BW17 := hide (BW16.out.below b17 (by omega))
  have YW17 := hide (YW16.out.below b17 (by omega))
  have RW17 := hide (RW16.out.below b17 (by omega))
  have MK17 := hide mk17
  clear BW16 BG16 YW16 RW16 F16 R16 C16 mk17 b17 k17 hap17 x16 x16'
  go_wp2_with fail
  refine (markQ w17 w5.heap.size K0 _ qs R17.out (by omega) hK1 hK2 (by omega) H86.out).mono ?_
  rintro e w18 ⟨rfl, hq18, b18, k18⟩
  have hw18 := b18.size
  obtain ⟨M0, hM0⟩ : ∃ M0 : Nat, K0 + marksQ qs = M0 := ⟨_, rfl⟩
  rw [hM0]
  have HM0 := hide hM0
  have C18 := hide (C17.out.trans (b18.mono (by have := C3s.out; omega)))
  have BG18 : Hid (BoxW w18 w6.heap.size (.slice ab buf.length cb) bd) := hide ((k18 _ BG17.out.lt (fun e => by have := HRl.out _ (.inl e); omega) (fun q hq e => by have := HRl.out _ (.inr ⟨q, hq, e⟩); omega)).trans BG17.out)
  have BW18 := hide (BW17.out.below b18 (by omega))
  have YW18 := hide (YW17.out.below b18 (by omega))
  have RW18 := hide (RW17.out.below b18 (by omega))
  have MK18 := hide (MK17.out.of hw18 (fun g hg h0 => k18 g (by have := HBv.out g h0 hg; omega) (P6.out g h0 hg).1 (P6.out g h0 hg).2))
  have HQ18 := hide hq18
  clear BW17 BG17 YW17 RW17 R17 C17 MK17 hq18 b18 k18 hM0
  obtain ⟨x18, x18'⟩ := BG18.out.cells
  have hn1 : ¬ ((K0 : Int) < 0) := by omega
  have hn2 : ¬ ((M0 : Int) < 0) := by omega
  have hn3 : ((M0 : Int) != (M0 : Int)) = false := by simp
  go_wp2_with fail
  refine (heldWire_any w18 _ buf.length bd MK18.out (by omega)).mono ?_
  rintro e w19 ⟨rfl, b19⟩
  rw [HKc.out]
  have hw19 := b19.size
  have C19 := hide (C18.out.trans (b19.mono C18.out.size))
  have BG19 := hide (BG18.out.next b19)
  have BW19 := hide (BW18.out.next b19)
  have YW19 := hide (YW18.out.below b19 (by omega))
  have RW19 := hide (RW18.out.below b19 (by omega))
  have MK19 := hide (MK18.out.next b19)
  have HQ19 := hide (HQ18.out.next b19)
  clear BG18 BW18 YW18 RW18 MK18 HQ18 C18 b19 x18 x18'
  go_wp2_with fail
  refine (heldQ w19 K0 _ qs HQ19.out hK1 hK2 (by omega) H86.out).mono ?_
  rintro e w20 ⟨rfl, b20⟩
  rw [HM0.out]
  have hw20 := b20.size
  have C20 := hide (C19.out.trans (b20.mono C19.out.size))
  have BG20 := hide (BG19.out.next b20)
  have BW20 := hide (BW19.out.next b20)
  have YW20 := hide (YW19.out.below b20 (by omega))
  have RW20 := hide (RW19.out.below b20 (by omega))
  have MK20 := hide (MK19.out.next b20)
  have HQ20 := hide (HQ19.out.next b20)
  clear BG19 BW19 YW19 RW19 MK19 HQ19 C19 b20
  -- once more
  go_wp2_with fail
  refine (HTo.out w20 C20.out).mono ?_
  rintro e w22 ⟨rfl, n22, b22⟩
  have hw22 := b22.size
  have C22 := hide (C20.out.trans (b22.mono C20.out.size))
  have NB22 := hide n22
  have B2022 := hide b22
  clear n22 b22
  go_wp2_with fail
  refine (HIm.out _ _ w22 NB22.out C22.out).mono ?_
  rintro e w23 ⟨hf23, b23⟩
  obtain ⟨bv3, qv3, qs3, rfl, f23, r23, e23, _⟩ := hf23
  obtain ⟨ab3, cb3, rfl, yb3⟩ := f23.byt
  obtain ⟨ag3, cg3, rfl, rg3⟩ := r23.rq e23
  obtain ⟨w23b, hw23b⟩ : ∃ w23b, w23.alloc (Obj.cells #[.slice ab3 buf.length cb3, .int .i64 bd] 26) = w23b := ⟨_, rfl⟩
  have bx23 : Below w23.heap.size w23 w23b := by rw [← hw23b]; exact (Below.refl _ _).alloc (Nat.le_refl _) _
  have BH23 : Hid (BoxW w23b w23.heap.size (.slice ab3 buf.length cb3) bd) := by rw [← hw23b]; exact BoxW.made w23 _ _
  have bb23 := B2022.out.trans ((b23.trans (bx23.mono b23.size)).mono B2022.out.size)
  have hw23 := bb23.size
  have C23 := hide (C20.out.trans (bb23.mono C20.out.size))
  have BG23 := hide (BG20.out.next bb23)
  have BW23 := hide (BW20.out.next bb23)
  have YW23 := hide (YW20.out.below bb23 (by omega))
  have RW23 := hide (RW20.out.below bb23 (by omega))
  have MK23 := hide (MK20.out.next bb23)
  have HQ23 := hide (HQ20.out.next bb23)
  have Y23 := hide ((yb3.below bx23 (Nat.le_refl _)).mono bx23.size)
  have G23 := hide (rg3.next bx23)
  obtain ⟨x23, x23'⟩ := BH23.out.cells
  obtain ⟨y23, y23'⟩ := BW23.out.cells
  clear BG20 BW20 YW20 RW20 MK20 HQ20 C20 C22 B2022 bb23 bx23 b23 f23 r23 e23 yb3 rg3 NB22
  go_wp2_with fail
  refine (eqWire_same _ _ buf bd _ _ _ _ w23b Y23.out YW23.out (Nat.le_refl _) (by omega) hbm).mono ?_
  rintro e w24 ⟨rfl, b24⟩
  have hw24 := b24.size
  have C24 := hide (C23.out.trans (b24.mono C23.out.size))
  have BG24 := hide (BG23.out.next b24)
  have RW24 := hide (RW23.out.below b24 (by omega))
  have MK24 := hide (MK23.out.next b24)
  have HQ24 := hide (HQ23.out.next b24)
  have G24 := hide (G23.out.next b24)
  clear BG23 BW23 YW23 RW23 MK23 HQ23 C23 G23 Y23 b24 x23 x23' y23 y23' hw23b BH23
  go_wp2_with fail
  refine (eqReqS_same _ _ rs _ _ _ _ w24 G24.out RW24.out (Nat.le_refl _) (by omega) hrm H8m.out).mono ?_
  rintro e w25 ⟨rfl, b25⟩
  have C25 := hide (C24.out.trans (b25.mono C24.out.size))
  have BG25 := hide (BG24.out.next b25)
  have MK25 := hide (MK24.out.next b25)
  have HQ25 := hide (HQ24.out.next b25)
  obtain ⟨x25, x25'⟩ := BG25.out.cells
  clear BG24 RW24 MK24 HQ24 C24 G24 b25
  go_wp2_with fail
  refine (heldWire_any w25 _ buf.length bd MK25.out (by omega)).mono ?_
  rintro e w26 ⟨rfl, b26⟩
  rw [HKc.out]
  have C26 := hide (C25.out.trans (b26.mono C25.out.size))
  have HQ26 := hide (HQ25.out.next b26)
  clear MK25 HQ25 C25 BG25 b26 x25 x25'
  go_wp2_with fail
  refine (heldQ w26 K0 _ qs HQ26.out hK1 hK2 (by omega) H86.out).mono ?_
  rintro e w27 ⟨rfl, b27⟩
  rw [HM0.out]
  have c27 := C26.out.trans (b27.mono C26.out.size)
  clear b27 HQ26 C26
  go_wp2
  go_ret
  exact ⟨rfl, c27⟩
end Go.Proofs.YtkhnkockdfmkgabGreatDoor
namespace Go.Proofs.YtkhnkockdfmkgabGreatDoor
open Go.RowKit Go.Deep

theorem bss_of_open {H : Type} {enc : TypeId × Value → H} {w : World} {held : Bool} {fuel : Nat} {a : Option Addr} {len cap : Nat} {x : DataW H × List MemPlace} (h : DataW.trod enc Tryz.prog w 0 (fun _ => true) held fuel 39 [.slice a len cap] = some x) :
    ∃ ls : List (List UInt8), len = ls.length ∧ Bss w w.heap.size a ls ∧ ls.length ≤ maxLen := by
  rcases open_int_rows Tryz.underlying39 Tryz.underlying22 Tryz.underlying5 (by kernel_rfl) (by kernel_rfl) h with ⟨hcs, _⟩ | ⟨y, len', cap', A, L, C, Z, hcs, _, hl, hm, _, hr⟩
  · simp at hcs
    obtain ⟨rfl, rfl, rfl⟩ := hcs
    exact ⟨[], rfl, Bss.nil _ _ _, Nat.zero_le _⟩
  · simp at hcs
    obtain ⟨rfl, rfl, rfl⟩ := hcs
    have each : ∀ r, r < len → ∃ l : List UInt8, l.length = L r ∧ Byt w w.heap.size (A r) l ∧ L r ≤ C r ∧ C r ≤ maxLen := by
      intro r hr1
      obtain ⟨_, q2, q3, q4, q5, q6, q7⟩ := hr r (by omega)
      refine byt_of_row (zs := Z r) ?_
      cases hA : A r with
      | none =>
        have := q6 hA
        have h0 : L r = 0 := by omega
        exact .inl ⟨rfl, h0, this, List.length_eq_zero_iff.1 (by omega)⟩
      | some x => exact .inr ⟨x, rfl, q2, q3, q4, fun i hi => (q7 x hA).2 i (by omega), q5⟩
    obtain ⟨f, hf⟩ := choose_lt each
    have hlen : ((List.range len).map f).length = len := by simp
    refine ⟨(List.range len).map f, hlen.symm, fun h0 => ?_, by omega⟩
    obtain ⟨b, off, spot⟩ := y
    have hc := (hr 0 (by omega)).1
    have hspot : spot = none := by simpa [Addr.add] using World.cell?_spot hc
    subst hspot
    have hb : b < w.heap.size := by
      have := World.block_lt_of_cell? w _ hc
      simpa [Addr.add] using this
    refine ⟨b, off, rfl, hb, fun j hj => ?_⟩
    have hj' : j < len := by omega
    obtain ⟨f1, f2, f3, f4⟩ := hf j hj'
    have h1 := (hr j (by omega)).1
    have e : (⟨b, off, none⟩ : Addr).add j = ⟨b, off + j, none⟩ := by unfold Addr.add; split <;> simp_all
    rw [e] at h1
    have hg : ((List.range len).map f)[j] = f j := by simp
    rw [hg]
    exact ⟨A j, C j, by rw [f1]; exact h1, f2, by omega, f4⟩
end Go.Proofs.YtkhnkockdfmkgabGreatDoor
namespace Go.Proofs.YtkhnkockdfmkgabGreatDoor

theorem returns_and_shaped {H : Type} {enc : TypeId × Value → H} {a : Assume} {C : Checked} {os : Os} {f : FuncId} {fn : Func} {s : ChangeSpec} {conds : List PathCond} {apart fresh handsOn again : Bool} {X : World → Array Value → Prop}
    (hX : ∀ (w w' : World) (args : Array Value), w.heap = w'.heap → X w args → X w' args)
    (own : ownKnob C.prog.godebug = none) (started : os.Started) (noInit : C.prog.inits.idxOf? f = none) (hfn : C.prog.funcs[f]? = some fn)
    (witness : ∃ (w : World) (tape : Tape) (i : Input), w.os = os ∧ (w.forCall tape i).Shaped C.prog ∧ i.vars = [] ∧ Input.okWide C.prog (w.forCall tape i) .any w.heap.size f i ∧
      ((s.pre enc C.prog fn conds apart (w.forCall tape i).memory i.args ∧ X (w.forCall tape i).memory i.args) ∧ sizedMet enc C.prog fn (OpenSpec.ofChange s) apart (w.forCall tape i).memory i.args) ∧ a.holds C.prog (lone (Frame.enter C.prog f i.args .normal) [] (w.forCall tape i)))
    (walk : ∀ (W : World) (base : Nat) (args : Array Value) (ds gs : List (DataW H)) (before : List MemPlace),
      (∀ (j : Nat) t v, fn.params[j]? = some t → args[j]? = some v → Value.okWide C.prog W .any base t v) →
      DataW.Whole enc C.prog fn.params.toList s.vars apart W args.toList ds gs before →
      conds.all (PathCond.test C.prog ⟨fn.params.toList, ds, s.plain.varTypes C.prog, gs⟩) = true →
      (DataW.weightsEach C.prog (fn.params.toList ++ s.plain.varTypes C.prog) (ds ++ gs)).all (· ≤ reachBytes) = true → X W args → W.ShapedOpen C.prog →
      a.holds C.prog (lone (Frame.enter C.prog f args .normal) [] W) →
      Calls C.prog f args W fun e W' => ∃ v, e = .returned v ∧ s.post enc C.prog fn apart fresh handsOn again W args v W') :
    ReturnsInHanded a C os f .any (fun w args => (s.pre enc C.prog fn conds apart w args ∧ X w args) ∧ sizedMet enc C.prog fn (OpenSpec.ofChange s) apart w args) (s.post enc C.prog fn apart fresh handsOn again) := by
  refine returnsInHanded_of_calls own started noInit witness ?_
  intro w tape i _ hsh _ hok hpre hholds
  obtain ⟨_, _, _, fn', hfn', _, _, _, _, hval⟩ := hok
  obtain rfl : fn' = fn := Option.some.inj (hfn'.symm.trans hfn)
  obtain ⟨⟨⟨ds, gs, before, hw, hc⟩, hx⟩, hz⟩ := hpre
  have hw' := DataW.Whole.of_heap (w' := w.forCall tape i) (by rfl) hw
  refine (walk (w.forCall tape i) w.heap.size i.args ds gs before hval hw' hc (hz.weights hw) (hX _ _ _ (by rfl) hx) hsh hholds).mono fun e W' ⟨v, he, hp⟩ => ?_
  subst he
  exact ChangeSpec.post_blind hp
end Go.Proofs.YtkhnkockdfmkgabGreatDoor
