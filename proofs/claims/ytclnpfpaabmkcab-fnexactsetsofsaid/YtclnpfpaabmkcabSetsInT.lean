/-
  What impl.setsIn does.
-/
import Derived.Test.YtclnpfpaabmkcabSetOfI
namespace Go.Proofs.Ytclnpfpaabmkcab
open Go.RowKit M
set_option linter.unusedVariables false

/-- What it hands back. -/
def InIs (w w' : World) (e : Ending) (o : Option (List Sx)) : Prop := (o = none ∧ e = .returned (.tuple #[.slice none 0 0, .bool false])) ∨ ∃ ss g n c, o = some ss ∧ e = .returned (.tuple #[.slice (some ⟨g, 0, none⟩) n c, .bool true]) ∧ OwnV w' w.heap.size (.slice (some ⟨g, 0, none⟩) n c) ss
/-- A node in a box. -/
def KB (W : World) (b : Nat) (x y z : ByteArray) (a : Option Addr) (n c : Nat) : Prop := W.cell? ⟨b, 0, none⟩ = some (.string x) ∧ W.cell? ⟨b, 1, none⟩ = some (.string y) ∧ W.cell? ⟨b, 2, none⟩ = some (.string z) ∧ W.cell? ⟨b, 3, none⟩ = some (.slice a n c)
theorem KB.below {W w1 : World} {b : Nat} {x y z : ByteArray} {a : Option Addr} {n c : Nat} (h : KB W b x y z a n c) (hb : Below W.heap.size W w1) : KB w1 b x y z a n c := by
  have hB : b < W.heap.size := World.block_lt_of_cell? W _ h.1
  unfold KB at *
  simp only [(bcellP hb).1 b _ hB]
  exact h

theorem isD_yes {y : ByteArray} {n : Nd} (h1 : n.ns.toList = davT.toList) (h2 : n.nm.toList = y.toList) : isD y n = true := by rw [← isD_text, h1, h2]; simp
theorem isD_no1 (y : ByteArray) {n : Nd} (h : ¬ n.ns.toList = davT.toList) : isD y n = false := by rw [← isD_text, beq_eq_false_iff_ne.2 h]; rfl
theorem isD_no2 {y : ByteArray} {n : Nd} (h : ¬ n.nm.toList = y.toList) : isD y n = false := by rw [← isD_text, beq_eq_false_iff_ne.2 h, Bool.and_false]

set_option maxRecDepth 100000 in
set_option maxHeartbeats 8000000 in
theorem setsIn_any (k : Nd) (a : Option Addr) (c B : Nat) (w : World) (h : Nds w B a k.ks) (hB : B ≤ w.heap.size) (hz : k.szN ≤ 1048576) :
    Calls Try.prog 78 #[.agg #[.string k.ns, .string k.nm, .string k.tx, .slice a k.ks.length c]] w fun e w' => InIs w w' e (kidS k) ∧ Below w.heap.size w w' := by
  have HN := hide h
  have HZ := hide hz
  have hkl : k.ks.length ≤ 1048576 := by have := szN_ks k; omega
  clear h hz
  have HB0 := hide ((Below.refl w.heap.size w).alloc (Nat.le_refl _) (Obj.cells #[.string k.ns, .string k.nm, .string k.tx, .slice a k.ks.length c] 59))
  have BK := hide (show KB (w.alloc (Obj.cells #[.string k.ns, .string k.nm, .string k.tx, .slice a k.ks.length c] 59)) w.heap.size k.ns k.nm k.tx a k.ks.length c by unfold KB; simp)
  have HNK := hide (fun W => nameOfNode_any k.ns k.nm k.tx a k.ks.length c W)
  go_enter Try.func78, Try.ntmps78
  go_wp2_with fail
  refine (HNK.out _).mono ?_
  rintro e w1 ⟨rfl, b1⟩
  have a1 := HB0.out.trans (b1.mono HB0.out.size)
  go_wp2_with fail
  refine (davName_any remT _).mono ?_
  rintro e w2 ⟨rfl, b2⟩
  have a2 := a1.trans (b2.mono a1.size)
  have BK2 := hide (BK.out.below (b1.trans (b2.mono b1.size)))
  obtain ⟨q0, q1, q2, q3⟩ := BK2.out
  clear b1 b2 a1
  by_cases t1 : k.ns.toList = davT.toList
  rotate_left
  · have HE := hide (kid_none (isD_no1 remT t1) (isD_no1 setT t1))
    go_wp2_with fail
    refine (HNK.out _).mono ?_
    rintro e w3 ⟨rfl, b3⟩
    have a3 := a2.trans (b3.mono a2.size)
    go_wp2_with fail
    refine (davName_any setT _).mono ?_
    rintro e w4 ⟨rfl, b4⟩
    have c1 := a3.trans (b4.mono a3.size)
    go_wp2
    go_ret2
    exact ⟨.inl ⟨HE.out, rfl⟩, c1⟩
  by_cases t2 : k.nm.toList = remT.toList
  rotate_left
  · have HZR := hide (isD_no2 (n := k) t2)
    go_wp2_with fail
    refine (HNK.out _).mono ?_
    rintro e w3 ⟨rfl, b3⟩
    have a3 := a2.trans (b3.mono a2.size)
    go_wp2_with fail
    refine (davName_any setT _).mono ?_
    rintro e w4 ⟨rfl, b4⟩
    have c1 := a3.trans (b4.mono a3.size)
    have BK1 := hide (BK2.out.below (b3.trans (b4.mono b3.size)))
    obtain ⟨p0, p1, p2, p3⟩ := BK1.out
    clear q0 q1 q2 q3 b3 b4 a3 BK2
    by_cases t3 : k.nm.toList = setT.toList
    rotate_left
    · have HE := hide (kid_none HZR.out (isD_no2 (n := k) t3))
      go_wp2
      go_ret2
      exact ⟨.inl ⟨HE.out, rfl⟩, c1⟩
    · have HOK := hide (show ¬ (isD remT k = false ∧ isD setT k = false) from fun e => by rw [isD_yes t1 t3] at e; cases e.2)
      by_cases hl1 : k.ks.length = 1
      · obtain ⟨h0, hk1⟩ : ∃ h0, k.ks = [h0] := List.length_eq_one_iff.1 hl1
        obtain ⟨b, o, ea, hb, hat⟩ := (HN.out.stays c1 hB).at (by omega)
        obtain ⟨a1, c2', y0, y1, y2, y3, hn1⟩ := hat 0 (by omega)
        have e0 : k.ks[0] = h0 := by simp [hk1]
        rw [e0] at y0 y1 y2 y3 hn1
        subst ea
        simp only [Nat.zero_mul, Nat.add_zero] at y0 y1 y2 y3
        have hzh : h0.szN ≤ 1048576 := by have h1 := szN_ks k; have h2 := szL_mem k.ks h0 (by rw [hk1]; exact List.mem_cons_self ..); have := HZ.out; omega
        have HK1 := hide hk1
        have HZH := hide hzh
        have hkb : h0.ks.length ≤ 1048576 := by have := szN_ks h0; omega
        have e1 : ((k.ks.length : Int) == 1) = true := by rw [hl1]; rfl
        have e1b : ((k.ks.length : Int) != 1) = false := by rw [hl1]; rfl
        have e1c : (k.ks.length : Int) = 1 := by omega
        have HN1 := hide hn1
        clear hat e0 hk1 hzh hn1
        have HNM := hide (fun W => nameOfNode_any h0.ns h0.nm h0.tx a1 h0.ks.length c2' W)
        rw [hl1]
        go_wp2_with fail
        refine (HNM.out _).mono ?_
        rintro e w5 ⟨rfl, b5⟩
        have c5 := c1.trans (b5.mono c1.size)
        go_wp2_with fail
        refine (davName_any prpT _).mono ?_
        rintro e w6 ⟨rfl, b6⟩
        have c6 := c5.trans (b6.mono c5.size)
        have b56 := b5.trans (b6.mono b5.size)
        obtain ⟨kc0, kc1, kc2, kc3⟩ := BK1.out.below b56
        have BK6 := hide (BK1.out.below b56)
        by_cases u1 : h0.ns.toList = davT.toList
        rotate_left
        · have HE := hide (kid_prp HK1.out (isD_no1 prpT u1))
          go_wp2
          go_ret2
          exact ⟨.inl ⟨HE.out, rfl⟩, c6⟩
        by_cases u2 : h0.nm.toList = prpT.toList
        rotate_left
        · have HE := hide (kid_prp HK1.out (isD_no2 u2))
          go_wp2
          go_ret2
          exact ⟨.inl ⟨HE.out, rfl⟩, c6⟩
        · have HZP := hide (isD_yes u1 u2)
          have HM := hide (OwnV.made w6 w.heap.size c6.size)
          have HBE := hide ((b56.mono c1.size).alloc c6.size (Obj.cells #[] 93))
          have BK7 := hide (BK6.out.below ((Below.refl w6.heap.size w6).alloc (Nat.le_refl _) (Obj.cells #[] 93)))
          obtain ⟨z0, z1, z2, z3⟩ := BK7.out
          have hbl : b < w.heap.size := by omega
          have y37 : (w6.alloc (Obj.cells #[] 93)).cell? ⟨b, o + 3, none⟩ = some (.slice a1 h0.ks.length c2') := (((b56.trans (((Below.refl w6.heap.size w6).alloc (Nat.le_refl _) _).mono b56.size)).cell (p := ⟨b, o + 3, none⟩) (by have := c1.size; show b < w4.heap.size; omega))).trans y3
          clear kc0 kc1 kc2 kc3
          go_wp2
          clear z0 z1 z2 z3 y37
          go_loopw [5, 40] (fun v i wr => ∃ (j g n c3 : Nat) (acc : List Sx), j ≤ h0.ks.length ∧ i = .int .i64 j ∧ v = .slice (some ⟨g, 0, none⟩) n c3 ∧ acc.length ≤ j ∧ Hid (acc = (h0.ks.take j).map (setL false)) ∧ OwnV wr w.heap.size (.slice (some ⟨g, 0, none⟩) n c3) acc ∧ Hid (∀ i' (hi : i' < h0.ks.length), i' < j → h0.ks[i'].ks.length = 0) ∧ Below w.heap.size w4 wr) (fun _ i _ => h0.ks.length - (intOf i).toNat)
          case atStart => exact ⟨0, w6.heap.size, 0, 0, [], Nat.zero_le _, rfl, rfl, Nat.le_refl _, rfl, HM.out, hide (fun i' _ h => absurd h (Nat.not_lt_zero _)), HBE.out⟩
          case round =>
            obtain ⟨j, g, n, c3, acc, hj, rfl, rfl, hal, hac, hO, hdn, hbe⟩ := hrel
            have hbs := hbe.size
            by_cases hlt : j < h0.ks.length
            · obtain ⟨b2, o2, ea2, hb2, hat2⟩ := (HN1.out.stays hbe hB).at (by omega)
              obtain ⟨aj, cj, v0, v1, v2, v3, _⟩ := hat2 j hlt
              subst ea2
              have HMT := hide (show (h0.ks.take (j + 1)).map (setL false) = (h0.ks.take j).map (setL false) ++ [setL false h0.ks[j]] by rw [List.take_succ_eq_append_getElem hlt, List.map_append]; rfl)
              have hzx : h0.ks[j].ns.size ≤ 281474976710656 ∧ h0.ks[j].nm.size ≤ 281474976710656 ∧ h0.ks[j].tx.size ≤ 281474976710656 := by
                have h1 := szL_mem h0.ks _ (List.getElem_mem hlt)
                have h2 := szN_ks h0
                have h3 := szN_ks h0.ks[j]
                have := HZH.out
                exact ⟨by omega, by omega, by omega⟩
              have HKD := hide (fun hd => kid_deep HK1.out j hlt hd)
              obtain ⟨x, hx⟩ : ∃ x, h0.ks[j] = x := ⟨_, rfl⟩
              rw [hx] at v0 v1 v2 v3 HMT hzx
              have HX := hide hx
              simp only [hx] at HKD
              clear hx hat2
              have hcw := c1.trans hbe
              have hji : (j : Int) < (h0.ks.length : Int) := by omega
              have bA := (Below.refl wr.heap.size wr).alloc (Nat.le_refl _) (Obj.cells #[.string x.ns, .string x.nm, .string x.tx, .slice aj x.ks.length cj] 59)
              have HSO := hide (setOf_any false x.ns x.nm x.tx aj x.ks.length cj (wr.alloc (Obj.cells #[.string x.ns, .string x.nm, .string x.tx, .slice aj x.ks.length cj] 59)) hzx)
              simp only [Bool.false_eq_true, if_false] at HSO
              have HOA := hide (hO.next bA)
              have HBA := hide bA
              have hsz : w.heap.size ≤ wr.heap.size := hcw.size
              clear bA
              by_cases hd : x.ks.length = 0
              · have e3 : ¬ (0 : Int) < (x.ks.length : Int) := by omega
                have e4 : decide ((0 : Int) < (x.ks.length : Int)) = false := decide_eq_false e3
                rw [hd] at HSO HOA HBA v3
                clear HKD e3 e4
                go_wp2_with fail
                refine HSO.out.mono ?_
                rintro e w8 ⟨rfl, b8⟩
                have bB := b8.trans (((Below.refl w8.heap.size w8).alloc (Nat.le_refl _) (Obj.cells #[.bool false, .string x.ns, .string x.nm, .string x.tx] 93)).mono b8.size)
                have HOB := hide (HOA.out.next bB)
                have HBB := hide (HBA.out.trans (bB.mono HBA.out.size))
                have hszB : w.heap.size ≤ (w8.alloc (Obj.cells #[.bool false, .string x.ns, .string x.nm, .string x.tx] 93)).heap.size := Nat.le_trans hsz HBB.out.size
                have hln : acc.length + 1 ≤ 1099511627776 := by have := szN_ks h0; have := HZH.out; omega
                clear bB b8 HSO
                go_wp2_with (at_builtin; refine wp_append_set rfl _ _ rfl w.heap.size _ acc rfl HOB.out _ (false, x.ns, x.nm, x.tx) rfl ?_ ?_ ?_ ?_ hln hszB ?_)
                intro g9 n9 c9 w9 hn9 hO9 hb9
                have HB9 := hide (hbe.trans ((HBB.out.mono hsz).trans hb9))
                have HA9 := hide (show acc ++ [(false, x.ns, x.nm, x.tx)] = (h0.ks.take (j + 1)).map (setL false) by rw [HMT.out, hac.out]; rfl)
                have HD9 := hide (show ∀ i' (hi : i' < h0.ks.length), i' < j + 1 → h0.ks[i'].ks.length = 0 from fun i' hi hij => if e : i' = j then by subst e; rw [HX.out]; exact hd else hdn.out i' hi (by omega))
                clear hb9 hn9 HOB HBB HOA HBA
                go_wp2
                go_roundw
                case rel => exact ⟨j + 1, g9, n9, c9, _, by omega, by go_num, rfl, by rw [List.length_append]; simp; omega, HA9, hO9, HD9, HB9.out⟩
                case measure => simp [intOf]; omega
              · have HE := hide (HKD.out hd)
                have e3 : (0 : Int) < (x.ks.length : Int) := by omega
                have HCW := hide (hcw.trans (HBA.out.mono hsz))
                clear HSO HOA
                go_wp2
                go_ret2
                exact ⟨.inl ⟨HE.out, rfl⟩, HCW.out⟩
            · have HE := hide (kid_some HK1.out HOK.out HZP.out (fun i' hi => hdn.out i' hi (by omega)))
              have HAC := hide (show acc = h0.ks.map (setL false) by rw [hac.out, List.take_of_length_le (by omega)])
              have HC := hide (c1.trans hbe)
              go_wp2
              go_ret2
              refine ⟨.inr ⟨acc, g, n, c3, ?_, rfl, hO⟩, HC.out⟩
              rw [HE.out, HZR.out, HAC.out]
      · have HE := hide (kid_len hl1)
        have e1 : ((k.ks.length : Int) == 1) = false := by rw [beq_eq_false_iff_ne]; omega
        have e1b : ((k.ks.length : Int) != 1) = true := by simp [bne, e1]
        have e1c : ¬ (k.ks.length : Int) = 1 := by omega
        go_wp2
        go_ret2
        exact ⟨.inl ⟨HE.out, rfl⟩, c1⟩
  · have c1 := a2
    have BK1 := BK2
    have HZR := hide (isD_yes t1 t2)
    have HOK := hide (show ¬ (isD remT k = false ∧ isD setT k = false) from fun e => by rw [HZR.out] at e; cases e.1)
    by_cases hl1 : k.ks.length = 1
    · obtain ⟨h0, hk1⟩ : ∃ h0, k.ks = [h0] := List.length_eq_one_iff.1 hl1
      obtain ⟨b, o, ea, hb, hat⟩ := (HN.out.stays c1 hB).at (by omega)
      obtain ⟨a1, c2', y0, y1, y2, y3, hn1⟩ := hat 0 (by omega)
      have e0 : k.ks[0] = h0 := by simp [hk1]
      rw [e0] at y0 y1 y2 y3 hn1
      subst ea
      simp only [Nat.zero_mul, Nat.add_zero] at y0 y1 y2 y3
      have hzh : h0.szN ≤ 1048576 := by have h1 := szN_ks k; have h2 := szL_mem k.ks h0 (by rw [hk1]; exact List.mem_cons_self ..); have := HZ.out; omega
      have HK1 := hide hk1
      have HZH := hide hzh
      have hkb : h0.ks.length ≤ 1048576 := by have := szN_ks h0; omega
      have e1 : ((k.ks.length : Int) == 1) = true := by rw [hl1]; rfl
      have e1b : ((k.ks.length : Int) != 1) = false := by rw [hl1]; rfl
      have e1c : (k.ks.length : Int) = 1 := by omega
      have HN1 := hide hn1
      clear hat e0 hk1 hzh hn1
      have HNM := hide (fun W => nameOfNode_any h0.ns h0.nm h0.tx a1 h0.ks.length c2' W)
      rw [hl1]
      go_wp2_with fail
      refine (HNM.out _).mono ?_
      rintro e w5 ⟨rfl, b5⟩
      have c5 := c1.trans (b5.mono c1.size)
      go_wp2_with fail
      refine (davName_any prpT _).mono ?_
      rintro e w6 ⟨rfl, b6⟩
      have c6 := c5.trans (b6.mono c5.size)
      have b56 := b5.trans (b6.mono b5.size)
      obtain ⟨kc0, kc1, kc2, kc3⟩ := BK1.out.below b56
      have BK6 := hide (BK1.out.below b56)
      by_cases u1 : h0.ns.toList = davT.toList
      rotate_left
      · have HE := hide (kid_prp HK1.out (isD_no1 prpT u1))
        go_wp2
        go_ret2
        exact ⟨.inl ⟨HE.out, rfl⟩, c6⟩
      by_cases u2 : h0.nm.toList = prpT.toList
      rotate_left
      · have HE := hide (kid_prp HK1.out (isD_no2 u2))
        go_wp2
        go_ret2
        exact ⟨.inl ⟨HE.out, rfl⟩, c6⟩
      · have HZP := hide (isD_yes u1 u2)
        have HM := hide (OwnV.made w6 w.heap.size c6.size)
        have HBE := hide ((b56.mono c1.size).alloc c6.size (Obj.cells #[] 93))
        have BK7 := hide (BK6.out.below ((Below.refl w6.heap.size w6).alloc (Nat.le_refl _) (Obj.cells #[] 93)))
        obtain ⟨z0, z1, z2, z3⟩ := BK7.out
        have hbl : b < w.heap.size := by omega
        have y37 : (w6.alloc (Obj.cells #[] 93)).cell? ⟨b, o + 3, none⟩ = some (.slice a1 h0.ks.length c2') := (((b56.trans (((Below.refl w6.heap.size w6).alloc (Nat.le_refl _) _).mono b56.size)).cell (p := ⟨b, o + 3, none⟩) (by have := c1.size; show b < w2.heap.size; omega))).trans y3
        clear kc0 kc1 kc2 kc3
        go_wp2
        clear z0 z1 z2 z3 y37
        go_loopw [5, 40] (fun v i wr => ∃ (j g n c3 : Nat) (acc : List Sx), j ≤ h0.ks.length ∧ i = .int .i64 j ∧ v = .slice (some ⟨g, 0, none⟩) n c3 ∧ acc.length ≤ j ∧ Hid (acc = (h0.ks.take j).map (setL true)) ∧ OwnV wr w.heap.size (.slice (some ⟨g, 0, none⟩) n c3) acc ∧ Hid (∀ i' (hi : i' < h0.ks.length), i' < j → h0.ks[i'].ks.length = 0) ∧ Below w.heap.size w2 wr) (fun _ i _ => h0.ks.length - (intOf i).toNat)
        case atStart => exact ⟨0, w6.heap.size, 0, 0, [], Nat.zero_le _, rfl, rfl, Nat.le_refl _, rfl, HM.out, hide (fun i' _ h => absurd h (Nat.not_lt_zero _)), HBE.out⟩
        case round =>
          obtain ⟨j, g, n, c3, acc, hj, rfl, rfl, hal, hac, hO, hdn, hbe⟩ := hrel
          have hbs := hbe.size
          by_cases hlt : j < h0.ks.length
          · obtain ⟨b2, o2, ea2, hb2, hat2⟩ := (HN1.out.stays hbe hB).at (by omega)
            obtain ⟨aj, cj, v0, v1, v2, v3, _⟩ := hat2 j hlt
            subst ea2
            have HMT := hide (show (h0.ks.take (j + 1)).map (setL true) = (h0.ks.take j).map (setL true) ++ [setL true h0.ks[j]] by rw [List.take_succ_eq_append_getElem hlt, List.map_append]; rfl)
            have hzx : h0.ks[j].ns.size ≤ 281474976710656 ∧ h0.ks[j].nm.size ≤ 281474976710656 ∧ h0.ks[j].tx.size ≤ 281474976710656 := by
              have h1 := szL_mem h0.ks _ (List.getElem_mem hlt)
              have h2 := szN_ks h0
              have h3 := szN_ks h0.ks[j]
              have := HZH.out
              exact ⟨by omega, by omega, by omega⟩
            have HKD := hide (fun hd => kid_deep HK1.out j hlt hd)
            obtain ⟨x, hx⟩ : ∃ x, h0.ks[j] = x := ⟨_, rfl⟩
            rw [hx] at v0 v1 v2 v3 HMT hzx
            have HX := hide hx
            simp only [hx] at HKD
            clear hx hat2
            have hcw := c1.trans hbe
            have hji : (j : Int) < (h0.ks.length : Int) := by omega
            have bA := (Below.refl wr.heap.size wr).alloc (Nat.le_refl _) (Obj.cells #[.string x.ns, .string x.nm, .string x.tx, .slice aj x.ks.length cj] 59)
            have HSO := hide (setOf_any true x.ns x.nm x.tx aj x.ks.length cj (wr.alloc (Obj.cells #[.string x.ns, .string x.nm, .string x.tx, .slice aj x.ks.length cj] 59)) hzx)
            simp only [if_true] at HSO
            have HOA := hide (hO.next bA)
            have HBA := hide bA
            have hsz : w.heap.size ≤ wr.heap.size := hcw.size
            clear bA
            by_cases hd : x.ks.length = 0
            · have e3 : ¬ (0 : Int) < (x.ks.length : Int) := by omega
              have e4 : decide ((0 : Int) < (x.ks.length : Int)) = false := decide_eq_false e3
              rw [hd] at HSO HOA HBA v3
              clear HKD e3 e4
              go_wp2_with fail
              refine HSO.out.mono ?_
              rintro e w8 ⟨rfl, b8⟩
              have bB := b8.trans (((Below.refl w8.heap.size w8).alloc (Nat.le_refl _) (Obj.cells #[.bool true, .string x.ns, .string x.nm, .string ⟨#[]⟩] 93)).mono b8.size)
              have HOB := hide (HOA.out.next bB)
              have HBB := hide (HBA.out.trans (bB.mono HBA.out.size))
              have hszB : w.heap.size ≤ (w8.alloc (Obj.cells #[.bool true, .string x.ns, .string x.nm, .string ⟨#[]⟩] 93)).heap.size := Nat.le_trans hsz HBB.out.size
              have hln : acc.length + 1 ≤ 1099511627776 := by have := szN_ks h0; have := HZH.out; omega
              clear bB b8 HSO
              go_wp2_with (at_builtin; refine wp_append_set rfl _ _ rfl w.heap.size _ acc rfl HOB.out _ (true, x.ns, x.nm, ⟨#[]⟩) rfl ?_ ?_ ?_ ?_ hln hszB ?_)
              intro g9 n9 c9 w9 hn9 hO9 hb9
              have HB9 := hide (hbe.trans ((HBB.out.mono hsz).trans hb9))
              have HA9 := hide (show acc ++ [(true, x.ns, x.nm, ⟨#[]⟩)] = (h0.ks.take (j + 1)).map (setL true) by rw [HMT.out, hac.out]; rfl)
              have HD9 := hide (show ∀ i' (hi : i' < h0.ks.length), i' < j + 1 → h0.ks[i'].ks.length = 0 from fun i' hi hij => if e : i' = j then by subst e; rw [HX.out]; exact hd else hdn.out i' hi (by omega))
              clear hb9 hn9 HOB HBB HOA HBA
              go_wp2
              go_roundw
              case rel => exact ⟨j + 1, g9, n9, c9, _, by omega, by go_num, rfl, by rw [List.length_append]; simp; omega, HA9, hO9, HD9, HB9.out⟩
              case measure => simp [intOf]; omega
            · have HE := hide (HKD.out hd)
              have e3 : (0 : Int) < (x.ks.length : Int) := by omega
              have HCW := hide (hcw.trans (HBA.out.mono hsz))
              clear HSO HOA
              go_wp2
              go_ret2
              exact ⟨.inl ⟨HE.out, rfl⟩, HCW.out⟩
          · have HE := hide (kid_some HK1.out HOK.out HZP.out (fun i' hi => hdn.out i' hi (by omega)))
            have HAC := hide (show acc = h0.ks.map (setL true) by rw [hac.out, List.take_of_length_le (by omega)])
            have HC := hide (c1.trans hbe)
            go_wp2
            go_ret2
            refine ⟨.inr ⟨acc, g, n, c3, ?_, rfl, hO⟩, HC.out⟩
            rw [HE.out, HZR.out, HAC.out]
    · have HE := hide (kid_len hl1)
      have e1 : ((k.ks.length : Int) == 1) = false := by rw [beq_eq_false_iff_ne]; omega
      have e1b : ((k.ks.length : Int) != 1) = true := by simp [bne, e1]
      have e1c : ¬ (k.ks.length : Int) = 1 := by omega
      go_wp2
      go_ret2
      exact ⟨.inl ⟨HE.out, rfl⟩, c1⟩
end Go.Proofs.Ytclnpfpaabmkcab
