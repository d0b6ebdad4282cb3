/-
  What spec.l14Cond does.
-/
import Derived.Test.YtmgikfeknmbpbaaGreatDoorMathIfS
import Derived.Test.YtmgikfeknmbpbaaGreatDoorSpecParse
namespace Go.Proofs.YtmgikfeknmbpbaaGreatDoor
open Go.RowKit M
set_option linter.unusedVariables false

theorem Turn.setNew {N : Nat} {w w' : World} (h : Turn (At N) w w') (p : Addr) (v : Value) (hp : w.heap.size ≤ p.block) : Turn (At N) w (w'.setCell p v) :=
  ⟨h.os, h.tape, h.output, by simpa using h.size, fun i hi hS => (Below.heap_setCell w' p v i (fun e => by omega)).trans (h.block i hi hS)⟩
theorem turn_alloc {N : Nat} {w w' : World} (h : Turn (At N) w w') (o : Obj) : Turn (At N) w (w'.alloc o) := h.trans (Turn.of_below ((Below.refl _ _).alloc (Nat.le_refl _) o))

set_option maxRecDepth 100000 in
set_option maxHeartbeats 8000000 in
theorem l14Cond_any (N : Nat) (s : ByteArray) (a : Nat) (w : World) (h : Rd w N s a false) (ha : a ≤ s.size) (hs : s.size ≤ 67108864) :
    Calls Tryz.prog 53 #[.pointer (some ⟨N, 0, none⟩)] w fun e w' => CondRet s a N e w' ∧ Turn (At N) w w' := by
  have hN := h.lt
  have bR := (Below.refl w.heap.size w).alloc (Nat.le_refl _) (Obj.cells #[.bool false, .int .i64 0, .string { data := #[] }] 57)
  have XR := hide (BoxV.made w [.bool false, .int .i64 0, .string { data := #[] }] 57)
  have T0 := hide (Turn.of_below (S := At N) bR)
  have HQ1 := hide (l14Is_any N s ⟨#[78, 111, 116, 32]⟩ notL rfl a false _ (h.next bR) ha (by omega) (by decide))
  have HZ := hide (@condRet_tok s a N)
  have HG := hide (@condRet_tag s a N)
  have hz0 : (w.alloc (Obj.cells #[.bool false, .int .i64 0, .string { data := #[] }] 57)).heap.size = w.heap.size + 1 := by simp
  obtain ⟨z1, hz1⟩ : ∃ z, isZ s a false notL = z := ⟨_, rfl⟩
  have ha1 : isA s a false notL ≤ s.size := isA_le ha
  obtain ⟨a1, hA1⟩ : ∃ z, isA s a false notL = z := ⟨_, rfl⟩
  rw [hz1, hA1] at HQ1 HZ HG
  rw [hA1] at ha1
  clear h bR hz1 hA1
  go_enter Tryz.func53, Tryz.ntmps53
  go_wp2_with fail
  refine HQ1.out.mono ?_
  rintro e w1 ⟨rfl, r1, t1⟩
  have hz1 := t1.size
  have R1 := hide (r1.next ((Below.refl w1.heap.size w1).alloc (Nat.le_refl _) (Obj.cells #[.bool z1, .int .i64 0, .string { data := #[] }] 57)))
  have T1 := hide (turn_alloc (T0.out.trans t1) (Obj.cells #[.bool z1, .int .i64 0, .string { data := #[] }] 57))
  have XR1 := hide ((XR.out.turn t1 (fun e => by omega)).alloc (Obj.cells #[.bool z1, .int .i64 0, .string { data := #[] }] 57))
  have XX1 := hide (BoxV.made w1 [.bool z1, .int .i64 0, .string { data := #[] }] 57)
  have hz2 : w.heap.size + 1 ≤ w1.heap.size := by omega
  have HQ2 := hide (l14Is_any N s ⟨#[60]⟩ [60] rfl a1 false _ R1.out ha1 (by omega) (by decide))
  obtain ⟨z2, hzz⟩ : ∃ z, isZ s a1 false [60] = z := ⟨_, rfl⟩
  have ha2 : isA s a1 false [60] ≤ s.size := isA_le ha1
  obtain ⟨a2, hA2⟩ : ∃ z, isA s a1 false [60] = z := ⟨_, rfl⟩
  rw [hzz, hA2] at HQ2 HZ
  rw [hzz] at HG
  rw [hA2] at ha2
  have HZZ := hide (show z2 = false → a2 = a1 from fun e => by rw [← hA2]; unfold isA; rw [hzz, e]; rfl)
  clear r1 t1 T0 XR HQ1 hzz hA2
  go_wp2_with fail
  refine HQ2.out.mono ?_
  rintro e w2 ⟨rfl, r2, t2⟩
  have hz3 := t2.size
  have hz4 : w1.heap.size + 1 ≤ w2.heap.size := by simpa using hz3
  have R2 := hide r2
  have T2 := hide (T1.out.trans t2)
  have XR2 := hide (XR1.out.turn t2 (fun e => by omega))
  have XX2 := hide (XX1.out.turn t2 (fun e => by omega))
  clear r2 t2 T1 XR1 XX1 HQ2 R1 hz3
  cases z2
  · have e12 := HZZ.out rfl
    rw [e12] at R2
    clear HZ HZZ e12 ha2
    have HQ3 := hide (l14Must_any N s ⟨#[91, 34]⟩ [91, 34] rfl a1 false w2 R2.out ha1 (by omega) (by decide))
    rw [show isA s a1 false [91, 34] = tgA s a1 from rfl] at HQ3
    have hA2 : tgA s a1 ≤ s.size := isA_le ha1
    have hA3 : tgA3 s a1 ≤ s.size := toA_le hA2
    have HQ4 := hide (fun W (h : Rd W N s (tgA s a1) (!isZ s a1 false [91, 34])) => l14To_any N s 34 (tgA s a1) (!isZ s a1 false [91, 34]) W h hA2 (by omega))
    rw [show toT s (tgA s a1) 34 = tgM s a1 from rfl, show toA s (tgA s a1) 34 = tgA3 s a1 from rfl, show (!isZ s a1 false [91, 34] || toB s (tgA s a1) 34) = tgB3 s a1 from rfl, show ((34 : UInt8).toNat : Int) = 34 from rfl] at HQ4
    have HQ5 := hide (fun W (h : Rd W N s (tgA3 s a1) (tgB3 s a1)) => l14Must_any N s ⟨#[93]⟩ [93] rfl (tgA3 s a1) (tgB3 s a1) W h hA3 (by omega) (by decide))
    rw [show isA s (tgA3 s a1) (tgB3 s a1) [93] = tgA4 s a1 from rfl, show (!isZ s (tgA3 s a1) (tgB3 s a1) [93]) = tgB4 s a1 from rfl] at HQ5
    have HBD0 := hide (show badG s a1 = (tgB4 s a1 || (!tagB (tagL (tgM s a1)) || decide (tgM s a1 = []))) from rfl)
    have hml : (tgM s a1).length ≤ 67108864 := Nat.le_trans toT_len hs
    obtain ⟨m, hm⟩ : ∃ z, tgM s a1 = z := ⟨_, rfl⟩
    obtain ⟨A2, hA2e⟩ : ∃ z, tgA s a1 = z := ⟨_, rfl⟩
    obtain ⟨A3, hA3e⟩ : ∃ z, tgA3 s a1 = z := ⟨_, rfl⟩
    obtain ⟨A4, hA4e⟩ : ∃ z, tgA4 s a1 = z := ⟨_, rfl⟩
    obtain ⟨B2, hB2e⟩ : ∃ z, (!isZ s a1 false [91, 34]) = z := ⟨_, rfl⟩
    obtain ⟨B3, hB3e⟩ : ∃ z, tgB3 s a1 = z := ⟨_, rfl⟩
    obtain ⟨B4, hB4e⟩ : ∃ z, tgB4 s a1 = z := ⟨_, rfl⟩
    obtain ⟨bad, hbad⟩ : ∃ z, badG s a1 = z := ⟨_, rfl⟩
    have HBD := hide hbad
    rw [hm] at HQ4 HBD0 HG hml
    rw [hA2e] at HQ3 HQ4
    rw [hA3e] at HQ4 HQ5
    rw [hA4e] at HQ5 HG
    rw [hB2e] at HQ3 HQ4
    rw [hB3e] at HQ4 HQ5
    rw [hB4e] at HQ5 HBD0
    rw [hbad] at HBD0
    have hbs : (bytesOf m).size ≤ 67108864 := by rw [bytesOf_size]; exact hml
    have HTG := hide (show (⟨#[34]⟩ : ByteArray) ++ bytesOf m ++ ⟨#[34]⟩ = bytesOf (tagL m) by apply ByteArray.ext; simp [bytesOf, tagL])
    have HL9 := hide (fun W => l9Tag_any (bytesOf (tagL m)) W (by rw [bytesOf_size, show (tagL m).length = m.length + 2 by simp [tagL]]; unfold maxLen; omega))
    rw [show (bytesOf (tagL m)).data.toList = tagL m from rfl] at HL9
    have hE0 : (bytesOf m).toList.isEmpty = decide (m = []) := by
      rw [ByteArray.toList_eq]
      show m.toArray.toList.isEmpty = decide (m = [])
      cases m <;> simp
    obtain ⟨tb, htb⟩ : ∃ z, tagB (tagL m) = z := ⟨_, rfl⟩
    obtain ⟨em, hem⟩ : ∃ z, decide (m = []) = z := ⟨_, rfl⟩
    rw [htb] at HL9 HBD0
    rw [hem] at HBD0 hE0
    clear hm hA2e hA3e hA4e hB2e hB3e hB4e hbad htb hem hA2 hA3
    have hNX : N ≠ w1.heap.size := by omega
    have hNR : N ≠ w.heap.size := by omega
    have hXR : w1.heap.size ≠ w.heap.size := by omega
    go_wp2_with fail
    refine HQ3.out.mono ?_
    rintro e w3 ⟨rfl, r3, t3⟩
    have hz5 := t3.size
    have R3 := hide r3
    have T3 := hide (T2.out.trans t3)
    have XR3 := hide (XR2.out.turn t3 (fun e => by omega))
    have XX3 := hide (XX2.out.turn t3 (fun e => by omega))
    clear r3 t3 T2 XR2 XX2 HQ3 R2
    go_wp2_with fail
    refine (HQ4.out _ R3.out).mono ?_
    rintro e w4 ⟨rfl, r4, t4⟩
    have hz6 := t4.size
    have R4 := hide r4
    have T4 := hide (T3.out.trans t4)
    have XR4 := hide (XR3.out.turn t4 (fun e => by omega))
    have XX4 := hide (XX3.out.turn t4 (fun e => by omega))
    clear r4 t4 T3 XR3 XX3 HQ4 R3
    go_wp2_with fail
    refine (HQ5.out _ R4.out).mono ?_
    rintro e w5 ⟨rfl, r5, t5⟩
    have hz7 := t5.size
    have XR5 := hide (XR4.out.turn t5 (fun e => by omega))
    have XX5 := hide (XX4.out.turn t5 (fun e => by omega))
    obtain ⟨x2, g2⟩ := XX5.out.2 2 _ rfl
    obtain ⟨tg, htg⟩ : ∃ z, (⟨#[34]⟩ : ByteArray) ++ bytesOf m ++ ⟨#[34]⟩ = z := ⟨_, rfl⟩
    rw [htg] at HTG
    rw [← HTG.out] at HL9 HG
    have XX6 := hide (XX5.out.set 2 (by simp) (.string tg))
    have XR6 := hide (XR5.out.other ⟨w1.heap.size, 2, none⟩ (.string tg) hXR)
    have T6 := hide ((T4.out.trans t5).setNew ⟨w1.heap.size, 2, none⟩ (.string tg) (by show w.heap.size ≤ w1.heap.size; omega))
    have R6 := hide (r5.other ⟨w1.heap.size, 2, none⟩ (.string tg) (fun e => hNX e.symm))
    obtain ⟨w6, hw6⟩ : ∃ W, w5.setCell ⟨w1.heap.size, 2, none⟩ (.string tg) = W := ⟨_, rfl⟩
    rw [hw6] at XX6 XR6 T6 R6
    have n2 := R6.out.c2
    have f2 := R6.out.fz 2
    have v2 := (XX6.out.2 2 _ rfl).1
    have XX7 := hide (XX6.out.other ⟨N, 2, none⟩ (.bool bad) hNX)
    have XR7 := hide (XR6.out.other ⟨N, 2, none⟩ (.bool bad) hNR)
    have T7 := hide (T6.out.trans (Turn.set _ ⟨N, 2, none⟩ (.bool bad) rfl))
    have R7 := hide (R6.out.turned bad)
    obtain ⟨w7, hw7⟩ : ∃ W, w6.setCell ⟨N, 2, none⟩ (.bool bad) = W := ⟨_, rfl⟩
    rw [hw7] at XX7 XR7 T7 R7
    have y0 := (XX7.out.2 0 _ rfl).1
    have y1 := (XX7.out.2 1 _ rfl).1
    have y2 := (XX7.out.2 2 _ rfl).1
    obtain ⟨q0, k0⟩ := XR7.out.2 0 _ rfl
    obtain ⟨q1, k1⟩ := XR7.out.2 1 _ rfl
    obtain ⟨q2, k2⟩ := XR7.out.2 2 _ rfl
    have R8 := hide (((R7.out.other ⟨w.heap.size, 0, none⟩ (.bool z1) (fun e => hNR e.symm)).other ⟨w.heap.size, 1, none⟩ (.int .i64 0) (fun e => hNR e.symm)).other ⟨w.heap.size, 2, none⟩ (.string tg) (fun e => hNR e.symm))
    have T8 := hide (((T7.out.setNew ⟨w.heap.size, 0, none⟩ (.bool z1) (Nat.le_refl _)).setNew ⟨w.heap.size, 1, none⟩ (.int .i64 0) (Nat.le_refl _)).setNew ⟨w.heap.size, 2, none⟩ (.string tg) (Nat.le_refl _))
    have HF := hide (fun W (e : bad = badG s a1) => HG.out W _ bad ha (by trivial) rfl e)
    clear r5 t5 T4 XR4 XX4 HQ5 R4 XR5 XX5 XX6 XR6 T6 R6 XX7 XR7 T7 R7 HG HTG
    cases B4
    · cases tb
      · cases em
        · have hb1 : bad = true := by rw [HBD0.out]; rfl
          subst hb1
          go_wp2_with fail
          refine (HL9.out _).mono ?_
          rintro e w8 ⟨rfl, hw⟩
          obtain rfl := hw.symm
          clear hw
          go_wp2
          refine bodyPost_ret (v := .agg #[.bool z1, .int .i64 0, .string tg]) (by simp [results, Tryz.results53, go_sem, q0, q1, q2]) rfl ⟨HF.out _ HBD.out.symm R8.out, T8.out⟩
        · have hb1 : bad = true := by rw [HBD0.out]; rfl
          subst hb1
          go_wp2_with fail
          refine (HL9.out _).mono ?_
          rintro e w8 ⟨rfl, hw⟩
          obtain rfl := hw.symm
          clear hw
          go_wp2
          refine bodyPost_ret (v := .agg #[.bool z1, .int .i64 0, .string tg]) (by simp [results, Tryz.results53, go_sem, q0, q1, q2]) rfl ⟨HF.out _ HBD.out.symm R8.out, T8.out⟩
      · cases em
        · have hb1 : bad = false := by rw [HBD0.out]; rfl
          subst hb1
          go_wp2_with fail
          refine (HL9.out _).mono ?_
          rintro e w8 ⟨rfl, hw⟩
          obtain rfl := hw.symm
          clear hw
          go_wp2
          refine bodyPost_ret (v := .agg #[.bool z1, .int .i64 0, .string tg]) (by simp [results, Tryz.results53, go_sem, q0, q1, q2]) rfl ⟨HF.out _ HBD.out.symm R8.out, T8.out⟩
        · have hb1 : bad = true := by rw [HBD0.out]; rfl
          subst hb1
          go_wp2_with fail
          refine (HL9.out _).mono ?_
          rintro e w8 ⟨rfl, hw⟩
          obtain rfl := hw.symm
          clear hw
          go_wp2
          refine bodyPost_ret (v := .agg #[.bool z1, .int .i64 0, .string tg]) (by simp [results, Tryz.results53, go_sem, q0, q1, q2]) rfl ⟨HF.out _ HBD.out.symm R8.out, T8.out⟩
    · have hb1 : bad = true := by rw [HBD0.out]; rfl
      subst hb1
      go_wp2
      refine bodyPost_ret (v := .agg #[.bool z1, .int .i64 0, .string tg]) (by simp [results, Tryz.results53, go_sem, q0, q1, q2]) rfl ⟨HF.out _ HBD.out.symm R8.out, T8.out⟩
  · clear HG HZZ
    have HQ3 := hide (l14To_any N s 62 a2 false w2 R2.out ha2 (by omega))
    rw [show ((62 : UInt8).toNat : Int) = 62 from rfl, Bool.false_or] at HQ3
    obtain ⟨t, ht⟩ : ∃ t, toT s a2 62 = t := ⟨_, rfl⟩
    obtain ⟨b, hb⟩ : ∃ b, toB s a2 62 = b := ⟨_, rfl⟩
    obtain ⟨a3, hA3⟩ : ∃ b, toA s a2 62 = b := ⟨_, rfl⟩
    have HB := hide (show badT s a2 = (b || (!(parseNum t 9999).2 || decide ((parseNum t 9999).1 < 1))) by unfold badT; rw [ht, hb])
    have htl : t.length ≤ s.size := by rw [← ht]; exact toT_len
    rw [ht, hb, hA3] at HQ3
    rw [ht, hA3] at HZ
    have HPN := hide (fun W => specParseNum_any (bytesOf t) 9999 W (by rw [bytesOf_size]; unfold maxLen; omega))
    rw [show (bytesOf t).data.toList = t from rfl] at HPN
    obtain ⟨n, hn⟩ : ∃ n, (parseNum t 9999).1 = n := ⟨_, rfl⟩
    obtain ⟨ok, hok⟩ : ∃ n, (parseNum t 9999).2 = n := ⟨_, rfl⟩
    rw [hn, hok] at HPN HB
    rw [hn] at HZ
    clear ht hb hA3 hn hok htl
    go_wp2_with fail
    refine HQ3.out.mono ?_
    rintro e w3 ⟨rfl, r3, t3⟩
    have hz5 := t3.size
    have R3 := hide r3
    have T3 := hide (T2.out.trans t3)
    have XR3 := hide (XR2.out.turn t3 (fun e => by omega))
    have XX3 := hide (XX2.out.turn t3 (fun e => by omega))
    clear r3 t3 T2 XR2 XX2 HQ3 R2
    go_wp2_with fail
    refine (HPN.out _).mono ?_
    rintro e w3' ⟨rfl, hw⟩
    obtain rfl := hw.symm
    clear hw HPN
    have hNX : N ≠ w1.heap.size := by omega
    have hNR : N ≠ w.heap.size := by omega
    have hXR : w1.heap.size ≠ w.heap.size := by omega
    obtain ⟨x1, g1⟩ := XX3.out.2 1 _ rfl
    have XX4 := hide (XX3.out.set 1 (by simp) (.int .i64 n))
    have XR4 := hide (XR3.out.other ⟨w1.heap.size, 1, none⟩ (.int .i64 n) hXR)
    have T4 := hide (T3.out.setNew ⟨w1.heap.size, 1, none⟩ (.int .i64 n) (by show w.heap.size ≤ w1.heap.size; omega))
    have R4 := hide (R3.out.other ⟨w1.heap.size, 1, none⟩ (.int .i64 n) (fun e => hNX e.symm))
    obtain ⟨w4, hw4⟩ : ∃ W, w3.setCell ⟨w1.heap.size, 1, none⟩ (.int .i64 n) = W := ⟨_, rfl⟩
    rw [hw4] at XX4 XR4 T4 R4
    have n2 := R4.out.c2
    have f2 := R4.out.fz 2
    obtain ⟨bad, hbad⟩ : ∃ z, badT s a2 = z := ⟨_, rfl⟩
    have HBD := hide hbad
    rw [hbad] at HB
    have XX5 := hide (XX4.out.other ⟨N, 2, none⟩ (.bool bad) hNX)
    have XR5 := hide (XR4.out.other ⟨N, 2, none⟩ (.bool bad) hNR)
    have T5 := hide (T4.out.trans (Turn.set _ ⟨N, 2, none⟩ (.bool bad) rfl))
    have R5 := hide (R4.out.turned bad)
    obtain ⟨w5, hw5⟩ : ∃ W, w4.setCell ⟨N, 2, none⟩ (.bool bad) = W := ⟨_, rfl⟩
    rw [hw5] at XX5 XR5 T5 R5
    have y0 := (XX5.out.2 0 _ rfl).1
    have y1 := (XX5.out.2 1 _ rfl).1
    have y2 := (XX5.out.2 2 _ rfl).1
    obtain ⟨q0, k0⟩ := XR5.out.2 0 _ rfl
    obtain ⟨q1, k1⟩ := XR5.out.2 1 _ rfl
    obtain ⟨q2, k2⟩ := XR5.out.2 2 _ rfl
    have R6 := hide (((R5.out.other ⟨w.heap.size, 0, none⟩ (.bool z1) (fun e => hNR e.symm)).other ⟨w.heap.size, 1, none⟩ (.int .i64 n) (fun e => hNR e.symm)).other ⟨w.heap.size, 2, none⟩ (.string { data := #[] }) (fun e => hNR e.symm))
    have T6 := hide (((T5.out.setNew ⟨w.heap.size, 0, none⟩ (.bool z1) (Nat.le_refl _)).setNew ⟨w.heap.size, 1, none⟩ (.int .i64 n) (Nat.le_refl _)).setNew ⟨w.heap.size, 2, none⟩ (.string { data := #[] }) (Nat.le_refl _))
    have HF := hide (fun W (e : bad = badT s a2) => HZ.out W _ bad ha (by trivial) rfl e)
    clear R3 T3 XR3 XX3 hbad XX4 XR4 XX5 XR5 T4 R4 T5 R5 HZ
    by_cases hlt : n < 1
    · have hl2 : decide (n < 1) = true := decide_eq_true hlt
      rw [hl2] at HB
      cases b
      · cases ok
        · have hb1 : bad = true := by rw [HB.out]; rfl
          subst hb1
          go_wp2
          refine bodyPost_ret (v := .agg #[.bool z1, .int .i64 n, .string { data := #[] }]) (by simp [results, Tryz.results53, go_sem, q0, q1, q2]) rfl ⟨HF.out _ HBD.out.symm R6.out, T6.out⟩
        · have hb1 : bad = true := by rw [HB.out]; rfl
          subst hb1
          go_wp2
          refine bodyPost_ret (v := .agg #[.bool z1, .int .i64 n, .string { data := #[] }]) (by simp [results, Tryz.results53, go_sem, q0, q1, q2]) rfl ⟨HF.out _ HBD.out.symm R6.out, T6.out⟩
      · cases ok
        · have hb1 : bad = true := by rw [HB.out]; rfl
          subst hb1
          go_wp2
          refine bodyPost_ret (v := .agg #[.bool z1, .int .i64 n, .string { data := #[] }]) (by simp [results, Tryz.results53, go_sem, q0, q1, q2]) rfl ⟨HF.out _ HBD.out.symm R6.out, T6.out⟩
        · have hb1 : bad = true := by rw [HB.out]; rfl
          subst hb1
          go_wp2
          refine bodyPost_ret (v := .agg #[.bool z1, .int .i64 n, .string { data := #[] }]) (by simp [results, Tryz.results53, go_sem, q0, q1, q2]) rfl ⟨HF.out _ HBD.out.symm R6.out, T6.out⟩
    · have hl2 : decide (n < 1) = false := decide_eq_false hlt
      rw [hl2] at HB
      cases b
      · cases ok
        · have hb1 : bad = true := by rw [HB.out]; rfl
          subst hb1
          go_wp2
          refine bodyPost_ret (v := .agg #[.bool z1, .int .i64 n, .string { data := #[] }]) (by simp [results, Tryz.results53, go_sem, q0, q1, q2]) rfl ⟨HF.out _ HBD.out.symm R6.out, T6.out⟩
        · have hb1 : bad = false := by rw [HB.out]; rfl
          subst hb1
          go_wp2
          refine bodyPost_ret (v := .agg #[.bool z1, .int .i64 n, .string { data := #[] }]) (by simp [results, Tryz.results53, go_sem, q0, q1, q2]) rfl ⟨HF.out _ HBD.out.symm R6.out, T6.out⟩
      · cases ok
        · have hb1 : bad = true := by rw [HB.out]; rfl
          subst hb1
          go_wp2
          refine bodyPost_ret (v := .agg #[.bool z1, .int .i64 n, .string { data := #[] }]) (by simp [results, Tryz.results53, go_sem, q0, q1, q2]) rfl ⟨HF.out _ HBD.out.symm R6.out, T6.out⟩
        · have hb1 : bad = true := by rw [HB.out]; rfl
          subst hb1
          go_wp2
          refine bodyPost_ret (v := .agg #[.bool z1, .int .i64 n, .string { data := #[] }]) (by simp [results, Tryz.results53, go_sem, q0, q1, q2]) rfl ⟨HF.out _ HBD.out.symm R6.out, T6.out⟩
end Go.Proofs.YtmgikfeknmbpbaaGreatDoor
