/-
  What the program's putLines does.
  What the program's headsOk does.
  What the program's headsOk and ReqOk do.
  What the program's putAhead does.
  A list of one head, and of none.
  Plain facts on texts that are cut in two: no program in sight.
-/
import Derived.Test.YtkhnkockdfmkgaaGreatDoorMathLines
import Derived.Test.YtkhnkockdfmkgaaGreatDoorLower
import Derived.Test.YtkhnkockdfmkgaaGreatDoorAllOf
import Derived.Test.YtkhnkockdfmkgaaGreatDoorMathBack
namespace Go.Proofs.YtkhnkockdfmkgaaGreatDoor
open Go.RowKit M
set_option linter.unusedVariables false

set_option maxRecDepth 100000 in
set_option maxHeartbeats 4000000 in
theorem putLines_any (top : ByteArray) (a : Option Addr) (hs : List Hd) (cap B : Nat) (a2 : Option Addr) (hs2 : List Hd) (cap2 B2 : Nat) (w : World) (h : Hds w B a hs) (hB : B ≤ w.heap.size) (h2 : Hds w B2 a2 hs2) (hB2 : B2 ≤ w.heap.size) (ht : top.size ≤ 4194000) (hl : hs.length ≤ 1048576) (hsum : sumH hs ≤ 1048576) (hl2 : hs2.length ≤ 16) (hsum2 : sumH hs2 ≤ 1048576) :
    Calls Tryz.prog 77 #[.string top, .slice a hs.length cap, .slice a2 hs2.length cap2] w fun e w' => (∃ v, e = .returned v ∧ OwnY w' w.heap.size v (linesTxt top.data.toList hs hs2) ∧ (linesTxt top.data.toList hs hs2).length ≤ 33554432) ∧ Below w.heap.size w w' := by
  have HH := hide h
  have HH2 := hide h2
  clear h h2
  obtain ⟨sx, hsx⟩ : ∃ sx, top ++ (⟨#[13, 10]⟩ : ByteArray) = sx := ⟨_, rfl⟩
  have hcv := Lib.run_convert_string_bytes (P := Tryz.prog) w 9 22 5 sx Tryz.underlying9 Tryz.underlying22 Tryz.underlying5
  have hsz : sx.size ≤ 4194304 := by
    rw [← hsx]
    simp only [ByteArray.size_append]
    have e3 : (⟨#[13, 10]⟩ : ByteArray).size = 2 := rfl
    omega
  have HSX : Hid (sx.data.toList = top.data.toList ++ crlf) := by
    show sx.data.toList = top.data.toList ++ crlf
    rw [← hsx]
    simp [crlf]
  have HO1 := hide (OwnY.made w sx (by omega))
  go_enter Tryz.func77, Tryz.ntmps77
  go_wp2
  clear hcv hsx
  go_loopw [7, 17] (fun bv i wr => ∃ (k : Nat) (l : List UInt8), k ≤ hs.length ∧ i = .int .i64 k ∧ l = top.data.toList ++ crlf ++ hdsTxt (hs.take k) ∧ OwnY wr w.heap.size bv l ∧ Below w.heap.size w wr) (fun _ i _ => hs.length - (intOf i).toNat)
  case atStart => exact ⟨0, sx.data.toList, Nat.zero_le _, rfl, by rw [HSX.out]; simp [hdsTxt], HO1.out, below_bytesP w sx⟩
  case round =>
    obtain ⟨k, l, hk, rfl, hL, ho, hbe⟩ := hrel
    have hlz : l.length ≤ 16777216 := by
      have e : sx.data.toList.length = sx.size := Array.length_toList
      rw [hL, List.length_append, ← HSX.out, e, hdsTxt_len]
      have := sumH_take hs k
      rw [List.length_take]; omega
    have HL := hide hL
    clear hL
    by_cases hlt : k < hs.length
    · obtain ⟨b, o, rfl, hb, hc⟩ := HH.out.below hbe hB (by omega)
      have hcx := (hc k hlt).1
      have hcy := (hc k hlt).2
      have HS : Hid (hdsTxt (hs.take (k + 1)) = hdsTxt (hs.take k) ++ hdTxt hs[k]) := hdsTxt_snoc hs k hlt
      have hz1 : (hs[k]).1.size ≤ 1048576 := Nat.le_trans (sumH_mem hs _ (List.getElem_mem hlt)).1 hsum
      have hz2 : (hs[k]).2.size ≤ 1048576 := Nat.le_trans (sumH_mem hs _ (List.getElem_mem hlt)).2 hsum
      have ba : Below wr.heap.size wr (wr.alloc (Obj.cells #[.string hs[k].1, .string hs[k].2] 65)) := (Below.refl _ _).alloc (Nat.le_refl _) _
      have HP := hide (putHead_any _ w.heap.size u7 l hs[k].1 hs[k].2 (ho.next ba) (Nat.le_trans hbe.size ba.size) (by omega) (by omega) (by omega))
      have ca := hide (hbe.trans (ba.mono hbe.size))
      clear hc ho ba
      go_wp2_with fail
      refine HP.out.mono ?_
      rintro e w2 ⟨⟨v2, rfl, ho2⟩, b2⟩
      have c2 := ca.out.trans b2
      have HO2 := hide ho2
      clear ho2 HP
      go_wp2
      go_roundw
      case rel => exact ⟨k + 1, _, by omega, by go_num, by rw [HS.out, HL.out, List.append_assoc], HO2.out, c2⟩
      case measure => simp [intOf]; omega
    · have HL2 : Hid (l = top.data.toList ++ crlf ++ hdsTxt hs) := by
        show l = _
        rw [HL.out, List.take_of_length_le (by omega)]
      have HO3 := hide ho
      clear ho HL
      go_wp2
      go_loopw [7, 27] (fun bv i wr2 => ∃ (j : Nat) (l2 : List UInt8), j ≤ hs2.length ∧ i = .int .i64 j ∧ l2 = top.data.toList ++ crlf ++ hdsTxt hs ++ hdsTxt (hs2.take j) ∧ OwnY wr2 w.heap.size bv l2 ∧ Below w.heap.size w wr2) (fun _ i _ => hs2.length - (intOf i).toNat)
      case atStart => exact ⟨0, l, Nat.zero_le _, rfl, by rw [HL2.out]; simp [hdsTxt], HO3.out, hbe⟩
      case round =>
        clear hbe HO3 hlz
        obtain ⟨j, l2, hj, rfl, hL, ho, hbe⟩ := hrel
        have hlz : l2.length ≤ 16777216 := by
          have e : sx.data.toList.length = sx.size := Array.length_toList
          rw [hL, List.length_append, List.length_append, ← HSX.out, e, hdsTxt_len, hdsTxt_len]
          have := sumH_take hs2 j
          rw [List.length_take]; omega
        have HL := hide hL
        clear hL
        by_cases hlt2 : j < hs2.length
        · obtain ⟨b, o, rfl, hb, hc⟩ := HH2.out.below hbe hB2 (by omega)
          have hcx := (hc j hlt2).1
          have hcy := (hc j hlt2).2
          have HS : Hid (hdsTxt (hs2.take (j + 1)) = hdsTxt (hs2.take j) ++ hdTxt hs2[j]) := hdsTxt_snoc hs2 j hlt2
          have hz1 : (hs2[j]).1.size ≤ 1048576 := Nat.le_trans (sumH_mem hs2 _ (List.getElem_mem hlt2)).1 hsum2
          have hz2 : (hs2[j]).2.size ≤ 1048576 := Nat.le_trans (sumH_mem hs2 _ (List.getElem_mem hlt2)).2 hsum2
          have ba : Below wr.heap.size wr (wr.alloc (Obj.cells #[.string hs2[j].1, .string hs2[j].2] 65)) := (Below.refl _ _).alloc (Nat.le_refl _) _
          have HP := hide (putHead_any _ w.heap.size u7 l2 hs2[j].1 hs2[j].2 (ho.next ba) (Nat.le_trans hbe.size ba.size) (by omega) (by omega) (by omega))
          have ca := hide (hbe.trans (ba.mono hbe.size))
          clear hc ho ba
          go_wp2_with fail
          refine HP.out.mono ?_
          rintro e w2 ⟨⟨v2, rfl, ho2⟩, b2⟩
          have c2 := ca.out.trans b2
          have HO2 := hide ho2
          clear ho2 HP
          go_wp2
          go_roundw
          case rel => exact ⟨j + 1, _, by omega, by go_num, by rw [HS.out, HL.out, List.append_assoc], HO2.out, c2⟩
          case measure => simp [intOf]; omega
        · have HO3 := hide ho
          go_wp2_with (at_builtin; refine wp_append_text rfl _ _ rfl w.heap.size u7 l2 rfl HO3.out ⟨#[13, 10]⟩ rfl ?c1 ?c2 ?_)
          case c1 => have e2 : (⟨#[13, 10]⟩ : ByteArray).size = 2 := rfl; omega
          case c2 => exact hbe.size
          intro v4 w4 ho4 hg4 hb4
          have c4 := hbe.trans (HO3.out.grown hbe.size hg4)
          have HE4 : l2 ++ (⟨#[13, 10]⟩ : ByteArray).data.toList = linesTxt top.data.toList hs hs2 := by
            show l2 ++ [13, 10] = linesTxt top.data.toList hs hs2
            rw [HL.out, List.take_of_length_le (by omega)]
            simp [linesTxt, crlf]
          have hLz : (linesTxt top.data.toList hs hs2).length ≤ 33554432 := by
            rw [← HE4, List.length_append]
            have e : (⟨#[13, 10]⟩ : ByteArray).data.toList.length = 2 := rfl
            omega
          rw [HE4] at ho4
          have HO4 := hide ho4
          clear HE4 ho4 hg4 hb4 ho
          go_wp2
          go_ret
          exact ⟨⟨_, rfl, HO4.out, hLz⟩, c4⟩
end Go.Proofs.YtkhnkockdfmkgaaGreatDoor
namespace Go.Proofs.YtkhnkockdfmkgaaGreatDoor
open Go.RowKit M
set_option linter.unusedVariables false

set_option maxHeartbeats 2000000 in
theorem headsOk_any (a : Option Addr) (hs : List Hd) (cap B : Nat) (w : World) (h : Hds w B a hs) (hB : B ≤ w.heap.size) (hsh : ShortH hs) (hz : ∀ x ∈ hs, x.2.size ≤ 281474976710656) (hl : hs.length ≤ maxLen) :
    Calls Tryz.prog 52 #[.slice a hs.length cap] w fun e w' => e = .returned (.bool (hdsB hs)) ∧ Below w.heap.size w w' := by
  unfold maxLen at hl
  by_cases h8 : hs.length ≤ 8
  · have h8' : ¬ (8 : Int) < hs.length := by omega
    go_enter Tryz.func52, Tryz.ntmps52
    go_wp2
    go_loopw [10] (fun i wr => ∃ k : Nat, k ≤ hs.length ∧ i = .int .i64 k ∧ (hs.take k).all hdFree = true ∧ Below w.heap.size w wr) (fun i _ => hs.length - (intOf i).toNat)
    case atStart => exact ⟨0, Nat.zero_le _, rfl, rfl, Below.refl _ _⟩
    case round =>
      obtain ⟨k, hk, rfl, hn, hbe⟩ := hrel
      have HN : Hid ((hs.take k).all hdFree = true) := hn; clear hn
      by_cases hlt : k < hs.length
      · obtain ⟨b, o, rfl, hb, hc⟩ := (h.below hbe hB) (by omega)
        have hcx := (hc k hlt).1
        have hcy := (hc k hlt).2
        have hsz := hsh.at k hlt
        have hzk := hz _ (List.getElem_mem hlt)
        clear hc
        have BH0 := hide (BoxH.made wr hs[k].1 hs[k].2 65)
        have c0 := hbe.alloc hbe.size (Obj.cells #[Value.string hs[k].1, Value.string hs[k].2] 65)
        have C0 := hide c0
        clear c0
        cases h1 : hdB hs[k]
        · have HE : Hid (hdsB hs = false) := hdsB_not hs k hlt (by simp [hdFree, h1])
          go_wp2_with fail
          refine (headOk_any hs[k].1 hs[k].2 _ hsz.1 hsz.2 hzk).mono ?_
          rintro e w1 ⟨rfl, b1⟩
          rw [show hdB (hs[k].1, hs[k].2) = false from h1]
          have c1 := C0.out.trans (b1.mono C0.out.size)
          go_wp2
          go_ret
          exact ⟨ret_bool HE.out.symm, c1⟩
        · go_wp2_with fail
          refine (headOk_any hs[k].1 hs[k].2 _ hsz.1 hsz.2 hzk).mono ?_
          rintro e w1 ⟨rfl, b1⟩
          rw [show hdB (hs[k].1, hs[k].2) = true from h1]
          have c1 := C0.out.trans (b1.mono C0.out.size)
          have BH1 := hide (BH0.out.next b1)
          have x1 := BH1.out
          obtain ⟨_, x10, x11⟩ := x1
          by_cases h3 : hs[k].1 = lenName
          · have HE : Hid (hdsB hs = false) := hdsB_not hs k hlt (by simp [hdFree, h3])
            have HD := hide (decide_eq_true h3)
            clear h3
            go_wp2_with fail
            refine (tellsLength_any hs[k].1 hs[k].2 w1).mono ?_
            rintro e w2 ⟨rfl, b2⟩
            rw [HD.out]
            have c2 := c1.trans (b2.mono c1.size)
            go_wp2
            go_ret
            exact ⟨ret_bool HE.out.symm, c2⟩
          · have HD := hide (decide_eq_false h3)
            go_wp2_with fail
            refine (tellsLength_any hs[k].1 hs[k].2 w1).mono ?_
            rintro e w2 ⟨rfl, b2⟩
            rw [HD.out]
            have c2 := c1.trans (b2.mono c1.size)
            have x2 := BH1.out.next b2
            obtain ⟨_, x20, x21⟩ := x2
            by_cases h4 : hs[k].1 = codName
            · have HE : Hid (hdsB hs = false) := hdsB_not hs k hlt (by simp [hdFree, h4])
              have HD4 := hide (decide_eq_true h4)
              clear h3 h4
              go_wp2_with fail
              refine (tellsCoding_any hs[k].1 hs[k].2 w2).mono ?_
              rintro e w3 ⟨rfl, b3⟩
              rw [HD4.out]
              go_wp2
              go_ret
              exact ⟨ret_bool HE.out.symm, c2.trans (b3.mono c2.size)⟩
            · have HE : Hid ((hs.take (k + 1)).all hdFree = true) := hdsB_snoc hs k hlt HN.out (by simp [hdFree, h1, h3, h4])
              have HD4 := hide (decide_eq_false h4)
              clear h3 h4
              go_wp2_with fail
              refine (tellsCoding_any hs[k].1 hs[k].2 w2).mono ?_
              rintro e w3 ⟨rfl, b3⟩
              rw [HD4.out]
              have c3 := c2.trans (b3.mono c2.size)
              go_wp2
              go_roundw
              case rel => exact ⟨k + 1, by omega, by go_num, HE.out, c3⟩
              case measure => simp [intOf]; omega
      · have HE : Hid (hdsB hs = true) := by
          show hdsB hs = true
          rw [hdsB_all hs k hlt HN.out]; simp [h8]
        go_wp2
        go_ret
        exact ⟨ret_bool HE.out.symm, hbe⟩
  · have HE := hide (hdsB_long hs h8)
    go_enter Tryz.func52, Tryz.ntmps52
    go_wp2
    go_ret
    exact ⟨ret_bool HE.out.symm, Below.refl _ _⟩
end Go.Proofs.YtkhnkockdfmkgaaGreatDoor
namespace Go.Proofs.YtkhnkockdfmkgaaGreatDoor
open Go.RowKit M
set_option linter.unusedVariables false

/-- Short enough for a copy of each text. -/
def FitR (r : Rq) : Prop := ShortR r ∧ ∀ x ∈ r.hs, x.2.size ≤ 281474976710656

set_option maxHeartbeats 2000000 in
theorem reqOk_any (a : Option Addr) (r : Rq) (cap B : Nat) (w : World) (h : Hds w B a r.hs) (hB : B ≤ w.heap.size) (hfit : FitR r) :
    Calls Tryz.prog 15 #[.agg #[.string r.m, .string r.p, .slice a r.hs.length cap, .string r.b]] w fun e w' => e = .returned (.bool (reqB r)) ∧ Below w.heap.size w w' := by
  obtain ⟨⟨q1, q2, q3, q4, q5⟩, q6⟩ := hfit
  have HM : Hid (methB r.m = false → reqB r = false) := reqB_m
  have HP : Hid (targB r.p = false → reqB r = false) := reqB_p
  have HH : Hid (hdsB r.hs = false → reqB r = false) := reqB_h
  have HA : Hid (methB r.m = true → targB r.p = true → hdsB r.hs = true → reqB r = decide ((r.b.size : Int) ≤ 200)) := reqB_b
  have q3' := q3
  unfold maxLen at q3'
  have hb0 : Below w.heap.size w (w.alloc (Obj.cells #[Value.string r.m, Value.string r.p, Value.slice a r.hs.length cap, Value.string r.b] 26)) := (Below.refl _ _).alloc (Nat.le_refl _) _
  have BX0 := hide (BoxR.made w a cap r 26)
  have HD := hide h
  have C0 := hide hb0
  obtain ⟨z, hz⟩ : ∃ z, reqB r = z := ⟨_, rfl⟩
  rw [hz] at HM HP HH HA ⊢
  clear hz h hb0
  cases h1 : methB r.m
  · have hz := HM.out h1
    subst hz
    go_enter Tryz.func15, Tryz.ntmps15
    go_wp2_with fail
    refine (methodOk_any r.m _ q1).mono ?_
    rintro e w1 ⟨rfl, b1⟩
    rw [h1]
    have c1 := C0.out.trans (b1.mono C0.out.size)
    go_wp2
    go_ret
    exact ⟨rfl, c1⟩
  · cases h2 : targB r.p
    · have hz := HP.out h2
      subst hz
      go_enter Tryz.func15, Tryz.ntmps15
      go_wp2_with fail
      refine (methodOk_any r.m _ q1).mono ?_
      rintro e w1 ⟨rfl, b1⟩
      rw [h1]
      have c1 := C0.out.trans (b1.mono C0.out.size)
      have BX1 := hide (BX0.out.next b1)
      have x1 := BX1.out
      obtain ⟨_, x10, x11, x12, x13⟩ := x1
      go_wp2_with fail
      refine (targetOk_any r.p w1 q2).mono ?_
      rintro e w2 ⟨rfl, b2⟩
      rw [h2]
      have c2 := c1.trans (b2.mono c1.size)
      go_wp2
      go_ret
      exact ⟨rfl, c2⟩
    · cases h3 : hdsB r.hs
      · have hz := HH.out h3
        subst hz
        go_enter Tryz.func15, Tryz.ntmps15
        go_wp2_with fail
        refine (methodOk_any r.m _ q1).mono ?_
        rintro e w1 ⟨rfl, b1⟩
        rw [h1]
        have c1 := C0.out.trans (b1.mono C0.out.size)
        have BX1 := hide (BX0.out.next b1)
        have x1 := BX1.out
        obtain ⟨_, x10, x11, x12, x13⟩ := x1
        go_wp2_with fail
        refine (targetOk_any r.p w1 q2).mono ?_
        rintro e w2 ⟨rfl, b2⟩
        rw [h2]
        have c2 := c1.trans (b2.mono c1.size)
        have BX2 := hide (BX1.out.next b2)
        clear x10 x11 x12 x13
        have x2 := BX2.out
        obtain ⟨_, x20, x21, x22, x23⟩ := x2
        go_wp2_with fail
        refine (headsOk_any a r.hs cap B w2 (HD.out.below c2 hB) (Nat.le_trans hB c2.size) q5 q6 q4).mono ?_
        rintro e w3 ⟨rfl, b3⟩
        rw [h3]
        have c3 := c2.trans (b3.mono c2.size)
        go_wp2
        go_ret
        exact ⟨rfl, c3⟩
      · have hz := HA.out h1 h2 h3
        subst hz
        go_enter Tryz.func15, Tryz.ntmps15
        go_wp2_with fail
        refine (methodOk_any r.m _ q1).mono ?_
        rintro e w1 ⟨rfl, b1⟩
        rw [h1]
        have c1 := C0.out.trans (b1.mono C0.out.size)
        have BX1 := hide (BX0.out.next b1)
        have x1 := BX1.out
        obtain ⟨_, x10, x11, x12, x13⟩ := x1
        go_wp2_with fail
        refine (targetOk_any r.p w1 q2).mono ?_
        rintro e w2 ⟨rfl, b2⟩
        rw [h2]
        have c2 := c1.trans (b2.mono c1.size)
        have BX2 := hide (BX1.out.next b2)
        clear x10 x11 x12 x13
        have x2 := BX2.out
        obtain ⟨_, x20, x21, x22, x23⟩ := x2
        go_wp2_with fail
        refine (headsOk_any a r.hs cap B w2 (HD.out.below c2 hB) (Nat.le_trans hB c2.size) q5 q6 q4).mono ?_
        rintro e w3 ⟨rfl, b3⟩
        rw [h3]
        have c3 := c2.trans (b3.mono c2.size)
        have BX3 := BX2.out.next b3
        clear x20 x21 x22 x23
        obtain ⟨_, x30, x31, x32, x33⟩ := BX3
        go_wp2
        go_ret
        exact ⟨rfl, c3⟩
end Go.Proofs.YtkhnkockdfmkgaaGreatDoor
namespace Go.Proofs.YtkhnkockdfmkgaaGreatDoor
open Go.RowKit M
set_option linter.unusedVariables false

set_option maxRecDepth 100000 in
set_option maxHeartbeats 4000000 in
theorem putAhead_no (a : Option Addr) (r : Rq) (cap B : Nat) (a2 : Option Addr) (n2 cap2 : Nat) (w : World) (h : Hds w B a r.hs) (hB : B ≤ w.heap.size) (hfit : FitR r) (hr : reqB r = false) :
    Calls Tryz.prog 41 #[.agg #[.string r.m, .string r.p, .slice a r.hs.length cap, .string r.b], .slice a2 n2 cap2] w fun e w' => e = .returned (.tuple #[.slice none 0 0, .bool false]) ∧ Below w.heap.size w w' := by
  have HB0 : Hid (Below w.heap.size w (w.alloc (Obj.cells #[Value.string r.m, Value.string r.p, Value.slice a r.hs.length cap, Value.string r.b] 26))) := (Below.refl _ _).alloc (Nat.le_refl _) _
  have HX0 := hide (BoxR.made w a cap r 26)
  have HH := hide h
  have HF := hide hfit
  clear h hfit
  go_enter Tryz.func41, Tryz.ntmps41
  go_wp2_with fail
  refine (reqOk_any a r cap B _ (HH.out.below HB0.out hB) (Nat.le_trans hB HB0.out.size) HF.out).mono ?_
  rintro e w1 ⟨rfl, b1⟩
  rw [hr]
  have c1 := HB0.out.trans (b1.mono HB0.out.size)
  go_wp2
  go_ret2
  exact ⟨rfl, c1⟩

set_option maxRecDepth 100000 in
set_option maxHeartbeats 4000000 in
theorem putAhead_yes (a : Option Addr) (r : Rq) (cap B : Nat) (a2 : Option Addr) (hs2 : List Hd) (cap2 : Nat) (w : World) (h : Hds w B a r.hs) (hB : B ≤ w.heap.size) (h2 : Hds w w.heap.size a2 hs2) (hfit : FitR r) (hl : r.hs.length ≤ 1048576) (hsum : sumH r.hs ≤ 1048576) (hl2 : hs2.length ≤ 16) (hsum2 : sumH hs2 ≤ 1048576) (h1 : r.m.size ≤ 1048576) (h2p : r.p.size ≤ 1048576) (hr : reqB r = true) :
    Calls Tryz.prog 41 #[.agg #[.string r.m, .string r.p, .slice a r.hs.length cap, .string r.b], .slice a2 hs2.length cap2] w fun e w' => (∃ v, e = .returned (.tuple #[v, .bool (decide ((frontL r (hdsTxt hs2)).length ≤ 400))]) ∧ OwnY w' w.heap.size v (frontL r (hdsTxt hs2)) ∧ (frontL r (hdsTxt hs2)).length ≤ 33554432) ∧ Below w.heap.size w w' := by
  have HB0 : Hid (Below w.heap.size w (w.alloc (Obj.cells #[Value.string r.m, Value.string r.p, Value.slice a r.hs.length cap, Value.string r.b] 26))) := (Below.refl _ _).alloc (Nat.le_refl _) _
  have HX0 := hide (BoxR.made w a cap r 26)
  have HH := hide h
  have HH2 := hide h2
  have HF := hide hfit
  clear h h2 hfit
  go_enter Tryz.func41, Tryz.ntmps41
  go_wp2_with fail
  refine (reqOk_any a r cap B _ (HH.out.below HB0.out hB) (Nat.le_trans hB HB0.out.size) HF.out).mono ?_
  rintro e w1 ⟨rfl, b1⟩
  rw [hr]
  have c1 := HB0.out.trans (b1.mono HB0.out.size)
  have BX1 := hide (HX0.out.next b1)
  have x1 := BX1.out
  obtain ⟨hlt1, x10, x11, x12, x13⟩ := x1
  obtain ⟨sx, hsx⟩ : ∃ sx, r.m ++ (⟨#[32]⟩ : ByteArray) ++ r.p ++ ⟨#[32]⟩ ++ ⟨#[72, 84, 84, 80, 47, 49, 46, 49]⟩ = sx := ⟨_, rfl⟩
  have hsz : sx.size ≤ 2200000 := by
    rw [← hsx]
    simp only [ByteArray.size_append]
    have e1 : (⟨#[32]⟩ : ByteArray).size = 1 := rfl
    have e2 : (⟨#[72, 84, 84, 80, 47, 49, 46, 49]⟩ : ByteArray).size = 8 := rfl
    omega
  have HSX : Hid (linesTxt sx.data.toList r.hs hs2 = frontL r (hdsTxt hs2)) := by
    show linesTxt sx.data.toList r.hs hs2 = frontL r (hdsTxt hs2)
    rw [← hsx]
    simp [linesTxt, frontL, topTxt, proto, crlf]
  have HP := hide (putLines_any sx a r.hs cap B a2 hs2 cap2 w.heap.size w1 (HH.out.below c1 hB) (Nat.le_trans hB c1.size) (HH2.out.below c1 (Nat.le_refl _)) c1.size (by omega) hl hsum hl2 hsum2)
  rw [HSX.out] at HP
  obtain ⟨L, hL⟩ : ∃ L, frontL r (hdsTxt hs2) = L := ⟨_, rfl⟩
  rw [hL] at HP
  have HLf := hide hL
  have C1 := hide c1
  clear hL hsz HSX
  go_wp2_with fail
  try rw [hsx]
  refine HP.out.mono ?_
  rintro e w2 ⟨⟨v2, rfl, o2, z2⟩, b2⟩
  have HO2 := hide o2
  obtain ⟨g4, k4, hv4, _, _, _, _, _⟩ := o2.byt
  subst hv4
  have C2 := hide (C1.out.trans (b2.mono C1.out.size))
  clear HP o2 b2 hsx x10 x11 x12 x13
  go_wp2
  refine bodyPost_ret (v := .tuple #[.slice (some ⟨g4, 0, none⟩) L.length k4, .bool (decide ((L.length : Int) ≤ 400))]) (by simp [results, Tryz.results41, go_sem]) rfl ?_
  rw [HLf.out]
  refine ⟨⟨_, ?_, HO2.out.base C1.out.size, z2⟩, C2.out⟩
  have e : decide ((L.length : Int) ≤ 400) = decide (L.length ≤ 400) := by
    by_cases h4 : L.length ≤ 400
    · rw [decide_eq_true h4, decide_eq_true (by omega)]
    · rw [decide_eq_false h4, decide_eq_false (by omega)]
  rw [e]
end Go.Proofs.YtkhnkockdfmkgaaGreatDoor
namespace Go.Proofs.YtkhnkockdfmkgaaGreatDoor
open Go.RowKit M
set_option linter.unusedVariables false

theorem Hds.one (w : World) (x y : ByteArray) (T : TypeId) : Hds (w.alloc (Obj.cells #[Value.string x, Value.string y] T)) (w.heap.size + 1) (some ⟨w.heap.size, 0, none⟩) [(x, y)] := fun _ =>
  ⟨w.heap.size, 0, rfl, Nat.lt_succ_self _, fun j hj => by
    have hj0 : j = 0 := by simp at hj; exact hj
    subst hj0
    exact ⟨(BoxH.made w x y T).2.1, (BoxH.made w x y T).2.2⟩⟩
theorem Hds.nil (w : World) (B : Nat) (a : Option Addr) : Hds w B a [] := fun h => absurd h (Nat.lt_irrefl _)
end Go.Proofs.YtkhnkockdfmkgaaGreatDoor
namespace Go.Proofs.YtkhnkockdfmkgaaGreatDoor
open M

theorem cut_to (t : ByteArray) (n : Nat) : t.extract 0 n = bytesOf (t.data.toList.take n) := by
  apply ByteArray.ext
  apply Array.toList_inj.1
  simp [bytesOf, ByteArray.data_extract]
theorem cut_from (t : ByteArray) (n : Nat) : (t.extract n t.size).data.toList = t.data.toList.drop n := by
  have : t.size = t.data.toList.length := (Array.length_toList).symm
  rw [ByteArray.data_extract, Array.toList_extract, this, List.extract_eq_take_drop, List.take_of_length_le (by rw [List.length_drop]; omega)]
theorem cut_none (t : ByteArray) : t.extract t.size t.size = ByteArray.empty := by
  apply ByteArray.ext
  have : (t.extract t.size t.size).data.size = 0 := by show (t.extract t.size t.size).size = 0; rw [ByteArray.size_extract]; omega
  exact Array.eq_empty_of_size_eq_zero this
end Go.Proofs.YtkhnkockdfmkgaaGreatDoor
