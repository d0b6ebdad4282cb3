/-
  What the program's putLines does.
  What the program's headsOk does.
  What the program's headsOk and ReqOk do.
  What the program's putAhead does.
  A list of one head, and of none.
  Plain facts on texts that are cut in two: no program in sight.
  What the program's piecesOf gives: the pieces that a body is cut into, one behind the other.
  What the specification's l1HexDigit and Hex do.
  The library's table of powers of ten, as the row lists it; that it stays where only new memory is laid.
  What the library's formatBits does at base 16.
  What the program's putChunk does.
  What the program's PutChunks does.
-/
import Derived.Test.YtkhnkockdfmkgaaGreatDoorMathLines
import Derived.Test.YtkhnkockdfmkgaaGreatDoorLower
import Derived.Test.YtkhnkockdfmkgaaGreatDoorAllOf
import Derived.Test.YtkhnkockdfmkgaaGreatDoorMathBack
import Derived.RangeFuncNested
import Derived.RangeFuncBound
import Derived.RangeFuncCalls
import Derived.RangeFuncLeaves
import Derived.RangeFuncBox
import Derived.Shelf.Abstract
import Derived.Shelf.RegionOpen
import Derived.WalkKit
import Derived.OwnWalkIn
import Derived.TacticsInMore
import Derived.LoopNIn
import Derived.LoopIn
import Derived.Test.YtkhnkockdfmkgaaGreatDoorMathRead2
import Derived.Test.YtkhnkockdfmkgaaGreatDoorSpecPl
import Derived.Test.YtkhnkockdfmkgaaGreatDoorRows
import Derived.Test.YtkhnkockdfmkgaaGreatDoorShelf
import Derived.WalkLawsBesides
import Derived.Lib.AppendIntMem
import Derived.Stop.LaidErr
namespace Go.Proofs.YtkhnkockdfmkgaaGreatDoor
open Go.RowKit M
set_option linter.unusedVariables false

set_option maxRecDepth 100000 in
set_option maxHeartbeats 4000000 in
theorem putLines_any (top : ByteArray) (a : Option Addr) (hs : List Hd) (cap B : Nat) (a2 : Option Addr) (hs2 : List Hd) (cap2 B2 : Nat) (w : World) (h : Hds w B a hs) (hB : B ≤ w.heap.size) (h2 : Hds w B2 a2 hs2) (hB2 : B2 ≤ w.heap.size) (ht : top.size ≤ 4194000) (hl : hs.length ≤ 1048576) (hsum : sumH hs ≤ 1048576) (hl2 : hs2.length ≤ 16) (hsum2 : sumH hs2 ≤ 1048576) :
    Calls Tryz.prog 77 #[.string top, .slice a hs.length cap, .slice a2 hs2.length cap2] w fun e w' => (∃ v, e = .returned v ∧ OwnY w' w.heap.size v (linesTxt top.data.toList hs hs2) ∧ (linesTxt top.data.toList hs hs2).length ≤ 33554432) ∧ Below w.heap.size w w' := by
  have HH := hide h
  have HH2 := hide h2
  clear h h2
  obtain ⟨sx, hsx⟩ : ∃ sx, top ++ (⟨#[13, 10]⟩ : ByteArray) = sx := ⟨_, rfl⟩
  have hcv := Lib.run_convert_string_bytes (P := Tryz.prog) w 9 22 5 sx Tryz.underlying9 Tryz.underlying22 Tryz.underlying5
  have hsz : sx.size ≤ 4194304 := by
    rw [← hsx]
    simp only [ByteArray.size_append]
    have e3 : (⟨#[13, 10]⟩ : ByteArray).size = 2 := rfl
    omega
  have HSX : Hid (sx.data.toList = top.data.toList ++ crlf) := by
    show sx.data.toList = top.data.toList ++ crlf
    rw [← hsx]
    simp [crlf]
  have HO1 := hide (OwnY.made w sx (by omega))
  go_enter Tryz.func77, Tryz.ntmps77
  go_wp2
  clear hcv hsx
  go_loopw [7, 17] (fun bv i wr => ∃ (k : Nat) (l : List UInt8), k ≤ hs.length ∧ i = .int .i64 k ∧ l = top.data.toList ++ crlf ++ hdsTxt (hs.take k) ∧ OwnY wr w.heap.size bv l ∧ Below w.heap.size w wr) (fun _ i _ => hs.length - (intOf i).toNat)
  case atStart => exact ⟨0, sx.data.toList, Nat.zero_le _, rfl, by rw [HSX.out]; simp [hdsTxt], HO1.out, below_bytesP w sx⟩
  case round =>
    obtain ⟨k, l, hk, rfl, hL, ho, hbe⟩ := hrel
    have hlz : l.length ≤ 16777216 := by
      have e : sx.data.toList.length = sx.size := Array.length_toList
      rw [hL, List.length_append, ← HSX.out, e, hdsTxt_len]
      have := sumH_take hs k
      rw [List.length_take]; omega
    have HL := hide hL
    clear hL
    by_cases hlt : k < hs.length
    · obtain ⟨b, o, rfl, hb, hc⟩ := HH.out.below hbe hB (by omega)
      have hcx := (hc k hlt).1
      have hcy := (hc k hlt).2
      have HS : Hid (hdsTxt (hs.take (k + 1)) = hdsTxt (hs.take k) ++ hdTxt hs[k]) := hdsTxt_snoc hs k hlt
      have hz1 : (hs[k]).1.size ≤ 1048576 := Nat.le_trans (sumH_mem hs _ (List.getElem_mem hlt)).1 hsum
      have hz2 : (hs[k]).2.size ≤ 1048576 := Nat.le_trans (sumH_mem hs _ (List.getElem_mem hlt)).2 hsum
      have ba : Below wr.heap.size wr (wr.alloc (Obj.cells #[.string hs[k].1, .string hs[k].2] 65)) := (Below.refl _ _).alloc (Nat.le_refl _) _
      have HP := hide (putHead_any _ w.heap.size u7 l hs[k].1 hs[k].2 (ho.next ba) (Nat.le_trans hbe.size ba.size) (by omega) (by omega) (by omega))
      have ca := hide (hbe.trans (ba.mono hbe.size))
      clear hc ho ba
      go_wp2_with fail
      refine HP.out.mono ?_
      rintro e w2 ⟨⟨v2, rfl, ho2⟩, b2⟩
      have c2 := ca.out.trans b2
      have HO2 := hide ho2
      clear ho2 HP
      go_wp2
      go_roundw
      case rel => exact ⟨k + 1, _, by omega, by go_num, by rw [HS.out, HL.out, List.append_assoc], HO2.out, c2⟩
      case measure => simp [intOf]; omega
    · have HL2 : Hid (l = top.data.toList ++ crlf ++ hdsTxt hs) := by
        show l = _
        rw [HL.out, List.take_of_length_le (by omega)]
      have HO3 := hide ho
      clear ho HL
      go_wp2
      go_loopw [7, 27] (fun bv i wr2 => ∃ (j : Nat) (l2 : List UInt8), j ≤ hs2.length ∧ i = .int .i64 j ∧ l2 = top.data.toList ++ crlf ++ hdsTxt hs ++ hdsTxt (hs2.take j) ∧ OwnY wr2 w.heap.size bv l2 ∧ Below w.heap.size w wr2) (fun _ i _ => hs2.length - (intOf i).toNat)
      case atStart => exact ⟨0, l, Nat.zero_le _, rfl, by rw [HL2.out]; simp [hdsTxt], HO3.out, hbe⟩
      case round =>
        clear hbe HO3 hlz
        obtain ⟨j, l2, hj, rfl, hL, ho, hbe⟩ := hrel
        have hlz : l2.length ≤ 16777216 := by
          have e : sx.data.toList.length = sx.size := Array.length_toList
          rw [hL, List.length_append, List.length_append, ← HSX.out, e, hdsTxt_len, hdsTxt_len]
          have := sumH_take hs2 j
          rw [List.length_take]; omega
        have HL := hide hL
        clear hL
        by_cases hlt2 : j < hs2.length
        · obtain ⟨b, o, rfl, hb, hc⟩ := HH2.out.below hbe hB2 (by omega)
          have hcx := (hc j hlt2).1
          have hcy := (hc j hlt2).2
          have HS : Hid (hdsTxt (hs2.take (j + 1)) = hdsTxt (hs2.take j) ++ hdTxt hs2[j]) := hdsTxt_snoc hs2 j hlt2
          have hz1 : (hs2[j]).1.size ≤ 1048576 := Nat.le_trans (sumH_mem hs2 _ (List.getElem_mem hlt2)).1 hsum2
          have hz2 : (hs2[j]).2.size ≤ 1048576 := Nat.le_trans (sumH_mem hs2 _ (List.getElem_mem hlt2)).2 hsum2
          have ba : Below wr.heap.size wr (wr.alloc (Obj.cells #[.string hs2[j].1, .string hs2[j].2] 65)) := (Below.refl _ _).alloc (Nat.le_refl _) _
          have HP := hide (putHead_any _ w.heap.size u7 l2 hs2[j].1 hs2[j].2 (ho.next ba) (Nat.le_trans hbe.size ba.size) (by omega) (by omega) (by omega))
          have ca := hide (hbe.trans (ba.mono hbe.size))
          clear hc ho ba
          go_wp2_with fail
          refine HP.out.mono ?_
          rintro e w2 ⟨⟨v2, rfl, ho2⟩, b2⟩
          have c2 := ca.out.trans b2
          have HO2 := hide ho2
          clear ho2 HP
          go_wp2
          go_roundw
          case rel => exact ⟨j + 1, _, by omega, by go_num, by rw [HS.out, HL.out, List.append_assoc], HO2.out, c2⟩
          case measure => simp [intOf]; omega
        · have HO3 := hide ho
          go_wp2_with (at_builtin; refine wp_append_text rfl _ _ rfl w.heap.size u7 l2 rfl HO3.out ⟨#[13, 10]⟩ rfl ?c1 ?c2 ?_)
          case c1 => have e2 : (⟨#[13, 10]⟩ : ByteArray).size = 2 := rfl; omega
          case c2 => exact hbe.size
          intro v4 w4 ho4 hg4 hb4
          have c4 := hbe.trans (HO3.out.grown hbe.size hg4)
          have HE4 : l2 ++ (⟨#[13, 10]⟩ : ByteArray).data.toList = linesTxt top.data.toList hs hs2 := by
            show l2 ++ [13, 10] = linesTxt top.data.toList hs hs2
            rw [HL.out, List.take_of_length_le (by omega)]
            simp [linesTxt, crlf]
          have hLz : (linesTxt top.data.toList hs hs2).length ≤ 33554432 := by
            rw [← HE4, List.length_append]
            have e : (⟨#[13, 10]⟩ : ByteArray).data.toList.length = 2 := rfl
            omega
          rw [HE4] at ho4
          have HO4 := hide ho4
          clear HE4 ho4 hg4 hb4 ho
          go_wp2
          go_ret
          exact ⟨⟨_, rfl, HO4.out, hLz⟩, c4⟩
end Go.Proofs.YtkhnkockdfmkgaaGreatDoor
namespace Go.Proofs.YtkhnkockdfmkgaaGreatDoor
open Go.RowKit M
set_option linter.unusedVariables false

set_option maxHeartbeats 2000000 in
theorem headsOk_any (a : Option Addr) (hs : List Hd) (cap B : Nat) (w : World) (h : Hds w B a hs) (hB : B ≤ w.heap.size) (hsh : ShortH hs) (hz : ∀ x ∈ hs, x.2.size ≤ 281474976710656) (hl : hs.length ≤ maxLen) :
    Calls Tryz.prog 52 #[.slice a hs.length cap] w fun e w' => e = .returned (.bool (hdsB hs)) ∧ Below w.heap.size w w' := by
  unfold maxLen at hl
  by_cases h8 : hs.length ≤ 8
  · have h8' : ¬ (8 : Int) < hs.length := by omega
    go_enter Tryz.func52, Tryz.ntmps52
    go_wp2
    go_loopw [10] (fun i wr => ∃ k : Nat, k ≤ hs.length ∧ i = .int .i64 k ∧ (hs.take k).all hdFree = true ∧ Below w.heap.size w wr) (fun i _ => hs.length - (intOf i).toNat)
    case atStart => exact ⟨0, Nat.zero_le _, rfl, rfl, Below.refl _ _⟩
    case round =>
      obtain ⟨k, hk, rfl, hn, hbe⟩ := hrel
      have HN : Hid ((hs.take k).all hdFree = true) := hn; clear hn
      by_cases hlt : k < hs.length
      · obtain ⟨b, o, rfl, hb, hc⟩ := (h.below hbe hB) (by omega)
        have hcx := (hc k hlt).1
        have hcy := (hc k hlt).2
        have hsz := hsh.at k hlt
        have hzk := hz _ (List.getElem_mem hlt)
        clear hc
        have BH0 := hide (BoxH.made wr hs[k].1 hs[k].2 65)
        have c0 := hbe.alloc hbe.size (Obj.cells #[Value.string hs[k].1, Value.string hs[k].2] 65)
        have C0 := hide c0
        clear c0
        cases h1 : hdB hs[k]
        · have HE : Hid (hdsB hs = false) := hdsB_not hs k hlt (by simp [hdFree, h1])
          go_wp2_with fail
          refine (headOk_any hs[k].1 hs[k].2 _ hsz.1 hsz.2 hzk).mono ?_
          rintro e w1 ⟨rfl, b1⟩
          rw [show hdB (hs[k].1, hs[k].2) = false from h1]
          have c1 := C0.out.trans (b1.mono C0.out.size)
          go_wp2
          go_ret
          exact ⟨ret_bool HE.out.symm, c1⟩
        · go_wp2_with fail
          refine (headOk_any hs[k].1 hs[k].2 _ hsz.1 hsz.2 hzk).mono ?_
          rintro e w1 ⟨rfl, b1⟩
          rw [show hdB (hs[k].1, hs[k].2) = true from h1]
          have c1 := C0.out.trans (b1.mono C0.out.size)
          have BH1 := hide (BH0.out.next b1)
          have x1 := BH1.out
          obtain ⟨_, x10, x11⟩ := x1
          by_cases h3 : hs[k].1 = lenName
          · have HE : Hid (hdsB hs = false) := hdsB_not hs k hlt (by simp [hdFree, h3])
            have HD := hide (decide_eq_true h3)
            clear h3
            go_wp2_with fail
            refine (tellsLength_any hs[k].1 hs[k].2 w1).mono ?_
            rintro e w2 ⟨rfl, b2⟩
            rw [HD.out]
            have c2 := c1.trans (b2.mono c1.size)
            go_wp2
            go_ret
            exact ⟨ret_bool HE.out.symm, c2⟩
          · have HD := hide (decide_eq_false h3)
            go_wp2_with fail
            refine (tellsLength_any hs[k].1 hs[k].2 w1).mono ?_
            rintro e w2 ⟨rfl, b2⟩
            rw [HD.out]
            have c2 := c1.trans (b2.mono c1.size)
            have x2 := BH1.out.next b2
            obtain ⟨_, x20, x21⟩ := x2
            by_cases h4 : hs[k].1 = codName
            · have HE : Hid (hdsB hs = false) := hdsB_not hs k hlt (by simp [hdFree, h4])
              have HD4 := hide (decide_eq_true h4)
              clear h3 h4
              go_wp2_with fail
              refine (tellsCoding_any hs[k].1 hs[k].2 w2).mono ?_
              rintro e w3 ⟨rfl, b3⟩
              rw [HD4.out]
              go_wp2
              go_ret
              exact ⟨ret_bool HE.out.symm, c2.trans (b3.mono c2.size)⟩
            · have HE : Hid ((hs.take (k + 1)).all hdFree = true) := hdsB_snoc hs k hlt HN.out (by simp [hdFree, h1, h3, h4])
              have HD4 := hide (decide_eq_false h4)
              clear h3 h4
              go_wp2_with fail
              refine (tellsCoding_any hs[k].1 hs[k].2 w2).mono ?_
              rintro e w3 ⟨rfl, b3⟩
              rw [HD4.out]
              have c3 := c2.trans (b3.mono c2.size)
              go_wp2
              go_roundw
              case rel => exact ⟨k + 1, by omega, by go_num, HE.out, c3⟩
              case measure => simp [intOf]; omega
      · have HE : Hid (hdsB hs = true) := by
          show hdsB hs = true
          rw [hdsB_all hs k hlt HN.out]; simp [h8]
        go_wp2
        go_ret
        exact ⟨ret_bool HE.out.symm, hbe⟩
  · have HE := hide (hdsB_long hs h8)
    go_enter Tryz.func52, Tryz.ntmps52
    go_wp2
    go_ret
    exact ⟨ret_bool HE.out.symm, Below.refl _ _⟩
end Go.Proofs.YtkhnkockdfmkgaaGreatDoor
namespace Go.Proofs.YtkhnkockdfmkgaaGreatDoor
open Go.RowKit M
set_option linter.unusedVariables false

/-- Short enough for a copy of each text. -/
def FitR (r : Rq) : Prop := ShortR r ∧ ∀ x ∈ r.hs, x.2.size ≤ 281474976710656

set_option maxHeartbeats 2000000 in
theorem reqOk_any (a : Option Addr) (r : Rq) (cap B : Nat) (w : World) (h : Hds w B a r.hs) (hB : B ≤ w.heap.size) (hfit : FitR r) :
    Calls Tryz.prog 15 #[.agg #[.string r.m, .string r.p, .slice a r.hs.length cap, .string r.b]] w fun e w' => e = .returned (.bool (reqB r)) ∧ Below w.heap.size w w' := by
  obtain ⟨⟨q1, q2, q3, q4, q5⟩, q6⟩ := hfit
  have HM : Hid (methB r.m = false → reqB r = false) := reqB_m
  have HP : Hid (targB r.p = false → reqB r = false) := reqB_p
  have HH : Hid (hdsB r.hs = false → reqB r = false) := reqB_h
  have HA : Hid (methB r.m = true → targB r.p = true → hdsB r.hs = true → reqB r = decide ((r.b.size : Int) ≤ 200)) := reqB_b
  have q3' := q3
  unfold maxLen at q3'
  have hb0 : Below w.heap.size w (w.alloc (Obj.cells #[Value.string r.m, Value.string r.p, Value.slice a r.hs.length cap, Value.string r.b] 26)) := (Below.refl _ _).alloc (Nat.le_refl _) _
  have BX0 := hide (BoxR.made w a cap r 26)
  have HD := hide h
  have C0 := hide hb0
  obtain ⟨z, hz⟩ : ∃ z, reqB r = z := ⟨_, rfl⟩
  rw [hz] at HM HP HH HA ⊢
  clear hz h hb0
  cases h1 : methB r.m
  · have hz := HM.out h1
    subst hz
    go_enter Tryz.func15, Tryz.ntmps15
    go_wp2_with fail
    refine (methodOk_any r.m _ q1).mono ?_
    rintro e w1 ⟨rfl, b1⟩
    rw [h1]
    have c1 := C0.out.trans (b1.mono C0.out.size)
    go_wp2
    go_ret
    exact ⟨rfl, c1⟩
  · cases h2 : targB r.p
    · have hz := HP.out h2
      subst hz
      go_enter Tryz.func15, Tryz.ntmps15
      go_wp2_with fail
      refine (methodOk_any r.m _ q1).mono ?_
      rintro e w1 ⟨rfl, b1⟩
      rw [h1]
      have c1 := C0.out.trans (b1.mono C0.out.size)
      have BX1 := hide (BX0.out.next b1)
      have x1 := BX1.out
      obtain ⟨_, x10, x11, x12, x13⟩ := x1
      go_wp2_with fail
      refine (targetOk_any r.p w1 q2).mono ?_
      rintro e w2 ⟨rfl, b2⟩
      rw [h2]
      have c2 := c1.trans (b2.mono c1.size)
      go_wp2
      go_ret
      exact ⟨rfl, c2⟩
    · cases h3 : hdsB r.hs
      · have hz := HH.out h3
        subst hz
        go_enter Tryz.func15, Tryz.ntmps15
        go_wp2_with fail
        refine (methodOk_any r.m _ q1).mono ?_
        rintro e w1 ⟨rfl, b1⟩
        rw [h1]
        have c1 := C0.out.trans (b1.mono C0.out.size)
        have BX1 := hide (BX0.out.next b1)
        have x1 := BX1.out
        obtain ⟨_, x10, x11, x12, x13⟩ := x1
        go_wp2_with fail
        refine (targetOk_any r.p w1 q2).mono ?_
        rintro e w2 ⟨rfl, b2⟩
        rw [h2]
        have c2 := c1.trans (b2.mono c1.size)
        have BX2 := hide (BX1.out.next b2)
        clear x10 x11 x12 x13
        have x2 := BX2.out
        obtain ⟨_, x20, x21, x22, x23⟩ := x2
        go_wp2_with fail
        refine (headsOk_any a r.hs cap B w2 (HD.out.below c2 hB) (Nat.le_trans hB c2.size) q5 q6 q4).mono ?_
        rintro e w3 ⟨rfl, b3⟩
        rw [h3]
        have c3 := c2.trans (b3.mono c2.size)
        go_wp2
        go_ret
        exact ⟨rfl, c3⟩
      · have hz := HA.out h1 h2 h3
        subst hz
        go_enter Tryz.func15, Tryz.ntmps15
        go_wp2_with fail
        refine (methodOk_any r.m _ q1).mono ?_
        rintro e w1 ⟨rfl, b1⟩
        rw [h1]
        have c1 := C0.out.trans (b1.mono C0.out.size)
        have BX1 := hide (BX0.out.next b1)
        have x1 := BX1.out
        obtain ⟨_, x10, x11, x12, x13⟩ := x1
        go_wp2_with fail
        refine (targetOk_any r.p w1 q2).mono ?_
        rintro e w2 ⟨rfl, b2⟩
        rw [h2]
        have c2 := c1.trans (b2.mono c1.size)
        have BX2 := hide (BX1.out.next b2)
        clear x10 x11 x12 x13
        have x2 := BX2.out
        obtain ⟨_, x20, x21, x22, x23⟩ := x2
        go_wp2_with fail
        refine (headsOk_any a r.hs cap B w2 (HD.out.below c2 hB) (Nat.le_trans hB c2.size) q5 q6 q4).mono ?_
        rintro e w3 ⟨rfl, b3⟩
        rw [h3]
        have c3 := c2.trans (b3.mono c2.size)
        have BX3 := BX2.out.next b3
        clear x20 x21 x22 x23
        obtain ⟨_, x30, x31, x32, x33⟩ := BX3
        go_wp2
        go_ret
        exact ⟨rfl, c3⟩
end Go.Proofs.YtkhnkockdfmkgaaGreatDoor
namespace Go.Proofs.YtkhnkockdfmkgaaGreatDoor
open Go.RowKit M
set_option linter.unusedVariables false

set_option maxRecDepth 100000 in
set_option maxHeartbeats 4000000 in
theorem putAhead_no (a : Option Addr) (r : Rq) (cap B : Nat) (a2 : Option Addr) (n2 cap2 : Nat) (w : World) (h : Hds w B a r.hs) (hB : B ≤ w.heap.size) (hfit : FitR r) (hr : reqB r = false) :
    Calls Tryz.prog 41 #[.agg #[.string r.m, .string r.p, .slice a r.hs.length cap, .string r.b], .slice a2 n2 cap2] w fun e w' => e = .returned (.tuple #[.slice none 0 0, .bool false]) ∧ Below w.heap.size w w' := by
  have HB0 : Hid (Below w.heap.size w (w.alloc (Obj.cells #[Value.string r.m, Value.string r.p, Value.slice a r.hs.length cap, Value.string r.b] 26))) := (Below.refl _ _).alloc (Nat.le_refl _) _
  have HX0 := hide (BoxR.made w a cap r 26)
  have HH := hide h
  have HF := hide hfit
  clear h hfit
  go_enter Tryz.func41, Tryz.ntmps41
  go_wp2_with fail
  refine (reqOk_any a r cap B _ (HH.out.below HB0.out hB) (Nat.le_trans hB HB0.out.size) HF.out).mono ?_
  rintro e w1 ⟨rfl, b1⟩
  rw [hr]
  have c1 := HB0.out.trans (b1.mono HB0.out.size)
  go_wp2
  go_ret2
  exact ⟨rfl, c1⟩

set_option maxRecDepth 100000 in
set_option maxHeartbeats 4000000 in
theorem putAhead_yes (a : Option Addr) (r : Rq) (cap B : Nat) (a2 : Option Addr) (hs2 : List Hd) (cap2 : Nat) (w : World) (h : Hds w B a r.hs) (hB : B ≤ w.heap.size) (h2 : Hds w w.heap.size a2 hs2) (hfit : FitR r) (hl : r.hs.length ≤ 1048576) (hsum : sumH r.hs ≤ 1048576) (hl2 : hs2.length ≤ 16) (hsum2 : sumH hs2 ≤ 1048576) (h1 : r.m.size ≤ 1048576) (h2p : r.p.size ≤ 1048576) (hr : reqB r = true) :
    Calls Tryz.prog 41 #[.agg #[.string r.m, .string r.p, .slice a r.hs.length cap, .string r.b], .slice a2 hs2.length cap2] w fun e w' => (∃ v, e = .returned (.tuple #[v, .bool (decide ((frontL r (hdsTxt hs2)).length ≤ 400))]) ∧ OwnY w' w.heap.size v (frontL r (hdsTxt hs2)) ∧ (frontL r (hdsTxt hs2)).length ≤ 33554432) ∧ Below w.heap.size w w' := by
  have HB0 : Hid (Below w.heap.size w (w.alloc (Obj.cells #[Value.string r.m, Value.string r.p, Value.slice a r.hs.length cap, Value.string r.b] 26))) := (Below.refl _ _).alloc (Nat.le_refl _) _
  have HX0 := hide (BoxR.made w a cap r 26)
  have HH := hide h
  have HH2 := hide h2
  have HF := hide hfit
  clear h h2 hfit
  go_enter Tryz.func41, Tryz.ntmps41
  go_wp2_with fail
  refine (reqOk_any a r cap B _ (HH.out.below HB0.out hB) (Nat.le_trans hB HB0.out.size) HF.out).mono ?_
  rintro e w1 ⟨rfl, b1⟩
  rw [hr]
  have c1 := HB0.out.trans (b1.mono HB0.out.size)
  have BX1 := hide (HX0.out.next b1)
  have x1 := BX1.out
  obtain ⟨hlt1, x10, x11, x12, x13⟩ := x1
  obtain ⟨sx, hsx⟩ : ∃ sx, r.m ++ (⟨#[32]⟩ : ByteArray) ++ r.p ++ ⟨#[32]⟩ ++ ⟨#[72, 84, 84, 80, 47, 49, 46, 49]⟩ = sx := ⟨_, rfl⟩
  have hsz : sx.size ≤ 2200000 := by
    rw [← hsx]
    simp only [ByteArray.size_append]
    have e1 : (⟨#[32]⟩ : ByteArray).size = 1 := rfl
    have e2 : (⟨#[72, 84, 84, 80, 47, 49, 46, 49]⟩ : ByteArray).size = 8 := rfl
    omega
  have HSX : Hid (linesTxt sx.data.toList r.hs hs2 = frontL r (hdsTxt hs2)) := by
    show linesTxt sx.data.toList r.hs hs2 = frontL r (hdsTxt hs2)
    rw [← hsx]
    simp [linesTxt, frontL, topTxt, proto, crlf]
  have HP := hide (putLines_any sx a r.hs cap B a2 hs2 cap2 w.heap.size w1 (HH.out.below c1 hB) (Nat.le_trans hB c1.size) (HH2.out.below c1 (Nat.le_refl _)) c1.size (by omega) hl hsum hl2 hsum2)
  rw [HSX.out] at HP
  obtain ⟨L, hL⟩ : ∃ L, frontL r (hdsTxt hs2) = L := ⟨_, rfl⟩
  rw [hL] at HP
  have HLf := hide hL
  have C1 := hide c1
  clear hL hsz HSX
  go_wp2_with fail
  try rw [hsx]
  refine HP.out.mono ?_
  rintro e w2 ⟨⟨v2, rfl, o2, z2⟩, b2⟩
  have HO2 := hide o2
  obtain ⟨g4, k4, hv4, _, _, _, _, _⟩ := o2.byt
  subst hv4
  have C2 := hide (C1.out.trans (b2.mono C1.out.size))
  clear HP o2 b2 hsx x10 x11 x12 x13
  go_wp2
  refine bodyPost_ret (v := .tuple #[.slice (some ⟨g4, 0, none⟩) L.length k4, .bool (decide ((L.length : Int) ≤ 400))]) (by simp [results, Tryz.results41, go_sem]) rfl ?_
  rw [HLf.out]
  refine ⟨⟨_, ?_, HO2.out.base C1.out.size, z2⟩, C2.out⟩
  have e : decide ((L.length : Int) ≤ 400) = decide (L.length ≤ 400) := by
    by_cases h4 : L.length ≤ 400
    · rw [decide_eq_true h4, decide_eq_true (by omega)]
    · rw [decide_eq_false h4, decide_eq_false (by omega)]
  rw [e]
end Go.Proofs.YtkhnkockdfmkgaaGreatDoor
namespace Go.Proofs.YtkhnkockdfmkgaaGreatDoor
open Go.RowKit M
set_option linter.unusedVariables false

theorem Hds.one (w : World) (x y : ByteArray) (T : TypeId) : Hds (w.alloc (Obj.cells #[Value.string x, Value.string y] T)) (w.heap.size + 1) (some ⟨w.heap.size, 0, none⟩) [(x, y)] := fun _ =>
  ⟨w.heap.size, 0, rfl, Nat.lt_succ_self _, fun j hj => by
    have hj0 : j = 0 := by simp at hj; exact hj
    subst hj0
    exact ⟨(BoxH.made w x y T).2.1, (BoxH.made w x y T).2.2⟩⟩
theorem Hds.nil (w : World) (B : Nat) (a : Option Addr) : Hds w B a [] := fun h => absurd h (Nat.lt_irrefl _)
end Go.Proofs.YtkhnkockdfmkgaaGreatDoor
namespace Go.Proofs.YtkhnkockdfmkgaaGreatDoor
open M

theorem cut_to (t : ByteArray) (n : Nat) : t.extract 0 n = bytesOf (t.data.toList.take n) := by
  apply ByteArray.ext
  apply Array.toList_inj.1
  simp [bytesOf, ByteArray.data_extract]
theorem cut_from (t : ByteArray) (n : Nat) : (t.extract n t.size).data.toList = t.data.toList.drop n := by
  have : t.size = t.data.toList.length := (Array.length_toList).symm
  rw [ByteArray.data_extract, Array.toList_extract, this, List.extract_eq_take_drop, List.take_of_length_le (by rw [List.length_drop]; omega)]
theorem cut_none (t : ByteArray) : t.extract t.size t.size = ByteArray.empty := by
  apply ByteArray.ext
  have : (t.extract t.size t.size).data.size = 0 := by show (t.extract t.size t.size).size = 0; rw [ByteArray.size_extract]; omega
  exact Array.eq_empty_of_size_eq_zero this
end Go.Proofs.YtkhnkockdfmkgaaGreatDoor
namespace Go.Proofs.YtkhnkockdfmkgaaGreatDoor
open Go.RowKit Go.Shelf M
set_option linter.unusedVariables false
attribute [local go_sem] Oper.semAt_some

def pcsB (ns : List Int) (b : ByteArray) : List ByteArray := (pcsC ns b.data.toList).map bytesOf
theorem pcsB_skip {n : Int} {r : List Int} {b : ByteArray} (h : n < 1 ∨ b.size = 0) : pcsB (n :: r) b = pcsB r b := by
  unfold pcsB
  rw [pcsC, if_pos]
  rcases h with h | h
  · exact .inl h
  · right; exact List.length_eq_zero_iff.1 (by rw [Array.length_toList]; exact h)
theorem pcsB_step {n : Int} {r : List Int} {b : ByteArray} (h : 1 ≤ n) (hb : b.size ≠ 0) (m : Nat) (hm : m = min n.toNat b.size) : pcsB (n :: r) b = b.extract 0 m :: pcsB r (b.extract m b.size) := by
  have hl : b.data.toList.length = b.size := Array.length_toList
  have hne : b.data.toList ≠ [] := fun e => hb (by rw [← hl, e]; rfl)
  have e1 : b.data.toList.take n.toNat = b.data.toList.take m := by
    rw [hm]
    by_cases h2 : n.toNat ≤ b.size
    · rw [Nat.min_eq_left h2]
    · rw [Nat.min_eq_right (by omega), List.take_of_length_le (by omega), List.take_of_length_le (by omega)]
  have e2 : b.data.toList.drop n.toNat = b.data.toList.drop m := by
    rw [hm]
    by_cases h2 : n.toNat ≤ b.size
    · rw [Nat.min_eq_left h2]
    · rw [Nat.min_eq_right (by omega), List.drop_of_length_le (by omega), List.drop_of_length_le (by omega)]
  unfold pcsB
  rw [pcsC, if_neg (by rintro (h1 | h1); omega; exact hne h1), List.map_cons, e1, e2, cut_to, cut_from]
theorem pcsB_end {b : ByteArray} : pcsB [] b = if b.size = 0 then [] else [b] := by
  have hl : b.data.toList.length = b.size := Array.length_toList
  unfold pcsB
  rw [pcsC]
  by_cases h : b.size = 0
  · rw [if_pos h, if_pos (List.length_eq_zero_iff.1 (by omega))]; rfl
  · rw [if_neg h, if_neg (fun e => h (by rw [← hl, e]; rfl))]
    rfl

set_option maxRecDepth 100000 in
set_option maxHeartbeats 2000000 in
theorem pieces1_in (F : Fence) (n : Nat) (h1 : F.fn 100) (hro : F.round = none) (hn : 1 ≤ n) (l Bb Bs n₀ : Nat) (s : ByteArray) (hs : s.size ≤ 1073741824) (a : Option Addr) (ns : List Int) (cap : Nat) (J Jx : List ByteArray → World → Prop) (hnl : ns.length ≤ 1073741824)
    (hY : ∀ pre x W, x.size ≤ s.size → J pre W → pre.length < (pcsB ns s).length → YieldAt F (n - 1) Tryz.prog l #[.string x] W fun e W' =>
      (e = .returned (.bool true) ∧ J (pre ++ [x]) W' ∧ Below n₀ W W') ∨ (e = .returned (.bool false) ∧ Jx (pre ++ [x]) W'))
    (W : World) (hBb : W.cell? ⟨Bb, 0, none⟩ = some (.string s)) (hBs : W.cell? ⟨Bs, 0, none⟩ = some (.slice a ns.length cap)) (hI : Ints W n₀ a ns) (h0 : J [] W) :
    CallsIn F n Tryz.prog 100 #[.func (.yield l) #[] #[], .pointer (some ⟨Bb, 0, none⟩), .pointer (some ⟨Bs, 0, none⟩)] W fun e W' => (∃ v, e = .returned v) ∧
      ((∃ ys, ys = pcsB ns s ∧ J ys W') ∨ (∃ pre, pre <+: pcsB ns s ∧ Jx pre W')) := by
  refine callsIn_of_wp Tryz.func100 rfl h1 ?_ hro
  simp only [Tryz.ntmps100, List.size_toArray, List.length_cons, List.length_nil, Nat.reduceAdd, Nat.reduceSub, Array.replicate_succ, Array.replicate_zero, List.push_toArray, List.append_toArray, List.nil_append, List.cons_append]
  gi_wp2
  gi_loopw [4, 11] (fun lv iv wr => ∃ (k : Nat) (t : ByteArray) (pre : List ByteArray), k ≤ ns.length ∧ iv = .int .i64 k ∧ lv = .string t ∧ t.size ≤ s.size ∧ pcsB ns s = pre ++ pcsB (ns.drop k) t ∧ J pre wr ∧ Ints wr n₀ a ns) (fun _ iv _ => ns.length - (intOf iv).toNat)
  case atStart => exact ⟨0, s, [], Nat.zero_le _, rfl, rfl, Nat.le_refl _, rfl, h0, hI⟩
  case round =>
    obtain ⟨k, t, pre, hk, rfl, rfl, ht, hx, hJs, hi⟩ := hrel
    have HX := hide hx
    have HJ := hide hJs
    have HI := hide hi
    clear hx hJs hi
    have ht2 : t.size ≤ 1073741824 := by omega
    by_cases hlt : k < ns.length
    · obtain ⟨b, o, rfl, hb, hc⟩ := HI.out (by omega)
      have hck := hc k hlt
      have hdr : ns.drop k = ns[k] :: ns.drop (k + 1) := List.drop_eq_getElem_cons hlt
      have HDr := hide hdr
      clear hc hdr
      obtain ⟨z, hz⟩ : ∃ z, ns[k] = z := ⟨_, rfl⟩
      rw [hz] at hck HDr
      clear hz
      by_cases hz1 : z < 1
      · have HS : Hid (pcsB ns s = pre ++ pcsB (ns.drop (k + 1)) t) := by show pcsB ns s = _; rw [HX.out, HDr.out, pcsB_skip (.inl hz1)]
        gi_wp2
        go_roundw
        case rel => exact ⟨k + 1, t, pre, by omega, by go_num, rfl, ht, HS.out, HJ.out, HI.out⟩
        case measure => simp [intOf]; omega
      · by_cases hte : t.size = 0
        · have hz : t.toList.isEmpty = true := by
            rw [ByteArray.toList_eq]
            have e : t.data.toList.length = t.size := Array.length_toList
            cases hq : t.data.toList with
            | nil => rfl
            | cons _ _ => rw [hq] at e; simp at e; omega
          have HS : Hid (pcsB ns s = pre ++ pcsB (ns.drop (k + 1)) t) := by show pcsB ns s = _; rw [HX.out, HDr.out, pcsB_skip (.inr hte)]
          clear hte
          gi_wp2
          go_roundw
          case rel => exact ⟨k + 1, t, pre, by omega, by go_num, rfl, ht, HS.out, HJ.out, HI.out⟩
          case measure => simp [intOf]; omega
        · have hz : t.toList.isEmpty = false := by
            rw [ByteArray.toList_eq]
            have e : t.data.toList.length = t.size := Array.length_toList
            cases hq : t.data.toList with
            | nil => rw [hq] at e; simp at e; omega
            | cons _ _ => rfl
          by_cases hzt : z ≤ t.size
          · obtain ⟨m, rfl⟩ := Int.eq_ofNat_of_zero_le (by omega : 0 ≤ z)
            have HS : Hid (pcsB ns s = pre ++ t.extract 0 m :: pcsB (ns.drop (k + 1)) (t.extract m t.size)) := by show pcsB ns s = _; rw [HX.out, HDr.out, pcsB_step (by omega) hte m (by omega)]
            have hmt : m ≤ t.size := by omega
            have hsz : (t.extract m t.size).size = t.size - m := by rw [ByteArray.size_extract]; omega
            obtain ⟨fn, tmps, assign, body, hy, hR⟩ := hY pre (t.extract 0 m) wr (by rw [ByteArray.size_extract]; omega) HJ.out (by rw [HS.out]; simp)
            clear hte
            gi_wp2
            refine hR.mono ?_
            rintro e W3 (⟨rfl, hJ3, hk3⟩ | ⟨rfl, hJx3⟩)
            · have HI3 := hide (HI.out.below hk3 (Nat.le_refl _))
              have HJ3 := hide hJ3
              clear hJ3 hy hR
              gi_wp2
              go_roundw
              case rel => exact ⟨k + 1, t.extract m t.size, pre ++ [t.extract 0 m], by omega, by go_num, rfl, by omega, by rw [HS.out]; simp, HJ3.out, HI3.out⟩
              case measure => simp [intOf]; omega
            · gi_wp2
              refine bodyPost_ret (results_none rfl _ _ _) rfl ?_
              exact ⟨⟨_, rfl⟩, .inr ⟨pre ++ [t.extract 0 m], ⟨pcsB (ns.drop (k + 1)) (t.extract m t.size), by rw [HS.out]; simp⟩, hJx3⟩⟩
          · have HS : Hid (pcsB ns s = pre ++ t :: pcsB (ns.drop (k + 1)) ByteArray.empty) := by
              show pcsB ns s = _
              rw [HX.out, HDr.out, pcsB_step (by omega) hte t.size (by omega), ByteArray.extract_zero_size, cut_none]
            obtain ⟨fn, tmps, assign, body, hy, hR⟩ := hY pre t wr ht HJ.out (by rw [HS.out]; simp)
            clear hte
            gi_wp2
            refine hR.mono ?_
            rintro e W3 (⟨rfl, hJ3, hk3⟩ | ⟨rfl, hJx3⟩)
            · have HI3 := hide (HI.out.below hk3 (Nat.le_refl _))
              have HJ3 := hide hJ3
              clear hJ3 hy hR
              gi_wp2
              go_roundw
              case rel => exact ⟨k + 1, ByteArray.empty, pre ++ [t], by omega, by go_num, rfl, Nat.zero_le _, by rw [HS.out]; simp, HJ3.out, HI3.out⟩
              case measure => simp [intOf]; omega
            · gi_wp2
              refine bodyPost_ret (results_none rfl _ _ _) rfl ?_
              exact ⟨⟨_, rfl⟩, .inr ⟨pre ++ [t], ⟨pcsB (ns.drop (k + 1)) ByteArray.empty, by rw [HS.out]; simp⟩, hJx3⟩⟩
    · have HE : Hid (pcsB ns s = pre ++ pcsB [] t) := by show pcsB ns s = _; rw [HX.out, List.drop_of_length_le (by omega)]
      by_cases hte : t.size = 0
      · have hz : t.toList.isEmpty = true := by
          rw [ByteArray.toList_eq]
          have e : t.data.toList.length = t.size := Array.length_toList
          cases hq : t.data.toList with
          | nil => rfl
          | cons _ _ => rw [hq] at e; simp at e; omega
        have HE2 : Hid (pcsB ns s = pre) := by show pcsB ns s = _; rw [HE.out, pcsB_end, if_pos hte, List.append_nil]
        gi_wp2
        go_end0
        exact ⟨⟨_, rfl⟩, .inl ⟨pre, HE2.out.symm, HJ.out⟩⟩
      · have hz : t.toList.isEmpty = false := by
          rw [ByteArray.toList_eq]
          have e : t.data.toList.length = t.size := Array.length_toList
          cases hq : t.data.toList with
          | nil => rw [hq] at e; simp at e; omega
          | cons _ _ => rfl
        have HE2 : Hid (pcsB ns s = pre ++ [t]) := by show pcsB ns s = _; rw [HE.out, pcsB_end, if_neg hte]
        obtain ⟨fn, tmps, assign, body, hy, hR⟩ := hY pre t wr ht HJ.out (by rw [HE2.out]; simp)
        clear hte
        gi_wp2
        refine hR.mono ?_
        rintro e W3 (⟨rfl, hJ3, hk3⟩ | ⟨rfl, hJx3⟩)
        · gi_wp2
          go_end0
          exact ⟨⟨_, rfl⟩, .inl ⟨pre ++ [t], HE2.out.symm, hJ3⟩⟩
        · gi_wp2
          go_end0
          exact ⟨⟨_, rfl⟩, .inr ⟨pre ++ [t], by rw [HE2.out]; exact List.prefix_rfl, hJx3⟩⟩

set_option maxHeartbeats 1000000 in
/-- 'piecesOf' hands back a function that has the body and the sizes in boxes. -/
theorem piecesOf_in (F : Fence) (n : Nat) (h1 : F.fn 60) (hro : F.round = none) (s : ByteArray) (a : Option Addr) (m cap : Nat) (w : World) :
    CallsIn F n Tryz.prog 60 #[.string s, .slice a m cap] w fun e w' => e = .returned (.func (.func 100) #[] #[.pointer (some ⟨w.heap.size, 0, none⟩), .pointer (some ⟨w.heap.size + 1, 0, none⟩)]) ∧ w' = (w.alloc (.cells #[.string s] 9)).alloc (.cells #[.slice a m cap] 36) := by
  refine callsIn_of_wp Tryz.func60 rfl h1 ?_ hro
  simp only [Tryz.ntmps60, List.size_toArray, List.length_cons, List.length_nil, Nat.reduceAdd, Nat.reduceSub, Array.replicate_succ, Array.replicate_zero, List.push_toArray, List.append_toArray, List.nil_append, List.cons_append]
  gi_wp2
  go_ret
  exact ⟨rfl, rfl⟩

/-- A text that is not too long. -/
abbrev Pc := { x : ByteArray // x.size ≤ 1048576 }
def vals : List Pc → List ByteArray
  | [] => []
  | x :: r => x.1 :: vals r
theorem vals_snoc (ys : List Pc) (x : Pc) : vals (ys ++ [x]) = vals ys ++ [x.1] := by
  induction ys with
  | nil => rfl
  | cons y r ih => rw [List.cons_append, vals, ih]; rfl
theorem vals_len (ys : List Pc) : (vals ys).length = ys.length := by
  induction ys with
  | nil => rfl
  | cons y r ih => rw [vals, List.length_cons, ih]; rfl
/-- What it hands back gives the pieces, one behind the other. -/
theorem pieces_stops (F : Fence) (n : Nat) (h1 : F.fn 100) (hro : F.round = none) (hn : 1 ≤ n) (Bb Bs n₀ : Nat) (s : ByteArray) (hs : s.size ≤ 1048576) (a : Option Addr) (ns : List Int) (cap : Nat) (hnl : ns.length ≤ 1073741824) (w : World) (hb1 : Bb < w.heap.size) (hb2 : Bs < w.heap.size) (hn₀ : n₀ ≤ w.heap.size)
    (hBb : w.cell? ⟨Bb, 0, none⟩ = some (.string s)) (hBs : w.cell? ⟨Bs, 0, none⟩ = some (.slice a ns.length cap)) (hI : Ints w n₀ a ns) :
    SeqStopsK F n Tryz.prog 100 #[.pointer (some ⟨Bb, 0, none⟩), .pointer (some ⟨Bs, 0, none⟩)] (fun x : Pc => #[Value.string x.1]) (Below n₀) (fun ys => vals ys = pcsB ns s) (fun pre => vals pre <+: pcsB ns s) (pcsB ns s).length w := fun l J Jx W hW _ _ hY h0 => by
  refine (pieces1_in F n h1 hro hn l Bb Bs n₀ s (by omega) a ns cap (fun pre W => ∃ ys : List Pc, vals ys = pre ∧ J ys W) (fun pre W => ∃ ys : List Pc, vals ys = pre ∧ Jx ys W) hnl ?_ W ((hW.cell (p := ⟨Bb, 0, none⟩) hb1).trans hBb) ((hW.cell (p := ⟨Bs, 0, none⟩) hb2).trans hBs) (hI.below (hW.mono hn₀) (Nat.le_refl _)) ⟨[], rfl, h0⟩).mono ?_
  · rintro pre x W1 hx ⟨ys, rfl, hJ⟩ hlt
    obtain ⟨fn, tmps, assign, body, hy, hR⟩ := hY ys ⟨x, by omega⟩ W1 hJ (by rw [vals_len] at hlt; exact hlt)
    refine ⟨fn, tmps, assign, body, hy, hR.mono ?_⟩
    rintro e W2 (⟨rfl, h3, h4⟩ | ⟨rfl, h3⟩)
    · exact .inl ⟨rfl, ⟨_, vals_snoc _ _, h3⟩, h4⟩
    · exact .inr ⟨rfl, _, vals_snoc _ _, h3⟩
  · rintro e W2 ⟨hv, ⟨ys, rfl, zs, hz, hJ⟩ | ⟨pre, hp, zs, rfl, hJ⟩⟩
    · exact ⟨hv, .inl ⟨zs, hz, hJ⟩⟩
    · exact ⟨hv, .inr ⟨zs, hp, hJ⟩⟩
end Go.Proofs.YtkhnkockdfmkgaaGreatDoor
namespace Go.Proofs.YtkhnkockdfmkgaaGreatDoor
open Go.RowKit M

set_option maxHeartbeats 400000 in
theorem l1HexDigit_any (d : Int) (w : World) (h0 : 0 ≤ d) (h1 : d < 16) :
    Calls Tryz.prog 150 #[.int .i64 d] w fun e w' => e = .returned (.int .u8 (hexCh d.toNat).toNat) ∧ w' = w := by
  obtain ⟨m, rfl⟩ := Int.eq_ofNat_of_zero_le h0
  rw [Int.toNat_natCast, hexCh_toNat m (by omega)]
  by_cases h : m < 10
  · rw [if_pos h]
    go_enter Tryz.func150, Tryz.ntmps150
    go_wp2
    go_ret
    exact ⟨by simp, rfl⟩
  · rw [if_neg h]
    go_enter Tryz.func150, Tryz.ntmps150
    go_wp2
    go_ret
    refine ⟨?_, rfl⟩
    go_light
    congr 2
    simp
    omega

set_option maxHeartbeats 1000000 in
theorem specHex_pos (N : Nat) (w : World) (hN : N ≤ 9223372036854775807) :
    Calls Tryz.prog 134 #[.int .i64 N] w fun e w' => e = .returned (.string ⟨(hexDigits N).toArray⟩) ∧ Below w.heap.size w w' := by
  have hcv := conv_one
  have hm0 : (0 : Int) ≤ (N : Int) % 16 := by omega
  have hm1 : (N : Int) % 16 < 16 := by omega
  go_enter Tryz.func134, Tryz.ntmps134
  go_wp2_with (go_at_call 150; refine (l1HexDigit_any _ _ (by omega) (by omega)).mono ?_; rintro e w1 ⟨rfl, hw⟩; obtain rfl := hw.symm)
  go_loopw [0, 3] (fun n v wr => ∃ (f m : Nat) (t : List UInt8), n = .int .i64 m ∧ v = .string ⟨t.toArray⟩ ∧ m ≤ 9223372036854775807 ∧ m < 16 ^ (f + 1) ∧ t.length + f = 16 ∧ hexDigits N = hexAhead f m ++ t ∧ Below w.heap.size w wr) (fun n _ _ => (intOf n).toNat)
  case atStart => exact ⟨15, N, [hexCh (N % 16)], rfl, rfl, hN, by omega, rfl, hexDig_ahead 15 N, (Below.refl _ _).alloc (Nat.le_refl _) _⟩
  case round =>
    obtain ⟨f, m, t, rfl, rfl, hm, hf, ht, hd, hbe⟩ := hrel
    have HD : Hid (hexDigits N = hexAhead f m ++ t) := hd; clear hd
    have HF : Hid (m < 16 ^ (f + 1)) := hf; clear hf
    by_cases h9 : 15 < m
    · have h9' : (15 : Int) < (m : Int) := by omega
      have htl : t.length ≤ 16 := by omega
      have HT : Hid (t.length + f = 16) := ht
      clear ht
      go_wp2_with (go_at_call 150; refine (l1HexDigit_any _ _ (by omega) (by omega)).mono ?_; rintro e w1 ⟨rfl, hw⟩; obtain rfl := hw.symm)
      go_roundw
      case rel =>
        obtain ⟨g, rfl⟩ : ∃ g, f = g + 1 := by
          cases f with
          | zero => exact absurd HF.out (by omega)
          | succ g => exact ⟨g, rfl⟩
        have h1 := HF.out
        have h2 := HT.out
        rw [Nat.pow_succ] at h1
        refine ⟨g, m / 16, hexCh (m / 16 % 16) :: t, by go_num, ?_, by omega, by omega, by simp; omega, ?_, hbe.alloc hbe.size _⟩
        · rw [cat_one]
        · rw [HD.out, hexAhead_step g m h9, List.append_assoc]; rfl
      case measure => simp [intOf]; omega
    · go_wp2
      go_ret
      exact ⟨ret_str (by rw [HD.out, hexAhead_end f m h9]; rfl), hbe⟩

set_option maxHeartbeats 400000 in
theorem specHex_neg (n : Int) (w : World) (hn : n < 0) :
    Calls Tryz.prog 134 #[.int .i64 n] w fun e w' => e = .returned (.string ⟨(hexDigits 0).toArray⟩) ∧ Below w.heap.size w w' := by
  have hcv := conv_one
  go_enter Tryz.func134, Tryz.ntmps134
  go_wp2_with (go_at_call 150; refine (l1HexDigit_any _ _ (by omega) (by omega)).mono ?_; rintro e w1 ⟨rfl, hw⟩; obtain rfl := hw.symm)
  go_loopw [0, 3] (fun n v wr => n = .int .i64 0 ∧ v = .string ⟨[hexCh 0].toArray⟩ ∧ Below w.heap.size w wr) (fun n _ _ => (intOf n).toNat)
  case atStart => exact ⟨rfl, rfl, (Below.refl _ _).alloc (Nat.le_refl _) _⟩
  case round =>
    obtain ⟨rfl, rfl, hbe⟩ := hrel
    go_wp2
    go_ret
    exact ⟨ret_str (l := [hexCh 0]) rfl, hbe⟩

theorem specHex_any (n : Int) (w : World) (hn : n ≤ 9223372036854775807) :
    Calls Tryz.prog 134 #[.int .i64 n] w fun e w' => e = .returned (.string ⟨(hexDigits n.toNat).toArray⟩) ∧ Below w.heap.size w w' := by
  by_cases h : n < 0
  · have e : n.toNat = 0 := by omega
    rw [e]; exact specHex_neg n w h
  · obtain ⟨m, rfl⟩ := Int.eq_ofNat_of_zero_le (by omega : 0 ≤ n)
    rw [Int.toNat_natCast]
    exact specHex_pos m w (by omega)
end Go.Proofs.YtkhnkockdfmkgaaGreatDoor
namespace Go.Proofs.YtkhnkockdfmkgaaGreatDoor
open Go.RowKit

theorem pow_glob : Tryz.prog.globalNamed "internal/strconv.uint64pow10" = some 1 := by kernel_rfl
theorem pow_data : (Rows.laid_internal_strconv_uint64pow10 : DataW Unit) = Lib.tabData .u64 Lib.pow10Tab := by kernel_rfl

def PowTab (w : World) : Prop := Lib.TabIs Tryz.prog w "internal/strconv.uint64pow10" .u64 Lib.pow10Tab

theorem PowTab.lt {w : World} (h : PowTab w) : 1 < w.heap.size := by
  have h' : w.var? Tryz.prog "internal/strconv.uint64pow10" = some _ := h
  unfold World.var? at h'
  rw [pow_glob] at h'
  simp only [Option.bind_some] at h'
  rcases Nat.lt_or_ge 1 w.heap.size with h1 | h1
  · exact h1
  · rw [Array.getElem?_eq_none h1] at h'
    simp at h'

theorem PowTab.below {w w' : World} (h : PowTab w) (hb : Below w.heap.size w w') : PowTab w' := var?_below hb pow_glob h.lt h

theorem powTab_of {W : World} {rest : List (String × DataW Unit)} (h : laidMet Tryz.prog (("internal/strconv.uint64pow10", Rows.laid_internal_strconv_uint64pow10) :: rest) W) : PowTab W := by
  rw [pow_data] at h
  exact Lib.tabIs_of_head pow_glob (t := 184) (n := 20) (e := 170) (by kernel_rfl) (by kernel_rfl) (by kernel_rfl) (by kernel_rfl) (by kernel_rfl) h
end Go.Proofs.YtkhnkockdfmkgaaGreatDoor
namespace Go.Proofs.YtkhnkockdfmkgaaGreatDoor
open Go.RowKit M

set_option maxHeartbeats 400000 in
theorem pow2_16 (w : World) :
    Calls Tryz.prog 167 #[.int .i64 16] w fun e w' => e = .returned (.bool true) ∧ w' = w := by
  go_enter Tryz.func167, Tryz.ntmps167
  go_wp2
  go_ret
  exact ⟨rfl, rfl⟩

theorem idx_16 : (IntKind.u64.wrap (bits BinOp.and IntKind.u64 16 (IntKind.u64.wrap (-16)) * 285870213051353865) / 288230376151711744).toNat = 15 := by decide +kernel

def DeTab (w : World) : Prop := w.cell? ⟨5, 15, none⟩ = some (.int .u8 4)
theorem DeTab.below {w w' : World} (h : DeTab w) (hb : Below w.heap.size w w') : DeTab w' :=
  (hb.cell (p := ⟨5, 15, none⟩) (World.block_lt_of_cell? w _ h)).trans h

theorem de_glob : Tryz.prog.globalNamed "math/bits.deBruijn64tab" = some 5 := by kernel_rfl
def deNums : List Int := [0, 1, 56, 2, 57, 49, 28, 3, 61, 58, 42, 50, 38, 29, 17, 4, 62, 47, 59, 36, 45, 43, 51, 22, 53, 39, 33, 30, 24, 18, 12, 5, 63, 55, 48, 27, 60, 41, 37, 16, 46, 35, 44, 21, 52, 32, 23, 11, 54, 26, 40, 15, 34, 20, 31, 10, 25, 14, 19, 9, 13, 8, 7, 6]
theorem de_data : (Rows.laid_math_bits_deBruijn64tab : DataW Unit) = Lib.tabData .u8 deNums := by kernel_rfl

theorem deTab_of {W : World} {rest : List (String × DataW Unit)} (h : laidMet Tryz.prog (("math/bits.deBruijn64tab", Rows.laid_math_bits_deBruijn64tab) :: rest) W) : DeTab W := by
  rw [de_data] at h
  have ht := Lib.tabIs_of_head de_glob (t := 200) (n := 64) (e := 5) (by kernel_rfl) (by kernel_rfl) (by kernel_rfl) (by kernel_rfl) (by kernel_rfl) h
  exact ht.cell de_glob 15 (by decide)

set_option maxHeartbeats 400000 in
theorem trail_16 (w : World) (hc : w.cell? ⟨5, 15, none⟩ = some (.int .u8 4)) :
    Calls Tryz.prog 168 #[.int .u64 16] w fun e w' => e = .returned (.int .i64 4) ∧ w' = w := by
  rw [← idx_16] at hc
  go_enter Tryz.func168, Tryz.ntmps168
  go_wp2
  go_ret
  exact ⟨rfl, rfl⟩

theorem and_15 (m : Nat) (hm : m ≤ 9223372036854775807) : bits BinOp.and IntKind.u64 (m : Int) 15 = (m : Int) % 16 := by
  have h := bits_and_u64_nat m 15 (by omega) (by omega)
  rw [nat_mask4] at h
  simpa using h

theorem dig_at : ∀ d : Fin 16, (#[48, 49, 50, 51, 52, 53, 54, 55, 56, 57, 97, 98, 99, 100, 101, 102, 103, 104, 105, 106, 107, 108, 109, 110, 111, 112, 113, 114, 115, 116, 117, 118, 119, 120, 121, 122] : Array UInt8)[d.val]? = some (hexCh d.val) := by decide +kernel

theorem dig_get (d : Nat) (hd : d < 16) (h : d < (⟨#[48, 49, 50, 51, 52, 53, 54, 55, 56, 57, 97, 98, 99, 100, 101, 102, 103, 104, 105, 106, 107, 108, 109, 110, 111, 112, 113, 114, 115, 116, 117, 118, 119, 120, 121, 122]⟩ : ByteArray).size) : (⟨#[48, 49, 50, 51, 52, 53, 54, 55, 56, 57, 97, 98, 99, 100, 101, 102, 103, 104, 105, 106, 107, 108, 109, 110, 111, 112, 113, 114, 115, 116, 117, 118, 119, 120, 121, 122]⟩ : ByteArray)[d]'h = hexCh d := by
  have e := dig_at ⟨d, hd⟩
  obtain ⟨_, e2⟩ := Array.getElem?_eq_some_iff.1 e
  exact e2

theorem slice_65 (N f : Nat) (hf : f ≤ 15) (W : World) : (Instr.sliceAt 185 (.pointer (some ⟨N, 0, none⟩)) (some (.int .i64 ((f : Int) + 50 - 1))) none none).run Tryz.prog W = .ok (.slice (some ⟨N, f + 49, none⟩) (16 - f) (16 - f)) W := by
  have hal : Tryz.prog.arrayLen 185 = 65 := by kernel_rfl
  have hel : Tryz.prog.underlying 185 = some (.array 65 5) := by kernel_rfl
  have hco : Tryz.prog.cellsOf 5 = 1 := by kernel_rfl
  have h := run_sliceAt_array_l (P := Tryz.prog) W 185 ⟨N, 0, none⟩ (by simp [Program.arrayLen, Program.elem, hel]) .i64 ((f : Int) + 50 - 1) (by omega) (by rw [hal]; omega)
  rw [h]
  go_simp
  have e : ((f : Int) + 50).toNat - 1 = f + 49 := by omega
  rw [e, if_neg (by omega)]
  exact ⟨rfl, by omega⟩

theorem zero_65 (W : World) : (zeroValue 185).run Tryz.prog W = .ok (.agg (Array.replicate 65 (.int .u8 0))) W := by kernel_rfl

theorem row_65 (w : World) (T : TypeId) : RowAt (w.alloc (.cells (Array.replicate 65 (.int .u8 0)) T)) w.heap.size (List.replicate 65 0) := by
  intro j hj
  have hj' : j < 65 := by simpa using hj
  refine ⟨?_, ?_⟩
  · rw [World.cell?_alloc_new]
    have e : (List.replicate 65 (0 : UInt8))[j] = 0 := List.getElem_replicate _
    rw [e, Array.getElem?_replicate, if_pos hj']; rfl
  · simp

set_option maxHeartbeats 1000000 in
theorem formatBits_16 (u : Nat) (w : World) (hu : u ≤ 9223372036854775807) (hde : DeTab w) :
    Calls Tryz.prog 154 #[.slice none 0 0, .int .u64 u, .int .i64 16, .bool false, .bool false] w fun e w' => e = .returned (.tuple #[.slice none 0 0, .string ⟨(hexDigits u).toArray⟩]) ∧ Below w.heap.size w w' := by
  have HTR : Hid (∀ o, Calls Tryz.prog 168 #[.int .u64 16] (w.alloc o) fun e w' => e = .returned (.int .i64 4) ∧ w' = w.alloc o) := fun o => trail_16 _ (hde.below ((Below.refl _ _).alloc (Nat.le_refl _) o))
  clear hde
  have hz := zero_65
  have hr0 := row_65 w 185
  generalize Array.replicate 65 (Value.int IntKind.u8 0) = Z at hz hr0
  have HR : Hid (RowAt (w.alloc (.cells Z 185)) w.heap.size (List.replicate 65 0)) := hr0
  clear hr0
  go_enter Tryz.func154, Tryz.ntmps154
  go_wp2_with (first | (go_at_call 167; refine (pow2_16 _).mono ?_; rintro e w1 ⟨rfl, hw⟩; obtain rfl := hw.symm) | (go_at_call 168; refine (HTR.out _).mono ?_; rintro e w1 ⟨rfl, hw⟩; obtain rfl := hw.symm))
  go_loopw [1, 13] (fun x i wr => ∃ (f m : Nat) (pre t : List UInt8), x = .int .u64 m ∧ i = .int .i64 ((f + 50 : Nat) : Int) ∧ m ≤ 9223372036854775807 ∧ m < 16 ^ (f + 1) ∧ f ≤ 15 ∧ pre.length = f + 50 ∧ (pre ++ t).length = 65 ∧ hexDigits u = hexDig (f + 1) m ++ t ∧ RowAt wr w.heap.size (pre ++ t) ∧ Below w.heap.size w wr ∧ w.heap.size < wr.heap.size) (fun x _ _ => (intOf x).toNat)
  case atStart => exact ⟨15, u, List.replicate 65 0, [], rfl, rfl, hu, by omega, by omega, by simp, by simp, by simp [hexDigits], by rw [List.append_nil]; exact HR.out, (Below.refl _ _).alloc (Nat.le_refl _) _, by simp⟩
  case round =>
    clear HR
    obtain ⟨f, m, pre, t, rfl, rfl, hm, hf, hf15, hp, ht, hd, hrow, hbe, hN⟩ := hrel
    have HD : Hid (hexDigits u = hexDig (f + 1) m ++ t) := hd; clear hd
    have HF : Hid (m < 16 ^ (f + 1)) := hf; clear hf
    have HP : Hid (pre.length = f + 50) := hp; clear hp
    have HT : Hid ((pre ++ t).length = 65) := ht; clear ht
    have hlt49 : f + 49 < (pre ++ t).length := by rw [HT.out]; omega
    obtain ⟨hc, hfz⟩ := hrow (f + 49) hlt49
    generalize (pre ++ t)[f + 49] = old at hc
    clear hlt49
    have hand := and_15 m hm
    obtain ⟨q, hq1, hq2⟩ := set_last pre t (f + 49) HP.out (hexCh (m % 16))
    have hrow1 := hrow.set (f + 49) (by rw [HT.out]; omega) (hexCh (m % 16))
    rw [hq2] at hrow1
    have HQ : Hid (q.length = f + 49) := hq1
    have HL : Hid ((q ++ hexCh (m % 16) :: t).length = 65) := by
      show _ = _
      rw [← hq2, List.length_set]; exact HT.out
    clear hq1 hq2
    by_cases h15 : 15 < m
    · have h15' : (16 : Int) ≤ (m : Int) := by omega
      have hdg := dig_get (m % 16) (by omega)
      go_wp2
      go_roundw
      case rel =>
        obtain ⟨g, rfl⟩ : ∃ g, f = g + 1 := by
          cases f with
          | zero => exact absurd HF.out (by omega)
          | succ g => exact ⟨g, rfl⟩
        have h1 := HF.out
        rw [Nat.pow_succ] at h1
        refine ⟨g, m / 16, q, hexCh (m % 16) :: t, by go_num, by go_num, by omega, by omega, by omega, HQ.out, HL.out, ?_, hrow1, hbe.setCell (Nat.le_refl _) _, by simpa using hN⟩
        rw [HD.out]
        simp only [hexDig]
        rw [if_neg (by omega), List.append_assoc]; rfl
      case measure => simp [intOf]; omega
    · have h15' : ¬ (16 : Int) ≤ (m : Int) := by omega
      have em : m % 16 = m := Nat.mod_eq_of_lt (by omega)
      rw [em] at hrow1 HL
      have hdg := dig_get m (by omega)
      have hsl := slice_65 w.heap.size f hf15
      have hcv := conv_at (cap := 16 - f) (n := 16 - f) hrow1 HQ.out (by have := HL.out; have := HQ.out; simp at *; omega)
      clear em hand
      have HE : Hid (hexCh m :: t = hexDigits u) := by
        show _ = _
        rw [HD.out]
        simp only [hexDig]
        rw [if_pos (by omega)]; rfl
      go_wp2
      go_ret2
      refine ⟨?_, hbe.setCell (Nat.le_refl _) _⟩
      rw [HE.out]
      rfl

set_option maxHeartbeats 400000 in
theorem formatIntIn_16 (u : Nat) (w : World) (hu : u ≤ 9223372036854775807) (hde : DeTab w) :
    Calls Tryz.prog 138 #[.int .i64 u, .int .i64 16] w fun e w' => e = .returned (.string ⟨(hexDigits u).toArray⟩) ∧ Below w.heap.size w w' := by
  have HD : Hid (DeTab w) := hde
  clear hde
  go_enter Tryz.func138, Tryz.ntmps138
  go_wp2_with (go_at_call 154; refine (formatBits_16 u _ hu HD.out).mono ?_; rintro e w1 ⟨rfl, hb1⟩)
  go_ret
  exact ⟨rfl, hb1⟩

set_option maxHeartbeats 400000 in
theorem formatInt_16 (u : Nat) (w : World) (hu : u ≤ 9223372036854775807) (hde : DeTab w) :
    Calls Tryz.prog 130 #[.int .i64 u, .int .i64 16] w fun e w' => e = .returned (.string ⟨(hexDigits u).toArray⟩) ∧ Below w.heap.size w w' := by
  have HD : Hid (DeTab w) := hde
  clear hde
  go_enter Tryz.func130, Tryz.ntmps130
  go_wp2_with (go_at_call 138; refine (formatIntIn_16 u _ hu HD.out).mono ?_; rintro e w1 ⟨rfl, hb1⟩)
  go_ret
  exact ⟨rfl, hb1⟩

set_option maxHeartbeats 400000 in
theorem hex_any (n : Int) (w : World) (hn : n ≤ 9223372036854775807) (hde : DeTab w) :
    Calls Tryz.prog 101 #[.int .i64 n] w fun e w' => e = .returned (.string ⟨(hexDigits n.toNat).toArray⟩) ∧ Below w.heap.size w w' := by
  have HD : Hid (DeTab w) := hde
  clear hde
  by_cases h : n < 0
  · have e : n.toNat = 0 := by omega
    have e0 : max n 0 = ((0 : Nat) : Int) := by omega
    rw [e]
    go_enter Tryz.func101, Tryz.ntmps101
    go_wp2_with fail
    rw [show (0 : Int) = ((0 : Nat) : Int) from rfl]
    refine (formatInt_16 0 w (by omega) HD.out).mono ?_
    rintro e w' ⟨rfl, hb⟩
    go_wp2
    go_ret
    exact ⟨rfl, hb⟩
  · obtain ⟨m, rfl⟩ := Int.eq_ofNat_of_zero_le (by omega : 0 ≤ n)
    rw [Int.toNat_natCast]
    go_enter Tryz.func101, Tryz.ntmps101
    go_wp2_with fail
    refine (formatInt_16 m w (by omega) HD.out).mono ?_
    rintro e w' ⟨rfl, hb⟩
    go_wp2
    go_ret
    exact ⟨rfl, hb⟩
end Go.Proofs.YtkhnkockdfmkgaaGreatDoor
namespace Go.Proofs.YtkhnkockdfmkgaaGreatDoor
open Go.RowKit M
set_option linter.unusedVariables false

/-- The block of the one row is the other's, or it is new. -/
def NewOr (w : World) (v v' : Value) : Prop := v'.ownBlock = v.ownBlock ∨ ∃ g, w.heap.size ≤ g ∧ v'.ownBlock = some g
theorem grown_transV {w w1 w2 : World} {v v1 : Value} (h : w.grownBy w1 v.ownBlock) (hn : NewOr w v v1) (h2 : w1.grownBy w2 v1.ownBlock) : w.grownBy w2 v.ownBlock :=
  ⟨h2.os.trans h.os, h2.tape.trans h.tape, h2.output.trans h.output, Nat.le_trans h.size h2.size, fun k hk hne => (h2.block k (Nat.lt_of_lt_of_le hk h.size) (fun e => by
    rcases hn with e1 | ⟨g, hg, e1⟩
    · exact hne (by rw [e, e1])
    · rw [e1] at e
      have := Option.some.inj e
      omega)).trans (h.block k hk hne)⟩
theorem newOr_trans {w w1 : World} {v v1 v2 : Value} (hz : w.heap.size ≤ w1.heap.size) (h : NewOr w v v1) (h2 : NewOr w1 v1 v2) : NewOr w v v2 := by
  rcases h2 with e | ⟨g, hg, e⟩
  · rcases h with e1 | ⟨g, hg, e1⟩
    · exact .inl (e.trans e1)
    · exact .inr ⟨g, hg, e.trans e1⟩
  · exact .inr ⟨g, Nat.le_trans hz hg, e⟩
theorem newOr_of {w : World} {v v' : Value} (h : v'.ownBlock = v.ownBlock ∨ v'.ownBlock = some w.heap.size) : NewOr w v v' := by
  rcases h with e | e
  · exact .inl e
  · exact .inr ⟨_, Nat.le_refl _, e⟩
theorem grown_belowV {w w' : World} (r : Option Nat) (h : Below w.heap.size w w') : w.grownBy w' r := ⟨h.os, h.tape, h.output, h.size, fun k hk _ => h.block k hk⟩

set_option maxHeartbeats 1000000 in
theorem putChunk_any (w : World) (B : Nat) (v : Value) (l : List UInt8) (x : ByteArray) (h : OwnY w B v l) (hB : B ≤ w.heap.size) (hl : l.length ≤ 2199023255552) (hx : x.size ≤ 1073741824) (hde : DeTab w) :
    Calls Tryz.prog 61 #[v, .string x] w fun e w' => ∃ v', e = .returned v' ∧ OwnY w' B v' (l ++ chTxt x.data.toList) ∧ w.grownBy w' v.ownBlock ∧ NewOr w v v' := by
  have HH := hide (hex_any (x.size : Int) w (by omega) hde)
  have hd16 : (hexDigits x.size).length ≤ 16 := hexDig_le 16 _
  obtain ⟨d, hd⟩ : ∃ d, (⟨(hexDigits x.size).toArray⟩ : ByteArray) = d := ⟨_, rfl⟩
  have hdz : d.size ≤ 16 := by rw [← hd]; exact hd16
  have HD : Hid (d.data.toList = hexDigits x.size) := by show d.data.toList = _; rw [← hd]
  rw [Int.toNat_natCast, hd] at HH
  have HO := hide h
  clear h hd hd16 hde
  go_enter Tryz.func61, Tryz.ntmps61
  go_wp2_with fail
  refine HH.out.mono ?_
  rintro e w0 ⟨rfl, b0⟩
  have HO0 := hide (HO.out.next b0)
  have G0 := hide (grown_belowV v.ownBlock b0)
  have z0 := b0.size
  clear HH HO b0
  go_wp2_with (at_builtin; refine wp_append_text rfl _ _ rfl B v l rfl HO0.out d rfl ?c1 ?c2 ?_)
  case c1 => omega
  case c2 => omega
  intro v1 w1 ho1 hg1 hb1
  have G1 := hide (grown_transV G0.out (.inl rfl) hg1)
  have N1 := hide (newOr_trans z0 (v := v) (v1 := v) (.inl rfl) (newOr_of hb1))
  have z1 := G1.out.size
  have HO1 := hide ho1
  clear hg1 hb1 ho1 HO0 G0 z0
  go_wp2_with (at_builtin; refine wp_append_text rfl _ _ rfl B v1 (l ++ d.data.toList) rfl HO1.out ⟨#[13, 10]⟩ rfl ?c1 ?c2 ?_)
  case c1 => have e : d.data.toList.length = d.size := Array.length_toList; have e2 : (⟨#[13, 10]⟩ : ByteArray).size = 2 := rfl; rw [List.length_append]; omega
  case c2 => omega
  intro v2 w2 ho2 hg2 hb2
  have G2 := hide (grown_transV G1.out N1.out hg2)
  have N2 := hide (newOr_trans z1 N1.out (newOr_of hb2))
  have z2 := G2.out.size
  have HO2 := hide ho2
  clear hg2 hb2 ho2 HO1 G1 N1 z1
  go_wp2_with (at_builtin; refine wp_append_text rfl _ _ rfl B v2 _ rfl HO2.out x rfl ?c1 ?c2 ?_)
  case c1 => have e : d.data.toList.length = d.size := Array.length_toList; rw [List.length_append, List.length_append]; simp only [List.length_cons, List.length_nil]; omega
  case c2 => omega
  intro v3 w3 ho3 hg3 hb3
  have G3 := hide (grown_transV G2.out N2.out hg3)
  have N3 := hide (newOr_trans z2 N2.out (newOr_of hb3))
  have z3 := G3.out.size
  have HO3 := hide ho3
  clear hg3 hb3 ho3 HO2 G2 N2 z2
  go_wp2_with (at_builtin; refine wp_append_text rfl _ _ rfl B v3 _ rfl HO3.out ⟨#[13, 10]⟩ rfl ?c1 ?c2 ?_)
  case c1 => have e : d.data.toList.length = d.size := Array.length_toList; have e2 : x.data.toList.length = x.size := Array.length_toList; have e3 : (⟨#[13, 10]⟩ : ByteArray).size = 2 := rfl; simp only [List.length_append, List.length_cons]; omega
  case c2 => omega
  intro v4 w4 ho4 hg4 hb4
  have G4 := hide (grown_transV G3.out N3.out hg4)
  have N4 := hide (newOr_trans z3 N3.out (newOr_of hb4))
  have HO4 : Hid (OwnY w4 B v4 (l ++ chTxt x.data.toList)) := by
    show OwnY w4 B v4 (l ++ chTxt x.data.toList)
    have ex : x.data.toList.length = x.size := Array.length_toList
    have e : l ++ chTxt x.data.toList = l ++ (d.data.toList ++ 13 :: 10 :: (x.data.toList ++ [13, 10])) := by rw [HD.out]; simp [chTxt, crlf, ex]
    rw [e]
    have e2 : l ++ d.data.toList ++ (⟨#[13, 10]⟩ : ByteArray).data.toList ++ x.data.toList ++ (⟨#[13, 10]⟩ : ByteArray).data.toList = l ++ (d.data.toList ++ 13 :: 10 :: (x.data.toList ++ [13, 10])) := by simp
    rw [← e2]; first | exact ho4 | simpa using ho4
  clear ho4 hg4 hb4 HO3 G3 N3 z3
  go_wp2
  go_ret
  exact ⟨v4, rfl, HO4.out, G4.out, N4.out⟩
end Go.Proofs.YtkhnkockdfmkgaaGreatDoor
namespace Go.Proofs.YtkhnkockdfmkgaaGreatDoor
open Go.RowKit Go.Shelf M
set_option linter.unusedVariables false
attribute [local go_sem] Oper.semAt_some

/-- The text of the pieces that have come. -/
def pcsT (pre : List ByteArray) : List UInt8 := pre.flatMap fun x => chTxt x.data.toList
theorem pcsT_snoc (pre : List ByteArray) (x : ByteArray) : pcsT (pre ++ [x]) = pcsT pre ++ chTxt x.data.toList := by simp [pcsT]
theorem pcsT_all (ns : List Int) (s : ByteArray) : pcsT (pcsB ns s) = pcsTxt ns s.data.toList := by
  unfold pcsT pcsB pcsTxt
  rw [List.flatMap_map]
  rfl
theorem pcsT_len (pre : List Pc) : (pcsT (vals pre)).length ≤ pre.length * 1048596 := by
  induction pre with
  | nil => simp [pcsT, vals]
  | cons x r ih =>
    have h1 := chTxt_len x.1.data.toList
    have h2 : x.1.data.toList.length = x.1.size := Array.length_toList
    have h3 := x.2
    have e : pcsT (vals (x :: r)) = chTxt x.1.data.toList ++ pcsT (vals r) := by simp [pcsT, vals]
    rw [e, List.length_append, List.length_cons, Nat.succ_mul]
    omega
theorem pcsB_count (ns : List Int) (s : ByteArray) : (pcsB ns s).length ≤ s.size := by
  have h1 := pcsC_ne ns s.data.toList
  have h2 := pcsC_sum ns s.data.toList
  have e : s.data.toList.length = s.size := Array.length_toList
  unfold pcsB
  rw [List.length_map]
  have : ∀ ps : List (List UInt8), (∀ m ∈ ps, m ≠ []) → ps.length ≤ ps.flatten.length := by
    intro ps
    induction ps with
    | nil => simp
    | cons m ps ih =>
      intro h
      have a1 : 0 < m.length := List.length_pos_iff.2 (h m (by simp))
      have a2 := ih (fun x hx => h x (by simp [hx]))
      simp only [List.length_cons, List.flatten_cons, List.length_append]
      omega
  have h3 := this _ h1
  rw [h2] at h3
  omega
theorem OwnY.notBox {w : World} {B b : Nat} {v u : Value} {l : List UInt8} (h : OwnY w B v l) (hb : Boxed w b 22 u) : some b ≠ v.ownBlock := by
  obtain ⟨g, cap, cur, fz, rfl, hB, hg, _⟩ := h
  intro e
  simp [Value.ownBlock] at e
  subst e
  rw [show w.heap[b]? = _ from hb] at hg
  simp at hg
theorem OwnY.cells {w : World} {B : Nat} {v : Value} {l : List UInt8} (h : OwnY w B v l) : ∀ (j : Nat) (o : Obj), v.ownBlock = some j → w.heap[j]? = some o → o.isCells = true := by
  obtain ⟨g, cap, cur, fz, rfl, hB, hg, _⟩ := h
  intro j o e ho
  simp [Value.ownBlock] at e
  subst e
  rw [hg] at ho
  cases ho
  rfl
theorem OwnY.kept {w w' : World} {B : Nat} {v : Value} {l : List UInt8} {r : Option Nat} (h : OwnY w B v l) (hg : w.grownBy w' r) (hne : ∀ k, v.ownBlock = some k → some k ≠ r) : OwnY w' B v l := by
  obtain ⟨g, cap, cur, fz, rfl, hB, hg0, hr⟩ := h
  exact ⟨g, cap, cur, fz, rfl, hB, (hg.block g (Array.getElem?_eq_some_iff.1 hg0).1 (hne g rfl)).trans hg0, hr⟩

/-- Between two rounds: a box holds the row of what has come. -/
def PcsI (w : World) (b : Nat) (pre : List Pc) (W : World) : Prop := (∃ v, Boxed W b 22 v ∧ OwnY W w.heap.size v (pcsT (vals pre))) ∧ Below w.heap.size w W
theorem PcsI.own (w : World) (b C : Nat) (hC : w.heap.size ≤ C) : OwnFrom C (PcsI w b) := by
  refine OwnFrom.and (Own.from ?_ _) (ownFrom_below (Nat.le_refl _) hC)
  rintro s X Y row ⟨v, hv, ho⟩ hg hr
  refine ⟨v, hv.kept hg (fun e => ?_), ho.kept hg (fun k e e' => ?_)⟩
  · obtain ⟨o, h1, h2⟩ := hr b e.symm
    rw [show X.heap[b]? = _ from hv] at h1; cases h1; cases h2
  · obtain ⟨o, h1, h2⟩ := hr k e'.symm
    rw [ho.cells k o e h1] at h2; cases h2

set_option maxRecDepth 100000 in
set_option maxHeartbeats 2000000 in
theorem putChunks_any (s : ByteArray) (a : Option Addr) (ns : List Int) (cap B : Nat) (w : World) (hI : Ints w B a ns) (hB : B ≤ w.heap.size) (hs : s.size ≤ 1048576) (hnl : ns.length ≤ 1073741824) (hde : DeTab w) :
    Calls Tryz.prog 22 #[.string s, .slice a ns.length cap] w fun e w' => (∃ v, e = .returned v ∧ OwnY w' w.heap.size v (putCs ns s.data.toList)) ∧ Below w.heap.size w w' := by
  refine (callsIn_wide (n := 3)).1 ?_
  refine callsIn_of_wp_marks Tryz.func22 rfl trivial ?_ rfl
  simp only [Tryz.ntmps22, List.size_toArray, List.length_cons, List.length_nil, Nat.reduceAdd, Nat.reduceSub, Array.replicate_succ, Array.replicate_zero, List.push_toArray, List.append_toArray, List.nil_append, List.cons_append]
  gi_wp2_with (refine ⟨trivial, ?_⟩; gi_at_call 60; refine (piecesOf_in Fence.wide _ trivial rfl s a ns.length cap _).mono ?_; rintro e w' ⟨rfl, rfl⟩)
  have bO := Boxed.new (w.alloc (Obj.cells #[] 5)) 22 (.slice (some ⟨w.heap.size, 0, none⟩) 0 0)
  rw [World.size_alloc] at bO
  have hO := OwnY.bare w
  obtain ⟨W1, hW1⟩ : ∃ W1, (w.alloc (Obj.cells #[] 5)).alloc (Obj.cells #[.slice (some ⟨w.heap.size, 0, none⟩) 0 0] 22) = W1 := ⟨_, rfl⟩
  have hb1 : Below w.heap.size w W1 := by rw [← hW1]; exact ((Below.refl _ w).alloc (Nat.le_refl _) _).alloc (by simp) _
  have hz1 : W1.heap.size = w.heap.size + 1 + 1 := by rw [← hW1]; simp
  have hO1 : OwnY W1 w.heap.size (.slice (some ⟨w.heap.size, 0, none⟩) 0 0) [] := by rw [← hW1]; exact hO.next ((Below.refl _ _).alloc (Nat.le_refl _) _)
  rw [hW1] at bO ⊢
  clear hO hW1
  have bS := Boxed.new W1 9 (.string s)
  have bN := Boxed.new (W1.alloc (Obj.cells #[.string s] 9)) 36 (.slice a ns.length cap)
  have bS2 := bS.alloc (Obj.cells #[.slice a ns.length cap] 36)
  have bO2 := (bO.alloc (Obj.cells #[.string s] 9)).alloc (Obj.cells #[.slice a ns.length cap] 36)
  have hO2 := (hO1.next ((Below.refl _ _).alloc (Nat.le_refl _) (Obj.cells #[.string s] 9))).next ((Below.refl _ _).alloc (Nat.le_refl _) (Obj.cells #[.slice a ns.length cap] 36))
  rw [World.size_alloc] at bN
  have hb2 : Below w.heap.size w ((W1.alloc (Obj.cells #[.string s] 9)).alloc (Obj.cells #[.slice a ns.length cap] 36)) := (hb1.alloc hb1.size _).alloc (by simp; omega) _
  have hz2 : ((W1.alloc (Obj.cells #[.string s] 9)).alloc (Obj.cells #[.slice a ns.length cap] 36)).heap.size = w.heap.size + 4 := by simp; omega
  rw [hz1] at bS2 bN
  obtain ⟨W2, hW2⟩ : ∃ W2, (W1.alloc (Obj.cells #[.string s] 9)).alloc (Obj.cells #[.slice a ns.length cap] 36) = W2 := ⟨_, rfl⟩
  rw [hW2] at bN bS2 bO2 hO2 hb2 hz2 ⊢
  clear hW2 hb1 hO1 bO bS
  have HDe := hide hde
  clear hde
  refine wpIn_rangeFunc_ownG rfl (by omega) (gf := 100) (lb := #[.pointer (some ⟨w.heap.size + 1 + 1, 0, none⟩), .pointer (some ⟨w.heap.size + 1 + 1 + 1, 0, none⟩)]) rfl trivial (enters_of Tryz.func100 (by kernel_rfl) rfl)
    (pieces_stops Fence.wide _ trivial rfl (by omega) (w.heap.size + 1 + 1) (w.heap.size + 1 + 1 + 1) w.heap.size s hs a ns cap hnl W2 (by omega) (by omega) (by omega) bS2.cell bN.cell ((hI.mono hB).below hb2 (Nat.le_refl _))) belowK_t (belowK_b (by omega)) (Below.refl _ _) (fun _ => rfl)
    (PcsI w (w.heap.size + 1))
    (fun _ _ _ => False)
    (PcsI.own w _ _ (by omega))
    (fun _ _ _ _ _ hs _ _ => hs)
    ⟨⟨_, bO2, hO2⟩, hb2⟩
    (fun x => { tmps := #[.string s, .slice a ns.length cap, undef, undef, .slice none 0 0, .pointer (some ⟨w.heap.size + 1, 0, none⟩), .string x.1, .slice (some ⟨w.heap.size, 0, none⟩) 0 0, .string s, .slice a ns.length cap, .func (.func 100) #[] #[.pointer (some ⟨w.heap.size + 1 + 1, 0, none⟩), .pointer (some ⟨w.heap.size + 1 + 1 + 1, 0, none⟩)], .string x.1, undef, undef, undef, undef, undef], defers := [] }) ?assign ?body ?done ?stop
  case assign =>
    intro l x W K hK
    gi_wp2
    exact hK
  case body =>
    rintro l pre x W ⟨⟨v, hv, ho⟩, hb⟩ hlt
    have hcnt := pcsB_count ns s
    have hlen := pcsT_len pre
    have hx := x.2
    have hP := putChunk_any W w.heap.size v (pcsT (vals pre)) x.1 ho hb.size (by omega) (by omega) (HDe.out.below hb)
    rw [← pcsT_snoc, ← vals_snoc] at hP
    have HP := hide hP
    have HBe := hide hb
    have HO := hide ho
    have HV := hide hv
    have hc := hv.cell
    have hfz := hv.frozen
    obtain ⟨g, c, hvv, _⟩ := ho.byt
    subst hvv
    clear hP ho hb hlen hcnt
    gi_wp2_with (refine ⟨trivial, ?_⟩; gi_at_call 61; refine (CallsIn.inRound l (callsIn_wide.2 HP.out)).mono ?_; rintro e w1 ⟨v', rfl, ho1, hg1, hn1⟩; have hv1 := HV.out.kept hg1 (HO.out.notBox HV.out); have hc1 := hv1.cell; have hf1 := hv1.frozen; have HO1 := hide ho1; have HG1 := hide hg1; obtain ⟨g', c', hvv', _⟩ := ho1.byt; subst hvv'; clear ho1 hg1)
    have hgr := grownBy_setCell' w1 (w.heap.size + 1) (Value.slice (some ⟨g', 0, none⟩) (pcsT (vals (pre ++ [x]))).length c')
    have hbl := HO.out.grown HBe.out.size HG1.out
    exact ⟨((KeepsOthers.of_grownBy HG1.out (fun j o => HO.out.cells j o)).trans (KeepsOthers.setCell _ _ _)).from _, hbl.setCell (p := ⟨w.heap.size + 1, 0, none⟩) (Nat.le_succ _) _, ⟨_, hv1.set _, HO1.out.kept hgr (fun k e e' => HO1.out.notBox hv1 (by rw [← e', e]))⟩, HBe.out.trans (hbl.setCell (p := ⟨w.heap.size + 1, 0, none⟩) (Nat.le_succ _) _)⟩
  case done =>
    rintro D xs W hD hxs ⟨⟨v, hv, ho⟩, hb⟩ hK
    rw [show vals xs = pcsB ns s from hxs, pcsT_all] at ho
    have hlen := pcsTxt_len ns s.data.toList
    have es : s.data.toList.length = s.size := Array.length_toList
    have hP := putChunk_any W w.heap.size v _ ⟨#[]⟩ ho hb.size (by omega) (by decide) (HDe.out.below hb)
    rw [show pcsTxt ns s.data.toList ++ chTxt (⟨#[]⟩ : ByteArray).data.toList = putCs ns s.data.toList from rfl] at hP
    have HP := hide hP
    have HBe := hide hb
    have HO := hide ho
    have hc := hv.cell
    have hfz := hv.frozen
    have HK := hide hK
    obtain ⟨g, c, hvv, _⟩ := ho.byt
    subst hvv
    clear hP ho hb hlen hK
    gi_wp2_with (refine ⟨trivial, ?_⟩; gi_at_call 61; refine (callsIn_wide.2 HP.out).mono ?_; rintro e w1 ⟨v', rfl, ho1, hg1, hn1⟩; have HO1 := hide ho1; have HG1 := hide hg1; clear ho1 hg1)
    have hK1 : w1.heap[D]? = some (.deferred (some [])) := (HG1.out.block D (Array.getElem?_eq_some_iff.1 HK.out).1 (fun e => by have := HO.out.cells D _ e.symm HK.out; cases this)).trans HK.out
    refine ⟨by simp, .inl ⟨_, _, rfl, run_takeDeferred hK1, ?_⟩⟩
    have hbl := HO.out.grown HBe.out.size HG1.out
    exact ⟨_, results_tmp rfl _ _ _, ⟨_, rfl, HO1.out.kept (grownBy_putObj' w1 D _) (fun k e e' => by cases e'; have := HO1.out.cells D _ e hK1; cases this)⟩, HBe.out.trans (hbl.trans (belowK_b (w := w) (Nat.le_refl _) w1 D _ _ (by omega) hK1 rfl rfl))⟩
  case stop =>
    rintro D c pre W _ _ h _
    exact h.elim
end Go.Proofs.YtkhnkockdfmkgaaGreatDoor
