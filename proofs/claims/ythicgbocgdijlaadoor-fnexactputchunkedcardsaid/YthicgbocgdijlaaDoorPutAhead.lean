/-
  What the program's putAhead does.
-/
import Derived.Test.YthicgbocgdijlaaDoorRet
import Derived.Test.YthicgbocgdijlaaDoorReqOk
import Derived.Test.YthicgbocgdijlaaDoorSpecPut
namespace Go.Proofs.YthicgbocgdijlaaDoor
open Go.RowKit M
set_option linter.unusedVariables false

set_option maxRecDepth 100000 in
set_option maxHeartbeats 4000000 in
theorem putAhead_no (a : Option Addr) (r : Rq) (cap B : Nat) (a2 : Option Addr) (n2 cap2 : Nat) (w : World) (h : Hds w B a r.hs) (hB : B ≤ w.heap.size) (hfit : FitR r) (hr : reqB r = false) :
    Calls Tryd.prog 36 #[.agg #[.string r.m, .string r.p, .slice a r.hs.length cap, .string r.b], .slice a2 n2 cap2] w fun e w' => e = .returned (.tuple #[.slice none 0 0, .bool false]) ∧ Below w.heap.size w w' := by
  have HB0 : Hid (Below w.heap.size w (w.alloc (Obj.cells #[Value.string r.m, Value.string r.p, Value.slice a r.hs.length cap, Value.string r.b] 42))) := (Below.refl _ _).alloc (Nat.le_refl _) _
  have HX0 := hide (BoxR.made w a cap r 42)
  have HH := hide h
  have HF := hide hfit
  clear h hfit
  go_enter Tryd.func36, Tryd.ntmps36
  go_wp2_with fail
  refine (reqOk_any a r cap B _ (HH.out.below HB0.out hB) (Nat.le_trans hB HB0.out.size) HF.out).mono ?_
  rintro e w1 ⟨rfl, b1⟩
  rw [hr]
  have c1 := HB0.out.trans (b1.mono HB0.out.size)
  go_wp2
  go_ret2
  exact ⟨rfl, c1⟩

set_option maxRecDepth 100000 in
set_option maxHeartbeats 4000000 in
theorem putAhead_yes (a : Option Addr) (r : Rq) (cap B : Nat) (a2 : Option Addr) (hs2 : List Hd) (cap2 : Nat) (w : World) (h : Hds w B a r.hs) (hB : B ≤ w.heap.size) (h2 : Hds w w.heap.size a2 hs2) (hfit : FitR r) (hl : r.hs.length ≤ 1048576) (hsum : sumH r.hs ≤ 1048576) (hl2 : hs2.length ≤ 16) (hsum2 : sumH hs2 ≤ 1048576) (h1 : r.m.size ≤ 1048576) (h2p : r.p.size ≤ 1048576) (hr : reqB r = true) :
    Calls Tryd.prog 36 #[.agg #[.string r.m, .string r.p, .slice a r.hs.length cap, .string r.b], .slice a2 hs2.length cap2] w fun e w' => (∃ v, e = .returned (.tuple #[v, .bool (decide ((frontL r (hdsTxt hs2)).length ≤ 400))]) ∧ OwnY w' w.heap.size v (frontL r (hdsTxt hs2)) ∧ (frontL r (hdsTxt hs2)).length ≤ 33554432) ∧ Below w.heap.size w w' := by
  have HB0 : Hid (Below w.heap.size w (w.alloc (Obj.cells #[Value.string r.m, Value.string r.p, Value.slice a r.hs.length cap, Value.string r.b] 42))) := (Below.refl _ _).alloc (Nat.le_refl _) _
  have HX0 := hide (BoxR.made w a cap r 42)
  have HH := hide h
  have HH2 := hide h2
  have HF := hide hfit
  clear h h2 hfit
  go_enter Tryd.func36, Tryd.ntmps36
  go_wp2_with fail
  refine (reqOk_any a r cap B _ (HH.out.below HB0.out hB) (Nat.le_trans hB HB0.out.size) HF.out).mono ?_
  rintro e w1 ⟨rfl, b1⟩
  rw [hr]
  have c1 := HB0.out.trans (b1.mono HB0.out.size)
  have BX1 := hide (HX0.out.next b1)
  have x1 := BX1.out
  obtain ⟨hlt1, x10, x11, x12, x13⟩ := x1
  obtain ⟨sx, hsx⟩ : ∃ sx, r.m ++ (⟨#[32]⟩ : ByteArray) ++ r.p ++ ⟨#[32]⟩ ++ ⟨#[72, 84, 84, 80, 47, 49, 46, 49]⟩ ++ ⟨#[13, 10]⟩ = sx := ⟨_, rfl⟩
  have hcv := Lib.run_convert_string_bytes (P := Tryd.prog) w1 9 22 5 sx Tryd.underlying9 Tryd.underlying22 Tryd.underlying5
  have hsz : sx.size ≤ 4194304 := by
    rw [← hsx]
    simp only [ByteArray.size_append]
    have e1 : (⟨#[32]⟩ : ByteArray).size = 1 := rfl
    have e2 : (⟨#[72, 84, 84, 80, 47, 49, 46, 49]⟩ : ByteArray).size = 8 := rfl
    have e3 : (⟨#[13, 10]⟩ : ByteArray).size = 2 := rfl
    omega
  have HSX : Hid (sx.data.toList = topTxt r) := by
    show sx.data.toList = topTxt r
    rw [← hsx]
    simp [topTxt, proto, crlf]
  have hz1 := c1.size
  have HO1 := hide (OwnY.made w1 sx (by omega))
  have C2 := hide (c1.trans ((below_bytesP w1 sx).mono c1.size))
  have BX2 := hide (BX1.out.next (below_bytesP w1 sx))
  obtain ⟨hlt2, x20, x21, x22, x23⟩ := BX2.out
  have HZ2 : Hid (w1.heap.size ≤ (Lib.bytesWorld w1 5 sx).heap.size) := (below_bytesP w1 sx).size
  go_wp2
  clear hcv hsx x10 x11 x12 x13 x20 x21 x22 x23
  go_loopw [6, 27] (fun bv i wr => ∃ (k : Nat) (l : List UInt8), k ≤ r.hs.length ∧ i = .int .i64 k ∧ l = topTxt r ++ hdsTxt (r.hs.take k) ∧ OwnY wr w1.heap.size bv l ∧ Below w1.heap.size w1 wr) (fun _ i _ => r.hs.length - (intOf i).toNat)
  case atStart => exact ⟨0, sx.data.toList, Nat.zero_le _, rfl, by rw [HSX.out]; simp [hdsTxt], HO1.out, below_bytesP w1 sx⟩
  case round =>
    obtain ⟨k, l, hk, rfl, hL, ho, hbe⟩ := hrel
    have hlz : l.length ≤ 16777216 := by
      have e : sx.data.toList.length = sx.size := Array.length_toList
      rw [hL, List.length_append, ← HSX.out, e, hdsTxt_len]
      have := sumH_take r.hs k
      rw [List.length_take]; omega
    have HL := hide hL
    clear hL
    have cw := c1.trans (hbe.mono c1.size)
    by_cases hlt : k < r.hs.length
    · obtain ⟨b, o, rfl, hb, hc⟩ := HH.out.below cw hB (by omega)
      have hcx := (hc k hlt).1
      have hcy := (hc k hlt).2
      have HS : Hid (hdsTxt (r.hs.take (k + 1)) = hdsTxt (r.hs.take k) ++ hdTxt r.hs[k]) := hdsTxt_snoc r.hs k hlt
      have hz1 : (r.hs[k]).1.size ≤ 1048576 := Nat.le_trans (sumH_mem r.hs _ (List.getElem_mem hlt)).1 hsum
      have hz2 : (r.hs[k]).2.size ≤ 1048576 := Nat.le_trans (sumH_mem r.hs _ (List.getElem_mem hlt)).2 hsum
      have ba : Below wr.heap.size wr (wr.alloc (Obj.cells #[.string r.hs[k].1, .string r.hs[k].2] 68)) := (Below.refl _ _).alloc (Nat.le_refl _) _
      have HP := hide (putHead_any _ w1.heap.size u6 l r.hs[k].1 r.hs[k].2 (ho.next ba) (Nat.le_trans hbe.size ba.size) (by omega) (by omega) (by omega))
      have ca := hide (hbe.trans (ba.mono hbe.size))
      clear hc ho ba
      go_wp2_with fail
      refine HP.out.mono ?_
      rintro e w2 ⟨⟨v2, rfl, ho2⟩, b2⟩
      have c2 := ca.out.trans b2
      have HO2 := hide ho2
      clear ho2 HP
      go_wp2
      go_roundw
      case rel => exact ⟨k + 1, _, by omega, by go_num, by rw [HS.out, HL.out, List.append_assoc], HO2.out, c2⟩
      case measure => simp [intOf]; omega
    · have HL2 : Hid (l = topTxt r ++ hdsTxt r.hs) := by
        show l = _
        rw [HL.out, List.take_of_length_le (by omega)]
      have BX3 := hide (BX1.out.next hbe)
      obtain ⟨hlt3, x30, x31, x32, x33⟩ := BX3.out
      have HO3 := hide ho
      clear ho HL
      go_wp2
      go_loopw [6, 37] (fun bv i wr2 => ∃ (j : Nat) (l2 : List UInt8), j ≤ hs2.length ∧ i = .int .i64 j ∧ l2 = topTxt r ++ hdsTxt r.hs ++ hdsTxt (hs2.take j) ∧ OwnY wr2 w1.heap.size bv l2 ∧ Below w1.heap.size w1 wr2) (fun _ i _ => hs2.length - (intOf i).toNat)
      case atStart => exact ⟨0, l, Nat.zero_le _, rfl, by rw [HL2.out]; simp [hdsTxt], HO3.out, hbe⟩
      case round =>
        clear hbe cw BX3 HO3 x30 x31 x32 x33 hlz
        obtain ⟨j, l2, hj, rfl, hL, ho, hbe⟩ := hrel
        have hlz : l2.length ≤ 16777216 := by
          have e : sx.data.toList.length = sx.size := Array.length_toList
          rw [hL, List.length_append, List.length_append, ← HSX.out, e, hdsTxt_len, hdsTxt_len]
          have := sumH_take hs2 j
          rw [List.length_take]; omega
        have HL := hide hL
        clear hL
        have cw := c1.trans (hbe.mono c1.size)
        by_cases hlt2 : j < hs2.length
        · obtain ⟨b, o, rfl, hb, hc⟩ := HH2.out.below cw (Nat.le_refl _) (by omega)
          have hcx := (hc j hlt2).1
          have hcy := (hc j hlt2).2
          have HS : Hid (hdsTxt (hs2.take (j + 1)) = hdsTxt (hs2.take j) ++ hdTxt hs2[j]) := hdsTxt_snoc hs2 j hlt2
          have hz1 : (hs2[j]).1.size ≤ 1048576 := Nat.le_trans (sumH_mem hs2 _ (List.getElem_mem hlt2)).1 hsum2
          have hz2 : (hs2[j]).2.size ≤ 1048576 := Nat.le_trans (sumH_mem hs2 _ (List.getElem_mem hlt2)).2 hsum2
          have ba : Below wr.heap.size wr (wr.alloc (Obj.cells #[.string hs2[j].1, .string hs2[j].2] 68)) := (Below.refl _ _).alloc (Nat.le_refl _) _
          have HP := hide (putHead_any _ w1.heap.size u6 l2 hs2[j].1 hs2[j].2 (ho.next ba) (Nat.le_trans hbe.size ba.size) (by omega) (by omega) (by omega))
          have ca := hide (hbe.trans (ba.mono hbe.size))
          clear hc ho ba
          go_wp2_with fail
          refine HP.out.mono ?_
          rintro e w2 ⟨⟨v2, rfl, ho2⟩, b2⟩
          have c2 := ca.out.trans b2
          have HO2 := hide ho2
          clear ho2 HP
          go_wp2
          go_roundw
          case rel => exact ⟨j + 1, _, by omega, by go_num, by rw [HS.out, HL.out, List.append_assoc], HO2.out, c2⟩
          case measure => simp [intOf]; omega
        · have HO3 := hide ho
          go_wp2_with (at_builtin; refine wp_append_text rfl _ _ rfl w1.heap.size u6 l2 rfl HO3.out ⟨#[13, 10]⟩ rfl ?c1 ?c2 ?_)
          case c1 => have e2 : (⟨#[13, 10]⟩ : ByteArray).size = 2 := rfl; omega
          case c2 => exact hbe.size
          intro v4 w4 ho4 hg4 hb4
          have c4 := hbe.trans (HO3.out.grown hbe.size hg4)
          have HE4 : l2 ++ (⟨#[13, 10]⟩ : ByteArray).data.toList = frontL r (hdsTxt hs2) := by
            show l2 ++ [13, 10] = frontL r (hdsTxt hs2)
            rw [HL.out, List.take_of_length_le (by omega)]
            simp [frontL, crlf]
          have hLz : (frontL r (hdsTxt hs2)).length ≤ 33554432 := by
            rw [← HE4, List.length_append]
            have e : (⟨#[13, 10]⟩ : ByteArray).data.toList.length = 2 := rfl
            omega
          rw [HE4] at ho4
          obtain ⟨L, hL⟩ : ∃ L, frontL r (hdsTxt hs2) = L := ⟨_, rfl⟩
          rw [hL] at ho4 hLz
          have HLf := hide hL
          have HO4 := hide ho4
          obtain ⟨g4, k4, hv4, _, _, _, _, _⟩ := ho4.byt
          subst hv4
          clear HE4 ho4 hg4 hb4 ho hL
          have C4 := hide (c1.trans (c4.mono c1.size))
          go_wp2
          refine bodyPost_ret (v := .tuple #[.slice (some ⟨g4, 0, none⟩) L.length k4, .bool (decide ((L.length : Int) ≤ 400))]) (by simp [results, Tryd.results36, go_sem]) rfl ?_
          rw [HLf.out]
          refine ⟨⟨_, ?_, HO4.out.base c1.size, hLz⟩, C4.out⟩
          have e : decide ((L.length : Int) ≤ 400) = decide (L.length ≤ 400) := by
            by_cases h4 : L.length ≤ 400
            · rw [decide_eq_true h4, decide_eq_true (by omega)]
            · rw [decide_eq_false h4, decide_eq_false (by omega)]
          rw [e]
end Go.Proofs.YthicgbocgdijlaaDoor
