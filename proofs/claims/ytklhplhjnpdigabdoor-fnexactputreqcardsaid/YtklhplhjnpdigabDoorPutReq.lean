/-
  What the program's PutReq does.
-/
import Derived.Test.YtklhplhjnpdigabDoorPutHead
import Derived.Test.YtklhplhjnpdigabDoorReqOk
import Derived.Test.YtklhplhjnpdigabDoorNumText
import Derived.Test.YtklhplhjnpdigabDoorSpecPut
namespace Go.Proofs.YtklhplhjnpdigabDoor
open Go.RowKit M
set_option linter.unusedVariables false

/-- '[]byte{}'. -/
theorem OwnY.none (w : World) : OwnY (w.alloc (Obj.cells #[] 5)) w.heap.size (.slice (some ⟨w.heap.size, 0, none⟩) 0 0) [] :=
  ⟨w.heap.size, 0, #[], (0, 0), rfl, Nat.le_refl _, heap_alloc_new w _, .inl rfl, Nat.le_refl _, Nat.zero_le _, rfl, rfl⟩

set_option maxRecDepth 100000 in
set_option maxHeartbeats 4000000 in
theorem putReq_any (a : Option Addr) (r : Rq) (cap B : Nat) (w : World) (h : Hds w B a r.hs) (hB : B ≤ w.heap.size) (hfit : FitR r) (hl : r.hs.length ≤ 1048576) (hsum : sumH r.hs ≤ 1048576) (h1 : r.m.size ≤ 1048576) (h2 : r.p.size ≤ 1048576) (h4 : r.b.size ≤ 1048576) (hpw : ∀ w', Below w.heap.size w w' → PowTab w') :
    Calls Tryd.prog 8 #[.agg #[.string r.m, .string r.p, .slice a r.hs.length cap, .string r.b]] w fun e w' => (∃ v, e = .returned v ∧ OwnY w' w.heap.size v (putL r)) ∧ Below w.heap.size w w' := by
  have HB0 : Hid (Below w.heap.size w (w.alloc (Obj.cells #[Value.string r.m, Value.string r.p, Value.slice a r.hs.length cap, Value.string r.b] 30))) := (Below.refl _ _).alloc (Nat.le_refl _) _
  have HX0 := hide (BoxR.made w a cap r 30)
  have HH := hide h
  have HF := hide hfit
  have HPw := hide hpw
  clear h hfit hpw
  cases hr : reqB r
  · have HE : Hid (putL r = []) := by show putL r = []; simp [putL, put0, hr]
    go_enter Tryd.func8, Tryd.ntmps8
    go_wp2_with fail
    refine (reqOk_any a r cap B _ (HH.out.below HB0.out hB) (Nat.le_trans hB HB0.out.size) HF.out).mono ?_
    rintro e w1 ⟨rfl, b1⟩
    rw [hr]
    have c1 := HB0.out.trans (b1.mono HB0.out.size)
    go_wp2
    go_ret
    rw [HE.out]
    exact ⟨⟨_, rfl, (OwnY.none w1).base c1.size⟩, c1.alloc c1.size _⟩
  · go_enter Tryd.func8, Tryd.ntmps8
    go_wp2_with fail
    refine (reqOk_any a r cap B _ (HH.out.below HB0.out hB) (Nat.le_trans hB HB0.out.size) HF.out).mono ?_
    rintro e w1 ⟨rfl, b1⟩
    rw [hr]
    have c1 := HB0.out.trans (b1.mono HB0.out.size)
    have BX1 := hide (HX0.out.next b1)
    have x1 := BX1.out
    obtain ⟨hlt1, x10, x11, x12, x13⟩ := x1
    obtain ⟨sx, hsx⟩ : ∃ sx, r.m ++ (⟨#[32]⟩ : ByteArray) ++ r.p ++ ⟨#[32]⟩ ++ ⟨#[72, 84, 84, 80, 47, 49, 46, 49]⟩ ++ ⟨#[13, 10]⟩ = sx := ⟨_, rfl⟩
    have hcv := Lib.run_convert_string_bytes (P := Tryd.prog) w1 9 26 5 sx Tryd.underlying9 Tryd.underlying26 Tryd.underlying5
    have hsz : sx.size ≤ 4194304 := by
      rw [← hsx]
      simp only [ByteArray.size_append]
      have e1 : (⟨#[32]⟩ : ByteArray).size = 1 := rfl
      have e2 : (⟨#[72, 84, 84, 80, 47, 49, 46, 49]⟩ : ByteArray).size = 8 := rfl
      have e3 : (⟨#[13, 10]⟩ : ByteArray).size = 2 := rfl
      omega
    have HSX : Hid (sx.data.toList = topTxt r) := by
      show sx.data.toList = topTxt r
      rw [← hsx]
      simp [topTxt, proto, crlf]
    have hz1 := c1.size
    have HO1 := hide (OwnY.made w1 sx (by omega))
    have C2 := hide (c1.trans ((below_bytesP w1 sx).mono c1.size))
    have BX2 := hide (BX1.out.next (below_bytesP w1 sx))
    obtain ⟨hlt2, x20, x21, x22, x23⟩ := BX2.out
    have HZ2 : Hid (w1.heap.size ≤ (Lib.bytesWorld w1 5 sx).heap.size) := (below_bytesP w1 sx).size
    go_wp2
    clear hcv hsx x10 x11 x12 x13 x20 x21 x22 x23
    go_loopw [3, 23] (fun bv i wr => ∃ (k : Nat) (l : List UInt8), k ≤ r.hs.length ∧ i = .int .i64 k ∧ l = topTxt r ++ hdsTxt (r.hs.take k) ∧ OwnY wr w1.heap.size bv l ∧ Below w1.heap.size w1 wr) (fun _ i _ => r.hs.length - (intOf i).toNat)
    case atStart => exact ⟨0, sx.data.toList, Nat.zero_le _, rfl, by rw [HSX.out]; simp [hdsTxt], HO1.out, below_bytesP w1 sx⟩
    case round =>
      obtain ⟨k, l, hk, rfl, hL, ho, hbe⟩ := hrel
      have hlz : l.length ≤ 16777216 := by
        have e : sx.data.toList.length = sx.size := Array.length_toList
        rw [hL, List.length_append, ← HSX.out, e, hdsTxt_len]
        have := sumH_take r.hs k
        rw [List.length_take]; omega
      have HL := hide hL
      clear hL
      have cw := c1.trans (hbe.mono c1.size)
      by_cases hlt : k < r.hs.length
      · obtain ⟨b, o, rfl, hb, hc⟩ := HH.out.below cw hB (by omega)
        have hcx := (hc k hlt).1
        have hcy := (hc k hlt).2
        have HS : Hid (hdsTxt (r.hs.take (k + 1)) = hdsTxt (r.hs.take k) ++ hdTxt r.hs[k]) := hdsTxt_snoc r.hs k hlt
        have hz1 : (r.hs[k]).1.size ≤ 1048576 := Nat.le_trans (sumH_mem r.hs _ (List.getElem_mem hlt)).1 hsum
        have hz2 : (r.hs[k]).2.size ≤ 1048576 := Nat.le_trans (sumH_mem r.hs _ (List.getElem_mem hlt)).2 hsum
        have ba : Below wr.heap.size wr (wr.alloc (Obj.cells #[.string r.hs[k].1, .string r.hs[k].2] 47)) := (Below.refl _ _).alloc (Nat.le_refl _) _
        have HP := hide (putHead_any _ w1.heap.size u3 l r.hs[k].1 r.hs[k].2 (ho.next ba) (Nat.le_trans hbe.size ba.size) (by omega) (by omega) (by omega))
        have ca := hide (hbe.trans (ba.mono hbe.size))
        clear hc ho ba
        go_wp2_with fail
        refine HP.out.mono ?_
        rintro e w2 ⟨⟨v2, rfl, ho2⟩, b2⟩
        have c2 := ca.out.trans b2
        have HO2 := hide ho2
        clear ho2 HP
        go_wp2
        go_roundw
        case rel => exact ⟨k + 1, _, by omega, by go_num, by rw [HS.out, HL.out, List.append_assoc], HO2.out, c2⟩
        case measure => simp [intOf]; omega
      · have HL2 : Hid (l = topTxt r ++ hdsTxt r.hs) := by
          show l = _
          rw [HL.out, List.take_of_length_le (by omega)]
        have BX3 := hide (BX1.out.next hbe)
        obtain ⟨hlt3, x30, x31, x32, x33⟩ := BX3.out
        have HO3 := hide ho
        clear ho HL
        by_cases hbz : r.b.size = 0
        · have hz : r.b.toList.isEmpty = true := by
            rw [ByteArray.toList_eq]
            have e : r.b.data.toList.length = r.b.size := Array.length_toList
            cases hq : r.b.data.toList with
            | nil => rfl
            | cons _ _ => rw [hq] at e; simp at e; omega
          have HBL : Hid (bodyLine r.b = []) := by show bodyLine r.b = []; unfold bodyLine; rw [if_pos hbz]
          clear hbz
          go_wp2_with (at_builtin; refine wp_append_text rfl _ _ rfl w1.heap.size u3 l rfl HO3.out ⟨#[13, 10]⟩ rfl ?c1 ?c2 ?_)
          case c1 => have e2 : (⟨#[13, 10]⟩ : ByteArray).size = 2 := rfl; omega
          case c2 => exact hbe.size
          intro v4 w4 ho4 hg4 hb4
          have c4 := hbe.trans (HO3.out.grown hbe.size hg4)
          have BX4 := hide (BX1.out.below c4 hlt1)
          obtain ⟨hlt4, x40, x41, x42, x43⟩ := BX4.out
          have HE4 : Hid (l ++ (⟨#[13, 10]⟩ : ByteArray).data.toList = frontL r (bodyLine r.b)) := by
            show l ++ [13, 10] = frontL r (bodyLine r.b)
            rw [HBL.out, HL2.out]
            simp [frontL, crlf]
          obtain ⟨L, hL⟩ : ∃ L, l ++ (⟨#[13, 10]⟩ : ByteArray).data.toList = L := ⟨_, rfl⟩
          have hLz : L.length ≤ 33554432 := by
            rw [← hL, List.length_append]
            have e : (⟨#[13, 10]⟩ : ByteArray).data.toList.length = 2 := rfl
            omega
          have HLf : Hid (L = frontL r (bodyLine r.b)) := by show L = _; rw [← hL]; exact HE4.out
          rw [hL] at ho4
          have HO4 := hide ho4
          obtain ⟨g4, k4, rfl, _, _, _, _, _⟩ := ho4.byt
          clear hL HE4 ho4 hg4 hb4
          by_cases h400 : L.length ≤ 400
          · have h4' : ¬ ((400 : Int) < L.length) := by omega
            have HE : Hid (putL r = L ++ r.b.data.toList) := by
              show putL r = _
              have := HLf.out
              unfold putL put0
              rw [← this, if_pos ⟨hr, h400⟩]
            go_wp2_with (at_builtin; refine wp_append_text rfl _ _ rfl w1.heap.size _ L rfl HO4.out r.b rfl ?c1 ?c2 ?_)
            case c1 => omega
            case c2 => exact c4.size
            intro v5 w5 ho5 hg5 hb5
            have c5 := c4.trans (HO4.out.grown c4.size hg5)
            have HO5 := hide ho5
            clear ho5 hg5 hb5
            go_wp2
            go_ret
            rw [HE.out]
            exact ⟨⟨_, rfl, HO5.out.base c1.size⟩, c1.trans (c5.mono c1.size)⟩
          · have h4' : (400 : Int) < L.length := by omega
            have HE : Hid (putL r = []) := by
              show putL r = _
              have := HLf.out
              unfold putL put0
              rw [← this, if_neg (fun h => h400 h.2)]
            go_wp2
            go_ret
            rw [HE.out]
            have c5 := c1.trans (c4.mono c1.size)
            exact ⟨⟨_, rfl, (OwnY.none w4).base c5.size⟩, c5.alloc c5.size _⟩
        · have hz : r.b.toList.isEmpty = false := by
            rw [ByteArray.toList_eq]
            have e : r.b.data.toList.length = r.b.size := Array.length_toList
            cases hq : r.b.data.toList with
            | nil => rw [hq] at e; simp at e; omega
            | cons _ _ => rfl
          have HBL : Hid (bodyLine r.b = lenLine r.b.size) := by show bodyLine r.b = _; unfold bodyLine; rw [if_neg hbz]
          clear hbz
          have hN : Calls Tryd.prog 23 #[.int .i64 (r.b.size : Int)] wr fun e w' => e = .returned (.string ⟨(Lib.decDigits r.b.size).toArray⟩) ∧ Below wr.heap.size wr w' := by
            have h := numText_any (r.b.size : Int) wr (by omega) (HPw.out wr cw)
            rwa [Int.toNat_natCast] at h
          have hd20 := dec_len r.b.size h4
          obtain ⟨d, hd⟩ : ∃ d, (⟨(Lib.decDigits r.b.size).toArray⟩ : ByteArray) = d := ⟨_, rfl⟩
          have hdz : d.size ≤ 20 := by rw [← hd]; exact hd20
          have HD : Hid (d.data.toList = Lib.decDigits r.b.size) := by show d.data.toList = _; rw [← hd]
          rw [hd] at hN
          have HN := hide hN
          clear hd hN hd20
          go_wp2_with fail
          refine HN.out.mono ?_
          rintro e w2 ⟨rfl, b2⟩
          have c2 := hbe.trans (b2.mono hbe.size)
          have HP := hide (putHead_any w2 w1.heap.size u3 l lenName d (HO3.out.next b2) c2.size (by omega) (by decide) (by omega))
          have BX3b := hide (BX3.out.next b2)
          obtain ⟨hlt3b, x50, x51, x52, x53⟩ := BX3b.out
          clear HN
          go_wp2_with fail
          refine HP.out.mono ?_
          rintro e w3 ⟨⟨v3, rfl, ho3⟩, b3⟩
          have c3 := c2.trans b3
          obtain ⟨l3, hl3⟩ : ∃ l3, l ++ hdTxt (lenName, d) = l3 := ⟨_, rfl⟩
          have hl3z : l3.length ≤ 16777316 := by
            rw [← hl3, List.length_append, hdTxt_len]
            have e3 : lenName.size = 14 := rfl
            simp only [szH]
            omega
          rw [hl3] at ho3
          have HL3 : Hid (l3 = l ++ hdTxt (lenName, d)) := hl3.symm
          clear hl3
          have HO3b := hide ho3
          clear ho3 HP b3
          go_wp2_with (at_builtin; refine wp_append_text rfl _ _ rfl w1.heap.size v3 l3 rfl HO3b.out ⟨#[13, 10]⟩ rfl ?c1 ?c2 ?_)
          case c1 => have e2 : (⟨#[13, 10]⟩ : ByteArray).size = 2 := rfl; omega
          case c2 => exact c3.size
          intro v4 w4 ho4 hg4 hb4
          have c4 := c3.trans (HO3b.out.grown c3.size hg4)
          have BX4 := hide (BX1.out.below c4 hlt1)
          obtain ⟨hlt4, x40, x41, x42, x43⟩ := BX4.out
          have HE4 : Hid (l3 ++ (⟨#[13, 10]⟩ : ByteArray).data.toList = frontL r (bodyLine r.b)) := by
            show l3 ++ [13, 10] = frontL r (bodyLine r.b)
            rw [HBL.out, HL3.out, HL2.out]
            simp [frontL, lenLine, hdTxt, lenTag, crlf, HD.out, lenName]
          obtain ⟨L, hL⟩ : ∃ L, l3 ++ (⟨#[13, 10]⟩ : ByteArray).data.toList = L := ⟨_, rfl⟩
          have hLz : L.length ≤ 33554432 := by
            rw [← hL, List.length_append]
            have e : (⟨#[13, 10]⟩ : ByteArray).data.toList.length = 2 := rfl
            omega
          have HLf : Hid (L = frontL r (bodyLine r.b)) := by show L = _; rw [← hL]; exact HE4.out
          rw [hL] at ho4
          have HO4 := hide ho4
          obtain ⟨g4, k4, rfl, _, _, _, _, _⟩ := ho4.byt
          clear hL HE4 ho4 hg4 hb4
          by_cases h400 : L.length ≤ 400
          · have h4' : ¬ ((400 : Int) < L.length) := by omega
            have HE : Hid (putL r = L ++ r.b.data.toList) := by
              show putL r = _
              have := HLf.out
              unfold putL put0
              rw [← this, if_pos ⟨hr, h400⟩]
            go_wp2_with (at_builtin; refine wp_append_text rfl _ _ rfl w1.heap.size _ L rfl HO4.out r.b rfl ?c1 ?c2 ?_)
            case c1 => omega
            case c2 => exact c4.size
            intro v5 w5 ho5 hg5 hb5
            have c5 := c4.trans (HO4.out.grown c4.size hg5)
            have HO5 := hide ho5
            clear ho5 hg5 hb5
            go_wp2
            go_ret
            rw [HE.out]
            exact ⟨⟨_, rfl, HO5.out.base c1.size⟩, c1.trans (c5.mono c1.size)⟩
          · have h4' : (400 : Int) < L.length := by omega
            have HE : Hid (putL r = []) := by
              show putL r = _
              have := HLf.out
              unfold putL put0
              rw [← this, if_neg (fun h => h400 h.2)]
            go_wp2
            go_ret
            rw [HE.out]
            have c5 := c1.trans (c4.mono c1.size)
            exact ⟨⟨_, rfl, (OwnY.none w4).base c5.size⟩, c5.alloc c5.size _⟩
end Go.Proofs.YtklhplhjnpdigabDoor
