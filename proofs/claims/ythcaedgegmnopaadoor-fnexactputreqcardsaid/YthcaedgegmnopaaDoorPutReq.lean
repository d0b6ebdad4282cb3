/-
  What the program's PutReq does.
-/
import Derived.Test.YthcaedgegmnopaaDoorPutAhead
import Derived.Test.YthcaedgegmnopaaDoorNumText
import Derived.Test.YthcaedgegmnopaaDoorHdsOne
namespace Go.Proofs.YthcaedgegmnopaaDoor
open Go.RowKit M
set_option linter.unusedVariables false

set_option maxRecDepth 100000 in
set_option maxHeartbeats 4000000 in
theorem putReq_any (a : Option Addr) (r : Rq) (cap B : Nat) (w : World) (h : Hds w B a r.hs) (hB : B ≤ w.heap.size) (hfit : FitR r) (hl : r.hs.length ≤ 1048576) (hsum : sumH r.hs ≤ 1048576) (h1 : r.m.size ≤ 1048576) (h2 : r.p.size ≤ 1048576) (h4 : r.b.size ≤ 1048576) (hpw : ∀ w', Below w.heap.size w w' → PowTab w') :
    Calls Tryd.prog 19 #[.agg #[.string r.m, .string r.p, .slice a r.hs.length cap, .string r.b]] w fun e w' => (∃ v, e = .returned v ∧ OwnY w' w.heap.size v (putL r)) ∧ Below w.heap.size w w' := by
  have HB0 : Hid (Below w.heap.size w (w.alloc (Obj.cells #[Value.string r.m, Value.string r.p, Value.slice a r.hs.length cap, Value.string r.b] 42))) := (Below.refl _ _).alloc (Nat.le_refl _) _
  have HX0 := hide (BoxR.made w a cap r 42)
  have HH := hide h
  have HF := hide hfit
  have HPw := hide hpw
  clear h hfit hpw
  by_cases hbz : r.b.size = 0
  · have hz : r.b.toList.isEmpty = true := by
      rw [ByteArray.toList_eq]
      have e : r.b.data.toList.length = r.b.size := Array.length_toList
      cases hq : r.b.data.toList with
      | nil => rfl
      | cons _ _ => rw [hq] at e; simp at e; omega
    have HBL : Hid (bodyLine r.b = hdsTxt []) := by show bodyLine r.b = _; unfold bodyLine; rw [if_pos hbz]; rfl
    clear hbz
    cases hr : reqB r
    · have HE : Hid (putL r = []) := by show putL r = []; simp [putL, put0, hr]
      have HP := hide (putAhead_no a r cap B none 0 0 _ (HH.out.below HB0.out hB) (Nat.le_trans hB HB0.out.size) HF.out hr)
      go_enter Tryd.func19, Tryd.ntmps19
      go_wp2_with fail
      refine HP.out.mono ?_
      rintro e w1 ⟨rfl, b1⟩
      have c1 := HB0.out.trans (b1.mono HB0.out.size)
      go_wp2
      go_ret
      rw [HE.out]
      exact ⟨⟨_, rfl, (OwnY.bare w1).base c1.size⟩, c1.alloc c1.size _⟩
    · have HP := hide (putAhead_yes a r cap B none [] 0 _ (HH.out.below HB0.out hB) (Nat.le_trans hB HB0.out.size) (Hds.nil _ _ _) HF.out hl hsum (Nat.zero_le _) (Nat.zero_le _) h1 h2 hr)
      obtain ⟨L, hL⟩ : ∃ L, frontL r (hdsTxt []) = L := ⟨_, rfl⟩
      have HLf : Hid (frontL r (bodyLine r.b) = L) := by show frontL r (bodyLine r.b) = L; rw [HBL.out]; exact hL
      rw [hL] at HP
      clear hL
      go_enter Tryd.func19, Tryd.ntmps19
      go_wp2_with fail
      refine HP.out.mono ?_
      rintro e w1 ⟨⟨v1, rfl, o1, z1⟩, b1⟩
      have c1 := HB0.out.trans (b1.mono HB0.out.size)
      have O1 := hide (o1.base HB0.out.size)
      have BX1 := hide (HX0.out.next b1)
      obtain ⟨xl, x10, x11, x12, x13⟩ := BX1.out
      clear o1 b1 HP
      by_cases h400 : L.length ≤ 400
      · have HE : Hid (putL r = L ++ r.b.data.toList) := by
          show putL r = _
          unfold putL put0
          rw [HLf.out, if_pos ⟨hr, h400⟩]
        rw [decide_eq_true h400]
        go_wp2_with (at_builtin; refine wp_append_text rfl _ _ rfl w.heap.size v1 L rfl O1.out r.b rfl ?c1 ?c2 ?_)
        case c1 => omega
        case c2 => exact c1.size
        intro v5 w5 ho5 hg5 hb5
        have c5 := c1.trans (O1.out.grown c1.size hg5)
        have HO5 := hide ho5
        clear ho5 hg5 hb5
        go_wp2
        go_ret
        rw [HE.out]
        exact ⟨⟨_, rfl, HO5.out⟩, c5⟩
      · have HE : Hid (putL r = []) := by
          show putL r = _
          unfold putL put0
          rw [HLf.out, if_neg (fun h => h400 h.2)]
        rw [decide_eq_false h400]
        go_wp2
        go_ret
        rw [HE.out]
        exact ⟨⟨_, rfl, (OwnY.bare w1).base c1.size⟩, c1.alloc c1.size _⟩
  · have hz : r.b.toList.isEmpty = false := by
      rw [ByteArray.toList_eq]
      have e : r.b.data.toList.length = r.b.size := Array.length_toList
      cases hq : r.b.data.toList with
      | nil => rw [hq] at e; simp at e; omega
      | cons _ _ => rfl
    have HN : Hid (∀ W, Below w.heap.size w W → Calls Tryd.prog 28 #[.int .i64 (r.b.size : Int)] W fun e w' => e = .returned (.string ⟨(Lib.decDigits r.b.size).toArray⟩) ∧ Below W.heap.size W w') := fun W hW => by
      have h := numText_any (r.b.size : Int) W (by omega) (HPw.out W hW)
      rwa [Int.toNat_natCast] at h
    have hd20 := dec_len r.b.size h4
    obtain ⟨d, hd⟩ : ∃ d, (⟨(Lib.decDigits r.b.size).toArray⟩ : ByteArray) = d := ⟨_, rfl⟩
    have hdz : d.size ≤ 20 := by rw [← hd]; exact hd20
    have HD : d.data.toList = Lib.decDigits r.b.size := by rw [← hd]
    have HBL : Hid (bodyLine r.b = hdsTxt [(lenName, d)]) := by
      show bodyLine r.b = _
      unfold bodyLine
      rw [if_neg hbz]
      simp [hdsTxt, lenLine, hdTxt, lenTag, crlf, HD, lenName]
    rw [hd] at HN
    clear hbz hd hd20 HD
    obtain ⟨L, hL⟩ : ∃ L, frontL r (hdsTxt [(lenName, d)]) = L := ⟨_, rfl⟩
    have HLf : Hid (frontL r (bodyLine r.b) = L) := by show frontL r (bodyLine r.b) = L; rw [HBL.out]; exact hL
    have hs2 : sumH [(lenName, d)] ≤ 1048576 := by
      have e3 : lenName.size = 14 := rfl
      simp only [sumH, szH, List.map_cons, List.map_nil, List.sum_cons, List.sum_nil]
      omega
    go_enter Tryd.func19, Tryd.ntmps19
    go_wp2_with fail
    refine (HN.out _ HB0.out).mono ?_
    rintro e w2 ⟨rfl, b2⟩
    have c2 := HB0.out.trans (b2.mono HB0.out.size)
    have c3 := c2.alloc c2.size (Obj.cells #[Value.string lenName, Value.string d] 55)
    have BX3 := hide ((HX0.out.next b2).alloc (Obj.cells #[Value.string lenName, Value.string d] 55))
    have H3 := hide (HH.out.below c3 hB)
    have hH2 := hide ((Hds.one w2 lenName d 55).mono (show w2.heap.size + 1 ≤ (w2.alloc (Obj.cells #[Value.string lenName, Value.string d] 55)).heap.size by simp))
    have C3 := hide c3
    have K3 := BX3.out
    obtain ⟨xl3, x30, x31, x32, x33⟩ := K3
    simp only [lenName] at x30 x31 x32 x33
    clear HN b2 c3 c2
    cases hr : reqB r
    · have HE : Hid (putL r = []) := by show putL r = []; simp [putL, put0, hr]
      have HP := hide (putAhead_no a r cap B (some ⟨w2.heap.size, 0, none⟩) 1 1 _ H3.out (Nat.le_trans hB C3.out.size) HF.out hr)
      go_wp2_with fail
      refine HP.out.mono ?_
      rintro e w1 ⟨rfl, b1⟩
      have c1 := C3.out.trans (b1.mono C3.out.size)
      go_wp2
      go_ret
      rw [HE.out]
      exact ⟨⟨_, rfl, (OwnY.bare w1).base c1.size⟩, c1.alloc c1.size _⟩
    · have HP := hide (putAhead_yes a r cap B (some ⟨w2.heap.size, 0, none⟩) [(lenName, d)] 1 _ H3.out (Nat.le_trans hB C3.out.size) hH2.out HF.out hl hsum (by simp) hs2 h1 h2 hr)
      rw [hL] at HP
      clear hL
      go_wp2_with fail
      refine HP.out.mono ?_
      rintro e w1 ⟨⟨v1, rfl, o1, z1⟩, b1⟩
      have c1 := C3.out.trans (b1.mono C3.out.size)
      have O1 := hide (o1.base C3.out.size)
      have BX1 := hide (BX3.out.next b1)
      obtain ⟨xl, x10, x11, x12, x13⟩ := BX1.out
      clear o1 b1 HP x30 x31 x32 x33
      by_cases h400 : L.length ≤ 400
      · have HE : Hid (putL r = L ++ r.b.data.toList) := by
          show putL r = _
          unfold putL put0
          rw [HLf.out, if_pos ⟨hr, h400⟩]
        rw [decide_eq_true h400]
        go_wp2_with (at_builtin; refine wp_append_text rfl _ _ rfl w.heap.size v1 L rfl O1.out r.b rfl ?c1 ?c2 ?_)
        case c1 => omega
        case c2 => exact c1.size
        intro v5 w5 ho5 hg5 hb5
        have c5 := c1.trans (O1.out.grown c1.size hg5)
        have HO5 := hide ho5
        clear ho5 hg5 hb5
        go_wp2
        go_ret
        rw [HE.out]
        exact ⟨⟨_, rfl, HO5.out⟩, c5⟩
      · have HE : Hid (putL r = []) := by
          show putL r = _
          unfold putL put0
          rw [HLf.out, if_neg (fun h => h400 h.2)]
        rw [decide_eq_false h400]
        go_wp2
        go_ret
        rw [HE.out]
        exact ⟨⟨_, rfl, (OwnY.bare w1).base c1.size⟩, c1.alloc c1.size _⟩
end Go.Proofs.YthcaedgegmnopaaDoor
