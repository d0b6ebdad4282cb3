/-
  A list of one head, and of none.
  What the program's PutReq does.
  What the specification's looks at heads do.
  What the specification's ReqOk does.
  What the specification's l3Put does.
  What the specification's NumText does.
  What the specification's PutReq does.
  Slices of numbers: what they hold, and that it stays.
  Plain facts on texts that are cut in two: no program in sight.
-/
import Derived.Test.YtanebchmeaomgaaGreatDoorSameReqI
import Derived.Test.YtanebchmeaomgaaGreatDoorNumText
import Derived.Test.YtanebchmeaomgaaGreatDoorSpecReq
import Derived.Test.YtanebchmeaomgaaGreatDoorOwnBytes
import Derived.Test.YtanebchmeaomgaaGreatDoorMathResp
import Derived.Test.YtanebchmeaomgaaGreatDoorMathGet
import Derived.Test.YtanebchmeaomgaaGreatDoorRows
import Derived.WalkKit
import Derived.Deep.OwnRows
import Derived.Test.YtanebchmeaomgaaGreatDoorMathPutC
namespace Go.Proofs.YtanebchmeaomgaaGreatDoor
open Go.RowKit M
set_option linter.unusedVariables false

theorem Hds.one (w : World) (x y : ByteArray) (T : TypeId) : Hds (w.alloc (Obj.cells #[Value.string x, Value.string y] T)) (w.heap.size + 1) (some ⟨w.heap.size, 0, none⟩) [(x, y)] := fun _ =>
  ⟨w.heap.size, 0, rfl, Nat.lt_succ_self _, fun j hj => by
    have hj0 : j = 0 := by simp at hj; exact hj
    subst hj0
    exact ⟨(BoxH.made w x y T).2.1, (BoxH.made w x y T).2.2⟩⟩
theorem Hds.nil (w : World) (B : Nat) (a : Option Addr) : Hds w B a [] := fun h => absurd h (Nat.lt_irrefl _)
end Go.Proofs.YtanebchmeaomgaaGreatDoor
namespace Go.Proofs.YtanebchmeaomgaaGreatDoor
open Go.RowKit M
set_option linter.unusedVariables false

set_option maxRecDepth 100000 in
set_option maxHeartbeats 4000000 in
theorem putReq_any (a : Option Addr) (r : Rq) (cap B : Nat) (w : World) (h : Hds w B a r.hs) (hB : B ≤ w.heap.size) (hfit : FitR r) (hl : r.hs.length ≤ 1048576) (hsum : sumH r.hs ≤ 1048576) (h1 : r.m.size ≤ 1048576) (h2 : r.p.size ≤ 1048576) (h4 : r.b.size ≤ 1048576) (hpw : ∀ w', Below w.heap.size w w' → PowTab w') :
    Calls Tryz.prog 18 #[.agg #[.string r.m, .string r.p, .slice a r.hs.length cap, .string r.b]] w fun e w' => (∃ v, e = .returned v ∧ OwnY w' w.heap.size v (putL r)) ∧ Below w.heap.size w w' := by
  have HB0 : Hid (Below w.heap.size w (w.alloc (Obj.cells #[Value.string r.m, Value.string r.p, Value.slice a r.hs.length cap, Value.string r.b] 39))) := (Below.refl _ _).alloc (Nat.le_refl _) _
  have HX0 := hide (BoxR.made w a cap r 39)
  have HH := hide h
  have HF := hide hfit
  have HPw := hide hpw
  clear h hfit hpw
  by_cases hbz : r.b.size = 0
  · have hz : r.b.toList.isEmpty = true := by
      rw [ByteArray.toList_eq]
      have e : r.b.data.toList.length = r.b.size := Array.length_toList
      cases hq : r.b.data.toList with
      | nil => rfl
      | cons _ _ => rw [hq] at e; simp at e; omega
    have HBL : Hid (bodyLine r.b = hdsTxt []) := by show bodyLine r.b = _; unfold bodyLine; rw [if_pos hbz]; rfl
    clear hbz
    cases hr : reqB r
    · have HE : Hid (putL r = []) := by show putL r = []; simp [putL, put0, hr]
      have HP := hide (putAhead_no a r cap B none 0 0 _ (HH.out.below HB0.out hB) (Nat.le_trans hB HB0.out.size) HF.out hr)
      go_enter Tryz.func18, Tryz.ntmps18
      go_wp2_with fail
      refine HP.out.mono ?_
      rintro e w1 ⟨rfl, b1⟩
      have c1 := HB0.out.trans (b1.mono HB0.out.size)
      go_wp2
      go_ret
      rw [HE.out]
      exact ⟨⟨_, rfl, (OwnY.bare w1).base c1.size⟩, c1.alloc c1.size _⟩
    · have HP := hide (putAhead_yes a r cap B none [] 0 _ (HH.out.below HB0.out hB) (Nat.le_trans hB HB0.out.size) (Hds.nil _ _ _) HF.out hl hsum (Nat.zero_le _) (Nat.zero_le _) h1 h2 hr)
      obtain ⟨L, hL⟩ : ∃ L, frontL r (hdsTxt []) = L := ⟨_, rfl⟩
      have HLf : Hid (frontL r (bodyLine r.b) = L) := by show frontL r (bodyLine r.b) = L; rw [HBL.out]; exact hL
      rw [hL] at HP
      clear hL
      go_enter Tryz.func18, Tryz.ntmps18
      go_wp2_with fail
      refine HP.out.mono ?_
      rintro e w1 ⟨⟨v1, rfl, o1, z1⟩, b1⟩
      have c1 := HB0.out.trans (b1.mono HB0.out.size)
      have O1 := hide (o1.base HB0.out.size)
      have BX1 := hide (HX0.out.next b1)
      obtain ⟨xl, x10, x11, x12, x13⟩ := BX1.out
      clear o1 b1 HP
      by_cases h400 : L.length ≤ 400
      · have HE : Hid (putL r = L ++ r.b.data.toList) := by
          show putL r = _
          unfold putL put0
          rw [HLf.out, if_pos ⟨hr, h400⟩]
        rw [decide_eq_true h400]
        go_wp2_with (at_builtin; refine wp_append_text rfl _ _ rfl w.heap.size v1 L rfl O1.out r.b rfl ?c1 ?c2 ?_)
        case c1 => omega
        case c2 => exact c1.size
        intro v5 w5 ho5 hg5 hb5
        have c5 := c1.trans (O1.out.grown c1.size hg5)
        have HO5 := hide ho5
        clear ho5 hg5 hb5
        go_wp2
        go_ret
        rw [HE.out]
        exact ⟨⟨_, rfl, HO5.out⟩, c5⟩
      · have HE : Hid (putL r = []) := by
          show putL r = _
          unfold putL put0
          rw [HLf.out, if_neg (fun h => h400 h.2)]
        rw [decide_eq_false h400]
        go_wp2
        go_ret
        rw [HE.out]
        exact ⟨⟨_, rfl, (OwnY.bare w1).base c1.size⟩, c1.alloc c1.size _⟩
  · have hz : r.b.toList.isEmpty = false := by
      rw [ByteArray.toList_eq]
      have e : r.b.data.toList.length = r.b.size := Array.length_toList
      cases hq : r.b.data.toList with
      | nil => rw [hq] at e; simp at e; omega
      | cons _ _ => rfl
    have HN : Hid (∀ W, Below w.heap.size w W → Calls Tryz.prog 53 #[.int .i64 (r.b.size : Int)] W fun e w' => e = .returned (.string ⟨(Lib.decDigits r.b.size).toArray⟩) ∧ Below W.heap.size W w') := fun W hW => by
      have h := numText_any (r.b.size : Int) W (by omega) (HPw.out W hW)
      rwa [Int.toNat_natCast] at h
    have hd20 := dec_len r.b.size h4
    obtain ⟨d, hd⟩ : ∃ d, (⟨(Lib.decDigits r.b.size).toArray⟩ : ByteArray) = d := ⟨_, rfl⟩
    have hdz : d.size ≤ 20 := by rw [← hd]; exact hd20
    have HD : d.data.toList = Lib.decDigits r.b.size := by rw [← hd]
    have HBL : Hid (bodyLine r.b = hdsTxt [(lenName, d)]) := by
      show bodyLine r.b = _
      unfold bodyLine
      rw [if_neg hbz]
      simp [hdsTxt, lenLine, hdTxt, lenTag, crlf, HD, lenName]
    rw [hd] at HN
    clear hbz hd hd20 HD
    obtain ⟨L, hL⟩ : ∃ L, frontL r (hdsTxt [(lenName, d)]) = L := ⟨_, rfl⟩
    have HLf : Hid (frontL r (bodyLine r.b) = L) := by show frontL r (bodyLine r.b) = L; rw [HBL.out]; exact hL
    have hs2 : sumH [(lenName, d)] ≤ 1048576 := by
      have e3 : lenName.size = 14 := rfl
      simp only [sumH, szH, List.map_cons, List.map_nil, List.sum_cons, List.sum_nil]
      omega
    go_enter Tryz.func18, Tryz.ntmps18
    go_wp2_with fail
    refine (HN.out _ HB0.out).mono ?_
    rintro e w2 ⟨rfl, b2⟩
    have c2 := HB0.out.trans (b2.mono HB0.out.size)
    have c3 := c2.alloc c2.size (Obj.cells #[Value.string lenName, Value.string d] 82)
    have BX3 := hide ((HX0.out.next b2).alloc (Obj.cells #[Value.string lenName, Value.string d] 82))
    have H3 := hide (HH.out.below c3 hB)
    have hH2 := hide ((Hds.one w2 lenName d 82).mono (show w2.heap.size + 1 ≤ (w2.alloc (Obj.cells #[Value.string lenName, Value.string d] 82)).heap.size by simp))
    have C3 := hide c3
    have K3 := BX3.out
    obtain ⟨xl3, x30, x31, x32, x33⟩ := K3
    simp only [lenName] at x30 x31 x32 x33
    clear HN b2 c3 c2
    cases hr : reqB r
    · have HE : Hid (putL r = []) := by show putL r = []; simp [putL, put0, hr]
      have HP := hide (putAhead_no a r cap B (some ⟨w2.heap.size, 0, none⟩) 1 1 _ H3.out (Nat.le_trans hB C3.out.size) HF.out hr)
      go_wp2_with fail
      refine HP.out.mono ?_
      rintro e w1 ⟨rfl, b1⟩
      have c1 := C3.out.trans (b1.mono C3.out.size)
      go_wp2
      go_ret
      rw [HE.out]
      exact ⟨⟨_, rfl, (OwnY.bare w1).base c1.size⟩, c1.alloc c1.size _⟩
    · have HP := hide (putAhead_yes a r cap B (some ⟨w2.heap.size, 0, none⟩) [(lenName, d)] 1 _ H3.out (Nat.le_trans hB C3.out.size) hH2.out HF.out hl hsum (by simp) hs2 h1 h2 hr)
      rw [hL] at HP
      clear hL
      go_wp2_with fail
      refine HP.out.mono ?_
      rintro e w1 ⟨⟨v1, rfl, o1, z1⟩, b1⟩
      have c1 := C3.out.trans (b1.mono C3.out.size)
      have O1 := hide (o1.base C3.out.size)
      have BX1 := hide (BX3.out.next b1)
      obtain ⟨xl, x10, x11, x12, x13⟩ := BX1.out
      clear o1 b1 HP x30 x31 x32 x33
      by_cases h400 : L.length ≤ 400
      · have HE : Hid (putL r = L ++ r.b.data.toList) := by
          show putL r = _
          unfold putL put0
          rw [HLf.out, if_pos ⟨hr, h400⟩]
        rw [decide_eq_true h400]
        go_wp2_with (at_builtin; refine wp_append_text rfl _ _ rfl w.heap.size v1 L rfl O1.out r.b rfl ?c1 ?c2 ?_)
        case c1 => omega
        case c2 => exact c1.size
        intro v5 w5 ho5 hg5 hb5
        have c5 := c1.trans (O1.out.grown c1.size hg5)
        have HO5 := hide ho5
        clear ho5 hg5 hb5
        go_wp2
        go_ret
        rw [HE.out]
        exact ⟨⟨_, rfl, HO5.out⟩, c5⟩
      · have HE : Hid (putL r = []) := by
          show putL r = _
          unfold putL put0
          rw [HLf.out, if_neg (fun h => h400 h.2)]
        rw [decide_eq_false h400]
        go_wp2
        go_ret
        rw [HE.out]
        exact ⟨⟨_, rfl, (OwnY.bare w1).base c1.size⟩, c1.alloc c1.size _⟩
end Go.Proofs.YtanebchmeaomgaaGreatDoor
namespace Go.Proofs.YtanebchmeaomgaaGreatDoor
open Go.RowKit M
set_option linter.unusedVariables false

set_option maxHeartbeats 1000000 in
theorem l3Heads_any (a : Option Addr) (hs : List Hd) (cap B : Nat) (w : World) (h : Hds w B a hs) (hsh : ShortH hs) (hl : hs.length ≤ maxLen) :
    Calls Tryz.prog 137 #[.slice a hs.length cap] w fun e w' => e = .returned (.bool (hdsB hs)) ∧ w' = w := by
  unfold maxLen at hl
  go_enter Tryz.func137, Tryz.ntmps137
  go_wp2
  go_loop [3] (fun i => ∃ k : Nat, k ≤ hs.length ∧ i = .int .i64 k ∧ (hs.take k).all hdFree = true) (fun i => hs.length - (intOf i).toNat)
  case atStart => exact ⟨0, Nat.zero_le _, rfl, rfl⟩
  case round =>
    obtain ⟨k, hk, rfl, hn⟩ := hrel
    have HN : Hid ((hs.take k).all hdFree = true) := hn; clear hn
    by_cases hlt : k < hs.length
    · obtain ⟨b, o, rfl, hb, hc⟩ := h (by omega)
      have hcx := (hc k hlt).1
      have hcy := (hc k hlt).2
      have hsz := hsh.at k hlt
      clear hc
      cases h1 : smB hs[k].1.data.toList
      · have HE : Hid (hdsB hs = false) := hdsB_not hs k hlt (by simp [hdFree, hdB, h1])
        go_wp2_with (go_at_call 113; refine (specSmallName_any _ _ hsz.1).mono ?_; rintro e w1 ⟨rfl, hw⟩; obtain rfl := hw.symm; rw [h1])
        go_ret
        exact ⟨ret_bool HE.out.symm, rfl⟩
      · cases h2 : valB hs[k].2
        · have HE : Hid (hdsB hs = false) := hdsB_not hs k hlt (by simp [hdFree, hdB, h2])
          go_wp2_with (first | (go_at_call 113; refine (specSmallName_any _ _ hsz.1).mono ?_; rintro e w1 ⟨rfl, hw⟩; obtain rfl := hw.symm; rw [h1]) | (go_at_call 163; refine (l3Val_any _ _ hsz.2).mono ?_; rintro e w1 ⟨rfl, hw⟩; obtain rfl := hw.symm; rw [h2]))
          go_ret
          exact ⟨ret_bool HE.out.symm, rfl⟩
        · have e3 := lenEq hs[k].1
          have e4 := codEq hs[k].1
          by_cases h3 : hs[k].1 = lenName
          · have HE : Hid (hdsB hs = false) := hdsB_not hs k hlt (by simp [hdFree, h3])
            rw [decide_eq_true h3] at e3
            clear h3 e4
            go_wp2_with (first | (go_at_call 113; refine (specSmallName_any _ _ hsz.1).mono ?_; rintro e w1 ⟨rfl, hw⟩; obtain rfl := hw.symm; rw [h1]) | (go_at_call 163; refine (l3Val_any _ _ hsz.2).mono ?_; rintro e w1 ⟨rfl, hw⟩; obtain rfl := hw.symm; rw [h2]))
            go_ret
            exact ⟨ret_bool HE.out.symm, rfl⟩
          · rw [decide_eq_false h3] at e3
            by_cases h4 : hs[k].1 = codName
            · have HE : Hid (hdsB hs = false) := hdsB_not hs k hlt (by simp [hdFree, h4])
              rw [decide_eq_true h4] at e4
              clear h3 h4
              go_wp2_with (first | (go_at_call 113; refine (specSmallName_any _ _ hsz.1).mono ?_; rintro e w1 ⟨rfl, hw⟩; obtain rfl := hw.symm; rw [h1]) | (go_at_call 163; refine (l3Val_any _ _ hsz.2).mono ?_; rintro e w1 ⟨rfl, hw⟩; obtain rfl := hw.symm; rw [h2]))
              go_ret
              exact ⟨ret_bool HE.out.symm, rfl⟩
            · have HE : Hid ((hs.take (k + 1)).all hdFree = true) := hdsB_snoc hs k hlt HN.out (by simp [hdFree, hdB, h1, h2, h3, h4])
              rw [decide_eq_false h4] at e4
              clear h3 h4
              go_wp2_with (first | (go_at_call 113; refine (specSmallName_any _ _ hsz.1).mono ?_; rintro e w1 ⟨rfl, hw⟩; obtain rfl := hw.symm; rw [h1]) | (go_at_call 163; refine (l3Val_any _ _ hsz.2).mono ?_; rintro e w1 ⟨rfl, hw⟩; obtain rfl := hw.symm; rw [h2]))
              go_round
              case rel => exact ⟨k + 1, by omega, by go_num, HE.out⟩
              case measure => simp [intOf]; omega
    · have HE : Hid (hdsB hs = decide ((hs.length : Int) ≤ 8)) := by
        show hdsB hs = _
        rw [hdsB_all hs k hlt HN.out]
        by_cases e : hs.length ≤ 8
        · have e2 : (hs.length : Int) ≤ 8 := by omega
          simp [e, e2]
        · have e2 : ¬ (hs.length : Int) ≤ 8 := by omega
          simp [e, e2]
      go_wp2
      go_ret
      exact ⟨ret_bool HE.out.symm, rfl⟩
end Go.Proofs.YtanebchmeaomgaaGreatDoor
namespace Go.Proofs.YtanebchmeaomgaaGreatDoor
open Go.RowKit M
set_option linter.unusedVariables false

set_option maxHeartbeats 1000000 in
theorem specReqOk_any (a : Option Addr) (r : Rq) (cap B : Nat) (w : World) (h : Hds w B a r.hs) (hB : B ≤ w.heap.size) (hsh : ShortR r) :
    Calls Tryz.prog 91 #[.agg #[.string r.m, .string r.p, .slice a r.hs.length cap, .string r.b]] w fun e w' => e = .returned (.bool (reqB r)) ∧ Below w.heap.size w w' := by
  obtain ⟨q1, q2, q3, q4, q5⟩ := hsh
  have HM : Hid (methB r.m = false → reqB r = false) := reqB_m
  have HP : Hid (targB r.p = false → reqB r = false) := reqB_p
  have HH : Hid (hdsB r.hs = false → reqB r = false) := reqB_h
  have HA : Hid (methB r.m = true → targB r.p = true → hdsB r.hs = true → reqB r = decide ((r.b.size : Int) ≤ 200)) := reqB_b
  obtain ⟨z, hz⟩ : ∃ z, reqB r = z := ⟨_, rfl⟩
  rw [hz] at HM HP HH HA ⊢
  clear hz
  obtain ⟨rm, rp, hs, rb⟩ := r
  simp only at *
  have q3' := q3
  unfold maxLen at q3'
  have hb0 : Below w.heap.size w (w.alloc (Obj.cells #[Value.string rm, Value.string rp, Value.slice a hs.length cap, Value.string rb] 39)) := (Below.refl _ _).alloc (Nat.le_refl _) _
  have HD := hide (h.below hb0 hB)
  clear h
  cases h1 : methB rm
  · have hz := HM.out h1
    subst hz
    go_enter Tryz.func91, Tryz.ntmps91
    go_wp2_with (go_at_call 135; refine (l3Method_any rm _ q1).mono ?_; rintro e w1 ⟨rfl, hw⟩; obtain rfl := hw.symm; rw [h1])
    go_ret
    exact ⟨rfl, hb0⟩
  · cases h2 : targB rp
    · have hz := HP.out h2
      subst hz
      go_enter Tryz.func91, Tryz.ntmps91
      go_wp2_with (first | (go_at_call 135; refine (l3Method_any rm _ q1).mono ?_; rintro e w1 ⟨rfl, hw⟩; obtain rfl := hw.symm; rw [h1]) | (go_at_call 136; refine (l3Target_any rp _ q2).mono ?_; rintro e w1 ⟨rfl, hw⟩; obtain rfl := hw.symm; rw [h2]))
      go_ret
      exact ⟨rfl, hb0⟩
    · cases h3 : hdsB hs
      · have hz := HH.out h3
        subst hz
        go_enter Tryz.func91, Tryz.ntmps91
        go_wp2_with (first | (go_at_call 135; refine (l3Method_any rm _ q1).mono ?_; rintro e w1 ⟨rfl, hw⟩; obtain rfl := hw.symm; rw [h1]) | (go_at_call 136; refine (l3Target_any rp _ q2).mono ?_; rintro e w1 ⟨rfl, hw⟩; obtain rfl := hw.symm; rw [h2]) | (go_at_call 137; refine (l3Heads_any a hs cap B _ HD.out q5 q4).mono ?_; rintro e w1 ⟨rfl, hw⟩; obtain rfl := hw.symm; rw [h3]))
        go_ret
        exact ⟨rfl, hb0⟩
      · have hz := HA.out h1 h2 h3
        subst hz
        go_enter Tryz.func91, Tryz.ntmps91
        go_wp2_with (first | (go_at_call 135; refine (l3Method_any rm _ q1).mono ?_; rintro e w1 ⟨rfl, hw⟩; obtain rfl := hw.symm; rw [h1]) | (go_at_call 136; refine (l3Target_any rp _ q2).mono ?_; rintro e w1 ⟨rfl, hw⟩; obtain rfl := hw.symm; rw [h2]) | (go_at_call 137; refine (l3Heads_any a hs cap B _ HD.out q5 q4).mono ?_; rintro e w1 ⟨rfl, hw⟩; obtain rfl := hw.symm; rw [h3]))
        go_ret
        exact ⟨rfl, hb0⟩
end Go.Proofs.YtanebchmeaomgaaGreatDoor
namespace Go.Proofs.YtanebchmeaomgaaGreatDoor
open Go.RowKit M
set_option linter.unusedVariables false

set_option maxRecDepth 100000 in
set_option maxHeartbeats 2000000 in
theorem l3PutO_any (a : Option Addr) (r : Rq) (cap B : Nat) (line body : ByteArray) (w : World) (h : Hds w B a r.hs) (hB : B ≤ w.heap.size) (hsh : ShortR r) (hl : r.hs.length ≤ 1048576) (hsum : sumH r.hs ≤ 1048576) (h1 : r.m.size ≤ 1048576) (h2 : r.p.size ≤ 1048576) (h3 : line.size ≤ 1048576) (h4 : body.size ≤ 33554432) :
    Calls Tryz.prog 56 #[.agg #[.string r.m, .string r.p, .slice a r.hs.length cap, .string r.b], .string line, .string body] w fun e w' => (∃ (g c : Nat), e = .returned (.slice (some ⟨g, 0, none⟩) (put0 r line.data.toList body.data.toList).length c) ∧ OwnY w' w.heap.size (.slice (some ⟨g, 0, none⟩) (put0 r line.data.toList body.data.toList).length c) (put0 r line.data.toList body.data.toList)) ∧ Below w.heap.size w w' := by
  have HB0 : Hid (Below w.heap.size w (w.alloc (Obj.cells #[Value.string r.m, Value.string r.p, Value.slice a r.hs.length cap, Value.string r.b] 39))) := (Below.refl _ _).alloc (Nat.le_refl _) _
  have HX0 := hide (BoxR.made w a cap r 39)
  have HH := hide h
  clear h
  go_enter Tryz.func56, Tryz.ntmps56
  obtain ⟨_, x0, x1, x2, x3⟩ := HX0.out
  obtain ⟨t, ht⟩ : ∃ t, bytesOf (hdsTxt r.hs) = t := ⟨_, rfl⟩
  have htz : t.size ≤ 8388608 := by rw [← ht, bytesOf_size, hdsTxt_len]; omega
  have hT : ∀ W, (∃ n, W = (w.alloc (Obj.cells #[Value.string r.m, Value.string r.p, Value.slice a r.hs.length cap, Value.string r.b] 39)).drewN n) → Calls Tryz.prog 90 #[.slice a r.hs.length cap] W fun e w' => e = .returned (.string t) ∧ ∃ n, w' = W.drewN n := by
    rintro W ⟨n, rfl⟩
    rw [← ht]
    exact l3HeadsText_any a r.hs cap B _ (HH.out.below (below_drewN HB0.out n) hB) hl hsum
  have HT := hide ht
  clear ht
  have hq1 : ¬ (9223372036854775807 < r.m.size + 1) := by omega
  have hq2 : ¬ (9223372036854775807 < r.m.size + 1 + r.p.size) := by omega
  have hq3 : ¬ (9223372036854775807 < r.m.size + 1 + r.p.size + 9) := by omega
  have hq4 : ¬ (9223372036854775807 < r.m.size + 1 + r.p.size + 9 + 2) := by omega
  have hq5 : ¬ (9223372036854775807 < r.m.size + 1 + r.p.size + 9 + 2 + t.size) := by omega
  have hq6 : ¬ (9223372036854775807 < r.m.size + 1 + r.p.size + 9 + 2 + t.size + line.size) := by omega
  have hq7 : ¬ (9223372036854775807 < r.m.size + 1 + r.p.size + 9 + 2 + t.size + line.size + 2) := by omega
  go_wp2
  go_quiet ((go_at_call 90; exact Calls.quiet_of (hT _ ⟨_, rfl⟩)))
  obtain ⟨sx, hsx⟩ : ∃ sx, r.m ++ (⟨#[32]⟩ : ByteArray) ++ r.p ++ ⟨#[32, 72, 84, 84, 80, 47, 49, 46, 49]⟩ ++ ⟨#[13, 10]⟩ ++ t ++ line ++ ⟨#[13, 10]⟩ = sx := ⟨_, rfl⟩
  have hsz : sx.size ≤ 16777216 := by
    rw [← hsx]
    simp only [ByteArray.size_append]
    have e1 : (⟨#[32]⟩ : ByteArray).size = 1 := rfl
    have e2 : (⟨#[32, 72, 84, 84, 80, 47, 49, 46, 49]⟩ : ByteArray).size = 9 := rfl
    have e3 : (⟨#[13, 10]⟩ : ByteArray).size = 2 := rfl
    omega
  have HSX : Hid (sx.data.toList = frontL r line.data.toList) := by
    show sx.data.toList = frontL r line.data.toList
    rw [← hsx, ← HT.out]
    simp [frontL, topTxt, proto, crlf, bytesOf]
  go_wp2_with fail
  simp only [hsx]
  have HB1 : Hid (Below w.heap.size w ((w.alloc (Obj.cells #[Value.string r.m, Value.string r.p, Value.slice a r.hs.length cap, Value.string r.b] 39)).drewN nq)) := below_drewN HB0.out nq
  refine (specReqOk_any a r cap B _ (HH.out.below HB1.out hB) (Nat.le_trans hB HB1.out.size) hsh).mono ?_
  rintro e w3 ⟨rfl, b3⟩
  have c3 := HB1.out.trans (b3.mono HB1.out.size)
  clear hsx hq1 hq2 hq3 hq4 hq5 hq6 hq7 x0 x1 x2 x3 hT
  cases hr : reqB r
  · have HE : Hid (put0 r line.data.toList body.data.toList = []) := by show put0 _ _ _ = []; simp [put0, hr]
    go_wp2
    go_ret
    rw [HE.out]
    exact ⟨⟨_, _, rfl, (OwnY.bare w3).base c3.size⟩, c3.alloc c3.size _⟩
  · have hlen : sx.data.toList.length = sx.size := Array.length_toList
    by_cases h400 : sx.size ≤ 400
    · have HE : Hid (put0 r line.data.toList body.data.toList = (sx ++ body).data.toList) := by
        show put0 _ _ _ = _
        rw [HSX.out] at hlen
        unfold put0
        rw [if_pos ⟨hr, by omega⟩, ← HSX.out]
        simp
      have h4' : ¬ ((400 : Int) < sx.size) := by omega
      have hcv := Lib.run_convert_string_bytes (P := Tryz.prog) w3 9 22 5 (sx ++ body) Tryz.underlying9 Tryz.underlying22 Tryz.underlying5
      have hab : (sx ++ body).size ≤ 67108864 := by rw [ByteArray.size_append]; omega
      clear hlen
      go_wp2
      go_ret
      have hN : (put0 r line.data.toList body.data.toList).length = sx.size + body.size := by
        rw [HE.out, ← ByteArray.size_append]; exact Array.length_toList
      refine ⟨⟨w3.heap.size, grownCap w3 (sx.size + body.size) 0 5, by rw [hN]; rfl, ?_⟩, c3.trans ((below_bytesP w3 (sx ++ body)).mono c3.size)⟩
      have hO := (OwnY.made w3 (sx ++ body) (by omega)).base c3.size
      rw [ByteArray.size_append] at hO
      rw [hN, HE.out]
      exact hO
    · have HE : Hid (put0 r line.data.toList body.data.toList = []) := by
        show put0 _ _ _ = []
        rw [HSX.out] at hlen
        unfold put0
        rw [if_neg (fun h => by omega)]
      have h4' : (400 : Int) < sx.size := by omega
      go_wp2
      go_ret
      rw [HE.out]
      exact ⟨⟨_, _, rfl, (OwnY.bare w3).base c3.size⟩, c3.alloc c3.size _⟩
theorem l3Put_any (a : Option Addr) (r : Rq) (cap B : Nat) (line body : ByteArray) (w : World) (h : Hds w B a r.hs) (hB : B ≤ w.heap.size) (hsh : ShortR r) (hl : r.hs.length ≤ 1048576) (hsum : sumH r.hs ≤ 1048576) (h1 : r.m.size ≤ 1048576) (h2 : r.p.size ≤ 1048576) (h3 : line.size ≤ 1048576) (h4 : body.size ≤ 33554432) :
    Calls Tryz.prog 56 #[.agg #[.string r.m, .string r.p, .slice a r.hs.length cap, .string r.b], .string line, .string body] w fun e w' => (∃ (g c : Nat), e = .returned (.slice (some ⟨g, 0, none⟩) (put0 r line.data.toList body.data.toList).length c) ∧ Byt w' w'.heap.size (some ⟨g, 0, none⟩) (put0 r line.data.toList body.data.toList)) ∧ Below w.heap.size w w' := by
  refine (l3PutO_any a r cap B line body w h hB hsh hl hsum h1 h2 h3 h4).mono ?_
  rintro e w1 ⟨⟨g, c, rfl, ho⟩, hb⟩
  obtain ⟨g', c', e', _, _, _, _, hy⟩ := ho.byt
  cases e'
  exact ⟨⟨g, c, rfl, hy⟩, hb⟩
end Go.Proofs.YtanebchmeaomgaaGreatDoor
namespace Go.Proofs.YtanebchmeaomgaaGreatDoor
open Go.RowKit M

/-- string([]byte of one byte). -/
theorem conv_one (W : World) (x : Int) : (convert 22 9 (.slice (some ⟨W.heap.size, 0, none⟩) 1 1)).run Tryz.prog (W.alloc (.cells #[.int .u8 x] 5)) = .ok (.string ⟨#[UInt8.ofNat x.toNat]⟩) (W.alloc (.cells #[.int .u8 x] 5)) := by
  have h := run_convert_bytes_arg (P := Tryz.prog) (W.alloc (.cells #[.int .u8 x] 5)) 22 5 Tryz.underlying22 Tryz.underlying5 W.heap.size 0 1 1 [x] rfl (by
    intro i hi
    obtain rfl : i = 0 := by omega
    simp) 9 Tryz.underlying9
  exact h

theorem cat_one (c : UInt8) (t : List UInt8) : (⟨#[c]⟩ : ByteArray) ++ ⟨t.toArray⟩ = ⟨(c :: t).toArray⟩ := by
  apply ByteArray.ext
  simp

theorem low_form (m : Nat) : UInt8.ofNat (48 + m % 10) = decLow m := rfl
theorem low_form' (m : Nat) : 48 + UInt8.ofNat (m % 10) = decLow m := by
  unfold decLow
  rw [UInt8.ofNat_add]; rfl

set_option maxHeartbeats 1000000 in
theorem specNumText_pos (N : Nat) (w : World) (hN : N ≤ 9223372036854775807) :
    Calls Tryz.prog 57 #[.int .i64 N] w fun e w' => e = .returned (.string ⟨(Lib.decDigits N).toArray⟩) ∧ Below w.heap.size w w' := by
  have hcv := conv_one
  go_enter Tryz.func57, Tryz.ntmps57
  go_wp2
  go_loopw [0, 3] (fun n v wr => ∃ (m : Nat) (t : List UInt8), n = .int .i64 m ∧ v = .string ⟨t.toArray⟩ ∧ m ≤ 9223372036854775807 ∧ t.length + m ≤ N + 1 ∧ Lib.decDigits N = decAhead m ++ t ∧ Below w.heap.size w wr) (fun n _ _ => (intOf n).toNat)
  case atStart => exact ⟨N, [decLow N], rfl, by rw [low_form], hN, by simp; omega, decDigits_ahead N, (Below.refl _ _).alloc (Nat.le_refl _) _⟩
  case round =>
    obtain ⟨m, t, rfl, rfl, hm, ht, hd, hbe⟩ := hrel
    have HD : Hid (Lib.decDigits N = decAhead m ++ t) := hd; clear hd
    by_cases h9 : 9 < m
    · have h9' : (9 : Int) < (m : Int) := by omega
      go_wp2
      go_roundw
      case rel =>
        refine ⟨m / 10, decLow (m / 10) :: t, by go_num, by rw [low_form', cat_one], by omega, by simp; omega, ?_, hbe.alloc hbe.size _⟩
        rw [HD.out, decAhead_step m h9, List.append_assoc]; rfl
      case measure => simp [intOf]; omega
    · go_wp2
      go_ret
      exact ⟨ret_str (by rw [HD.out, decAhead_end m h9]; rfl), hbe⟩

set_option maxHeartbeats 400000 in
theorem specNumText_neg (n : Int) (w : World) (hn : n < 0) :
    Calls Tryz.prog 57 #[.int .i64 n] w fun e w' => e = .returned (.string ⟨(Lib.decDigits 0).toArray⟩) ∧ Below w.heap.size w w' := by
  have hcv := conv_one
  go_enter Tryz.func57, Tryz.ntmps57
  go_wp2
  go_loopw [0, 3] (fun n v wr => n = .int .i64 0 ∧ v = .string ⟨#[48]⟩ ∧ Below w.heap.size w wr) (fun n _ _ => (intOf n).toNat)
  case atStart => exact ⟨rfl, rfl, (Below.refl _ _).alloc (Nat.le_refl _) _⟩
  case round =>
    obtain ⟨rfl, rfl, hbe⟩ := hrel
    go_wp2
    go_ret
    exact ⟨ret_str (l := [48]) (by rw [decDigits_ahead]; rfl), hbe⟩

theorem specNumText_any (n : Int) (w : World) (hn : n ≤ 9223372036854775807) :
    Calls Tryz.prog 57 #[.int .i64 n] w fun e w' => e = .returned (.string ⟨(Lib.decDigits n.toNat).toArray⟩) ∧ Below w.heap.size w w' := by
  by_cases h : n < 0
  · have e : n.toNat = 0 := by omega
    rw [e]; exact specNumText_neg n w h
  · obtain ⟨m, rfl⟩ := Int.eq_ofNat_of_zero_le (by omega : 0 ≤ n)
    rw [Int.toNat_natCast]
    exact specNumText_pos m w (by omega)
end Go.Proofs.YtanebchmeaomgaaGreatDoor
namespace Go.Proofs.YtanebchmeaomgaaGreatDoor
open Go.RowKit M
set_option linter.unusedVariables false

set_option maxHeartbeats 2000000 in
theorem specPutReqO_any (a : Option Addr) (r : Rq) (cap B : Nat) (w : World) (h : Hds w B a r.hs) (hB : B ≤ w.heap.size) (hsh : ShortR r) (hl : r.hs.length ≤ 1048576) (hsum : sumH r.hs ≤ 1048576) (h1 : r.m.size ≤ 1048576) (h2 : r.p.size ≤ 1048576) (h4 : r.b.size ≤ 1048576) :
    Calls Tryz.prog 20 #[.agg #[.string r.m, .string r.p, .slice a r.hs.length cap, .string r.b]] w fun e w' => (∃ (g c : Nat), e = .returned (.slice (some ⟨g, 0, none⟩) (putL r).length c) ∧ OwnY w' w.heap.size (.slice (some ⟨g, 0, none⟩) (putL r).length c) (putL r)) ∧ Below w.heap.size w w' := by
  have HB0 : Hid (Below w.heap.size w (w.alloc (Obj.cells #[Value.string r.m, Value.string r.p, Value.slice a r.hs.length cap, Value.string r.b] 39))) := (Below.refl _ _).alloc (Nat.le_refl _) _
  have HX0 := hide (BoxR.made w a cap r 39)
  have HH := hide h
  have HS := hide hsh
  clear h hsh
  by_cases hb : r.b.size = 0
  · have hz : r.b.toList.isEmpty = true := by
      rw [ByteArray.toList_eq]
      have e : r.b.data.toList.length = r.b.size := Array.length_toList
      cases hq : r.b.data.toList with
      | nil => rfl
      | cons _ _ => rw [hq] at e; simp at e; omega
    go_enter Tryz.func20, Tryz.ntmps20
    have HE : Hid (putL r = put0 r (⟨#[]⟩ : ByteArray).data.toList (⟨#[]⟩ : ByteArray).data.toList) := by
      show putL r = _
      have e2 : r.b.data.toList = [] := by
        have e : r.b.data.toList.length = r.b.size := Array.length_toList
        exact List.length_eq_zero_iff.1 (by omega)
      unfold putL bodyLine
      rw [if_pos hb, e2]
    clear hb
    have hP := l3PutO_any a r cap B ⟨#[]⟩ ⟨#[]⟩ _ (HH.out.below HB0.out hB) (Nat.le_trans hB HB0.out.size) HS.out hl hsum h1 h2 (by decide) (by decide)
    rw [← HE.out] at hP
    go_wp2_with fail
    refine hP.mono ?_
    rintro e w2 ⟨⟨g, c, rfl, y2⟩, b2⟩
    have c2 := HB0.out.trans (b2.mono HB0.out.size)
    have o2 := y2.base HB0.out.size
    clear hP y2
    go_wp2
    go_ret
    exact ⟨⟨g, c, rfl, o2⟩, c2⟩
  · have hz : r.b.toList.isEmpty = false := by
      rw [ByteArray.toList_eq]
      have e : r.b.data.toList.length = r.b.size := Array.length_toList
      cases hq : r.b.data.toList with
      | nil => rw [hq] at e; simp at e; omega
      | cons _ _ => rfl
    have HE : Hid (putL r = put0 r (lenLine r.b.size) r.b.data.toList) := by
      show putL r = _
      unfold putL bodyLine
      rw [if_neg hb]
    have hN := fun W => specNumText_pos r.b.size W (by omega)
    have hd20 := dec_len r.b.size h4
    obtain ⟨d, hd⟩ : ∃ d, (⟨(Lib.decDigits r.b.size).toArray⟩ : ByteArray) = d := ⟨_, rfl⟩
    have hdz : d.size ≤ 20 := by rw [← hd]; exact hd20
    have HL : Hid ((⟨#[99, 111, 110, 116, 101, 110, 116, 45, 108, 101, 110, 103, 116, 104, 58, 32]⟩ : ByteArray) ++ d ++ ⟨#[13, 10]⟩ = bytesOf (lenLine r.b.size)) := by rw [← hd]; exact len_line r.b.size
    rw [hd] at hN
    have HN := hide hN
    clear hb hd hN hd20
    go_enter Tryz.func20, Tryz.ntmps20
    have hq1 : ¬ (9223372036854775807 < 16 + d.size) := by omega
    have hq2 : ¬ (9223372036854775807 < 16 + d.size + 2) := by omega
    have hbz : (r.b.size : Int) ≤ 1048576 := by omega
    have BX0d := hide HX0.out.drew
    have C0d := hide (below_drew HB0.out)
    have K0 := hide (keep4 BX0d.out)
    obtain ⟨ln, hln⟩ : ∃ ln, (⟨#[99, 111, 110, 116, 101, 110, 116, 45, 108, 101, 110, 103, 116, 104, 58, 32]⟩ : ByteArray) ++ d ++ ⟨#[13, 10]⟩ = ln := ⟨_, rfl⟩
    have hlz : ln.size ≤ 1048576 := by
      rw [← hln, ByteArray.size_append, ByteArray.size_append]
      have e1 : (⟨#[99, 111, 110, 116, 101, 110, 116, 45, 108, 101, 110, 103, 116, 104, 58, 32]⟩ : ByteArray).size = 16 := rfl
      have e3 : (⟨#[13, 10]⟩ : ByteArray).size = 2 := rfl
      omega
    have HLn : Hid (ln.data.toList = lenLine r.b.size) := by show ln.data.toList = _; rw [← hln, HL.out]; rfl
    have hP : ∀ W, Below w.heap.size w W → Calls Tryz.prog 56 #[.agg #[.string r.m, .string r.p, .slice a r.hs.length cap, .string r.b], .string ln, .string r.b] W fun e w' => (∃ (g c : Nat), e = .returned (.slice (some ⟨g, 0, none⟩) (putL r).length c) ∧ OwnY w' W.heap.size (.slice (some ⟨g, 0, none⟩) (putL r).length c) (putL r)) ∧ Below W.heap.size W w' := by
      intro W hW
      have h := l3PutO_any a r cap B ln r.b W (HH.out.below hW hB) (Nat.le_trans hB hW.size) HS.out hl hsum h1 h2 hlz (by omega)
      rw [HLn.out, ← HE.out] at h
      exact h
    have HP := hide hP
    clear hP
    go_wp2
    go_region_held3 (fun W => W.cell? ⟨w.heap.size, 0, none⟩ = some (.string r.m) ∧ W.cell? ⟨w.heap.size, 1, none⟩ = some (.string r.p) ∧ W.cell? ⟨w.heap.size, 2, none⟩ = some (.slice a r.hs.length cap) ∧ W.cell? ⟨w.heap.size, 3, none⟩ = some (.string r.b)) (first | exact K0.out | exact K1.out | exact K2.out) (first
      | (go_at_call 57; refine (HN.out _).mono ?_; rintro e w1 ⟨rfl, b1⟩; have c1 := C0d.out.trans (b1.mono C0d.out.size); have BX1 := hide (BX0d.out.next b1); have K1 := hide (keep4 BX1.out))
      | (go_at_call 56; refine (HP.out w1 c1).mono ?_; rintro e w2 ⟨⟨g, c, rfl, y2⟩, b2⟩; have c2 := c1.trans (b2.mono c1.size); have BX2 := hide (BX1.out.next b2); have K2 := hide (keep4 BX2.out)))
    all_goals
      have o2 := y2.base c1.size
      clear y2
      go_wp2
      go_ret
      exact ⟨⟨g, c, rfl, o2⟩, c2⟩
theorem specPutReq_any (a : Option Addr) (r : Rq) (cap B : Nat) (w : World) (h : Hds w B a r.hs) (hB : B ≤ w.heap.size) (hsh : ShortR r) (hl : r.hs.length ≤ 1048576) (hsum : sumH r.hs ≤ 1048576) (h1 : r.m.size ≤ 1048576) (h2 : r.p.size ≤ 1048576) (h4 : r.b.size ≤ 1048576) :
    Calls Tryz.prog 20 #[.agg #[.string r.m, .string r.p, .slice a r.hs.length cap, .string r.b]] w fun e w' => (∃ (g c : Nat), e = .returned (.slice (some ⟨g, 0, none⟩) (putL r).length c) ∧ Byt w' w'.heap.size (some ⟨g, 0, none⟩) (putL r)) ∧ Below w.heap.size w w' := by
  refine (specPutReqO_any a r cap B w h hB hsh hl hsum h1 h2 h4).mono ?_
  rintro e w1 ⟨⟨g, c, rfl, ho⟩, hb⟩
  obtain ⟨g', c', e', _, _, _, _, hy⟩ := ho.byt
  cases e'
  exact ⟨⟨g, c, rfl, hy⟩, hb⟩
end Go.Proofs.YtanebchmeaomgaaGreatDoor
namespace Go.Proofs.YtanebchmeaomgaaGreatDoor
open Go.RowKit

/-- The numbers that a slice holds, in a block below B. -/
def Ints (w : World) (B : Nat) (a : Option Addr) (l : List Int) : Prop :=
  0 < l.length → ∃ b o, a = some ⟨b, o, none⟩ ∧ b < B ∧ ∀ j (hj : j < l.length), w.cell? ⟨b, o + j, none⟩ = some (.int .i64 l[j])

theorem Ints.below {w w' : World} {B C : Nat} {a : Option Addr} {l : List Int} (h : Ints w B a l) (hb : Below C w w') (hB : B ≤ C) : Ints w' B a l := fun h0 => by
  obtain ⟨b, o, e, hbB, hc⟩ := h h0
  exact ⟨b, o, e, hbB, fun j hj => (hb.cell (p := ⟨b, o + j, none⟩) (Nat.lt_of_lt_of_le hbB hB)).trans (hc j hj)⟩
theorem Ints.mono {w : World} {B C : Nat} {a : Option Addr} {l : List Int} (h : Ints w B a l) (hB : B ≤ C) : Ints w C a l := fun h0 => by
  obtain ⟨b, o, e, hbB, hc⟩ := h h0
  exact ⟨b, o, e, Nat.lt_of_lt_of_le hbB hB, hc⟩
end Go.Proofs.YtanebchmeaomgaaGreatDoor
namespace Go.Proofs.YtanebchmeaomgaaGreatDoor
open M

theorem cut_to (t : ByteArray) (n : Nat) : t.extract 0 n = bytesOf (t.data.toList.take n) := by
  apply ByteArray.ext
  apply Array.toList_inj.1
  simp [bytesOf, ByteArray.data_extract]
theorem cut_from (t : ByteArray) (n : Nat) : (t.extract n t.size).data.toList = t.data.toList.drop n := by
  have : t.size = t.data.toList.length := (Array.length_toList).symm
  rw [ByteArray.data_extract, Array.toList_extract, this, List.extract_eq_take_drop, List.take_of_length_le (by rw [List.length_drop]; omega)]
theorem cut_none (t : ByteArray) : t.extract t.size t.size = ByteArray.empty := by
  apply ByteArray.ext
  have : (t.extract t.size t.size).data.size = 0 := by show (t.extract t.size t.size).size = 0; rw [ByteArray.size_extract]; omega
  exact Array.eq_empty_of_size_eq_zero this
end Go.Proofs.YtanebchmeaomgaaGreatDoor
