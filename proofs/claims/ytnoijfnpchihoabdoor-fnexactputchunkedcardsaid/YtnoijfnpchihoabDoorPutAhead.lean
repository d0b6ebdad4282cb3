/-
  What the program's putAhead does.
-/
import Derived.Test.YtnoijfnpchihoabDoorPutLines
import Derived.Test.YtnoijfnpchihoabDoorReqOk
namespace Go.Proofs.YtnoijfnpchihoabDoor
open Go.RowKit M
set_option linter.unusedVariables false

set_option maxRecDepth 100000 in
set_option maxHeartbeats 4000000 in
theorem putAhead_no (a : Option Addr) (r : Rq) (cap B : Nat) (a2 : Option Addr) (n2 cap2 : Nat) (w : World) (h : Hds w B a r.hs) (hB : B ≤ w.heap.size) (hfit : FitR r) (hr : reqB r = false) :
    Calls Tryd.prog 32 #[.agg #[.string r.m, .string r.p, .slice a r.hs.length cap, .string r.b], .slice a2 n2 cap2] w fun e w' => e = .returned (.tuple #[.slice none 0 0, .bool false]) ∧ Below w.heap.size w w' := by
  have HB0 : Hid (Below w.heap.size w (w.alloc (Obj.cells #[Value.string r.m, Value.string r.p, Value.slice a r.hs.length cap, Value.string r.b] 31))) := (Below.refl _ _).alloc (Nat.le_refl _) _
  have HX0 := hide (BoxR.made w a cap r 31)
  have HH := hide h
  have HF := hide hfit
  clear h hfit
  go_enter Tryd.func32, Tryd.ntmps32
  go_wp2_with fail
  refine (reqOk_any a r cap B _ (HH.out.below HB0.out hB) (Nat.le_trans hB HB0.out.size) HF.out).mono ?_
  rintro e w1 ⟨rfl, b1⟩
  rw [hr]
  have c1 := HB0.out.trans (b1.mono HB0.out.size)
  go_wp2
  go_ret2
  exact ⟨rfl, c1⟩

set_option maxRecDepth 100000 in
set_option maxHeartbeats 4000000 in
theorem putAhead_yes (a : Option Addr) (r : Rq) (cap B : Nat) (a2 : Option Addr) (hs2 : List Hd) (cap2 : Nat) (w : World) (h : Hds w B a r.hs) (hB : B ≤ w.heap.size) (h2 : Hds w w.heap.size a2 hs2) (hfit : FitR r) (hl : r.hs.length ≤ 1048576) (hsum : sumH r.hs ≤ 1048576) (hl2 : hs2.length ≤ 16) (hsum2 : sumH hs2 ≤ 1048576) (h1 : r.m.size ≤ 1048576) (h2p : r.p.size ≤ 1048576) (hr : reqB r = true) :
    Calls Tryd.prog 32 #[.agg #[.string r.m, .string r.p, .slice a r.hs.length cap, .string r.b], .slice a2 hs2.length cap2] w fun e w' => (∃ v, e = .returned (.tuple #[v, .bool (decide ((frontL r (hdsTxt hs2)).length ≤ 400))]) ∧ OwnY w' w.heap.size v (frontL r (hdsTxt hs2)) ∧ (frontL r (hdsTxt hs2)).length ≤ 33554432) ∧ Below w.heap.size w w' := by
  have HB0 : Hid (Below w.heap.size w (w.alloc (Obj.cells #[Value.string r.m, Value.string r.p, Value.slice a r.hs.length cap, Value.string r.b] 31))) := (Below.refl _ _).alloc (Nat.le_refl _) _
  have HX0 := hide (BoxR.made w a cap r 31)
  have HH := hide h
  have HH2 := hide h2
  have HF := hide hfit
  clear h h2 hfit
  go_enter Tryd.func32, Tryd.ntmps32
  go_wp2_with fail
  refine (reqOk_any a r cap B _ (HH.out.below HB0.out hB) (Nat.le_trans hB HB0.out.size) HF.out).mono ?_
  rintro e w1 ⟨rfl, b1⟩
  rw [hr]
  have c1 := HB0.out.trans (b1.mono HB0.out.size)
  have BX1 := hide (HX0.out.next b1)
  have x1 := BX1.out
  obtain ⟨hlt1, x10, x11, x12, x13⟩ := x1
  obtain ⟨sx, hsx⟩ : ∃ sx, r.m ++ (⟨#[32]⟩ : ByteArray) ++ r.p ++ ⟨#[32]⟩ ++ ⟨#[72, 84, 84, 80, 47, 49, 46, 49]⟩ = sx := ⟨_, rfl⟩
  have hsz : sx.size ≤ 2200000 := by
    rw [← hsx]
    simp only [ByteArray.size_append]
    have e1 : (⟨#[32]⟩ : ByteArray).size = 1 := rfl
    have e2 : (⟨#[72, 84, 84, 80, 47, 49, 46, 49]⟩ : ByteArray).size = 8 := rfl
    omega
  have HSX : Hid (linesTxt sx.data.toList r.hs hs2 = frontL r (hdsTxt hs2)) := by
    show linesTxt sx.data.toList r.hs hs2 = frontL r (hdsTxt hs2)
    rw [← hsx]
    simp [linesTxt, frontL, topTxt, proto, crlf]
  have HP := hide (putLines_any sx a r.hs cap B a2 hs2 cap2 w.heap.size w1 (HH.out.below c1 hB) (Nat.le_trans hB c1.size) (HH2.out.below c1 (Nat.le_refl _)) c1.size (by omega) hl hsum hl2 hsum2)
  rw [HSX.out] at HP
  obtain ⟨L, hL⟩ : ∃ L, frontL r (hdsTxt hs2) = L := ⟨_, rfl⟩
  rw [hL] at HP
  have HLf := hide hL
  have C1 := hide c1
  clear hL hsz HSX
  go_wp2_with fail
  try rw [hsx]
  refine HP.out.mono ?_
  rintro e w2 ⟨⟨v2, rfl, o2, z2⟩, b2⟩
  have HO2 := hide o2
  obtain ⟨g4, k4, hv4, _, _, _, _, _⟩ := o2.byt
  subst hv4
  have C2 := hide (C1.out.trans (b2.mono C1.out.size))
  clear HP o2 b2 hsx x10 x11 x12 x13
  go_wp2
  refine bodyPost_ret (v := .tuple #[.slice (some ⟨g4, 0, none⟩) L.length k4, .bool (decide ((L.length : Int) ≤ 400))]) (by simp [results, Tryd.results32, go_sem]) rfl ?_
  rw [HLf.out]
  refine ⟨⟨_, ?_, HO2.out.base C1.out.size, z2⟩, C2.out⟩
  have e : decide ((L.length : Int) ≤ 400) = decide (L.length ≤ 400) := by
    by_cases h4 : L.length ≤ 400
    · rw [decide_eq_true h4, decide_eq_true (by omega)]
    · rw [decide_eq_false h4, decide_eq_false (by omega)]
  rw [e]
end Go.Proofs.YtnoijfnpchihoabDoor
