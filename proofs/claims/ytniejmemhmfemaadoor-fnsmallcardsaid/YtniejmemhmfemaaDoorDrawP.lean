/-
  The draws of numbers' texts.
-/
import Derived.Test.YtniejmemhmfemaaDoorDrawS
namespace Go.Proofs.YtniejmemhmfemaaDoor
open Go.RowKit M

theorem DC.below {w w' : World} {N : Nat} {a : Option Addr} {len cap : Nat} {zs : List Int} {c : St} (h : DC w N a len cap zs c) (hb : Below w.heap.size w w') : DC w' N a len cap zs c := by
  have hg : w.grownBy w' (some N) := ⟨hb.os, hb.tape, hb.output, hb.size, fun k hk _ => hb.block k hk⟩
  refine h.grown hg ⟨?_, ?_, ?_, ?_, ?_⟩
  · exact (hb.cell (p := ⟨N, 0, none⟩) h.lt).trans h.cur.c0
  · exact (hb.cell (p := ⟨N, 1, none⟩) h.lt).trans h.cur.c1
  · exact (hb.cell (p := ⟨N, 2, none⟩) h.lt).trans h.cur.c2
  · exact (hb.frozen (p := ⟨N, 1, none⟩) h.lt).trans h.cur.f1
  · exact (hb.frozen (p := ⟨N, 2, none⟩) h.lt).trans h.cur.f2
theorem grown_of_below {w w' : World} (hb : Below w.heap.size w w') (r : Option Nat) : w.grownBy w' r := ⟨hb.os, hb.tape, hb.output, hb.size, fun k hk _ => hb.block k hk⟩

/-- l1Once, of what a call on a cursor wants. -/
theorem onceDC {w : World} {N : Nat} {a : Option Addr} {len cap : Nat} {zs : List Int} {c : St} (h : DC w N a len cap zs c) (n : Int) (h0 : 0 < n) (h1 : n ≤ 1000000) :
    Calls Tryd.prog 38 #[.pointer (some ⟨N, 0, none⟩), .int .i64 n] w fun e w' => e = .returned (.bool (belowV zs len c n == 0)) ∧ DC w' N a len cap zs (belowS len c n) ∧ w.grownBy w' (some N) := by
  refine (l1Once_any N a len cap zs c n w h.cur h.code h.bN h.hlen h0 h1).mono ?_
  rintro e w1 ⟨rfl, hc, hg⟩
  exact ⟨rfl, h.grown hg hc, hg⟩

def p1 (zs : List Int) (len : Nat) : St := numS len (newS zs len)
def p2 (zs : List Int) (len : Nat) : St := belowS len (p1 zs len) 3
def onceV (zs : List Int) (len : Nat) : Bool := belowV zs len (p1 zs len) 3 == 0
def dPN (zs : List Int) (len : Nat) : ByteArray := if onceV zs len then pn8.getD (pick zs len (p2 zs len) 8) ByteArray.empty else ⟨(Lib.decDigits (dNum zs len).toNat).toArray⟩
def dMost (zs : List Int) (len : Nat) : Int := if onceV zs len then mostL.getD (pick zs len (belowS len (p2 zs len) 8) 5) 0 else mostL.getD (pick zs len (p2 zs len) 5) 0
def dPH (zs : List Int) (len : Nat) : ByteArray := if onceV zs len then ph8.getD (pick zs len (p2 zs len) 8) ByteArray.empty else ⟨(hexDigits (dNum zs len).toNat).toArray⟩

theorem dPN_le (zs : List Int) (len : Nat) : (dPN zs len).size ≤ 100 := by
  unfold dPN
  split
  · exact getD_mem pn8 _ _ (fun s => s.size ≤ 100) (by decide) (by decide)
  · rw [size_arr]
    have := dNum_le zs len
    have := decDigits_le (dNum zs len).toNat (by omega)
    omega
theorem dPH_le (zs : List Int) (len : Nat) : (dPH zs len).size ≤ 100 := by
  unfold dPH
  split
  · exact getD_mem ph8 _ _ (fun s => s.size ≤ 100) (by decide) (by decide)
  · rw [size_arr]
    have := hexDig_le 16 (dNum zs len).toNat
    unfold hexDigits
    omega

set_option maxHeartbeats 400000 in
theorem drawParseNum_any {w : World} {B : Nat} {a : Option Addr} {len : Nat} {zs : List Int} (h : CodeIn w B a len zs) (cap : Nat) :
    Calls Tryd.prog 11 #[.slice a len cap] w fun e w' => e = .returned (.tuple #[.string (dPN zs len), .int .i64 (dMost zs len)]) ∧ Below w.heap.size w w' := by
  have H : Hid (CodeIn w B a len zs) := h
  clear h
  have hn := dNum_le zs len
  have HN : Hid (∀ (w1 : World), DC w1 w.heap.size a len cap zs (newS zs len) → Calls Tryd.prog 37 #[.pointer (some ⟨w.heap.size, 0, none⟩)] w1 fun e w' => e = .returned (.int .i64 (dNum zs len)) ∧ DC w' w.heap.size a len cap zs (p1 zs len) ∧ w1.grownBy w' (some w.heap.size)) := fun w1 h => l1Num_any h
  have HO : Hid (∀ (w1 : World), DC w1 w.heap.size a len cap zs (p1 zs len) → Calls Tryd.prog 38 #[.pointer (some ⟨w.heap.size, 0, none⟩), .int .i64 3] w1 fun e w' => e = .returned (.bool (onceV zs len)) ∧ DC w' w.heap.size a len cap zs (p2 zs len) ∧ w1.grownBy w' (some w.heap.size)) := fun w1 h => onceDC h 3 (by decide) (by decide)
  cases ho : onceV zs len
  · have HV : Hid (dPN zs len = ⟨(Lib.decDigits (dNum zs len).toNat).toArray⟩ ∧ dMost zs len = mostL.getD (pick zs len (p2 zs len) 5) 0) := by
      show _ ∧ _
      unfold dPN dMost
      rw [ho]
      exact ⟨rfl, rfl⟩
    go_enter Tryd.func11, Tryd.ntmps11
    go_wp2_with fail
    refine (newDC H.out cap).mono ?_
    rintro e w1 ⟨rfl, hd1, hb1⟩
    have H1 : Hid (DC w1 w.heap.size a len cap zs (newS zs len)) := hd1
    clear hd1
    go_wp2_with fail
    refine (HN.out _ H1.out).mono ?_
    rintro e w2 ⟨rfl, hd2, hg2⟩
    have H2 : Hid (DC w2 w.heap.size a len cap zs (p1 zs len)) := hd2
    clear hd2
    go_wp2_with fail
    refine (specNumText_any (dNum zs len) _ hn).mono ?_
    rintro e w3 ⟨rfl, hb3⟩
    have H3 : Hid (DC w3 w.heap.size a len cap zs (p1 zs len)) := H2.out.below hb3
    go_wp2_with fail
    refine (HO.out _ H3.out).mono ?_
    rintro e w4 ⟨rfl, hd4, hg4⟩
    rw [ho]
    have H4 : Hid (DC w4 w.heap.size a len cap zs (p2 zs len)) := hd4
    clear hd4
    go_wp2_with fail
    refine (intNew H4.out mostL _ _ 5 _ rfl rfl rfl (by decide) (by decide)).mono ?_
    rintro e w5 ⟨rfl, _, hg5⟩
    go_wp2
    go_ret2
    refine ⟨?_, dc_below hb1 (grown_trans (grown_trans (grown_trans hg2 (grown_of_below hb3 _)) hg4) hg5)⟩
    rw [HV.out.1, HV.out.2]
    rfl
  · have HV : Hid (dPN zs len = pn8.getD (pick zs len (p2 zs len) 8) ByteArray.empty ∧ dMost zs len = mostL.getD (pick zs len (belowS len (p2 zs len) 8) 5) 0) := by
      show _ ∧ _
      unfold dPN dMost
      rw [ho]
      exact ⟨rfl, rfl⟩
    go_enter Tryd.func11, Tryd.ntmps11
    go_wp2_with fail
    refine (newDC H.out cap).mono ?_
    rintro e w1 ⟨rfl, hd1, hb1⟩
    have H1 : Hid (DC w1 w.heap.size a len cap zs (newS zs len)) := hd1
    clear hd1
    go_wp2_with fail
    refine (HN.out _ H1.out).mono ?_
    rintro e w2 ⟨rfl, hd2, hg2⟩
    have H2 : Hid (DC w2 w.heap.size a len cap zs (p1 zs len)) := hd2
    clear hd2
    go_wp2_with fail
    refine (specNumText_any (dNum zs len) _ hn).mono ?_
    rintro e w3 ⟨rfl, hb3⟩
    have H3 : Hid (DC w3 w.heap.size a len cap zs (p1 zs len)) := H2.out.below hb3
    go_wp2_with fail
    refine (HO.out _ H3.out).mono ?_
    rintro e w4 ⟨rfl, hd4, hg4⟩
    rw [ho]
    have H4 : Hid (DC w4 w.heap.size a len cap zs (p2 zs len)) := hd4
    clear hd4
    go_wp2_with fail
    refine (strNew H4.out pn8 _ _ 8 _ rfl rfl rfl (by decide) (by decide)).mono ?_
    rintro e w4a ⟨rfl, hd4a, hg4a⟩
    have H4a : Hid (DC w4a w.heap.size a len cap zs (belowS len (p2 zs len) 8)) := hd4a
    clear hd4a
    go_wp2_with fail
    refine (intNew H4a.out mostL _ _ 5 _ rfl rfl rfl (by decide) (by decide)).mono ?_
    rintro e w5 ⟨rfl, _, hg5⟩
    go_wp2
    go_ret2
    refine ⟨?_, dc_below hb1 (grown_trans (grown_trans (grown_trans (grown_trans hg2 (grown_of_below hb3 _)) hg4) hg4a) hg5)⟩
    rw [HV.out.1, HV.out.2]
    rfl

set_option maxHeartbeats 400000 in
theorem drawParseHex_any {w : World} {B : Nat} {a : Option Addr} {len : Nat} {zs : List Int} (h : CodeIn w B a len zs) (cap : Nat) :
    Calls Tryd.prog 13 #[.slice a len cap] w fun e w' => e = .returned (.string (dPH zs len)) ∧ Below w.heap.size w w' := by
  have H : Hid (CodeIn w B a len zs) := h
  clear h
  have hn := dNum_le zs len
  have HN : Hid (∀ (w1 : World), DC w1 w.heap.size a len cap zs (newS zs len) → Calls Tryd.prog 37 #[.pointer (some ⟨w.heap.size, 0, none⟩)] w1 fun e w' => e = .returned (.int .i64 (dNum zs len)) ∧ DC w' w.heap.size a len cap zs (p1 zs len) ∧ w1.grownBy w' (some w.heap.size)) := fun w1 h => l1Num_any h
  have HO : Hid (∀ (w1 : World), DC w1 w.heap.size a len cap zs (p1 zs len) → Calls Tryd.prog 38 #[.pointer (some ⟨w.heap.size, 0, none⟩), .int .i64 3] w1 fun e w' => e = .returned (.bool (onceV zs len)) ∧ DC w' w.heap.size a len cap zs (p2 zs len) ∧ w1.grownBy w' (some w.heap.size)) := fun w1 h => onceDC h 3 (by decide) (by decide)
  cases ho : onceV zs len
  · have HV : Hid (dPH zs len = ⟨(hexDigits (dNum zs len).toNat).toArray⟩) := by
      show _ = _
      unfold dPH
      rw [ho]
      rfl
    go_enter Tryd.func13, Tryd.ntmps13
    go_wp2_with fail
    refine (newDC H.out cap).mono ?_
    rintro e w1 ⟨rfl, hd1, hb1⟩
    have H1 : Hid (DC w1 w.heap.size a len cap zs (newS zs len)) := hd1
    clear hd1
    go_wp2_with fail
    refine (HN.out _ H1.out).mono ?_
    rintro e w2 ⟨rfl, hd2, hg2⟩
    have H2 : Hid (DC w2 w.heap.size a len cap zs (p1 zs len)) := hd2
    clear hd2
    go_wp2_with fail
    refine (specHex_any (dNum zs len) _ hn).mono ?_
    rintro e w3 ⟨rfl, hb3⟩
    have H3 : Hid (DC w3 w.heap.size a len cap zs (p1 zs len)) := H2.out.below hb3
    go_wp2_with fail
    refine (HO.out _ H3.out).mono ?_
    rintro e w4 ⟨rfl, _, hg4⟩
    rw [ho]
    go_wp2
    go_ret
    exact ⟨by rw [HV.out]; rfl, dc_below hb1 (grown_trans (grown_trans hg2 (grown_of_below hb3 _)) hg4)⟩
  · have HV : Hid (dPH zs len = ph8.getD (pick zs len (p2 zs len) 8) ByteArray.empty) := by
      show _ = _
      unfold dPH
      rw [ho]
      rfl
    go_enter Tryd.func13, Tryd.ntmps13
    go_wp2_with fail
    refine (newDC H.out cap).mono ?_
    rintro e w1 ⟨rfl, hd1, hb1⟩
    have H1 : Hid (DC w1 w.heap.size a len cap zs (newS zs len)) := hd1
    clear hd1
    go_wp2_with fail
    refine (HN.out _ H1.out).mono ?_
    rintro e w2 ⟨rfl, hd2, hg2⟩
    have H2 : Hid (DC w2 w.heap.size a len cap zs (p1 zs len)) := hd2
    clear hd2
    go_wp2_with fail
    refine (specHex_any (dNum zs len) _ hn).mono ?_
    rintro e w3 ⟨rfl, hb3⟩
    have H3 : Hid (DC w3 w.heap.size a len cap zs (p1 zs len)) := H2.out.below hb3
    go_wp2_with fail
    refine (HO.out _ H3.out).mono ?_
    rintro e w4 ⟨rfl, hd4, hg4⟩
    rw [ho]
    have H4 : Hid (DC w4 w.heap.size a len cap zs (p2 zs len)) := hd4
    clear hd4
    go_wp2_with fail
    refine (strNew H4.out ph8 _ _ 8 _ rfl rfl rfl (by decide) (by decide)).mono ?_
    rintro e w5 ⟨rfl, _, hg5⟩
    go_wp2
    go_ret
    exact ⟨by rw [HV.out]; rfl, dc_below hb1 (grown_trans (grown_trans (grown_trans hg2 (grown_of_below hb3 _)) hg4) hg5)⟩
end Go.Proofs.YtniejmemhmfemaaDoor
