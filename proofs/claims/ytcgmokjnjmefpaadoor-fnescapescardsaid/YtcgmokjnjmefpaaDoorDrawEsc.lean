/-
  The draws of texts that are escaped, or not: whatever is drawn, it is short.
-/
import Derived.Test.YtcgmokjnjmefpaaDoorDrawTX
import Derived.Test.YtcgmokjnjmefpaaDoorSpecEscape
namespace Go.Proofs.YtcgmokjnjmefpaaDoor
open Go.RowKit M
set_option linter.unusedVariables false

def escD : List ByteArray := [⟨#[]⟩, ⟨#[38]⟩, ⟨#[60, 38, 62, 34, 39]⟩, ⟨#[38, 97, 109, 112, 59]⟩]
def unescD : List ByteArray := [⟨#[]⟩, ⟨#[]⟩, ⟨#[38, 97, 112, 111, 115, 59]⟩, ⟨#[38, 35, 54, 53, 59]⟩, ⟨#[38, 35, 51, 49, 59]⟩, ⟨#[38, 35, 49, 50, 55, 59]⟩, ⟨#[38, 35, 48, 54, 53, 59]⟩, ⟨#[38]⟩, ⟨#[38, 120, 59]⟩, ⟨#[60]⟩, ⟨#[38, 97, 109, 112]⟩, ⟨#[38, 35, 59]⟩, ⟨#[62]⟩]

set_option maxHeartbeats 1000000 in
theorem drawEscape_any {w : World} {B : Nat} {a : Option Addr} {len : Nat} {zs : List Int} (h : CodeIn w B a len zs) (cap : Nat) :
    Calls Tryd.prog 5 #[.slice a len cap] w fun e w' => (∃ s : ByteArray, e = .returned (.string s) ∧ s.size ≤ 200) ∧ Below w.heap.size w w' := by
  have H : Hid (CodeIn w B a len zs) := h
  clear h
  go_enter Tryd.func5, Tryd.ntmps5
  go_wp2_with fail
  refine (newDX H.out cap).mono ?_
  rintro e w1 ⟨rfl, hd1, hb1⟩
  have H1 : Hid (DX w1 w.heap.size a len cap zs) := hd1
  clear hd1
  go_wp2_with fail
  refine (l1TextX H1.out).mono ?_
  rintro e w2 ⟨⟨s1, rfl, hs1⟩, hd2, hg2⟩
  have H2 : Hid (DX w2 w.heap.size a len cap zs) := hd2
  have HG2 : Hid (w1.grownBy w2 (some w.heap.size)) := hg2
  clear hd2 hg2
  go_wp2_with fail
  refine (strNewX H2.out escD _ _ 4 _ rfl rfl rfl (by decide) (by decide) (by decide)).mono ?_
  rintro e w3 ⟨⟨s2, rfl, hs2⟩, _, hg3⟩
  have HG3 : Hid (w1.grownBy w3 (some w.heap.size)) := grown_trans HG2.out hg3
  clear hg3
  go_wp2
  go_ret
  exact ⟨⟨_, rfl, by rw [ByteArray.size_append]; omega⟩, dc_below hb1 HG3.out⟩

set_option maxHeartbeats 1000000 in
theorem drawUnescape_any {w : World} {B : Nat} {a : Option Addr} {len : Nat} {zs : List Int} (h : CodeIn w B a len zs) (cap : Nat) :
    Calls Tryd.prog 8 #[.slice a len cap] w fun e w' => (∃ s : ByteArray, e = .returned (.string s) ∧ s.size ≤ 1000) ∧ Below w.heap.size w w' := by
  have H : Hid (CodeIn w B a len zs) := h
  clear h
  go_enter Tryd.func8, Tryd.ntmps8
  go_wp2_with fail
  refine (newDX H.out cap).mono ?_
  rintro e w1 ⟨rfl, hd1, hb1⟩
  have H1 : Hid (DX w1 w.heap.size a len cap zs) := hd1
  clear hd1
  go_wp2_with fail
  refine (l1TextX H1.out).mono ?_
  rintro e w2 ⟨⟨s1, rfl, hs1⟩, hd2, hg2⟩
  have H2 : Hid (DX w2 w.heap.size a len cap zs) := hd2
  have HG2 : Hid (w1.grownBy w2 (some w.heap.size)) := hg2
  have hq : (bytesOf (escL s1.data.toList)).size ≤ 600 := by
    rw [bytesOf_size]
    have h1 := escL_le s1.data.toList
    have h2 : s1.data.toList.length = s1.size := Array.length_toList
    omega
  have HE := hide (fun W : World => specEscape_any s1 W (by omega))
  obtain ⟨x, hx⟩ : ∃ x, bytesOf (escL s1.data.toList) = x := ⟨_, rfl⟩
  rw [hx] at hq HE
  clear hd2 hg2 hx
  go_wp2_with fail
  refine (HE.out w2).mono ?_
  rintro e w3 ⟨rfl, hw3⟩
  obtain rfl := hw3.symm
  go_wp2_with fail
  refine (strNewX H2.out unescD _ _ 13 _ rfl rfl rfl (by decide) (by decide) (by decide)).mono ?_
  rintro e w3 ⟨⟨s2, rfl, hs2⟩, _, hg3⟩
  have HG3 : Hid (w1.grownBy w3 (some w.heap.size)) := grown_trans HG2.out hg3
  clear hg3
  go_wp2
  go_ret
  exact ⟨⟨_, rfl, by rw [ByteArray.size_append]; omega⟩, dc_below hb1 HG3.out⟩
end Go.Proofs.YtcgmokjnjmefpaaDoor
