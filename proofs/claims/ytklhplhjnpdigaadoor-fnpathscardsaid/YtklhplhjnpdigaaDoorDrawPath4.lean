/-
  The draws of FnPaths: whatever is drawn, it is few and short.
-/
import Derived.Test.YtklhplhjnpdigaaDoorDrawPath2
import Derived.Test.YtklhplhjnpdigaaDoorPathText
import Derived.Test.YtklhplhjnpdigaaDoorMathBack3
namespace Go.Proofs.YtklhplhjnpdigaaDoor
open Go.RowKit M
set_option linter.unusedVariables false

theorem owns_cap4 {w : World} {B g n c : Nat} {xs : List Value} (h : w.ownsRow B 9 1 (.slice (some ⟨g, 0, none⟩) n c) n xs) : n ≤ c ∧ c ≤ maxLen := by
  rcases h.2 with ⟨e, _⟩ | ⟨g', cap', cur, hv, _, _, h1, h2, _⟩
  · cases e
  · cases hv; exact ⟨h1, h2⟩
theorem owns_strs4 {w : World} {B g n c : Nat} {ss : List ByteArray} (h : w.ownsRow B 9 1 (.slice (some ⟨g, 0, none⟩) n c) n (strCells ss)) (hn : n = ss.length) : Strs w w.heap.size (some ⟨g, 0, none⟩) ss := (OwnS.of h hn.symm).strs (Nat.le_refl _)

/-- A list of few short texts. -/
def OneP (w' : World) (e : Ending) : Prop := ∃ (ss : List ByteArray) (g c : Nat), Few 6 ss ∧ e = .returned (.slice (some ⟨g, 0, none⟩) ss.length c) ∧ Strs w' w'.heap.size (some ⟨g, 0, none⟩) ss

set_option maxHeartbeats 1000000 in
theorem drawPathText_any {w : World} {B : Nat} {a : Option Addr} {len : Nat} {zs : List Int} (h : CodeIn w B a len zs) (cap : Nat) :
    Calls Tryd.prog 5 #[.slice a len cap] w fun e w' => OneP w' e ∧ Below w.heap.size w w' := by
  have H : Hid (CodeIn w B a len zs) := h
  clear h
  go_enter Tryd.func5, Tryd.ntmps5
  go_wp2_with fail
  refine (newDX H.out cap).mono ?_
  rintro e w1 ⟨rfl, hd1, hb1⟩
  have H1 : Hid (DX w1 w.heap.size a len cap zs) := hd1
  clear hd1
  go_wp2_with fail
  refine (l2Any_any H1.out).mono ?_
  rintro e w2 ⟨⟨ss, n, g, c, hf, hn, rfl, hown⟩, _, hg2⟩
  have HS : Hid (Strs w2 w2.heap.size (some ⟨g, 0, none⟩) ss) := owns_strs4 hown hn
  have HF : Hid (Few 6 ss) := hf
  have HN : Hid (n = ss.length) := hn
  have HG : Hid (w1.grownBy w2 (some w.heap.size)) := hg2
  clear hf hn hg2 hown
  go_wp2
  go_ret
  exact ⟨⟨ss, g, c, HF.out, by rw [← HN.out]; rfl, HS.out⟩, dc_below hb1 HG.out⟩

def ppD : List ByteArray := [⟨#[]⟩, ⟨#[97]⟩, ⟨#[47, 47]⟩, ⟨#[47, 46, 47, 97]⟩, ⟨#[47, 97, 47, 46, 46]⟩, ⟨#[47, 46, 46]⟩, ⟨#[47, 97, 47, 46, 46, 47, 46, 46]⟩, ⟨#[47, 97, 47]⟩, ⟨#[47, 97, 47, 47, 98]⟩, ⟨#[47, 37, 50, 101, 37, 50, 101]⟩, ⟨#[47, 37, 50, 70]⟩, ⟨#[47, 97, 37, 50]⟩, ⟨#[47, 49, 47, 50, 47, 51, 47, 52, 47, 53]⟩, ⟨#[47, 97, 47, 98, 47, 46, 46, 47, 99, 47, 46, 47]⟩, ⟨#[47, 37, 48, 48]⟩, ⟨#[47, 110, 105, 110, 101, 98, 121, 116, 101, 115]⟩]
def ppE : List ByteArray := [⟨#[47]⟩, ⟨#[47, 46]⟩, ⟨#[47, 46, 46]⟩, ⟨#[47, 47]⟩, ⟨#[47, 37, 52, 49]⟩, ⟨#[37]⟩]

set_option maxRecDepth 100000 in
set_option maxHeartbeats 2000000 in
theorem drawParsePath_any {w : World} {B : Nat} {a : Option Addr} {len : Nat} {zs : List Int} (h : CodeIn w B a len zs) (cap : Nat) :
    Calls Tryd.prog 7 #[.slice a len cap] w fun e w' => (∃ s : ByteArray, e = .returned (.string s) ∧ s.size ≤ 200) ∧ Below w.heap.size w w' := by
  have H : Hid (CodeIn w B a len zs) := h
  clear h
  go_enter Tryd.func7, Tryd.ntmps7
  go_wp2_with fail
  refine (newDX H.out cap).mono ?_
  rintro e w1 ⟨rfl, hd1, hb1⟩
  have hlt1 := hd1.lt
  have H1 : Hid (DX w1 w.heap.size a len cap zs) := hd1
  clear hd1
  go_wp2_with fail
  refine (l2Draw_any H1.out).mono ?_
  rintro e w2 ⟨⟨ss, n, g, c, hf, rfl, rfl, hown⟩, hd2, hg2⟩
  have HD2 : Hid (DX w2 w.heap.size a len cap zs) := hd2
  have HB2 : Hid (Below w.heap.size w w2) := dc_below hb1 hg2
  have hst := owns_strs4 hown rfl
  have hl3 := hf.1
  clear hd2 hg2
  have hT := specPathText_any (some ⟨g, 0, none⟩) ss c w2.heap.size w2 hst (Nat.le_refl _) hf.short (by unfold maxLen; omega)
  have hsz : (bytesOf (ptextL ss)).size ≤ 100 := by rw [bytesOf_size]; exact ptextL_len
  obtain ⟨s, hs⟩ : ∃ s, bytesOf (ptextL ss) = s := ⟨_, rfl⟩
  rw [hs] at hT hsz
  clear hs hst hown
  go_wp2_with fail
  refine hT.mono ?_
  rintro e w3 ⟨rfl, hb3⟩
  clear hT
  have HD3 : Hid (DX w3 w.heap.size a len cap zs) := HD2.out.other hb3.size (fun k hk => hb3.block k (by have := HD2.out.lt; omega))
  have HB3 : Hid (Below w.heap.size w w3) := HB2.out.trans (hb3.mono HB2.out.size)
  go_wp2_with fail
  refine (l1BelowX HD3.out 4 (by decide) (by decide)).mono ?_
  rintro e w4 ⟨⟨k, rfl, hk⟩, hd4, hg4⟩
  have HD4 : Hid (DX w4 w.heap.size a len cap zs) := hd4
  have HB4 : Hid (Below w.heap.size w w4) := dc_below HB3.out hg4
  clear hd4 hg4
  by_cases hk0 : k = 0
  · subst hk0
    go_wp2_with fail
    refine (strNewX HD4.out ppD _ _ 16 _ rfl rfl rfl (by decide) (by decide) (by decide)).mono ?_
    rintro e w5 ⟨⟨x, rfl, hx⟩, _, hg5⟩
    have HB5 : Hid (Below w.heap.size w w5) := dc_below HB4.out hg5
    clear hg5
    go_wp2
    go_ret
    exact ⟨⟨x, rfl, by omega⟩, HB5.out⟩
  · have hk0' : ((k : Int) == 0) = false := by apply beq_eq_false_iff_ne.2; omega
    by_cases hk1 : k = 1
    · subst hk1
      clear hk0 hk0'
      go_wp2_with fail
      refine (strNewX HD4.out ppE _ _ 6 _ rfl rfl rfl (by decide) (by decide) (by decide)).mono ?_
      rintro e w5 ⟨⟨x, rfl, hx⟩, _, hg5⟩
      have HB5 : Hid (Below w.heap.size w w5) := dc_below HB4.out hg5
      clear hg5
      go_wp2
      go_ret
      exact ⟨⟨_, rfl, by rw [ByteArray.size_append]; omega⟩, HB5.out⟩
    · have hk1' : ((k : Int) == 1) = false := by apply beq_eq_false_iff_ne.2; omega
      go_wp2
      go_ret
      exact ⟨⟨s, rfl, by omega⟩, HB4.out⟩
end Go.Proofs.YtklhplhjnpdigaaDoor
