/-
  The draws of chapter 2: whatever is drawn, it is short.
-/
import Derived.Test.YtifnolomekhmfaaGreatHide
namespace Go.Proofs.YtifnolomekhmfaaGreat
open Go.RowKit M
set_option linter.unusedVariables false

def sliceLen : Value → Nat
  | .slice _ n _ => n
  | _ => 0

/-- What l2Any hands back: few short texts, in a new row. -/
def AnyP (w' : World) (B : Nat) (e : Ending) : Prop := ∃ (ss : List ByteArray) (n g c : Nat), Few 6 ss ∧ n = ss.length ∧ e = .returned (.slice (some ⟨g, 0, none⟩) n c) ∧ w'.ownsRow B 9 1 (.slice (some ⟨g, 0, none⟩) n c) n (strCells ss)

set_option maxRecDepth 100000 in
set_option maxHeartbeats 4000000 in
theorem l2Any_any {w : World} {N : Nat} {a : Option Addr} {len cap : Nat} {zs : List Int} (h : DX w N a len cap zs) :
    Calls Tryz.prog 56 #[.pointer (some ⟨N, 0, none⟩)] w fun e w' => AnyP w' w.heap.size e ∧ DX w' N a len cap zs ∧ w.grownBy w' (some N) := by
  have hlt := h.lt
  have H : Hid (DX w N a len cap zs) := h
  clear h
  go_enter Tryz.func56, Tryz.ntmps56
  go_wp2_with fail
  refine (l2Draw_any H.out).mono ?_
  rintro e w1 ⟨⟨ss, n, g, c, hf, hn, rfl, hown⟩, hd1, hg1⟩
  have HF : Hid (Few 3 ss) := hf
  have HN : Hid (n = ss.length) := hn
  have hn3 : n ≤ 3 := by rw [hn]; exact hf.1
  clear hf hn
  have HD1 : Hid (DX w1 N a len cap zs) := hd1
  have HG1 : Hid (w.grownBy w1 (some N)) := hg1
  clear hd1 hg1
  go_wp2_with fail
  refine (l1BelowX HD1.out 8 (by decide) (by decide)).mono ?_
  rintro e w2 ⟨⟨k, rfl, hk⟩, hd2, hg2⟩
  have hown2 := owns_grown hown hg2 hlt
  have HD2 : Hid (DX w2 N a len cap zs) := hd2
  have HG2 : Hid (w.grownBy w2 (some N)) := grown_trans HG1.out hg2
  clear hd2 hg2 hown
  by_cases hk0 : k = 0
  · subst hk0
    go_wp2_with fail
    refine (strNewX HD2.out oddD _ _ 7 _ rfl rfl rfl (by decide) (by decide) (by decide)).mono ?_
    rintro e w3 ⟨⟨x, rfl, hx⟩, hd3, hg3⟩
    have hown3 := owns_grown hown2 hg3 hlt
    have HD3 : Hid (DX w3 N a len cap zs) := hd3
    have HG3 : Hid (w.grownBy w3 (some N)) := grown_trans HG2.out hg3
    clear hd3 hg3
    have hsz := HG3.out.size
    go_wp2_with (at_builtin; refine wp_append_str rfl _ _ rfl w.heap.size _ n ss rfl (hown3.alloc _) _ x rfl ?c1 ?c2 ?c3 ?_)
    case c1 => simp
    case c2 => omega
    case c3 => simp; omega
    intro g1 cap1 w4 ho4 hb4
    have HD4 : Hid (DX w4 N a len cap zs) := (HD3.out.alloc _).other hb4.size (fun k hk => hb4.block k (by omega))
    have HG4 : Hid (w.grownBy w4 (some N)) := grown_past (grown_alloc HG3.out _) hb4
    go_wp2
    go_ret
    exact ⟨⟨ss ++ [x], n + 1, g1, cap1, (HF.out.snoc hx).mono (by decide), by rw [List.length_append, ← HN.out]; rfl, rfl, ho4⟩, HD4.out, HG4.out⟩
  · have hk0' : ((k : Int) == 0) = false := by apply beq_eq_false_iff_ne.2; omega
    by_cases hk1 : k = 1
    · subst hk1
      clear hk0 hk0'
      go_wp2
      go_loopw [3] (fun v wr => ∃ (ss : List ByteArray) (n g c : Nat), v = .slice (some ⟨g, 0, none⟩) n c ∧ n = ss.length ∧ n ≤ 5 ∧ Few 5 ss ∧ wr.ownsRow w.heap.size 9 1 (.slice (some ⟨g, 0, none⟩) n c) n (strCells ss) ∧ DX wr N a len cap zs ∧ w.grownBy wr (some N)) (fun v _ => 6 - sliceLen v)
      case atStart => exact ⟨ss, n, g, c, rfl, HN.out, by omega, HF.out.mono (by decide), hown2, HD2.out, HG2.out⟩
      case round =>
        obtain ⟨ss2, m, g2, c2, rfl, hm, hm5, hf2, hownr, hd, hg⟩ := hrel
        have HM : Hid (m = ss2.length) := hm
        have HF2 : Hid (Few 5 ss2) := hf2
        have HDr : Hid (DX wr N a len cap zs) := hd
        have HGr : Hid (w.grownBy wr (some N)) := hg
        clear hm hf2 hd hg hown2
        go_wp2_with fail
        refine (l1BelowX HDr.out 2 (by decide) (by decide)).mono ?_
        rintro e w3 ⟨⟨q, rfl, hq⟩, hd3, hg3⟩
        have hown3 := owns_grown hownr hg3 hlt
        have HD3 : Hid (DX w3 N a len cap zs) := hd3
        have HG3 : Hid (w.grownBy w3 (some N)) := grown_trans HGr.out hg3
        clear hd3 hg3
        have hsz := HG3.out.size
        by_cases hmq : (m : Int) < 4 + q
        · go_wp2_with (at_builtin; refine wp_append_str rfl _ _ rfl w.heap.size _ m ss2 rfl (hown3.alloc _) _ ⟨#[113]⟩ rfl ?c1 ?c2 ?c3 ?_)
          case c1 => simp
          case c2 => omega
          case c3 => simp; omega
          intro g1 cap1 w4 ho4 hb4
          have HD4 : Hid (DX w4 N a len cap zs) := (HD3.out.alloc _).other hb4.size (fun k hk => hb4.block k (by omega))
          have HG4 : Hid (w.grownBy w4 (some N)) := grown_past (grown_alloc HG3.out _) hb4
          have hl5 : (ss2 ++ [(⟨#[113]⟩ : ByteArray)]).length ≤ 5 := by rw [List.length_append, ← HM.out]; simp; omega
          have HF5 : Hid (Few 5 (ss2 ++ [(⟨#[113]⟩ : ByteArray)])) := ⟨hl5, (HF2.out.snoc (by decide)).2⟩
          go_wp2
          go_roundw
          case rel => exact ⟨ss2 ++ [⟨#[113]⟩], m + 1, g1, cap1, rfl, by rw [List.length_append, ← HM.out]; rfl, by omega, HF5.out, ho4, HD4.out, HG4.out⟩
          case measure => simp [sliceLen]; omega
        · go_wp2
          go_ret
          exact ⟨⟨ss2, m, g2, c2, HF2.out.mono (by decide), HM.out, rfl, hown3⟩, HD3.out, HG3.out⟩
    · have hk1' : ((k : Int) == 1) = false := by apply beq_eq_false_iff_ne.2; omega
      go_wp2
      go_ret
      exact ⟨⟨ss, n, g, c, HF.out.mono (by decide), HN.out, rfl, hown2⟩, HD2.out, HG2.out⟩
end Go.Proofs.YtifnolomekhmfaaGreat
