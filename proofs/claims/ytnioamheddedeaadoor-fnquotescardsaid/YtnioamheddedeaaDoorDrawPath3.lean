/-
  The draws of names and of two paths: whatever is drawn, it is few and short.
-/
import Derived.Test.YtnioamheddedeaaDoorDrawPath2
namespace Go.Proofs.YtnioamheddedeaaDoor
open Go.RowKit M
set_option linter.unusedVariables false

theorem onceX {w : World} {N : Nat} {a : Option Addr} {len cap : Nat} {zs : List Int} (h : DX w N a len cap zs) :
    Calls Tryd.prog 48 #[.pointer (some ⟨N, 0, none⟩), .int .i64 2] w fun e w' => (∃ b : Bool, e = .returned (.bool b)) ∧ DX w' N a len cap zs ∧ w.grownBy w' (some N) := by
  obtain ⟨c, h⟩ := h
  refine (l1Once_any N a len cap zs c 2 w h.cur h.code h.bN h.hlen (by decide) (by decide)).mono ?_
  rintro e w1 ⟨rfl, hc1, hg1⟩
  exact ⟨⟨_, rfl⟩, ⟨_, h.grown hg1 hc1⟩, hg1⟩

set_option maxHeartbeats 1000000 in
theorem drawNameOk_any {w : World} {B : Nat} {a : Option Addr} {len : Nat} {zs : List Int} (h : CodeIn w B a len zs) (cap : Nat) :
    Calls Tryd.prog 21 #[.slice a len cap] w fun e w' => (∃ s : ByteArray, e = .returned (.string s) ∧ s.size ≤ 20) ∧ Below w.heap.size w w' := by
  have H : Hid (CodeIn w B a len zs) := h
  clear h
  go_enter Tryd.func21, Tryd.ntmps21
  go_wp2_with fail
  refine (newDX H.out cap).mono ?_
  rintro e w1 ⟨rfl, hd1, hb1⟩
  have H1 : Hid (DX w1 w.heap.size a len cap zs) := hd1
  clear hd1
  go_wp2_with fail
  refine (l2Any_any H1.out).mono ?_
  rintro e w2 ⟨⟨ss, n, g, c, hf, hn, rfl, hown⟩, _, hg2⟩
  have HF : Hid (Few 6 ss) := hf
  have HN : Hid (n = ss.length) := hn
  have hn6 : n ≤ 6 := by rw [hn]; exact hf.1
  have HG : Hid (w1.grownBy w2 (some w.heap.size)) := hg2
  have hsz := hg2.size
  clear hf hn hg2
  go_wp2_with (at_builtin; refine wp_append_str rfl _ _ rfl w1.heap.size _ n ss rfl (hown.alloc _) _ ⟨#[122]⟩ rfl ?c1 ?c2 ?c3 ?_)
  case c1 => simp
  case c2 => omega
  case c3 => simp; omega
  intro g1 cap1 w3 ho3 hb3
  have hlen0 : 0 < (ss ++ [(⟨#[122]⟩ : ByteArray)]).length := by simp
  have hc0 : w3.cell? ⟨g1, 0, none⟩ = some (.string ((ss ++ [(⟨#[122]⟩ : ByteArray)])[0])) := by
    rw [ho3.cellAt 0 (by omega)]
    unfold strCells
    rw [List.getElem?_map, List.getElem?_eq_getElem hlen0]
    rfl
  have HX : Hid (((ss ++ [(⟨#[122]⟩ : ByteArray)])[0]).size ≤ 20) := (HF.out.snoc (by decide)).2 _ (List.getElem_mem hlen0)
  obtain ⟨x, hx⟩ : ∃ x, (ss ++ [(⟨#[122]⟩ : ByteArray)])[0] = x := ⟨_, rfl⟩
  rw [hx] at hc0 HX
  clear hx
  have hbe : Below w.heap.size w w3 := (dc_below hb1 (grown_past (grown_alloc HG.out _) hb3))
  have HB : Hid (Below w.heap.size w w3) := hbe
  clear hbe hb3
  go_wp2
  go_ret
  exact ⟨⟨x, rfl, HX.out⟩, HB.out⟩

/-- Two lists of few short texts. -/
def TwoP (w' : World) (e : Ending) : Prop := ∃ (ss tt : List ByteArray) (g n c m c2 : Nat) (a2 : Option Addr), Few 6 ss ∧ Few 6 tt ∧ n = ss.length ∧ m = tt.length ∧ n ≤ c ∧ c ≤ maxLen ∧ e = .returned (.tuple #[.slice (some ⟨g, 0, none⟩) n c, .slice a2 m c2]) ∧ Strs w' w'.heap.size (some ⟨g, 0, none⟩) ss ∧ Strs w' w'.heap.size a2 tt

theorem owns_cap {w : World} {B g n c : Nat} {xs : List Value} (h : w.ownsRow B 9 1 (.slice (some ⟨g, 0, none⟩) n c) n xs) : n ≤ c ∧ c ≤ maxLen := by
  rcases h.2 with ⟨e, _⟩ | ⟨g', cap', cur, hv, _, _, h1, h2, _⟩
  · cases e
  · cases hv; exact ⟨h1, h2⟩
theorem owns_strs {w : World} {B g n c : Nat} {ss : List ByteArray} (h : w.ownsRow B 9 1 (.slice (some ⟨g, 0, none⟩) n c) n (strCells ss)) (hn : n = ss.length) : Strs w w.heap.size (some ⟨g, 0, none⟩) ss := (OwnS.of h hn.symm).strs (Nat.le_refl _)

theorem few_take {n k : Nat} {ss : List ByteArray} (h : Few n ss) : Few n (ss.take k) := ⟨by have := h.1; rw [List.length_take]; omega, fun s hs => h.2 s (List.mem_of_mem_take hs)⟩

set_option maxRecDepth 100000 in
set_option maxHeartbeats 2000000 in
theorem drawUnder_any {w : World} {B : Nat} {a : Option Addr} {len : Nat} {zs : List Int} (h : CodeIn w B a len zs) (cap : Nat) :
    Calls Tryd.prog 22 #[.slice a len cap] w fun e w' => TwoP w' e ∧ Below w.heap.size w w' := by
  have H : Hid (CodeIn w B a len zs) := h
  clear h
  go_enter Tryd.func22, Tryd.ntmps22
  go_wp2_with fail
  refine (newDX H.out cap).mono ?_
  rintro e w1 ⟨rfl, hd1, hb1⟩
  have hlt1 := hd1.lt
  have H1 : Hid (DX w1 w.heap.size a len cap zs) := hd1
  clear hd1
  go_wp2_with fail
  refine (l2Any_any H1.out).mono ?_
  rintro e w2 ⟨⟨ss, n, g, c, hf, hn, rfl, hown⟩, hd2, hg2⟩
  have HF : Hid (Few 6 ss) := hf
  have HN : Hid (n = ss.length) := hn
  have hn6 : n ≤ 6 := by rw [hn]; exact hf.1
  have HD2 : Hid (DX w2 w.heap.size a len cap zs) := hd2
  have HG2 : Hid (w1.grownBy w2 (some w.heap.size)) := hg2
  have hcap := owns_cap hown
  have hcm := hcap.2
  unfold maxLen at hcm
  clear hf hn hg2 hd2
  go_wp2_with fail
  refine (onceX HD2.out).mono ?_
  rintro e w3 ⟨⟨b, rfl⟩, hd3, hg3⟩
  have hown3 := owns_grown hown hg3 hlt1
  have HD3 : Hid (DX w3 w.heap.size a len cap zs) := hd3
  have HG3 : Hid (w1.grownBy w3 (some w.heap.size)) := grown_trans HG2.out hg3
  clear hd3 hg3 hown
  cases b
  · go_wp2_with fail
    refine (l2Any_any HD3.out).mono ?_
    rintro e w4 ⟨⟨tt, m, g4, c4, hf4, hn4, rfl, hown4⟩, _, hg4⟩
    have hown5 := owns_grown hown3 hg4 hlt1
    have HG4 : Hid (w1.grownBy w4 (some w.heap.size)) := grown_trans HG3.out hg4
    clear hg4
    have HT : Hid (TwoP w4 (.returned (.tuple #[.slice (some ⟨g, 0, none⟩) n c, .slice (some ⟨g4, 0, none⟩) m c4]))) := ⟨ss, tt, g, n, c, m, c4, _, HF.out, hf4, HN.out, hn4, hcap.1, hcap.2, rfl, owns_strs hown5 HN.out, owns_strs hown4 hn4⟩
    clear hf4 hn4
    go_wp2
    go_ret2
    exact ⟨HT.out, dc_below hb1 HG4.out⟩
  · have hnc : (n : Int) ≤ (c : Int) := by have := hcap.1; omega
    have hi : IntKind.i64.wrap ((n : Int) + 1) = (n : Int) + 1 := by rw [IntKind.wrap_i64]; omega
    go_wp2
    go_region_held3 (fun _ => True) (trivial) ((go_at_call 34; refine (l1BelowX (w := w3.drew) (HD3.out.other (w' := w3.drew) (Nat.le_refl _) (fun _ _ => rfl)) ((n : Int) + 1) (by omega) (by omega)).mono ?_; rintro e w4 ⟨⟨k, rfl, hk⟩, _, hg4⟩; (have q1 : (0 : Int) ≤ (k : Int) := (by omega)); (have q2 : (k : Int) ≤ (c : Int) := (by omega))))
    all_goals
      have hown5 := owns_grown (w := w3.drew) hown3 hg4 hlt1
      have h3 := HG3.out
      have h3d : w1.grownBy w3.drew (some w.heap.size) := ⟨h3.os, h3.tape, h3.output, h3.size, h3.block⟩
      have HG4 : Hid (w1.grownBy w4 (some w.heap.size)) := grown_trans h3d hg4
      clear hg4 h3 h3d
      have hkn : k ≤ n := by omega
      have hst := owns_strs hown5 HN.out
      have HT : Hid (TwoP w4 (.returned (.tuple #[.slice (some ⟨g, 0, none⟩) n c, .slice (some ⟨g, 0, none⟩) k c]))) := ⟨ss, ss.take k, g, n, c, k, c, _, HF.out, few_take HF.out, HN.out, by rw [List.length_take, ← HN.out]; omega, hcap.1, hcap.2, rfl, hst, hst.take k⟩
      clear hst hown5
      go_wp2
      go_ret2
      exact ⟨HT.out, dc_below hb1 HG4.out⟩

/-- 'append([]string{}, p...)': the same texts, in a new row. -/
theorem wp_append_all {w : World} {ops : Array Oper} {rest : List Oper} {o : Oper} {a : Act} {Q : Exit → Act → World → Prop} (hgd : o.guard = none) (s x : Operand)
    (ho : o.op = .call { callee := .builtin .append, args := #[s, x], argTypes := #[24, 24] })
    (B : Nat) (v : Value) (l : List ByteArray) (n : Nat) (hn : n = l.length) (hs : a.eval s = v) (hown : w.ownsRow B 9 1 v 0 (strCells []))
    (g c : Nat) (hx : a.eval x = .slice (some ⟨g, 0, none⟩) n c) (hcell : ∀ j (hj : j < l.length), w.cell? ⟨g, j, none⟩ = some (.string l[j])) (hlen : n ≤ 1099511627776) (hB : B ≤ w.heap.size)
    (h : ∀ v' w', w'.ownsRow B 9 1 v' n (strCells l) → Below B w w' → wpList Tryd.prog ops Q rest (a.put o.dst v') w') : wpList Tryd.prog ops Q (o :: rest) a w := by
  obtain ⟨i0, hi, hz0, hz1, hz2⟩ := info_parts info_str
  refine wpList_append_own w hgd s x 24 ho B 9 i0 (.string ByteArray.empty) 1 16 Tryd.underlying24 hi hz0 hz1 hz2 rfl (by decide) v 0 _ hs hown ⟨g, 0, none⟩ n c (strCells l) hx (by rw [strCells_length, hn, Nat.mul_one]) ?_ ?_ ?_ ?_ hB ?_
  · intro j u hj
    have hjl : j < l.length := by have := (List.getElem?_eq_some_iff.1 hj).1; rwa [strCells_length] at this
    have e : (⟨g, 0, none⟩ : Addr).add j = ⟨g, j, none⟩ := by unfold Addr.add; split <;> simp_all
    rw [e, hcell j hjl]
    unfold strCells at hj
    rw [List.getElem?_map, List.getElem?_eq_getElem hjl] at hj
    exact hj
  · intro u hu
    unfold strCells at hu
    obtain ⟨y, _, rfl⟩ := List.mem_map.1 hu
    rfl
  · unfold maxLen; omega
  · omega
  · intro v' w' ho' hg _
    refine h v' w' ?_ (below_grown hown hB hg)
    rw [Nat.zero_add] at ho'
    exact ho'

set_option maxRecDepth 100000 in
set_option maxHeartbeats 2000000 in
theorem drawSamePath_any {w : World} {B : Nat} {a : Option Addr} {len : Nat} {zs : List Int} (h : CodeIn w B a len zs) (cap : Nat) :
    Calls Tryd.prog 23 #[.slice a len cap] w fun e w' => TwoP w' e ∧ Below w.heap.size w w' := by
  have H : Hid (CodeIn w B a len zs) := h
  clear h
  go_enter Tryd.func23, Tryd.ntmps23
  go_wp2_with fail
  refine (newDX H.out cap).mono ?_
  rintro e w1 ⟨rfl, hd1, hb1⟩
  have hlt1 := hd1.lt
  have H1 : Hid (DX w1 w.heap.size a len cap zs) := hd1
  clear hd1
  go_wp2_with fail
  refine (l2Any_any H1.out).mono ?_
  rintro e w2 ⟨⟨ss, n, g, c, hf, hn, rfl, hown⟩, hd2, hg2⟩
  have HF : Hid (Few 6 ss) := hf
  have HN : Hid (n = ss.length) := hn
  have hn6 : n ≤ 6 := by rw [hn]; exact hf.1
  have HD2 : Hid (DX w2 w.heap.size a len cap zs) := hd2
  have HG2 : Hid (w1.grownBy w2 (some w.heap.size)) := hg2
  have hcap := owns_cap hown
  clear hf hn hg2 hd2
  go_wp2_with fail
  refine (onceX HD2.out).mono ?_
  rintro e w3 ⟨⟨b, rfl⟩, hd3, hg3⟩
  have hown3 := owns_grown hown hg3 hlt1
  have HD3 : Hid (DX w3 w.heap.size a len cap zs) := hd3
  have HG3 : Hid (w1.grownBy w3 (some w.heap.size)) := grown_trans HG2.out hg3
  clear hd3 hg3 hown
  cases b
  · go_wp2_with fail
    refine (l2Any_any HD3.out).mono ?_
    rintro e w4 ⟨⟨tt, m, g4, c4, hf4, hn4, rfl, hown4⟩, _, hg4⟩
    have hown5 := owns_grown hown3 hg4 hlt1
    have HG4 : Hid (w1.grownBy w4 (some w.heap.size)) := grown_trans HG3.out hg4
    clear hg4
    have HT : Hid (TwoP w4 (.returned (.tuple #[.slice (some ⟨g, 0, none⟩) n c, .slice (some ⟨g4, 0, none⟩) m c4]))) := ⟨ss, tt, g, n, c, m, c4, _, HF.out, hf4, HN.out, hn4, hcap.1, hcap.2, rfl, owns_strs hown5 HN.out, owns_strs hown4 hn4⟩
    clear hf4 hn4
    go_wp2
    go_ret2
    exact ⟨HT.out, dc_below hb1 HG4.out⟩
  · have hOS := OwnS.of hown3 HN.out.symm
    have hcells : ∀ j (hj : j < ss.length), w3.cell? ⟨g, j, none⟩ = some (.string ss[j]) := fun j hj => by
      rw [hown3.cellAt j (by rw [HN.out]; omega)]
      unfold strCells
      rw [List.getElem?_map, List.getElem?_eq_getElem hj]; rfl
    have hgl := (hown3.lt g rfl).2
    have hsz3 := HG3.out.size
    go_wp2_with (at_builtin; refine wp_append_all rfl _ _ rfl w3.heap.size _ ss n HN.out rfl (World.ownsRow_made w3 #[] 0 (Nat.le_refl _) (by decide) rfl) g c rfl ?c1 ?c2 ?c3 ?_)
    case c1 => intro j hj; rw [World.cell?_alloc_past _ g j hgl]; exact hcells j hj
    case c2 => omega
    case c3 => simp
    intro v' w4 ho4 hb4
    clear hcells
    obtain ⟨a2, c2, rfl, hst2⟩ : ∃ a2 c2, v' = .slice a2 n c2 ∧ Strs w4 w4.heap.size a2 ss := by
      rcases ho4.2 with ⟨e, h0⟩ | ⟨g', cap', cur, hv, _⟩
      · have hs0 : ss = [] := List.length_eq_zero_iff.1 (by rw [← HN.out]; exact h0)
        subst hs0
        exact ⟨none, 0, by rw [e, h0], fun h => absurd h (Nat.lt_irrefl _)⟩
      · subst hv
        exact ⟨_, _, rfl, owns_strs ho4 HN.out⟩
    have hown4 := owns_below (w := w3) (w' := w4) hown3 (((Below.refl _ _).alloc (Nat.le_refl _) _).trans hb4)
    have HT : Hid (TwoP w4 (.returned (.tuple #[.slice (some ⟨g, 0, none⟩) n c, .slice a2 n c2]))) := ⟨ss, ss, g, n, c, n, c2, a2, HF.out, HF.out, HN.out, HN.out, hcap.1, hcap.2, rfl, owns_strs hown4 HN.out, hst2⟩
    have HB4 : Hid (Below w.heap.size w w4) := (dc_below hb1 HG3.out).trans ((((Below.refl w3.heap.size w3).alloc (Nat.le_refl _) _).trans hb4).mono (Nat.le_trans hb1.size hsz3))
    clear hst2 hown4 hb4 ho4
    go_wp2
    go_ret2
    exact ⟨HT.out, HB4.out⟩
end Go.Proofs.YtnioamheddedeaaDoor
