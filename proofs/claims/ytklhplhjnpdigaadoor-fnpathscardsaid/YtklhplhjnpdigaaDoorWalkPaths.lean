/-
  The walk of the law FnPaths: for every code it returns true, and turns nothing that was there.
-/
import Derived.Test.YtklhplhjnpdigaaDoorDrawPath4
import Derived.Test.YtklhplhjnpdigaaDoorSpecParsePath
import Derived.Test.YtklhplhjnpdigaaDoorSameTexts
import Derived.Test.YtklhplhjnpdigaaDoorIsRow
namespace Go.Proofs.YtklhplhjnpdigaaDoor
open Go.RowKit M
set_option linter.unusedVariables false

set_option maxHeartbeats 400000 in
theorem big_any (a : Option Addr) (len cap : Nat) (w : World) (_hl : len ≤ maxLen) :
    Calls Tryd.prog 4 #[.slice a len cap] w fun e w' => e = .returned (.bool (decide ((1048576 : Int) < len))) ∧ w' = w := by
  unfold maxLen at _hl
  go_enter Tryd.func4, Tryd.ntmps4
  go_wp2
  go_ret
  exact ⟨rfl, rfl⟩

theorem row_len {w : World} {a : Option Addr} {len cap : Nat} {zs : List Int} (h : IsRow .u8 w a len cap zs) : len ≤ maxLen := by
  rcases h with ⟨_, rfl, _, _⟩ | ⟨x, _, hl, hm, _⟩
  · exact Nat.zero_le _
  · omega

theorem few_len {n : Nat} {ss : List ByteArray} (h : Few n ss) (hn : n ≤ 1000) : ss.length ≤ maxLen := by have := h.1; unfold maxLen; omega
theorem short_of_path {ss : List ByteArray} (h : pathB ss = true) : Short ss := fun s hs => by
  have := nameB_size (pathB_all h s hs); unfold maxLen; omega
theorem len_of_path {ss : List ByteArray} (h : pathB ss = true) : ss.length ≤ maxLen := by
  have := pathB_len h; unfold maxLen; omega

theorem own_slice {w : World} {B : Nat} {v : Value} {ns : List ByteArray} (h : OwnS w B v ns) : ∃ g c, v = .slice (some ⟨g, 0, none⟩) ns.length c ∧ Strs w w.heap.size (some ⟨g, 0, none⟩) ns := by
  have h' := h
  obtain ⟨g, c, rfl, _⟩ := h
  exact ⟨g, c, rfl, h'.strs (Nat.le_refl _)⟩

/-- The text of a path is read as that path. -/
theorem parse_back {ss : List ByteArray} (hp : pathB ss = true) (w : World) :
    Calls Tryd.prog 8 #[.string (bytesOf (ptextL ss))] w fun e w' => (∃ g c, e = .returned (.tuple #[.slice (some ⟨g, 0, none⟩) ss.length c, .bool true]) ∧ Strs w' w'.heap.size (some ⟨g, 0, none⟩) ss) ∧ Below w.heap.size w w' := by
  refine (parsePath_any (bytesOf (ptextL ss)) w (by rw [bytesOf_size]; have := ptextL_len (ss := ss); omega)).mono ?_
  rintro e w1 ⟨⟨v, rfl, ho⟩, hb⟩
  have e1 : parseP (bytesOf (ptextL ss)).data.toList = (ss, true) := parseP_text hp
  rw [e1] at ho ⊢
  obtain ⟨g, c, rfl, hs⟩ := own_slice ho
  exact ⟨⟨g, c, rfl, hs⟩, hb⟩

set_option maxRecDepth 100000 in
set_option maxHeartbeats 8000000 in
theorem FnPaths_walk (a : Option Addr) (len cap : Nat) (zs : List Int) (w : World) (hr : IsRow .u8 w a len cap zs) (hL : laidMet Tryd.prog Rows.fnPathsRow.laid w) :
    Calls Tryd.prog 3 #[.slice a len cap] w fun e w' => e = .returned (.bool true) ∧ Below w.heap.size w w' := by
  clear hL
  have hml := row_len hr
  by_cases hb : (1048576 : Int) < (len : Int)
  · clear hr
    go_enter Tryd.func3, Tryd.ntmps3
    go_wp2_with (go_at_call 4; refine (big_any a len cap _ hml).mono ?_; rintro e w1 ⟨rfl, hw⟩; obtain rfl := hw.symm; rw [decide_eq_true hb])
    go_ret
    exact ⟨rfl, Below.refl _ _⟩
  · have HC : Hid (CodeIn w w.heap.size a len zs) := code_of_row hr (by omega)
    clear hr
    go_enter Tryd.func3, Tryd.ntmps3
    go_wp2_with (go_at_call 4; refine (big_any a len cap _ hml).mono ?_; rintro e w1 ⟨rfl, hw⟩; obtain rfl := hw.symm; rw [decide_eq_false hb])
    refine (drawPathText_any HC.out cap).mono ?_
    rintro e w1 ⟨⟨ss, g, c, hf, rfl, hs1⟩, b1⟩
    have l1 := few_len hf (by decide)
    have HSh : Hid (Short ss) := hf.short
    clear hf
    have hT := fun (w2 : World) (hs : Strs w2 w2.heap.size (some ⟨g, 0, none⟩) ss) => pathText_any (some ⟨g, 0, none⟩) ss c w2 hs HSh.out l1
    have hU := fun (w2 : World) (hs : Strs w2 w2.heap.size (some ⟨g, 0, none⟩) ss) => specPathText_any (some ⟨g, 0, none⟩) ss c w2.heap.size w2 hs (Nat.le_refl _) HSh.out l1
    have HBk : Hid (pathB ss = true → ∀ w, Calls Tryd.prog 8 #[.string (bytesOf (ptextL ss))] w fun e w' => (∃ g c, e = .returned (.tuple #[.slice (some ⟨g, 0, none⟩) ss.length c, .bool true]) ∧ Strs w' w'.heap.size (some ⟨g, 0, none⟩) ss) ∧ Below w.heap.size w w') := fun hp w => parse_back hp w
    have HNo : Hid (pathB ss = false → bytesOf (ptextL ss) = bytesOf []) := fun hp => by rw [ptextL_not hp]
    obtain ⟨s, hs⟩ : ∃ s, bytesOf (ptextL ss) = s := ⟨_, rfl⟩
    rw [hs] at hT hU HBk HNo
    clear hs
    have HT : Hid _ := hT
    have HU : Hid _ := hU
    clear hT hU
    go_wp2_with fail
    refine (HT.out w1 hs1).mono ?_
    rintro e w2 ⟨rfl, b2⟩
    have c2 := b1.trans (b2.mono b1.size)
    have HC2 : Hid (CodeIn w2 w.heap.size a len zs) := HC.out.below c2
    have s2 := hs1.below b2 (Nat.le_refl _)
    go_wp2_with fail
    refine (drawParsePath_any HC2.out cap).mono ?_
    rintro e w3 ⟨⟨t, rfl, ht⟩, b3⟩
    have c3 := c2.trans (b3.mono c2.size)
    have z2 := b2.size
    have s3 := s2.below b3 z2
    have hP := parsePath_any t w3 (by omega)
    have hQ := fun w => specParsePath_any t w (by omega)
    have HPa : Hid ((parseP t.data.toList).2 = true → pathB (parseP t.data.toList).1 = true) := parseP_path
    obtain ⟨r, hr⟩ : ∃ r, parseP t.data.toList = r := ⟨_, rfl⟩
    rw [hr] at hP hQ HPa
    clear hr
    obtain ⟨q, is⟩ := r
    have HQ : Hid _ := hQ
    clear hQ
    go_wp2_with fail
    refine hP.mono ?_
    rintro e w4 ⟨⟨v4, rfl, ho4⟩, b4⟩
    obtain ⟨g4, cc4, rfl, u4⟩ := own_slice ho4
    clear hP ho4
    have c4 := c3.trans (b4.mono c3.size)
    have z3 := b3.size
    have s4 := s3.below b4 (by omega)
    go_wp2_with fail
    refine (HQ.out w4).mono ?_
    rintro e w5 ⟨⟨v5, rfl, ho5⟩, b5⟩
    obtain ⟨g5, cc5, rfl, _⟩ := own_slice ho5
    clear ho5 HQ
    have c5 := c4.trans (b5.mono c4.size)
    have z4 := b4.size
    have s5 := s4.below b5 (by omega)
    have u5 := u4.below b5 (Nat.le_refl _)
    have z5 := b5.size
    go_wp2_with fail
    refine (pathOk_any (some ⟨g, 0, none⟩) ss c w5 (s5.mono (by omega)) HSh.out l1).mono ?_
    rintro e w6 ⟨rfl, b6⟩
    have c6 := c5.trans (b6.mono c5.size)
    have s6 := s5.below b6 (by omega)
    have u6 := u5.below b6 (by omega)
    go_wp2_with fail
    refine (specPathOk_any (some ⟨g, 0, none⟩) ss c w1.heap.size w6 s6 HSh.out l1).mono ?_
    rintro e wx ⟨rfl, hw⟩
    obtain rfl := hw.symm
    have z6 := b6.size
    go_wp2_with fail
    refine (HU.out w6 (s6.mono (by omega))).mono ?_
    rintro e w7 ⟨rfl, b7⟩
    have c7 := c6.trans (b7.mono c6.size)
    have s7 := s6.below b7 (by omega)
    have u7 := u6.below b7 (by omega)
    have z7 := b7.size
    cases is
    · go_wp2_with fail
      refine (pathOk_any (some ⟨g, 0, none⟩) ss c w7 (s7.mono (by omega)) HSh.out l1).mono ?_
      rintro e w8 ⟨rfl, b8⟩
      have c8 := c7.trans (b8.mono c7.size)
      have s8 := s7.below b8 (by omega)
      have z8 := b8.size
      cases hp : pathB ss
      · have hs0 := HNo.out hp
        subst hs0
        go_wp2
        go_ret
        exact ⟨ret_bool (by rw [bytesOf_toList]; rfl), c8⟩
      · have hB := HBk.out hp w8
        go_wp2_with fail
        refine hB.mono ?_
        rintro e w9 ⟨⟨gx, cx, rfl, sx⟩, b9⟩
        clear hB
        have c9 := c8.trans (b9.mono c8.size)
        have s9 := s8.below b9 (by omega)
        go_wp2_with fail
        refine (sameTexts_any (some ⟨gx, 0, none⟩) (some ⟨g, 0, none⟩) ss ss cx c _ _ w9 sx s9 l1 l1).mono ?_
        rintro e w10 ⟨rfl, b10⟩
        rw [sameL_refl]
        go_wp2
        go_ret
        exact ⟨rfl, c9.trans (b10 _)⟩
    · have hpq := HPa.out rfl
      have lq := len_of_path hpq
      have HQs : Hid (Short q) := short_of_path hpq
      have HBq : Hid (∀ w, Calls Tryd.prog 8 #[.string (bytesOf (ptextL q))] w fun e w' => (∃ g c, e = .returned (.tuple #[.slice (some ⟨g, 0, none⟩) q.length c, .bool true]) ∧ Strs w' w'.heap.size (some ⟨g, 0, none⟩) q) ∧ Below w.heap.size w w') := fun w => parse_back hpq w
      have HPq : Hid (pathB q = true) := hpq
      have hV := pathText_any (some ⟨g4, 0, none⟩) q cc4 w7 (u7.mono (by omega)) HQs.out lq
      obtain ⟨sq, hsq⟩ : ∃ s, bytesOf (ptextL q) = s := ⟨_, rfl⟩
      rw [hsq] at hV HBq
      clear hsq hpq
      go_wp2_with fail
      refine hV.mono ?_
      rintro e w8 ⟨rfl, b8⟩
      clear hV
      have c8 := c7.trans (b8.mono c7.size)
      have s8 := s7.below b8 (by omega)
      have u8 := u7.below b8 (by omega)
      have z8 := b8.size
      go_wp2_with fail
      refine (HBq.out w8).mono ?_
      rintro e w9 ⟨⟨gq, cq, rfl, sq9⟩, b9⟩
      have c9 := c8.trans (b9.mono c8.size)
      have s9 := s8.below b9 (by omega)
      have u9 := u8.below b9 (by omega)
      have z9 := b9.size
      go_wp2_with fail
      refine (sameTexts_any (some ⟨gq, 0, none⟩) (some ⟨g4, 0, none⟩) q q cq cc4 _ _ w9 sq9 u9 lq lq).mono ?_
      rintro e w10 ⟨rfl, b10⟩
      rw [sameL_refl]
      have c10 := c9.trans (b10 _)
      have s10 := s9.below (b10 w1.heap.size) (Nat.le_refl _)
      have u10 := u9.below (b10 w4.heap.size) (Nat.le_refl _)
      have z10 := (b10 w9.heap.size).size
      go_wp2_with fail
      refine (pathOk_any (some ⟨g4, 0, none⟩) q cc4 w10 (u10.mono (by omega)) HQs.out lq).mono ?_
      rintro e w11 ⟨rfl, b11⟩
      rw [HPq.out]
      have c11 := c10.trans (b11.mono c10.size)
      have s11 := s10.below b11 (by omega)
      have z11 := b11.size
      go_wp2_with fail
      refine (pathOk_any (some ⟨g, 0, none⟩) ss c w11 (s11.mono (by omega)) HSh.out l1).mono ?_
      rintro e w12 ⟨rfl, b12⟩
      have c12 := c11.trans (b12.mono c11.size)
      have s12 := s11.below b12 (by omega)
      have z12 := b12.size
      cases hp : pathB ss
      · have hs0 := HNo.out hp
        subst hs0
        go_wp2
        go_ret
        exact ⟨ret_bool (by rw [bytesOf_toList]; rfl), c12⟩
      · have hB := HBk.out hp w12
        go_wp2_with fail
        refine hB.mono ?_
        rintro e w13 ⟨⟨gx, cx, rfl, sx⟩, b13⟩
        clear hB
        have c13 := c12.trans (b13.mono c12.size)
        have s13 := s12.below b13 (by omega)
        go_wp2_with fail
        refine (sameTexts_any (some ⟨gx, 0, none⟩) (some ⟨g, 0, none⟩) ss ss cx c _ _ w13 sx s13 l1 l1).mono ?_
        rintro e w14 ⟨rfl, b14⟩
        rw [sameL_refl]
        go_wp2
        go_ret
        exact ⟨rfl, c13.trans (b14 _)⟩
end Go.Proofs.YtklhplhjnpdigaaDoor
