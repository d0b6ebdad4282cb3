/-
  What the program's sortHeads does: three rows of heads, each its own.
-/
import Derived.Test.YtcgmokjnjmefpaaGreatDoorRowsH
import Derived.Test.YtcgmokjnjmefpaaGreatDoorMathCutB
import Derived.Test.YtcgmokjnjmefpaaGreatDoorMathReqs
import Derived.Test.YtcgmokjnjmefpaaGreatDoorSpecSm
import Derived.Laws.Append
import Derived.Laws.AppendOwn
namespace Go.Proofs.YtcgmokjnjmefpaaGreatDoor
open Go.RowKit M
set_option linter.unusedVariables false

/-- What stands in the three rows when k heads are sorted. -/
def SortI (w : World) (hs : List Hd) (k : Nat) (v1 v2 v3 : Value) (W : World) : Prop :=
  RowsH W w.heap.size v1 (lensOf (hs.take k)) ∧ RowsH W w.heap.size v2 (codsOf (hs.take k)) ∧ RowsH W w.heap.size v3 (othOf (hs.take k)) ∧ ApartV v1 v2 ∧ ApartV v1 v3 ∧ ApartV v2 v3 ∧ Below w.heap.size w W
theorem SortI.next {w W W' : World} {hs : List Hd} {k : Nat} {v1 v2 v3 : Value} (h : SortI w hs k v1 v2 v3 W) (hb : Below W.heap.size W W') : SortI w hs k v1 v2 v3 W' := by
  obtain ⟨h1, h2, h3, h4, h5, h6, h7⟩ := h
  exact ⟨ownsH_below h1 hb, ownsH_below h2 hb, ownsH_below h3 hb, h4, h5, h6, h7.trans (hb.mono h7.size)⟩
theorem lens_le (hs : List Hd) : (lensOf hs).length ≤ hs.length := List.length_filter_le _ _
theorem cods_le (hs : List Hd) : (codsOf hs).length ≤ hs.length := List.length_filter_le _ _
theorem oth_le (hs : List Hd) : (othOf hs).length ≤ hs.length := List.length_filter_le _ _
theorem sort_len {hs : List Hd} {k : Nat} (hk : k < hs.length) (h : hs[k].1 = lenName) : lensOf (hs.take (k + 1)) = lensOf (hs.take k) ++ [hs[k]] ∧ codsOf (hs.take (k + 1)) = codsOf (hs.take k) ∧ othOf (hs.take (k + 1)) = othOf (hs.take k) := by
  rw [List.take_succ_eq_append_getElem hk]
  have hne : ¬ lenName = codName := by decide
  simp only [lensOf, codsOf, othOf, List.filter_append]
  simp [h, hne]
theorem sort_cod {hs : List Hd} {k : Nat} (hk : k < hs.length) (h0 : ¬ hs[k].1 = lenName) (h : hs[k].1 = codName) : lensOf (hs.take (k + 1)) = lensOf (hs.take k) ∧ codsOf (hs.take (k + 1)) = codsOf (hs.take k) ++ [hs[k]] ∧ othOf (hs.take (k + 1)) = othOf (hs.take k) := by
  rw [List.take_succ_eq_append_getElem hk]
  simp only [lensOf, codsOf, othOf, List.filter_append]
  simp [h]
  rw [h] at h0
  exact h0
theorem sort_oth {hs : List Hd} {k : Nat} (hk : k < hs.length) (h0 : ¬ hs[k].1 = lenName) (h : ¬ hs[k].1 = codName) : lensOf (hs.take (k + 1)) = lensOf (hs.take k) ∧ codsOf (hs.take (k + 1)) = codsOf (hs.take k) ∧ othOf (hs.take (k + 1)) = othOf (hs.take k) ++ [hs[k]] := by
  rw [List.take_succ_eq_append_getElem hk]
  simp only [lensOf, codsOf, othOf, List.filter_append]
  simp [h0, h]

set_option maxRecDepth 100000 in
set_option maxHeartbeats 4000000 in
theorem sortHeads_any (a : Option Addr) (hs : List Hd) (cap B : Nat) (w : World) (h : Hds w B a hs) (hB : B ≤ w.heap.size) (hl : hs.length ≤ 1048576) :
    Calls Tryz.prog 57 #[.slice a hs.length cap] w fun e w' => (∃ v1 v2 v3, e = .returned (.tuple #[v1, v2, v3]) ∧ RowsH w' w.heap.size v1 (lensOf hs) ∧ RowsH w' w.heap.size v2 (codsOf hs) ∧ RowsH w' w.heap.size v3 (othOf hs)) ∧ Below w.heap.size w w' := by
  have HH := hide h
  clear h
  go_enter Tryz.func57, Tryz.ntmps57
  go_wp2
  go_loopw [2, 3, 4, 9] (fun v1 v2 v3 i wr => ∃ k : Nat, k ≤ hs.length ∧ i = .int .i64 k ∧ SortI w hs k v1 v2 v3 wr) (fun _ _ _ i _ => hs.length - (intOf i).toNat)
  case atStart => exact ⟨0, Nat.zero_le _, rfl, World.ownsRow_nil _ _ _ _, World.ownsRow_nil _ _ _ _, World.ownsRow_nil _ _ _ _, .inl rfl, .inl rfl, .inl rfl, Below.refl _ _⟩
  case round =>
    obtain ⟨k, hk, rfl, hS⟩ := hrel
    by_cases hlt : k < hs.length
    · obtain ⟨b, o, rfl, hb, hc⟩ := HH.out.below hS.2.2.2.2.2.2 hB (by omega)
      have hcx := (hc k hlt).1
      have hcy := (hc k hlt).2
      obtain ⟨x, hx⟩ : ∃ x, hs[k].1 = x := ⟨_, rfl⟩
      obtain ⟨y, hy⟩ : ∃ y, hs[k].2 = y := ⟨_, rfl⟩
      rw [hx] at hcx
      rw [hy] at hcy
      have HE : Hid (hs[k] = (x, y)) := by show hs[k] = (x, y); rw [← hx, ← hy]
      have ba : Below wr.heap.size wr (wr.alloc (Obj.cells #[.string x, .string y] 92)) := (Below.refl _ _).alloc (Nat.le_refl _) _
      have HS1 := hide (hS.next ba)
      have HT1 := hide (tellsLength_any x y (wr.alloc (Obj.cells #[.string x, .string y] 92)))
      have BH1 := hide (BoxH.made wr x y 92)
      clear hc hS ba
      by_cases hlen : x = lenName
      · have HSt := hide (sort_len hlt (by rw [hx]; exact hlen))
        rw [decide_eq_true hlen] at HT1
        clear hx hy hlen
        go_wp2_with fail
        refine HT1.out.mono ?_
        rintro e w1 ⟨rfl, b1⟩
        have hS2 := HS1.out.next b1
        have BH2 := hide (BH1.out.next b1)
        obtain ⟨hl2, q0, q1⟩ := BH2.out
        clear HT1 HS1 BH1 b1
        have ba := (Below.refl w1.heap.size w1).alloc (Nat.le_refl _) (Obj.cells #[Value.string x, Value.string y] 92)
        obtain ⟨r1, r2, r3, a12, a13, a23, hbe⟩ := hS2.next ba
        have BN := BoxH.made w1 x y 92
        have hle := lens_le (hs.take k)
        rw [List.length_take] at hle
        go_wp2_with (at_builtin; refine wp_append_head2 rfl _ _ rfl w.heap.size u2 _ (lensOf (hs.take k)) rfl r1 w1.heap.size (x, y) rfl BN.2.1 BN.2.2 ?c1 ?c2 ?_)
        case c1 => omega
        case c2 => exact hbe.size
        intro g cp w3 ho3 hg3 hw3'
        have hw3 : _ ∨ g = _ := hw3'.imp id (fun e => e.trans (World.size_alloc _ (Obj.cells #[Value.string x, Value.string y] 92)).symm)
        have R2 := r2.kept a12 hg3
        have R3 := r3.kept a13 hg3
        have R1 : RowsH w3 w.heap.size (.slice (some ⟨g, 0, none⟩) ((lensOf (hs.take k)).length + 1) cp) (lensOf (hs.take (k + 1))) := by
          unfold RowsH
          rw [HSt.out.1, HE.out, List.length_append]
          exact ho3
        have B3 := hbe.trans (belowH_grown r1 hbe.size hg3)
        have HF : Hid (SortI w hs (k + 1) (.slice (some ⟨g, 0, none⟩) ((lensOf (hs.take k)).length + 1) cp) u3 u4 w3) := ⟨R1, by rw [HSt.out.2.1]; exact R2, by rw [HSt.out.2.2]; exact R3, a12.grown r2 hw3, a13.grown r3 hw3, a23, B3⟩
        clear R1 R2 R3 B3 r1 r2 r3 ho3 hg3 hw3 hbe ba hS2 BN q0 q1
        go_wp2
        go_roundw
        case rel => exact ⟨k + 1, by omega, by go_num, HF.out⟩
        case measure => simp [intOf]; omega
      · rw [decide_eq_false hlen] at HT1
        go_wp2_with fail
        refine HT1.out.mono ?_
        rintro e w1 ⟨rfl, b1⟩
        have HS2 := hide (HS1.out.next b1)
        have BH2 := hide (BH1.out.next b1)
        obtain ⟨hl2, q0, q1⟩ := BH2.out
        have HT2 := hide (tellsCoding_any x y w1)
        clear HT1 HS1 BH1 b1
        by_cases hcod : x = codName
        · have HSt := hide (sort_cod hlt (by rw [hx]; exact hlen) (by rw [hx]; exact hcod))
          rw [decide_eq_true hcod] at HT2
          clear hx hy hlen hcod
          go_wp2_with fail
          refine HT2.out.mono ?_
          rintro e w2 ⟨rfl, b2⟩
          have hS3 := HS2.out.next b2
          have BH3 := hide (BH2.out.next b2)
          obtain ⟨hl3, p0, p1⟩ := BH3.out
          clear HT2 HS2 BH2 b2 q0 q1
          have ba := (Below.refl w2.heap.size w2).alloc (Nat.le_refl _) (Obj.cells #[Value.string x, Value.string y] 92)
          obtain ⟨r1, r2, r3, a12, a13, a23, hbe⟩ := hS3.next ba
          have BN := BoxH.made w2 x y 92
          have hle := cods_le (hs.take k)
          rw [List.length_take] at hle
          go_wp2_with (at_builtin; refine wp_append_head2 rfl _ _ rfl w.heap.size u3 _ (codsOf (hs.take k)) rfl r2 w2.heap.size (x, y) rfl BN.2.1 BN.2.2 ?c1 ?c2 ?_)
          case c1 => omega
          case c2 => exact hbe.size
          intro g cp w3 ho3 hg3 hw3'
          have hw3 : _ ∨ g = _ := hw3'.imp id (fun e => e.trans (World.size_alloc _ (Obj.cells #[Value.string x, Value.string y] 92)).symm)
          have R1 := r1.kept a12.symm hg3
          have R3 := r3.kept a23 hg3
          have R2 : RowsH w3 w.heap.size (.slice (some ⟨g, 0, none⟩) ((codsOf (hs.take k)).length + 1) cp) (codsOf (hs.take (k + 1))) := by
            unfold RowsH
            rw [HSt.out.2.1, HE.out, List.length_append]
            exact ho3
          have B3 := hbe.trans (belowH_grown r2 hbe.size hg3)
          have HF : Hid (SortI w hs (k + 1) u2 (.slice (some ⟨g, 0, none⟩) ((codsOf (hs.take k)).length + 1) cp) u4 w3) := ⟨by rw [HSt.out.1]; exact R1, R2, by rw [HSt.out.2.2]; exact R3, (a12.symm.grown r1 hw3).symm, a13, a23.grown r3 hw3, B3⟩
          clear R1 R2 R3 B3 r1 r2 r3 ho3 hg3 hw3 hbe ba hS3 BN p0 p1
          go_wp2
          go_roundw
          case rel => exact ⟨k + 1, by omega, by go_num, HF.out⟩
          case measure => simp [intOf]; omega
        · have HSt := hide (sort_oth hlt (by rw [hx]; exact hlen) (by rw [hx]; exact hcod))
          rw [decide_eq_false hcod] at HT2
          clear hx hy hlen hcod
          go_wp2_with fail
          refine HT2.out.mono ?_
          rintro e w2 ⟨rfl, b2⟩
          have hS3 := HS2.out.next b2
          have BH3 := hide (BH2.out.next b2)
          obtain ⟨hl3, p0, p1⟩ := BH3.out
          clear HT2 HS2 BH2 b2 q0 q1
          have ba := (Below.refl w2.heap.size w2).alloc (Nat.le_refl _) (Obj.cells #[Value.string x, Value.string y] 92)
          obtain ⟨r1, r2, r3, a12, a13, a23, hbe⟩ := hS3.next ba
          have BN := BoxH.made w2 x y 92
          have hle := oth_le (hs.take k)
          rw [List.length_take] at hle
          go_wp2_with (at_builtin; refine wp_append_head2 rfl _ _ rfl w.heap.size u4 _ (othOf (hs.take k)) rfl r3 w2.heap.size (x, y) rfl BN.2.1 BN.2.2 ?c1 ?c2 ?_)
          case c1 => omega
          case c2 => exact hbe.size
          intro g cp w3 ho3 hg3 hw3'
          have hw3 : _ ∨ g = _ := hw3'.imp id (fun e => e.trans (World.size_alloc _ (Obj.cells #[Value.string x, Value.string y] 92)).symm)
          have R1 := r1.kept a13.symm hg3
          have R2 := r2.kept a23.symm hg3
          have R3 : RowsH w3 w.heap.size (.slice (some ⟨g, 0, none⟩) ((othOf (hs.take k)).length + 1) cp) (othOf (hs.take (k + 1))) := by
            unfold RowsH
            rw [HSt.out.2.2, HE.out, List.length_append]
            exact ho3
          have B3 := hbe.trans (belowH_grown r3 hbe.size hg3)
          have HF : Hid (SortI w hs (k + 1) u2 u3 (.slice (some ⟨g, 0, none⟩) ((othOf (hs.take k)).length + 1) cp) w3) := ⟨by rw [HSt.out.1]; exact R1, by rw [HSt.out.2.1]; exact R2, R3, a12, (a13.symm.grown r1 hw3).symm, (a23.symm.grown r2 hw3).symm, B3⟩
          clear R1 R2 R3 B3 r1 r2 r3 ho3 hg3 hw3 hbe ba hS3 BN p0 p1
          go_wp2
          go_roundw
          case rel => exact ⟨k + 1, by omega, by go_num, HF.out⟩
          case measure => simp [intOf]; omega
    · obtain ⟨r1, r2, r3, _, _, _, hbe⟩ := hS
      rw [List.take_of_length_le (by omega)] at r1 r2 r3
      go_wp2
      refine bodyPost_ret (v := .tuple #[u2, u3, u4]) (by simp [results, Tryz.results57, go_sem]) rfl ?_
      exact ⟨⟨_, _, _, rfl, r1, r2, r3⟩, hbe⟩
end Go.Proofs.YtcgmokjnjmefpaaGreatDoor
