/-
  What the specification's Unquote does.
-/
import Derived.Test.YtklhplhjnpdigaaDoorMathUnq
import Derived.Test.YtklhplhjnpdigaaDoorSpecHexOf
import Derived.Test.YtklhplhjnpdigaaDoorAppendB
namespace Go.Proofs.YtklhplhjnpdigaaDoor
open Go.RowKit M
set_option linter.unusedVariables false

theorem ret_unq {l : List UInt8} {b : Bool} {r : List UInt8 × Bool} (h : r = (l, b)) : Ending.returned (.tuple #[.string ⟨l.toArray⟩, .bool b]) = .returned (.tuple #[.string (bytesOf r.1), .bool r.2]) := by subst h; rfl

theorem q_hx {a b : UInt8} (ha : isHex a = true) (hb : isHex b = true) : IntKind.u8.wrap (IntKind.i64.wrap (IntKind.i64.wrap ((hexW a : Int) * 16) + hexW b)) = ((hx a b).toNat : Int) := by
  have h1 := hexW_lt ha
  have h2 := hexW_lt hb
  rw [hx_nat ha hb, IntKind.wrap_i64, IntKind.wrap_i64, IntKind.wrap_u8]
  omega

set_option maxRecDepth 100000 in
set_option maxHeartbeats 4000000 in
theorem specUnquote_any (s : ByteArray) (w : World) (hs : s.size ≤ 1099511627776) :
    Calls Tryd.prog 26 #[.string s] w fun e w' => e = .returned (.tuple #[.string (bytesOf (unqR s.data.toList).1), .bool (unqR s.data.toList).2]) ∧ Below w.heap.size w w' := by
  go_enter Tryd.func26, Tryd.ntmps26
  go_wp2
  go_loopw [4, 5] (fun v i wr => ∃ (k : Nat) (acc : List UInt8), UnqAt s k acc ∧ i = .int .i64 k ∧ wr.ownsRow w.heap.size 5 1 v acc.length (Lib.byteCells acc) ∧ Below w.heap.size w wr) (fun _ i _ => s.size - (intOf i).toNat)
  case atStart => exact ⟨0, [], UnqAt.start s, rfl, World.ownsRow_made w #[] 0 (Nat.le_refl _) (by decide) rfl, (Below.refl _ _).alloc (Nat.le_refl _) _⟩
  case round =>
    obtain ⟨k, acc, hU, rfl, hown, hbe⟩ := hrel
    have HU : Hid (UnqAt s k acc) := hU
    have hks : k ≤ s.size := hU.1
    have hak : acc.length ≤ k := hU.2.1
    clear hU
    by_cases hlt : k < s.size
    · by_cases h37 : s[k] = 37
      · have hb37 : ((s[k].toNat : Int) == 37) = true := by rw [h37]; rfl
        have H37 : Hid (s[k] = 37) := h37
        clear h37
        by_cases hsh : s.size ≤ k + 2
        · have hsh' : (s.size : Int) ≤ (k : Int) + 2 := by omega
          go_wp2
          go_ret2
          exact ⟨ret_unq (HU.out.short hlt H37.out hsh), hbe⟩
        · have h2 : k + 2 < s.size := by omega
          have h2' : (k : Int) + 2 < s.size := by omega
          have h1' : (k : Int) + 1 < s.size := by omega
          have h1 : k + 1 < s.size := by omega
          have hk0 : (0 : Int) ≤ (k : Int) + 1 := by omega
          have hk1 : (0 : Int) ≤ (k : Int) + 2 := by omega
          cases ha : isHex s[k + 1]
          · have hO := hexOf_no ha
            go_wp2_with (go_at_call 40; refine (l1HexOf_any _ _).mono ?_; rintro e w1 ⟨rfl, hw⟩; obtain rfl := hw.symm; rw [hO])
            go_ret2
            exact ⟨ret_unq (HU.out.bad h2 H37.out (by rw [ha]; rfl)), hbe⟩
          · have hO := hexOf_yes ha
            cases hb : isHex s[k + 2]
            · have hP := hexOf_no hb
              go_wp2_with (go_at_call 40; refine (l1HexOf_any _ _).mono ?_; rintro e w1 ⟨rfl, hw⟩; obtain rfl := hw.symm; first | rw [hO] | rw [hP])
              go_ret2
              exact ⟨ret_unq (HU.out.bad h2 H37.out (by rw [ha, hb]; rfl)), hbe⟩
            · have hP := hexOf_yes hb
              have hw1 := hexW_lt ha
              have hw2 := hexW_lt hb
              have HX : Hid (((hx s[k + 1] s[k + 2]).toNat : Int) = (hexW s[k + 1] : Int) * 16 + hexW s[k + 2]) := hx_nat ha hb
              have HN : Hid (UnqAt s (k + 3) (acc ++ [hx s[k + 1] s[k + 2]])) := HU.out.hex h2 H37.out ha hb
              have H1 : Hid (hexOf s[k + 1] = (hexW s[k + 1] : Int)) := hO
              have H2 : Hid (hexOf s[k + 2] = (hexW s[k + 2] : Int)) := hP
              have H3 : Hid (∀ h, hexOf (s[((k : Int) + 1).toNat]'h) = (hexW s[k + 1] : Int)) := by
                have e : ((k : Int) + 1).toNat = k + 1 := by omega
                show ∀ h, hexOf (s[((k : Int) + 1).toNat]'h) = (hexW s[k + 1] : Int)
                intro h; rw [show s[((k : Int) + 1).toNat]'h = s[k + 1] from getElem_congr_idx e]; exact hO
              have H4 : Hid (∀ h, hexOf (s[((k : Int) + 2).toNat]'h) = (hexW s[k + 2] : Int)) := by
                have e : ((k : Int) + 2).toNat = k + 2 := by omega
                show ∀ h, hexOf (s[((k : Int) + 2).toNat]'h) = (hexW s[k + 2] : Int)
                intro h; rw [show s[((k : Int) + 2).toNat]'h = s[k + 2] from getElem_congr_idx e]; exact hP
              clear hO hP
              go_wp2_with (go_at_call 40; refine (l1HexOf_any _ _).mono ?_; rintro e w1 ⟨rfl, hw⟩; obtain rfl := hw.symm; first | rw [H1.out] | rw [H2.out])
              have hi1 : IntKind.i64.wrap ((k : Int) + 1) = (k : Int) + 1 := by rw [IntKind.wrap_i64]; omega
              have hi2 : IntKind.i64.wrap ((k : Int) + 2) = (k : Int) + 2 := by rw [IntKind.wrap_i64]; omega
              go_region_held3 (fun _ => True) (trivial) ((first
                | (go_at_call 40; refine (l1HexOf_any _ _).mono ?_; rintro e w1 ⟨rfl, rfl⟩; first | rw [H1.out] | rw [H2.out] | rw [H3.out] | rw [H4.out])
                | (refine step_append_bytes (by rfl) _ _ (by rfl) w.heap.size _ acc.length 1 acc [hx s[k + 1] s[k + 2]] (by rfl) (by rfl) (by decide) ⟨wr.heap.size, 0, none⟩ (by rfl) (by omega) ?_ ?_ ?_ ?_
                   (exact (hown.alloc _).drew)
                   (intro j hj; match j, hj with | 0, _ => simp [Addr.add]; exact q_hx ha hb)
                   (have := hbe.size; simp; omega)
                   intro gg cap w1 hown1 hb2)))
              all_goals
                clear hi1 hi2
                go_wp2
                go_roundw
                case rel => exact ⟨k + 3, acc ++ [hx s[k + 1] s[k + 2]], HN.out, by go_num, by rw [List.length_append]; exact hown1, ((hbe.alloc hbe.size _).drew).trans hb2⟩
                case measure => simp [intOf]; omega
      · have hb37 : ((s[k].toNat : Int) == 37) = false := by
          cases h : ((s[k].toNat : Int) == 37)
          · rfl
          · exact absurd (u8_37 h) h37
        have HN : Hid (UnqAt s (k + 1) (acc ++ [s[k]])) := HU.out.plain hlt h37
        clear h37
        go_wp2_with (at_builtin; refine wp_append_byte rfl _ _ rfl w.heap.size _ acc.length _ rfl (hown.alloc _) _ s[k] rfl ?c1 ?c2 ?c3 ?_)
        case c1 => simp
        case c2 => omega
        case c3 => have := hbe.size; simp; omega
        intro v1 w1 ho1 hb1
        go_wp2
        go_roundw
        case rel => exact ⟨k + 1, acc ++ [s[k]], HN.out, by go_num, by rw [List.length_append]; exact ho1, (hbe.alloc hbe.size _).trans hb1⟩
        case measure => simp [intOf]; omega
    · have hcv := conv_own hown
      go_wp2
      go_ret2
      exact ⟨ret_unq (HU.out.done hlt), hbe⟩
end Go.Proofs.YtklhplhjnpdigaaDoor
