/-
  What the program's Unquote does.
-/
import Derived.Test.YtklhplhjnpdigaaDoorMathUnq
import Derived.Test.YtklhplhjnpdigaaDoorBld
import Derived.Test.YtklhplhjnpdigaaDoorParseHex
import Derived.Test.YtklhplhjnpdigaaDoorShelf
namespace Go.Proofs.YtklhplhjnpdigaaDoor
open Go.RowKit M
set_option linter.unusedVariables false

theorem ret_unq2 {t : ByteArray} {l : List UInt8} {b : Bool} {r : List UInt8 × Bool} (ht : t = bytesOf l) (h : r = (l, b)) : Ending.returned (.tuple #[.string t, .bool b]) = .returned (.tuple #[.string (bytesOf r.1), .bool r.2]) := by subst h ht; rfl

set_option maxRecDepth 100000 in
set_option maxHeartbeats 4000000 in
theorem unquote_any (s : ByteArray) (w : World) (hs : s.size ≤ 1099511627776) :
    Calls Tryd.prog 39 #[.string s] w fun e w' => e = .returned (.tuple #[.string (bytesOf (unqR s.data.toList).1), .bool (unqR s.data.toList).2]) ∧ Below w.heap.size w w' := by
  go_enter Tryd.func39, Tryd.ntmps39
  go_wp2
  go_loopw [5] (fun i wr => ∃ (k : Nat) (acc : List UInt8), UnqAt s k acc ∧ i = .int .i64 k ∧ Lib.IsBuilder 51 5 w.heap.size w.heap.size (Lib.byteCells acc) wr ∧ Below w.heap.size w wr) (fun i _ => s.size - (intOf i).toNat)
  case atStart => exact ⟨0, [], UnqAt.start s, rfl, Lib.fresh_isBuilder _ _ w, (Below.refl _ _).alloc (Nat.le_refl _) _⟩
  case round =>
    obtain ⟨k, acc, hU, rfl, hI, hbe⟩ := hrel
    have HU : Hid (UnqAt s k acc) := hU
    have hks : k ≤ s.size := hU.1
    have hak : acc.length ≤ k := hU.2.1
    clear hU
    by_cases hlt : k < s.size
    · by_cases h37 : s[k] = 37
      · have hb37 : ((s[k].toNat : Int) == 37) = true := by rw [h37]; rfl
        have H37 : Hid (s[k] = 37) := h37
        clear h37
        by_cases hsh : s.size ≤ k + 2
        · have hsh' : (s.size : Int) - (k : Int) < 3 := by omega
          go_wp2
          go_ret2
          exact ⟨ret_unq2 rfl (HU.out.short hlt H37.out hsh), hbe⟩
        · have h2 : k + 2 < s.size := by omega
          have hsh' : ¬ (s.size : Int) - (k : Int) < 3 := by omega
          have HP : Hid (parseHex (s.extract (k + 1) (k + 3)).data.toList = if (isHex s[k + 1] && isHex s[k + 2]) then ((hexW s[k + 1] : Int) * 16 + hexW s[k + 2], true) else (0, false)) := by
            show parseHex (s.extract (k + 1) (k + 3)).data.toList = _
            rw [extract_two s k h2]; exact parseHex_two _ _
          have hsz : (s.extract (k + 1) (k + 3)).size ≤ maxLen := by rw [ByteArray.size_extract]; unfold maxLen; omega
          cases hx2 : (isHex s[k + 1] && isHex s[k + 2])
          · rw [hx2] at HP
            go_wp2_with fail
            refine (parseHex_any _ wr hsz).mono ?_
            rintro e w1 ⟨rfl, b1⟩
            rw [HP.out]
            go_wp2
            go_ret2
            exact ⟨ret_unq2 rfl (HU.out.bad h2 H37.out hx2), hbe.trans (b1.mono hbe.size)⟩
          · rw [hx2] at HP
            have hx2' := hx2
            rw [Bool.and_eq_true] at hx2'
            obtain ⟨ha, hb⟩ := hx2'
            have hw1 := hexW_lt ha
            have hw2 := hexW_lt hb
            have HX : Hid (((hx s[k + 1] s[k + 2]).toNat : Int) = (hexW s[k + 1] : Int) * 16 + hexW s[k + 2]) := hx_nat ha hb
            have HN : Hid (UnqAt s (k + 3) (acc ++ [hx s[k + 1] s[k + 2]])) := HU.out.hex h2 H37.out ha hb
            go_wp2_with fail
            refine (parseHex_any _ wr hsz).mono ?_
            rintro e w1 ⟨rfl, b1⟩
            rw [HP.out]
            have c1 := hbe.trans (b1.mono hbe.size)
            go_wp2_with fail
            rw [← HX.out]
            refine (writeByte_any w.heap.size w.heap.size acc (hx s[k + 1] s[k + 2]) w1 (bld_below hI b1) (by omega) c1.size).mono ?_
            rintro e w2 ⟨rfl, I2, b2⟩
            go_wp2
            go_roundw
            case rel => exact ⟨k + 3, acc ++ [hx s[k + 1] s[k + 2]], HN.out, by go_num, I2, c1.trans b2⟩
            case measure => simp [intOf]; omega
      · have hb37 : ((s[k].toNat : Int) == 37) = false := by
          cases h : ((s[k].toNat : Int) == 37)
          · rfl
          · exact absurd (u8_37 h) h37
        have HN : Hid (UnqAt s (k + 1) (acc ++ [s[k]])) := HU.out.plain hlt h37
        clear h37
        go_wp2_with fail
        refine (writeByte_any w.heap.size w.heap.size acc s[k] wr hI (by omega) hbe.size).mono ?_
        rintro e w1 ⟨rfl, I1, b1⟩
        go_wp2
        go_roundw
        case rel => exact ⟨k + 1, acc ++ [s[k]], HN.out, by go_num, I1, hbe.trans b1⟩
        case measure => simp [intOf]; omega
    · go_wp2_with fail
      refine (Tryd.Builder_String_any w.heap.size w.heap.size acc wr hI hbe.size).mono ?_
      rintro e w1 ⟨rfl, b1⟩
      go_wp2
      go_ret2
      exact ⟨ret_unq2 rfl (HU.out.done hlt), hbe.trans b1⟩
end Go.Proofs.YtklhplhjnpdigaaDoor
