/-
  What the program's headOk does.
  What the program's Lower does.
-/
import Derived.Test.YtnoijfnpchihoaaGreatDoorRowsH
import Derived.Test.YtnoijfnpchihoaaGreatDoorPlain
import Derived.Test.YtnoijfnpchihoaaGreatDoorMathPutC
import Derived.Deep.RegionWith
import Derived.Test.YtnoijfnpchihoaaGreatDoorOwnStrs
import Derived.Test.YtnoijfnpchihoaaGreatDoorSpecPl
import Derived.Lib.ConvBytes
namespace Go.Proofs.YtnoijfnpchihoaaGreatDoor
open Go.RowKit M
set_option linter.unusedVariables false

theorem below_drew0 {w w' : World} {C : Nat} (h : Below C w w') : Below C w w'.drew := ⟨h.os, h.tape, h.output, h.size, h.block⟩
theorem box1 {w w1 : World} {x y : ByteArray} {T : TypeId} (b1 : Below (w.alloc (Obj.cells #[Value.string x, Value.string y] T)).drew.heap.size (w.alloc (Obj.cells #[Value.string x, Value.string y] T)).drew w1) : w1.cell? ⟨w.heap.size, 1, none⟩ = some (.string y) := by
  have h : (w.alloc (Obj.cells #[Value.string x, Value.string y] T)).drew.cell? ⟨w.heap.size, 1, none⟩ = some (.string y) := by
    show (w.alloc (Obj.cells #[Value.string x, Value.string y] T)).cell? ⟨w.heap.size, 1, none⟩ = some (.string y)
    simp
  exact (b1.cell (p := ⟨w.heap.size, 1, none⟩) (by show w.heap.size < (w.alloc (Obj.cells #[Value.string x, Value.string y] T)).heap.size; simp)).trans h
theorem lt1 {w w1 : World} {x y : ByteArray} {T : TypeId} (b1 : Below (w.alloc (Obj.cells #[Value.string x, Value.string y] T)).drew.heap.size (w.alloc (Obj.cells #[Value.string x, Value.string y] T)).drew w1) : w.heap.size < w1.heap.size :=
  Nat.lt_of_lt_of_le (by show w.heap.size < (w.alloc (Obj.cells #[Value.string x, Value.string y] T)).heap.size; simp) b1.size

set_option maxHeartbeats 4000000 in
theorem headOk_any (x y : ByteArray) (w : World) (hx : x.size ≤ maxLen) (hy : y.size ≤ maxLen) (hy4 : y.size ≤ 281474976710656) :
    Calls Tryz.prog 74 #[.agg #[.string x, .string y]] w fun e w' => e = .returned (.bool (hdB (x, y))) ∧ Below w.heap.size w w' := by
  have hb0 : Below w.heap.size w (w.alloc (Obj.cells #[Value.string x, Value.string y] 54)).drew := below_drew0 ((Below.refl w.heap.size w).alloc (Nat.le_refl _) (Obj.cells #[Value.string x, Value.string y] 54))
  cases h1 : smB x.data.toList
  · have hz : hdB (x, y) = false := by simp [hdB, h1]
    rw [hz]
    clear hz
    go_enter Tryz.func74, Tryz.ntmps74
    go_wp2
    first | go_region_with ((go_at_call 107; refine (smallName_any x _ hx).mono ?_; rintro e w1 ⟨rfl, b1⟩; rw [h1]; have c1 := hb0.trans (Below.mono (w := (w.alloc (Obj.cells #[Value.string x, Value.string y] 54)).drew) b1 hb0.size); have k1 := box1 b1; have l1 := lt1 b1)) | fail
    all_goals
      go_wp2
      go_ret
      exact ⟨rfl, c1⟩
  · by_cases h2 : (y.size : Int) ≤ 60
    · cases h3 : allB y.data.toList [0]
      · have hz : hdB (x, y) = false := by simp [hdB, valB, h3]
        rw [hz]
        clear hz
        go_enter Tryz.func74, Tryz.ntmps74
        go_wp2
        first | go_region_with (first | (go_at_call 107; refine (smallName_any x _ hx).mono ?_; rintro e w1 ⟨rfl, b1⟩; rw [h1]; have c1 := hb0.trans (Below.mono (w := (w.alloc (Obj.cells #[Value.string x, Value.string y] 54)).drew) b1 hb0.size); have k1 := box1 b1; have l1 := lt1 b1) | (go_at_call 83; refine (plain_any y _ hy).mono ?_; rintro e w2 ⟨rfl, b2⟩; rw [h3]; have c2 := c1.trans (b2.mono c1.size); have k2 := (b2.cell (p := ⟨w.heap.size, 1, none⟩) l1).trans k1; have l2 := Nat.lt_of_lt_of_le l1 b2.size)) | fail
        all_goals
          go_wp2
          go_ret
          exact ⟨rfl, c2⟩
      · have h2' : y.size ≤ 60 := by omega
        have hz : hdB (x, y) = decide (trimL y.data.toList = y.data.toList) := by simp [hdB, valB, h1, h2', h3]
        rw [hz]
        clear hz h2'
        go_enter Tryz.func74, Tryz.ntmps74
        go_wp2
        first | go_region_with (first | (go_at_call 107; refine (smallName_any x _ hx).mono ?_; rintro e w1 ⟨rfl, b1⟩; rw [h1]; have c1 := hb0.trans (Below.mono (w := (w.alloc (Obj.cells #[Value.string x, Value.string y] 54)).drew) b1 hb0.size); have k1 := box1 b1; have l1 := lt1 b1) | (go_at_call 83; refine (plain_any y _ hy).mono ?_; rintro e w2 ⟨rfl, b2⟩; rw [h3]; have c2 := c1.trans (b2.mono c1.size); have k2 := (b2.cell (p := ⟨w.heap.size, 1, none⟩) l1).trans k1; have l2 := Nat.lt_of_lt_of_le l1 b2.size) | (go_at_call 73; refine (trim_any y _ hy4).mono ?_; rintro e w3 ⟨⟨t, rfl, ht⟩, b3⟩; have HT := hide ht; clear ht; have c3 := c2.trans (b3.mono c2.size); have k3 := (b3.cell (p := ⟨w.heap.size, 1, none⟩) l2).trans k2)) | fail
        all_goals
          go_wp2
          go_ret
          exact ⟨ret_bool (by rw [← trim_same HT.out]), c3⟩
    · have h2' : ¬ y.size ≤ 60 := by omega
      have hz : hdB (x, y) = false := by simp [hdB, valB, h2']
      rw [hz]
      clear h2' hz
      go_enter Tryz.func74, Tryz.ntmps74
      go_wp2
      first | go_region_with ((go_at_call 107; refine (smallName_any x _ hx).mono ?_; rintro e w1 ⟨rfl, b1⟩; rw [h1]; have c1 := hb0.trans (Below.mono (w := (w.alloc (Obj.cells #[Value.string x, Value.string y] 54)).drew) b1 hb0.size); have k1 := box1 b1; have l1 := lt1 b1)) | fail
      all_goals
        go_wp2
        go_ret
        exact ⟨rfl, c1⟩
end Go.Proofs.YtnoijfnpchihoaaGreatDoor
namespace Go.Proofs.YtnoijfnpchihoaaGreatDoor
open Go.RowKit M

theorem bytes_row (w : World) (s : ByteArray) : RowAt (Lib.bytesWorld w 5 s) w.heap.size s.data.toList := by
  intro j hj
  have e : s.data.toList.length = s.size := Array.length_toList
  refine ⟨?_, ?_⟩
  · rw [Lib.bytesWorld_cell w 5 s j (by omega)]
    simp [List.getD, List.getElem?_eq_getElem hj]
  · have hsz : j < (Lib.bytesCells w 5 s).size := by
      simp only [Lib.bytesCells, Array.size_append, Array.size_map]
      have : s.data.size = s.size := rfl
      omega
    simp [World.frozen?, Lib.bytesWorld_at_new]
    omega

set_option maxHeartbeats 1000000 in
theorem lower_any (s : ByteArray) (w : World) (hs : s.size ≤ 140737488355328) :
    Calls Tryz.prog 72 #[.string s] w fun e w' => e = .returned (.string ⟨(lowL s.data.toList).toArray⟩) ∧ Below w.heap.size w w' := by
  have hcv := Lib.run_convert_string_bytes (P := Tryz.prog) w 9 22 5 s Tryz.underlying9 Tryz.underlying22 Tryz.underlying5
  have el : s.data.toList.length = s.size := Array.length_toList
  have EL : Hid (s.data.toList.length = s.size) := el
  clear el
  go_enter Tryz.func72, Tryz.ntmps72
  go_wp2
  clear hcv
  go_loopw [10] (fun i wr => ∃ k : Nat, k ≤ s.size ∧ i = .int .i64 k ∧ RowAt wr w.heap.size (mixL s.data.toList k) ∧ Below w.heap.size w wr ∧ w.heap.size < wr.heap.size) (fun i _ => s.size - (intOf i).toNat)
  case atStart =>
    refine ⟨0, Nat.zero_le _, rfl, by rw [mixL_zero]; exact bytes_row w s, ⟨rfl, rfl, rfl, ?_, fun k hk => Lib.bytesWorld_at_old w _ s k hk⟩, ?_⟩
    · rw [Lib.bytesWorld_size]; omega
    · rw [Lib.bytesWorld_size]; omega
  case round =>
    obtain ⟨k, hk, rfl, hrow, hbe, hN⟩ := hrel
    by_cases hlt : k < s.size
    · have hl := mixL_length s.data.toList k
      have hkl : k < (mixL s.data.toList k).length := by rw [hl]; have := EL.out; omega
      have hkl' : k < s.data.toList.length := by have := EL.out; omega
      obtain ⟨hc0, hf0⟩ := hrow k hkl
      rw [mixL_get _ _ hkl' hkl] at hc0
      have hc : wr.cell? ⟨w.heap.size, k, none⟩ = some (.int .u8 (s[k]).toNat) := hc0
      clear hc0 hl
      cases hb : isB ((s[k]).toNat : Int) 3
      · go_wp2_with (go_at_call 105; refine (isOneOf_any _ [3] 1 _ 0 1 _ rfl (by decide) (cells1 _ 3 110)).mono ?_; rintro e w' ⟨rfl, rfl⟩; rw [anyB_one, hb])
        go_roundw
        case rel =>
          refine ⟨k + 1, by omega, by go_num, ?_, hbe.alloc hbe.size _, by simp; omega⟩
          have e : mixL s.data.toList (k + 1) = mixL s.data.toList k := by
            rw [mixL_succ _ _ hkl']
            have e2 : lowB s.data.toList[k] = (mixL s.data.toList k)[k] := by
              rw [mixL_get _ _ hkl' hkl]; exact lowB_no _ hb
            rw [e2, List.set_getElem_self]
          rw [e]; exact hrow.alloc hN _
        case measure => simp [intOf]; omega
      · have h65 := isB3 hb
        go_wp2_with (go_at_call 105; refine (isOneOf_any _ [3] 1 _ 0 1 _ rfl (by decide) (cells1 _ 3 110)).mono ?_; rintro e w' ⟨rfl, rfl⟩; rw [anyB_one, hb])
        have hv : (Value.int IntKind.u8 (((s[k]).toNat : Int) - 65 + 97)) = Value.int IntKind.u8 ((lowB s[k]).toNat : Int) := by
          rw [lowB_yes _ hb]
          congr 1
          simp
          omega
        rw [hv]
        go_roundw
        case rel =>
          refine ⟨k + 1, by omega, by go_num, ?_, (hbe.setCell (Nat.le_refl _) _).alloc (by simp; exact hbe.size) _, by simp; omega⟩
          rw [mixL_succ _ _ hkl']
          exact (hrow.set k hkl _).alloc (by simpa using hN) _
        case measure => simp [intOf]; omega
    · have hcw := conv_row (cap := grownCap w s.size 0 5) hrow (show (mixL s.data.toList k).length = s.size by rw [mixL_length]; exact EL.out)
      rw [mixL_all _ _ (by have := EL.out; omega)] at hcw
      go_wp2
      go_ret
      exact ⟨rfl, hbe⟩
end Go.Proofs.YtnoijfnpchihoaaGreatDoor
