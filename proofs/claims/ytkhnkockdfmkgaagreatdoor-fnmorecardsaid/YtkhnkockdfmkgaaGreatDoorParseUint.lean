/-
  What the library's ParseUint and ParseInt do at base 16, of one to four digits; what the program's ParseHex does.
-/
import Derived.Test.YtkhnkockdfmkgaaGreatDoorSpecHexOf
import Derived.Test.YtkhnkockdfmkgaaGreatDoorAllOf
import Derived.Test.YtkhnkockdfmkgaaGreatDoorShelf
import Derived.Test.YtkhnkockdfmkgaaGreatDoorMathGet
import Derived.Laws.Closers25b
import Derived.BigCall
import Derived.BigGuard
namespace Go.Proofs.YtkhnkockdfmkgaaGreatDoor
open Go.RowKit M

theorem low_small : ∀ d : Fin 256, 97 ≤ d.val → d.val ≤ 102 → bits .or .u8 (d.val : Int) 32 = (d.val : Int) := by decide +kernel
theorem low_large : ∀ d : Fin 256, 65 ≤ d.val → d.val ≤ 70 → bits .or .u8 (d.val : Int) 32 = (d.val : Int) + 32 := by decide +kernel

set_option maxHeartbeats 4000000 in
set_option maxRecDepth 100000 in
theorem parseUint_16 (t : ByteArray) (w : World) (h0 : 0 < t.size) (h4 : t.size ≤ 4) (hh : hexs t.data.toList = true) :
    Calls Tryz.prog 169 #[.string t, .int .i64 16, .int .i64 64] w fun e w' => e = .returned (.tuple #[.int .u64 (hexVal t.data.toList), .nilIface]) ∧ Below w.heap.size w w' := by
  have hemp : t.toList.isEmpty = false := by
    rw [← decide_eq_emptyBytes]
    exact decide_eq_false (fun h => by rw [h] at h0; exact absurd h0 (by decide))
  have hcv := Lib.run_convert_string_bytes (P := Tryz.prog) w 9 22 5 t Tryz.underlying9 Tryz.underlying22 Tryz.underlying5
  have hB : ∀ j (hj : j < t.size), (Lib.bytesWorld w 5 t).cell? ⟨w.heap.size, j, none⟩ = some (.int .u8 (t[j]).toNat) := fun j hj => by
    rw [Lib.bytesWorld_cell w 5 t j hj]
    have e := len_list t
    have : t.data.toList.getD j 0 = t[j] := by
      simp only [List.getD, List.getElem?_eq_getElem (show j < t.data.toList.length by omega), Option.getD_some]; rfl
    rw [this]
  have hbel := below_bytes w 5 t
  obtain ⟨W1, hW1⟩ : ∃ W1, W1 = Lib.bytesWorld w 5 t := ⟨_, rfl⟩
  rw [← hW1] at hcv hB hbel
  clear hW1
  have HB : Hid (∀ j (hj : j < t.size), W1.cell? ⟨w.heap.size, j, none⟩ = some (.int .u8 (t[j]).toNat)) := hB
  have HBE : Hid (Below w.heap.size w W1) := hbel
  have HH : Hid (hexs t.data.toList = true) := hh
  clear hB hbel hh
  have hmv : IntKind.u64.wrap (IntKind.u64.wrap 18446744073709551616 - 1) = 18446744073709551615 := by
    rw [IntKind.wrap_u64, IntKind.wrap_u64]
    decide
  go_enter Tryz.func169, Tryz.ntmps169
  go_wp2
  go_loop [12, 13, 101] (fun vu vn vi => ∃ (k : Nat) (a : Int), vu = .bool false ∧ vn = .int .u64 a ∧ vi = .int .i64 k ∧ k ≤ t.size ∧ Hid (a = (hexVal (t.data.toList.take k) : Int) ∧ hexs (t.data.toList.take k) = true))
    (fun _ _ vi => t.size - (intOf vi).toNat)
  case atStart => exact ⟨0, 0, rfl, rfl, rfl, by omega, rfl, rfl⟩
  case round =>
    obtain ⟨k, a, rfl, rfl, rfl, hk, hx⟩ := hrel
    obtain ⟨ha, hhx⟩ := hx.out
    clear hx
    have hlt16 := hexVal_lt t k hk hhx
    have hp16 := pow16_le (show k ≤ 5 by omega)
    have a0 : 0 ≤ a := by omega
    have a1 : a < 1048576 := by omega
    have HA : Hid (a = (hexVal (t.data.toList.take k) : Int)) := ha
    have HX : Hid (hexs (t.data.toList.take k) = true) := hhx
    clear ha hhx hlt16 hp16
    by_cases hkn : k < t.size
    · have hc := HB.out k hkn
      have hhex := hexs_get t HH.out k hkn
      have HS : Hid (hexVal (t.data.toList.take (k + 1)) = hexVal (t.data.toList.take k) * 16 + hexW t[k]) := hexVal_step t k hkn
      have HX2 : Hid (hexs (t.data.toList.take (k + 1)) = true) := hexs_snoc t k hkn HX.out hhex
      generalize t[k] = c at hc hhex HS
      have hc256 : c.toNat < 256 := c.toNat_lt
      have hfin : ∀ d : Int, d = (hexW c : Int) → Hid (a * 16 + d = (hexVal (t.data.toList.take (k + 1)) : Int) ∧ hexs (t.data.toList.take (k + 1)) = true) := by
        intro d hd
        refine ⟨?_, HX2.out⟩
        rw [hd, HA.out, HS.out]
        simp
      have HFIN : Hid (∀ d : Int, d = (hexW c : Int) → Hid (a * 16 + d = (hexVal (t.data.toList.take (k + 1)) : Int) ∧ hexs (t.data.toList.take (k + 1)) = true)) := hfin
      clear hfin HS HX2
      have HC : Hid (isHex c = true) := hhex
      clear hhex
      rcases isHex_cases HC.out with e4 | ⟨e4, e5⟩ | ⟨e4, e5, e6⟩
      · have hd := isB4 e4
        have HD : Hid ((c.toNat : Int) - 48 = (hexW c : Int)) := by
          show _ = _
          rw [hexW_4 e4]; omega
        clear e4
        go_wp2
        refine ⟨⟨k + 1, a * 16 + ((c.toNat : Int) - 48), rfl, rfl, by go_num, by omega, HFIN.out _ HD.out⟩, by simp [intOf]; omega⟩
      · have hd := isB5 e5
        have hlow := low_small ⟨c.toNat, hc256⟩ (by simp; omega) (by simp; omega)
        have hlow' : bits .or .u8 (c.toNat : Int) 32 = (c.toNat : Int) := hlow
        have HD : Hid ((c.toNat : Int) - 97 + 10 = (hexW c : Int)) := by
          show _ = _
          rw [hexW_5 e4 e5]; omega
        clear e4 e5 hlow
        go_wp2_with (go_at_call 175; refine (Tryz.internal_strconv_lower _ _).mono ?_; rintro e w' ⟨rfl, rfl⟩; rw [hlow'])
        refine ⟨⟨k + 1, a * 16 + ((c.toNat : Int) - 97 + 10), rfl, rfl, by go_num, by omega, HFIN.out _ HD.out⟩, by simp [intOf]; omega⟩
      · have hd := isB6 e6
        have hlow := low_large ⟨c.toNat, hc256⟩ (by simp; omega) (by simp; omega)
        have hlow' : bits .or .u8 (c.toNat : Int) 32 = (c.toNat : Int) + 32 := hlow
        have HD : Hid ((c.toNat : Int) + 32 - 97 + 10 = (hexW c : Int)) := by
          show _ = _
          rw [hexW_6 e4 e5]; omega
        clear e4 e5 e6 hlow
        go_wp2_with (go_at_call 175; refine (Tryz.internal_strconv_lower _ _).mono ?_; rintro e w' ⟨rfl, rfl⟩; rw [hlow'])
        refine ⟨⟨k + 1, a * 16 + ((c.toNat : Int) + 32 - 97 + 10), rfl, rfl, by go_num, by omega, HFIN.out _ HD.out⟩, by simp [intOf]; omega⟩
    · go_wp2
      go_ret2
      refine ⟨?_, HBE.out⟩
      rw [HA.out, take_all t k hkn]; rfl
end Go.Proofs.YtkhnkockdfmkgaaGreatDoor
