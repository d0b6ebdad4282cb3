/-
  What the specification's l1HexDigit and Hex do.
  What the library's formatBits does at base 16.
-/
import Derived.Test.YtanebchmeaomgaaGreatDoorMathCutB
import Derived.Test.YtanebchmeaomgaaGreatDoorNumText
namespace Go.Proofs.YtanebchmeaomgaaGreatDoor
open Go.RowKit M

set_option maxHeartbeats 400000 in
theorem l1HexDigit_any (d : Int) (w : World) (h0 : 0 ≤ d) (h1 : d < 16) :
    Calls Tryz.prog 174 #[.int .i64 d] w fun e w' => e = .returned (.int .u8 (hexCh d.toNat).toNat) ∧ w' = w := by
  obtain ⟨m, rfl⟩ := Int.eq_ofNat_of_zero_le h0
  rw [Int.toNat_natCast, hexCh_toNat m (by omega)]
  by_cases h : m < 10
  · rw [if_pos h]
    go_enter Tryz.func174, Tryz.ntmps174
    go_wp2
    go_ret
    exact ⟨by simp, rfl⟩
  · rw [if_neg h]
    go_enter Tryz.func174, Tryz.ntmps174
    go_wp2
    go_ret
    refine ⟨?_, rfl⟩
    go_light
    congr 2
    simp
    omega

set_option maxHeartbeats 1000000 in
theorem specHex_pos (N : Nat) (w : World) (hN : N ≤ 9223372036854775807) :
    Calls Tryz.prog 138 #[.int .i64 N] w fun e w' => e = .returned (.string ⟨(hexDigits N).toArray⟩) ∧ Below w.heap.size w w' := by
  have hcv := conv_one
  have hm0 : (0 : Int) ≤ (N : Int) % 16 := by omega
  have hm1 : (N : Int) % 16 < 16 := by omega
  go_enter Tryz.func138, Tryz.ntmps138
  go_wp2_with (go_at_call 174; refine (l1HexDigit_any _ _ (by omega) (by omega)).mono ?_; rintro e w1 ⟨rfl, hw⟩; obtain rfl := hw.symm)
  go_loopw [0, 3] (fun n v wr => ∃ (f m : Nat) (t : List UInt8), n = .int .i64 m ∧ v = .string ⟨t.toArray⟩ ∧ m ≤ 9223372036854775807 ∧ m < 16 ^ (f + 1) ∧ t.length + f = 16 ∧ hexDigits N = hexAhead f m ++ t ∧ Below w.heap.size w wr) (fun n _ _ => (intOf n).toNat)
  case atStart => exact ⟨15, N, [hexCh (N % 16)], rfl, rfl, hN, by omega, rfl, hexDig_ahead 15 N, (Below.refl _ _).alloc (Nat.le_refl _) _⟩
  case round =>
    obtain ⟨f, m, t, rfl, rfl, hm, hf, ht, hd, hbe⟩ := hrel
    have HD : Hid (hexDigits N = hexAhead f m ++ t) := hd; clear hd
    have HF : Hid (m < 16 ^ (f + 1)) := hf; clear hf
    by_cases h9 : 15 < m
    · have h9' : (15 : Int) < (m : Int) := by omega
      have htl : t.length ≤ 16 := by omega
      have HT : Hid (t.length + f = 16) := ht
      clear ht
      go_wp2_with (go_at_call 174; refine (l1HexDigit_any _ _ (by omega) (by omega)).mono ?_; rintro e w1 ⟨rfl, hw⟩; obtain rfl := hw.symm)
      go_roundw
      case rel =>
        obtain ⟨g, rfl⟩ : ∃ g, f = g + 1 := by
          cases f with
          | zero => exact absurd HF.out (by omega)
          | succ g => exact ⟨g, rfl⟩
        have h1 := HF.out
        have h2 := HT.out
        rw [Nat.pow_succ] at h1
        refine ⟨g, m / 16, hexCh (m / 16 % 16) :: t, by go_num, ?_, by omega, by omega, by simp; omega, ?_, hbe.alloc hbe.size _⟩
        · rw [cat_one]
        · rw [HD.out, hexAhead_step g m h9, List.append_assoc]; rfl
      case measure => simp [intOf]; omega
    · go_wp2
      go_ret
      exact ⟨ret_str (by rw [HD.out, hexAhead_end f m h9]; rfl), hbe⟩

set_option maxHeartbeats 400000 in
theorem specHex_neg (n : Int) (w : World) (hn : n < 0) :
    Calls Tryz.prog 138 #[.int .i64 n] w fun e w' => e = .returned (.string ⟨(hexDigits 0).toArray⟩) ∧ Below w.heap.size w w' := by
  have hcv := conv_one
  go_enter Tryz.func138, Tryz.ntmps138
  go_wp2_with (go_at_call 174; refine (l1HexDigit_any _ _ (by omega) (by omega)).mono ?_; rintro e w1 ⟨rfl, hw⟩; obtain rfl := hw.symm)
  go_loopw [0, 3] (fun n v wr => n = .int .i64 0 ∧ v = .string ⟨[hexCh 0].toArray⟩ ∧ Below w.heap.size w wr) (fun n _ _ => (intOf n).toNat)
  case atStart => exact ⟨rfl, rfl, (Below.refl _ _).alloc (Nat.le_refl _) _⟩
  case round =>
    obtain ⟨rfl, rfl, hbe⟩ := hrel
    go_wp2
    go_ret
    exact ⟨ret_str (l := [hexCh 0]) rfl, hbe⟩

theorem specHex_any (n : Int) (w : World) (hn : n ≤ 9223372036854775807) :
    Calls Tryz.prog 138 #[.int .i64 n] w fun e w' => e = .returned (.string ⟨(hexDigits n.toNat).toArray⟩) ∧ Below w.heap.size w w' := by
  by_cases h : n < 0
  · have e : n.toNat = 0 := by omega
    rw [e]; exact specHex_neg n w h
  · obtain ⟨m, rfl⟩ := Int.eq_ofNat_of_zero_le (by omega : 0 ≤ n)
    rw [Int.toNat_natCast]
    exact specHex_pos m w (by omega)
end Go.Proofs.YtanebchmeaomgaaGreatDoor
namespace Go.Proofs.YtanebchmeaomgaaGreatDoor
open Go.RowKit M

set_option maxHeartbeats 400000 in
theorem pow2_16 (w : World) :
    Calls Tryz.prog 205 #[.int .i64 16] w fun e w' => e = .returned (.bool true) ∧ w' = w := by
  go_enter Tryz.func205, Tryz.ntmps205
  go_wp2
  go_ret
  exact ⟨rfl, rfl⟩

theorem idx_16 : (IntKind.u64.wrap (bits BinOp.and IntKind.u64 16 (IntKind.u64.wrap (-16)) * 285870213051353865) / 288230376151711744).toNat = 15 := by decide +kernel

def DeTab (w : World) : Prop := w.cell? ⟨3, 15, none⟩ = some (.int .u8 4)
theorem DeTab.below {w w' : World} (h : DeTab w) (hb : Below w.heap.size w w') : DeTab w' :=
  (hb.cell (p := ⟨3, 15, none⟩) (World.block_lt_of_cell? w _ h)).trans h

theorem de_glob : Tryz.prog.globalNamed "math/bits.deBruijn64tab" = some 3 := by kernel_rfl
def deNums : List Int := [0, 1, 56, 2, 57, 49, 28, 3, 61, 58, 42, 50, 38, 29, 17, 4, 62, 47, 59, 36, 45, 43, 51, 22, 53, 39, 33, 30, 24, 18, 12, 5, 63, 55, 48, 27, 60, 41, 37, 16, 46, 35, 44, 21, 52, 32, 23, 11, 54, 26, 40, 15, 34, 20, 31, 10, 25, 14, 19, 9, 13, 8, 7, 6]
theorem de_data : (Rows.laid_math_bits_deBruijn64tab : DataW Unit) = Lib.tabData .u8 deNums := by kernel_rfl

theorem deTab_of {W : World} {rest : List (String × DataW Unit)} (h : laidMet Tryz.prog (("math/bits.deBruijn64tab", Rows.laid_math_bits_deBruijn64tab) :: rest) W) : DeTab W := by
  rw [de_data] at h
  have ht := Lib.tabIs_of_head de_glob (t := 261) (n := 64) (e := 5) (by kernel_rfl) (by kernel_rfl) (by kernel_rfl) (by kernel_rfl) (by kernel_rfl) h
  exact ht.cell de_glob 15 (by decide)

set_option maxHeartbeats 400000 in
theorem trail_16 (w : World) (hc : w.cell? ⟨3, 15, none⟩ = some (.int .u8 4)) :
    Calls Tryz.prog 206 #[.int .u64 16] w fun e w' => e = .returned (.int .i64 4) ∧ w' = w := by
  rw [← idx_16] at hc
  go_enter Tryz.func206, Tryz.ntmps206
  go_wp2
  go_ret
  exact ⟨rfl, rfl⟩

theorem and_15 (m : Nat) (hm : m ≤ 9223372036854775807) : bits BinOp.and IntKind.u64 (m : Int) 15 = (m : Int) % 16 := by
  have h := bits_and_u64_nat m 15 (by omega) (by omega)
  rw [nat_mask4] at h
  simpa using h

theorem dig_at : ∀ d : Fin 16, (#[48, 49, 50, 51, 52, 53, 54, 55, 56, 57, 97, 98, 99, 100, 101, 102, 103, 104, 105, 106, 107, 108, 109, 110, 111, 112, 113, 114, 115, 116, 117, 118, 119, 120, 121, 122] : Array UInt8)[d.val]? = some (hexCh d.val) := by decide +kernel

theorem dig_get (d : Nat) (hd : d < 16) (h : d < (⟨#[48, 49, 50, 51, 52, 53, 54, 55, 56, 57, 97, 98, 99, 100, 101, 102, 103, 104, 105, 106, 107, 108, 109, 110, 111, 112, 113, 114, 115, 116, 117, 118, 119, 120, 121, 122]⟩ : ByteArray).size) : (⟨#[48, 49, 50, 51, 52, 53, 54, 55, 56, 57, 97, 98, 99, 100, 101, 102, 103, 104, 105, 106, 107, 108, 109, 110, 111, 112, 113, 114, 115, 116, 117, 118, 119, 120, 121, 122]⟩ : ByteArray)[d]'h = hexCh d := by
  have e := dig_at ⟨d, hd⟩
  obtain ⟨_, e2⟩ := Array.getElem?_eq_some_iff.1 e
  exact e2

theorem slice_65 (N f : Nat) (hf : f ≤ 15) (W : World) : (Instr.sliceAt 240 (.pointer (some ⟨N, 0, none⟩)) (some (.int .i64 ((f : Int) + 50 - 1))) none none).run Tryz.prog W = .ok (.slice (some ⟨N, f + 49, none⟩) (16 - f) (16 - f)) W := by
  have hal : Tryz.prog.arrayLen 240 = 65 := by kernel_rfl
  have hel : Tryz.prog.underlying 240 = some (.array 65 5) := by kernel_rfl
  have hco : Tryz.prog.cellsOf 5 = 1 := by kernel_rfl
  have h := run_sliceAt_array_l (P := Tryz.prog) W 240 ⟨N, 0, none⟩ (by simp [Program.arrayLen, Program.elem, hel]) .i64 ((f : Int) + 50 - 1) (by omega) (by rw [hal]; omega)
  rw [h]
  go_simp
  have e : ((f : Int) + 50).toNat - 1 = f + 49 := by omega
  rw [e, if_neg (by omega)]
  exact ⟨rfl, by omega⟩

theorem zero_65 (W : World) : (zeroValue 240).run Tryz.prog W = .ok (.agg (Array.replicate 65 (.int .u8 0))) W := by kernel_rfl

theorem row_65 (w : World) (T : TypeId) : RowAt (w.alloc (.cells (Array.replicate 65 (.int .u8 0)) T)) w.heap.size (List.replicate 65 0) := by
  intro j hj
  have hj' : j < 65 := by simpa using hj
  refine ⟨?_, ?_⟩
  · rw [World.cell?_alloc_new]
    have e : (List.replicate 65 (0 : UInt8))[j] = 0 := List.getElem_replicate _
    rw [e, Array.getElem?_replicate, if_pos hj']; rfl
  · simp

set_option maxHeartbeats 1000000 in
theorem formatBits_16 (u : Nat) (w : World) (hu : u ≤ 9223372036854775807) (hde : DeTab w) :
    Calls Tryz.prog 191 #[.slice none 0 0, .int .u64 u, .int .i64 16, .bool false, .bool false] w fun e w' => e = .returned (.tuple #[.slice none 0 0, .string ⟨(hexDigits u).toArray⟩]) ∧ Below w.heap.size w w' := by
  have HTR : Hid (∀ o, Calls Tryz.prog 206 #[.int .u64 16] (w.alloc o) fun e w' => e = .returned (.int .i64 4) ∧ w' = w.alloc o) := fun o => trail_16 _ (hde.below ((Below.refl _ _).alloc (Nat.le_refl _) o))
  clear hde
  have hz := zero_65
  have hr0 := row_65 w 240
  generalize Array.replicate 65 (Value.int IntKind.u8 0) = Z at hz hr0
  have HR : Hid (RowAt (w.alloc (.cells Z 240)) w.heap.size (List.replicate 65 0)) := hr0
  clear hr0
  go_enter Tryz.func191, Tryz.ntmps191
  go_wp2_with (first | (go_at_call 205; refine (pow2_16 _).mono ?_; rintro e w1 ⟨rfl, hw⟩; obtain rfl := hw.symm) | (go_at_call 206; refine (HTR.out _).mono ?_; rintro e w1 ⟨rfl, hw⟩; obtain rfl := hw.symm))
  go_loopw [1, 13] (fun x i wr => ∃ (f m : Nat) (pre t : List UInt8), x = .int .u64 m ∧ i = .int .i64 ((f + 50 : Nat) : Int) ∧ m ≤ 9223372036854775807 ∧ m < 16 ^ (f + 1) ∧ f ≤ 15 ∧ pre.length = f + 50 ∧ (pre ++ t).length = 65 ∧ hexDigits u = hexDig (f + 1) m ++ t ∧ RowAt wr w.heap.size (pre ++ t) ∧ Below w.heap.size w wr ∧ w.heap.size < wr.heap.size) (fun x _ _ => (intOf x).toNat)
  case atStart => exact ⟨15, u, List.replicate 65 0, [], rfl, rfl, hu, by omega, by omega, by simp, by simp, by simp [hexDigits], by rw [List.append_nil]; exact HR.out, (Below.refl _ _).alloc (Nat.le_refl _) _, by simp⟩
  case round =>
    clear HR
    obtain ⟨f, m, pre, t, rfl, rfl, hm, hf, hf15, hp, ht, hd, hrow, hbe, hN⟩ := hrel
    have HD : Hid (hexDigits u = hexDig (f + 1) m ++ t) := hd; clear hd
    have HF : Hid (m < 16 ^ (f + 1)) := hf; clear hf
    have HP : Hid (pre.length = f + 50) := hp; clear hp
    have HT : Hid ((pre ++ t).length = 65) := ht; clear ht
    have hlt49 : f + 49 < (pre ++ t).length := by rw [HT.out]; omega
    obtain ⟨hc, hfz⟩ := hrow (f + 49) hlt49
    generalize (pre ++ t)[f + 49] = old at hc
    clear hlt49
    have hand := and_15 m hm
    obtain ⟨q, hq1, hq2⟩ := set_last pre t (f + 49) HP.out (hexCh (m % 16))
    have hrow1 := hrow.set (f + 49) (by rw [HT.out]; omega) (hexCh (m % 16))
    rw [hq2] at hrow1
    have HQ : Hid (q.length = f + 49) := hq1
    have HL : Hid ((q ++ hexCh (m % 16) :: t).length = 65) := by
      show _ = _
      rw [← hq2, List.length_set]; exact HT.out
    clear hq1 hq2
    by_cases h15 : 15 < m
    · have h15' : (16 : Int) ≤ (m : Int) := by omega
      have hdg := dig_get (m % 16) (by omega)
      go_wp2
      go_roundw
      case rel =>
        obtain ⟨g, rfl⟩ : ∃ g, f = g + 1 := by
          cases f with
          | zero => exact absurd HF.out (by omega)
          | succ g => exact ⟨g, rfl⟩
        have h1 := HF.out
        rw [Nat.pow_succ] at h1
        refine ⟨g, m / 16, q, hexCh (m % 16) :: t, by go_num, by go_num, by omega, by omega, by omega, HQ.out, HL.out, ?_, hrow1, hbe.setCell (Nat.le_refl _) _, by simpa using hN⟩
        rw [HD.out]
        simp only [hexDig]
        rw [if_neg (by omega), List.append_assoc]; rfl
      case measure => simp [intOf]; omega
    · have h15' : ¬ (16 : Int) ≤ (m : Int) := by omega
      have em : m % 16 = m := Nat.mod_eq_of_lt (by omega)
      rw [em] at hrow1 HL
      have hdg := dig_get m (by omega)
      have hsl := slice_65 w.heap.size f hf15
      have hcv := conv_at (cap := 16 - f) (n := 16 - f) hrow1 HQ.out (by have := HL.out; have := HQ.out; simp at *; omega)
      clear em hand
      have HE : Hid (hexCh m :: t = hexDigits u) := by
        show _ = _
        rw [HD.out]
        simp only [hexDig]
        rw [if_pos (by omega)]; rfl
      go_wp2
      go_ret2
      refine ⟨?_, hbe.setCell (Nat.le_refl _) _⟩
      rw [HE.out]
      rfl

set_option maxHeartbeats 400000 in
theorem formatIntIn_16 (u : Nat) (w : World) (hu : u ≤ 9223372036854775807) (hde : DeTab w) :
    Calls Tryz.prog 166 #[.int .i64 u, .int .i64 16] w fun e w' => e = .returned (.string ⟨(hexDigits u).toArray⟩) ∧ Below w.heap.size w w' := by
  have HD : Hid (DeTab w) := hde
  clear hde
  go_enter Tryz.func166, Tryz.ntmps166
  go_wp2_with (go_at_call 191; refine (formatBits_16 u _ hu HD.out).mono ?_; rintro e w1 ⟨rfl, hb1⟩)
  go_ret
  exact ⟨rfl, hb1⟩

set_option maxHeartbeats 400000 in
theorem formatInt_16 (u : Nat) (w : World) (hu : u ≤ 9223372036854775807) (hde : DeTab w) :
    Calls Tryz.prog 172 #[.int .i64 u, .int .i64 16] w fun e w' => e = .returned (.string ⟨(hexDigits u).toArray⟩) ∧ Below w.heap.size w w' := by
  have HD : Hid (DeTab w) := hde
  clear hde
  go_enter Tryz.func172, Tryz.ntmps172
  go_wp2_with (go_at_call 166; refine (formatIntIn_16 u _ hu HD.out).mono ?_; rintro e w1 ⟨rfl, hb1⟩)
  go_ret
  exact ⟨rfl, hb1⟩

set_option maxHeartbeats 400000 in
theorem hex_any (n : Int) (w : World) (hn : n ≤ 9223372036854775807) (hde : DeTab w) :
    Calls Tryz.prog 134 #[.int .i64 n] w fun e w' => e = .returned (.string ⟨(hexDigits n.toNat).toArray⟩) ∧ Below w.heap.size w w' := by
  have HD : Hid (DeTab w) := hde
  clear hde
  by_cases h : n < 0
  · have e : n.toNat = 0 := by omega
    have e0 : max n 0 = ((0 : Nat) : Int) := by omega
    rw [e]
    go_enter Tryz.func134, Tryz.ntmps134
    go_wp2_with fail
    rw [show (0 : Int) = ((0 : Nat) : Int) from rfl]
    refine (formatInt_16 0 w (by omega) HD.out).mono ?_
    rintro e w' ⟨rfl, hb⟩
    go_wp2
    go_ret
    exact ⟨rfl, hb⟩
  · obtain ⟨m, rfl⟩ := Int.eq_ofNat_of_zero_le (by omega : 0 ≤ n)
    rw [Int.toNat_natCast]
    go_enter Tryz.func134, Tryz.ntmps134
    go_wp2_with fail
    refine (formatInt_16 m w (by omega) HD.out).mono ?_
    rintro e w' ⟨rfl, hb⟩
    go_wp2
    go_ret
    exact ⟨rfl, hb⟩
end Go.Proofs.YtanebchmeaomgaaGreatDoor
