/-
  What the specification's l1HexDigit and Hex do.
  The library's table of powers of ten, as the row lists it; that it stays where only new memory is laid.
  What the library's formatBits does at base 16.
  What the program's putChunk does.
  What the program's PutChunks does.
  What the specification's PutChunks does.
  What the specification's and the program's PutChunked do.
-/
import Derived.Test.YtanebchmeaomgaaGreatDoorPutHead
import Derived.Test.YtanebchmeaomgaaGreatDoorRows
import Derived.Test.YtanebchmeaomgaaGreatDoorShelf
import Derived.WalkKit
import Derived.WalkLawsBesides
import Derived.Lib.AppendIntMem
import Derived.Stop.LaidErr
import Derived.Test.YtanebchmeaomgaaGreatDoorStepByts
import Derived.Test.YtanebchmeaomgaaGreatDoorMathCutB
import Derived.Test.YtanebchmeaomgaaGreatDoorHeads
import Derived.Test.YtanebchmeaomgaaGreatDoorPiecesOf
import Derived.Deep.RegionHeld3
import Derived.Lib.ConvBytes
namespace Go.Proofs.YtanebchmeaomgaaGreatDoor
open Go.RowKit M

set_option maxHeartbeats 400000 in
theorem l1HexDigit_any (d : Int) (w : World) (h0 : 0 ≤ d) (h1 : d < 16) :
    Calls Tryz.prog 174 #[.int .i64 d] w fun e w' => e = .returned (.int .u8 (hexCh d.toNat).toNat) ∧ w' = w := by
  obtain ⟨m, rfl⟩ := Int.eq_ofNat_of_zero_le h0
  rw [Int.toNat_natCast, hexCh_toNat m (by omega)]
  by_cases h : m < 10
  · rw [if_pos h]
    go_enter Tryz.func174, Tryz.ntmps174
    go_wp2
    go_ret
    exact ⟨by simp, rfl⟩
  · rw [if_neg h]
    go_enter Tryz.func174, Tryz.ntmps174
    go_wp2
    go_ret
    refine ⟨?_, rfl⟩
    go_light
    congr 2
    simp
    omega

set_option maxHeartbeats 1000000 in
theorem specHex_pos (N : Nat) (w : World) (hN : N ≤ 9223372036854775807) :
    Calls Tryz.prog 138 #[.int .i64 N] w fun e w' => e = .returned (.string ⟨(hexDigits N).toArray⟩) ∧ Below w.heap.size w w' := by
  have hcv := conv_one
  have hm0 : (0 : Int) ≤ (N : Int) % 16 := by omega
  have hm1 : (N : Int) % 16 < 16 := by omega
  go_enter Tryz.func138, Tryz.ntmps138
  go_wp2_with (go_at_call 174; refine (l1HexDigit_any _ _ (by omega) (by omega)).mono ?_; rintro e w1 ⟨rfl, hw⟩; obtain rfl := hw.symm)
  go_loopw [0, 3] (fun n v wr => ∃ (f m : Nat) (t : List UInt8), n = .int .i64 m ∧ v = .string ⟨t.toArray⟩ ∧ m ≤ 9223372036854775807 ∧ m < 16 ^ (f + 1) ∧ t.length + f = 16 ∧ hexDigits N = hexAhead f m ++ t ∧ Below w.heap.size w wr) (fun n _ _ => (intOf n).toNat)
  case atStart => exact ⟨15, N, [hexCh (N % 16)], rfl, rfl, hN, by omega, rfl, hexDig_ahead 15 N, (Below.refl _ _).alloc (Nat.le_refl _) _⟩
  case round =>
    obtain ⟨f, m, t, rfl, rfl, hm, hf, ht, hd, hbe⟩ := hrel
    have HD : Hid (hexDigits N = hexAhead f m ++ t) := hd; clear hd
    have HF : Hid (m < 16 ^ (f + 1)) := hf; clear hf
    by_cases h9 : 15 < m
    · have h9' : (15 : Int) < (m : Int) := by omega
      have htl : t.length ≤ 16 := by omega
      have HT : Hid (t.length + f = 16) := ht
      clear ht
      go_wp2_with (go_at_call 174; refine (l1HexDigit_any _ _ (by omega) (by omega)).mono ?_; rintro e w1 ⟨rfl, hw⟩; obtain rfl := hw.symm)
      go_roundw
      case rel =>
        obtain ⟨g, rfl⟩ : ∃ g, f = g + 1 := by
          cases f with
          | zero => exact absurd HF.out (by omega)
          | succ g => exact ⟨g, rfl⟩
        have h1 := HF.out
        have h2 := HT.out
        rw [Nat.pow_succ] at h1
        refine ⟨g, m / 16, hexCh (m / 16 % 16) :: t, by go_num, ?_, by omega, by omega, by simp; omega, ?_, hbe.alloc hbe.size _⟩
        · rw [cat_one]
        · rw [HD.out, hexAhead_step g m h9, List.append_assoc]; rfl
      case measure => simp [intOf]; omega
    · go_wp2
      go_ret
      exact ⟨ret_str (by rw [HD.out, hexAhead_end f m h9]; rfl), hbe⟩

set_option maxHeartbeats 400000 in
theorem specHex_neg (n : Int) (w : World) (hn : n < 0) :
    Calls Tryz.prog 138 #[.int .i64 n] w fun e w' => e = .returned (.string ⟨(hexDigits 0).toArray⟩) ∧ Below w.heap.size w w' := by
  have hcv := conv_one
  go_enter Tryz.func138, Tryz.ntmps138
  go_wp2_with (go_at_call 174; refine (l1HexDigit_any _ _ (by omega) (by omega)).mono ?_; rintro e w1 ⟨rfl, hw⟩; obtain rfl := hw.symm)
  go_loopw [0, 3] (fun n v wr => n = .int .i64 0 ∧ v = .string ⟨[hexCh 0].toArray⟩ ∧ Below w.heap.size w wr) (fun n _ _ => (intOf n).toNat)
  case atStart => exact ⟨rfl, rfl, (Below.refl _ _).alloc (Nat.le_refl _) _⟩
  case round =>
    obtain ⟨rfl, rfl, hbe⟩ := hrel
    go_wp2
    go_ret
    exact ⟨ret_str (l := [hexCh 0]) rfl, hbe⟩

theorem specHex_any (n : Int) (w : World) (hn : n ≤ 9223372036854775807) :
    Calls Tryz.prog 138 #[.int .i64 n] w fun e w' => e = .returned (.string ⟨(hexDigits n.toNat).toArray⟩) ∧ Below w.heap.size w w' := by
  by_cases h : n < 0
  · have e : n.toNat = 0 := by omega
    rw [e]; exact specHex_neg n w h
  · obtain ⟨m, rfl⟩ := Int.eq_ofNat_of_zero_le (by omega : 0 ≤ n)
    rw [Int.toNat_natCast]
    exact specHex_pos m w (by omega)
end Go.Proofs.YtanebchmeaomgaaGreatDoor
namespace Go.Proofs.YtanebchmeaomgaaGreatDoor
open Go.RowKit

theorem pow_glob : Tryz.prog.globalNamed "internal/strconv.uint64pow10" = some 1 := by kernel_rfl
theorem pow_data : (Rows.laid_internal_strconv_uint64pow10 : DataW Unit) = Lib.tabData .u64 Lib.pow10Tab := by kernel_rfl

def PowTab (w : World) : Prop := Lib.TabIs Tryz.prog w "internal/strconv.uint64pow10" .u64 Lib.pow10Tab

theorem PowTab.lt {w : World} (h : PowTab w) : 1 < w.heap.size := by
  have h' : w.var? Tryz.prog "internal/strconv.uint64pow10" = some _ := h
  unfold World.var? at h'
  rw [pow_glob] at h'
  simp only [Option.bind_some] at h'
  rcases Nat.lt_or_ge 1 w.heap.size with h1 | h1
  · exact h1
  · rw [Array.getElem?_eq_none h1] at h'
    simp at h'

theorem PowTab.below {w w' : World} (h : PowTab w) (hb : Below w.heap.size w w') : PowTab w' := var?_below hb pow_glob h.lt h

theorem powTab_of {W : World} {rest : List (String × DataW Unit)} (h : laidMet Tryz.prog (("internal/strconv.uint64pow10", Rows.laid_internal_strconv_uint64pow10) :: rest) W) : PowTab W := by
  rw [pow_data] at h
  exact Lib.tabIs_of_head pow_glob (t := 239) (n := 20) (e := 224) (by kernel_rfl) (by kernel_rfl) (by kernel_rfl) (by kernel_rfl) (by kernel_rfl) h
end Go.Proofs.YtanebchmeaomgaaGreatDoor
namespace Go.Proofs.YtanebchmeaomgaaGreatDoor
open Go.RowKit M

set_option maxHeartbeats 400000 in
theorem pow2_16 (w : World) :
    Calls Tryz.prog 205 #[.int .i64 16] w fun e w' => e = .returned (.bool true) ∧ w' = w := by
  go_enter Tryz.func205, Tryz.ntmps205
  go_wp2
  go_ret
  exact ⟨rfl, rfl⟩

theorem idx_16 : (IntKind.u64.wrap (bits BinOp.and IntKind.u64 16 (IntKind.u64.wrap (-16)) * 285870213051353865) / 288230376151711744).toNat = 15 := by decide +kernel

def DeTab (w : World) : Prop := w.cell? ⟨3, 15, none⟩ = some (.int .u8 4)
theorem DeTab.below {w w' : World} (h : DeTab w) (hb : Below w.heap.size w w') : DeTab w' :=
  (hb.cell (p := ⟨3, 15, none⟩) (World.block_lt_of_cell? w _ h)).trans h

theorem de_glob : Tryz.prog.globalNamed "math/bits.deBruijn64tab" = some 3 := by kernel_rfl
def deNums : List Int := [0, 1, 56, 2, 57, 49, 28, 3, 61, 58, 42, 50, 38, 29, 17, 4, 62, 47, 59, 36, 45, 43, 51, 22, 53, 39, 33, 30, 24, 18, 12, 5, 63, 55, 48, 27, 60, 41, 37, 16, 46, 35, 44, 21, 52, 32, 23, 11, 54, 26, 40, 15, 34, 20, 31, 10, 25, 14, 19, 9, 13, 8, 7, 6]
theorem de_data : (Rows.laid_math_bits_deBruijn64tab : DataW Unit) = Lib.tabData .u8 deNums := by kernel_rfl

theorem deTab_of {W : World} {rest : List (String × DataW Unit)} (h : laidMet Tryz.prog (("math/bits.deBruijn64tab", Rows.laid_math_bits_deBruijn64tab) :: rest) W) : DeTab W := by
  rw [de_data] at h
  have ht := Lib.tabIs_of_head de_glob (t := 261) (n := 64) (e := 5) (by kernel_rfl) (by kernel_rfl) (by kernel_rfl) (by kernel_rfl) (by kernel_rfl) h
  exact ht.cell de_glob 15 (by decide)

set_option maxHeartbeats 400000 in
theorem trail_16 (w : World) (hc : w.cell? ⟨3, 15, none⟩ = some (.int .u8 4)) :
    Calls Tryz.prog 206 #[.int .u64 16] w fun e w' => e = .returned (.int .i64 4) ∧ w' = w := by
  rw [← idx_16] at hc
  go_enter Tryz.func206, Tryz.ntmps206
  go_wp2
  go_ret
  exact ⟨rfl, rfl⟩

theorem and_15 (m : Nat) (hm : m ≤ 9223372036854775807) : bits BinOp.and IntKind.u64 (m : Int) 15 = (m : Int) % 16 := by
  have h := bits_and_u64_nat m 15 (by omega) (by omega)
  rw [nat_mask4] at h
  simpa using h

theorem dig_at : ∀ d : Fin 16, (#[48, 49, 50, 51, 52, 53, 54, 55, 56, 57, 97, 98, 99, 100, 101, 102, 103, 104, 105, 106, 107, 108, 109, 110, 111, 112, 113, 114, 115, 116, 117, 118, 119, 120, 121, 122] : Array UInt8)[d.val]? = some (hexCh d.val) := by decide +kernel

theorem dig_get (d : Nat) (hd : d < 16) (h : d < (⟨#[48, 49, 50, 51, 52, 53, 54, 55, 56, 57, 97, 98, 99, 100, 101, 102, 103, 104, 105, 106, 107, 108, 109, 110, 111, 112, 113, 114, 115, 116, 117, 118, 119, 120, 121, 122]⟩ : ByteArray).size) : (⟨#[48, 49, 50, 51, 52, 53, 54, 55, 56, 57, 97, 98, 99, 100, 101, 102, 103, 104, 105, 106, 107, 108, 109, 110, 111, 112, 113, 114, 115, 116, 117, 118, 119, 120, 121, 122]⟩ : ByteArray)[d]'h = hexCh d := by
  have e := dig_at ⟨d, hd⟩
  obtain ⟨_, e2⟩ := Array.getElem?_eq_some_iff.1 e
  exact e2

theorem slice_65 (N f : Nat) (hf : f ≤ 15) (W : World) : (Instr.sliceAt 240 (.pointer (some ⟨N, 0, none⟩)) (some (.int .i64 ((f : Int) + 50 - 1))) none none).run Tryz.prog W = .ok (.slice (some ⟨N, f + 49, none⟩) (16 - f) (16 - f)) W := by
  have hal : Tryz.prog.arrayLen 240 = 65 := by kernel_rfl
  have hel : Tryz.prog.underlying 240 = some (.array 65 5) := by kernel_rfl
  have hco : Tryz.prog.cellsOf 5 = 1 := by kernel_rfl
  have h := run_sliceAt_array_l (P := Tryz.prog) W 240 ⟨N, 0, none⟩ (by simp [Program.arrayLen, Program.elem, hel]) .i64 ((f : Int) + 50 - 1) (by omega) (by rw [hal]; omega)
  rw [h]
  go_simp
  have e : ((f : Int) + 50).toNat - 1 = f + 49 := by omega
  rw [e, if_neg (by omega)]
  exact ⟨rfl, by omega⟩

theorem zero_65 (W : World) : (zeroValue 240).run Tryz.prog W = .ok (.agg (Array.replicate 65 (.int .u8 0))) W := by kernel_rfl

theorem row_65 (w : World) (T : TypeId) : RowAt (w.alloc (.cells (Array.replicate 65 (.int .u8 0)) T)) w.heap.size (List.replicate 65 0) := by
  intro j hj
  have hj' : j < 65 := by simpa using hj
  refine ⟨?_, ?_⟩
  · rw [World.cell?_alloc_new]
    have e : (List.replicate 65 (0 : UInt8))[j] = 0 := List.getElem_replicate _
    rw [e, Array.getElem?_replicate, if_pos hj']; rfl
  · simp

set_option maxHeartbeats 1000000 in
theorem formatBits_16 (u : Nat) (w : World) (hu : u ≤ 9223372036854775807) (hde : DeTab w) :
    Calls Tryz.prog 191 #[.slice none 0 0, .int .u64 u, .int .i64 16, .bool false, .bool false] w fun e w' => e = .returned (.tuple #[.slice none 0 0, .string ⟨(hexDigits u).toArray⟩]) ∧ Below w.heap.size w w' := by
  have HTR : Hid (∀ o, Calls Tryz.prog 206 #[.int .u64 16] (w.alloc o) fun e w' => e = .returned (.int .i64 4) ∧ w' = w.alloc o) := fun o => trail_16 _ (hde.below ((Below.refl _ _).alloc (Nat.le_refl _) o))
  clear hde
  have hz := zero_65
  have hr0 := row_65 w 240
  generalize Array.replicate 65 (Value.int IntKind.u8 0) = Z at hz hr0
  have HR : Hid (RowAt (w.alloc (.cells Z 240)) w.heap.size (List.replicate 65 0)) := hr0
  clear hr0
  go_enter Tryz.func191, Tryz.ntmps191
  go_wp2_with (first | (go_at_call 205; refine (pow2_16 _).mono ?_; rintro e w1 ⟨rfl, hw⟩; obtain rfl := hw.symm) | (go_at_call 206; refine (HTR.out _).mono ?_; rintro e w1 ⟨rfl, hw⟩; obtain rfl := hw.symm))
  go_loopw [1, 13] (fun x i wr => ∃ (f m : Nat) (pre t : List UInt8), x = .int .u64 m ∧ i = .int .i64 ((f + 50 : Nat) : Int) ∧ m ≤ 9223372036854775807 ∧ m < 16 ^ (f + 1) ∧ f ≤ 15 ∧ pre.length = f + 50 ∧ (pre ++ t).length = 65 ∧ hexDigits u = hexDig (f + 1) m ++ t ∧ RowAt wr w.heap.size (pre ++ t) ∧ Below w.heap.size w wr ∧ w.heap.size < wr.heap.size) (fun x _ _ => (intOf x).toNat)
  case atStart => exact ⟨15, u, List.replicate 65 0, [], rfl, rfl, hu, by omega, by omega, by simp, by simp, by simp [hexDigits], by rw [List.append_nil]; exact HR.out, (Below.refl _ _).alloc (Nat.le_refl _) _, by simp⟩
  case round =>
    clear HR
    obtain ⟨f, m, pre, t, rfl, rfl, hm, hf, hf15, hp, ht, hd, hrow, hbe, hN⟩ := hrel
    have HD : Hid (hexDigits u = hexDig (f + 1) m ++ t) := hd; clear hd
    have HF : Hid (m < 16 ^ (f + 1)) := hf; clear hf
    have HP : Hid (pre.length = f + 50) := hp; clear hp
    have HT : Hid ((pre ++ t).length = 65) := ht; clear ht
    have hlt49 : f + 49 < (pre ++ t).length := by rw [HT.out]; omega
    obtain ⟨hc, hfz⟩ := hrow (f + 49) hlt49
    generalize (pre ++ t)[f + 49] = old at hc
    clear hlt49
    have hand := and_15 m hm
    obtain ⟨q, hq1, hq2⟩ := set_last pre t (f + 49) HP.out (hexCh (m % 16))
    have hrow1 := hrow.set (f + 49) (by rw [HT.out]; omega) (hexCh (m % 16))
    rw [hq2] at hrow1
    have HQ : Hid (q.length = f + 49) := hq1
    have HL : Hid ((q ++ hexCh (m % 16) :: t).length = 65) := by
      show _ = _
      rw [← hq2, List.length_set]; exact HT.out
    clear hq1 hq2
    by_cases h15 : 15 < m
    · have h15' : (16 : Int) ≤ (m : Int) := by omega
      have hdg := dig_get (m % 16) (by omega)
      go_wp2
      go_roundw
      case rel =>
        obtain ⟨g, rfl⟩ : ∃ g, f = g + 1 := by
          cases f with
          | zero => exact absurd HF.out (by omega)
          | succ g => exact ⟨g, rfl⟩
        have h1 := HF.out
        rw [Nat.pow_succ] at h1
        refine ⟨g, m / 16, q, hexCh (m % 16) :: t, by go_num, by go_num, by omega, by omega, by omega, HQ.out, HL.out, ?_, hrow1, hbe.setCell (Nat.le_refl _) _, by simpa using hN⟩
        rw [HD.out]
        simp only [hexDig]
        rw [if_neg (by omega), List.append_assoc]; rfl
      case measure => simp [intOf]; omega
    · have h15' : ¬ (16 : Int) ≤ (m : Int) := by omega
      have em : m % 16 = m := Nat.mod_eq_of_lt (by omega)
      rw [em] at hrow1 HL
      have hdg := dig_get m (by omega)
      have hsl := slice_65 w.heap.size f hf15
      have hcv := conv_at (cap := 16 - f) (n := 16 - f) hrow1 HQ.out (by have := HL.out; have := HQ.out; simp at *; omega)
      clear em hand
      have HE : Hid (hexCh m :: t = hexDigits u) := by
        show _ = _
        rw [HD.out]
        simp only [hexDig]
        rw [if_pos (by omega)]; rfl
      go_wp2
      go_ret2
      refine ⟨?_, hbe.setCell (Nat.le_refl _) _⟩
      rw [HE.out]
      rfl

set_option maxHeartbeats 400000 in
theorem formatIntIn_16 (u : Nat) (w : World) (hu : u ≤ 9223372036854775807) (hde : DeTab w) :
    Calls Tryz.prog 166 #[.int .i64 u, .int .i64 16] w fun e w' => e = .returned (.string ⟨(hexDigits u).toArray⟩) ∧ Below w.heap.size w w' := by
  have HD : Hid (DeTab w) := hde
  clear hde
  go_enter Tryz.func166, Tryz.ntmps166
  go_wp2_with (go_at_call 191; refine (formatBits_16 u _ hu HD.out).mono ?_; rintro e w1 ⟨rfl, hb1⟩)
  go_ret
  exact ⟨rfl, hb1⟩

set_option maxHeartbeats 400000 in
theorem formatInt_16 (u : Nat) (w : World) (hu : u ≤ 9223372036854775807) (hde : DeTab w) :
    Calls Tryz.prog 172 #[.int .i64 u, .int .i64 16] w fun e w' => e = .returned (.string ⟨(hexDigits u).toArray⟩) ∧ Below w.heap.size w w' := by
  have HD : Hid (DeTab w) := hde
  clear hde
  go_enter Tryz.func172, Tryz.ntmps172
  go_wp2_with (go_at_call 166; refine (formatIntIn_16 u _ hu HD.out).mono ?_; rintro e w1 ⟨rfl, hb1⟩)
  go_ret
  exact ⟨rfl, hb1⟩

set_option maxHeartbeats 400000 in
theorem hex_any (n : Int) (w : World) (hn : n ≤ 9223372036854775807) (hde : DeTab w) :
    Calls Tryz.prog 134 #[.int .i64 n] w fun e w' => e = .returned (.string ⟨(hexDigits n.toNat).toArray⟩) ∧ Below w.heap.size w w' := by
  have HD : Hid (DeTab w) := hde
  clear hde
  by_cases h : n < 0
  · have e : n.toNat = 0 := by omega
    have e0 : max n 0 = ((0 : Nat) : Int) := by omega
    rw [e]
    go_enter Tryz.func134, Tryz.ntmps134
    go_wp2_with fail
    rw [show (0 : Int) = ((0 : Nat) : Int) from rfl]
    refine (formatInt_16 0 w (by omega) HD.out).mono ?_
    rintro e w' ⟨rfl, hb⟩
    go_wp2
    go_ret
    exact ⟨rfl, hb⟩
  · obtain ⟨m, rfl⟩ := Int.eq_ofNat_of_zero_le (by omega : 0 ≤ n)
    rw [Int.toNat_natCast]
    go_enter Tryz.func134, Tryz.ntmps134
    go_wp2_with fail
    refine (formatInt_16 m w (by omega) HD.out).mono ?_
    rintro e w' ⟨rfl, hb⟩
    go_wp2
    go_ret
    exact ⟨rfl, hb⟩
end Go.Proofs.YtanebchmeaomgaaGreatDoor
namespace Go.Proofs.YtanebchmeaomgaaGreatDoor
open Go.RowKit M
set_option linter.unusedVariables false

/-- The block of the one row is the other's, or it is new. -/
def NewOr (w : World) (v v' : Value) : Prop := v'.ownBlock = v.ownBlock ∨ ∃ g, w.heap.size ≤ g ∧ v'.ownBlock = some g
theorem grown_transV {w w1 w2 : World} {v v1 : Value} (h : w.grownBy w1 v.ownBlock) (hn : NewOr w v v1) (h2 : w1.grownBy w2 v1.ownBlock) : w.grownBy w2 v.ownBlock :=
  ⟨h2.os.trans h.os, h2.tape.trans h.tape, h2.output.trans h.output, Nat.le_trans h.size h2.size, fun k hk hne => (h2.block k (Nat.lt_of_lt_of_le hk h.size) (fun e => by
    rcases hn with e1 | ⟨g, hg, e1⟩
    · exact hne (by rw [e, e1])
    · rw [e1] at e
      have := Option.some.inj e
      omega)).trans (h.block k hk hne)⟩
theorem newOr_trans {w w1 : World} {v v1 v2 : Value} (hz : w.heap.size ≤ w1.heap.size) (h : NewOr w v v1) (h2 : NewOr w1 v1 v2) : NewOr w v v2 := by
  rcases h2 with e | ⟨g, hg, e⟩
  · rcases h with e1 | ⟨g, hg, e1⟩
    · exact .inl (e.trans e1)
    · exact .inr ⟨g, hg, e.trans e1⟩
  · exact .inr ⟨g, Nat.le_trans hz hg, e⟩
theorem newOr_of {w : World} {v v' : Value} (h : v'.ownBlock = v.ownBlock ∨ v'.ownBlock = some w.heap.size) : NewOr w v v' := by
  rcases h with e | e
  · exact .inl e
  · exact .inr ⟨_, Nat.le_refl _, e⟩
theorem grown_belowV {w w' : World} (r : Option Nat) (h : Below w.heap.size w w') : w.grownBy w' r := ⟨h.os, h.tape, h.output, h.size, fun k hk _ => h.block k hk⟩

set_option maxHeartbeats 1000000 in
theorem putChunk_any (w : World) (B : Nat) (v : Value) (l : List UInt8) (x : ByteArray) (h : OwnY w B v l) (hB : B ≤ w.heap.size) (hl : l.length ≤ 2199023255552) (hx : x.size ≤ 1073741824) (hde : DeTab w) :
    Calls Tryz.prog 89 #[v, .string x] w fun e w' => ∃ v', e = .returned v' ∧ OwnY w' B v' (l ++ chTxt x.data.toList) ∧ w.grownBy w' v.ownBlock ∧ NewOr w v v' := by
  have HH := hide (hex_any (x.size : Int) w (by omega) hde)
  have hd16 : (hexDigits x.size).length ≤ 16 := hexDig_le 16 _
  obtain ⟨d, hd⟩ : ∃ d, (⟨(hexDigits x.size).toArray⟩ : ByteArray) = d := ⟨_, rfl⟩
  have hdz : d.size ≤ 16 := by rw [← hd]; exact hd16
  have HD : Hid (d.data.toList = hexDigits x.size) := by show d.data.toList = _; rw [← hd]
  rw [Int.toNat_natCast, hd] at HH
  have HO := hide h
  clear h hd hd16 hde
  go_enter Tryz.func89, Tryz.ntmps89
  go_wp2_with fail
  refine HH.out.mono ?_
  rintro e w0 ⟨rfl, b0⟩
  have HO0 := hide (HO.out.next b0)
  have G0 := hide (grown_belowV v.ownBlock b0)
  have z0 := b0.size
  clear HH HO b0
  go_wp2_with (at_builtin; refine wp_append_text rfl _ _ rfl B v l rfl HO0.out d rfl ?c1 ?c2 ?_)
  case c1 => omega
  case c2 => omega
  intro v1 w1 ho1 hg1 hb1
  have G1 := hide (grown_transV G0.out (.inl rfl) hg1)
  have N1 := hide (newOr_trans z0 (v := v) (v1 := v) (.inl rfl) (newOr_of hb1))
  have z1 := G1.out.size
  have HO1 := hide ho1
  clear hg1 hb1 ho1 HO0 G0 z0
  go_wp2_with (at_builtin; refine wp_append_text rfl _ _ rfl B v1 (l ++ d.data.toList) rfl HO1.out ⟨#[13, 10]⟩ rfl ?c1 ?c2 ?_)
  case c1 => have e : d.data.toList.length = d.size := Array.length_toList; have e2 : (⟨#[13, 10]⟩ : ByteArray).size = 2 := rfl; rw [List.length_append]; omega
  case c2 => omega
  intro v2 w2 ho2 hg2 hb2
  have G2 := hide (grown_transV G1.out N1.out hg2)
  have N2 := hide (newOr_trans z1 N1.out (newOr_of hb2))
  have z2 := G2.out.size
  have HO2 := hide ho2
  clear hg2 hb2 ho2 HO1 G1 N1 z1
  go_wp2_with (at_builtin; refine wp_append_text rfl _ _ rfl B v2 _ rfl HO2.out x rfl ?c1 ?c2 ?_)
  case c1 => have e : d.data.toList.length = d.size := Array.length_toList; rw [List.length_append, List.length_append]; simp only [List.length_cons, List.length_nil]; omega
  case c2 => omega
  intro v3 w3 ho3 hg3 hb3
  have G3 := hide (grown_transV G2.out N2.out hg3)
  have N3 := hide (newOr_trans z2 N2.out (newOr_of hb3))
  have z3 := G3.out.size
  have HO3 := hide ho3
  clear hg3 hb3 ho3 HO2 G2 N2 z2
  go_wp2_with (at_builtin; refine wp_append_text rfl _ _ rfl B v3 _ rfl HO3.out ⟨#[13, 10]⟩ rfl ?c1 ?c2 ?_)
  case c1 => have e : d.data.toList.length = d.size := Array.length_toList; have e2 : x.data.toList.length = x.size := Array.length_toList; have e3 : (⟨#[13, 10]⟩ : ByteArray).size = 2 := rfl; simp only [List.length_append, List.length_cons]; omega
  case c2 => omega
  intro v4 w4 ho4 hg4 hb4
  have G4 := hide (grown_transV G3.out N3.out hg4)
  have N4 := hide (newOr_trans z3 N3.out (newOr_of hb4))
  have HO4 : Hid (OwnY w4 B v4 (l ++ chTxt x.data.toList)) := by
    show OwnY w4 B v4 (l ++ chTxt x.data.toList)
    have ex : x.data.toList.length = x.size := Array.length_toList
    have e : l ++ chTxt x.data.toList = l ++ (d.data.toList ++ 13 :: 10 :: (x.data.toList ++ [13, 10])) := by rw [HD.out]; simp [chTxt, crlf, ex]
    rw [e]
    have e2 : l ++ d.data.toList ++ (⟨#[13, 10]⟩ : ByteArray).data.toList ++ x.data.toList ++ (⟨#[13, 10]⟩ : ByteArray).data.toList = l ++ (d.data.toList ++ 13 :: 10 :: (x.data.toList ++ [13, 10])) := by simp
    rw [← e2]; first | exact ho4 | simpa using ho4
  clear ho4 hg4 hb4 HO3 G3 N3 z3
  go_wp2
  go_ret
  exact ⟨v4, rfl, HO4.out, G4.out, N4.out⟩
end Go.Proofs.YtanebchmeaomgaaGreatDoor
namespace Go.Proofs.YtanebchmeaomgaaGreatDoor
open Go.RowKit Go.Shelf M
set_option linter.unusedVariables false
attribute [local go_sem] Oper.semAt_some

/-- The text of the pieces that have come. -/
def pcsT (pre : List ByteArray) : List UInt8 := pre.flatMap fun x => chTxt x.data.toList
theorem pcsT_snoc (pre : List ByteArray) (x : ByteArray) : pcsT (pre ++ [x]) = pcsT pre ++ chTxt x.data.toList := by simp [pcsT]
theorem pcsT_all (ns : List Int) (s : ByteArray) : pcsT (pcsB ns s) = pcsTxt ns s.data.toList := by
  unfold pcsT pcsB pcsTxt
  rw [List.flatMap_map]
  rfl
theorem pcsT_len (pre : List Pc) : (pcsT (vals pre)).length ≤ pre.length * 1048596 := by
  induction pre with
  | nil => simp [pcsT, vals]
  | cons x r ih =>
    have h1 := chTxt_len x.1.data.toList
    have h2 : x.1.data.toList.length = x.1.size := Array.length_toList
    have h3 := x.2
    have e : pcsT (vals (x :: r)) = chTxt x.1.data.toList ++ pcsT (vals r) := by simp [pcsT, vals]
    rw [e, List.length_append, List.length_cons, Nat.succ_mul]
    omega
theorem pcsB_count (ns : List Int) (s : ByteArray) : (pcsB ns s).length ≤ s.size := by
  have h1 := pcsC_ne ns s.data.toList
  have h2 := pcsC_sum ns s.data.toList
  have e : s.data.toList.length = s.size := Array.length_toList
  unfold pcsB
  rw [List.length_map]
  have : ∀ ps : List (List UInt8), (∀ m ∈ ps, m ≠ []) → ps.length ≤ ps.flatten.length := by
    intro ps
    induction ps with
    | nil => simp
    | cons m ps ih =>
      intro h
      have a1 : 0 < m.length := List.length_pos_iff.2 (h m (by simp))
      have a2 := ih (fun x hx => h x (by simp [hx]))
      simp only [List.length_cons, List.flatten_cons, List.length_append]
      omega
  have h3 := this _ h1
  rw [h2] at h3
  omega
theorem OwnY.notBox {w : World} {B b : Nat} {v u : Value} {l : List UInt8} (h : OwnY w B v l) (hb : Boxed w b 22 u) : some b ≠ v.ownBlock := by
  obtain ⟨g, cap, cur, fz, rfl, hB, hg, _⟩ := h
  intro e
  simp [Value.ownBlock] at e
  subst e
  rw [show w.heap[b]? = _ from hb] at hg
  simp at hg
theorem OwnY.cells {w : World} {B : Nat} {v : Value} {l : List UInt8} (h : OwnY w B v l) : ∀ (j : Nat) (o : Obj), v.ownBlock = some j → w.heap[j]? = some o → o.isCells = true := by
  obtain ⟨g, cap, cur, fz, rfl, hB, hg, _⟩ := h
  intro j o e ho
  simp [Value.ownBlock] at e
  subst e
  rw [hg] at ho
  cases ho
  rfl
theorem OwnY.kept {w w' : World} {B : Nat} {v : Value} {l : List UInt8} {r : Option Nat} (h : OwnY w B v l) (hg : w.grownBy w' r) (hne : ∀ k, v.ownBlock = some k → some k ≠ r) : OwnY w' B v l := by
  obtain ⟨g, cap, cur, fz, rfl, hB, hg0, hr⟩ := h
  exact ⟨g, cap, cur, fz, rfl, hB, (hg.block g (Array.getElem?_eq_some_iff.1 hg0).1 (hne g rfl)).trans hg0, hr⟩

/-- Between two rounds: a box holds the row of what has come. -/
def PcsI (w : World) (b : Nat) (pre : List Pc) (W : World) : Prop := (∃ v, Boxed W b 22 v ∧ OwnY W w.heap.size v (pcsT (vals pre))) ∧ Below w.heap.size w W
theorem PcsI.own (w : World) (b C : Nat) (hC : w.heap.size ≤ C) : OwnFrom C (PcsI w b) := by
  refine OwnFrom.and (Own.from ?_ _) (ownFrom_below (Nat.le_refl _) hC)
  rintro s X Y row ⟨v, hv, ho⟩ hg hr
  refine ⟨v, hv.kept hg (fun e => ?_), ho.kept hg (fun k e e' => ?_)⟩
  · obtain ⟨o, h1, h2⟩ := hr b e.symm
    rw [show X.heap[b]? = _ from hv] at h1; cases h1; cases h2
  · obtain ⟨o, h1, h2⟩ := hr k e'.symm
    rw [ho.cells k o e h1] at h2; cases h2

set_option maxRecDepth 100000 in
set_option maxHeartbeats 2000000 in
theorem putChunks_any (s : ByteArray) (a : Option Addr) (ns : List Int) (cap B : Nat) (w : World) (hI : Ints w B a ns) (hB : B ≤ w.heap.size) (hs : s.size ≤ 1048576) (hnl : ns.length ≤ 1073741824) (hde : DeTab w) :
    Calls Tryz.prog 55 #[.string s, .slice a ns.length cap] w fun e w' => (∃ v, e = .returned v ∧ OwnY w' w.heap.size v (putCs ns s.data.toList)) ∧ Below w.heap.size w w' := by
  refine (callsIn_wide (n := 3)).1 ?_
  refine callsIn_of_wp_marks Tryz.func55 rfl trivial ?_ rfl
  simp only [Tryz.ntmps55, List.size_toArray, List.length_cons, List.length_nil, Nat.reduceAdd, Nat.reduceSub, Array.replicate_succ, Array.replicate_zero, List.push_toArray, List.append_toArray, List.nil_append, List.cons_append]
  gi_wp2_with (refine ⟨trivial, ?_⟩; gi_at_call 88; refine (piecesOf_in Fence.wide _ trivial rfl s a ns.length cap _).mono ?_; rintro e w' ⟨rfl, rfl⟩)
  have bO := Boxed.new (w.alloc (Obj.cells #[] 5)) 22 (.slice (some ⟨w.heap.size, 0, none⟩) 0 0)
  rw [World.size_alloc] at bO
  have hO := OwnY.bare w
  obtain ⟨W1, hW1⟩ : ∃ W1, (w.alloc (Obj.cells #[] 5)).alloc (Obj.cells #[.slice (some ⟨w.heap.size, 0, none⟩) 0 0] 22) = W1 := ⟨_, rfl⟩
  have hb1 : Below w.heap.size w W1 := by rw [← hW1]; exact ((Below.refl _ w).alloc (Nat.le_refl _) _).alloc (by simp) _
  have hz1 : W1.heap.size = w.heap.size + 1 + 1 := by rw [← hW1]; simp
  have hO1 : OwnY W1 w.heap.size (.slice (some ⟨w.heap.size, 0, none⟩) 0 0) [] := by rw [← hW1]; exact hO.next ((Below.refl _ _).alloc (Nat.le_refl _) _)
  rw [hW1] at bO ⊢
  clear hO hW1
  have bS := Boxed.new W1 9 (.string s)
  have bN := Boxed.new (W1.alloc (Obj.cells #[.string s] 9)) 41 (.slice a ns.length cap)
  have bS2 := bS.alloc (Obj.cells #[.slice a ns.length cap] 41)
  have bO2 := (bO.alloc (Obj.cells #[.string s] 9)).alloc (Obj.cells #[.slice a ns.length cap] 41)
  have hO2 := (hO1.next ((Below.refl _ _).alloc (Nat.le_refl _) (Obj.cells #[.string s] 9))).next ((Below.refl _ _).alloc (Nat.le_refl _) (Obj.cells #[.slice a ns.length cap] 41))
  rw [World.size_alloc] at bN
  have hb2 : Below w.heap.size w ((W1.alloc (Obj.cells #[.string s] 9)).alloc (Obj.cells #[.slice a ns.length cap] 41)) := (hb1.alloc hb1.size _).alloc (by simp; omega) _
  have hz2 : ((W1.alloc (Obj.cells #[.string s] 9)).alloc (Obj.cells #[.slice a ns.length cap] 41)).heap.size = w.heap.size + 4 := by simp; omega
  rw [hz1] at bS2 bN
  obtain ⟨W2, hW2⟩ : ∃ W2, (W1.alloc (Obj.cells #[.string s] 9)).alloc (Obj.cells #[.slice a ns.length cap] 41) = W2 := ⟨_, rfl⟩
  rw [hW2] at bN bS2 bO2 hO2 hb2 hz2 ⊢
  clear hW2 hb1 hO1 bO bS
  have HDe := hide hde
  clear hde
  refine wpIn_rangeFunc_ownG rfl (by omega) (gf := 133) (lb := #[.pointer (some ⟨w.heap.size + 1 + 1, 0, none⟩), .pointer (some ⟨w.heap.size + 1 + 1 + 1, 0, none⟩)]) rfl trivial (enters_of Tryz.func133 (by kernel_rfl) rfl)
    (pieces_stops Fence.wide _ trivial rfl (by omega) (w.heap.size + 1 + 1) (w.heap.size + 1 + 1 + 1) w.heap.size s hs a ns cap hnl W2 (by omega) (by omega) (by omega) bS2.cell bN.cell ((hI.mono hB).below hb2 (Nat.le_refl _))) belowK_t (belowK_b (by omega)) (Below.refl _ _) (fun _ => rfl)
    (PcsI w (w.heap.size + 1))
    (fun _ _ _ => False)
    (PcsI.own w _ _ (by omega))
    (fun _ _ _ _ _ hs _ _ => hs)
    ⟨⟨_, bO2, hO2⟩, hb2⟩
    (fun x => { tmps := #[.string s, .slice a ns.length cap, undef, undef, .slice none 0 0, .pointer (some ⟨w.heap.size + 1, 0, none⟩), .string x.1, .slice (some ⟨w.heap.size, 0, none⟩) 0 0, .string s, .slice a ns.length cap, .func (.func 133) #[] #[.pointer (some ⟨w.heap.size + 1 + 1, 0, none⟩), .pointer (some ⟨w.heap.size + 1 + 1 + 1, 0, none⟩)], .string x.1, undef, undef, undef, undef, undef], defers := [] }) ?assign ?body ?done ?stop
  case assign =>
    intro l x W K hK
    gi_wp2
    exact hK
  case body =>
    rintro l pre x W ⟨⟨v, hv, ho⟩, hb⟩ hlt
    have hcnt := pcsB_count ns s
    have hlen := pcsT_len pre
    have hx := x.2
    have hP := putChunk_any W w.heap.size v (pcsT (vals pre)) x.1 ho hb.size (by omega) (by omega) (HDe.out.below hb)
    rw [← pcsT_snoc, ← vals_snoc] at hP
    have HP := hide hP
    have HBe := hide hb
    have HO := hide ho
    have HV := hide hv
    have hc := hv.cell
    have hfz := hv.frozen
    obtain ⟨g, c, hvv, _⟩ := ho.byt
    subst hvv
    clear hP ho hb hlen hcnt
    gi_wp2_with (refine ⟨trivial, ?_⟩; gi_at_call 89; refine (CallsIn.inRound l (callsIn_wide.2 HP.out)).mono ?_; rintro e w1 ⟨v', rfl, ho1, hg1, hn1⟩; have hv1 := HV.out.kept hg1 (HO.out.notBox HV.out); have hc1 := hv1.cell; have hf1 := hv1.frozen; have HO1 := hide ho1; have HG1 := hide hg1; obtain ⟨g', c', hvv', _⟩ := ho1.byt; subst hvv'; clear ho1 hg1)
    have hgr := grownBy_setCell' w1 (w.heap.size + 1) (Value.slice (some ⟨g', 0, none⟩) (pcsT (vals (pre ++ [x]))).length c')
    have hbl := HO.out.grown HBe.out.size HG1.out
    exact ⟨((KeepsOthers.of_grownBy HG1.out (fun j o => HO.out.cells j o)).trans (KeepsOthers.setCell _ _ _)).from _, hbl.setCell (p := ⟨w.heap.size + 1, 0, none⟩) (Nat.le_succ _) _, ⟨_, hv1.set _, HO1.out.kept hgr (fun k e e' => HO1.out.notBox hv1 (by rw [← e', e]))⟩, HBe.out.trans (hbl.setCell (p := ⟨w.heap.size + 1, 0, none⟩) (Nat.le_succ _) _)⟩
  case done =>
    rintro D xs W hD hxs ⟨⟨v, hv, ho⟩, hb⟩ hK
    rw [show vals xs = pcsB ns s from hxs, pcsT_all] at ho
    have hlen := pcsTxt_len ns s.data.toList
    have es : s.data.toList.length = s.size := Array.length_toList
    have hP := putChunk_any W w.heap.size v _ ⟨#[]⟩ ho hb.size (by omega) (by decide) (HDe.out.below hb)
    rw [show pcsTxt ns s.data.toList ++ chTxt (⟨#[]⟩ : ByteArray).data.toList = putCs ns s.data.toList from rfl] at hP
    have HP := hide hP
    have HBe := hide hb
    have HO := hide ho
    have hc := hv.cell
    have hfz := hv.frozen
    have HK := hide hK
    obtain ⟨g, c, hvv, _⟩ := ho.byt
    subst hvv
    clear hP ho hb hlen hK
    gi_wp2_with (refine ⟨trivial, ?_⟩; gi_at_call 89; refine (callsIn_wide.2 HP.out).mono ?_; rintro e w1 ⟨v', rfl, ho1, hg1, hn1⟩; have HO1 := hide ho1; have HG1 := hide hg1; clear ho1 hg1)
    have hK1 : w1.heap[D]? = some (.deferred (some [])) := (HG1.out.block D (Array.getElem?_eq_some_iff.1 HK.out).1 (fun e => by have := HO.out.cells D _ e.symm HK.out; cases this)).trans HK.out
    refine ⟨by simp, .inl ⟨_, _, rfl, run_takeDeferred hK1, ?_⟩⟩
    have hbl := HO.out.grown HBe.out.size HG1.out
    exact ⟨_, results_tmp rfl _ _ _, ⟨_, rfl, HO1.out.kept (grownBy_putObj' w1 D _) (fun k e e' => by cases e'; have := HO1.out.cells D _ e hK1; cases this)⟩, HBe.out.trans (hbl.trans (belowK_b (w := w) (Nat.le_refl _) w1 D _ _ (by omega) hK1 rfl rfl))⟩
  case stop =>
    rintro D c pre W _ _ h _
    exact h.elim
end Go.Proofs.YtanebchmeaomgaaGreatDoor
namespace Go.Proofs.YtanebchmeaomgaaGreatDoor
open Go.RowKit M
set_option linter.unusedVariables false

theorem ret_stringC {a b : ByteArray} (h : a = b) : Ending.returned (.string a) = .returned (.string b) := by rw [h]
theorem empty_yes {s : ByteArray} (h : s.size = 0) : s.toList.isEmpty = true := by
  rw [ByteArray.toList_eq]
  have e : s.data.toList.length = s.size := Array.length_toList
  cases hq : s.data.toList with
  | nil => rfl
  | cons _ _ => rw [hq] at e; simp at e; omega
theorem empty_no {s : ByteArray} (h : ¬ s.size = 0) : s.toList.isEmpty = false := by
  rw [ByteArray.toList_eq]
  have e : s.data.toList.length = s.size := Array.length_toList
  cases hq : s.data.toList with
  | nil => rw [hq] at e; simp at e; omega
  | cons _ _ => rfl
theorem empty_list {s : ByteArray} (h : s.size = 0) : s.data.toList = [] := List.length_eq_zero_iff.1 (by rw [Array.length_toList]; exact h)

set_option maxHeartbeats 1000000 in
theorem l4Piece_any (s : ByteArray) (w : World) (hs : s.size ≤ 1073741824) :
    Calls Tryz.prog 92 #[.string s] w fun e w' => e = .returned (.string (bytesOf (chTxt0 s.data.toList))) ∧ Below w.heap.size w w' := by
  by_cases h0 : s.size = 0
  · have hz := empty_yes h0
    have HE : Hid (chTxt0 s.data.toList = []) := by show chTxt0 _ = _; rw [empty_list h0]; rfl
    go_enter Tryz.func92, Tryz.ntmps92
    go_wp2
    go_ret
    exact ⟨ret_stringC (by rw [HE.out]; rfl), Below.refl _ _⟩
  · have hz := empty_no h0
    have hd16 : (hexDigits s.size).length ≤ 16 := hexDig_le 16 _
    have hN := fun W => specHex_any (s.size : Int) W (by omega)
    obtain ⟨d, hd⟩ : ∃ d, (⟨(hexDigits s.size).toArray⟩ : ByteArray) = d := ⟨_, rfl⟩
    have hdz : d.size ≤ 16 := by rw [← hd]; exact hd16
    have HE : Hid (d ++ (⟨#[13, 10]⟩ : ByteArray) ++ s ++ ⟨#[13, 10]⟩ = bytesOf (chTxt0 s.data.toList)) := by
      show d ++ (⟨#[13, 10]⟩ : ByteArray) ++ s ++ ⟨#[13, 10]⟩ = _
      have hl : s.data.toList.length = s.size := Array.length_toList
      have hne : s.data.toList ≠ [] := fun e => h0 (by rw [← hl, e]; rfl)
      rw [← hd, chTxt0, if_neg hne]
      apply ByteArray.ext
      simp [bytesOf, chTxt, crlf, hl]
    simp only [Int.toNat_natCast, hd] at hN
    have HN := hide hN
    clear hN hd hd16 h0
    have hq1 : ¬ (9223372036854775807 < d.size + 2) := by omega
    have hq2 : ¬ (9223372036854775807 < d.size + 2 + s.size) := by omega
    have hq3 : ¬ (9223372036854775807 < d.size + 2 + s.size + 2) := by omega
    go_enter Tryz.func92, Tryz.ntmps92
    go_wp2_with (go_at_call 138; refine (HN.out _).mono ?_; rintro e w1 ⟨rfl, b1⟩)
    go_ret
    exact ⟨ret_stringC HE.out, b1⟩

theorem pcs_cut {n : Int} {r : List Int} {t : ByteArray} (m : Nat) (h : n = m) (h1 : 1 ≤ n) : pcsTxt (n :: r) t.data.toList = chTxt0 (t.extract 0 m).data.toList ++ pcsTxt r (t.extract m t.size).data.toList := by
  rw [pcsTxt_step r _ h1, cut_to, cut_from, h, Int.toNat_natCast]
  rfl
theorem pcs_rest {n : Int} {r : List Int} {t : ByteArray} (h1 : 1 ≤ n) (h : (t.size : Int) < n) : pcsTxt (n :: r) t.data.toList = chTxt0 t.data.toList ++ pcsTxt r (ByteArray.empty).data.toList := by
  have hl : t.data.toList.length = t.size := Array.length_toList
  rw [pcsTxt_step r _ h1, List.take_of_length_le (by omega), List.drop_of_length_le (by omega)]
  rfl
theorem app_bytes (u : ByteArray) (m : List UInt8) : (u ++ bytesOf m).data.toList = u.data.toList ++ m := by simp [bytesOf]

set_option maxRecDepth 100000 in
set_option maxHeartbeats 2000000 in
theorem l4Text_any (b : ByteArray) (a : Option Addr) (ns : List Int) (cap B : Nat) (w : World) (hI : Ints w B a ns) (hB : B ≤ w.heap.size) (hb : b.size ≤ 1048576) (hnl : ns.length ≤ 1073741824) :
    Calls Tryz.prog 58 #[.string b, .slice a ns.length cap] w fun e w' => e = .returned (.string (bytesOf (putCs ns b.data.toList))) ∧ Below w.heap.size w w' := by
  have HI0 := hide hI
  have HL : Hid ((pcsTxt ns b.data.toList).length ≤ 22020096) := by
    show (pcsTxt ns b.data.toList).length ≤ _
    have h1 := pcsTxt_len ns b.data.toList
    have e : b.data.toList.length = b.size := Array.length_toList
    omega
  clear hI
  go_enter Tryz.func58, Tryz.ntmps58
  go_wp2
  go_loopw [0, 5, 6] (fun bv sv iv wr => ∃ (k : Nat) (t u : ByteArray), k ≤ ns.length ∧ iv = .int .i64 k ∧ bv = .string t ∧ sv = .string u ∧ t.size ≤ 1048576 ∧ pcsTxt ns b.data.toList = u.data.toList ++ pcsTxt (ns.drop k) t.data.toList ∧ Below w.heap.size w wr) (fun _ _ iv _ => ns.length - (intOf iv).toNat)
  case atStart => exact ⟨0, b, _, Nat.zero_le _, rfl, rfl, rfl, hb, rfl, Below.refl _ _⟩
  case round =>
    obtain ⟨k, t, u, hk, rfl, rfl, rfl, ht, hx, hbe⟩ := hrel
    have hu : u.size ≤ 22020096 := by
      have h1 := HL.out
      rw [hx, List.length_append] at h1
      have e : u.data.toList.length = u.size := Array.length_toList
      omega
    have HX := hide hx
    have HB := hide hbe
    clear hx hbe
    by_cases hlt : k < ns.length
    · obtain ⟨bb, o, rfl, hbb, hc⟩ := (HI0.out.mono hB).below HB.out (Nat.le_refl _) (by omega)
      have hck := hc k hlt
      have HDr := hide (List.drop_eq_getElem_cons hlt)
      clear hc
      obtain ⟨z, hz⟩ : ∃ z, ns[k] = z := ⟨_, rfl⟩
      rw [hz] at hck HDr
      clear hz
      by_cases hz1 : z < 1
      · have HS : Hid (pcsTxt ns b.data.toList = u.data.toList ++ pcsTxt (ns.drop (k + 1)) t.data.toList) := by show pcsTxt ns _ = _; rw [HX.out, HDr.out, pcsTxt_skip _ _ hz1]
        go_wp2
        go_roundw
        case rel => exact ⟨k + 1, t, u, by omega, by go_num, rfl, rfl, ht, HS.out, HB.out⟩
        case measure => simp [intOf]; omega
      · by_cases hzt : z ≤ t.size
        · obtain ⟨m, rfl⟩ := Int.eq_ofNat_of_zero_le (by omega : 0 ≤ z)
          have hmt : m ≤ t.size := by omega
          have hsz : (t.extract m t.size).size = t.size - m := by rw [ByteArray.size_extract]; omega
          have hs0 : (t.extract 0 m).size = m := by rw [ByteArray.size_extract]; omega
          have HP := hide (fun W => l4Piece_any (t.extract 0 m) W (by omega))
          obtain ⟨q, hq⟩ : ∃ q, bytesOf (chTxt0 (t.extract 0 m).data.toList) = q := ⟨_, rfl⟩
          have hqz : q.size ≤ 22020096 := by
            rw [← hq]
            have e : (t.extract 0 m).data.toList.length = (t.extract 0 m).size := Array.length_toList
            have := chTxt0_len (t.extract 0 m).data.toList
            show (chTxt0 (t.extract 0 m).data.toList).toArray.size ≤ _
            rw [List.size_toArray]
            omega
          have HS : Hid (pcsTxt ns b.data.toList = (u ++ q).data.toList ++ pcsTxt (ns.drop (k + 1)) (t.extract m t.size).data.toList) := by
            show pcsTxt ns _ = _
            rw [HX.out, HDr.out, pcs_cut m rfl (by omega), ← hq, app_bytes, List.append_assoc]
          rw [hq] at HP
          have hq1 : ¬ (9223372036854775807 < u.size + q.size) := by omega
          clear hq
          go_wp2_with (go_at_call 92; refine (HP.out _).mono ?_; rintro e w1 ⟨rfl, b1⟩)
          have c1 := HB.out.trans (b1.mono HB.out.size)
          go_roundw
          case rel => exact ⟨k + 1, t.extract m t.size, u ++ q, by omega, by go_num, rfl, rfl, by omega, HS.out, c1⟩
          case measure => simp [intOf]; omega
        · have HP := hide (fun W => l4Piece_any t W (by omega))
          obtain ⟨q, hq⟩ : ∃ q, bytesOf (chTxt0 t.data.toList) = q := ⟨_, rfl⟩
          have hqz : q.size ≤ 22020096 := by
            rw [← hq]
            have e : t.data.toList.length = t.size := Array.length_toList
            have := chTxt0_len t.data.toList
            show (chTxt0 t.data.toList).toArray.size ≤ _
            rw [List.size_toArray]
            omega
          have HS : Hid (pcsTxt ns b.data.toList = (u ++ q).data.toList ++ pcsTxt (ns.drop (k + 1)) (ByteArray.empty).data.toList) := by
            show pcsTxt ns _ = _
            rw [HX.out, HDr.out, pcs_rest (by omega) (by omega), ← hq, app_bytes, List.append_assoc]
          rw [hq] at HP
          have hq1 : ¬ (9223372036854775807 < u.size + q.size) := by omega
          clear hq
          go_wp2_with (go_at_call 92; refine (HP.out _).mono ?_; rintro e w1 ⟨rfl, b1⟩)
          have c1 := HB.out.trans (b1.mono HB.out.size)
          go_roundw
          case rel => exact ⟨k + 1, ByteArray.empty, u ++ q, by omega, by go_num, rfl, rfl, Nat.zero_le _, HS.out, c1⟩
          case measure => simp [intOf]; omega
    · have HP := hide (fun W => l4Piece_any t W (by omega))
      obtain ⟨q, hq⟩ : ∃ q, bytesOf (chTxt0 t.data.toList) = q := ⟨_, rfl⟩
      have hqz : q.size ≤ 22020096 := by
        rw [← hq]
        have e : t.data.toList.length = t.size := Array.length_toList
        have := chTxt0_len t.data.toList
        show (chTxt0 t.data.toList).toArray.size ≤ _
        rw [List.size_toArray]
        omega
      have HS : Hid (u ++ q ++ (⟨#[48]⟩ : ByteArray) ++ ⟨#[13, 10]⟩ ++ ⟨#[13, 10]⟩ = bytesOf (putCs ns b.data.toList)) := by
        show u ++ q ++ (⟨#[48]⟩ : ByteArray) ++ ⟨#[13, 10]⟩ ++ ⟨#[13, 10]⟩ = _
        unfold putCs
        rw [HX.out, List.drop_of_length_le (by omega), pcsTxt_end, chTxt_nil, ← hq]
        apply ByteArray.ext
        simp [bytesOf]
      rw [hq] at HP
      have hq1 : ¬ (9223372036854775807 < u.size + q.size) := by omega
      have hq2 : ¬ (9223372036854775807 < u.size + q.size + 1) := by omega
      have hq3 : ¬ (9223372036854775807 < u.size + q.size + 1 + 2) := by omega
      have hq4 : ¬ (9223372036854775807 < u.size + q.size + 1 + 2 + 2) := by omega
      clear hq
      go_wp2_with (go_at_call 92; refine (HP.out _).mono ?_; rintro e w1 ⟨rfl, b1⟩)
      have c1 := HB.out.trans (b1.mono HB.out.size)
      go_ret
      exact ⟨ret_stringC HS.out, c1⟩

theorem below_bytesC (w : World) (s : ByteArray) : Below w.heap.size w (Lib.bytesWorld w 5 s) :=
  ⟨rfl, rfl, rfl, by rw [Lib.bytesWorld_size]; omega, fun k hk => Lib.bytesWorld_at_old w 5 s k hk⟩
theorem byt_bytesC (w : World) (s : ByteArray) : Byt (Lib.bytesWorld w 5 s) (w.heap.size + 1) (some ⟨w.heap.size, 0, none⟩) s.data.toList := fun _ =>
  ⟨w.heap.size, 0, rfl, Nat.lt_succ_self _, fun j hj => by
    have e : s.data.toList.length = s.size := Array.length_toList
    rw [Nat.zero_add, Lib.bytesWorld_cell w 5 s j (by omega)]
    simp [List.getD, List.getElem?_eq_getElem hj]⟩
end Go.Proofs.YtanebchmeaomgaaGreatDoor
namespace Go.Proofs.YtanebchmeaomgaaGreatDoor
open Go.RowKit M
set_option linter.unusedVariables false

def chkW : ByteArray := ⟨#[99, 104, 117, 110, 107, 101, 100]⟩
def codLine : List UInt8 := hdsTxt [(codName, chkW)]
theorem codLine_eq : codLine = (⟨#[116, 114, 97, 110, 115, 102, 101, 114, 45, 101, 110, 99, 111, 100, 105, 110, 103, 58, 32, 99, 104, 117, 110, 107, 101, 100, 13, 10]⟩ : ByteArray).data.toList := by decide
/-- The bytes of a request in pieces. -/
def putKL (r : Rq) (ns : List Int) : List UInt8 := put0 r codLine (putCs ns r.b.data.toList)
theorem putCs_le (ns : List Int) (b : ByteArray) (h : b.size ≤ 1048576) : (putCs ns b.data.toList).length ≤ 33554432 := by
  have h1 := pcsTxt_len ns b.data.toList
  have e : b.data.toList.length = b.size := Array.length_toList
  unfold putCs
  rw [List.length_append, chTxt_nil]
  simp only [List.length_cons, List.length_nil]
  omega

set_option maxRecDepth 100000 in
set_option maxHeartbeats 4000000 in
theorem specPutChunkedO_any (a : Option Addr) (r : Rq) (cap B : Nat) (a2 : Option Addr) (ns : List Int) (cap2 : Nat) (w : World) (h : Hds w B a r.hs) (hB : B ≤ w.heap.size) (hI : Ints w w.heap.size a2 ns) (hsh : ShortR r) (hl : r.hs.length ≤ 1048576) (hsum : sumH r.hs ≤ 1048576) (h1 : r.m.size ≤ 1048576) (h2 : r.p.size ≤ 1048576) (h4 : r.b.size ≤ 1048576) (hnl : ns.length ≤ 1048576) :
    Calls Tryz.prog 21 #[.agg #[.string r.m, .string r.p, .slice a r.hs.length cap, .string r.b], .slice a2 ns.length cap2] w fun e w' => (∃ (g c : Nat), e = .returned (.slice (some ⟨g, 0, none⟩) (putKL r ns).length c) ∧ OwnY w' w.heap.size (.slice (some ⟨g, 0, none⟩) (putKL r ns).length c) (putKL r ns)) ∧ Below w.heap.size w w' := by
  have HB0 : Hid (Below w.heap.size w (w.alloc (Obj.cells #[Value.string r.m, Value.string r.p, Value.slice a r.hs.length cap, Value.string r.b] 39))) := (Below.refl _ _).alloc (Nat.le_refl _) _
  have HX0 := hide (BoxR.made w a cap r 39)
  have HH := hide h
  have HS := hide hsh
  have HI := hide hI
  clear h hsh hI
  obtain ⟨t, ht⟩ : ∃ t, bytesOf (putCs ns r.b.data.toList) = t := ⟨_, rfl⟩
  have hl2 : putCs ns r.b.data.toList = t.data.toList := by rw [← ht]; rfl
  have htz : t.size ≤ 33554432 := by
    have := putCs_le ns r.b h4
    rw [hl2] at this
    have e : t.data.toList.length = t.size := Array.length_toList
    omega
  have hT : ∀ W, Below w.heap.size w W → Calls Tryz.prog 58 #[.string r.b, .slice a2 ns.length cap2] W fun e w' => e = .returned (.string t) ∧ Below W.heap.size W w' := by
    intro W hW
    have h := l4Text_any r.b a2 ns cap2 w.heap.size W (HI.out.below hW (Nat.le_refl _)) hW.size h4 (by omega)
    rwa [ht] at h
  have HT := hide hT
  have hP : ∀ W, Below w.heap.size w W → Calls Tryz.prog 56 #[.agg #[.string r.m, .string r.p, .slice a r.hs.length cap, .string r.b], .string ⟨#[116, 114, 97, 110, 115, 102, 101, 114, 45, 101, 110, 99, 111, 100, 105, 110, 103, 58, 32, 99, 104, 117, 110, 107, 101, 100, 13, 10]⟩, .string t] W fun e w' => (∃ (g c : Nat), e = .returned (.slice (some ⟨g, 0, none⟩) (putKL r ns).length c) ∧ OwnY w' W.heap.size (.slice (some ⟨g, 0, none⟩) (putKL r ns).length c) (putKL r ns)) ∧ Below W.heap.size W w' := by
    intro W hW
    have h := l3PutO_any a r cap B ⟨#[116, 114, 97, 110, 115, 102, 101, 114, 45, 101, 110, 99, 111, 100, 105, 110, 103, 58, 32, 99, 104, 117, 110, 107, 101, 100, 13, 10]⟩ t W (HH.out.below hW hB) (Nat.le_trans hB hW.size) HS.out hl hsum h1 h2 (by decide) htz
    rw [← codLine_eq, ← hl2] at h
    exact h
  have HP := hide hP
  clear hP hT ht hl2
  have BX0d := hide HX0.out.drew
  have C0d := hide (below_drew HB0.out)
  have K0 := hide (keep4 BX0d.out)
  go_enter Tryz.func21, Tryz.ntmps21
  go_wp2
  go_region_held3 (fun W => W.cell? ⟨w.heap.size, 0, none⟩ = some (.string r.m) ∧ W.cell? ⟨w.heap.size, 1, none⟩ = some (.string r.p) ∧ W.cell? ⟨w.heap.size, 2, none⟩ = some (.slice a r.hs.length cap) ∧ W.cell? ⟨w.heap.size, 3, none⟩ = some (.string r.b)) (first | exact K0.out | exact K1.out | exact K2.out) (first
    | (go_at_call 58; refine (HT.out _ C0d.out).mono ?_; rintro e w1 ⟨rfl, b1⟩; have c1 := C0d.out.trans (b1.mono C0d.out.size); have BX1 := hide (BX0d.out.next b1); have K1 := hide (keep4 BX1.out))
    | (go_at_call 56; refine (HP.out w1 c1).mono ?_; rintro e w2 ⟨⟨g, c, rfl, y2⟩, b2⟩; have c2 := c1.trans (b2.mono c1.size); have BX2 := hide (BX1.out.next b2); have K2 := hide (keep4 BX2.out)))
  all_goals
    have o2 := y2.base c1.size
    clear y2
    go_wp2
    go_ret
    exact ⟨⟨g, c, rfl, o2⟩, c2⟩
theorem specPutChunked_any (a : Option Addr) (r : Rq) (cap B : Nat) (a2 : Option Addr) (ns : List Int) (cap2 : Nat) (w : World) (h : Hds w B a r.hs) (hB : B ≤ w.heap.size) (hI : Ints w w.heap.size a2 ns) (hsh : ShortR r) (hl : r.hs.length ≤ 1048576) (hsum : sumH r.hs ≤ 1048576) (h1 : r.m.size ≤ 1048576) (h2 : r.p.size ≤ 1048576) (h4 : r.b.size ≤ 1048576) (hnl : ns.length ≤ 1048576) :
    Calls Tryz.prog 21 #[.agg #[.string r.m, .string r.p, .slice a r.hs.length cap, .string r.b], .slice a2 ns.length cap2] w fun e w' => (∃ (g c : Nat), e = .returned (.slice (some ⟨g, 0, none⟩) (putKL r ns).length c) ∧ Byt w' w'.heap.size (some ⟨g, 0, none⟩) (putKL r ns)) ∧ Below w.heap.size w w' := by
  refine (specPutChunkedO_any a r cap B a2 ns cap2 w h hB hI hsh hl hsum h1 h2 h4 hnl).mono ?_
  rintro e w1 ⟨⟨g, c, rfl, ho⟩, hb⟩
  obtain ⟨g', c', e', _, _, _, _, hy⟩ := ho.byt
  cases e'
  exact ⟨⟨g, c, rfl, hy⟩, hb⟩

set_option maxRecDepth 100000 in
set_option maxHeartbeats 4000000 in
theorem putChunked_any (a : Option Addr) (r : Rq) (cap B : Nat) (a2 : Option Addr) (ns : List Int) (cap2 : Nat) (w : World) (h : Hds w B a r.hs) (hB : B ≤ w.heap.size) (hI : Ints w w.heap.size a2 ns) (hfit : FitR r) (hl : r.hs.length ≤ 1048576) (hsum : sumH r.hs ≤ 1048576) (h1 : r.m.size ≤ 1048576) (h2 : r.p.size ≤ 1048576) (h4 : r.b.size ≤ 1048576) (hnl : ns.length ≤ 1048576) (hde : DeTab w) :
    Calls Tryz.prog 19 #[.agg #[.string r.m, .string r.p, .slice a r.hs.length cap, .string r.b], .slice a2 ns.length cap2] w fun e w' => (∃ v, e = .returned v ∧ OwnY w' w.heap.size v (putKL r ns)) ∧ Below w.heap.size w w' := by
  have HB0 : Hid (Below w.heap.size w (w.alloc (Obj.cells #[Value.string r.m, Value.string r.p, Value.slice a r.hs.length cap, Value.string r.b] 39))) := (Below.refl _ _).alloc (Nat.le_refl _) _
  have HX0 := hide (BoxR.made w a cap r 39)
  have HH := hide h
  have HF := hide hfit
  have HI := hide hI
  have HDe := hide hde
  clear h hfit hI hde
  obtain ⟨w2, hw2⟩ : ∃ w2, w.alloc (Obj.cells #[Value.string r.m, Value.string r.p, Value.slice a r.hs.length cap, Value.string r.b] 39) = w2 := ⟨_, rfl⟩
  have c3 := HB0.out.alloc HB0.out.size (Obj.cells #[Value.string codName, Value.string chkW] 82)
  have BX3 := hide (HX0.out.alloc (Obj.cells #[Value.string codName, Value.string chkW] 82))
  rw [hw2] at c3 BX3
  have H3 := hide (HH.out.below c3 hB)
  have hH2 := hide ((Hds.one w2 codName chkW 82).mono (show w2.heap.size + 1 ≤ (w2.alloc (Obj.cells #[Value.string codName, Value.string chkW] 82)).heap.size by simp))
  have C3 := hide c3
  have hsz2 : w2.heap.size = w.heap.size + 1 := by rw [← hw2]; simp
  clear c3
  have hs2 : sumH [(codName, chkW)] ≤ 1048576 := by decide
  obtain ⟨L, hL⟩ : ∃ L, frontL r (hdsTxt [(codName, chkW)]) = L := ⟨_, rfl⟩
  have HLf : Hid (frontL r codLine = L) := hL
  cases hr : reqB r
  · have HE : Hid (putKL r ns = []) := by show putKL r ns = []; simp [putKL, put0, hr]
    have HP := hide (putAhead_no a r cap B (some ⟨w2.heap.size, 0, none⟩) 1 1 _ H3.out (Nat.le_trans hB C3.out.size) HF.out hr)
    rw [hsz2] at HP
    rw [← hw2] at HP C3
    go_enter Tryz.func19, Tryz.ntmps19
    clear hw2 hsz2
    go_wp2_with fail
    refine HP.out.mono ?_
    rintro e w1 ⟨rfl, b1⟩
    have c1 := C3.out.trans (b1.mono C3.out.size)
    clear HP
    go_wp2
    go_ret
    rw [HE.out]
    exact ⟨⟨_, rfl, (OwnY.bare w1).base c1.size⟩, c1.alloc c1.size _⟩
  · have HP := hide (putAhead_yes a r cap B (some ⟨w2.heap.size, 0, none⟩) [(codName, chkW)] 1 _ H3.out (Nat.le_trans hB C3.out.size) hH2.out HF.out hl hsum (by simp) hs2 h1 h2 hr)
    rw [hL] at HP
    rw [hsz2] at HP
    rw [← hw2] at HP C3 BX3
    clear hw2 hsz2 hL H3 hH2
    go_enter Tryz.func19, Tryz.ntmps19
    go_wp2_with fail
    refine HP.out.mono ?_
    rintro e w1 ⟨⟨v1, rfl, o1, z1⟩, b1⟩
    have c1 := C3.out.trans (b1.mono C3.out.size)
    have O1 := hide (o1.base C3.out.size)
    have BX1 := hide (BX3.out.next b1)
    obtain ⟨xl, x10, x11, x12, x13⟩ := BX1.out
    clear o1 b1 HP C3 BX3
    by_cases h400 : L.length ≤ 400
    · have HE : Hid (putKL r ns = L ++ putCs ns r.b.data.toList) := by
        show putKL r ns = _
        unfold putKL put0
        rw [HLf.out, if_pos ⟨hr, h400⟩]
      have hcl := putCs_le ns r.b h4
      have HC := hide (putChunks_any r.b a2 ns cap2 w.heap.size w1 (HI.out.below c1 (Nat.le_refl _)) c1.size h4 (by omega) (HDe.out.below c1))
      obtain ⟨m, hm⟩ : ∃ m, putCs ns r.b.data.toList = m := ⟨_, rfl⟩
      rw [hm] at HC HE hcl
      clear hm
      rw [decide_eq_true h400]
      go_wp2_with fail
      refine HC.out.mono ?_
      rintro e w3 ⟨⟨v3, rfl, o3⟩, b3⟩
      have c3 := c1.trans (b3.mono c1.size)
      have O3 := hide (O1.out.next b3)
      obtain ⟨g3, k3, hv3, hg3, hl3, _, _, y3⟩ := o3.byt
      subst hv3
      have hcell : ∀ j (hj : j < m.length), w3.cell? ⟨g3, j, none⟩ = some (.int .u8 m[j].toNat) := by
        intro j hj
        obtain ⟨b', o', e, _, hcc⟩ := y3 (by omega)
        cases e
        have := hcc j hj
        rwa [Nat.zero_add] at this
      have HCell := hide hcell
      clear HC o3 b3 y3 O1 hcell x10 x11 x12 x13
      go_wp2_with (at_builtin; refine wp_append_byts rfl _ _ rfl w.heap.size v1 L rfl O3.out g3 m k3 rfl HCell.out ?c1 ?c2 ?_)
      case c1 => omega
      case c2 => exact c3.size
      intro v5 w5 ho5 hg5 hb5
      have c5 := c3.trans (O3.out.grown c3.size hg5)
      have HO5 := hide ho5
      clear ho5 hg5 hb5
      go_wp2
      go_ret
      rw [HE.out]
      exact ⟨⟨_, rfl, HO5.out⟩, c5⟩
    · have HE : Hid (putKL r ns = []) := by
        show putKL r ns = _
        unfold putKL put0
        rw [HLf.out, if_neg (fun h => h400 h.2)]
      rw [decide_eq_false h400]
      go_wp2
      go_ret
      rw [HE.out]
      exact ⟨⟨_, rfl, (OwnY.bare w1).base c1.size⟩, c1.alloc c1.size _⟩
end Go.Proofs.YtanebchmeaomgaaGreatDoor
