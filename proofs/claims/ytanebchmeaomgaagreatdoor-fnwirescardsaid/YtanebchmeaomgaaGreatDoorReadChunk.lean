/-
  What the program's passLineEnd, readSize and readChunk do.
-/
import Derived.Test.YtanebchmeaomgaaGreatDoorMathGet
import Derived.Test.YtanebchmeaomgaaGreatDoorStepByts
import Derived.Test.YtanebchmeaomgaaGreatDoorHeads
import Derived.Test.YtanebchmeaomgaaGreatDoorParseHex
import Derived.Test.YtanebchmeaomgaaGreatDoorShelf
import Derived.Lib.SlBytesConst
import Derived.Lib.SlFresh
import Derived.Lib.ConvBytes
import Derived.Deep.RegionHeld3
import Derived.Laws.Rows
namespace Go.Proofs.YtanebchmeaomgaaGreatDoor
open Go.RowKit M
set_option linter.unusedVariables false

theorem bytI_eq {l : List UInt8} {k : Nat} (h : k < l.length) (c : UInt8) (hc : l.getD k 0 = c) : ((l[k].toNat : Int) != (c.toNat : Int)) = false := by
  have e : l[k] = c := by rw [← hc]; simp [List.getD, List.getElem?_eq_getElem h]
  rw [e]; simp
theorem bytI_ne {l : List UInt8} {k : Nat} (h : k < l.length) (c : UInt8) (hc : l.getD k 0 ≠ c) : ((l[k].toNat : Int) != (c.toNat : Int)) = true := by
  have e : l[k] = l.getD k 0 := by simp [List.getD, List.getElem?_eq_getElem h]
  rw [bne_iff_ne]; intro h2; exact hc (by rw [← e]; exact UInt8.toNat_inj.1 (by omega))
theorem ret_two_int {a b a' b' : Int} (h1 : a = a') (h2 : b = b') : Ending.returned (.tuple #[.int .i64 a, .int .i64 b]) = .returned (.tuple #[.int .i64 a', .int .i64 b']) := by rw [h1, h2]
/-- The place behind a line's end, if it is one. -/
def endP (l : List UInt8) (k : Nat) : Int := if endC l k = 0 then ((k + 2 : Nat) : Int) else 0

set_option maxHeartbeats 2000000 in
theorem passLineEnd_any (a : Option Addr) (l : List UInt8) (cap B k : Nat) (w : World) (h : Byt w B a l) (hB : B ≤ w.heap.size) (hl : l.length ≤ 1073741824) (hk : k ≤ l.length) :
    Calls Tryz.prog 233 #[.slice a l.length cap, .int .i64 k] w fun e w' => e = .returned (.tuple #[.int .i64 (endP l k), .int .i64 (endC l k)]) ∧ Below w.heap.size w w' := by
  have kc := fun (w : World) (C : Array Value) (n c : Nat) => Lib.run_convert_bytes_const w 22 5 C n c Tryz.underlying22 Tryz.underlying5
  obtain ⟨w1, hw1⟩ : ∃ w1, w.alloc (Obj.cells #[.int .u8 13, .int .u8 10] 5 (2, 3)) = w1 := ⟨_, rfl⟩
  have hb1 : Below w.heap.size w w1 := by rw [← hw1]; exact (Below.refl _ _).alloc (Nat.le_refl _) _
  have k0 : w1.cell? ⟨w.heap.size, 0, none⟩ = some (.int .u8 13) := by rw [← hw1]; unfold World.cell?; rw [heap_alloc_new]; rfl
  have k1 : w1.cell? ⟨w.heap.size, 1, none⟩ = some (.int .u8 10) := by rw [← hw1]; unfold World.cell?; rw [heap_alloc_new]; rfl
  have HY := hide (h.below hb1 hB)
  have HB := hide hb1
  clear h hb1
  go_enter Tryz.func233, Tryz.ntmps233
  go_wp2
  try rw [hw1]
  clear hw1 kc
  go_loopw [1, 11] (fun av iv wr => ∃ j : Nat, j ≤ 2 ∧ iv = .int .i64 j ∧ av = .int .i64 ((k + j : Nat) : Int) ∧ k + j ≤ l.length ∧ (1 ≤ j → l.getD k 0 = 13) ∧ (2 ≤ j → l.getD (k + 1) 0 = 10) ∧ wr = w1) (fun _ iv _ => 2 - (intOf iv).toNat)
  case atStart => exact ⟨0, by omega, rfl, rfl, hk, fun h => by omega, fun h => by omega, rfl⟩
  case round =>
    obtain ⟨j, hj, rfl, rfl, hle, h1, h2, rfl⟩ := hrel
    have h3 : j = 0 ∨ j = 1 ∨ j = 2 := by omega
    have hcs : ((k + j : Nat) : Int) = (k : Int) + (j : Int) := by omega
    rcases h3 with rfl | rfl | rfl
    · by_cases c1 : k = l.length
      · have HE : Hid (endC l k = 1) := by show endC l k = 1; unfold endC; rw [if_pos (by omega)]
        have c1' : ((k : Int) == (l.length : Int)) = true := by rw [beq_iff_eq]; omega
        clear c1 h1 h2
        go_wp2
        go_ret2
        exact ⟨ret_two_int (by unfold endP; rw [HE.out]; rfl) HE.out.symm, HB.out⟩
      · have c1' : ((k : Int) == (l.length : Int)) = false := by rw [beq_eq_false_iff_ne]; omega
        have hkl : k < l.length := by omega
        obtain ⟨b, o, rfl, hb, hc⟩ := HY.out (by omega)
        have hck := hc k hkl
        by_cases c2 : l.getD k 0 = 13
        · have e2 : ((l[k].toNat : Int) != 13) = false := bytI_eq hkl 13 c2
          have C2 := hide c2
          clear c2 hc h1 h2
          go_wp2
          go_roundw
          case rel => exact ⟨1, by omega, by go_num, by go_num, by omega, fun _ => C2.out, fun h => by omega, by trivial⟩
          case measure => simp [intOf]
        · have e2 : ((l[k].toNat : Int) != 13) = true := bytI_ne hkl 13 c2
          have HE : Hid (endC l k = 400) := by show endC l k = 400; unfold endC; rw [if_neg (by omega), if_pos c2]
          clear c2 hc h1 h2
          go_wp2
          go_ret2
          exact ⟨ret_two_int (by unfold endP; rw [HE.out]; rfl) HE.out.symm, HB.out⟩
    · have H1 := hide (h1 (Nat.le_refl _))
      clear h1 h2
      by_cases c1 : k + 1 = l.length
      · have HE : Hid (endC l k = 1) := by show endC l k = 1; unfold endC; rw [if_neg (by omega), if_neg (by simp only [H1.out]; simp), if_pos (by omega)]
        have c1' : ((k : Int) + 1 == (l.length : Int)) = true := by rw [beq_iff_eq]; omega
        clear c1
        go_wp2
        go_ret2
        exact ⟨ret_two_int (by unfold endP; rw [HE.out]; rfl) HE.out.symm, HB.out⟩
      · have c1' : ((k : Int) + 1 == (l.length : Int)) = false := by rw [beq_eq_false_iff_ne]; omega
        have hkl : k + 1 < l.length := by omega
        obtain ⟨b, o, rfl, hb, hc⟩ := HY.out (by omega)
        have hck := hc (k + 1) hkl
        by_cases c2 : l.getD (k + 1) 0 = 10
        · have e2 : ((l[k + 1].toNat : Int) != 10) = false := bytI_eq hkl 10 c2
          have C2 := hide c2
          clear c2 hc
          go_wp2
          go_roundw
          case rel => exact ⟨2, by omega, by go_num, by go_num, by omega, fun _ => H1.out, fun _ => C2.out, by trivial⟩
          case measure => simp [intOf]
        · have e2 : ((l[k + 1].toNat : Int) != 10) = true := bytI_ne hkl 10 c2
          have HE : Hid (endC l k = 400) := by show endC l k = 400; unfold endC; rw [if_neg (by omega), if_neg (by simp only [H1.out]; simp), if_neg (by omega), if_pos c2]
          clear c2 hc
          go_wp2
          go_ret2
          exact ⟨ret_two_int (by unfold endP; rw [HE.out]; rfl) HE.out.symm, HB.out⟩
    · have H1 := hide (h1 (by omega))
      have H2 := hide (h2 (by omega))
      have HE : Hid (endC l k = 0) := by show endC l k = 0; unfold endC; rw [if_neg (by omega), if_neg (by simp only [H1.out]; simp), if_neg (by omega), if_neg (by simp only [H2.out]; simp)]
      clear h1 h2
      go_wp2
      go_ret2
      exact ⟨ret_two_int (by unfold endP; rw [HE.out]; simp) HE.out.symm, HB.out⟩

theorem tw_index (l : List UInt8) : (l.takeWhile (· != 13)).length = if 0 ≤ Lib.indexByte l 13 then (Lib.indexByte l 13).toNat else l.length := by
  induction l with
  | nil => rfl
  | cons b l ih =>
    have hge := Lib.indexByte_ge l 13
    have e : Lib.indexByte (b :: l) 13 = if b == 13 then 0 else if Lib.indexByte l 13 == -1 then -1 else Lib.indexByte l 13 + 1 := rfl
    rw [e]
    by_cases hb : b = 13
    · subst hb; simp
    · have h1 : (b == 13) = false := by rw [beq_eq_false_iff_ne]; exact hb
      have h2 : (b != 13) = true := by rw [bne_iff_ne]; exact hb
      rw [List.takeWhile_cons, if_pos h2, List.length_cons, ih, h1]
      simp only [Bool.false_eq_true, if_false]
      by_cases h3 : Lib.indexByte l 13 = -1
      · rw [h3]; simp
      · have h4 : (Lib.indexByte l 13 == -1) = false := by rw [beq_eq_false_iff_ne]; exact h3
        rw [h4]
        simp only [Bool.false_eq_true, if_false]
        rw [if_pos (by omega), if_pos (by omega)]
        omega
theorem index_fits (l : List UInt8) (c : UInt8) (h : 0 ≤ Lib.indexByte l c) : Lib.indexByte l c + 1 ≤ l.length := by
  induction l with
  | nil => simp [Lib.indexByte] at h
  | cons b l ih =>
    have hge := Lib.indexByte_ge l c
    have e : Lib.indexByte (b :: l) c = if b == c then 0 else if Lib.indexByte l c == -1 then -1 else Lib.indexByte l c + 1 := rfl
    rw [e] at h ⊢
    rw [List.length_cons]
    split at h
    · rename_i h1; rw [if_pos h1]; omega
    · rename_i h1
      rw [if_neg h1]
      split at h
      · omega
      · rename_i h2
        rw [if_neg h2]
        have h3 : ¬ Lib.indexByte l c = -1 := fun e => h2 (by rw [beq_iff_eq]; exact e)
        have := ih (by omega)
        omega

/-- 'bytes.Cut(s, []byte{13})': what stands ahead of the first byte 13. -/
theorem cut13_any (b o n c b2 B : Nat) (l : List UInt8) (w : World) (h : Byt w B (some ⟨b, o, none⟩) l) (hn : l.length = n) (hc : n ≤ c) (hcm : n ≤ 1073741824) (h2 : w.cell? ⟨b2, 0, none⟩ = some (.int .u8 13)) :
    Calls Tryz.prog 211 #[.slice (some ⟨b, o, none⟩) n c, .slice (some ⟨b2, 0, none⟩) 1 1] w fun e w' => (∃ (v2 : Value) (ok : Bool), e = .returned (.tuple #[.slice (some ⟨b, o, none⟩) (l.takeWhile (· != 13)).length c, v2, .bool ok])) ∧ ∃ q, w' = w.drewN q := by
  have hx : (Lib.numsL l).length = n := by rw [← hn]; simp [Lib.numsL]
  have hcell : ∀ i, i < n → w.cell? ⟨b, o + i, none⟩ = some (.int .u8 ((Lib.numsL l).getD i 0)) := by
    intro i hi
    obtain ⟨b', o', e, _, hcc⟩ := h (by omega)
    cases e
    rw [hcc i (by omega)]
    have : i < l.length := by omega
    simp [Lib.numsL, List.getD, List.getElem?_eq_getElem this]
  have hidx := Tryz.bytes_Index_one b o n c b2 0 1 (Lib.numsL l) 13 w hx hcell h2
  rw [Lib.bytesOf_numsL] at hidx
  have e13 : (13 : Int).toNat.toUInt8 = (13 : UInt8) := rfl
  rw [e13] at hidx
  refine (Tryz.bytes_Cut_of (some ⟨b, o, none⟩) (some ⟨b2, 0, none⟩) n c 1 1 (Lib.indexByte l 13) w hc (Lib.indexByte_ge _ _) (fun h0 => by have := index_fits l 13 h0; omega) (by omega) (hidx.mono fun _ _ ⟨he, hw⟩ => ⟨he, 0, hw⟩)).mono ?_
  rintro e w' ⟨rfl, q, rfl⟩
  refine ⟨?_, q, rfl⟩
  rw [tw_index]
  unfold Lib.cutV
  by_cases h0 : 0 ≤ Lib.indexByte l 13
  · rw [if_pos h0, if_pos h0]; exact ⟨_, _, rfl⟩
  · rw [if_neg h0, if_neg h0, hn]; exact ⟨_, _, rfl⟩

theorem szC_end {l : List UInt8} {k : Nat} (h : k = l.length) : szC l k = 1 := by unfold szC; rw [if_pos (by omega)]
theorem szC_hex {l : List UInt8} {k : Nat} (hk : k < l.length) (h : hexB (wordC l k) = true) : szC l k = endC l (k + (wordC l k).length) := by unfold szC; rw [if_neg (by omega), if_pos h]
theorem szC_nohex {l : List UInt8} {k : Nat} (hk : k < l.length) (h : hexB (wordC l k) = false) : szC l k = 400 := by unfold szC; rw [if_neg (by omega), if_neg (by simp [h])]

set_option maxRecDepth 100000 in
set_option maxHeartbeats 2000000 in
theorem readSize_any (a : Option Addr) (l : List UInt8) (cap B k : Nat) (w : World) (h : Byt w B a l) (hB : B ≤ w.heap.size) (hl : l.length ≤ 1073741824) (hlc : l.length ≤ cap) (hcm : cap ≤ maxLen) (hk : k ≤ l.length) :
    Calls Tryz.prog 232 #[.slice a l.length cap, .int .i64 k] w fun e w' => (∃ x y : Int, e = .returned (.tuple #[.int .i64 x, .int .i64 y, .int .i64 (szC l k)]) ∧ (szC l k = 0 → x = szN l k ∧ y = szP l k)) ∧ Below w.heap.size w w' := by
  unfold maxLen at hcm
  have HY := hide h
  clear h
  by_cases hke : k = l.length
  · have hb : ((k : Int) == (l.length : Int)) = true := by rw [beq_iff_eq]; omega
    have HS := hide (szC_end hke)
    clear hke
    go_enter Tryz.func232, Tryz.ntmps232
    go_wp2
    refine bodyPost_ret (v := .tuple #[.int .i64 0, .int .i64 0, .int .i64 1]) (by simp [results, Tryz.results232, go_sem]) rfl ?_
    exact ⟨⟨0, 0, by rw [HS.out], fun e => by rw [HS.out] at e; cases e⟩, Below.refl _ _⟩
  · have hb : ((k : Int) == (l.length : Int)) = false := by rw [beq_eq_false_iff_ne]; omega
    have hkl : k < l.length := by omega
    obtain ⟨b, o, rfl, hbB, hcc⟩ := HY.out (by omega)
    clear hcc
    have hck : ¬ cap = k := by omega
    have hb1 : Below w.heap.size w (w.alloc (Obj.cells #[.int .u8 13] 5)).drew := below_drewN ((Below.refl _ _).alloc (Nat.le_refl _) _) 1
    have k0 : (w.alloc (Obj.cells #[.int .u8 13] 5)).drew.cell? ⟨w.heap.size, 0, none⟩ = some (.int .u8 13) := by
      show (w.alloc (Obj.cells #[.int .u8 13] 5)).cell? _ = _
      unfold World.cell?; rw [heap_alloc_new]; rfl
    have HY1 := hide (HY.out.below hb1 hB)
    have HC := hide (cut13_any b (o + k) (l.length - k) (cap - k) w.heap.size B (l.drop k) _ (HY1.out.drop k) (by rw [List.length_drop]) (by omega) (by omega) k0)
    rw [show ((l.drop k).takeWhile (· != 13)) = wordC l k from rfl] at HC
    have hwl := wordC_le l k
    have hwk : k + (wordC l k).length ≤ l.length := by omega
    have HB1 := hide hb1
    obtain ⟨W1, hW1⟩ : ∃ W1, (w.alloc (Obj.cells #[.int .u8 13] 5)).drew = W1 := ⟨_, rfl⟩
    clear k0 hb1 hwl
    cases hx : hexB (wordC l k)
    · have HS := hide (szC_nohex hkl hx)
      have HPx : Hid (∀ W, Calls Tryz.prog 236 #[.string ⟨(wordC l k).toArray⟩] W fun e w' => e = .returned (.tuple #[.int .i64 0, .bool false]) ∧ Below W.heap.size W w') := fun W => by
        have hp := parseHex_any ⟨(wordC l k).toArray⟩ W (by unfold maxLen; show (wordC l k).toArray.size ≤ _; rw [List.size_toArray]; omega)
        have e : parseHex ((⟨(wordC l k).toArray⟩ : ByteArray).data.toList) = (0, false) := by show parseHex (wordC l k) = _; unfold parseHex; rw [if_neg (by simp [hx])]
        rwa [e] at hp
      clear hx hke
      go_enter Tryz.func232, Tryz.ntmps232
      go_wp2
      go_region_held3 (fun _ => True) (trivial) ((go_at_call 211; refine HC.out.mono ?_; rintro e w2 ⟨⟨v2, ok, rfl⟩, q, rfl⟩))
      rw [hW1] at HB1 HY1
      have B2 : Hid (Below w.heap.size w (W1.drewN q)) := below_drewN HB1.out q
      have Y2 : Hid (Byt (W1.drewN q) B (some ⟨b, o, none⟩) l) := HY1.out
      clear HC HB1 HY1 HY hW1
      generalize W1.drewN q = w2 at *
      have y3 := (Y2.out.drop k).take (wordC l k).length
      rw [wordC_take] at y3
      have hcv := conv_byt y3 (wordC l k).length (cap - k) rfl
      clear y3
      go_wp2_with fail
      refine (HPx.out w2).mono ?_
      rintro e w3 ⟨rfl, b3⟩
      have c3 := B2.out.trans (b3.mono B2.out.size)
      clear HPx b3
      go_wp2
      refine bodyPost_ret (v := .tuple #[.int .i64 0, .int .i64 0, .int .i64 400]) (by simp [results, Tryz.results232, go_sem]) rfl ?_
      exact ⟨⟨0, 0, by rw [HS.out], fun e => by rw [HS.out] at e; cases e⟩, c3⟩
    · have HS := hide (szC_hex hkl hx)
      have HPx : Hid (∀ W, Calls Tryz.prog 236 #[.string ⟨(wordC l k).toArray⟩] W fun e w' => e = .returned (.tuple #[.int .i64 ((szN l k : Nat) : Int), .bool true]) ∧ Below W.heap.size W w') := fun W => by
        have hp := parseHex_any ⟨(wordC l k).toArray⟩ W (by unfold maxLen; show (wordC l k).toArray.size ≤ _; rw [List.size_toArray]; omega)
        have e : parseHex ((⟨(wordC l k).toArray⟩ : ByteArray).data.toList) = (((szN l k : Nat) : Int), true) := by show parseHex (wordC l k) = _; unfold parseHex; rw [if_pos hx]; rfl
        rwa [e] at hp
      have HPe := hide (fun (W : World) (h : Byt W B (some ⟨b, o, none⟩) l) (hB : B ≤ W.heap.size) => passLineEnd_any (some ⟨b, o, none⟩) l cap B (k + (wordC l k).length) W h hB hl hwk)
      obtain ⟨N, hN⟩ : ∃ N, szN l k = N := ⟨_, rfl⟩
      have HN := hide hN
      rw [hN] at HPx
      have HP2 : Hid (endP l (k + (wordC l k).length) = if szC l k = 0 then ((szP l k : Nat) : Int) else 0) := by
        show endP _ _ = _
        unfold endP
        rw [HS.out]
        rfl
      rw [← HS.out] at HPe
      rw [show (((k + (wordC l k).length : Nat)) : Int) = (k : Int) + ((wordC l k).length : Int) by omega] at HPe
      clear hx hke hN HS
      go_enter Tryz.func232, Tryz.ntmps232
      go_wp2
      go_region_held3 (fun _ => True) (trivial) ((go_at_call 211; refine HC.out.mono ?_; rintro e w2 ⟨⟨v2, ok, rfl⟩, q, rfl⟩))
      rw [hW1] at HB1 HY1
      have B2 : Hid (Below w.heap.size w (W1.drewN q)) := below_drewN HB1.out q
      have Y2 : Hid (Byt (W1.drewN q) B (some ⟨b, o, none⟩) l) := HY1.out
      clear HC HB1 HY1 HY hW1
      generalize W1.drewN q = w2 at *
      have y3 := (Y2.out.drop k).take (wordC l k).length
      rw [wordC_take] at y3
      have hcv := conv_byt y3 (wordC l k).length (cap - k) rfl
      clear y3
      go_wp2_with fail
      refine (HPx.out w2).mono ?_
      rintro e w3 ⟨rfl, b3⟩
      have c3 := B2.out.trans (b3.mono B2.out.size)
      have Y3 := hide (Y2.out.below b3 (Nat.le_trans hB B2.out.size))
      have hB3 : B ≤ w3.heap.size := Nat.le_trans hB c3.size
      clear HPx b3 hcv Y2
      go_wp2_with fail
      refine (HPe.out w3 Y3.out hB3).mono ?_
      rintro e w4 ⟨rfl, b4⟩
      have c4 := c3.trans (b4.mono c3.size)
      clear b4 HPe
      obtain ⟨E, hE⟩ : ∃ E, endP l (k + (wordC l k).length) = E := ⟨_, rfl⟩
      rw [hE]
      have HE := hide hE
      obtain ⟨Z, hZ⟩ : ∃ Z, szC l k = Z := ⟨_, rfl⟩
      have HZ := hide hZ
      rw [hZ] at ⊢
      clear hE hZ
      go_wp2
      refine bodyPost_ret (v := .tuple #[.int .i64 N, .int .i64 E, .int .i64 Z]) (by simp [results, Tryz.results232, go_sem]) rfl ?_
      exact ⟨⟨N, E, by rw [HZ.out], fun e => ⟨by rw [HN.out], by rw [← HE.out, HP2.out, if_pos e]⟩⟩, c4⟩

theorem endC_z {l : List UInt8} {k : Nat} (h : endC l k = 0) : k + 2 ≤ l.length := by
  unfold endC at h
  split at h
  · cases h
  · split at h
    · cases h
    · split at h
      · cases h
      · omega
theorem szC_z {l : List UInt8} {a : Nat} (h : szC l a = 0) : szP l a ≤ l.length ∧ szN l a < 1048576 := by
  unfold szC at h
  split at h
  · cases h
  · split at h
    · rename_i hx
      refine ⟨by have := endC_z h; unfold szP; omega, ?_⟩
      simp only [hexB, Bool.and_eq_true, decide_eq_true_eq] at hx
      have h1 := hexVal_lt (⟨(wordC l a).toArray⟩ : ByteArray) (wordC l a).length (Nat.le_refl _) (by show hexs (List.take _ (wordC l a)) = true; rw [List.take_length]; exact hx.2.2)
      have e : List.take (wordC l a).length ((⟨(wordC l a).toArray⟩ : ByteArray).data.toList) = wordC l a := List.take_length
      rw [e] at h1
      have h16 := pow16_le (k := (wordC l a).length) (by omega)
      show hexVal (wordC l a) < _
      omega
    · cases h

/-- Three cells of a block are written. -/
theorem set3_heap {w : World} {N : Nat} {a0 a1 a2 : Value} {t : TypeId} (h : w.heap[N]? = some (.cells #[a0, a1, a2] t)) (v0 v1 v2 : Value) :
    (((w.setCell ⟨N, 0, none⟩ v0).setCell ⟨N, 1, none⟩ v1).setCell ⟨N, 2, none⟩ v2).heap[N]? = some (.cells #[v0, v1, v2] t) := by
  have e0 := setCell_eq_setRow w N 0 _ t _ v0 h
  have h0 := setRow_heap w N _ (#[a0, a1, a2].setIfInBounds 0 v0) t _ h
  rw [← e0] at h0
  have e1 := setCell_eq_setRow _ N 1 _ t _ v1 h0
  have h1 := setRow_heap _ N _ ((#[a0, a1, a2].setIfInBounds 0 v0).setIfInBounds 1 v1) t _ h0
  rw [← e1] at h1
  have e2 := setCell_eq_setRow _ N 2 _ t _ v2 h1
  have h2 := setRow_heap _ N _ (((#[a0, a1, a2].setIfInBounds 0 v0).setIfInBounds 1 v1).setIfInBounds 2 v2) t _ h1
  rw [← e2] at h2
  exact h2
theorem set3_below {w W : World} {C N : Nat} (h : Below C W w) (hN : C ≤ N) (v0 v1 v2 : Value) : Below C W (((w.setCell ⟨N, 0, none⟩ v0).setCell ⟨N, 1, none⟩ v1).setCell ⟨N, 2, none⟩ v2) :=
  ((h.setCell (p := ⟨N, 0, none⟩) hN _).setCell (p := ⟨N, 1, none⟩) hN _).setCell (p := ⟨N, 2, none⟩) hN _
theorem chunk_desc : (Tryz.prog.info? 252).map (·.size) = some 3 := by kernel_rfl

/-- A piece that was read: its bytes and the place behind it; or why there is none. -/
def ChunkIs (w : World) (B : Nat) (l : List UInt8) (k room : Nat) (v : Value) : Prop :=
  ∃ (a : Option Addr) (n c p : Nat), v = .agg #[.slice a n c, .int .i64 p, .int .i64 (pieceC l k room)] ∧ (pieceC l k room ≠ 0 → n = 0 ∧ p = 0) ∧ (pieceC l k room = 0 → n = szN l k ∧ p = szP l k + szN l k + 2 ∧ Byt w B a (pieceL l k) ∧ ∃ b o, a = some ⟨b, o, none⟩)

set_option maxRecDepth 100000 in
set_option maxHeartbeats 2000000 in
theorem readChunk_any (a : Option Addr) (l : List UInt8) (cap B k room : Nat) (w : World) (h : Byt w B a l) (hB : B ≤ w.heap.size) (hl : l.length ≤ 1073741824) (hlc : l.length ≤ cap) (hcm : cap ≤ maxLen) (hk : k ≤ l.length) (hr : room ≤ 1073741824) :
    Calls Tryz.prog 224 #[.slice a l.length cap, .int .i64 k, .int .i64 room] w fun e w' => (∃ v, e = .returned v ∧ ChunkIs w' B l k room v) ∧ Below w.heap.size w w' := by
  unfold maxLen at hcm
  have hb0 : Below w.heap.size w (w.alloc (Obj.cells #[.slice none 0 0, .int .i64 0, .int .i64 0] 252)) := (Below.refl _ _).alloc (Nat.le_refl _) _
  have HR := hide (readSize_any a l cap B k _ (h.below hb0 hB) (Nat.le_trans hB hb0.size) hl hlc (by unfold maxLen; omega) hk)
  have HY := hide (h.below hb0 hB)
  have HB0 := hide hb0
  have hx0 := heap_alloc_new w (Obj.cells #[.slice none 0 0, .int .i64 0, .int .i64 0] 252)
  have HX0 := hide hx0
  clear h hb0 hx0
  go_enter Tryz.func224, Tryz.ntmps224
  go_wp2_with fail
  refine HR.out.mono ?_
  rintro e w1 ⟨⟨x, y, rfl, hxy⟩, b1⟩
  have C1 := hide (HB0.out.trans (b1.mono HB0.out.size))
  have X1 : w1.heap[w.heap.size]? = some (Obj.cells #[.slice none 0 0, .int .i64 0, .int .i64 0] 252) := (b1.block w.heap.size (by simp)).trans HX0.out
  have k0 : w1.cell? ⟨w.heap.size, 0, none⟩ = some (.slice none 0 0) := by unfold World.cell?; rw [X1]; rfl
  have k1 : w1.cell? ⟨w.heap.size, 1, none⟩ = some (.int .i64 0) := by unfold World.cell?; rw [X1]; rfl
  have k2 : w1.cell? ⟨w.heap.size, 2, none⟩ = some (.int .i64 0) := by unfold World.cell?; rw [X1]; rfl
  have f0 : w1.frozen? ⟨w.heap.size, 0, none⟩ = false := by unfold World.frozen?; rw [X1]; rfl
  have f1 : w1.frozen? ⟨w.heap.size, 1, none⟩ = false := by unfold World.frozen?; rw [X1]; rfl
  have f2 : w1.frozen? ⟨w.heap.size, 2, none⟩ = false := by unfold World.frozen?; rw [X1]; rfl
  have Y1 := hide (HY.out.below b1 (by simp; omega))
  have X1' := hide X1
  clear X1
  have HXY := hide hxy
  clear HR HY HB0 b1 hxy HX0
  by_cases hz : szC l k = 0
  · obtain ⟨hx, hy⟩ := HXY.out hz
    obtain ⟨hP, hN⟩ := szC_z hz
    rw [hz]
    have HZ := hide hz
    obtain ⟨N, hNe⟩ : ∃ N, szN l k = N := ⟨_, rfl⟩
    obtain ⟨P, hPe⟩ : ∃ P, szP l k = P := ⟨_, rfl⟩
    rw [hNe] at hx hN
    rw [hPe] at hy hP
    subst hx hy
    have HN := hide hNe
    have HP := hide hPe
    clear hNe hPe hz HXY
    have hpc := hide (fun (c : Int) (e : (if room < N then (413 : Int) else if l.length < P + N then 1 else endC l (P + N)) = c) => show pieceC l k room = c by
      unfold pieceC; rw [if_neg (by rw [HZ.out]; decide), HN.out, HP.out]; exact e)
    by_cases c1 : room < N
    · have HE := hide (hpc.out 413 (if_pos c1))
      go_wp2
      refine bodyPost_ret (results_cell_row rfl _ _ w.heap.size _ _ _ _ rfl (set3_heap X1'.out _ _ _) Tryz.underlying252 rfl chunk_desc) rfl ?_
      exact ⟨⟨_, rfl, none, 0, 0, 0, by rw [HE.out]; rfl, fun _ => ⟨rfl, rfl⟩, fun e => by rw [HE.out] at e; cases e⟩, set3_below C1.out (Nat.le_refl _) _ _ _⟩
    · by_cases c2 : l.length < P + N
      · have HE := hide (hpc.out 1 (by rw [if_neg c1, if_pos c2]))
        have c2' : (l.length : Int) - P < N := by omega
        clear c2
        go_wp2
        refine bodyPost_ret (results_cell_row rfl _ _ w.heap.size _ _ _ _ rfl (set3_heap X1'.out _ _ _) Tryz.underlying252 rfl chunk_desc) rfl ?_
        exact ⟨⟨_, rfl, none, 0, 0, 0, by rw [HE.out]; rfl, fun _ => ⟨rfl, rfl⟩, fun e => by rw [HE.out] at e; cases e⟩, set3_below C1.out (Nat.le_refl _) _ _ _⟩
      · have c2' : ¬ ((l.length : Int) - P < N) := by omega
        have HE := hide (hpc.out _ (by rw [if_neg c1, if_neg c2]))
        have hpn : P + N ≤ l.length := by omega
        have HPe := hide (passLineEnd_any a l cap B (P + N) w1 Y1.out (Nat.le_trans hB C1.out.size) hl hpn)
        rw [show (((P + N : Nat)) : Int) = (P : Int) + (N : Int) by omega] at HPe
        clear c2 hpc
        go_wp2_with fail
        refine HPe.out.mono ?_
        rintro e w2 ⟨rfl, b2⟩
        have C2 := hide (C1.out.trans (b2.mono C1.out.size))
        have Y2 := hide (Y1.out.below b2 (Nat.le_trans hB C1.out.size))
        have X2 : w2.heap[w.heap.size]? = some (Obj.cells #[.slice none 0 0, .int .i64 0, .int .i64 0] 252) := (b2.block w.heap.size (Array.getElem?_eq_some_iff.1 X1'.out).1).trans X1'.out
        have m0 : w2.cell? ⟨w.heap.size, 0, none⟩ = some (.slice none 0 0) := by unfold World.cell?; rw [X2]; rfl
        have m1 : w2.cell? ⟨w.heap.size, 1, none⟩ = some (.int .i64 0) := by unfold World.cell?; rw [X2]; rfl
        have m2 : w2.cell? ⟨w.heap.size, 2, none⟩ = some (.int .i64 0) := by unfold World.cell?; rw [X2]; rfl
        have n0 : w2.frozen? ⟨w.heap.size, 0, none⟩ = false := by unfold World.frozen?; rw [X2]; rfl
        have n1 : w2.frozen? ⟨w.heap.size, 1, none⟩ = false := by unfold World.frozen?; rw [X2]; rfl
        have n2 : w2.frozen? ⟨w.heap.size, 2, none⟩ = false := by unfold World.frozen?; rw [X2]; rfl
        have X2' := hide X2
        clear X2 b2 HPe k0 k1 k2 f0 f1 f2 X1' Y1 C1
        by_cases c3 : endC l (P + N) = 0
        · have h2 := endC_z c3
          have hcp : ¬ cap = P := by omega
          have HPp : Hid (endP l (P + N) = ((P + N + 2 : Nat) : Int)) := by show endP _ _ = _; unfold endP; rw [if_pos c3]
          have HE0 := hide (HE.out.trans c3)
          rw [HPp.out, c3]
          obtain ⟨b, o, rfl, hb, hc⟩ := Y2.out (by omega)
          have YL := hide ((Y2.out.drop P).take N)
          have HL : Hid (pieceL l k = (l.drop P).take N) := by show pieceL l k = _; unfold pieceL; rw [HN.out, HP.out]
          clear c3 hc
          go_wp2
          refine bodyPost_ret (results_cell_row rfl _ _ w.heap.size _ _ _ _ rfl (set3_heap X2'.out _ _ _) Tryz.underlying252 rfl chunk_desc) rfl ?_
          refine ⟨⟨_, rfl, some ⟨b, o + P, none⟩, N, cap - P, P + N + 2, by rw [HE0.out]; first | rfl | simp, fun e => absurd HE0.out e, fun _ => ⟨HN.out.symm, by rw [HP.out, HN.out], ?_, _, _, rfl⟩⟩, set3_below C2.out (Nat.le_refl _) _ _ _⟩
          rw [HL.out]
          exact YL.out.below (set3_below (Below.refl w.heap.size w2) (Nat.le_refl _) _ _ _) hB
        · have c3' : (endC l (P + N) != 0) = true := by rw [bne_iff_ne]; exact c3
          have HPp : Hid (endP l (P + N) = 0) := by show endP _ _ = _; unfold endP; rw [if_neg c3]
          have C3 := hide c3
          rw [HPp.out]
          generalize endC l (P + N) = cc at *
          clear c3
          go_wp2
          refine bodyPost_ret (results_cell_row rfl _ _ w.heap.size _ _ _ _ rfl (set3_heap X2'.out _ _ _) Tryz.underlying252 rfl chunk_desc) rfl ?_
          exact ⟨⟨_, rfl, none, 0, 0, 0, by rw [HE.out]; rfl, fun _ => ⟨rfl, rfl⟩, fun e => absurd (HE.out.symm.trans e) C3.out⟩, set3_below C2.out (Nat.le_refl _) _ _ _⟩
  · have HE : Hid (pieceC l k room = szC l k) := by show pieceC l k room = _; unfold pieceC; rw [if_pos hz]
    have hz' : (szC l k != 0) = true := by rw [bne_iff_ne]; exact hz
    have Z := hide hz
    clear HXY
    generalize szC l k = cc at *
    clear hz
    go_wp2
    refine bodyPost_ret (results_cell_row rfl _ _ w.heap.size _ _ _ _ rfl (set3_heap X1'.out _ _ _) Tryz.underlying252 rfl chunk_desc) rfl ?_
    exact ⟨⟨_, rfl, none, 0, 0, 0, by rw [HE.out]; rfl, fun _ => ⟨rfl, rfl⟩, fun e => absurd (HE.out.symm.trans e) Z.out⟩, set3_below C1.out (Nat.le_refl _) _ _ _⟩
end Go.Proofs.YtanebchmeaomgaaGreatDoor
