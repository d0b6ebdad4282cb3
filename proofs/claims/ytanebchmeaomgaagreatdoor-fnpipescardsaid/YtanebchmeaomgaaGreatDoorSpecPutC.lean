/-
  What the specification's PutChunks does.
-/
import Derived.Test.YtanebchmeaomgaaGreatDoorFormatBits
import Derived.Test.YtanebchmeaomgaaGreatDoorMathCutB
import Derived.Test.YtanebchmeaomgaaGreatDoorMathSmall
import Derived.Test.YtanebchmeaomgaaGreatDoorMathGet
import Derived.Deep.RegionHeld3
import Derived.Lib.ConvBytes
namespace Go.Proofs.YtanebchmeaomgaaGreatDoor
open Go.RowKit M
set_option linter.unusedVariables false

theorem ret_stringC {a b : ByteArray} (h : a = b) : Ending.returned (.string a) = .returned (.string b) := by rw [h]
theorem empty_yes {s : ByteArray} (h : s.size = 0) : s.toList.isEmpty = true := by
  rw [ByteArray.toList_eq]
  have e : s.data.toList.length = s.size := Array.length_toList
  cases hq : s.data.toList with
  | nil => rfl
  | cons _ _ => rw [hq] at e; simp at e; omega
theorem empty_no {s : ByteArray} (h : ¬ s.size = 0) : s.toList.isEmpty = false := by
  rw [ByteArray.toList_eq]
  have e : s.data.toList.length = s.size := Array.length_toList
  cases hq : s.data.toList with
  | nil => rw [hq] at e; simp at e; omega
  | cons _ _ => rfl
theorem empty_list {s : ByteArray} (h : s.size = 0) : s.data.toList = [] := List.length_eq_zero_iff.1 (by rw [Array.length_toList]; exact h)

set_option maxHeartbeats 1000000 in
theorem l4Piece_any (s : ByteArray) (w : World) (hs : s.size ≤ 1073741824) :
    Calls Tryz.prog 92 #[.string s] w fun e w' => e = .returned (.string (bytesOf (chTxt0 s.data.toList))) ∧ Below w.heap.size w w' := by
  by_cases h0 : s.size = 0
  · have hz := empty_yes h0
    have HE : Hid (chTxt0 s.data.toList = []) := by show chTxt0 _ = _; rw [empty_list h0]; rfl
    go_enter Tryz.func92, Tryz.ntmps92
    go_wp2
    go_ret
    exact ⟨ret_stringC (by rw [HE.out]; rfl), Below.refl _ _⟩
  · have hz := empty_no h0
    have hd16 : (hexDigits s.size).length ≤ 16 := hexDig_le 16 _
    have hN := fun W => specHex_any (s.size : Int) W (by omega)
    obtain ⟨d, hd⟩ : ∃ d, (⟨(hexDigits s.size).toArray⟩ : ByteArray) = d := ⟨_, rfl⟩
    have hdz : d.size ≤ 16 := by rw [← hd]; exact hd16
    have HE : Hid (d ++ (⟨#[13, 10]⟩ : ByteArray) ++ s ++ ⟨#[13, 10]⟩ = bytesOf (chTxt0 s.data.toList)) := by
      show d ++ (⟨#[13, 10]⟩ : ByteArray) ++ s ++ ⟨#[13, 10]⟩ = _
      have hl : s.data.toList.length = s.size := Array.length_toList
      have hne : s.data.toList ≠ [] := fun e => h0 (by rw [← hl, e]; rfl)
      rw [← hd, chTxt0, if_neg hne]
      apply ByteArray.ext
      simp [bytesOf, chTxt, crlf, hl]
    simp only [Int.toNat_natCast, hd] at hN
    have HN := hide hN
    clear hN hd hd16 h0
    have hq1 : ¬ (9223372036854775807 < d.size + 2) := by omega
    have hq2 : ¬ (9223372036854775807 < d.size + 2 + s.size) := by omega
    have hq3 : ¬ (9223372036854775807 < d.size + 2 + s.size + 2) := by omega
    go_enter Tryz.func92, Tryz.ntmps92
    go_wp2_with (go_at_call 138; refine (HN.out _).mono ?_; rintro e w1 ⟨rfl, b1⟩)
    go_ret
    exact ⟨ret_stringC HE.out, b1⟩

theorem pcs_cut {n : Int} {r : List Int} {t : ByteArray} (m : Nat) (h : n = m) (h1 : 1 ≤ n) : pcsTxt (n :: r) t.data.toList = chTxt0 (t.extract 0 m).data.toList ++ pcsTxt r (t.extract m t.size).data.toList := by
  rw [pcsTxt_step r _ h1, cut_to, cut_from, h, Int.toNat_natCast]
  rfl
theorem pcs_rest {n : Int} {r : List Int} {t : ByteArray} (h1 : 1 ≤ n) (h : (t.size : Int) < n) : pcsTxt (n :: r) t.data.toList = chTxt0 t.data.toList ++ pcsTxt r (ByteArray.empty).data.toList := by
  have hl : t.data.toList.length = t.size := Array.length_toList
  rw [pcsTxt_step r _ h1, List.take_of_length_le (by omega), List.drop_of_length_le (by omega)]
  rfl
theorem app_bytes (u : ByteArray) (m : List UInt8) : (u ++ bytesOf m).data.toList = u.data.toList ++ m := by simp [bytesOf]

set_option maxRecDepth 100000 in
set_option maxHeartbeats 2000000 in
theorem l4Text_any (b : ByteArray) (a : Option Addr) (ns : List Int) (cap B : Nat) (w : World) (hI : Ints w B a ns) (hB : B ≤ w.heap.size) (hb : b.size ≤ 1048576) (hnl : ns.length ≤ 1073741824) :
    Calls Tryz.prog 58 #[.string b, .slice a ns.length cap] w fun e w' => e = .returned (.string (bytesOf (putCs ns b.data.toList))) ∧ Below w.heap.size w w' := by
  have HI0 := hide hI
  have HL : Hid ((pcsTxt ns b.data.toList).length ≤ 22020096) := by
    show (pcsTxt ns b.data.toList).length ≤ _
    have h1 := pcsTxt_len ns b.data.toList
    have e : b.data.toList.length = b.size := Array.length_toList
    omega
  clear hI
  go_enter Tryz.func58, Tryz.ntmps58
  go_wp2
  go_loopw [0, 5, 6] (fun bv sv iv wr => ∃ (k : Nat) (t u : ByteArray), k ≤ ns.length ∧ iv = .int .i64 k ∧ bv = .string t ∧ sv = .string u ∧ t.size ≤ 1048576 ∧ pcsTxt ns b.data.toList = u.data.toList ++ pcsTxt (ns.drop k) t.data.toList ∧ Below w.heap.size w wr) (fun _ _ iv _ => ns.length - (intOf iv).toNat)
  case atStart => exact ⟨0, b, _, Nat.zero_le _, rfl, rfl, rfl, hb, rfl, Below.refl _ _⟩
  case round =>
    obtain ⟨k, t, u, hk, rfl, rfl, rfl, ht, hx, hbe⟩ := hrel
    have hu : u.size ≤ 22020096 := by
      have h1 := HL.out
      rw [hx, List.length_append] at h1
      have e : u.data.toList.length = u.size := Array.length_toList
      omega
    have HX := hide hx
    have HB := hide hbe
    clear hx hbe
    by_cases hlt : k < ns.length
    · obtain ⟨bb, o, rfl, hbb, hc⟩ := (HI0.out.mono hB).below HB.out (Nat.le_refl _) (by omega)
      have hck := hc k hlt
      have HDr := hide (List.drop_eq_getElem_cons hlt)
      clear hc
      obtain ⟨z, hz⟩ : ∃ z, ns[k] = z := ⟨_, rfl⟩
      rw [hz] at hck HDr
      clear hz
      by_cases hz1 : z < 1
      · have HS : Hid (pcsTxt ns b.data.toList = u.data.toList ++ pcsTxt (ns.drop (k + 1)) t.data.toList) := by show pcsTxt ns _ = _; rw [HX.out, HDr.out, pcsTxt_skip _ _ hz1]
        go_wp2
        go_roundw
        case rel => exact ⟨k + 1, t, u, by omega, by go_num, rfl, rfl, ht, HS.out, HB.out⟩
        case measure => simp [intOf]; omega
      · by_cases hzt : z ≤ t.size
        · obtain ⟨m, rfl⟩ := Int.eq_ofNat_of_zero_le (by omega : 0 ≤ z)
          have hmt : m ≤ t.size := by omega
          have hsz : (t.extract m t.size).size = t.size - m := by rw [ByteArray.size_extract]; omega
          have hs0 : (t.extract 0 m).size = m := by rw [ByteArray.size_extract]; omega
          have HP := hide (fun W => l4Piece_any (t.extract 0 m) W (by omega))
          obtain ⟨q, hq⟩ : ∃ q, bytesOf (chTxt0 (t.extract 0 m).data.toList) = q := ⟨_, rfl⟩
          have hqz : q.size ≤ 22020096 := by
            rw [← hq]
            have e : (t.extract 0 m).data.toList.length = (t.extract 0 m).size := Array.length_toList
            have := chTxt0_len (t.extract 0 m).data.toList
            show (chTxt0 (t.extract 0 m).data.toList).toArray.size ≤ _
            rw [List.size_toArray]
            omega
          have HS : Hid (pcsTxt ns b.data.toList = (u ++ q).data.toList ++ pcsTxt (ns.drop (k + 1)) (t.extract m t.size).data.toList) := by
            show pcsTxt ns _ = _
            rw [HX.out, HDr.out, pcs_cut m rfl (by omega), ← hq, app_bytes, List.append_assoc]
          rw [hq] at HP
          have hq1 : ¬ (9223372036854775807 < u.size + q.size) := by omega
          clear hq
          go_wp2_with (go_at_call 92; refine (HP.out _).mono ?_; rintro e w1 ⟨rfl, b1⟩)
          have c1 := HB.out.trans (b1.mono HB.out.size)
          go_roundw
          case rel => exact ⟨k + 1, t.extract m t.size, u ++ q, by omega, by go_num, rfl, rfl, by omega, HS.out, c1⟩
          case measure => simp [intOf]; omega
        · have HP := hide (fun W => l4Piece_any t W (by omega))
          obtain ⟨q, hq⟩ : ∃ q, bytesOf (chTxt0 t.data.toList) = q := ⟨_, rfl⟩
          have hqz : q.size ≤ 22020096 := by
            rw [← hq]
            have e : t.data.toList.length = t.size := Array.length_toList
            have := chTxt0_len t.data.toList
            show (chTxt0 t.data.toList).toArray.size ≤ _
            rw [List.size_toArray]
            omega
          have HS : Hid (pcsTxt ns b.data.toList = (u ++ q).data.toList ++ pcsTxt (ns.drop (k + 1)) (ByteArray.empty).data.toList) := by
            show pcsTxt ns _ = _
            rw [HX.out, HDr.out, pcs_rest (by omega) (by omega), ← hq, app_bytes, List.append_assoc]
          rw [hq] at HP
          have hq1 : ¬ (9223372036854775807 < u.size + q.size) := by omega
          clear hq
          go_wp2_with (go_at_call 92; refine (HP.out _).mono ?_; rintro e w1 ⟨rfl, b1⟩)
          have c1 := HB.out.trans (b1.mono HB.out.size)
          go_roundw
          case rel => exact ⟨k + 1, ByteArray.empty, u ++ q, by omega, by go_num, rfl, rfl, Nat.zero_le _, HS.out, c1⟩
          case measure => simp [intOf]; omega
    · have HP := hide (fun W => l4Piece_any t W (by omega))
      obtain ⟨q, hq⟩ : ∃ q, bytesOf (chTxt0 t.data.toList) = q := ⟨_, rfl⟩
      have hqz : q.size ≤ 22020096 := by
        rw [← hq]
        have e : t.data.toList.length = t.size := Array.length_toList
        have := chTxt0_len t.data.toList
        show (chTxt0 t.data.toList).toArray.size ≤ _
        rw [List.size_toArray]
        omega
      have HS : Hid (u ++ q ++ (⟨#[48]⟩ : ByteArray) ++ ⟨#[13, 10]⟩ ++ ⟨#[13, 10]⟩ = bytesOf (putCs ns b.data.toList)) := by
        show u ++ q ++ (⟨#[48]⟩ : ByteArray) ++ ⟨#[13, 10]⟩ ++ ⟨#[13, 10]⟩ = _
        unfold putCs
        rw [HX.out, List.drop_of_length_le (by omega), pcsTxt_end, chTxt_nil, ← hq]
        apply ByteArray.ext
        simp [bytesOf]
      rw [hq] at HP
      have hq1 : ¬ (9223372036854775807 < u.size + q.size) := by omega
      have hq2 : ¬ (9223372036854775807 < u.size + q.size + 1) := by omega
      have hq3 : ¬ (9223372036854775807 < u.size + q.size + 1 + 2) := by omega
      have hq4 : ¬ (9223372036854775807 < u.size + q.size + 1 + 2 + 2) := by omega
      clear hq
      go_wp2_with (go_at_call 92; refine (HP.out _).mono ?_; rintro e w1 ⟨rfl, b1⟩)
      have c1 := HB.out.trans (b1.mono HB.out.size)
      go_ret
      exact ⟨ret_stringC HS.out, c1⟩

theorem below_bytesC (w : World) (s : ByteArray) : Below w.heap.size w (Lib.bytesWorld w 5 s) :=
  ⟨rfl, rfl, rfl, by rw [Lib.bytesWorld_size]; omega, fun k hk => Lib.bytesWorld_at_old w 5 s k hk⟩
theorem byt_bytesC (w : World) (s : ByteArray) : Byt (Lib.bytesWorld w 5 s) (w.heap.size + 1) (some ⟨w.heap.size, 0, none⟩) s.data.toList := fun _ =>
  ⟨w.heap.size, 0, rfl, Nat.lt_succ_self _, fun j hj => by
    have e : s.data.toList.length = s.size := Array.length_toList
    rw [Nat.zero_add, Lib.bytesWorld_cell w 5 s j (by omega)]
    simp [List.getD, List.getElem?_eq_getElem hj]⟩
end Go.Proofs.YtanebchmeaomgaaGreatDoor
