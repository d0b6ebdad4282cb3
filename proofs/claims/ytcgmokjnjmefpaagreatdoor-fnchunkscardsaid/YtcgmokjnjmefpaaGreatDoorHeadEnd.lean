/-
  What the specification's and the program's HeadEnd do.
-/
import Derived.Test.YtcgmokjnjmefpaaGreatDoorLower
import Derived.Test.YtcgmokjnjmefpaaGreatDoorSpecSm
namespace Go.Proofs.YtcgmokjnjmefpaaGreatDoor
open Go.RowKit M
set_option linter.unusedVariables false

set_option maxRecDepth 100000 in
set_option maxHeartbeats 1000000 in
theorem specHeadEnd_any (a : Option Addr) (l : List UInt8) (cap B : Nat) (w : World) (h : Byt w B a l) (hl : l.length ≤ cap) (hm : cap ≤ maxLen) :
    Calls Tryz.prog 32 #[.slice a l.length cap] w fun e w' => e = .returned (.int .i64 (heL l)) ∧ ∀ D, Below D w w' := by
  unfold maxLen at hm
  go_enter Tryz.func32, Tryz.ntmps32
  go_wp2
  go_loopw [3] (fun i wr => ∃ k n : Nat, k ≤ l.length ∧ k ≤ 400 ∧ i = .int .i64 k ∧ (∀ j, j < k → Lib.occAt (l.take 400) two4 j = false) ∧ wr = w.drewN n) (fun i _ => 500 - (intOf i).toNat)
  case atStart => exact ⟨0, 0, Nat.zero_le _, Nat.zero_le _, rfl, fun j hj => absurd hj (Nat.not_lt_zero _), rfl⟩
  case round =>
    obtain ⟨k, n, hk, hk4, rfl, hn, rfl⟩ := hrel
    have HN : Hid (∀ j, j < k → Lib.occAt (l.take 400) two4 j = false) := hn
    clear hn
    by_cases h1 : k + 3 < l.length
    · by_cases h2 : k + 3 < 400
      · obtain ⟨b, o, rfl, hb, hc⟩ := h (by omega)
        have hby : Byt (w.drewN n) B (some ⟨b, o, none⟩) l := fun _ => ⟨b, o, rfl, hb, hc⟩
        have hcv := conv_byt ((hby.drop k).take 4) 4 (cap - k) (by rw [List.length_take, List.length_drop]; omega)
        have e1 := two4_beq ((l.drop k).take 4)
        have h1' : ((k : Int) + 3 < (l.length : Int)) := by omega
        have h2' : ((k : Int) + 3 < 400) := by omega
        obtain ⟨q, hq⟩ : ∃ q, (l.drop k).take 4 = q := ⟨_, rfl⟩
        rw [hq] at hcv e1
        by_cases hqq : q = two4
        · rw [decide_eq_true hqq] at e1
          have HE : Hid (heL l = k + 4) := heL_at (by omega) (by omega) HN.out (by rw [hq]; exact hqq)
          clear hby hc hq hqq
          go_wp2
          go_ret
          exact ⟨ret_intE HE.out.symm, fun D => below_drewN (Below.refl _ _) _⟩
        · rw [decide_eq_false hqq] at e1
          have HE : Hid (∀ j, j < k + 1 → Lib.occAt (l.take 400) two4 j = false) := fun j hj => by
            by_cases e : j < k
            · exact HN.out j e
            · have : j = k := by omega
              subst this
              rw [occ_at l j (by omega), hq]; simp [hqq]
          clear hby hc hq hqq
          go_wp2
          go_roundw
          case rel => exact ⟨k + 1, n, by omega, by omega, by go_num, HE.out, rfl⟩
          case measure => simp [intOf]; omega
      · have HE : Hid (heL l = -1) := heL_none (by omega) HN.out
        have h1' : ((k : Int) + 3 < (l.length : Int)) := by omega
        have h2' : ¬ ((k : Int) + 3 < 400) := by omega
        go_wp2
        go_ret
        exact ⟨ret_intE HE.out.symm, fun D => below_drewN (Below.refl _ _) _⟩
    · have HE : Hid (heL l = -1) := heL_none (by omega) HN.out
      have h1' : ¬ ((k : Int) + 3 < (l.length : Int)) := by omega
      go_wp2
      go_ret
      exact ⟨ret_intE HE.out.symm, fun D => below_drewN (Below.refl _ _) _⟩

theorem min_take (l : List UInt8) : (min (l.length : Int) 400).toNat = (l.take 400).length := by rw [List.length_take]; omega

theorem mark_cells (w : World) (T : TypeId) : ∀ i, i < 4 → (w.alloc (.cells #[.int .u8 13, .int .u8 10, .int .u8 13, .int .u8 10] T (4, 5))).cell? ((⟨w.heap.size, 0, none⟩ : Addr).add i) = some (.int .u8 (([13, 10, 13, 10] : List Int).getD i 0)) := by
  intro i hi
  have e : (⟨w.heap.size, 0, none⟩ : Addr).add i = ⟨w.heap.size, i, none⟩ := by unfold Addr.add; split <;> simp_all
  rw [e, World.cell?_alloc_mark]
  match i, hi with
  | 0, _ => rfl
  | 1, _ => rfl
  | 2, _ => rfl
  | 3, _ => rfl

/-- bytes.Index of two line's ends among the first 400 bytes. -/
theorem index_two {w : World} {b o : Nat} {l : List UInt8} (cap B : Nat) (m : Int) (h : Byt w B (some ⟨b, o, none⟩) l) (hB : B ≤ w.heap.size) (hl : l.length ≤ cap) (h0 : 0 < w.heap.size) (hmx : w.cell? ⟨0, 0, none⟩ = some (.int .i64 m)) :
    Calls Tryz.prog 73 #[.slice (some ⟨b, o, none⟩) (l.take 400).length cap, .slice (some ⟨w.heap.size, 0, none⟩) 4 4] (w.alloc (.cells #[.int .u8 13, .int .u8 10, .int .u8 13, .int .u8 10] 5 (4, 5))) fun e w' => e = .returned (.int .i64 (Lib.index (l.take 400) two4)) ∧ Below w.heap.size w w' := by
  have hb0 : Below w.heap.size w (w.alloc (.cells #[.int .u8 13, .int .u8 10, .int .u8 13, .int .u8 10] 5 (4, 5))) := (Below.refl _ _).alloc (Nat.le_refl _) _
  have ht := (h.take 400).below hb0 hB
  have hlen : (l.take 400).length ≤ 400 := by rw [List.length_take]; omega
  have hlen2 : (l.take 400).length ≤ l.length := by rw [List.length_take]; omega
  have hc := Tryz.bytes_Index_at ⟨b, o, none⟩ ⟨w.heap.size, 0, none⟩ (l.take 400).length cap 4 4 (numsOf (l.take 400)) [13, 10, 13, 10] m (w.alloc (.cells #[.int .u8 13, .int .u8 10, .int .u8 13, .int .u8 10] 5 (4, 5)))
    (numsOf_length _) rfl (numsOf_range _) (by decide) (by
      intro i hi
      obtain ⟨b', o', e, _, hcc⟩ := ht (by omega)
      cases e
      exact numsOf_cells hcc i hi) (mark_cells w _) (by omega) (by omega) (by decide) ((hb0.cell (p := ⟨0, 0, none⟩) h0).trans hmx)
  refine hc.mono ?_
  rintro e w1 ⟨rfl, q, rfl⟩
  refine ⟨ret_intE ?_, below_drewN hb0 _⟩
  rw [numsOf_bytes]
  rfl

set_option maxRecDepth 100000 in
set_option maxHeartbeats 1000000 in
theorem headEnd_any (b o : Nat) (l : List UInt8) (cap B : Nat) (m : Int) (w : World) (h : Byt w B (some ⟨b, o, none⟩) l) (hB : B ≤ w.heap.size) (hl : l.length ≤ cap) (hm : cap ≤ maxLen) (h0 : 0 < w.heap.size) (hmx : w.cell? ⟨0, 0, none⟩ = some (.int .i64 m)) :
    Calls Tryz.prog 31 #[.slice (some ⟨b, o, none⟩) l.length cap] w fun e w' => e = .returned (.int .i64 (heL l)) ∧ Below w.heap.size w w' := by
  unfold maxLen at hm
  have hI := index_two cap B m h hB hl h0 hmx
  have kc := fun (w : World) (C : Array Value) (n c : Nat) => Lib.run_convert_bytes_const w 22 5 C n c Tryz.underlying22 Tryz.underlying5
  have hmt : Hid ((min (l.length : Int) 400).toNat = (l.take 400).length) := min_take l
  have HE : Hid (heL l = if 0 ≤ Lib.index (l.take 400) two4 then Lib.index (l.take 400) two4 + 4 else -1) := rfl
  have hbd : Lib.index (l.take 400) two4 ≤ 400 := by
    have := Lib.index_le (l.take 400) two4
    rw [List.length_take] at this; omega
  have hge := Lib.index_ge (l.take 400) two4
  obtain ⟨i, hi⟩ : ∃ i, Lib.index (l.take 400) two4 = i := ⟨_, rfl⟩
  rw [hi] at hI HE hbd hge
  obtain ⟨z, hz⟩ : ∃ z, heL l = z := ⟨_, rfl⟩
  rw [hz] at HE ⊢
  obtain ⟨k, hk⟩ : ∃ k, (l.take 400).length = k := ⟨_, rfl⟩
  rw [hk] at hI hmt
  clear hi hz hmx h0 h hk
  go_enter Tryz.func31, Tryz.ntmps31
  go_wp2_with fail
  rw [hmt.out]
  refine hI.mono ?_
  rintro e w1 ⟨rfl, b1⟩
  by_cases h0 : i < 0
  · have hz := HE.out
    rw [if_neg (by omega)] at hz
    subst hz
    go_wp2
    go_ret
    exact ⟨rfl, b1⟩
  · have hz := HE.out
    rw [if_pos (by omega)] at hz
    subst hz
    go_wp2
    go_ret
    exact ⟨rfl, b1⟩
end Go.Proofs.YtcgmokjnjmefpaaGreatDoor
