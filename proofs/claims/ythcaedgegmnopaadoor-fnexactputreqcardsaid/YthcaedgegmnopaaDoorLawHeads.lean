/-
  What the laws' own helps on heads do: sizes, copies.
-/
import Derived.Test.YthcaedgegmnopaaDoorHeads
namespace Go.Proofs.YthcaedgegmnopaaDoor
open Go.RowKit M
set_option linter.unusedVariables false

set_option maxHeartbeats 400000 in
theorem szHead_any (x y : ByteArray) (left : Nat) (w : World) (h1 : x.size ≤ maxLen) (h2 : y.size ≤ maxLen) (hleft : left ≤ 1048576) :
    Calls Tryd.prog 70 #[.agg #[.string x, .string y], .int .i64 left] w fun e w' => (∃ z : Int, e = .returned (.int .i64 z) ∧ (z < 0 ∨ ∃ m : Nat, z = m ∧ x.size + y.size + m = left)) ∧ Below w.heap.size w w' := by
  unfold maxLen at h1 h2
  by_cases hx : left < x.size
  · go_enter Tryd.func70, Tryd.ntmps70
    go_wp2
    go_ret
    exact ⟨⟨_, rfl, .inl (by omega)⟩, (Below.refl _ _).alloc (Nat.le_refl _) _⟩
  · by_cases hy : left < x.size + y.size
    · go_enter Tryd.func70, Tryd.ntmps70
      go_wp2
      go_ret
      exact ⟨⟨_, rfl, .inl (by omega)⟩, (Below.refl _ _).alloc (Nat.le_refl _) _⟩
    · go_enter Tryd.func70, Tryd.ntmps70
      go_wp2
      go_ret
      exact ⟨⟨_, rfl, .inr ⟨left - x.size - y.size, by omega, by omega⟩⟩, (Below.refl _ _).alloc (Nat.le_refl _) _⟩

set_option maxHeartbeats 400000 in
theorem szHeadS_any (a : Option Addr) (hs : List Hd) (cap B left : Nat) (w : World) (h : Hds w B a hs) (hB : B ≤ w.heap.size) (hsh : ShortH hs) (hl : hs.length ≤ maxLen) (hleft : left ≤ 1048576) :
    Calls Tryd.prog 46 #[.slice a hs.length cap, .int .i64 left] w fun e w' => (∃ z : Int, e = .returned (.int .i64 z) ∧ (z < 0 ∨ ∃ m : Nat, z = m ∧ hs.length + sumH hs + m = left)) ∧ Below w.heap.size w w' := by
  unfold maxLen at hl
  by_cases hlt0 : left < hs.length
  · go_enter Tryd.func46, Tryd.ntmps46
    go_wp2
    go_ret
    exact ⟨⟨_, rfl, .inl (by omega)⟩, Below.refl _ _⟩
  · go_enter Tryd.func46, Tryd.ntmps46
    go_wp2
    go_loopw [1, 5] (fun l i wr => ∃ k m : Nat, k ≤ hs.length ∧ i = .int .i64 k ∧ l = .int .i64 m ∧ hs.length + sumH (hs.take k) + m = left ∧ Below w.heap.size w wr) (fun _ i _ => hs.length - (intOf i).toNat)
    case atStart => exact ⟨0, left - hs.length, Nat.zero_le _, rfl, by congr 1; omega, by simp [sumH]; omega, Below.refl _ _⟩
    case round =>
      obtain ⟨k, m, hk, rfl, rfl, hm, hbe⟩ := hrel
      by_cases hlt : k < hs.length
      · obtain ⟨b, o, rfl, hb, hc⟩ := (h.below hbe hB) (by omega)
        have hcx := (hc k hlt).1
        have hcy := (hc k hlt).2
        have hsz := hsh.at k hlt
        have HS := sumH_snoc hs k hlt
        have HM : Hid (hs.length + sumH (hs.take k) + m = left) := hm
        have HS2 : Hid _ := HS
        clear HS
        clear hm
        have hm1 : m ≤ 1048576 := by have := HM.out; omega
        go_wp2_with fail
        refine (szHead_any hs[k].1 hs[k].2 m wr hsz.1 hsz.2 hm1).mono ?_
        rintro e w1 ⟨⟨z, rfl, hz⟩, hb1⟩
        have c1 := hbe.trans (hb1.mono hbe.size)
        rcases hz with hz | ⟨m', rfl, hm'⟩
        · go_wp2
          go_ret
          exact ⟨⟨_, rfl, .inl (by omega)⟩, c1⟩
        · have HM' : Hid ((hs[k]).1.size + (hs[k]).2.size + m' = m) := hm'
          clear hm'
          go_wp2
          go_roundw
          case rel => exact ⟨k + 1, m', by omega, by go_num, rfl, by rw [HS2.out]; have := HM.out; have := HM'.out; unfold szH; omega, c1⟩
          case measure => simp [intOf]; omega
      · go_wp2
        go_ret
        exact ⟨⟨m, rfl, .inr ⟨m, rfl, by rw [List.take_of_length_le (by omega)] at hm; exact hm⟩⟩, hbe⟩

theorem info_head : (Tryd.prog.info? 55).map (fun i => (i.zero, i.size, i.bytes)) = some (some (.agg #[.string ByteArray.empty, .string ByteArray.empty]), 2, 32) := by kernel_rfl

theorem run_make_heads (n : Nat) (hn : n ≤ 1048576) (w : World) :
    (Instr.makeSlice 24 (.int .i64 (n : Int)) (.int .i64 (n : Int))).run Tryd.prog w = .ok (.slice (some ⟨w.heap.size, 0, none⟩) n n) (w.alloc (.cells (madeCells #[.string ByteArray.empty, .string ByteArray.empty] (n * 2)) 55)) := by
  obtain ⟨i, hi, hz, hs, hb⟩ := info_parts info_head
  have hr := run_make (P := Tryd.prog) w 24 55 i _ Tryd.underlying24 hi hz .i64 .i64 n n (by omega) (Int.le_refl _) (by rw [hb]; omega) (by omega)
  simp only [Int.toNat_natCast, hs] at hr
  exact hr

theorem made_two (n : Nat) : ∀ i, i < n * 2 → (madeCells #[Value.string ByteArray.empty, .string ByteArray.empty] (n * 2))[i]? = some (.string ByteArray.empty) := by
  intro i hi
  have h2 : i % 2 < 2 := Nat.mod_lt _ (by decide)
  have e : i % 2 = 0 ∨ i % 2 = 1 := by omega
  rcases e with e | e <;> simp [madeCells, hi, e]

set_option maxHeartbeats 400000 in
theorem toHead_any (x y : ByteArray) (w : World) :
    Calls Tryd.prog 72 #[.agg #[.string x, .string y]] w fun e w' => e = .returned (.agg #[.string x, .string y]) ∧ Below w.heap.size w w' := by
  go_enter Tryd.func72, Tryd.ntmps72
  go_wp2
  exact bodyPost_ret (v := .agg #[.string x, .string y]) (by simp [results, Tryd.results72, go_sem]) rfl ⟨rfl, (((Below.refl _ _).alloc (Nat.le_refl _) _).alloc (by simp) _).alloc (by simp; omega) _⟩

set_option maxHeartbeats 1000000 in
theorem toHeadS_any (a : Option Addr) (hs : List Hd) (cap B : Nat) (w : World) (h : Hds w B a hs) (hB : B ≤ w.heap.size) (hl : hs.length ≤ 1048576) :
    Calls Tryd.prog 49 #[.slice a hs.length cap] w fun e w' => e = .returned (.slice (some ⟨w.heap.size, 0, none⟩) hs.length hs.length) ∧ Hds w' (w.heap.size + 1) (some ⟨w.heap.size, 0, none⟩) hs ∧ Below w.heap.size w w' ∧ w.heap.size < w'.heap.size := by
  have hmk := run_make_heads hs.length hl w
  go_enter Tryd.func49, Tryd.ntmps49
  go_wp2
  clear hmk
  go_loopw [4] (fun i wr => ∃ k : Nat, k ≤ hs.length ∧ i = .int .i64 k ∧ wr.rowIs w.heap.size 55 (hs.length * 2) (fun j => if j / 2 < k then (if j % 2 = 0 then .string (hs.getD (j / 2) (ByteArray.empty, ByteArray.empty)).1 else .string (hs.getD (j / 2) (ByteArray.empty, ByteArray.empty)).2) else .string ByteArray.empty) ∧ Below w.heap.size w wr) (fun i _ => hs.length - (intOf i).toNat)
  case atStart => 
    refine ⟨0, Nat.zero_le _, rfl, ?_, (Below.refl _ _).alloc (Nat.le_refl _) _⟩
    have hr := World.rowIs_alloc w (madeCells #[.string ByteArray.empty, .string ByteArray.empty] (hs.length * 2)) 55 (fun _ => .string ByteArray.empty) (fun i hi => made_two hs.length i (by rwa [size_madeCells] at hi))
    rw [size_madeCells] at hr
    exact hr.congr (fun i _ => by simp)
  case round =>
    obtain ⟨k, hk, rfl, hrow, hbe⟩ := hrel
    by_cases hlt : k < hs.length
    · obtain ⟨b, o, rfl, hb, hc⟩ := h (by omega)
      have hcx := (hbe.cell (p := ⟨b, o + k * 2, none⟩) (Nat.lt_of_lt_of_le hb hB)).trans (hc k hlt).1
      have hcy := (hbe.cell (p := ⟨b, o + k * 2 + 1, none⟩) (Nat.lt_of_lt_of_le hb hB)).trans (hc k hlt).2
      clear hc
      go_wp2_with fail
      refine (toHead_any hs[k].1 hs[k].2 wr).mono ?_
      rintro e w1 ⟨rfl, hb1⟩
      have c1 := hbe.trans (hb1.mono hbe.size)
      have hrow1 := hrow.of_block (w' := w1) (hb1.block _ hrow.lt)
      have hcn := hrow1.cell (i := k * 2) (by omega)
      have hcm := hrow1.cell (i := k * 2 + 1) (by omega)
      have hfn := hrow1.frozen (k * 2)
      have hfm := hrow1.frozen (k * 2 + 1)
      have hrow2 := ((hrow1.set (k * 2) (.string hs[k].1)).set (k * 2 + 1) (.string hs[k].2)).congr (g := fun j => if j / 2 < k + 1 then (if j % 2 = 0 then .string (hs.getD (j / 2) (ByteArray.empty, ByteArray.empty)).1 else .string (hs.getD (j / 2) (ByteArray.empty, ByteArray.empty)).2) else .string ByteArray.empty) (fun j hj => by
        have eg : hs.getD k (ByteArray.empty, ByteArray.empty) = hs[k] := by simp [List.getD, List.getElem?_eq_getElem hlt]
        by_cases e : j = k * 2 + 1
        · subst e
          have e1 : (k * 2 + 1) / 2 = k := by omega
          have e2 : ¬ (k * 2 + 1) % 2 = 0 := by omega
          simp only [e1, e2, if_true, if_false, Nat.lt_succ_self, eg]
        · by_cases e' : j = k * 2
          · subst e'
            have e1 : (k * 2) / 2 = k := by omega
            have e2 : (k * 2) % 2 = 0 := by omega
            have e3 : ¬ k * 2 = k * 2 + 1 := by omega
            simp only [e1, e2, e3, if_true, if_false, Nat.lt_succ_self, eg]
          · simp only [e, e', if_false]
            by_cases e2 : j / 2 < k
            · have e3 : j / 2 < k + 1 := by omega
              simp only [e2, e3, if_true]
            · have e3 : ¬ j / 2 < k + 1 := by omega
              simp only [e2, e3, if_false])
      have HR : Hid _ := hrow2
      clear hrow2 hrow
      go_wp2
      go_roundw
      case rel => exact ⟨k + 1, by omega, by go_num, HR.out, (c1.setCell (Nat.le_refl _) _).setCell (Nat.le_refl _) _⟩
      case measure => simp [intOf]; omega
    · go_wp2
      go_ret
      refine ⟨rfl, fun h0 => ⟨w.heap.size, 0, rfl, Nat.lt_succ_self _, fun j hj => ?_⟩, hbe, hrow.lt⟩
      have hk' : k = hs.length := by omega
      subst hk'
      constructor
      · rw [Nat.zero_add, hrow.cell (by omega)]
        simp [List.getD, List.getElem?_eq_getElem hj]
        omega
      · have e1 : (j * 2 + 1) / 2 = j := by omega
        have e2 : ¬ (j * 2 + 1) % 2 = 0 := by omega
        rw [Nat.zero_add, hrow.cell (by omega)]
        simp only [e1, e2, if_false]
        rw [if_pos (by omega)]
        simp [List.getD, List.getElem?_eq_getElem hj]
end Go.Proofs.YthcaedgegmnopaaDoor
