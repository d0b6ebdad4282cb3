/-
  Copies of requests that may be written, and what the laws' own helps do that mark their heads.
-/
import Derived.Test.YthcaedgegmnopaaDoorLawReq
import Derived.Test.YthcaedgegmnopaaDoorMarkRows
namespace Go.Proofs.YthcaedgegmnopaaDoor
open Go.RowKit M
set_option linter.unusedVariables false

set_option maxHeartbeats 1000000 in
theorem toHeadS_rows (a : Option Addr) (hs : List Hd) (cap B : Nat) (w : World) (h : Hds w B a hs) (hB : B ≤ w.heap.size) (hl : hs.length ≤ 1048576) :
    Calls Tryd.prog 49 #[.slice a hs.length cap] w fun e w' => e = .returned (.slice (some ⟨w.heap.size, 0, none⟩) hs.length hs.length) ∧ RowH w' w.heap.size hs ∧ Below w.heap.size w w' ∧ w.heap.size < w'.heap.size := by
  have hmk := run_make_heads hs.length hl w
  go_enter Tryd.func49, Tryd.ntmps49
  go_wp2
  clear hmk
  go_loopw [4] (fun i wr => ∃ k : Nat, k ≤ hs.length ∧ i = .int .i64 k ∧ wr.rowIs w.heap.size 55 (hs.length * 2) (fun j => if j / 2 < k then (if j % 2 = 0 then .string (hs.getD (j / 2) (ByteArray.empty, ByteArray.empty)).1 else .string (hs.getD (j / 2) (ByteArray.empty, ByteArray.empty)).2) else .string ByteArray.empty) ∧ Below w.heap.size w wr) (fun i _ => hs.length - (intOf i).toNat)
  case atStart => 
    refine ⟨0, Nat.zero_le _, rfl, ?_, (Below.refl _ _).alloc (Nat.le_refl _) _⟩
    have hr := World.rowIs_alloc w (madeCells #[.string ByteArray.empty, .string ByteArray.empty] (hs.length * 2)) 55 (fun _ => .string ByteArray.empty) (fun i hi => made_two hs.length i (by rwa [size_madeCells] at hi))
    rw [size_madeCells] at hr
    exact hr.congr (fun i _ => by simp)
  case round =>
    obtain ⟨k, hk, rfl, hrow, hbe⟩ := hrel
    by_cases hlt : k < hs.length
    · obtain ⟨b, o, rfl, hb, hc⟩ := h (by omega)
      have hcx := (hbe.cell (p := ⟨b, o + k * 2, none⟩) (Nat.lt_of_lt_of_le hb hB)).trans (hc k hlt).1
      have hcy := (hbe.cell (p := ⟨b, o + k * 2 + 1, none⟩) (Nat.lt_of_lt_of_le hb hB)).trans (hc k hlt).2
      clear hc
      go_wp2_with fail
      refine (toHead_any hs[k].1 hs[k].2 wr).mono ?_
      rintro e w1 ⟨rfl, hb1⟩
      have c1 := hbe.trans (hb1.mono hbe.size)
      have hrow1 := hrow.of_block (w' := w1) (hb1.block _ hrow.lt)
      have hcn := hrow1.cell (i := k * 2) (by omega)
      have hcm := hrow1.cell (i := k * 2 + 1) (by omega)
      have hfn := hrow1.frozen (k * 2)
      have hfm := hrow1.frozen (k * 2 + 1)
      have hrow2 := ((hrow1.set (k * 2) (.string hs[k].1)).set (k * 2 + 1) (.string hs[k].2)).congr (g := fun j => if j / 2 < k + 1 then (if j % 2 = 0 then .string (hs.getD (j / 2) (ByteArray.empty, ByteArray.empty)).1 else .string (hs.getD (j / 2) (ByteArray.empty, ByteArray.empty)).2) else .string ByteArray.empty) (fun j hj => by
        have eg : hs.getD k (ByteArray.empty, ByteArray.empty) = hs[k] := by simp [List.getD, List.getElem?_eq_getElem hlt]
        by_cases e : j = k * 2 + 1
        · subst e
          have e1 : (k * 2 + 1) / 2 = k := by omega
          have e2 : ¬ (k * 2 + 1) % 2 = 0 := by omega
          simp only [e1, e2, if_true, if_false, Nat.lt_succ_self, eg]
        · by_cases e' : j = k * 2
          · subst e'
            have e1 : (k * 2) / 2 = k := by omega
            have e2 : (k * 2) % 2 = 0 := by omega
            have e3 : ¬ k * 2 = k * 2 + 1 := by omega
            simp only [e1, e2, e3, if_true, if_false, Nat.lt_succ_self, eg]
          · simp only [e, e', if_false]
            by_cases e2 : j / 2 < k
            · have e3 : j / 2 < k + 1 := by omega
              simp only [e2, e3, if_true]
            · have e3 : ¬ j / 2 < k + 1 := by omega
              simp only [e2, e3, if_false])
      have HR : Hid _ := hrow2
      clear hrow2 hrow
      go_wp2
      go_roundw
      case rel => exact ⟨k + 1, by omega, by go_num, HR.out, (c1.setCell (Nat.le_refl _) _).setCell (Nat.le_refl _) _⟩
      case measure => simp [intOf]; omega
    · go_wp2
      go_ret
      refine ⟨rfl, ⟨hrow.lt, fun j hj => ?_⟩, hbe, hrow.lt⟩
      have hk' : k = hs.length := by omega
      subst hk'
      refine ⟨?_, ?_, hrow.frozen _, hrow.frozen _⟩
      · rw [hrow.cell (by omega)]
        simp [List.getD, List.getElem?_eq_getElem hj]
        omega
      · have e1 : (j * 2 + 1) / 2 = j := by omega
        have e2 : ¬ (j * 2 + 1) % 2 = 0 := by omega
        rw [hrow.cell (by omega)]
        simp only [e1, e2, if_false]
        rw [if_pos (by omega)]
        simp [List.getD, List.getElem?_eq_getElem hj]

set_option maxHeartbeats 1000000 in
theorem toReq_rows (a : Option Addr) (r : Rq) (cap B : Nat) (w : World) (h : Hds w B a r.hs) (hB : B ≤ w.heap.size) (hl : r.hs.length ≤ 1048576) :
    Calls Tryd.prog 18 #[.agg #[.string r.m, .string r.p, .slice a r.hs.length cap, .string r.b]] w fun e w' => (∃ g : Nat, e = .returned (.agg #[.string r.m, .string r.p, .slice (some ⟨g, 0, none⟩) r.hs.length r.hs.length, .string r.b]) ∧ RowH w' g r.hs ∧ w.heap.size ≤ g) ∧ Below w.heap.size w w' := by
  obtain ⟨rm, rp, hs, rb⟩ := r
  simp only at *
  have HH : Hid (Hds w B a hs) := h
  clear h
  go_enter Tryd.func18, Tryd.ntmps18
  go_wp2_with fail
  have hb0 : Below w.heap.size w (((w.alloc (Obj.cells #[Value.string rm, Value.string rp, Value.slice a hs.length cap, Value.string rb] 38)).alloc (Obj.cells #[Value.string { data := #[] }, Value.string { data := #[] }, Value.slice none 0 0, Value.string { data := #[] }] 42)).alloc (Obj.cells #[Value.string rm, Value.string rp, Value.slice none 0 0, Value.string { data := #[] }] 42)) := (((Below.refl _ _).alloc (Nat.le_refl _) _).alloc (by simp) _).alloc (by simp; omega) _
  refine (toHeadS_rows a hs cap B _ (HH.out.below hb0 hB) (by simp; omega) hl).mono ?_
  rintro e w1 ⟨rfl, hd1, hb1, hlt1⟩
  have HD1 : Hid (RowH w1 _ hs) := hd1
  have HB1 : Hid (Below w.heap.size w w1) := hb0.trans (hb1.mono hb0.size)
  obtain ⟨hc, hf⟩ := bcell hb1
  clear hd1 hb0 hb1
  go_wp2
  have hd' : RowH w1 (w.heap.size + 1 + 1 + 1) hs := by have := HD1.out; simpa using this
  refine bodyPost_ret (v := .agg #[.string rm, .string rp, .slice (some ⟨w.heap.size + 1 + 1 + 1, 0, none⟩) hs.length hs.length, .string rb]) (by simp [results, Tryd.results18, go_sem, hc]) rfl ⟨⟨_, rfl, ?_, by omega⟩, ?_⟩
  · have h6 := (((((hd'.store ⟨w.heap.size + 1 + 1, 2, none⟩ (Value.slice (some ⟨w.heap.size + 1 + 1 + 1, 0, none⟩) hs.length hs.length) (by simp)).store ⟨w.heap.size + 1 + 1, 3, none⟩ (Value.string rb) (by simp)).store ⟨w.heap.size + 1, 0, none⟩ (Value.string rm) (by simp)).store ⟨w.heap.size + 1, 1, none⟩ (Value.string rp) (by simp)).store ⟨w.heap.size + 1, 2, none⟩ (Value.slice (some ⟨w.heap.size + 1 + 1 + 1, 0, none⟩) hs.length hs.length) (by simp)).store ⟨w.heap.size + 1, 3, none⟩ (Value.string rb) (by simp)
    exact h6
  · exact (((((HB1.out.setCell (by simp; omega) _).setCell (by simp; omega) _).setCell (by simp) _).setCell (by simp) _).setCell (by simp) _).setCell (by simp) _

end Go.Proofs.YthcaedgegmnopaaDoor
