/-
  What the program's frameOf does.
-/
import Derived.Test.YtcgmokjnjmefpaaGreatDoorReadLines
import Derived.Test.YtcgmokjnjmefpaaGreatDoorMathBack
import Derived.Test.YtcgmokjnjmefpaaGreatDoorMathReqs
namespace Go.Proofs.YtcgmokjnjmefpaaGreatDoor
open Go.RowKit M
set_option linter.unusedVariables false

/-- The code of what is told of a body, of the three lists. -/
def frC (l1 l2 : List Hd) (n3 : Nat) : Int :=
  if 1 < l1.length + l2.length then 400
  else if l1.all numOk = false then 400
  else if 8 < n3 then 431
  else if l2.all codOk = false then 501
  else if l1.any (fun h => decide (200 < numOf h)) = true then 413 else 0
theorem frameC_eq (hs : List Hd) : frameC hs = frC (lensOf hs) (codsOf hs) (othOf hs).length := rfl
/-- The number that the last of them tells. -/
def lastN (l : List Hd) : Int := match l.getLast? with | none => 0 | some h => (parseNum h.2.data.toList 9999999).1
theorem lastN_snoc (l : List Hd) (k : Nat) (hk : k < l.length) : lastN (l.take (k + 1)) = (parseNum l[k].2.data.toList 9999999).1 := by
  unfold lastN
  rw [List.take_succ_eq_append_getElem hk, List.getLast?_concat]
def MemF (w : World) (ck : Bool) (n : Int) (W : World) : Prop :=
  W.heap[w.heap.size]? = some (Obj.cells #[.bool false, .int .i64 0] 98) ∧ W.heap[w.heap.size + 1]? = some (Obj.cells #[.bool ck, .int .i64 n] 98) ∧ Below w.heap.size w W ∧ w.heap.size + 2 ≤ W.heap.size
theorem MemF.next {w W W' : World} {ck : Bool} {n : Int} (h : MemF w ck n W) (hb : Below W.heap.size W W') : MemF w ck n W' := by
  obtain ⟨h1, h2, h3, h4⟩ := h
  exact ⟨(hb.block _ (by omega)).trans h1, (hb.block _ (by omega)).trans h2, h3.trans (hb.mono h3.size), Nat.le_trans h4 hb.size⟩
theorem MemF.set_n {w W : World} {ck : Bool} {n : Int} (h : MemF w ck n W) (n' : Int) : MemF w ck n' (W.setCell ⟨w.heap.size + 1, 1, none⟩ (.int .i64 n')) := by
  obtain ⟨h1, h2, h3, h4⟩ := h
  exact ⟨set_other h1 (by omega) _, set_heap h2 1 _, h3.setCell (p := ⟨w.heap.size + 1, 1, none⟩) (by show w.heap.size ≤ w.heap.size + 1; omega) _, by simpa using h4⟩
theorem MemF.set_ck {w W : World} {ck : Bool} {n : Int} (h : MemF w ck n W) (ck' : Bool) : MemF w ck' n (W.setCell ⟨w.heap.size + 1, 0, none⟩ (.bool ck')) := by
  obtain ⟨h1, h2, h3, h4⟩ := h
  exact ⟨set_other h1 (by omega) _, set_heap h2 0 _, h3.setCell (p := ⟨w.heap.size + 1, 0, none⟩) (by show w.heap.size ≤ w.heap.size + 1; omega) _, by simpa using h4⟩
theorem MemF.cells {w W : World} {ck : Bool} {n : Int} (h : MemF w ck n W) : W.cell? ⟨w.heap.size, 0, none⟩ = some (.bool false) ∧ W.cell? ⟨w.heap.size, 1, none⟩ = some (.int .i64 0) ∧ W.frozen? ⟨w.heap.size, 0, none⟩ = false ∧ W.frozen? ⟨w.heap.size, 1, none⟩ = false ∧ W.cell? ⟨w.heap.size + 1, 0, none⟩ = some (.bool ck) ∧ W.cell? ⟨w.heap.size + 1, 1, none⟩ = some (.int .i64 n) ∧ W.frozen? ⟨w.heap.size + 1, 0, none⟩ = false ∧ W.frozen? ⟨w.heap.size + 1, 1, none⟩ = false := by
  obtain ⟨h1, h2, h3, h4⟩ := h
  refine ⟨?_, ?_, ?_, ?_, ?_, ?_, ?_, ?_⟩
  · unfold World.cell?; rw [h1]; rfl
  · unfold World.cell?; rw [h1]; rfl
  · unfold World.frozen?; rw [h1]; rfl
  · unfold World.frozen?; rw [h1]; rfl
  · unfold World.cell?; rw [h2]; rfl
  · unfold World.cell?; rw [h2]; rfl
  · unfold World.frozen?; rw [h2]; rfl
  · unfold World.frozen?; rw [h2]; rfl
theorem frame_desc : (Tryz.prog.info? 98).map (·.size) = some 2 := by kernel_rfl
theorem results_frame (tmps : Array Value) (N : Nat) (W : World) (v0 v1 : Value) (c : Int) (h6 : tmps.getD 6 undef = .pointer (some ⟨N, 0, none⟩)) (h7 : tmps.getD 7 undef = .int .i64 c) (hg : W.heap[N]? = some (Obj.cells #[v0, v1] 98)) :
    (results Tryz.f58 tmps).run Tryz.prog W = .ok (.tuple #[.agg #[v0, v1], .int .i64 c]) W := by
  rw [results_cell_tmp rfl]
  have hl := run_loadVar_row (P := Tryz.prog) W N 98 98 #[v0, v1] (0, 0) _ hg Tryz.underlying98 rfl frame_desc
  simp at h6 h7
  simp [h6, h7, asAddr, hl]
theorem set2_heap {w : World} {N : Nat} {a0 a1 : Value} {t : TypeId} (h : w.heap[N]? = some (.cells #[a0, a1] t)) (v0 v1 : Value) : ((w.setCell ⟨N, 0, none⟩ v0).setCell ⟨N, 1, none⟩ v1).heap[N]? = some (.cells #[v0, v1] t) := set_heap (set_heap h 0 v0) 1 v1
theorem set2_below {w W : World} {C N : Nat} (h : Below C W w) (hN : C ≤ N) (v0 v1 : Value) : Below C W ((w.setCell ⟨N, 0, none⟩ v0).setCell ⟨N, 1, none⟩ v1) := (h.setCell (p := ⟨N, 0, none⟩) hN _).setCell (p := ⟨N, 1, none⟩) hN _
theorem chk_bne (s : ByteArray) : (((⟨(lowL s.data.toList).toArray⟩ : ByteArray).toList) != [99, 104, 117, 110, 107, 101, 100]) = !decide (lowL s.data.toList = inPcs) := by
  rw [ByteArray.toList_eq]
  show ((lowL s.data.toList).toArray.toList != inPcs) = _
  by_cases h : lowL s.data.toList = inPcs <;> simp [h]

theorem chk_beq (s : ByteArray) : (((⟨(lowL s.data.toList).toArray⟩ : ByteArray).toList) == [99, 104, 117, 110, 107, 101, 100]) = decide (lowL s.data.toList = inPcs) := by
  rw [ByteArray.toList_eq]
  show ((lowL s.data.toList).toArray.toList == inPcs) = _
  by_cases h : lowL s.data.toList = inPcs <;> simp [h]

/-- What frameOf hands back. -/
def FrameIs (l1 l2 : List Hd) (n3 : Nat) (e : Ending) : Prop :=
  ∃ (ck : Bool) (n : Int), e = .returned (.tuple #[.agg #[.bool ck, .int .i64 n], .int .i64 (frC l1 l2 n3)]) ∧ (frC l1 l2 n3 = 0 → ck = !l2.isEmpty ∧ n = lastN l1)

set_option maxRecDepth 100000 in
set_option maxHeartbeats 4000000 in
theorem frameOf_any (a1 a2 a3 : Option Addr) (l1 l2 : List Hd) (n3 c1 c2 c3 B : Nat) (w : World) (h1 : Hds w B a1 l1) (h2 : Hds w B a2 l2) (hB : B ≤ w.heap.size) (hl1 : l1.length ≤ 1048576) (hl2 : l2.length ≤ 1048576) (hl3 : n3 ≤ 1048576) (hz1 : ∀ x ∈ l1, x.2.size ≤ 1048576) (hz2 : ∀ x ∈ l2, x.2.size ≤ 1048576) :
    Calls Tryz.prog 58 #[.slice a1 l1.length c1, .slice a2 l2.length c2, .slice a3 n3 c3] w fun e w' => FrameIs l1 l2 n3 e ∧ Below w.heap.size w w' := by
  have HH1 := hide h1
  have HH2 := hide h2
  have hM0 : MemF w false 0 ((w.alloc (Obj.cells #[.bool false, .int .i64 0] 98)).alloc (Obj.cells #[.bool false, .int .i64 0] 98)) := by
    refine ⟨?_, ?_, ((Below.refl _ w).alloc (Nat.le_refl _) _).alloc (by simp) _, by simp⟩
    all_goals
      show ((w.heap.push _).push _)[_]? = _
      first | (simp [Array.getElem_push]; done) | (simp [Array.getElem?_push]; done) | rfl
  have HM0 := hide hM0
  clear h1 h2 hM0
  by_cases hs : 1 < l1.length + l2.length
  · have HF : Hid (frC l1 l2 n3 = 400) := by show frC _ _ _ = _; unfold frC; rw [if_pos hs]
    have hs' : (1 : Int) < (l1.length : Int) + l2.length := by omega
    clear hs
    go_enter Tryz.func58, Tryz.ntmps58
    go_wp2
    refine bodyPost_ret (results_frame _ w.heap.size _ _ _ _ rfl rfl HM0.out.1) rfl ?_
    exact ⟨⟨_, _, by rw [HF.out], fun e => by rw [HF.out] at e; cases e⟩, HM0.out.2.2.1⟩
  · have hs' : ¬ ((1 : Int) < (l1.length : Int) + l2.length) := by omega
    go_enter Tryz.func58, Tryz.ntmps58
    go_wp2
    go_loopw [24] (fun i wr => ∃ k : Nat, k ≤ l1.length ∧ i = .int .i64 k ∧ (l1.take k).all numOk = true ∧ MemF w false (lastN (l1.take k)) wr) (fun i _ => l1.length - (intOf i).toNat)
    case atStart => exact ⟨0, Nat.zero_le _, rfl, rfl, HM0.out⟩
    case round =>
      obtain ⟨k, hk, rfl, hok, hM⟩ := hrel
      have HOk := hide hok
      clear hok
      by_cases hlt : k < l1.length
      · obtain ⟨b, o, rfl, hb, hc⟩ := HH1.out.below hM.2.2.1 hB (by omega)
        have hcx := (hc k hlt).1
        have hcy := (hc k hlt).2
        have hzk := hz1 _ (List.getElem_mem hlt)
        obtain ⟨x, hx⟩ : ∃ x, l1[k].1 = x := ⟨_, rfl⟩
        obtain ⟨y, hy⟩ : ∃ y, l1[k].2 = y := ⟨_, rfl⟩
        rw [hx] at hcx
        rw [hy] at hcy hzk
        have HY := hide hy
        have ba : Below wr.heap.size wr (wr.alloc (Obj.cells #[.string x, .string y] 92)) := (Below.refl _ _).alloc (Nat.le_refl _) _
        have HM1 := hide (hM.next ba)
        have HP := hide (parseNum_any y 9999999 (wr.alloc (Obj.cells #[.string x, .string y] 92)) (by unfold maxLen; omega))
        clear hc hM ba hx hy
        cases hpn : (parseNum y.data.toList 9999999).2
        · have HF : Hid (frC l1 l2 n3 = 400) := by
            show frC _ _ _ = _
            unfold frC
            rw [if_neg hs, if_pos]
            rw [List.all_eq_false]
            exact ⟨l1[k], List.getElem_mem hlt, by unfold numOk; rw [HY.out, hpn]; simp⟩
          rw [hpn] at HP
          generalize (parseNum y.data.toList 9999999).1 = z at HP
          go_wp2_with fail
          refine HP.out.mono ?_
          rintro e w1 ⟨rfl, b1⟩
          have hM2 := HM1.out.next b1
          obtain ⟨q0, q1, f0, f1, q2, q3, f2, f3⟩ := hM2.cells
          have HM2 := hide hM2
          clear HP HM1 b1 hM2
          go_wp2
          refine bodyPost_ret (results_frame _ w.heap.size _ _ _ _ rfl rfl (set2_heap HM2.out.1 _ _)) rfl ?_
          exact ⟨⟨_, _, by rw [HF.out], fun e => by rw [HF.out] at e; cases e⟩, set2_below HM2.out.2.2.1 (Nat.le_refl _) _ _⟩
        · rw [hpn] at HP
          have HL : Hid (lastN (l1.take (k + 1)) = (parseNum y.data.toList 9999999).1) := by show lastN _ = _; rw [lastN_snoc l1 k hlt, HY.out]
          have HA : Hid ((l1.take (k + 1)).all numOk = true) := by
            show (l1.take (k + 1)).all numOk = true
            rw [List.take_succ_eq_append_getElem hlt, List.all_append, HOk.out]
            simp [numOk, HY.out, hpn]
          generalize (parseNum y.data.toList 9999999).1 = z at HP HL
          go_wp2_with fail
          refine HP.out.mono ?_
          rintro e w1 ⟨rfl, b1⟩
          have hM2 := HM1.out.next b1
          obtain ⟨q0, q1, f0, f1, q2, q3, f2, f3⟩ := hM2.cells
          have HM3 := hide (hM2.set_n z)
          clear HP HM1 b1 hM2
          go_wp2
          go_roundw
          case rel => exact ⟨k + 1, by omega, by go_num, HA.out, by rw [HL.out]; exact HM3.out⟩
          case measure => simp [intOf]; omega
      · rw [List.take_of_length_le (by omega)] at hM
        have hall : l1.all numOk = true := by have := HOk.out; rwa [List.take_of_length_le (by omega)] at this
        have HAll := hide hall
        have HM := hide hM
        obtain ⟨q0, q1, f0, f1, q2, q3, f2, f3⟩ := hM.cells
        clear hM hall
        by_cases h8 : 8 < n3
        · have HF : Hid (frC l1 l2 n3 = 431) := by show frC _ _ _ = _; unfold frC; rw [if_neg hs, if_neg (by rw [HAll.out]; simp), if_pos h8]
          have h8' : (8 : Int) < n3 := by omega
          clear h8
          go_wp2
          refine bodyPost_ret (results_frame _ w.heap.size _ _ _ _ rfl rfl (set2_heap HM.out.1 _ _)) rfl ?_
          exact ⟨⟨_, _, by rw [HF.out], fun e => by rw [HF.out] at e; cases e⟩, set2_below HM.out.2.2.1 (Nat.le_refl _) _ _⟩
        · have h8' : ¬ ((8 : Int) < n3) := by omega
          go_wp2
          go_loopw [46] (fun i wr2 => ∃ k2 : Nat, k2 ≤ l2.length ∧ i = .int .i64 k2 ∧ (l2.take k2).all codOk = true ∧ MemF w (!(l2.take k2).isEmpty) (lastN l1) wr2) (fun i _ => l2.length - (intOf i).toNat)
          case atStart => exact ⟨0, Nat.zero_le _, rfl, rfl, HM.out⟩
          case round =>
            clear q0 q1 f0 f1 q2 q3 f2 f3 HM
            obtain ⟨k2, hk2, rfl, hok2, hM2⟩ := hrel
            have HOk2 := hide hok2
            clear hok2
            by_cases hlt2 : k2 < l2.length
            · obtain ⟨b, o, rfl, hb, hc⟩ := HH2.out.below hM2.2.2.1 hB (by omega)
              have hcx := (hc k2 hlt2).1
              have hcy := (hc k2 hlt2).2
              have hzk := hz2 _ (List.getElem_mem hlt2)
              obtain ⟨x, hx⟩ : ∃ x, l2[k2].1 = x := ⟨_, rfl⟩
              obtain ⟨y, hy⟩ : ∃ y, l2[k2].2 = y := ⟨_, rfl⟩
              rw [hx] at hcx
              rw [hy] at hcy hzk
              have HY := hide hy
              have ba : Below wr.heap.size wr (wr.alloc (Obj.cells #[.string x, .string y] 92)) := (Below.refl _ _).alloc (Nat.le_refl _) _
              have HM3 := hide (hM2.next ba)
              have HP := hide (lower_any y (wr.alloc (Obj.cells #[.string x, .string y] 92)) (by omega))
              clear hc hM2 ba hx hy
              by_cases hcd : lowL y.data.toList = inPcs
              · have hbn : (((⟨(lowL y.data.toList).toArray⟩ : ByteArray).toList) != [99, 104, 117, 110, 107, 101, 100]) = false := by rw [chk_bne, decide_eq_true hcd]; rfl
                have hbq : (((⟨(lowL y.data.toList).toArray⟩ : ByteArray).toList) == [99, 104, 117, 110, 107, 101, 100]) = true := by rw [chk_beq, decide_eq_true hcd]
                have HA : Hid ((l2.take (k2 + 1)).all codOk = true) := by
                  show (l2.take (k2 + 1)).all codOk = true
                  rw [List.take_succ_eq_append_getElem hlt2, List.all_append, HOk2.out]
                  simp [codOk, HY.out, hcd]
                have HEm : Hid ((l2.take (k2 + 1)).isEmpty = false) := by
                  show (l2.take (k2 + 1)).isEmpty = false
                  cases l2 with
                  | nil => simp at hlt2
                  | cons _ _ => rfl
                generalize (⟨(lowL y.data.toList).toArray⟩ : ByteArray) = ly at *
                clear hcd
                go_wp2_with fail
                refine HP.out.mono ?_
                rintro e w1 ⟨rfl, b1⟩
                have hM4 := HM3.out.next b1
                obtain ⟨q0, q1, f0, f1, q2, q3, f2, f3⟩ := hM4.cells
                have HM5 := hide (hM4.set_ck true)
                clear HP HM3 b1 hM4
                go_wp2
                go_roundw
                case rel => exact ⟨k2 + 1, by omega, by go_num, HA.out, by rw [HEm.out]; exact HM5.out⟩
                case measure => simp [intOf]; omega
              · have hbn : (((⟨(lowL y.data.toList).toArray⟩ : ByteArray).toList) != [99, 104, 117, 110, 107, 101, 100]) = true := by rw [chk_bne, decide_eq_false hcd]; rfl
                have hbq : (((⟨(lowL y.data.toList).toArray⟩ : ByteArray).toList) == [99, 104, 117, 110, 107, 101, 100]) = false := by rw [chk_beq, decide_eq_false hcd]
                have HF : Hid (frC l1 l2 n3 = 501) := by
                  show frC _ _ _ = _
                  unfold frC
                  rw [if_neg hs, if_neg (by rw [HAll.out]; simp), if_neg h8, if_pos]
                  rw [List.all_eq_false]
                  exact ⟨l2[k2], List.getElem_mem hlt2, by unfold codOk; rw [HY.out]; simp [hcd]⟩
                generalize (⟨(lowL y.data.toList).toArray⟩ : ByteArray) = ly at *
                clear hcd
                go_wp2_with fail
                refine HP.out.mono ?_
                rintro e w1 ⟨rfl, b1⟩
                have hM4 := HM3.out.next b1
                obtain ⟨q0, q1, f0, f1, q2, q3, f2, f3⟩ := hM4.cells
                have HM4 := hide hM4
                clear HP HM3 b1 hM4
                go_wp2
                refine bodyPost_ret (results_frame _ w.heap.size _ _ _ _ rfl rfl (set2_heap HM4.out.1 _ _)) rfl ?_
                exact ⟨⟨_, _, by rw [HF.out], fun e => by rw [HF.out] at e; cases e⟩, set2_below HM4.out.2.2.1 (Nat.le_refl _) _ _⟩
            · rw [List.take_of_length_le (by omega)] at hM2
              have hall2 : l2.all codOk = true := by have := HOk2.out; rwa [List.take_of_length_le (by omega)] at this
              have HM := hide hM2
              obtain ⟨q0, q1, f0, f1, q2, q3, f2, f3⟩ := hM2.cells
              obtain ⟨em, hem⟩ : ∃ em, (!l2.isEmpty) = em := ⟨_, rfl⟩
              have HEm := hide hem
              rw [hem] at q2 HM
              have hlast : lastN l1 ≤ 9999999 ∧ 0 ≤ lastN l1 ∧ (200 < lastN l1 ↔ l1.any (fun h => decide (200 < numOf h)) = true) := by
                have hp : ∀ h : Hd, 0 ≤ (parseNum h.2.data.toList 9999999).1 ∧ (parseNum h.2.data.toList 9999999).1 ≤ 9999999 := by
                  intro h
                  unfold parseNum
                  split
                  · rename_i hb
                    have := (parseB_iff _ _).1 hb
                    have h5 := this.2.2.2.2
                    exact ⟨by simp, h5⟩
                  · exact ⟨by simp, by simp⟩
                match l1, hs with
                | [], _ => simp [lastN]
                | [h], _ =>
                  have := hp h
                  simp [lastN, numOf]
                  omega
                | h :: h' :: r, hs => exact absurd hs (by simp; omega)
              obtain ⟨L, hL⟩ : ∃ L, lastN l1 = L := ⟨_, rfl⟩
              rw [hL] at hlast HM q3
              have HLs := hide hL
              obtain ⟨hl9, hl0, hliff⟩ := hlast
              clear hM2 hem hL
              by_cases h200 : 200 < L
              · have HF : Hid (frC l1 l2 n3 = 413) := by
                  show frC _ _ _ = _
                  unfold frC
                  rw [if_neg hs, if_neg (by rw [HAll.out]; simp), if_neg h8, if_neg (by rw [hall2]; simp), if_pos (hliff.1 h200)]
                clear hliff hall2
                go_wp2
                refine bodyPost_ret (results_frame _ w.heap.size _ _ _ _ rfl rfl (set2_heap HM.out.1 _ _)) rfl ?_
                exact ⟨⟨_, _, by rw [HF.out], fun e => by rw [HF.out] at e; cases e⟩, set2_below HM.out.2.2.1 (Nat.le_refl _) _ _⟩
              · have HF : Hid (frC l1 l2 n3 = 0) := by
                  show frC _ _ _ = _
                  unfold frC
                  rw [if_neg hs, if_neg (by rw [HAll.out]; simp), if_neg h8, if_neg (by rw [hall2]; simp), if_neg (fun e => h200 (hliff.2 e))]
                clear hliff hall2
                go_wp2
                refine bodyPost_ret (results_frame _ w.heap.size _ _ _ _ rfl rfl (set2_heap HM.out.1 _ _)) rfl ?_
                exact ⟨⟨_, _, by rw [HF.out], fun _ => ⟨HEm.out.symm, HLs.out.symm⟩⟩, set2_below HM.out.2.2.1 (Nat.le_refl _) _ _⟩
end Go.Proofs.YtcgmokjnjmefpaaGreatDoor
