/-
  Rows of requests, perhaps none: marked and looked at; wires in their boxes.
  Whether two lists of heads are the same, by the laws' own helps.
  Plain facts on requests that are the same, and on texts that are.
  Whether two requests are the same, by the laws' own help.
  Two slices of requests that hold the same.
  A slice of integers as the row hands it in.
  Bytes as the row hands them in.
-/
import Derived.Test.YtkhnkockdfmkgabGreatDoorMarkReqs
import Derived.Test.YtkhnkockdfmkgabGreatDoorWires
import Derived.Test.YtkhnkockdfmkgabGreatDoorGetReq
import Derived.Test.YtkhnkockdfmkgabGreatDoorSpecVal
import Derived.Deep.RegionHeld3
import Derived.Test.YtkhnkockdfmkgabGreatDoorRows
import Derived.OpenShut
import Derived.WalkKit
import Derived.Test.YtkhnkockdfmkgabGreatDoorMathEnd
namespace Go.Proofs.YtkhnkockdfmkgabGreatDoor
open Go.RowKit M
set_option linter.unusedVariables false

theorem RowsQ.rq {w : World} {B : Nat} {v : Value} {qs : List Rv} {rs : List Rq} (h : RowsQ w B v qs) (e : qs.map Prod.fst = rs) : ∃ a c, v = .slice a rs.length c ∧ Rqs w w.heap.size a rs := by
  obtain ⟨a, c, hv, hr⟩ := h.rqs
  have hl : rs.length = qs.length := by rw [← e, List.length_map]
  rw [e] at hr
  exact ⟨a, c, by rw [hl]; exact hv, hr⟩
/-- The requests of this slice are marked, from k0 on. -/
def HeldQ (w : World) (k0 : Nat) (v : Value) (qs : List Rv) : Prop :=
  (v = .slice none 0 0 ∧ qs = []) ∨ ∃ g c, v = .slice (some ⟨g, 0, none⟩) qs.length c ∧ g < w.heap.size ∧ (∀ i (hi : i < qs.length), Mk1 w (k0 + marksQ (qs.take i)) g i qs[i]) ∧ (∀ i (hi : i < qs.length), w.cell? ⟨g, i * 4 + 2, none⟩ = some qs[i].2)
theorem HeldQ.next {w w' : World} {k0 : Nat} {v : Value} {qs : List Rv} (h : HeldQ w k0 v qs) (hb : Below w.heap.size w w') : HeldQ w' k0 v qs := by
  rcases h with h | ⟨g, c, rfl, h1, h2, h3⟩
  · exact .inl h
  · exact .inr ⟨g, c, rfl, Nat.lt_of_lt_of_le h1 hb.size, fun i hi => (h2 i hi).next h1 hb, fun i hi => (hb.cell (p := ⟨g, i * 4 + 2, none⟩) h1).trans (h3 i hi)⟩
set_option maxHeartbeats 400000 in
theorem markReqS_none (k : Int) (w : World) :
    Calls Tryz.prog 15 #[.slice none 0 0, .int .i64 k] w fun e w' => e = .returned (.int .i64 k) ∧ w' = w := by
  go_enter Tryz.func15, Tryz.ntmps15
  go_wp2
  go_loopw [1, 5] (fun kv i wr => i = .int .i64 0 ∧ kv = .int .i64 k ∧ wr = w) (fun _ i _ => 0)
  case atStart => exact ⟨rfl, rfl, rfl⟩
  case round =>
    obtain ⟨rfl, rfl, rfl⟩ := hrel
    go_wp2
    go_ret
    exact ⟨rfl, rfl⟩
set_option maxHeartbeats 400000 in
theorem heldReqS_none (k : Int) (w : World) :
    Calls Tryz.prog 17 #[.slice none 0 0, .int .i64 k] w fun e w' => e = .returned (.int .i64 k) ∧ w' = w := by
  go_enter Tryz.func17, Tryz.ntmps17
  go_wp2
  go_loopw [1, 5] (fun kv i wr => i = .int .i64 0 ∧ kv = .int .i64 k ∧ wr = w) (fun _ i _ => 0)
  case atStart => exact ⟨rfl, rfl, rfl⟩
  case round =>
    obtain ⟨rfl, rfl, rfl⟩ := hrel
    go_wp2
    go_ret
    exact ⟨rfl, rfl⟩
theorem markQ (w : World) (B k0 : Nat) (v : Value) (qs : List Rv) (h : RowsQ w B v qs) (hB : B ≤ w.heap.size) (hk1 : 1 ≤ k0) (hk2 : k0 + marksQ qs ≤ 49000000) (hn : qs.length ≤ 4194304) (h8 : ∀ q ∈ qs, q.1.hs.length ≤ 8) :
    Calls Tryz.prog 15 #[v, .int .i64 k0] w fun e w' => e = .returned (.int .i64 ((k0 + marksQ qs : Nat) : Int)) ∧ HeldQ w' k0 v qs ∧ Below B w w' ∧ (∀ k, k < w.heap.size → v.ownBlock ≠ some k → (∀ q ∈ qs, q.2.ownBlock ≠ some k) → w'.heap[k]? = w.heap[k]?) := by
  have hown := h.own
  rcases hown.2 with ⟨rfl, h0⟩ | ⟨g, cap, cur, rfl, hBg, _⟩
  · have e0 : qs = [] := List.length_eq_zero_iff.1 h0
    subst e0
    refine (markReqS_none (k0 : Int) w).mono ?_
    rintro e w' ⟨rfl, rfl⟩
    exact ⟨rfl, .inl ⟨rfl, rfl⟩, Below.refl _ _, fun _ _ _ _ => rfl⟩
  · obtain ⟨_, hi, ha⟩ := h.inv (k0 := k0)
    refine (markReqS_from g cap k0 qs w hi ha hk1 hk2 hn h8).mono ?_
    rintro e w' ⟨rfl, hI⟩
    have hk : ∀ k, k < w.heap.size → (Value.slice (some ⟨g, 0, none⟩) qs.length cap).ownBlock ≠ some k → (∀ q ∈ qs, q.2.ownBlock ≠ some k) → w'.heap[k]? = w.heap[k]? := fun k hk hne hq => hI.turn.block k hk (fun e => hne (by rw [e]; rfl)) hq
    refine ⟨rfl, .inr ⟨g, cap, rfl, hI.row.1, fun i hi => hI.done i hi hi, hI.slot⟩, ⟨hI.turn.os, hI.turn.tape, hI.turn.output, hI.turn.size, fun k hkB => hk k (by omega) (fun e => ?_) (fun q hq e => ?_)⟩, hk⟩
    · have := (h.lt k (.inl e)).1; omega
    · have := (h.lt k (.inr ⟨q, hq, e⟩)).1; omega
theorem heldQ (w : World) (k0 : Nat) (v : Value) (qs : List Rv) (h : HeldQ w k0 v qs) (hk1 : 1 ≤ k0) (hk2 : k0 + marksQ qs ≤ 49000000) (hn : qs.length ≤ 4194304) (h8 : ∀ q ∈ qs, q.1.hs.length ≤ 8) :
    Calls Tryz.prog 17 #[v, .int .i64 k0] w fun e w' => e = .returned (.int .i64 ((k0 + marksQ qs : Nat) : Int)) ∧ Below w.heap.size w w' := by
  rcases h with ⟨rfl, rfl⟩ | ⟨g, c, rfl, h1, h2, h3⟩
  · refine (heldReqS_none (k0 : Int) w).mono ?_
    rintro e w' ⟨rfl, rfl⟩
    exact ⟨rfl, Below.refl _ _⟩
  · exact heldReqS_from g c k0 qs w h1 h2 h3 hk1 hk2 hn h8

/-- A wire in its box. -/
def BoxW (w : World) (N : Nat) (v : Value) (bad : Int) : Prop := w.heap[N]? = some (Obj.cells #[v, .int .i64 bad] 26)
theorem BoxW.made (w : World) (v : Value) (bad : Int) : BoxW (w.alloc (Obj.cells #[v, .int .i64 bad] 26)) w.heap.size v bad := heap_alloc_new w _
theorem BoxW.lt {w : World} {N : Nat} {v : Value} {bad : Int} (h : BoxW w N v bad) : N < w.heap.size := (Array.getElem?_eq_some_iff.1 h).1
theorem BoxW.next {w w' : World} {N : Nat} {v : Value} {bad : Int} (h : BoxW w N v bad) (hb : Below w.heap.size w w') : BoxW w' N v bad := (hb.block N h.lt).trans h
theorem BoxW.below {w w' : World} {N C : Nat} {v : Value} {bad : Int} (h : BoxW w N v bad) (hb : Below C w w') (hC : N < C) : BoxW w' N v bad := (hb.block N hC).trans h
theorem BoxW.cells {w : World} {N : Nat} {v : Value} {bad : Int} (h : BoxW w N v bad) : w.cell? ⟨N, 0, none⟩ = some v ∧ w.cell? ⟨N, 1, none⟩ = some (.int .i64 bad) := ⟨(cells2 h).1, (cells2 h).2.1⟩
end Go.Proofs.YtkhnkockdfmkgabGreatDoor
namespace Go.Proofs.YtkhnkockdfmkgabGreatDoor
open Go.RowKit M
set_option linter.unusedVariables false

set_option maxHeartbeats 400000 in
theorem eqHead_any (x y u v : ByteArray) (w : World) :
    Calls Tryz.prog 51 #[.agg #[.string x, .string y], .agg #[.string u, .string v]] w fun e w' => e = .returned (.bool (decide (((x, y) : Hd) = (u, v)))) ∧ Below w.heap.size w w' := by
  go_enter Tryz.func51, Tryz.ntmps51
  go_wp2
  all_goals go_ret
  · rename_i h1
    refine ⟨ret_bool ?_, ((Below.refl _ _).alloc (Nat.le_refl _) _).alloc (by simp) _⟩
    have : ¬ x = u := fun e => by subst e; simp at h1
    simp [this]
  · rename_i h1 h2
    refine ⟨ret_bool ?_, ((Below.refl _ _).alloc (Nat.le_refl _) _).alloc (by simp) _⟩
    have : ¬ y = v := fun e => by subst e; simp at h2
    simp [this]
  · rename_i h1 h2
    refine ⟨ret_bool ?_, ((Below.refl _ _).alloc (Nat.le_refl _) _).alloc (by simp) _⟩
    have e1 : x = u := strInj (by simpa using h1)
    have e2 : y = v := strInj (by simpa using h2)
    simp [e1, e2]

set_option maxHeartbeats 400000 in
theorem eqHeadS_any (a b : Option Addr) (ss tt : List Hd) (cap cap' B C : Nat) (w : World) (h : Hds w B a ss) (h' : Hds w C b tt) (hB : B ≤ w.heap.size) (hC : C ≤ w.heap.size) (hl : ss.length ≤ maxLen) (hl' : tt.length ≤ maxLen) :
    Calls Tryz.prog 40 #[.slice a ss.length cap, .slice b tt.length cap'] w fun e w' => e = .returned (.bool (sameH ss tt)) ∧ Below w.heap.size w w' := by
  unfold maxLen at hl hl'
  by_cases hlen : ss.length = tt.length
  · have HL : Hid (ss.length = tt.length) := hlen
    go_enter Tryz.func40, Tryz.ntmps40
    rw [← hlen]
    clear hlen
    go_wp2
    go_loopw [5] (fun i wr => ∃ k : Nat, k ≤ ss.length ∧ i = .int .i64 k ∧ ss.take k = tt.take k ∧ Below w.heap.size w wr) (fun i _ => ss.length - (intOf i).toNat)
    case atStart => exact ⟨0, Nat.zero_le _, rfl, rfl, Below.refl _ _⟩
    case round =>
      obtain ⟨k, hk, rfl, ht, hbe⟩ := hrel
      have HT : Hid (ss.take k = tt.take k) := ht
      clear ht
      by_cases hlt : k < ss.length
      · have hlt' : k < tt.length := by have := HL.out; omega
        obtain ⟨b1, o1, rfl, hb1, hc1⟩ := (h.below hbe hB) (by omega)
        obtain ⟨b2, o2, rfl, hb2, hc2⟩ := (h'.below hbe hC) (by have := HL.out; omega)
        have hcx := (hc1 k hlt).1
        have hcx2 := (hc1 k hlt).2
        have hcy := (hc2 k hlt').1
        have hcy2 := (hc2 k hlt').2
        clear hc1 hc2
        have hl1 : b1 < wr.drew.heap.size := by have := hbe.size; show b1 < wr.heap.size; omega
        have hl2 : b2 < wr.drew.heap.size := by have := hbe.size; show b2 < wr.heap.size; omega
        have hq := eqHead_any ss[k].1 ss[k].2 tt[k].1 tt[k].2 wr.drew
        have hbd : Below w.heap.size w wr.drew := ⟨hbe.os, hbe.tape, hbe.output, hbe.size, hbe.block⟩
        by_cases he : ss[k] = tt[k]
        · have hd : decide (((ss[k].1, ss[k].2) : Hd) = (tt[k].1, tt[k].2)) = true := decide_eq_true he
          rw [hd] at hq
          have HE : Hid (ss[k] = tt[k]) := he
          clear hd he
          go_wp2
          go_region_held3 (fun W => W.cell? ⟨b1, o1 + k * 2, none⟩ = some (.string ss[k].1) ∧ W.cell? ⟨b1, o1 + k * 2 + 1, none⟩ = some (.string ss[k].2) ∧ W.cell? ⟨b2, o2 + k * 2, none⟩ = some (.string tt[k].1) ∧ W.cell? ⟨b2, o2 + k * 2 + 1, none⟩ = some (.string tt[k].2)) (first | exact ⟨hcx, hcx2, hcy, hcy2⟩ | exact ⟨(hb3.cell (p := ⟨b1, o1 + k * 2, none⟩) hl1).trans hcx, (hb3.cell (p := ⟨b1, o1 + k * 2 + 1, none⟩) hl1).trans hcx2, (hb3.cell (p := ⟨b2, o2 + k * 2, none⟩) hl2).trans hcy, (hb3.cell (p := ⟨b2, o2 + k * 2 + 1, none⟩) hl2).trans hcy2⟩) ((go_at_call 51; refine hq.mono ?_; rintro e w1 ⟨rfl, hb3⟩))
          all_goals
            have c1 := hbd.trans (hb3.mono hbd.size)
            clear hq hb3
            go_wp2
            go_roundw
            case rel => exact ⟨k + 1, by omega, by go_num, take_sameH k hlt hlt' HT.out HE.out, c1⟩
            case measure => simp [intOf]; omega
        · have hd : decide (((ss[k].1, ss[k].2) : Hd) = (tt[k].1, tt[k].2)) = false := decide_eq_false he
          rw [hd] at hq
          have HE : Hid (sameH ss tt = false) := sameH_not k hlt hlt' he
          clear hd he
          go_wp2
          go_region_held3 (fun W => W.cell? ⟨b1, o1 + k * 2, none⟩ = some (.string ss[k].1) ∧ W.cell? ⟨b1, o1 + k * 2 + 1, none⟩ = some (.string ss[k].2) ∧ W.cell? ⟨b2, o2 + k * 2, none⟩ = some (.string tt[k].1) ∧ W.cell? ⟨b2, o2 + k * 2 + 1, none⟩ = some (.string tt[k].2)) (first | exact ⟨hcx, hcx2, hcy, hcy2⟩ | exact ⟨(hb3.cell (p := ⟨b1, o1 + k * 2, none⟩) hl1).trans hcx, (hb3.cell (p := ⟨b1, o1 + k * 2 + 1, none⟩) hl1).trans hcx2, (hb3.cell (p := ⟨b2, o2 + k * 2, none⟩) hl2).trans hcy, (hb3.cell (p := ⟨b2, o2 + k * 2 + 1, none⟩) hl2).trans hcy2⟩) ((go_at_call 51; refine hq.mono ?_; rintro e w1 ⟨rfl, hb3⟩))
          all_goals
            have c1 := hbd.trans (hb3.mono hbd.size)
            clear hq hb3
            go_wp2
            go_ret
            exact ⟨ret_bool HE.out.symm, c1⟩
      · go_wp2
        go_ret
        exact ⟨ret_bool (sameH_all HL.out k hlt HT.out).symm, hbe⟩
  · have HS := sameH_len hlen
    go_enter Tryz.func40, Tryz.ntmps40
    go_wp2
    go_ret
    exact ⟨ret_bool HS.symm, Below.refl _ _⟩
end Go.Proofs.YtkhnkockdfmkgabGreatDoor
namespace Go.Proofs.YtkhnkockdfmkgabGreatDoor
open Go.RowKit M
set_option linter.unusedVariables false

theorem sameR_m {a b : Rq} (h : ¬ a.m = b.m) : sameR a b = false := by simp [sameR, h]
theorem sameR_p {a b : Rq} (h : ¬ a.p = b.p) : sameR a b = false := by simp [sameR, h]
theorem sameR_h {a b : Rq} (h : sameH a.hs b.hs = false) : sameR a b = false := by simp [sameR, h]
theorem sameR_b {a b : Rq} (h : ¬ a.b = b.b) : sameR a b = false := by simp [sameR, h]
theorem sameR_all {a b : Rq} (h1 : a.m = b.m) (h2 : a.p = b.p) (h3 : sameH a.hs b.hs = true) (h4 : a.b = b.b) : sameR a b = true := by simp [sameR, h1, h2, h3, h4]

theorem neStr {x y : ByteArray} (h : ¬ x = y) : (x.toList == y.toList) = false := by
  rw [beq_eq_false_iff_ne]; exact fun e => h (strInj e)
theorem eqStr {x y : ByteArray} (h : x = y) : (x.toList == y.toList) = true := by rw [h]; simp
end Go.Proofs.YtkhnkockdfmkgabGreatDoor
namespace Go.Proofs.YtkhnkockdfmkgabGreatDoor
open Go.RowKit M
set_option linter.unusedVariables false

set_option maxHeartbeats 1000000 in
theorem eqReq_any (a b : Option Addr) (r s : Rq) (cap cap' B C : Nat) (w : World) (h : Hds w B a r.hs) (h' : Hds w C b s.hs) (hB : B ≤ w.heap.size) (hC : C ≤ w.heap.size) (hl : r.hs.length ≤ maxLen) (hl' : s.hs.length ≤ maxLen) :
    Calls Tryz.prog 29 #[.agg #[.string r.m, .string r.p, .slice a r.hs.length cap, .string r.b], .agg #[.string s.m, .string s.p, .slice b s.hs.length cap', .string s.b]] w fun e w' => e = .returned (.bool (sameR r s)) ∧ Below w.heap.size w w' := by
  have HM : Hid (¬ r.m = s.m → sameR r s = false) := sameR_m
  have HP : Hid (¬ r.p = s.p → sameR r s = false) := sameR_p
  have HH : Hid (sameH r.hs s.hs = false → sameR r s = false) := sameR_h
  have HBd : Hid (¬ r.b = s.b → sameR r s = false) := sameR_b
  have HA : Hid (r.m = s.m → r.p = s.p → sameH r.hs s.hs = true → r.b = s.b → sameR r s = true) := sameR_all
  generalize sameR r s = z at *
  obtain ⟨rm, rp, hs, rb⟩ := r
  obtain ⟨sm, sp, ts, sb⟩ := s
  simp only at *
  by_cases h1 : rm = sm
  · by_cases h2 : rp = sp
    · have e1 := eqStr h1
      have e2 := eqStr h2
      have hb0 : Below w.heap.size w ((w.alloc (Obj.cells #[Value.string rm, Value.string rp, Value.slice a hs.length cap, Value.string rb] 47)).alloc (Obj.cells #[Value.string sm, Value.string sp, Value.slice b ts.length cap', Value.string sb] 47)) := ((Below.refl _ _).alloc (Nat.le_refl _) _).alloc (by simp) _
      have hE := eqHeadS_any a b hs ts cap cap' B C _ (h.below hb0 hB) (h'.below hb0 hC) (by simp; omega) (by simp; omega) hl hl'
      have HA' : Hid (sameH hs ts = true → rb = sb → z = true) := fun h3 h4 => HA.out h1 h2 h3 h4
      clear h1 h2 HA
      cases h3 : sameH hs ts
      · have hz := HH.out h3
        rw [h3] at hE
        subst hz
        clear h3
        go_enter Tryz.func29, Tryz.ntmps29
        go_wp2_with fail
        refine hE.mono ?_
        rintro e w1 ⟨rfl, hb1⟩
        have c1 := hb0.trans (hb1.mono hb0.size)
        go_wp2
        go_ret
        exact ⟨rfl, c1⟩
      · rw [h3] at hE
        by_cases h4 : rb = sb
        · have e4 := eqStr h4
          have hz := HA'.out h3 h4
          subst hz
          clear h3 h4
          go_enter Tryz.func29, Tryz.ntmps29
          go_wp2_with fail
          refine hE.mono ?_
          rintro e w1 ⟨rfl, hb1⟩
          have c1 := hb0.trans (hb1.mono hb0.size)
          obtain ⟨hc, hf⟩ := bcell hb1
          go_wp2
          go_ret
          exact ⟨rfl, c1⟩
        · have e4 := neStr h4
          have hz := HBd.out h4
          subst hz
          clear h3 h4
          go_enter Tryz.func29, Tryz.ntmps29
          go_wp2_with fail
          refine hE.mono ?_
          rintro e w1 ⟨rfl, hb1⟩
          have c1 := hb0.trans (hb1.mono hb0.size)
          obtain ⟨hc, hf⟩ := bcell hb1
          go_wp2
          go_ret
          exact ⟨rfl, c1⟩
    · have e1 := eqStr h1
      have e2 := neStr h2
      have hz := HP.out h2
      subst hz
      clear h1 h2
      go_enter Tryz.func29, Tryz.ntmps29
      go_wp2
      go_ret
      exact ⟨rfl, ((Below.refl _ _).alloc (Nat.le_refl _) _).alloc (by simp) _⟩
  · have e1 := neStr h1
    have hz := HM.out h1
    subst hz
    clear h1
    go_enter Tryz.func29, Tryz.ntmps29
    go_wp2
    go_ret
    exact ⟨rfl, ((Below.refl _ _).alloc (Nat.le_refl _) _).alloc (by simp) _⟩
end Go.Proofs.YtkhnkockdfmkgabGreatDoor
namespace Go.Proofs.YtkhnkockdfmkgabGreatDoor
open Go.RowKit M
set_option linter.unusedVariables false

set_option maxRecDepth 100000 in
set_option maxHeartbeats 2000000 in
theorem eqReqS_same (a b : Option Addr) (rs : List Rq) (cap cap' B C : Nat) (w : World) (h : Rqs w B a rs) (h' : Rqs w C b rs) (hB : B ≤ w.heap.size) (hC : C ≤ w.heap.size) (hl : rs.length ≤ maxLen) (h8 : ∀ r ∈ rs, r.hs.length ≤ maxLen) :
    Calls Tryz.prog 11 #[.slice a rs.length cap, .slice b rs.length cap'] w fun e w' => e = .returned (.bool true) ∧ Below w.heap.size w w' := by
  unfold maxLen at hl
  have H8 := hide h8
  clear h8
  go_enter Tryz.func11, Tryz.ntmps11
  go_wp2
  go_loopw [5] (fun i wr => ∃ k : Nat, k ≤ rs.length ∧ i = .int .i64 k ∧ Below w.heap.size w wr) (fun i _ => rs.length - (intOf i).toNat)
  case atStart => exact ⟨0, Nat.zero_le _, rfl, Below.refl _ _⟩
  case round =>
    obtain ⟨k, hk, rfl, hbe⟩ := hrel
    by_cases hlt : k < rs.length
    · obtain ⟨b1, o1, rfl, hb1, hc1⟩ := h (by omega)
      obtain ⟨b2, o2, rfl, hb2, hc2⟩ := h' (by omega)
      obtain ⟨a1, k1, d0, d1, d2, d3, y1⟩ := hc1 k hlt
      obtain ⟨a2, k2, e0, e1, e2, e3, y2⟩ := hc2 k hlt
      have c1 := fun i => hbe.cell (p := ⟨b1, i, none⟩) (Nat.lt_of_lt_of_le hb1 hB)
      have c2 := fun i => hbe.cell (p := ⟨b2, i, none⟩) (Nat.lt_of_lt_of_le hb2 hC)
      have x0 := (c1 _).trans d0
      have x1 := (c1 _).trans d1
      have x2 := (c1 _).trans d2
      have x3 := (c1 _).trans d3
      have z0 := (c2 _).trans e0
      have z1 := (c2 _).trans e1
      have z2 := (c2 _).trans e2
      have z3 := (c2 _).trans e3
      have hm := H8.out _ (List.getElem_mem hlt)
      have hbd : Below w.heap.size w wr.drew := hbe.drew
      have HE := hide (eqReq_any a1 a2 rs[k] rs[k] k1 k2 B C wr.drew (y1.below hbd hB) (y2.below hbd hC) (Nat.le_trans hB hbd.size) (Nat.le_trans hC hbd.size) hm hm)
      rw [sameR_refl] at HE
      have HBe := hide hbe
      have hs1 : b1 < wr.heap.size := Nat.lt_of_lt_of_le (Nat.lt_of_lt_of_le hb1 hB) hbe.size
      have hs2 : b2 < wr.heap.size := Nat.lt_of_lt_of_le (Nat.lt_of_lt_of_le hb2 hC) hbe.size
      obtain ⟨r, hr⟩ : ∃ r, rs[k] = r := ⟨_, rfl⟩
      rw [hr] at x0 x1 x2 x3 z0 z1 z2 z3 HE
      clear hc1 hc2 d0 d1 d2 d3 y1 e0 e1 e2 e3 y2 hbe hbd c1 c2 hm hr
      go_wp2_with fail
      go_region_held3 (fun W => (W.cell? ⟨b1, o1 + k * 4, none⟩ = some (.string r.m) ∧ W.cell? ⟨b1, o1 + k * 4 + 1, none⟩ = some (.string r.p) ∧ W.cell? ⟨b1, o1 + k * 4 + 2, none⟩ = some (.slice a1 r.hs.length k1) ∧ W.cell? ⟨b1, o1 + k * 4 + 3, none⟩ = some (.string r.b)) ∧ W.cell? ⟨b2, o2 + k * 4, none⟩ = some (.string r.m) ∧ W.cell? ⟨b2, o2 + k * 4 + 1, none⟩ = some (.string r.p) ∧ W.cell? ⟨b2, o2 + k * 4 + 2, none⟩ = some (.slice a2 r.hs.length k2) ∧ W.cell? ⟨b2, o2 + k * 4 + 3, none⟩ = some (.string r.b)) (first | exact ⟨⟨x0, x1, x2, x3⟩, z0, z1, z2, z3⟩ | exact ⟨⟨(bq.cell (p := ⟨b1, o1 + k * 4, none⟩) hs1).trans x0, (bq.cell (p := ⟨b1, o1 + k * 4 + 1, none⟩) hs1).trans x1, (bq.cell (p := ⟨b1, o1 + k * 4 + 2, none⟩) hs1).trans x2, (bq.cell (p := ⟨b1, o1 + k * 4 + 3, none⟩) hs1).trans x3⟩, (bq.cell (p := ⟨b2, o2 + k * 4, none⟩) hs2).trans z0, (bq.cell (p := ⟨b2, o2 + k * 4 + 1, none⟩) hs2).trans z1, (bq.cell (p := ⟨b2, o2 + k * 4 + 2, none⟩) hs2).trans z2, (bq.cell (p := ⟨b2, o2 + k * 4 + 3, none⟩) hs2).trans z3⟩) ((go_at_call 29; refine HE.out.mono ?_; rintro e w1 ⟨rfl, bq⟩))
      go_wp2
      go_roundw
      case rel => exact ⟨k + 1, by omega, by go_num, HBe.out.trans (((Below.refl _ wr).drew.trans bq).mono HBe.out.size)⟩
      case measure => simp [intOf]; omega
    · go_wp2
      go_ret
      exact ⟨rfl, hbe⟩
end Go.Proofs.YtkhnkockdfmkgabGreatDoor
namespace Go.Proofs.YtkhnkockdfmkgabGreatDoor
open Go.RowKit

/-- What the walk is told of a slice of integers that came in: it is nil; or it leads to a row of 'cap' cells, the numbers 'zs' (the first 'len' are its elements), each fitting its kind. -/
def IsRow (k : IntKind) (w : World) (a : Option Addr) (len cap : Nat) (zs : List Int) : Prop :=
  (a = none ∧ len = 0 ∧ cap = 0 ∧ zs = []) ∨
  ∃ x, a = some x ∧ len ≤ cap ∧ cap ≤ maxLen ∧ zs.length = cap ∧ (∀ i, i < zs.length → w.cell? (x.add i) = some (.int k (zs.getD i 0))) ∧ ∀ n ∈ zs, (Lit.int k n).wf = true
end Go.Proofs.YtkhnkockdfmkgabGreatDoor
namespace Go.Proofs.YtkhnkockdfmkgabGreatDoor
open Go.RowKit

theorem byt_of_row {w : World} {a : Option Addr} {len cap : Nat} {zs : List Int} (h : IsRow .u8 w a len cap zs) : ∃ l : List UInt8, l.length = len ∧ Byt w w.heap.size a l ∧ len ≤ cap ∧ cap ≤ maxLen := by
  rcases h with ⟨rfl, rfl, rfl, rfl⟩ | ⟨x, rfl, hl, hm, hz, hcell, hwz⟩
  · exact ⟨[], rfl, Byt.nil _ _ _, Nat.le_refl _, Nat.zero_le _⟩
  · have hlen : ((zs.take len).map fun z => UInt8.ofNat z.toNat).length = len := by rw [List.length_map, List.length_take]; omega
    refine ⟨(zs.take len).map fun z => UInt8.ofNat z.toNat, hlen, fun h0 => ?_, hl, hm⟩
    obtain ⟨b, off, spot⟩ := x
    have hc := hcell 0 (by omega)
    have hspot : spot = none := by simpa [Addr.add] using World.cell?_spot hc
    subst hspot
    have hb : b < w.heap.size := by
      have := World.block_lt_of_cell? w _ hc
      simpa [Addr.add] using this
    refine ⟨b, off, rfl, hb, fun j hj => ?_⟩
    have hj' : j < zs.length := by rw [hlen] at hj; omega
    have h1 := hcell j hj'
    have e : (⟨b, off, none⟩ : Addr).add j = ⟨b, off + j, none⟩ := by unfold Addr.add; split <;> simp_all
    rw [e] at h1
    have hg : zs.getD j 0 = zs[j] := by simp [List.getD, List.getElem?_eq_getElem hj']
    rw [hg] at h1
    have hb8 := bounds_u8 (hwz zs[j] (List.getElem_mem hj'))
    rw [h1]
    simp only [List.getElem_map, List.getElem_take, UInt8.toNat_ofNat']
    congr 2
    omega
end Go.Proofs.YtkhnkockdfmkgabGreatDoor
