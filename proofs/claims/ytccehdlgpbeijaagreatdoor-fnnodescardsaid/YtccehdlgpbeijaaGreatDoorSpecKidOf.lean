/-
  What the program's KidOf does.
  What the specification's KidOf does.
-/
import Derived.Test.YtccehdlgpbeijaaGreatDoorCopyNode
import Derived.Test.YtccehdlgpbeijaaGreatDoorMathKid
import Derived.Test.YtccehdlgpbeijaaGreatDoorSpecCopyN
namespace Go.Proofs.YtccehdlgpbeijaaGreatDoor
open Go.RowKit M
set_option linter.unusedVariables false

set_option maxRecDepth 100000 in
set_option maxHeartbeats 4000000 in
theorem kidOf_any (n : Nd) (na nb : ByteArray) (a : Option Addr) (cap B : Nat) (w : World) (h : Nds w B a n.ks) (hB : B ≤ w.heap.size) (hs : n.szN ≤ 1048576) :
    Calls Tryz.prog 13 #[.agg #[.string n.ns, .string n.nm, .string n.tx, .slice a n.ks.length cap], .string na, .string nb] w fun e w' => (∃ (a' : Option Addr) (c' : Nat), e = .returned (.tuple #[.agg #[.string (kidP n.ks na nb).1.ns, .string (kidP n.ks na nb).1.nm, .string (kidP n.ks na nb).1.tx, .slice a' (kidP n.ks na nb).1.ks.length c'], .bool (kidP n.ks na nb).2]) ∧ OwnK w' a' (kidP n.ks na nb).1.ks (Ivl w.heap.size w'.heap.size)) ∧ Below w.heap.size w w' := by
  rw [szN_ks] at hs
  generalize n.ns = ra at *
  generalize n.nm = rb at *
  generalize n.tx = rc at *
  generalize n.ks = ks at *
  have HKP := hide (kidP_eq ks na nb)
  generalize kidP ks na nb = R at *
  obtain ⟨m, f⟩ := R
  obtain ⟨x0, x1, x2, km, m0, m1, m2, m3⟩ : ∃ x0 x1 x2 km, m.ns = x0 ∧ m.nm = x1 ∧ m.tx = x2 ∧ m.ks = km := ⟨_, _, _, _, rfl, rfl, rfl, rfl⟩
  simp only [m0, m1, m2, m3]
  have HM := hide (And.intro m0 (And.intro m1 (And.intro m2 m3)))
  clear m0 m1 m2 m3
  have HH := hide h
  clear h
  obtain ⟨W2, hW2⟩ : ∃ W2, ((w.alloc (Obj.cells #[Value.string ra, Value.string rb, Value.string rc, Value.slice a ks.length cap] 26)).alloc (Obj.cells #[Value.string { data := #[] }, Value.string { data := #[] }, Value.string { data := #[] }, Value.slice none 0 0] 26)) = W2 := ⟨_, rfl⟩
  have hB1 : Hid (Below w.heap.size w W2) := by rw [← hW2]; exact ((Below.refl _ _).alloc (Nat.le_refl _) _).alloc (by simp) _
  have HS2 : Hid (W2.heap.size = w.heap.size + 1 + 1) := by rw [← hW2]; show _ = _; simp
  have HX2 : Hid (W2.cell? ⟨w.heap.size, 3, none⟩ = some (.slice a ks.length cap)) := by rw [← hW2]; show _ = _; simp
  have HR : Hid (∀ W' : World, Below (w.heap.size + 1 + 1) W2 W' → W'.cell? ⟨w.heap.size + 1, 0, none⟩ = some (.string { data := #[] }) ∧ W'.cell? ⟨w.heap.size + 1, 1, none⟩ = some (.string { data := #[] }) ∧ W'.cell? ⟨w.heap.size + 1, 2, none⟩ = some (.string { data := #[] }) ∧ W'.cell? ⟨w.heap.size + 1, 3, none⟩ = some (.slice none 0 0) ∧ W'.frozen? ⟨w.heap.size + 1, 0, none⟩ = false ∧ W'.frozen? ⟨w.heap.size + 1, 1, none⟩ = false ∧ W'.frozen? ⟨w.heap.size + 1, 2, none⟩ = false ∧ W'.frozen? ⟨w.heap.size + 1, 3, none⟩ = false) := fun W' hb => by
    have hc := fun (i o : Nat) (hi : i < w.heap.size + 1 + 1) => hb.cell (p := ⟨i, o, none⟩) hi
    have hf := fun (i o : Nat) (hi : i < w.heap.size + 1 + 1) => hb.frozen (p := ⟨i, o, none⟩) hi
    refine ⟨?_, ?_, ?_, ?_, ?_, ?_, ?_, ?_⟩
    all_goals first | rw [hc _ _ (by omega), ← hW2] | rw [hf _ _ (by omega), ← hW2]
    all_goals simp
  have HC3 : Hid (∀ W' : World, Below (w.heap.size + 1 + 1) W2 W' → Below w.heap.size w W' ∧ w.heap.size + 1 + 1 ≤ W'.heap.size ∧ W'.cell? ⟨w.heap.size, 3, none⟩ = some (.slice a ks.length cap)) := fun W' hb => ⟨hB1.out.trans (hb.mono (by omega)), by have := hb.size; rw [HS2.out] at this; exact this, (hb.cell (p := ⟨w.heap.size, 3, none⟩) (by show w.heap.size < w.heap.size + 1 + 1; omega)).trans HX2.out⟩
  have HW2 := hide hW2
  clear hW2
  go_enter Tryz.func13, Tryz.ntmps13
  go_wp2
  go_loopw [13] (fun i wr => ∃ k : Nat, k ≤ ks.length ∧ i = .int .i64 k ∧ kidP (ks.drop k) na nb = (m, f) ∧ Below (w.heap.size + 1 + 1) W2 wr) (fun i _ => ks.length - (intOf i).toNat)
  case atStart =>
    rw [HW2.out]
    exact ⟨0, Nat.zero_le _, rfl, HKP.out, Below.refl _ _⟩
  case round =>
    obtain ⟨k, hk, rfl, hR, hbe⟩ := hrel
    obtain ⟨c0, hwr, y3⟩ := HC3.out _ hbe
    by_cases hlt : k < ks.length
    · rw [drop_at ks k hlt, kidP_cons] at hR
      obtain ⟨b, o, rfl, hb, hc⟩ := (HH.out.stays c0 hB).at (by omega)
      obtain ⟨ak, ck, hx0, hx1, hx2, hx3, hkx⟩ := hc k hlt
      clear hc
      have hks : (ks[k]).szN ≤ 1048576 := by have := szL_mem ks _ (List.getElem_mem hlt); omega
      have hBw : B ≤ wr.heap.size := by omega
      have HHK := hide hkx
      clear hkx
      have HBA := hide ((Below.refl wr.heap.size wr).alloc (Nat.le_refl _) (Obj.cells #[.string (ks[k]).ns, .string (ks[k]).nm, .string (ks[k]).tx, .slice ak (ks[k]).ks.length ck] 26))
      have c5 := hbe.trans (HBA.out.mono hwr)
      have HQ := hide (copyNode_all (cntL (ks[k]).ks + 1) ks[k] ak ck B _ (Nat.lt_succ_self _) (HHK.out.stays HBA.out hBw) (Nat.le_trans hBw HBA.out.size) hks)
      have HZ : Hid (wr.heap.size ≤ (wr.alloc (Obj.cells #[.string (ks[k]).ns, .string (ks[k]).nm, .string (ks[k]).tx, .slice ak (ks[k]).ks.length ck] 26)).heap.size) := HBA.out.size
      by_cases e1 : (ks[k]).ns = na
      · have q1 := eqStrN e1
        by_cases e2 : (ks[k]).nm = nb
        · have q2 := eqStrN e2
          rw [if_pos ⟨e1, e2⟩] at hR
          have HRM := hide hR
          clear e1 e2 hR
          go_wp2_with fail
          refine HQ.out.mono ?_
          rintro e w1 ⟨⟨a', c', rfl, o1⟩, b1⟩
          have c6 := c5.trans (b1.mono (Nat.le_trans hwr HZ.out))
          obtain ⟨r0, r1, r2, r3, f0, f1, f2, f3⟩ := HR.out _ c6
          have c7 := (HC3.out _ c6).1
          have hz9 := HZ.out
          have O1 := hide o1
          clear o1 b1 y3
          go_wp2
          obtain ⟨rfl, rfl⟩ : ks[k] = m ∧ true = f := Prod.mk.inj HRM.out
          obtain ⟨rfl, rfl, rfl, rfl⟩ := HM.out
          refine bodyPost_ret (v := .tuple #[.agg #[.string (ks[k]).ns, .string (ks[k]).nm, .string (ks[k]).tx, .slice a' (ks[k]).ks.length c'], .bool true]) (by simp [results, Tryz.results13, go_sem, r0, r1, r2, r3]) rfl ⟨⟨a', c', rfl, ?_⟩, ?_⟩
          · refine OwnK.wide ((((O1.out.setCell _ _ (by unfold Ivl; simp; omega)).setCell _ _ (by unfold Ivl; simp; omega)).setCell _ _ (by unfold Ivl; simp; omega)).setCell _ _ (by unfold Ivl; simp; omega)) (fun x hx => ?_)
            unfold Ivl at hx ⊢
            simp at hx ⊢
            omega
          · exact (((c7.setCell (by simp) _).setCell (by simp) _).setCell (by simp) _).setCell (by simp) _
        · have q2 := neStrN e2
          rw [if_neg (fun h => e2 h.2)] at hR
          have HRR := hide hR
          clear e1 e2 hR
          go_wp2
          go_roundw
          case rel => exact ⟨k + 1, by omega, by go_num, HRR.out, c5⟩
          case measure => simp [intOf]; omega
      · have q1 := neStrN e1
        rw [if_neg (fun h => e1 h.1)] at hR
        have HRR := hide hR
        clear e1 hR
        go_wp2
        go_roundw
        case rel => exact ⟨k + 1, by omega, by go_num, HRR.out, c5⟩
        case measure => simp [intOf]; omega
    · rw [List.drop_of_length_le (by omega), kidP_nil] at hR
      have HRM := hide hR
      clear hR
      obtain ⟨r0, r1, r2, r3, f0, f1, f2, f3⟩ := HR.out _ hbe
      go_wp2
      obtain ⟨rfl, rfl⟩ : zeroK = m ∧ false = f := Prod.mk.inj HRM.out
      obtain ⟨rfl, rfl, rfl, rfl⟩ := HM.out
      refine bodyPost_ret (v := .tuple #[.agg #[.string { data := #[] }, .string { data := #[] }, .string { data := #[] }, .slice none 0 0], .bool false]) (by simp [results, Tryz.results13, go_sem, r0, r1, r2, r3]) rfl ⟨⟨none, 0, rfl, .nil _ _⟩, ?_⟩
      exact (((c0.setCell (by simp) _).setCell (by simp) _).setCell (by simp) _).setCell (by simp) _
end Go.Proofs.YtccehdlgpbeijaaGreatDoor
namespace Go.Proofs.YtccehdlgpbeijaaGreatDoor
open Go.RowKit M
set_option linter.unusedVariables false

set_option maxRecDepth 100000 in
set_option maxHeartbeats 4000000 in
theorem specKidOf_any (n : Nd) (na nb : ByteArray) (a : Option Addr) (cap B : Nat) (w : World) (h : Nds w B a n.ks) (hB : B ≤ w.heap.size) (hs : n.szN ≤ 1048576) :
    Calls Tryz.prog 14 #[.agg #[.string n.ns, .string n.nm, .string n.tx, .slice a n.ks.length cap], .string na, .string nb] w fun e w' => (∃ (a' : Option Addr) (c' : Nat), e = .returned (.tuple #[.agg #[.string (kidP n.ks na nb).1.ns, .string (kidP n.ks na nb).1.nm, .string (kidP n.ks na nb).1.tx, .slice a' (kidP n.ks na nb).1.ks.length c'], .bool (kidP n.ks na nb).2]) ∧ OwnK w' a' (kidP n.ks na nb).1.ks (Ivl w.heap.size w'.heap.size)) ∧ Below w.heap.size w w' := by
  rw [szN_ks] at hs
  generalize n.ns = ra at *
  generalize n.nm = rb at *
  generalize n.tx = rc at *
  generalize n.ks = ks at *
  have HKP := hide (kidP_eq ks na nb)
  generalize kidP ks na nb = R at *
  obtain ⟨m, f⟩ := R
  obtain ⟨x0, x1, x2, km, m0, m1, m2, m3⟩ : ∃ x0 x1 x2 km, m.ns = x0 ∧ m.nm = x1 ∧ m.tx = x2 ∧ m.ks = km := ⟨_, _, _, _, rfl, rfl, rfl, rfl⟩
  simp only [m0, m1, m2, m3]
  have HM := hide (And.intro m0 (And.intro m1 (And.intro m2 m3)))
  clear m0 m1 m2 m3
  have HH := hide h
  clear h
  obtain ⟨W2, hW2⟩ : ∃ W2, ((w.alloc (Obj.cells #[Value.string ra, Value.string rb, Value.string rc, Value.slice a ks.length cap] 26)).alloc (Obj.cells #[Value.string { data := #[] }, Value.string { data := #[] }, Value.string { data := #[] }, Value.slice none 0 0] 26)) = W2 := ⟨_, rfl⟩
  have hB1 : Hid (Below w.heap.size w W2) := by rw [← hW2]; exact ((Below.refl _ _).alloc (Nat.le_refl _) _).alloc (by simp) _
  have HS2 : Hid (W2.heap.size = w.heap.size + 1 + 1) := by rw [← hW2]; show _ = _; simp
  have HX2 : Hid (W2.cell? ⟨w.heap.size, 3, none⟩ = some (.slice a ks.length cap)) := by rw [← hW2]; show _ = _; simp
  have HR : Hid (∀ W' : World, Below (w.heap.size + 1 + 1) W2 W' → W'.cell? ⟨w.heap.size + 1, 0, none⟩ = some (.string { data := #[] }) ∧ W'.cell? ⟨w.heap.size + 1, 1, none⟩ = some (.string { data := #[] }) ∧ W'.cell? ⟨w.heap.size + 1, 2, none⟩ = some (.string { data := #[] }) ∧ W'.cell? ⟨w.heap.size + 1, 3, none⟩ = some (.slice none 0 0) ∧ W'.frozen? ⟨w.heap.size + 1, 0, none⟩ = false ∧ W'.frozen? ⟨w.heap.size + 1, 1, none⟩ = false ∧ W'.frozen? ⟨w.heap.size + 1, 2, none⟩ = false ∧ W'.frozen? ⟨w.heap.size + 1, 3, none⟩ = false) := fun W' hb => by
    have hc := fun (i o : Nat) (hi : i < w.heap.size + 1 + 1) => hb.cell (p := ⟨i, o, none⟩) hi
    have hf := fun (i o : Nat) (hi : i < w.heap.size + 1 + 1) => hb.frozen (p := ⟨i, o, none⟩) hi
    refine ⟨?_, ?_, ?_, ?_, ?_, ?_, ?_, ?_⟩
    all_goals first | rw [hc _ _ (by omega), ← hW2] | rw [hf _ _ (by omega), ← hW2]
    all_goals simp
  have HC3 : Hid (∀ W' : World, Below (w.heap.size + 1 + 1) W2 W' → Below w.heap.size w W' ∧ w.heap.size + 1 + 1 ≤ W'.heap.size ∧ W'.cell? ⟨w.heap.size, 3, none⟩ = some (.slice a ks.length cap)) := fun W' hb => ⟨hB1.out.trans (hb.mono (by omega)), by have := hb.size; rw [HS2.out] at this; exact this, (hb.cell (p := ⟨w.heap.size, 3, none⟩) (by show w.heap.size < w.heap.size + 1 + 1; omega)).trans HX2.out⟩
  have HW2 := hide hW2
  clear hW2
  go_enter Tryz.func14, Tryz.ntmps14
  go_wp2
  go_loopw [8] (fun i wr => ∃ k : Nat, k ≤ ks.length ∧ i = .int .i64 k ∧ kidP (ks.drop k) na nb = (m, f) ∧ Below (w.heap.size + 1 + 1) W2 wr) (fun i _ => ks.length - (intOf i).toNat)
  case atStart =>
    rw [HW2.out]
    exact ⟨0, Nat.zero_le _, rfl, HKP.out, Below.refl _ _⟩
  case round =>
    obtain ⟨k, hk, rfl, hR, hbe⟩ := hrel
    obtain ⟨c0, hwr, y3⟩ := HC3.out _ hbe
    by_cases hlt : k < ks.length
    · rw [drop_at ks k hlt, kidP_cons] at hR
      obtain ⟨b, o, rfl, hb, hc⟩ := (HH.out.stays c0 hB).at (by omega)
      obtain ⟨ak, ck, hx0, hx1, hx2, hx3, hkx⟩ := hc k hlt
      clear hc
      have hks : (ks[k]).szN ≤ 1048576 := by have := szL_mem ks _ (List.getElem_mem hlt); omega
      have hBw : B ≤ wr.heap.size := by omega
      have HHK := hide hkx
      clear hkx
      have c5 := hbe
      have HQ := hide (l8Copy_all (cntL (ks[k]).ks + 1) ks[k] ak ck B wr (Nat.lt_succ_self _) HHK.out hBw hks)
      have HZ : Hid (wr.heap.size ≤ wr.heap.size) := Nat.le_refl _
      by_cases e1 : (ks[k]).ns = na
      · have q1 := eqStrN e1
        by_cases e2 : (ks[k]).nm = nb
        · have q2 := eqStrN e2
          rw [if_pos ⟨e1, e2⟩] at hR
          have HRM := hide hR
          clear e1 e2 hR
          go_wp2_with fail
          refine HQ.out.mono ?_
          rintro e w1 ⟨⟨a', c', rfl, o1⟩, b1⟩
          have c6 := c5.trans (b1.mono (Nat.le_trans hwr HZ.out))
          obtain ⟨r0, r1, r2, r3, f0, f1, f2, f3⟩ := HR.out _ c6
          have c7 := (HC3.out _ c6).1
          have hz9 := HZ.out
          have O1 := hide o1
          clear o1 b1 y3
          go_wp2
          obtain ⟨rfl, rfl⟩ : ks[k] = m ∧ true = f := Prod.mk.inj HRM.out
          obtain ⟨rfl, rfl, rfl, rfl⟩ := HM.out
          refine bodyPost_ret (v := .tuple #[.agg #[.string (ks[k]).ns, .string (ks[k]).nm, .string (ks[k]).tx, .slice a' (ks[k]).ks.length c'], .bool true]) (by simp [results, Tryz.results14, go_sem, r0, r1, r2, r3]) rfl ⟨⟨a', c', rfl, ?_⟩, ?_⟩
          · refine OwnK.wide ((((O1.out.setCell _ _ (by unfold Ivl; simp; omega)).setCell _ _ (by unfold Ivl; simp; omega)).setCell _ _ (by unfold Ivl; simp; omega)).setCell _ _ (by unfold Ivl; simp; omega)) (fun x hx => ?_)
            unfold Ivl at hx ⊢
            simp at hx ⊢
            omega
          · exact (((c7.setCell (by simp) _).setCell (by simp) _).setCell (by simp) _).setCell (by simp) _
        · have q2 := neStrN e2
          rw [if_neg (fun h => e2 h.2)] at hR
          have HRR := hide hR
          clear e1 e2 hR
          go_wp2
          go_roundw
          case rel => exact ⟨k + 1, by omega, by go_num, HRR.out, c5⟩
          case measure => simp [intOf]; omega
      · have q1 := neStrN e1
        rw [if_neg (fun h => e1 h.1)] at hR
        have HRR := hide hR
        clear e1 hR
        go_wp2
        go_roundw
        case rel => exact ⟨k + 1, by omega, by go_num, HRR.out, c5⟩
        case measure => simp [intOf]; omega
    · rw [List.drop_of_length_le (by omega), kidP_nil] at hR
      have HRM := hide hR
      clear hR
      obtain ⟨r0, r1, r2, r3, f0, f1, f2, f3⟩ := HR.out _ hbe
      go_wp2
      obtain ⟨rfl, rfl⟩ : zeroK = m ∧ false = f := Prod.mk.inj HRM.out
      obtain ⟨rfl, rfl, rfl, rfl⟩ := HM.out
      refine bodyPost_ret (v := .tuple #[.agg #[.string { data := #[] }, .string { data := #[] }, .string { data := #[] }, .slice none 0 0], .bool false]) (by simp [results, Tryz.results14, go_sem, r0, r1, r2, r3]) rfl ⟨⟨none, 0, rfl, .nil _ _⟩, ?_⟩
      exact (((c0.setCell (by simp) _).setCell (by simp) _).setCell (by simp) _).setCell (by simp) _
end Go.Proofs.YtccehdlgpbeijaaGreatDoor
