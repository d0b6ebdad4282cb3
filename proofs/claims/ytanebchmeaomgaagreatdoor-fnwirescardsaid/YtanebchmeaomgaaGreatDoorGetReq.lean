/-
  What the program's GetReq does.
-/
import Derived.Test.YtanebchmeaomgaaGreatDoorParseHex
import Derived.Test.YtanebchmeaomgaaGreatDoorReadLines
import Derived.Test.YtanebchmeaomgaaGreatDoorBodyAt
namespace Go.Proofs.YtanebchmeaomgaaGreatDoor
open Go.RowKit M
set_option linter.unusedVariables false

theorem headsI_len : ∀ (f : Nat) (t : List UInt8) (hs : List Hd), headsI f t = some hs → hs.length ≤ t.length := by
  intro f
  induction f with
  | zero => intro t hs h; cases h
  | succ f ih =>
    intro t hs h
    rw [headsI] at h
    split at h
    · cases h; simp
    · split at h
      · cases h
      · rename_i n t1 hc1
        split at h
        · cases h
        · rename_i v t2 hc2
          split at h
          · obtain ⟨q, hq, rfl⟩ := Option.map_eq_some_iff.1 h
            have := ih t2 q hq
            obtain ⟨e1, _⟩ := cut1_some.1 hc1
            obtain ⟨e2, _⟩ := cut2_some hc2
            have l1 := congrArg List.length e1
            have l2 := congrArg List.length e2
            simp at l1 l2
            simp
            omega
          · cases h
theorem readI_len {t : List UInt8} {m p : ByteArray} {hs : List Hd} (h : readI t = some (m, p, hs)) : hs.length ≤ t.length := by
  unfold readI at h
  split at h
  · cases h
  · rename_i m1 t1 hc1
    split at h
    · split at h
      · cases h
      · rename_i p1 t2 hc2
        split at h
        · split at h
          · cases h
          · rename_i v t3 hc3
            split at h
            · obtain ⟨q, hq, e⟩ := Option.map_eq_some_iff.1 h
              cases e
              have := headsI_len _ _ _ hq
              obtain ⟨e1, _⟩ := cut1_some.1 hc1
              obtain ⟨e2, _⟩ := cut1_some.1 hc2
              obtain ⟨e3, _⟩ := cut2_some hc3
              have l1 := congrArg List.length e1
              have l2 := congrArg List.length e2
              have l3 := congrArg List.length e3
              simp at l1 l2 l3
              omega
            · cases h
        · cases h
    · cases h
theorem hdB_val {x : Hd} (h : hdB x = true) : x.2.size ≤ 60 := by
  simp only [hdB, valB, Bool.and_eq_true, decide_eq_true_eq] at h
  exact h.2.1
def ZeroB (N : Nat) (W : World) : Prop := W.heap[N]? = some (Obj.cells #[.string ⟨#[]⟩, .string ⟨#[]⟩, .slice none 0 0, .string ⟨#[]⟩] 39)
theorem ZeroB.next {N : Nat} {W W' : World} (h : ZeroB N W) (hb : Below W.heap.size W W') : ZeroB N W' := (hb.block _ (Array.getElem?_eq_some_iff.1 h).1).trans h
theorem ZeroB.cells {N : Nat} {W : World} (h : ZeroB N W) : W.cell? ⟨N, 0, none⟩ = some (.string ⟨#[]⟩) ∧ W.cell? ⟨N, 1, none⟩ = some (.string ⟨#[]⟩) ∧ W.cell? ⟨N, 2, none⟩ = some (.slice none 0 0) ∧ W.cell? ⟨N, 3, none⟩ = some (.string ⟨#[]⟩) ∧ W.frozen? ⟨N, 0, none⟩ = false ∧ W.frozen? ⟨N, 1, none⟩ = false ∧ W.frozen? ⟨N, 2, none⟩ = false ∧ W.frozen? ⟨N, 3, none⟩ = false := by
  refine ⟨?_, ?_, ?_, ?_, ?_, ?_, ?_, ?_⟩
  all_goals first | (unfold World.cell?; rw [show W.heap[N]? = _ from h]; rfl) | (unfold World.frozen?; rw [show W.heap[N]? = _ from h]; rfl)
theorem results_get (tmps : Array Value) (N : Nat) (W : World) (v0 v1 v2 v3 : Value) (x y : Int) (h2 : tmps.getD 2 undef = .pointer (some ⟨N, 0, none⟩)) (h3 : tmps.getD 3 undef = .int .i64 x) (h4 : tmps.getD 4 undef = .int .i64 y) (hg : W.heap[N]? = some (Obj.cells #[v0, v1, v2, v3] 39)) :
    (results Tryz.f160 tmps).run Tryz.prog W = .ok (.tuple #[.agg #[v0, v1, v2, v3], .int .i64 x, .int .i64 y]) W := by
  have hl := run_loadVar_row (P := Tryz.prog) W N 39 39 #[v0, v1, v2, v3] (0, 0) _ hg Tryz.underlying39 rfl req_desc
  simp at h2 h3 h4
  simp [results, Tryz.results160, h2, h3, h4, asAddr, hl]

/-- A row of four is written anew. -/
theorem put4 {w3 : World} {N : Nat} {a0 a1 a2 a3 : Value} {t : TypeId} (h : w3.heap[N]? = some (.cells #[a0, a1, a2, a3] t)) (v0 v1 v2 v3 : Value) :
    ∃ w4, (((w3.setCell ⟨N, 0, none⟩ v0).setCell ⟨N, 1, none⟩ v1).setCell ⟨N, 2, none⟩ v2).setCell ⟨N, 3, none⟩ v3 = w4 ∧ w4.heap[N]? = some (.cells #[v0, v1, v2, v3] t) ∧ (∀ M o, M ≠ N → w3.heap[M]? = some o → w4.heap[M]? = some o) ∧ Below N w3 w4 ∧ w4.heap.size = w3.heap.size :=
  ⟨_, rfl, set4_heap h _ _ _ _, fun M o hM ho => set_other (set_other (set_other (set_other ho hM _) hM _) hM _) hM _, set4_below (Below.refl _ _) (Nat.le_refl _) _ _ _ _, by simp⟩
theorem put2 {w3 : World} {N : Nat} {a0 a1 : Value} {t : TypeId} (h : w3.heap[N]? = some (.cells #[a0, a1] t)) (v0 v1 : Value) :
    ∃ w4, (w3.setCell ⟨N, 0, none⟩ v0).setCell ⟨N, 1, none⟩ v1 = w4 ∧ w4.heap[N]? = some (.cells #[v0, v1] t) ∧ (∀ M o, M ≠ N → w3.heap[M]? = some o → w4.heap[M]? = some o) ∧ Below N w3 w4 ∧ w4.heap.size = w3.heap.size :=
  ⟨_, rfl, set2_heap h _ _, fun M o hM ho => set_other (set_other ho hM _) hM _, set2_below (Below.refl _ _) (Nat.le_refl _) _ _, by simp⟩
theorem cells2 {W : World} {N : Nat} {v0 v1 : Value} {t : TypeId} (h : W.heap[N]? = some (.cells #[v0, v1] t)) : W.cell? ⟨N, 0, none⟩ = some v0 ∧ W.cell? ⟨N, 1, none⟩ = some v1 ∧ W.frozen? ⟨N, 0, none⟩ = false ∧ W.frozen? ⟨N, 1, none⟩ = false := by
  refine ⟨?_, ?_, ?_, ?_⟩
  all_goals first | (unfold World.cell?; rw [h]; rfl) | (unfold World.frozen?; rw [h]; rfl)
theorem ReqB.cells {W : World} {N : Nat} {v0 v1 v2 v3 : Value} {t : TypeId} (h : W.heap[N]? = some (.cells #[v0, v1, v2, v3] t)) : W.cell? ⟨N, 0, none⟩ = some v0 ∧ W.cell? ⟨N, 1, none⟩ = some v1 ∧ W.cell? ⟨N, 2, none⟩ = some v2 ∧ W.cell? ⟨N, 3, none⟩ = some v3 ∧ W.frozen? ⟨N, 0, none⟩ = false ∧ W.frozen? ⟨N, 1, none⟩ = false ∧ W.frozen? ⟨N, 2, none⟩ = false ∧ W.frozen? ⟨N, 3, none⟩ = false := by
  refine ⟨?_, ?_, ?_, ?_, ?_, ?_, ?_, ?_⟩
  all_goals first | (unfold World.cell?; rw [h]; rfl) | (unfold World.frozen?; rw [h]; rfl)
theorem parse_nn (l : List UInt8) (most : Int) : 0 ≤ (parseNum l most).1 := by
  unfold parseNum
  split
  · exact Int.natCast_nonneg _
  · exact Int.le_refl _
theorem last_len {hs : List Hd} (h : frameC hs = 0) : lastN (lensOf hs) = (lenF hs : Int) := by
  obtain ⟨h1, _⟩ := frame_zero h
  unfold lastN lenF
  cases e : lensOf hs with
  | nil => rfl
  | cons x xs =>
    have : xs = [] := by
      rw [e] at h1
      apply List.length_eq_zero_iff.1
      simp at h1
      omega
    subst this
    show (parseNum x.2.data.toList 9999999).1 = ((numOf x : Nat) : Int)
    unfold numOf
    rw [Int.toNat_of_nonneg (parse_nn _ _)]
theorem lenF_le {hs : List Hd} (h : frameC hs = 0) : lenF hs ≤ 10000000 := by
  obtain ⟨_, _, _, _, h5⟩ := frame_zero h
  unfold lenF
  cases e : lensOf hs with
  | nil => simp
  | cons x xs => exact Nat.le_trans (h5 x (by rw [e]; simp)) (by decide)
/-- What GetReq hands back. -/
def GotIs (w : World) (B : Nat) (g : Rq × Nat × Int) (e : Ending) : Prop :=
  ∃ hv, e = .returned (.tuple #[.agg #[.string g.1.m, .string g.1.p, hv, .string g.1.b], .int .i64 g.2.1, .int .i64 g.2.2]) ∧ RowsH w B hv g.1.hs
theorem GotIs.bad (w : World) (B : Nat) (c : Int) : GotIs w B (zeroR, 0, c) (.returned (.tuple #[.agg #[.string ⟨#[]⟩, .string ⟨#[]⟩, .slice none 0 0, .string ⟨#[]⟩], .int .i64 0, .int .i64 c])) := ⟨_, rfl, World.ownsRow_nil _ _ _ _⟩

set_option maxRecDepth 100000 in
set_option maxHeartbeats 4000000 in
theorem getReq_any (b o : Nat) (l : List UInt8) (cap : Nat) (mx : Int) (w : World) (h : Byt w w.heap.size (some ⟨b, o, none⟩) l) (hl : l.length ≤ 4194304) (hlc : l.length ≤ cap) (hcm : cap ≤ maxLen) (h0 : 0 < w.heap.size) (hmx : w.cell? ⟨0, 0, none⟩ = some (.int .i64 mx)) :
    Calls Tryz.prog 160 #[.slice (some ⟨b, o, none⟩) l.length cap] w fun e w' => GotIs w' w.heap.size (getR l) e ∧ Below w.heap.size w w' := by
  obtain ⟨w0, hw0⟩ : ∃ w0, w.alloc (Obj.cells #[.string ⟨#[]⟩, .string ⟨#[]⟩, .slice none 0 0, .string ⟨#[]⟩] 39) = w0 := ⟨_, rfl⟩
  have c0 : Below w.heap.size w w0 := by rw [← hw0]; exact (Below.refl _ _).alloc (Nat.le_refl _) _
  have z0 : ZeroB w.heap.size w0 := by rw [← hw0]; exact heap_alloc_new w _
  have C0 := hide c0
  have Z0 := hide z0
  have HH := hide h
  have HMx := hide hmx
  have HHe := hide (headEnd_any b o l cap w.heap.size mx w0 (h.below c0 (Nat.le_refl _)) c0.size hlc hcm (Nat.lt_of_lt_of_le h0 c0.size) ((c0.cell (p := ⟨0, 0, none⟩) h0).trans hmx))
  have hcm' := hcm
  unfold maxLen at hcm'
  have hbd := heL_bd l
  clear h hmx c0 z0
  by_cases hneg : heL l < 0
  · have hG := getR_no hneg
    obtain ⟨z, hz⟩ : ∃ z, heL l = z := ⟨_, rfl⟩
    rw [hz] at HHe hneg
    clear hbd hz
    by_cases h4 : l.length ≤ 400
    · rw [if_pos h4] at hG
      have HG := hide hG
      have h4' : (l.length : Int) ≤ 400 := by omega
      clear hG
      go_enter Tryz.func160, Tryz.ntmps160
      go_wp2_with fail
      try rw [hw0]
      refine HHe.out.mono ?_
      rintro e w1 ⟨rfl, b1⟩
      have hZ1 := Z0.out.next b1
      have C1 := hide (C0.out.trans (b1.mono C0.out.size))
      obtain ⟨q0, q1, q2, q3, f0, f1, f2, f3⟩ := hZ1.cells
      have HZ1 := hide hZ1
      clear hw0 HHe b1 hZ1
      go_wp2
      refine bodyPost_ret (results_get _ w.heap.size _ _ _ _ _ _ _ rfl rfl rfl (set4_heap HZ1.out _ _ _ _)) rfl ?_
      rw [HG.out]
      exact ⟨GotIs.bad _ _ _, set4_below C1.out (Nat.le_refl _) _ _ _ _⟩
    · rw [if_neg h4] at hG
      have HG := hide hG
      have h4' : ¬ ((l.length : Int) ≤ 400) := by omega
      clear hG
      go_enter Tryz.func160, Tryz.ntmps160
      go_wp2_with fail
      try rw [hw0]
      refine HHe.out.mono ?_
      rintro e w1 ⟨rfl, b1⟩
      have hZ1 := Z0.out.next b1
      have C1 := hide (C0.out.trans (b1.mono C0.out.size))
      obtain ⟨q0, q1, q2, q3, f0, f1, f2, f3⟩ := hZ1.cells
      have HZ1 := hide hZ1
      clear hw0 HHe b1 hZ1
      go_wp2
      refine bodyPost_ret (results_get _ w.heap.size _ _ _ _ _ _ _ rfl rfl rfl (set4_heap HZ1.out _ _ _ _)) rfl ?_
      rw [HG.out]
      exact ⟨GotIs.bad _ _ _, set4_below C1.out (Nat.le_refl _) _ _ _ _⟩
  · obtain ⟨k, hk⟩ := Int.eq_ofNat_of_zero_le (by omega : 0 ≤ heL l)
    have hk' : heL l = (k : Int) := hk
    have hk4 : 4 ≤ k := by omega
    have hkl : k ≤ l.length := by omega
    have HK := hide hk'
    have HNg := hide hneg
    have hkn : ¬ ((k : Int) < 0) := by omega
    have hk400 : k ≤ 400 := by omega
    rw [hk'] at HHe
    clear hbd hk hk' hneg
    have ht0 : (l.take (k - 2)).length = k - 2 := by rw [List.length_take]; omega
    have HRd := hide (fun (W : World) (hc : Below w.heap.size w W) => readLines_any (.slice (some ⟨b, o, none⟩) (k - 2) cap) (l.take (k - 2)) w.heap.size mx W ⟨_, cap, by rw [ht0], (HH.out.below hc (Nat.le_refl _)).take _, by omega, hcm, (fun e => absurd e (by simp)), (fun x e => by have := Option.some.inj e; rw [← this])⟩ hc.size (by omega) (Nat.lt_of_lt_of_le h0 hc.size) ((hc.cell (p := ⟨0, 0, none⟩) h0).trans HMx.out))
    cases hrd : readI (l.take (k - 2)) with
    | none =>
      have HG : Hid (getR l = (zeroR, 0, 400)) := getR_form HNg.out (by rw [HK.out]; exact hrd)
      rw [hrd] at HRd
      clear hrd
      go_enter Tryz.func160, Tryz.ntmps160
      go_wp2_with fail
      try rw [hw0]
      refine HHe.out.mono ?_
      rintro e w1 ⟨rfl, b1⟩
      have Z1 := hide (Z0.out.next b1)
      have C1 := hide (C0.out.trans (b1.mono C0.out.size))
      clear hw0 HHe b1
      go_wp2_with fail
      refine (HRd.out _ C1.out).mono ?_
      rintro e w2 ⟨he, b2⟩
      have he' : e = .returned (.tuple #[.agg #[.string ⟨#[]⟩, .string ⟨#[]⟩, .slice none 0 0, .string ⟨#[]⟩], .bool false]) := he
      subst he'
      clear he
      have hZ2 := Z1.out.next b2
      have C2 := hide (C1.out.trans (b2.mono C1.out.size))
      clear HRd b2
      obtain ⟨w3, hw3⟩ : ∃ w3, w2.alloc (Obj.cells #[.string ⟨#[]⟩, .string ⟨#[]⟩, .slice none 0 0, .string ⟨#[]⟩] 39) = w3 := ⟨_, rfl⟩
      have b3 : Below w2.heap.size w2 w3 := by rw [← hw3]; exact (Below.refl _ _).alloc (Nat.le_refl _) _
      have hR3 : ZeroB w2.heap.size w3 := by rw [← hw3]; exact heap_alloc_new w2 _
      have hZ3 := hZ2.next b3
      have hlt : w.heap.size < w2.heap.size := (Array.getElem?_eq_some_iff.1 hZ2).1
      obtain ⟨w4, hw4, hR4, hO4, hB4, _⟩ := put4 hR3 (.string ⟨#[]⟩) (.string ⟨#[]⟩) (.slice none 0 0) (.string ⟨#[]⟩)
      have hZ4 := hO4 _ _ (Nat.ne_of_lt hlt) hZ3
      have C4 := hide (C2.out.trans ((b3.trans hB4).mono C2.out.size))
      obtain ⟨p0, p1, p2, p3, e0, e1, e2, e3⟩ := hR3.cells
      obtain ⟨q0, q1, q2, q3, f0, f1, f2, f3⟩ := ZeroB.cells hZ4
      have HZ4 := hide hZ4
      clear b3 hZ2 hZ3 hR3 hR4 hO4 hB4 hZ4 hlt
      go_wp2
      refine bodyPost_ret (results_get _ w.heap.size _ _ _ _ _ _ _ rfl rfl rfl (set4_heap HZ4.out _ _ _ _)) rfl ?_
      rw [HG.out]
      exact ⟨GotIs.bad _ _ _, set4_below C4.out (Nat.le_refl _) _ _ _ _⟩
    | some q =>
      obtain ⟨m, p, hs⟩ := q
      have hrd' : readI (l.take ((heL l).toNat - 2)) = some (m, p, hs) := by rw [HK.out]; exact hrd
      have HRd' := hide hrd'
      have hlen : hs.length ≤ 1048576 := by have := readI_len hrd; omega
      have hz : ∀ x ∈ hs, x.2.size ≤ 1048576 := fun x hx => Nat.le_trans (hdB_val ((readI_ok hrd).2.2 x hx)) (by decide)
      have HZz := hide hz
      rw [hrd] at HRd
      clear hrd hrd' hz
      go_enter Tryz.func160, Tryz.ntmps160
      go_wp2_with fail
      try rw [hw0]
      refine HHe.out.mono ?_
      rintro e w1 ⟨rfl, b1⟩
      have Z1 := hide (Z0.out.next b1)
      have C1 := hide (C0.out.trans (b1.mono C0.out.size))
      clear hw0 HHe b1
      go_wp2_with fail
      refine (HRd.out _ C1.out).mono ?_
      rintro e w2 ⟨he, b2⟩
      obtain ⟨hv, he', hrow⟩ : ∃ hv, e = .returned (.tuple #[.agg #[.string m, .string p, hv, .string ⟨#[]⟩], .bool true]) ∧ w2.ownsRow (w1.heap.size + 1 + 1 + 1) 82 2 hv hs.length (hdCells hs) := he
      subst he'
      obtain ⟨a, c, rfl, hhd⟩ := RowsH.hds hrow
      clear hrow
      have hZ2 := Z1.out.next b2
      have C2 := hide (C1.out.trans (b2.mono C1.out.size))
      clear HRd b2
      obtain ⟨w3, hw3⟩ : ∃ w3, w2.alloc (Obj.cells #[.string ⟨#[]⟩, .string ⟨#[]⟩, .slice none 0 0, .string ⟨#[]⟩] 39) = w3 := ⟨_, rfl⟩
      have b3 : Below w2.heap.size w2 w3 := by rw [← hw3]; exact (Below.refl _ _).alloc (Nat.le_refl _) _
      have hR3 : ZeroB w2.heap.size w3 := by rw [← hw3]; exact heap_alloc_new w2 _
      have hZ3 := hZ2.next b3
      have hlt : w.heap.size < w2.heap.size := (Array.getElem?_eq_some_iff.1 hZ2).1
      obtain ⟨w4, hw4, hR4, hO4, hB4, hs4⟩ := put4 hR3 (.string m) (.string p) (.slice a hs.length c) (.string ⟨#[]⟩)
      have hZ4 := hO4 _ _ (Nat.ne_of_lt hlt) hZ3
      have C4 := hide (C2.out.trans ((b3.trans hB4).mono C2.out.size))
      have Hhd4 := hide (hhd.below (b3.trans hB4) (Nat.le_refl _))
      obtain ⟨p0, p1, p2, p3, e0, e1, e2, e3⟩ := hR3.cells
      obtain ⟨q0, q1, q2, q3, f0, f1, f2, f3⟩ := ReqB.cells hR4
      have HZ4 := hide hZ4
      have HR4 := hide hR4
      have hlt4 : w2.heap.size < w4.heap.size := (Array.getElem?_eq_some_iff.1 hR4).1
      have HLt := hide hlt
      have HLt4 := hide hlt4
      have HSo := hide (sortHeads_any a hs c w2.heap.size w4 Hhd4.out (Nat.le_of_lt hlt4) hlen)
      clear b3 hZ2 hZ3 hR3 hR4 hO4 hB4 hZ4 hhd hs4 hlt hlt4
      go_wp2_with fail
      refine HSo.out.mono ?_
      rintro e w5 ⟨⟨v1, v2, v3, rfl, r1, r2, r3⟩, b5⟩
      clear hw3 hw4 p0 p1 p2 p3 e0 e1 e2 e3 q0 q1 q2 q3 f0 f1 f2 f3 HSo
      obtain ⟨a1, c1, rfl, hd1⟩ := r1.hds
      obtain ⟨a2, c2, rfl, hd2⟩ := r2.hds
      obtain ⟨a3, c3, rfl, hd3⟩ := r3.hds
      have R3 := hide r3
      have HFr := hide (frameOf_any a1 a2 a3 (lensOf hs) (codsOf hs) (othOf hs).length c1 c2 c3 w5.heap.size w5 hd1 hd2 (Nat.le_refl _) (Nat.le_trans (lens_le _) hlen) (Nat.le_trans (cods_le _) hlen) (Nat.le_trans (oth_le _) hlen) (fun x hx => HZz.out x (List.mem_filter.1 hx).1) (fun x hx => HZz.out x (List.mem_filter.1 hx).1))
      have Z5 := hide (ZeroB.next (W := w4) HZ4.out b5)
      have Q5 : Hid (w5.heap[w2.heap.size]? = some _) := hide ((b5.block _ HLt4.out).trans HR4.out)
      have C5 := hide (C4.out.trans (b5.mono C4.out.size))
      have hlt5 : w2.heap.size < w5.heap.size := Nat.lt_of_lt_of_le HLt4.out b5.size
      have HB5 := hide b5.size
      have HLt5 := hide hlt5
      clear r1 r2 r3 hd1 hd2 hd3 hlt5 HZ4 HR4 C4 b5
      go_wp2_with fail
      refine HFr.out.mono ?_
      rintro e w6 ⟨⟨ck, n, rfl, hfc⟩, b6⟩
      have HFc := hide hfc
      have r3 := ownsH_below R3.out b6
      have z6 := Z5.out.next b6
      have q6 := (b6.block _ HLt5.out).trans Q5.out
      have C6 := hide (C5.out.trans (b6.mono C5.out.size))
      have hlt6 : w2.heap.size < w6.heap.size := Nat.lt_of_lt_of_le HLt5.out b6.size
      have HB6 := hide (Nat.le_trans HB5.out b6.size)
      clear b6 hfc HFr
      obtain ⟨w7, hw7⟩ : ∃ w7, w6.alloc (Obj.cells #[.bool false, .int .i64 0] 218) = w7 := ⟨_, rfl⟩
      have b7 : Below w6.heap.size w6 w7 := by rw [← hw7]; exact (Below.refl _ _).alloc (Nat.le_refl _) _
      have hF7 : w7.heap[w6.heap.size]? = some (Obj.cells #[.bool false, .int .i64 0] 218) := by rw [← hw7]; exact heap_alloc_new w6 _
      obtain ⟨w8, hw8, hF8, hO8, hB8, hs8⟩ := put2 hF7 (.bool ck) (.int .i64 n)
      have b8 := b7.trans hB8
      have z8 : ZeroB w.heap.size w8 := z6.next b8
      have q8 := (b8.block _ hlt6).trans q6
      have r8 := ownsH_below r3 b8
      have C8 := hide (C6.out.trans (b8.mono C6.out.size))
      have hlt8 : w6.heap.size < w8.heap.size := (Array.getElem?_eq_some_iff.1 hF8).1
      obtain ⟨p0, p1, e0, e1⟩ := cells2 hF7
      clear b7 b8 hB8 hF7 z6 q6 hO8 hs8 r3 R3 Z5 Q5 C5
      by_cases hf : frameC hs = 0
      · obtain ⟨hck, hn⟩ := HFc.out hf
        have hck' : ck = chkF hs := hck
        have hn' : n = (lenF hs : Int) := hn.trans (last_len hf)
        subst hck'
        subst hn'
        have hf' : frC (lensOf hs) (codsOf hs) (othOf hs).length = 0 := hf
        have hln : lenF hs ≤ 10000000 := lenF_le hf
        have HF := hide hf
        rw [hf']
        clear hck hn hf' hf HFc
        obtain ⟨w9, hw9⟩ : ∃ w9, w8.setCell ⟨w2.heap.size, 2, none⟩ (.slice a3 (othOf hs).length c3) = w9 := ⟨_, rfl⟩
        have q9 := set_heap q8 2 (.slice a3 (othOf hs).length c3)
        have z9 := set_other (k := 2) z8 (Nat.ne_of_lt HLt.out) (.slice a3 (othOf hs).length c3)
        have f9 := set_other (k := 2) hF8 (Nat.ne_of_gt hlt6) (.slice a3 (othOf hs).length c3)
        have r9 := ownsRow_setCell_below (a := ⟨w2.heap.size, 2, none⟩) r8 HLt4.out (.slice a3 (othOf hs).length c3)
        have b9 := C8.out.setCell (p := ⟨w2.heap.size, 2, none⟩) (Nat.le_of_lt HLt.out) (.slice a3 (othOf hs).length c3)
        rw [hw9] at q9 z9 f9 r9 b9
        obtain ⟨x0, x1, x2, x3, y0, y1, y2, y3⟩ := ReqB.cells q8
        obtain ⟨g0, g1, g2, g3⟩ := cells2 f9
        have hs9 : w2.heap.size < w9.heap.size := (Array.getElem?_eq_some_iff.1 q9).1
        have HS9 := hide hs9
        have Q9 := hide q9
        have Z9 := hide z9
        have R9 := hide r9
        have C9 := hide b9
        have HBo := hide (bodyAt_any b o l cap k (lenF hs) (chkF hs) w9 ((HH.out.below C9.out (Nat.le_refl _)).mono C9.out.size) hl hlc hcm hkl hln)
        clear q8 z8 hF8 r8 q9 z9 f9 r9 b9 hs9 hln
        go_wp2_with fail
        refine HBo.out.mono ?_
        rintro e w10 ⟨rfl, b10⟩
        have q10 := (b10.block _ HS9.out).trans Q9.out
        have z10 := Z9.out
        have z10' : ZeroB w.heap.size w10 := ZeroB.next (W := w9) z10 b10
        have r10 := ownsH_below R9.out b10
        have C10 := hide (C9.out.trans (b10.mono C9.out.size))
        obtain ⟨s, x, y, hbd⟩ : ∃ s x y, bodyL l k hs = (s, x, y) := ⟨_, _, _, rfl⟩
        rw [show bodyV l k (chkF hs) (lenF hs) = (s, x, y) from hbd]
        have hbd' : bodyL l (heL l).toNat hs = (s, x, y) := by rw [HK.out]; exact hbd
        have HBd := hide hbd'
        clear hbd hbd' b10 HBo z10 g0 g1 g2 g3 x0 x1 x2 x3 y0 y1 y2 y3 hw9 hw7 hw8 p0 p1 e0 e1 Q9 Z9 R9 C9
        obtain ⟨w11, hw11⟩ : ∃ w11, w10.setCell ⟨w2.heap.size, 3, none⟩ (.string ⟨s.toArray⟩) = w11 := ⟨_, rfl⟩
        have q11 := set_heap q10 3 (.string ⟨s.toArray⟩)
        have z11 := set_other (k := 3) z10' (Nat.ne_of_lt HLt.out) (.string ⟨s.toArray⟩)
        have r11 := ownsRow_setCell_below (a := ⟨w2.heap.size, 3, none⟩) r10 HLt4.out (.string ⟨s.toArray⟩)
        have b11 := C10.out.setCell (p := ⟨w2.heap.size, 3, none⟩) (Nat.le_of_lt HLt.out) (.string ⟨s.toArray⟩)
        rw [hw11] at q11 z11 r11 b11
        obtain ⟨x0, x1, x2, x3, y0, y1, y2, y3⟩ := ReqB.cells q10
        obtain ⟨g0, g1, g2, g3, j0, j1, j2, j3⟩ := ReqB.cells z11
        obtain ⟨k0, k1, k2, k3, i0, i1, i2, i3⟩ := ReqB.cells q11
        have Z11 := hide z11
        have R11 := hide r11
        have C11 := hide b11
        clear q10 z10' r10 C10 z11 q11 r11 b11
        by_cases hy : y = 0
        · subst hy
          have HG : Hid (getR l = (⟨m, p, othOf hs, bytesOf s⟩, x, 0)) := hide (by
            have := getR_good (by have := HNg.out; omega) HRd'.out HF.out (by rw [HBd.out])
            rw [HBd.out] at this
            exact this)
          go_wp2
          refine bodyPost_ret (results_get _ w.heap.size _ _ _ _ _ _ _ rfl rfl rfl (set4_heap Z11.out _ _ _ _)) rfl ?_
          rw [HG.out]
          have hN0 : w.heap.size < w4.heap.size := Nat.lt_trans HLt.out HLt4.out
          refine ⟨⟨_, rfl, ?_⟩, set4_below C11.out (Nat.le_refl _) _ _ _ _⟩
          refine RowsH.base (B := w4.heap.size) ?_ (Nat.le_of_lt hN0)
          exact ownsRow_setCell_below (ownsRow_setCell_below (ownsRow_setCell_below (ownsRow_setCell_below R11.out (by show w.heap.size < _; exact hN0) _) (by show w.heap.size < _; exact hN0) _) (by show w.heap.size < _; exact hN0) _) (by show w.heap.size < _; exact hN0) _
        · have HG : Hid (getR l = (zeroR, 0, y)) := hide (by
            have := getR_body (by have := HNg.out; omega) HRd'.out HF.out (by rw [HBd.out]; exact hy)
            rw [HBd.out] at this
            exact this)
          go_wp2
          refine bodyPost_ret (results_get _ w.heap.size _ _ _ _ _ _ _ rfl rfl rfl (set4_heap Z11.out _ _ _ _)) rfl ?_
          rw [HG.out]
          exact ⟨GotIs.bad _ _ _, set4_below C11.out (Nat.le_refl _) _ _ _ _⟩
      · have HG : Hid (getR l = (zeroR, 0, frC (lensOf hs) (codsOf hs) (othOf hs).length)) := hide (by rw [← frameC_eq]; exact getR_frame (by have := HNg.out; omega) HRd'.out hf)
        obtain ⟨z, hz⟩ : ∃ z, frC (lensOf hs) (codsOf hs) (othOf hs).length = z := ⟨_, rfl⟩
        have hz0 : ¬ z = 0 := by rw [← hz]; exact hf
        rw [hz] at HG ⊢
        clear hf hz HFc
        obtain ⟨q0, q1, q2, q3, f0, f1, f2, f3⟩ := z8.cells
        have Z8 := hide z8
        clear z8 q8 r8 hF8
        go_wp2
        refine bodyPost_ret (results_get _ w.heap.size _ _ _ _ _ _ _ rfl rfl rfl (set4_heap Z8.out _ _ _ _)) rfl ?_
        rw [HG.out]
        exact ⟨GotIs.bad _ _ _, set4_below C8.out (Nat.le_refl _) _ _ _ _⟩
end Go.Proofs.YtanebchmeaomgaaGreatDoor
