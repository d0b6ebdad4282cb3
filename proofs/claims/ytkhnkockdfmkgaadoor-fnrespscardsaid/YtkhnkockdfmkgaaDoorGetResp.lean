/-
  What the program's GetResp does.
-/
import Derived.Test.YtkhnkockdfmkgaaDoorRespIn
import Derived.Test.YtkhnkockdfmkgaaDoorPutResp
namespace Go.Proofs.YtkhnkockdfmkgaaDoor
open Go.RowKit M
set_option linter.unusedVariables false

/-- What GetResp hands back. -/
def GotA (w : World) (B : Nat) (g : Rs × Nat × Bool) (e : Ending) : Prop :=
  ∃ hv, e = .returned (.tuple #[.agg #[.int .i64 g.1.c, hv, .string g.1.b], .int .i64 g.2.1, .bool g.2.2]) ∧ RowsH w B hv g.1.hs
theorem GotA.bad (w : World) (B : Nat) : GotA w B (zeroA, 0, false) (.returned (.tuple #[.agg #[.int .i64 0, .slice none 0 0, .string ⟨#[]⟩], .int .i64 0, .bool false])) := ⟨_, rfl, World.ownsRow_nil _ _ _ _⟩
theorem results_getA (tmps : Array Value) (N : Nat) (W : World) (v0 v1 v2 : Value) (x : Int) (y : Bool) (h2 : tmps.getD 2 undef = .pointer (some ⟨N, 0, none⟩)) (h3 : tmps.getD 3 undef = .int .i64 x) (h4 : tmps.getD 4 undef = .bool y) (hg : W.heap[N]? = some (Obj.cells #[v0, v1, v2] 26)) :
    (results Tryd.f8 tmps).run Tryd.prog W = .ok (.tuple #[.agg #[v0, v1, v2], .int .i64 x, .bool y]) W := by
  have hl := run_loadVar_row (P := Tryd.prog) W N 26 26 #[v0, v1, v2] (0, 0) _ hg Tryd.underlying26 rfl resp_desc
  simp at h2 h3 h4
  simp [results, Tryd.results8, h2, h3, h4, asAddr, hl]
theorem ZeroA.next {N : Nat} {W W' : World} (h : ZeroA N W) (hb : Below W.heap.size W W') : ZeroA N W' := (hb.block _ (Array.getElem?_eq_some_iff.1 h).1).trans h
theorem set3_below {C N : Nat} {w W : World} (h : Below C w W) (hC : C ≤ N) (v0 v1 v2 : Value) : Below C w (((W.setCell ⟨N, 0, none⟩ v0).setCell ⟨N, 1, none⟩ v1).setCell ⟨N, 2, none⟩ v2) :=
  ((h.setCell (p := ⟨N, 0, none⟩) hC v0).setCell (p := ⟨N, 1, none⟩) hC v1).setCell (p := ⟨N, 2, none⟩) hC v2
theorem fit_small {r : Rs} (h1 : r.hs.length ≤ 9) (h2 : sumH r.hs ≤ 1048576) (h3 : r.b.size ≤ 1048576) : FitA r := by
  refine ⟨⟨by unfold maxLen; omega, by unfold maxLen; omega, fun x hx => ?_⟩, fun x hx => ?_⟩
  · have := sumH_mem r.hs x hx
    unfold maxLen
    omega
  · have := sumH_mem r.hs x hx
    omega

set_option maxRecDepth 100000 in
set_option maxHeartbeats 4000000 in
theorem getResp_any (b o : Nat) (l : List UInt8) (cap : Nat) (mx : Int) (w : World) (h : Byt w w.heap.size (some ⟨b, o, none⟩) l) (hl : l.length ≤ 1048576) (hlc : l.length ≤ cap) (hcm : cap ≤ maxLen) (hpw : ∀ w', Below w.heap.size w w' → PowTab w') (h0 : 0 < w.heap.size) (hmx : w.cell? ⟨0, 0, none⟩ = some (.int .i64 mx)) :
    Calls Tryd.prog 8 #[.slice (some ⟨b, o, none⟩) l.length cap] w fun e w' => GotA w' w.heap.size (getA l) e ∧ Below w.heap.size w w' := by
  obtain ⟨w0, hw0⟩ : ∃ w0, w.alloc (Obj.cells #[.int .i64 0, .slice none 0 0, .string ⟨#[]⟩] 26) = w0 := ⟨_, rfl⟩
  have c0 : Below w.heap.size w w0 := by rw [← hw0]; exact (Below.refl _ _).alloc (Nat.le_refl _) _
  have z0 : ZeroA w.heap.size w0 := by rw [← hw0]; exact heap_alloc_new w _
  have s0 : w.heap.size < w0.heap.size := (Array.getElem?_eq_some_iff.1 z0).1
  have HRi := hide (respIn_any (.slice (some ⟨b, o, none⟩) l.length cap) l w.heap.size mx w0 ⟨_, cap, rfl, h.below c0 (Nat.le_refl _), hlc, hcm, (fun e => by cases e), (fun x e => by have := Option.some.inj e; rw [← this])⟩ c0.size hl (Nat.lt_of_lt_of_le h0 c0.size) ((c0.cell (p := ⟨0, 0, none⟩) h0).trans hmx))
  have HH := hide h
  have HPw := hide hpw
  have C0 := hide c0
  have Z0 := hide z0
  clear h hpw h0 hmx c0 z0
  go_enter Tryd.func8, Tryd.ntmps8
  go_wp2_with fail
  try rw [hw0]
  refine HRi.out.mono ?_
  rintro e w1 ⟨⟨r, hv, rfl, rr, h9, hsu, hbz, hall⟩, b1⟩
  obtain ⟨ah, ch, rfl, hd⟩ := RowsH.hds rr
  have C1 := hide (C0.out.trans (b1.mono C0.out.size))
  have Z1 := hide (Z0.out.next b1)
  obtain ⟨w2, hw2⟩ : ∃ w2, w1.alloc (Obj.cells #[.int .i64 r.c, .slice ah r.hs.length ch, .string r.b] 26) = w2 := ⟨_, rfl⟩
  have b2 : Below w1.heap.size w1 w2 := by rw [← hw2]; exact (Below.refl _ _).alloc (Nat.le_refl _) _
  have g2 : w2.heap[w1.heap.size]? = some (Obj.cells #[.int .i64 r.c, .slice ah r.hs.length ch, .string r.b] 26) := by rw [← hw2]; exact heap_alloc_new w1 _
  have C2 := hide (C1.out.trans (b2.mono C1.out.size))
  have Z2 := hide (Z1.out.next b2)
  have R2 := hide (ownsH_below rr b2)
  have HAll := hide hall
  have G2 := hide g2
  obtain ⟨x0, x1, x2, _, _, _⟩ := cells3R g2
  have hpp : ∀ w', Below w2.heap.size w2 w' → PowTab w' := fun w' hw => HPw.out w' (C2.out.trans (hw.mono C2.out.size))
  have HPt := hide (putResp_any ah r ch w1.heap.size w2 (hd.below b2 (Nat.le_refl _)) b2.size (fit_small h9 (by omega) (by omega)) (by omega) (by omega) (by omega) hpp)
  have s1 : w0.heap.size ≤ w1.heap.size := b1.size
  have s2 : w1.heap.size < w2.heap.size := (Array.getElem?_eq_some_iff.1 g2).1
  clear hw0 b1 b2 g2 rr hd hall HRi hpp
  go_wp2_with fail
  refine HPt.out.mono ?_
  rintro e w3 ⟨⟨v, rfl, ov⟩, b3⟩
  obtain ⟨g, kc, rfl, hg1, hg2, hg3, hg4, hy⟩ := ov.byt
  have C3 := hide (C2.out.trans (b3.mono C2.out.size))
  have z3 := Z2.out.next b3
  have g3 := (b3.block _ s2).trans G2.out
  have R3 := hide (ownsH_below R2.out b3)
  have Y3 := hide hy
  obtain ⟨y0, y1, y2, _, _, _⟩ := cells3R g3
  obtain ⟨q0, q1, q2, f0, f1, f2⟩ := cells3R z3
  have Z3 := hide z3
  clear hw2 x0 x1 x2 HPt b3 ov hy z3 g3 G2 R2 Z2
  cases hr : respB r
  · have hP : putA r = [] := putA_no hr
    have HG : Hid (getA l = (zeroA, 0, false)) := hide (getA_no fun q hq => by have := HAll.out q hq; subst this; rw [hq.1] at hr; cases hr)
    rw [hP] at Y3 ⊢
    clear hP hr
    go_wp2
    refine bodyPost_ret (results_getA _ w.heap.size _ _ _ _ _ _ rfl rfl rfl (set3_heapR Z3.out _ _ _)) rfl ?_
    rw [HG.out]
    exact ⟨GotA.bad _ _, set3_below C3.out (Nat.le_refl _) _ _ _⟩
  · have hne : putA r ≠ [] := putA_ne hr
    have hpl : 0 < (putA r).length := List.length_pos_iff.2 hne
    have HHp := hide (Tryd.bytes_HasPrefix_all (some ⟨b, o, none⟩) (some ⟨g, 0, none⟩) l.length cap (putA r).length kc (numsOf l) (numsOf (putA r)) w3 (numsOf_length _) (numsOf_length _) hlc (bytesIn_of (HH.out.below C3.out (Nat.le_refl _))) (bytesIn_of Y3.out))
    rw [numsOf_bytes, numsOf_bytes] at HHp
    have HYes : Hid ((putA r).isPrefixOf l = true → getA l = (r, (putA r).length, true)) := hide (fun hp => getA_yes (respAt_pre hr hp))
    have HNo : Hid ((putA r).isPrefixOf l = false → getA l = (zeroA, 0, false)) := hide (fun hp => getA_no fun q hq => by
      have := HAll.out q hq
      subst this
      obtain ⟨_, z, hz⟩ := hq
      have : (putA r).isPrefixOf l = true := by rw [List.isPrefixOf_iff_prefix, hz]; exact List.prefix_append _ _
      rw [this] at hp
      cases hp)
    obtain ⟨P, hP⟩ : ∃ P, putA r = P := ⟨_, rfl⟩
    rw [hP] at HHp HYes HNo Y3 hpl
    rw [hP]
    unfold Lib.hasPrefix at HHp
    have hp0 : ((P.length : Int) == 0) = false := by rw [beq_eq_false_iff_ne]; omega
    have hp1 : ¬ (P.length : Int) = 0 := by omega
    clear hP hne hr
    cases hpre : P.isPrefixOf l
    · rw [hpre] at HHp
      have HG := hide (HNo.out hpre)
      clear hpre HYes HNo
      go_wp2_with fail
      refine HHp.out.mono ?_
      rintro e w4 ⟨rfl, hw4⟩
      obtain rfl := hw4.symm
      go_wp2
      refine bodyPost_ret (results_getA _ w.heap.size _ _ _ _ _ _ rfl rfl rfl (set3_heapR Z3.out _ _ _)) rfl ?_
      rw [HG.out]
      exact ⟨GotA.bad _ _, set3_below C3.out (Nat.le_refl _) _ _ _⟩
    · rw [hpre] at HHp
      have HG := hide (HYes.out hpre)
      clear hpre HYes HNo
      go_wp2_with fail
      refine HHp.out.mono ?_
      rintro e w4 ⟨rfl, hw4⟩
      obtain rfl := hw4.symm
      go_wp2
      refine bodyPost_ret (results_getA _ w.heap.size _ _ _ _ _ _ rfl rfl rfl (set3_heapR Z3.out _ _ _)) rfl ?_
      rw [HG.out]
      refine ⟨⟨_, rfl, ?_⟩, set3_below C3.out (Nat.le_refl _) _ _ _⟩
      refine RowsH.base (B := w0.heap.size) ?_ (Nat.le_of_lt s0)
      exact ownsRow_setCell_below (ownsRow_setCell_below (ownsRow_setCell_below R3.out (by show w.heap.size < _; exact s0) _) (by show w.heap.size < _; exact s0) _) (by show w.heap.size < _; exact s0) _
end Go.Proofs.YtkhnkockdfmkgaaDoor
