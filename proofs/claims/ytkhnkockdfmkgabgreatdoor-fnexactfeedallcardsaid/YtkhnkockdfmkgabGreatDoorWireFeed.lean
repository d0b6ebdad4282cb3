/-
  What Feed and FeedAll do.
-/
import Derived.Test.YtkhnkockdfmkgabGreatDoorWireRead
import Derived.Test.YtkhnkockdfmkgabGreatDoorBytss
import Derived.Lib.SliceRun
namespace Go.Proofs.YtkhnkockdfmkgabGreatDoor
open Go.RowKit M
set_option linter.unusedVariables false

set_option maxHeartbeats 1000000 in
theorem feed_any (N B : Nat) (w : World) (l m : List UInt8) (bad : Int) (rs : List Rq) (mx : Int) (a : Option Addr) (c : Nat) (h : WireSt w N B l bad rs) (hBN : B ≤ N) (hy : Byt w B a m) (hs : l.length + m.length ≤ 4194304) (hr : rs.length + (l.length + m.length) ≤ 100000000) (h0 : 0 < B) (hmx : w.cell? ⟨0, 0, none⟩ = some (.int .i64 mx)) :
    Calls Tryz.prog 27 #[.pointer (some ⟨N, 0, none⟩), .slice a m.length c] w fun e w' => (∃ v, e = .returned v) ∧ WireSt w' N B (feedM l bad m).2.1 (feedM l bad m).2.2 (rs ++ (feedM l bad m).1) ∧ Below B w w' := by
  obtain ⟨uv, rv, qs, hE, hqs⟩ := h.ex
  obtain ⟨x0, x1, x2, f0, f1, f2⟩ := box3 hE.box
  clear x0 x2 f0 f1 f2 hE hqs
  by_cases hb : bad = 0
  · subst hb
    have HA := hide (add_any N B w l m 0 rs a c B h hBN hy hs)
    have HM := hide (fun (W : World) (hb : Below B w W) => (hb.cell (p := ⟨0, 0, none⟩) h0).trans hmx)
    have HF := hide (feedM_good l m)
    have hlen : (l ++ m).length = l.length + m.length := List.length_append
    clear h hy hmx
    go_enter Tryz.func27, Tryz.ntmps27
    go_wp2_with fail
    refine HA.out.mono ?_
    rintro e w1 ⟨⟨v, rfl⟩, s1, b1⟩
    have HR := hide (read_any N B w1 (l ++ m) rs mx s1 hBN (by omega) (by omega) h0 (HM.out w1 b1))
    have B1 := hide b1
    clear s1 b1 HA x1
    go_wp2_with fail
    refine HR.out.mono ?_
    rintro e w2 ⟨⟨v2, rfl⟩, s2, b2⟩
    have HZ : Hid (WireSt w2 N B (feedM l 0 m).2.1 (feedM l 0 m).2.2 (rs ++ (feedM l 0 m).1) ∧ Below B w w2) := by
      rw [HF.out]
      exact ⟨s2, B1.out.trans b2⟩
    clear s2 b2 HR
    go_wp2
    go_end0
    exact ⟨⟨_, rfl⟩, HZ.out⟩
  · have hbb : (bad != 0) = true := by simpa using hb
    have HZ : Hid (WireSt w N B (feedM l bad m).2.1 (feedM l bad m).2.2 (rs ++ (feedM l bad m).1)) := by
      rw [feedM_bad hb, List.append_nil]
      exact h
    clear h hb hy hmx
    go_enter Tryz.func27, Tryz.ntmps27
    go_wp2
    refine bodyPost_ret (results_none rfl _ _ _) rfl ?_
    exact ⟨⟨_, rfl⟩, HZ.out, Below.refl _ _⟩

set_option maxHeartbeats 1000000 in
theorem opened_any (w : World) (m : List UInt8) (bad : Int) (a : Option Addr) (c : Nat) (hy : Byt w w.heap.size a m) (hs : m.length ≤ 4194304) :
    Calls Tryz.prog 26 #[.agg #[.slice a m.length c, .int .i64 bad]] w fun e w' => (∃ N, e = .returned (.pointer (some ⟨N, 0, none⟩)) ∧ w.heap.size + 1 ≤ N ∧ WireSt w' N (w.heap.size + 1) m bad []) ∧ Below w.heap.size w w' := by
  obtain ⟨wz, hwz⟩ : ∃ wz, ((w.alloc (Obj.cells #[.slice a m.length c, .int .i64 bad] 26)).alloc (Obj.cells #[] 47)).alloc (Obj.cells #[.slice none 0 0, .int .i64 bad, .slice (some ⟨w.heap.size + 1, 0, none⟩) 0 0] 68) = wz := ⟨_, rfl⟩
  have b1 : Below w.heap.size w (w.alloc (Obj.cells #[.slice a m.length c, .int .i64 bad] 26)) := (Below.refl _ _).alloc (Nat.le_refl _) _
  have b2 : Below w.heap.size w ((w.alloc (Obj.cells #[.slice a m.length c, .int .i64 bad] 26)).alloc (Obj.cells #[] 47)) := b1.alloc (by simp) _
  have b3 : Below w.heap.size w wz := by rw [← hwz]; exact b2.alloc (by simp; omega) _
  have s3 : wz.heap.size = w.heap.size + 3 := by rw [← hwz]; simp
  have n0 : (w.alloc (Obj.cells #[.slice a m.length c, .int .i64 bad] 26)).heap.size = w.heap.size + 1 := by simp
  have n1 : ((w.alloc (Obj.cells #[.slice a m.length c, .int .i64 bad] 26)).alloc (Obj.cells #[] 47)).heap.size = w.heap.size + 2 := by simp
  have h0 : wz.heap[w.heap.size]? = some (Obj.cells #[.slice a m.length c, .int .i64 bad] 26) := by
    rw [← hwz, Below.heap_alloc _ _ _ (by rw [n1]; omega), Below.heap_alloc _ _ _ (by rw [n0]; omega)]
    exact heap_alloc_new w _
  have h1 : wz.heap[w.heap.size + 1]? = some (Obj.cells #[] 47) := by
    rw [← hwz, Below.heap_alloc _ _ _ (by rw [n1]; omega)]
    have := heap_alloc_new (w.alloc (Obj.cells #[.slice a m.length c, .int .i64 bad] 26)) (Obj.cells #[] 47)
    rwa [n0] at this
  have h2 : wz.heap[w.heap.size + 2]? = some (Obj.cells #[.slice none 0 0, .int .i64 bad, .slice (some ⟨w.heap.size + 1, 0, none⟩) 0 0] 68) := by
    have := heap_alloc_new ((w.alloc (Obj.cells #[.slice a m.length c, .int .i64 bad] 26)).alloc (Obj.cells #[] 47)) (Obj.cells #[.slice none 0 0, .int .i64 bad, .slice (some ⟨w.heap.size + 1, 0, none⟩) 0 0] 68)
    rw [n1] at this
    rw [← hwz]; exact this
  have st : WireSt wz.drew (w.heap.size + 2) (w.heap.size + 1) [] bad [] := ⟨_, _, [], h2, OwnO.nil _ _, RowsQ.bare (w := wz.drew) h1 (Nat.le_refl _), rfl, (fun g hg => by cases hg), ⟨(fun e => by cases e), (fun e => by have := Option.some.inj e; simp at this), (fun q hq => by cases hq)⟩⟩
  have HA := hide (add_any (w.heap.size + 2) (w.heap.size + 1) wz.drew [] m bad [] a c w.heap.size st (by omega) (hy.below (b3.drew) (Nat.le_refl _)) (by simpa using hs))
  have hc0 : wz.cell? ⟨w.heap.size, 0, none⟩ = some (.slice a m.length c) := by unfold World.cell?; rw [h0]; rfl
  have B3 := hide b3
  clear b1 b2 b3 s3 n0 n1 h0 h1 h2 st hy
  go_enter Tryz.func26, Tryz.ntmps26
  go_wp2_with fail
  try rw [hwz]
  go_region_held3 (fun W => W.cell? ⟨w.heap.size, 0, none⟩ = some (.slice a m.length c)) (first | exact hc0 | exact (b1.cell (p := ⟨w.heap.size, 0, none⟩) (Nat.lt_succ_self _)).trans hc0) ((go_at_call 37; refine HA.out.mono ?_; rintro e w1 ⟨⟨v, rfl⟩, s1, b1⟩))
  have HZ : Hid (WireSt w1 (w.heap.size + 2) (w.heap.size + 1) m bad [] ∧ Below w.heap.size w w1) := ⟨s1, B3.out.drew.trans (b1.mono (Nat.le_succ _))⟩
  clear s1 b1 HA B3
  go_wp2
  go_ret
  exact ⟨⟨_, rfl, Nat.le_succ _, HZ.out.1⟩, HZ.out.2⟩

set_option maxRecDepth 100000 in
set_option maxHeartbeats 1000000 in
/-- bytes.Clone of bytes of the call's own. -/
theorem cloneY_any (B : Nat) (v : Value) (l : List UInt8) (w : World) (h : OwnO w B v l) (hl : l.length ≤ 4194304) :
    Calls Tryz.prog 50 #[v] w fun e w' => (∃ v', e = .returned v' ∧ FreshY w' w.heap.size v' l) ∧ Below w.heap.size w w' := by
  have q22 : ∀ (w : World) (a : Option Addr) (n c n' c' : Nat), (binOp .eql 22 (.slice a n c) (.slice none n' c')).run Tryz.prog w = .ok (.bool a.isNone) w := fun w a n c n' c' => Lib.run_eql_slice_nil w _ _ a n c n' c' Tryz.underlying22
  obtain ⟨a, c, rfl, h1, h2, h3, h4, h5⟩ := h.slice
  cases a with
  | none =>
    obtain ⟨rfl, rfl⟩ := h3 rfl
    clear h h1 h2 h3 h4 h5 hl
    go_enter Tryz.func50, Tryz.ntmps50
    go_wp2
    go_ret
    exact ⟨⟨_, rfl, FreshY.nul _ _⟩, Below.refl _ _⟩
  | some x =>
    obtain ⟨g, o, sp⟩ := x
    obtain rfl : sp = none := h4 _ rfl
    have b0 : Below w.heap.size w (w.alloc (Obj.cells #[] 5)) := (Below.refl _ _).alloc (Nat.le_refl _) _
    have HY := hide (h5.below b0 (Nat.le_refl _))
    have B0 := hide b0
    clear h h1 h2 h3 h4 h5 b0
    go_enter Tryz.func50, Tryz.ntmps50
    go_wp2_with (at_builtin; refine wp_append_any rfl _ _ rfl w.heap.size _ [] rfl (OwnY.bare w) (some ⟨g, o, none⟩) l c w.heap.size rfl HY.out (by simp; omega) (by simp) ?_)
    intro v' w1 o1 g1 _
    have o1' : OwnY w1 w.heap.size v' l := o1
    have HF := hide o1'.fresh
    have HB := hide (B0.out.grown g1 (by simp) (fun k hk => by cases hk; exact Nat.le_refl _))
    clear o1 o1' g1
    go_wp2
    go_ret
    exact ⟨⟨_, rfl, HF.out⟩, HB.out⟩
set_option maxHeartbeats 400000 in
theorem left_any (N B : Nat) (w : World) (uv rv : Value) (l : List UInt8) (bad : Int) (qs : List Rv) (h : WireEx w N B uv l bad rv qs) (hl : l.length ≤ 4194304) :
    Calls Tryz.prog 39 #[.pointer (some ⟨N, 0, none⟩)] w fun e w' => (∃ v', e = .returned v' ∧ FreshY w' w.heap.size v' l) ∧ Below w.heap.size w w' := by
  obtain ⟨x0, _, _, _, _, _⟩ := box3 h.box
  have HC := hide (cloneY_any B uv l w h.buf hl)
  obtain ⟨a, c, rfl, _⟩ := h.buf.slice
  clear h
  go_enter Tryz.func39, Tryz.ntmps39
  go_wp2_with fail
  refine HC.out.mono ?_
  rintro e w1 ⟨⟨v, rfl, h1⟩, b1⟩
  have H1 := hide h1
  clear h1 HC
  go_wp2
  go_ret
  exact ⟨⟨_, rfl, H1.out⟩, b1⟩

theorem FreshY.base {w : World} {B C : Nat} {v : Value} {l : List UInt8} (h : FreshY w B v l) (hC : C ≤ B) : FreshY w C v l := by
  obtain ⟨a, c, rfl, h1, h2, h3, h4⟩ := h
  refine ⟨a, c, rfl, h1, h2, fun h0 => ?_, h4⟩
  obtain ⟨g, e, hB, hr⟩ := h3 h0
  exact ⟨g, e, Nat.le_trans hC hB, hr⟩
/-- What Feed hands back: a wire, and requests. -/
def FedIs (w : World) (B : Nat) (d : List Rq × List UInt8 × Int) (e : Ending) : Prop :=
  ∃ bv qv qs, e = .returned (.tuple #[.agg #[bv, .int .i64 d.2.2], qv]) ∧ FreshY w B bv d.2.1 ∧ RowsQ w B qv qs ∧ qs.map Prod.fst = d.1 ∧ (∀ g, 0 < d.2.1.length → bv.ownBlock = some g → qv.ownBlock ≠ some g ∧ ∀ q ∈ qs, q.2.ownBlock ≠ some g)
theorem results_closed (tmps : Array Value) (N : Nat) (W : World) (v0 v1 x : Value) (h2 : tmps.getD 2 undef = .pointer (some ⟨N, 0, none⟩)) (h3 : tmps.getD 3 undef = x) (hg : W.heap[N]? = some (Obj.cells #[v0, v1] 26)) :
    (results Tryz.f28 tmps).run Tryz.prog W = .ok (.tuple #[.agg #[v0, v1], x]) W := by
  have hl := run_loadVar_row (P := Tryz.prog) W N 26 26 #[v0, v1] (0, 0) _ hg Tryz.underlying26 rfl (by kernel_rfl)
  simp at h2 h3
  simp [results, Tryz.results28, h2, h3, asAddr, hl]
set_option maxRecDepth 100000 in
set_option maxHeartbeats 2000000 in
theorem closed_any (N B : Nat) (w : World) (l : List UInt8) (bad : Int) (rs : List Rq) (h : WireSt w N B l bad rs) (hBN : B ≤ N) (hl : l.length ≤ 4194304) :
    Calls Tryz.prog 28 #[.pointer (some ⟨N, 0, none⟩)] w fun e w' => FedIs w' B (rs, l, bad) e ∧ Below w.heap.size w w' := by
  obtain ⟨uv, rv, qs, hE, hqs⟩ := h.ex
  obtain ⟨w0, hw0⟩ : ∃ w0, w.alloc (Obj.cells #[.slice none 0 0, .int .i64 0] 26) = w0 := ⟨_, rfl⟩
  have c0 : Below w.heap.size w w0 := by rw [← hw0]; exact (Below.refl _ _).alloc (Nat.le_refl _) _
  have z0 : w0.heap[w.heap.size]? = some (Obj.cells #[.slice none 0 0, .int .i64 0] 26) := by rw [← hw0]; exact heap_alloc_new w _
  have s0 : w.heap.size < w0.heap.size := by rw [← hw0]; simp
  have hN := hE.lt
  have hMN : w.heap.size ≠ N := by omega
  have E0 := hE.next c0
  obtain ⟨au, cu, hu, _⟩ := hE.buf.slice
  obtain ⟨ar, cr, hv, _⟩ := hE.row.rqs
  subst hu
  subst hv
  subst hqs
  have E0d : WireEx w0.drew N B (.slice au l.length cu) l bad (.slice ar qs.length cr) qs := E0.next (Below.refl _ _).drew
  have HL := hide (left_any N B w0.drew _ _ l bad qs E0d hl)
  obtain ⟨x0, x1, x2, _, _, _⟩ := box3 E0.box
  have HE := hide E0
  have HLt := hide (fun g hg => (hE.row.lt g hg).2)
  have C0 := hide c0
  have Z0 := hide z0
  clear h hE E0 E0d c0 z0
  go_enter Tryz.func28, Tryz.ntmps28
  go_wp2_with fail
  try rw [hw0]
  go_region_held3 (fun W => W.cell? ⟨N, 1, none⟩ = some (.int .i64 bad) ∧ W.cell? ⟨N, 2, none⟩ = some (.slice ar qs.length cr)) (first | exact ⟨x1, x2⟩ | exact ⟨y1, y2⟩ | exact ⟨(World.cell?_setCell_other _ _ _ _ (fun e => hMN (congrArg Addr.block e))).trans ((World.cell?_setCell_other _ _ _ _ (fun e => hMN (congrArg Addr.block e))).trans y1), (World.cell?_setCell_other _ _ _ _ (fun e => hMN (congrArg Addr.block e))).trans ((World.cell?_setCell_other _ _ _ _ (fun e => hMN (congrArg Addr.block e))).trans y2)⟩) ((go_at_call 39; refine HL.out.mono ?_; rintro e w1 ⟨⟨v, rfl, ⟨av, cv, rfl, q1, q2, q3, q4⟩⟩, bq⟩; have y1 := (bq.cell (p := ⟨N, 1, none⟩) (show N < w0.heap.size by omega)).trans x1; have y2 := (bq.cell (p := ⟨N, 2, none⟩) (show N < w0.heap.size by omega)).trans x2; have z1 := (bq.block _ s0).trans Z0.out; obtain ⟨m0, m1, n0, n1⟩ := cells2 z1))
  all_goals
    have hz1 : w0.heap.size ≤ w1.heap.size := bq.size
    have F1 : FreshY w1 w0.heap.size (.slice av l.length cv) l := ⟨_, _, rfl, q1, q2, q3, q4⟩
    have R1 : RowsQ w1 B (.slice ar qs.length cr) qs := (HE.out.row.next (Below.refl _ _).drew).next bq
    have hb1 : Below w.heap.size w w1 := (C0.out.drew).trans (bq.mono (Nat.le_of_lt s0))
    have keep : ∀ v0 v1, ∀ k, k ≠ w.heap.size → ((w1.setCell ⟨w.heap.size, 0, none⟩ v0).setCell ⟨w.heap.size, 1, none⟩ v1).heap[k]? = w1.heap[k]? := fun v0 v1 k hk => by
      rw [Below.heap_setCell _ _ _ _ hk, Below.heap_setCell _ _ _ _ hk]
    have HZ : Hid (∀ v0 v1, FreshY ((w1.setCell ⟨w.heap.size, 0, none⟩ v0).setCell ⟨w.heap.size, 1, none⟩ v1) B (.slice av l.length cv) l ∧ RowsQ ((w1.setCell ⟨w.heap.size, 0, none⟩ v0).setCell ⟨w.heap.size, 1, none⟩ v1) B (.slice ar qs.length cr) qs ∧ Below w.heap.size w ((w1.setCell ⟨w.heap.size, 0, none⟩ v0).setCell ⟨w.heap.size, 1, none⟩ v1)) := by
      intro v0 v1
      refine ⟨?_, ?_, ?_⟩
      · refine FreshY.base (F1.same (by simp [World.setCell]) (fun k hk _ => keep v0 v1 k (by omega))) (by omega)
      · exact R1.of (fun g hg => keep v0 v1 g (by have := HLt.out g hg; omega))
      · exact (hb1.setCell (p := ⟨w.heap.size, 0, none⟩) (Nat.le_refl _) v0).setCell (p := ⟨w.heap.size, 1, none⟩) (Nat.le_refl _) v1
    have HP : Hid (∀ g, 0 < l.length → (Value.slice av l.length cv).ownBlock = some g → (Value.slice ar qs.length cr).ownBlock ≠ some g ∧ ∀ q ∈ qs, q.2.ownBlock ≠ some g) := by
      intro g h0 hg
      obtain ⟨g', e, hB', _⟩ := q3 h0
      subst e
      have e2 : g' = g := Option.some.inj hg
      subst e2
      have hg1 : w0.heap.size ≤ g' := hB'
      refine ⟨fun e => ?_, fun q hq e => ?_⟩
      · have := (HE.out.row.lt g' (.inl e)).2; omega
      · have := (HE.out.row.lt g' (.inr ⟨q, hq, e⟩)).2; omega
    have Z1 := hide z1
    clear q1 q2 q3 q4 F1 R1 hb1 keep bq hz1 HL
    go_wp2
    refine bodyPost_ret (results_closed _ w.heap.size _ _ _ _ rfl rfl (set2_heap Z1.out _ _)) rfl ?_
    obtain ⟨k1, k2, k3⟩ := HZ.out (.slice av l.length cv) (.int .i64 bad)
    exact ⟨⟨_, _, qs, rfl, k1, k2, rfl, HP.out⟩, k3⟩
end Go.Proofs.YtkhnkockdfmkgabGreatDoor
