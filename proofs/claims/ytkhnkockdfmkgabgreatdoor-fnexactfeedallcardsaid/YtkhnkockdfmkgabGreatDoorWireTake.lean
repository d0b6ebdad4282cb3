/-
  What an open wire does: one request is taken of its bytes.
-/
import Derived.Test.YtkhnkockdfmkgabGreatDoorWires
namespace Go.Proofs.YtkhnkockdfmkgabGreatDoor
open Go.RowKit M
set_option linter.unusedVariables false

theorem results_take (tmps : Array Value) (N : Nat) (W : World) (v0 v1 v2 v3 : Value) (x : Int) (h2 : tmps.getD 2 undef = .pointer (some ⟨N, 0, none⟩)) (h3 : tmps.getD 3 undef = .int .i64 x) (hg : W.heap[N]? = some (Obj.cells #[v0, v1, v2, v3] 47)) :
    (results Tryz.f48 tmps).run Tryz.prog W = .ok (.tuple #[.agg #[v0, v1, v2, v3], .int .i64 x]) W := by
  have hl := run_loadVar_row (P := Tryz.prog) W N 47 47 #[v0, v1, v2, v3] (0, 0) _ hg Tryz.underlying47 rfl req_desc
  simp at h2 h3
  simp [results, Tryz.results48, h2, h3, asAddr, hl]

/-- An open wire, part by part. -/
structure WireEx (w : World) (N B : Nat) (uv : Value) (l : List UInt8) (bad : Int) (rv : Value) (qs : List Rv) : Prop where
  box : w.heap[N]? = some (Obj.cells #[uv, .int .i64 bad, rv] 68)
  buf : OwnO w B uv l
  row : RowsQ w B rv qs
  apart : ∀ g, uv.ownBlock = some g → rv.ownBlock ≠ some g ∧ ∀ q ∈ qs, q.2.ownBlock ≠ some g
  sep : SepN N uv rv qs
theorem WireEx.st {w : World} {N B : Nat} {uv rv : Value} {l : List UInt8} {bad : Int} {qs : List Rv} (h : WireEx w N B uv l bad rv qs) : WireSt w N B l bad (qs.map Prod.fst) := ⟨uv, rv, qs, h.box, h.buf, h.row, rfl, h.apart, h.sep⟩
theorem WireSt.ex {w : World} {N B : Nat} {l : List UInt8} {bad : Int} {rs : List Rq} (h : WireSt w N B l bad rs) : ∃ uv rv qs, WireEx w N B uv l bad rv qs ∧ qs.map Prod.fst = rs := by
  obtain ⟨uv, rv, qs, h1, h2, h3, h4, h5, h6⟩ := h
  exact ⟨uv, rv, qs, ⟨h1, h2, h3, h5, h6⟩, h4⟩
theorem WireEx.lt {w : World} {N B : Nat} {uv rv : Value} {l : List UInt8} {bad : Int} {qs : List Rv} (h : WireEx w N B uv l bad rv qs) : N < w.heap.size := (Array.getElem?_eq_some_iff.1 h.box).1

/-- What was there stays, but for the box. -/
def KeepN (N : Nat) (w w' : World) : Prop := ∀ k, k < w.heap.size → k ≠ N → w'.heap[k]? = w.heap[k]?
theorem WireEx.kept {w w' : World} {N B : Nat} {uv uv' rv : Value} {l l' : List UInt8} {bad bad' : Int} {qs : List Rv} (h : WireEx w N B uv l bad rv qs) (hk : KeepN N w w') (hb : w'.heap[N]? = some (Obj.cells #[uv', .int .i64 bad', rv] 68)) (ho : OwnO w B uv' l') (hv : ∀ g, uv'.ownBlock = some g → uv.ownBlock = some g) : WireEx w' N B uv' l' bad' rv qs :=
  ⟨hb, ho.of (fun g hg => hk g (ho.lt g hg).2 (fun e => h.sep.u (by rw [hv g hg, e]))), h.row.of (fun g hg => hk g (h.row.lt g hg).2 (h.sep.row g hg)), fun g hg => h.apart g (hv g hg), ⟨fun e => h.sep.u (hv _ e), h.sep.r, h.sep.q⟩⟩

set_option maxRecDepth 100000 in
set_option maxHeartbeats 4000000 in
theorem take_any (N B : Nat) (w : World) (uv rv : Value) (l : List UInt8) (bad : Int) (qs : List Rv) (mx : Int) (h : WireEx w N B uv l bad rv qs) (hBN : B ≤ N) (hl : l.length ≤ 4194304) (h0 : 0 < w.heap.size) (hmx : w.cell? ⟨0, 0, none⟩ = some (.int .i64 mx)) :
    Calls Tryz.prog 48 #[.pointer (some ⟨N, 0, none⟩)] w fun e w' => (∃ hv, e = .returned (.tuple #[.agg #[.string (getR l).1.m, .string (getR l).1.p, hv, .string (getR l).1.b], .int .i64 (getR l).2.2]) ∧ RowsH w' w.heap.size hv (getR l).1.hs) ∧ (∃ uv', WireEx w' N B uv' (l.drop (getR l).2.1) bad rv qs ∧ ∀ g, uv'.ownBlock = some g → uv.ownBlock = some g) ∧ Below B w w' := by
  obtain ⟨w0, hw0⟩ : ∃ w0, w.alloc (Obj.cells #[.string ⟨#[]⟩, .string ⟨#[]⟩, .slice none 0 0, .string ⟨#[]⟩] 47) = w0 := ⟨_, rfl⟩
  have c0 : Below w.heap.size w w0 := by rw [← hw0]; exact (Below.refl _ _).alloc (Nat.le_refl _) _
  have z0 : ZeroB w.heap.size w0 := by rw [← hw0]; exact heap_alloc_new w _
  have s0 : w0.heap.size = w.heap.size + 1 := by rw [← hw0]; simp
  have hN := h.lt
  have b0 := (c0.block N hN).trans h.box
  obtain ⟨x0, x1, x2, f0, f1, f2⟩ := box3 b0
  have o0 := h.buf.next c0
  have HG := hide (getReq_own B uv l mx w0 o0 hl (Nat.lt_of_lt_of_le h0 c0.size) ((c0.cell (p := ⟨0, 0, none⟩) h0).trans hmx))
  have hn : (getR l).2.1 ≤ l.length := by
    by_cases hc : (getR l).2.2 = 0
    · exact (getR_ok hc).2
    · rw [(getR_bad hc).2]; exact Nat.zero_le _
  obtain ⟨R, n, C, hR⟩ : ∃ R n C, getR l = (R, n, C) := ⟨_, _, _, rfl⟩
  rw [hR] at HG hn ⊢
  obtain ⟨au, cu, hu, hlc, hcm, hnil, hsp, hyt⟩ := h.buf.slice
  unfold maxLen at hcm
  subst hu
  have hn' : n ≤ l.length := hn
  have hni : (n : Int) ≤ (l.length : Int) := by omega
  have hnc : (n : Int) ≤ (cu : Int) := by omega
  have hlci : (l.length : Int) ≤ (cu : Int) := by omega
  have H := hide h
  have C0 := hide c0
  have Z0 := hide z0
  have HNil := hide hnil
  have HSp := hide hsp
  clear h c0 z0 o0 hmx x1 x2 f1 f2 b0 hR hn hnil hsp hyt f0
  go_enter Tryz.func48, Tryz.ntmps48
  go_wp2_with fail
  try rw [hw0]
  refine HG.out.mono ?_
  rintro e w1 ⟨⟨hv, rfl, hrow⟩, b1⟩
  obtain ⟨ah, ch, rfl, hd⟩ := RowsH.hds hrow
  have HRow := hide hrow
  obtain ⟨w2, hw2⟩ : ∃ w2, w1.alloc (Obj.cells #[.string R.m, .string R.p, .slice ah R.hs.length ch, .string R.b] 47) = w2 := ⟨_, rfl⟩
  have b2 : Below w1.heap.size w1 w2 := by rw [← hw2]; exact (Below.refl _ _).alloc (Nat.le_refl _) _
  have r2 : w2.heap[w1.heap.size]? = some (Obj.cells #[.string R.m, .string R.p, .slice ah R.hs.length ch, .string R.b] 47) := by rw [← hw2]; exact heap_alloc_new w1 _
  have s2 : w2.heap.size = w1.heap.size + 1 := by rw [← hw2]; simp
  have hs1 := b1.size
  have c2 : Below w.heap.size w w2 := C0.out.trans ((b1.trans (b2.mono b1.size)).mono C0.out.size)
  have z2 : ZeroB w.heap.size w2 := (Z0.out.next b1).next b2
  have hb2 := (c2.block N hN).trans H.out.box
  obtain ⟨y0, y1, y2, e0, e1, e2⟩ := box3 hb2
  have hr2 := ownsH_below HRow.out b2
  have HR2 := hide hr2
  have C2 := hide c2
  have Z2 := hide z2
  have B2 := hide hb2
  have R2 := hide r2
  have hM1 : w.heap.size < w1.heap.size := by omega
  have fin : ∀ (uv' : Value), OwnO w B uv' (l.drop n) → (∀ g, uv'.ownBlock = some g → (Value.slice au l.length cu).ownBlock = some g) → ∀ (v0 v1 v2 v3 : Value), 
      RowsH (((((w2.setCell ⟨N, 0, none⟩ uv').setCell ⟨w.heap.size, 0, none⟩ v0).setCell ⟨w.heap.size, 1, none⟩ v1).setCell ⟨w.heap.size, 2, none⟩ v2).setCell ⟨w.heap.size, 3, none⟩ v3) w.heap.size (.slice ah R.hs.length ch) R.hs ∧ WireEx (((((w2.setCell ⟨N, 0, none⟩ uv').setCell ⟨w.heap.size, 0, none⟩ v0).setCell ⟨w.heap.size, 1, none⟩ v1).setCell ⟨w.heap.size, 2, none⟩ v2).setCell ⟨w.heap.size, 3, none⟩ v3) N B uv' (l.drop n) bad rv qs ∧ Below B w (((((w2.setCell ⟨N, 0, none⟩ uv').setCell ⟨w.heap.size, 0, none⟩ v0).setCell ⟨w.heap.size, 1, none⟩ v1).setCell ⟨w.heap.size, 2, none⟩ v2).setCell ⟨w.heap.size, 3, none⟩ v3) := by
    intro uv' ho hv v0 v1 v2 v3
    have hlo : w.heap.size < w0.heap.size := by omega
    refine ⟨?_, ?_, ?_⟩
    · refine RowsH.base (B := w0.heap.size) ?_ (Nat.le_of_lt hlo)
      exact ownsRow_setCell_below (ownsRow_setCell_below (ownsRow_setCell_below (ownsRow_setCell_below (ownsRow_setCell_below HR2.out (by show N < _; omega) _) (by show w.heap.size < _; exact hlo) _) (by show w.heap.size < _; exact hlo) _) (by show w.heap.size < _; exact hlo) _) (by show w.heap.size < _; exact hlo) _
    · have hne : N ≠ w.heap.size := by omega
      refine H.out.kept (fun k hk hkN => ?_) (set_other (set_other (set_other (set_other (set_heap B2.out 0 uv') hne _) hne _) hne _) hne _) ho hv
      have hkM : k ≠ w.heap.size := by omega
      rw [Below.heap_setCell _ _ _ _ hkM, Below.heap_setCell _ _ _ _ hkM, Below.heap_setCell _ _ _ _ hkM, Below.heap_setCell _ _ _ _ hkM, Below.heap_setCell _ _ _ _ hkN]
      exact C2.out.block k hk
    · exact set4_below ((C2.out.mono (by omega)).setCell (p := ⟨N, 0, none⟩) hBN uv') (by omega) v0 v1 v2 v3
  have Fin := hide fin
  clear hrow hd b2 r2 c2 z2 hb2 hr2 y1 y2 e1 e2 b1 HG x0 fin
  cases au with
  | none =>
    obtain ⟨hl0, hc0⟩ := HNil.out rfl
    subst hl0
    subst hc0
    have hn0 : n = 0 := by simpa using hn'
    subst hn0
    obtain ⟨w3, hw3⟩ : ∃ w3, w2.setCell ⟨N, 0, none⟩ (.slice none 0 0) = w3 := ⟨_, rfl⟩
    have z3 : ZeroB w.heap.size w3 := by rw [← hw3]; exact set_other Z2.out (by omega) _
    have r3 : w3.heap[w1.heap.size]? = some (Obj.cells #[.string R.m, .string R.p, .slice ah R.hs.length ch, .string R.b] 47) := by rw [← hw3]; exact set_other R2.out (by omega) _
    obtain ⟨p0, p1, p2, p3, q0, q1, q2, q3⟩ := ReqB.cells r3
    obtain ⟨g0, g1, g2, g3, j0, j1, j2, j3⟩ := z3.cells
    have Z3 := hide z3
    have FF := hide (Fin.out (.slice none 0 0) H.out.buf (fun g hg => hg))
    rw [hw3] at FF
    clear z3 r3 q0 q1 q2 q3
    go_wp2
    refine bodyPost_ret (results_take _ w.heap.size _ _ _ _ _ _ rfl rfl (set4_heap Z3.out _ _ _ _)) rfl ?_
    obtain ⟨k1, k2, k3⟩ := FF.out (.string R.m) (.string R.p) (.slice ah R.hs.length ch) (.string R.b)
    exact ⟨⟨_, rfl, k1⟩, ⟨_, k2, fun g hg => hg⟩, k3⟩
  | some x =>
    obtain ⟨g, o, sp⟩ := x
    have hsp : sp = none := HSp.out _ rfl
    subst hsp
    obtain ⟨xv, hxv⟩ : ∃ xv, (if cu = n then some (⟨g, o, none⟩ : Addr) else some ⟨g, o + n, none⟩) = xv := ⟨_, rfl⟩
    have hdl : (l.drop n).length = l.length - n := List.length_drop
    have od := H.out.buf.drop hn'
    rw [hxv, hdl] at od
    have odv : ∀ k, (Value.slice xv (l.length - n) (cu - n)).ownBlock = some k → (Value.slice (some ⟨g, o, none⟩) l.length cu).ownBlock = some k := by
      intro k hk
      rw [← hxv] at hk
      split at hk <;> exact hk
    obtain ⟨w3, hw3⟩ : ∃ w3, w2.setCell ⟨N, 0, none⟩ (.slice xv (l.length - n) (cu - n)) = w3 := ⟨_, rfl⟩
    have z3 : ZeroB w.heap.size w3 := by rw [← hw3]; exact set_other Z2.out (by omega) _
    have r3 : w3.heap[w1.heap.size]? = some (Obj.cells #[.string R.m, .string R.p, .slice ah R.hs.length ch, .string R.b] 47) := by rw [← hw3]; exact set_other R2.out (by omega) _
    obtain ⟨p0, p1, p2, p3, q0, q1, q2, q3⟩ := ReqB.cells r3
    obtain ⟨g0, g1, g2, g3, j0, j1, j2, j3⟩ := z3.cells
    have Z3 := hide z3
    have FF := hide (Fin.out (.slice xv (l.length - n) (cu - n)) od odv)
    have OV := hide odv
    rw [hw3] at FF
    clear z3 r3 q0 q1 q2 q3 od odv
    go_wp2
    refine bodyPost_ret (results_take _ w.heap.size _ _ _ _ _ _ rfl rfl (set4_heap Z3.out _ _ _ _)) rfl ?_
    obtain ⟨k1, k2, k3⟩ := FF.out (.string R.m) (.string R.p) (.slice ah R.hs.length ch) (.string R.b)
    exact ⟨⟨_, rfl, k1⟩, ⟨_, k2, OV.out⟩, k3⟩

set_option maxHeartbeats 400000 in
theorem drop_any (N B : Nat) (w : World) (uv rv : Value) (l : List UInt8) (bad : Int) (qs : List Rv) (h : WireEx w N B uv l bad rv qs) (hBN : B ≤ N) :
    Calls Tryz.prog 49 #[.pointer (some ⟨N, 0, none⟩)] w fun e w' => (∃ v, e = .returned v) ∧ WireEx w' N B (.slice none 0 0) [] bad rv qs ∧ Below B w w' := by
  obtain ⟨x0, x1, x2, f0, f1, f2⟩ := box3 h.box
  have HZ : Hid (WireEx (w.setCell ⟨N, 0, none⟩ (.slice none 0 0)) N B (.slice none 0 0) [] bad rv qs ∧ Below B w (w.setCell ⟨N, 0, none⟩ (.slice none 0 0))) :=
    ⟨h.kept (fun k hk hkN => Below.heap_setCell _ _ _ _ hkN) (set_heap h.box 0 _) (OwnO.nil _ _) (fun g hg => by cases hg), (Below.refl B w).setCell (p := ⟨N, 0, none⟩) hBN _⟩
  clear h x1 x2 f1 f2
  go_enter Tryz.func49, Tryz.ntmps49
  go_wp2
  go_end0
  exact ⟨⟨_, rfl⟩, HZ.out⟩
end Go.Proofs.YtkhnkockdfmkgabGreatDoor
