/-
  What an open wire does: requests are read as long as there are any.
-/
import Derived.Test.YtkhnkockdfmkgabGreatDoorWireTake
import Derived.Test.YtkhnkockdfmkgabGreatDoorMathRound
import Derived.Deep.RegionLaw
namespace Go.Proofs.YtkhnkockdfmkgabGreatDoor
open Go.RowKit M
set_option linter.unusedVariables false

/-- How many bytes are not yet read. -/
def unreadLen (w : World) (N : Nat) : Nat := match w.cell? ⟨N, 0, none⟩ with | some (.slice _ n _) => n | _ => 0
theorem WireEx.unread {w : World} {N B : Nat} {uv rv : Value} {l : List UInt8} {bad : Int} {qs : List Rv} (h : WireEx w N B uv l bad rv qs) : unreadLen w N = l.length := by
  obtain ⟨a, c, rfl, _⟩ := h.buf.slice
  unfold unreadLen
  rw [(box3 h.box).1]
theorem WireEx.next {w w' : World} {N B : Nat} {uv rv : Value} {l : List UInt8} {bad : Int} {qs : List Rv} (h : WireEx w N B uv l bad rv qs) (hb : Below w.heap.size w w') : WireEx w' N B uv l bad rv qs :=
  ⟨(hb.block N h.lt).trans h.box, h.buf.next hb, h.row.next hb, h.apart, h.sep⟩
/-- One request more. -/
theorem WireEx.pushed {w w4 : World} {N B : Nat} {uv rv : Value} {l : List UInt8} {bad : Int} {qs : List Rv} {q : Rv} {g cap : Nat} (h : WireEx w N B uv l bad rv qs) (hBN : B ≤ N)
    (ho : RowsQ w4 B (.slice (some ⟨g, 0, none⟩) (qs.length + 1) cap) (qs ++ [q])) (hg : w.grownBy w4 rv.ownBlock) (hwh : rv.ownBlock = some g ∨ g = w.heap.size) (hq : ∀ x, uv.ownBlock = some x → q.2.ownBlock ≠ some x) (hqN : q.2.ownBlock ≠ some N) :
    w4.heap[N]? = some (Obj.cells #[uv, .int .i64 bad, rv] 68) ∧ WireEx (w4.setCell ⟨N, 2, none⟩ (.slice (some ⟨g, 0, none⟩) (qs.length + 1) cap)) N B uv l bad (.slice (some ⟨g, 0, none⟩) (qs.length + 1) cap) (qs ++ [q]) ∧ Below B w (w4.setCell ⟨N, 2, none⟩ (.slice (some ⟨g, 0, none⟩) (qs.length + 1) cap)) := by
  have hb4 : w4.heap[N]? = some (Obj.cells #[uv, .int .i64 bad, rv] 68) := (hg.block N h.lt (fun e => h.sep.r e.symm)).trans h.box
  have hgN : g ≠ N := by
    rintro rfl
    rcases hwh with e | e
    · exact h.sep.r e
    · have := h.lt; omega
  have sp : SepN N uv (.slice (some ⟨g, 0, none⟩) (qs.length + 1) cap) (qs ++ [q]) := ⟨h.sep.u, fun e => hgN (Option.some.inj e), fun p hp => by
    rcases List.mem_append.1 hp with hp | hp
    · exact h.sep.q p hp
    · simp at hp; subst hp; exact hqN⟩
  refine ⟨hb4, ⟨set_heap hb4 2 _, ?_, ho.of (fun x hx => Below.heap_setCell _ _ _ _ (sp.row x hx)), fun x hx => ⟨fun e => ?_, fun p hp => ?_⟩, sp⟩, ?_⟩
  · refine h.buf.of (fun x hx => ?_)
    have hx2 := h.buf.lt x hx
    rw [Below.heap_setCell _ _ _ _ (show x ≠ N from fun e => h.sep.u (by rw [hx, e]))]
    exact hg.block x hx2.2 (fun e => (h.apart x hx).1 e.symm)
  · have e' : g = x := Option.some.inj e
    subst e'
    rcases hwh with e | e
    · exact (h.apart g hx).1 e
    · have := (h.buf.lt g hx).2; omega
  · rcases List.mem_append.1 hp with hp | hp
    · exact (h.apart x hx).2 p hp
    · simp at hp; subst hp; exact hq x hx
  · exact (Below.grown (Below.refl B w) hg (by have := h.lt; omega) (fun k hk => (h.row.lt k (.inl hk)).1)).setCell (p := ⟨N, 2, none⟩) hBN _

set_option maxRecDepth 100000 in
set_option maxHeartbeats 4000000 in
theorem read_any (N B : Nat) (w : World) (l : List UInt8) (rs : List Rq) (mx : Int) (h : WireSt w N B l 0 rs) (hBN : B ≤ N) (hl : l.length ≤ 4194304) (hr : rs.length + l.length ≤ 100000000) (h0 : 0 < B) (hmx : w.cell? ⟨0, 0, none⟩ = some (.int .i64 mx)) :
    Calls Tryz.prog 38 #[.pointer (some ⟨N, 0, none⟩)] w fun e w' => (∃ v, e = .returned v) ∧ WireSt w' N B (drainL l).2.1 (drainL l).2.2 (rs ++ (drainL l).1) ∧ Below B w w' := by
  obtain ⟨uv, rv, qs, hE, hqs⟩ := h.ex
  have HE := hide hE
  have hql : qs.length = rs.length := by rw [← hqs, List.length_map]
  have HM := hide (fun (W : World) (hb : Below B w W) => (hb.cell (p := ⟨0, 0, none⟩) h0).trans hmx)
  subst hqs
  clear h hE hmx
  go_enter Tryz.func38, Tryz.ntmps38
  go_wp2
  go_loopw [] (fun wr => ∃ (uv rv : Value) (l' : List UInt8) (ps : List Rv), WireEx wr N B uv l' 0 rv ps ∧ ps.map Prod.fst ++ (drainL l').1 = qs.map Prod.fst ++ (drainL l).1 ∧ (drainL l').2 = (drainL l).2 ∧ ps.length + l'.length ≤ 100000000 ∧ l'.length ≤ 4194304 ∧ Below B w wr) (fun wr => unreadLen wr N)
  case atStart => exact ⟨uv, rv, l, qs, HE.out, rfl, rfl, by rw [hql]; simpa using hr, hl, Below.refl _ _⟩
  case round =>
    clear HE hql hr
    obtain ⟨uv, rv, l', ps, hE, hd1, hd2, hpl, hll, hbe⟩ := hrel
    have hN := hE.lt
    have HU := hide hE.unread
    have HT := hide (take_any N B wr uv rv l' 0 ps mx hE hBN hll (by omega) (HM.out wr hbe))
    have hgood : (getR l').2.2 = 0 → 0 < (getR l').2.1 ∧ (getR l').2.1 ≤ l'.length ∧ (getR l').1.hs.length ≤ 8 := fun hc => ⟨getR_pos hc, (getR_ok hc).2, (req_parts (getR_ok hc).1).2.2.2.1⟩
    have HGood := hide (fun hc => drain_good (l := l') hc)
    have HMore := hide (fun hc => drain_more (l := l') hc)
    have HBad := hide (fun hc hc' => drain_bad (l := l') hc hc')
    have HZero := hide (fun hc => (getR_bad (l := l') hc).2)
    obtain ⟨R, n, C, hR⟩ : ∃ R n C, getR l' = (R, n, C) := ⟨_, _, _, rfl⟩
    rw [hR] at HT hgood HGood HMore HBad HZero
    have HE := hide hE
    have HD1 := hide hd1
    have HD2 := hide hd2
    have HBe := hide hbe
    clear hE hd1 hd2 hbe hR
    go_wp2_with fail
    refine HT.out.mono ?_
    rintro e w1 ⟨⟨hv, rfl, hrow⟩, ⟨uv1, E1, hsame⟩, b1⟩
    obtain ⟨ah, ch, rfl, hdd⟩ := RowsH.hds hrow
    have hN1 := E1.lt
    obtain ⟨ar, cr, hrv, _⟩ := E1.row.rqs
    subst hrv
    obtain ⟨w2, hw2⟩ : ∃ w2, w1.alloc (Obj.cells #[.string R.m, .string R.p, .slice ah R.hs.length ch, .string R.b] 47) = w2 := ⟨_, rfl⟩
    have b2 : Below w1.heap.size w1 w2 := by rw [← hw2]; exact (Below.refl _ _).alloc (Nat.le_refl _) _
    have r2 : w2.heap[w1.heap.size]? = some (Obj.cells #[.string R.m, .string R.p, .slice ah R.hs.length ch, .string R.b] 47) := by rw [← hw2]; exact heap_alloc_new w1 _
    have s2 : w1.heap.size < w2.heap.size := by rw [← hw2]; simp
    have E2 := E1.next b2
    have c2 : Below B w w2 := (HBe.out.trans b1).trans (b2.mono (by omega))
    obtain ⟨x0, x1, x2, f0, f1, f2⟩ := box3 E2.box
    obtain ⟨p0, p1, p2, p3, _, _, _, _⟩ := ReqB.cells r2
    have hblk : ∀ x, (Value.slice ah R.hs.length ch).ownBlock = some x → wr.heap.size ≤ x := fun x hx => (RowsH.lt hrow x hx).1
    have hapU : ∀ x, uv1.ownBlock = some x → (Value.slice ah R.hs.length ch).ownBlock ≠ some x := fun x hx e => by
      have h1 := hblk x e
      have h2 := (HE.out.buf.lt x (hsame x hx)).2
      omega
    have hapR : ∀ v : Value, (∀ x, v.ownBlock = some x → x < wr.heap.size) → ApartV v (.slice ah R.hs.length ch) := fun v hv => by
      cases e : v.ownBlock with
      | none => exact .inl e
      | some x =>
        right
        intro e2
        have h1 := hblk x (by rw [← e2, e])
        have h2 := hv x e
        omega
    have hhN : (Value.slice ah R.hs.length ch).ownBlock ≠ some N := fun e => by have := hblk N e; omega
    have HHN := hide hhN
    have hrow2 : RowsH w2 B (.slice ah R.hs.length ch) R.hs := RowsH.base (ownsH_below hrow b2) (by omega)
    have hqa := hapR _ (fun x hx => (HE.out.row.lt x (.inl hx)).2)
    have hqs : ∀ p ∈ ps, ApartV p.2 (.slice ah R.hs.length ch) := fun p hp => hapR _ (fun x hx => (HE.out.row.lt x (.inr ⟨p, hp, hx⟩)).2)
    have EE := hide E2
    have HR2 := hide hrow2
    have HQA := hide hqa
    have HQS := hide hqs
    have HAU := hide hapU
    have HC2 := hide c2
    clear hhN HT hrow hdd b1 b2 r2 E1 E2 c2 hblk hapU hapR hrow2 hqa hqs hsame f0
    by_cases hC : C = 0
    · subst hC
      obtain ⟨hn1, hn2, hn3⟩ := hgood rfl
      have hDr := HGood.out rfl
      have HDr := hide hDr
      have bD : Below w2.heap.size w2 (w2.alloc (Obj.cells #[.string R.m, .string R.p, .slice ah R.hs.length ch, .string R.b] 47)).drew := ((Below.refl w2.heap.size w2).alloc (Nat.le_refl _) _).drew
      have x2a : (w2.alloc (Obj.cells #[.string R.m, .string R.p, .slice ah R.hs.length ch, .string R.b] 47)).cell? ⟨N, 2, none⟩ = some (.slice ar ps.length cr) := (bD.cell (p := ⟨N, 2, none⟩) (show N < w2.heap.size by omega)).trans x2
      have ED := hide (EE.out.next bD)
      have HRD := hide (ownsH_below HR2.out bD)
      have HCD := hide (HC2.out.trans (bD.mono (by omega)))
      have hlen1 : ps.length + 1 ≤ 1000000000 := by omega
      have hz3 : B ≤ (w2.alloc (Obj.cells #[.string R.m, .string R.p, .slice ah R.hs.length ch, .string R.b] 47)).drew.heap.size := by simp; omega
      have k0 : (w2.alloc (Obj.cells #[.string R.m, .string R.p, .slice ah R.hs.length ch, .string R.b] 47)).drew.cell? ⟨w2.heap.size, 0, none⟩ = some (.string R.m) := by simp
      have k1 : (w2.alloc (Obj.cells #[.string R.m, .string R.p, .slice ah R.hs.length ch, .string R.b] 47)).drew.cell? ⟨w2.heap.size, 1, none⟩ = some (.string R.p) := by simp
      have k2 : (w2.alloc (Obj.cells #[.string R.m, .string R.p, .slice ah R.hs.length ch, .string R.b] 47)).drew.cell? ⟨w2.heap.size, 2, none⟩ = some (.slice ah R.hs.length ch) := by simp
      have k3 : (w2.alloc (Obj.cells #[.string R.m, .string R.p, .slice ah R.hs.length ch, .string R.b] 47)).drew.cell? ⟨w2.heap.size, 3, none⟩ = some (.string R.b) := by simp
      have K0 := hide k0
      have K1 := hide k1
      have K2 := hide k2
      have K3 := hide k3
      clear hgood HGood HMore HBad HZero hDr bD k0 k1 k2 k3
      go_wp2_with fail
      go_region_law (refine step_append_req rfl _ _ rfl B (.slice ar ps.length cr) ps rfl ED.out.row w2.heap.size (R, .slice ah R.hs.length ch) rfl K0.out K1.out K2.out K3.out HRD.out HQA.out.symm HQS.out hlen1 hz3 ?_
                     intro g4 cap4 w4 ho hg hwh
                     obtain ⟨hb4, E4, B4⟩ := ED.out.pushed hBN ho hg hwh HAU.out HHN.out
                     obtain ⟨_, _, y2, _, _, e2⟩ := box3 hb4
                     have E5 := hide E4
                     have B5 := hide B4
                     clear ho hg hwh hb4 E4 B4)
      all_goals
        have hdl : (l'.drop n).length = l'.length - n := List.length_drop
        have hfin : ∃ (uv rv : Value) (l'' : List UInt8) (ps' : List Rv), WireEx (w4.setCell ⟨N, 2, none⟩ (.slice (some ⟨g4, 0, none⟩) (ps.length + 1) cap4)) N B uv l'' 0 rv ps' ∧ ps'.map Prod.fst ++ (drainL l'').1 = qs.map Prod.fst ++ (drainL l).1 ∧ (drainL l'').2 = (drainL l).2 ∧ ps'.length + l''.length ≤ 100000000 ∧ l''.length ≤ 4194304 ∧ Below B w (w4.setCell ⟨N, 2, none⟩ (.slice (some ⟨g4, 0, none⟩) (ps.length + 1) cap4)) := by
          refine ⟨_, _, _, _, E5.out, ?_, ?_, ?_, by omega, HCD.out.trans B5.out⟩
          · rw [← HD1.out, HDr.out]; simp
          · rw [← HD2.out, HDr.out]
          · rw [List.length_append]; simp only [List.length_cons, List.length_nil]; omega
        have hms : unreadLen (w4.setCell ⟨N, 2, none⟩ (.slice (some ⟨g4, 0, none⟩) (ps.length + 1) cap4)) N < unreadLen wr N := by
          rw [HU.out, E5.out.unread]; omega
        have HF := hide hfin
        have HMs := hide hms
        clear hfin hms hdl
        go_wp2
        exact ⟨HF.out, HMs.out⟩
    · have hn0 : n = 0 := HZero.out hC
      subst hn0
      by_cases hC1 : C = 1
      · subst hC1
        have hDr := HMore.out rfl
        have HDr := hide hDr
        have HFin : Hid (WireSt w2 N B (drainL l).2.1 (drainL l).2.2 (qs.map Prod.fst ++ (drainL l).1) ∧ Below B w w2) := by
          refine ⟨?_, HC2.out⟩
          rw [← HD1.out, ← HD2.out, HDr.out]
          simpa using EE.out.st
        clear hgood HGood HMore HBad HZero hDr HD1 HD2 HDr
        go_wp2
        refine bodyPost_ret (results_none rfl _ _ _) rfl ?_
        exact ⟨⟨_, rfl⟩, HFin.out⟩
      · have hDr := HBad.out hC hC1
        have HDr := hide hDr
        obtain ⟨w3, hw3⟩ : ∃ w3, w2.setCell ⟨N, 1, none⟩ (.int .i64 C) = w3 := ⟨_, rfl⟩
        have E3 : WireEx w3 N B uv1 l' C (.slice ar ps.length cr) ps := by
          rw [← hw3]
          exact EE.out.kept (fun k hk hkN => Below.heap_setCell _ _ _ _ hkN) (set_heap EE.out.box 1 _) EE.out.buf (fun g hg => hg)
        have c3 : Below B w w3 := by rw [← hw3]; exact HC2.out.setCell (p := ⟨N, 1, none⟩) hBN _
        have HDp := hide (drop_any N B w3 uv1 (.slice ar ps.length cr) l' C ps E3 hBN)
        have HC3 := hide c3
        have hCb : (C == 0) = false := by simpa using hC
        have hCb1 : (C == 1) = false := by simpa using hC1
        clear hgood HGood HMore HBad HZero hDr E3 c3
        go_wp2_with fail
        refine HDp.out.mono ?_
        rintro e w4 ⟨⟨v, rfl⟩, E4, b4⟩
        have HFin : Hid (WireSt w4 N B (drainL l).2.1 (drainL l).2.2 (qs.map Prod.fst ++ (drainL l).1) ∧ Below B w w4) := by
          refine ⟨?_, HC3.out.trans b4⟩
          rw [← HD1.out, ← HD2.out, HDr.out]
          simpa using E4.st
        clear E4 b4 HD1 HD2 HDr HDp
        go_wp2
        refine bodyPost_ret (results_none rfl _ _ _) rfl ?_
        exact ⟨⟨_, rfl⟩, HFin.out⟩
end Go.Proofs.YtkhnkockdfmkgabGreatDoor
