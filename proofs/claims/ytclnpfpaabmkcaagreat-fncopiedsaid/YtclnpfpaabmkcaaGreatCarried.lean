/-
  What impl.carried does.
-/
import Derived.Test.YtclnpfpaabmkcaaGreatGaveIs
import Derived.Test.YtclnpfpaabmkcaaGreatFarRef
namespace Go.Proofs.YtclnpfpaabmkcaaGreat
open Go.RowKit M
set_option linter.unusedVariables false

/-- A row of things in a block of its own: what they have lies elsewhere. -/
structure CarS (w : World) (g : Nat) (xs : List Rs) : Prop where
  gs : g < w.heap.size
  fz : ∀ i, w.frozen? ⟨g, i, none⟩ = false
  el : ∀ j (hj : j < xs.length), ∃ pa pc qa qc, RsAt w g (j * 5) xs[j] pa pc qa qc ∧ RsIn w w.heap.size xs[j] pa pc qa qc ∧ (∀ a, pa = some a → a.block ≠ g) ∧ (∀ a, qa = some a → a.block ≠ g) ∧ ∃ b o, pa = some ⟨b, o, none⟩
theorem CarS.below {w w' : World} {g : Nat} {xs : List Rs} (h : CarS w g xs) (hb : Below w.heap.size w w') : CarS w' g xs := by
  refine ⟨Nat.lt_of_lt_of_le h.gs hb.size, fun i => (hb.frozen (p := ⟨g, i, none⟩) h.gs).trans (h.fz i), fun j hj => ?_⟩
  obtain ⟨pa, pc, qa, qc, h1, h2, h3⟩ := h.el j hj
  exact ⟨pa, pc, qa, qc, h1.of (fun o => hb.cell (p := ⟨g, o, none⟩) h.gs), (h2.below hb (Nat.le_refl _)).mono hb.size, h3⟩
theorem CarS.rss {w : World} {g C : Nat} {xs : List Rs} (h : CarS w g xs) (hC : w.heap.size ≤ C) : Rss w C (some ⟨g, 0, none⟩) xs := fun _ => by
  refine ⟨g, 0, rfl, Nat.lt_of_lt_of_le h.gs hC, fun j hj => ?_⟩
  obtain ⟨pa, pc, qa, qc, h1, h2, _⟩ := h.el j hj
  exact ⟨pa, pc, qa, qc, by rw [Nat.zero_add]; exact h1, h2.mono hC⟩
theorem Strs.out {w w' : World} {B g : Nat} {a : Option Addr} {ss : List ByteArray} (h : Strs w B a ss) (hn : ∀ x, a = some x → x.block ≠ g) (e : ∀ b o, b ≠ g → w'.cell? ⟨b, o, none⟩ = w.cell? ⟨b, o, none⟩) : Strs w' B a ss := fun h0 => by
  obtain ⟨b, o, ea, hb, hc⟩ := h h0
  exact ⟨b, o, ea, hb, fun j hj => (e b _ (hn _ ea)).trans (hc j hj)⟩
theorem Pps.out {w w' : World} {B g : Nat} {a : Option Addr} {ps : List Pp} (h : Pps w B a ps) (hn : ∀ x, a = some x → x.block ≠ g) (e : ∀ b o, b ≠ g → w'.cell? ⟨b, o, none⟩ = w.cell? ⟨b, o, none⟩) : Pps w' B a ps := fun h0 => by
  obtain ⟨b, o, ea, hb, hc⟩ := h h0
  refine ⟨b, o, ea, hb, fun j hj => ?_⟩
  have := hc j hj
  unfold PpAt at *
  simp only [e b _ (hn _ ea)]
  exact this
/-- One thing carried. -/
theorem CarS.next {w : World} {g k : Nat} {xs : List Rs} (h : CarS w g xs) (hk : k < xs.length) (np : List ByteArray) (b9 c9 : Nat) (hp : Strs w w.heap.size (some ⟨b9, 0, none⟩) np) (hne : b9 ≠ g) (hc : np.length ≤ c9) (hm : c9 ≤ maxLen) (v : Int) :
    CarS ((w.setCell ⟨g, k * 5, none⟩ (.slice (some ⟨b9, 0, none⟩) np.length c9)).setCell ⟨g, k * 5 + 3, none⟩ (.int .i64 v)) g (xs.set k ⟨np, xs[k].co, xs[k].bo, v, xs[k].ps⟩) := by
  have far : ∀ (W : World) (o p : Nat) (x : Value), o ≠ p → (W.setCell ⟨g, p, none⟩ x).cell? ⟨g, o, none⟩ = W.cell? ⟨g, o, none⟩ := fun W o p x hne => World.cell?_setCell_other _ _ _ _ (fun e => hne (congrArg Addr.off e).symm)
  have oth : ∀ b o, b ≠ g → ((w.setCell ⟨g, k * 5, none⟩ (.slice (some ⟨b9, 0, none⟩) np.length c9)).setCell ⟨g, k * 5 + 3, none⟩ (.int .i64 v)).cell? ⟨b, o, none⟩ = w.cell? ⟨b, o, none⟩ := fun b o hb => by
    rw [World.cell?_setCell_other _ _ _ _ (fun e => hb (congrArg Addr.block e).symm), World.cell?_setCell_other _ _ _ _ (fun e => hb (congrArg Addr.block e).symm)]
  refine ⟨by simpa using h.gs, fun i => by rw [World.frozen?_setCell, World.frozen?_setCell]; exact h.fz i, fun j hj => ?_⟩
  have hj' : j < xs.length := by simpa using hj
  obtain ⟨pa, pc, qa, qc, ⟨c0, c1, c2, c3, c4⟩, h2, h3, h4, h5⟩ := h.el j hj'
  by_cases e : j = k
  · subst e
    rw [List.getElem_set_self]
    refine ⟨some ⟨b9, 0, none⟩, c9, qa, qc, ⟨?_, ?_, ?_, ?_, ?_⟩, ⟨?_, ?_, hc, h2.ql, hm, h2.qm, (fun e => by cases e), h2.qn⟩, fun a ha => by cases ha; exact hne, h4, ⟨_, _, rfl⟩⟩
    · rw [far _ _ _ _ (by omega)]
      exact World.cell?_setCell_same _ _ _ c0
    · rw [far _ _ _ _ (by omega), far _ _ _ _ (by omega)]; exact c1
    · rw [far _ _ _ _ (by omega), far _ _ _ _ (by omega)]; exact c2
    · exact World.cell?_setCell_same _ _ _ (show (w.setCell ⟨g, j * 5, none⟩ (.slice (some ⟨b9, 0, none⟩) np.length c9)).cell? ⟨g, j * 5 + 3, none⟩ = some (.int .i64 xs[j].ve) by rw [far _ _ _ _ (by omega)]; exact c3)
    · rw [far _ _ _ _ (by omega), far _ _ _ _ (by omega)]; exact c4
    · exact (hp.out (g := g) (fun x hx => by cases hx; exact hne) oth).mono (by simp)
    · exact (h2.qh.out (g := g) h4 oth).mono (by simp)
  · rw [List.getElem_set_ne (fun e' => e e'.symm)]
    refine ⟨pa, pc, qa, qc, ⟨?_, ?_, ?_, ?_, ?_⟩, ⟨(h2.ph.out (g := g) h3 oth).mono (by simp), (h2.qh.out (g := g) h4 oth).mono (by simp), h2.pl, h2.ql, h2.pm, h2.qm, h2.pn, h2.qn⟩, h3, h4, h5⟩
    · rw [far _ _ _ _ (by omega), far _ _ _ _ (by omega)]; exact c0
    · rw [far _ _ _ _ (by omega), far _ _ _ _ (by omega)]; exact c1
    · rw [far _ _ _ _ (by omega), far _ _ _ _ (by omega)]; exact c2
    · rw [far _ _ _ _ (by omega), far _ _ _ _ (by omega)]; exact c3
    · rw [far _ _ _ _ (by omega), far _ _ _ _ (by omega)]; exact c4
theorem GrowR.car {w : World} {B lo g cap : Nat} {ts : List RsT} (h : GrowR w B (.slice (some ⟨g, 0, none⟩) ts.length cap) ts lo) : CarS w g (ts.map (·.r)) := by
  have hl := h.own.lt g rfl
  have ht := h.top
  refine ⟨hl.2, ?_, fun j hj => ?_⟩
  · rcases h.own.2 with ⟨e, _⟩ | ⟨g', cap', cur, e, _, hh, _⟩
    · cases e
    · cases e
      exact fun i => rowsR_frozen hh i
  · have hj' : j < ts.length := by simpa using hj
    obtain ⟨k1, k2, k3, k4, k5, k6, k7⟩ := h.el j hj'
    obtain ⟨q1, q2, q3, q4⟩ := h.caps j hj'
    simp only [List.getElem_map]
    exact ⟨_, _, _, _, h.at rfl j hj', ⟨k4.strs' (by omega), k5.pps (by omega), q1, q3, q2, q4, (fun e => by cases e), (fun e => by cases e)⟩, fun a ha => by cases ha; exact fun e => k6 (by rw [← e]; rfl), fun a ha => by cases ha; exact fun e => k7 (by rw [← e]; rfl), ⟨_, _, rfl⟩⟩

/-- The first k carried. -/
def partL (ls : List Rs) (fr to : List ByteArray) (v : Int) (k : Nat) : List Rs := (ls.take k).map (carryR fr to v) ++ ls.drop k
theorem partL_len (ls : List Rs) (fr to : List ByteArray) (v : Int) (k : Nat) : (partL ls fr to v k).length = ls.length := by
  unfold partL
  simp
  omega
theorem partL_at (ls : List Rs) (fr to : List ByteArray) (v : Int) (k : Nat) (hk : k < ls.length) (h' : k < (partL ls fr to v k).length) : (partL ls fr to v k)[k] = ls[k] := by
  simp only [partL]
  rw [List.getElem_append_right (by simp; omega)]
  simp only [List.length_map, List.length_take, List.getElem_drop]
  congr 1
  omega
theorem partL_next (ls : List Rs) (fr to : List ByteArray) (v : Int) (k : Nat) (hk : k < ls.length) : (partL ls fr to v k).set k (carryR fr to v ls[k]) = partL ls fr to v (k + 1) := by
  unfold partL
  rw [List.set_append_right _ _ (by simp; omega), List.take_succ_eq_append_getElem hk, List.map_append, List.append_assoc]
  congr 1
  have e : k - ((ls.take k).map (carryR fr to v)).length = 0 := by simp; omega
  rw [e]
  conv => { lhs; rw [List.drop_eq_getElem_cons hk] }
  rfl

set_option maxRecDepth 100000 in
set_option maxHeartbeats 4000000 in
theorem carried_any (a : Option Addr) (rs : List Rs) (cap B : Nat) (b1 : Option Addr) (fr : List ByteArray) (cap1 : Nat) (bt ot : Nat) (to : List ByteArray) (cap2 : Nat) (v : Int) (w : World) (h : Rss w B a rs) (h1 : Strs w B b1 fr) (h2 : Strs w B (some ⟨bt, ot, none⟩) to) (hB : B ≤ w.heap.size) (hl : rs.length ≤ 1048576) (hz : SzT rs) (hl1 : fr.length ≤ 1048576) (hl2 : to.length ≤ 1048576) (hs2 : Short to) (hs : ShortT rs) (ht0 : 0 < to.length) :
    Calls Tryz.prog 62 #[.slice a rs.length cap, .slice b1 fr.length cap1, .slice (some ⟨bt, ot, none⟩) to.length cap2, .int .i64 v] w fun e w' => (∃ g c9 : Nat, e = .returned (.slice (some ⟨g, 0, none⟩) (carryL rs fr to v).length c9) ∧ Rss w' w'.heap.size (some ⟨g, 0, none⟩) (carryL rs fr to v)) ∧ Below w.heap.size w w' := by
  have X1 := hide (deepOf_grow a rs cap B b1 fr cap1 B w h h1 hB hB hl hl1 hz)
  have HLS := hide (show carryL rs fr to v = (deepL rs fr).map (carryR fr to v) from rfl)
  have HPF := hide (fun r (hr : r ∈ deepL rs fr) => show fr.length ≤ r.pa.length ∧ r.pa.length ≤ 1048576 ∧ Short r.pa from ⟨(deep_iff.1 (deepL_mem.1 hr).2).length_le, (hz r (deepL_mem.1 hr).1).1, (hs r (deepL_mem.1 hr).1).ps⟩)
  have hlen : (carryL rs fr to v).length = (deepL rs fr).length := by unfold carryL; simp
  have hdl : (deepL rs fr).length ≤ 1048576 := Nat.le_trans (List.length_filter_le _ _) hl
  rw [hlen]
  generalize carryL rs fr to v = cl at *
  generalize deepL rs fr = ls at *
  clear h h1 hz hs hlen
  have hT := h2
  clear h2
  go_enter Tryz.func62, Tryz.ntmps62
  go_wp2_with fail
  refine X1.out.mono ?_
  rintro e w1 ⟨⟨v1, ts, rfl, hG, hm, _⟩, bb1⟩
  obtain ⟨g, c9, rfl, hgl⟩ := hG.blk
  have hC := hG.car
  have hgB := (hG.own.lt g rfl).1
  have htl : ts.length = ls.length := by rw [← hm]; simp
  rw [hm] at hC
  have HC := hide hC
  have HB1 := hide bb1
  rw [htl]
  clear hG hm hC X1 bb1 htl
  go_wp2
  go_loopw [17] (fun i wr => ∃ k : Nat, k ≤ ls.length ∧ i = .int .i64 k ∧ CarS wr g (partL ls fr to v k) ∧ Below w.heap.size w wr) (fun i _ => ls.length - (intOf i).toNat)
  case atStart => exact ⟨0, Nat.zero_le _, rfl, by simpa [partL] using HC.out, HB1.out⟩
  case round =>
    obtain ⟨k, hk, rfl, hcar, hbe⟩ := hrel
    by_cases hlt : k < ls.length
    · have hpk : k < (partL ls fr to v k).length := by rw [partL_len]; exact hlt
      obtain ⟨pa, pc, qa, qc, ⟨hc0, hc1, hc2, hc3, hc4⟩, hin, n1, n2, ⟨bx, ox, rfl⟩⟩ := hcar.el k hpk
      have hat := partL_at ls fr to v k hlt hpk
      have HNX := hide (partL_next ls fr to v k hlt)
      obtain ⟨pf1, pf2, pf3⟩ := HPF.out _ (List.getElem_mem hlt)
      have hgs := hcar.gs
      have HCAR := hide hcar
      rw [hat] at hc0 hc1 hc2 hc3 hc4 hin
      have HAT := hide hat
      clear hcar hat
      -- the thing's own box, then the two lists
      have k1 := (Below.refl wr.heap.size wr).alloc (Nat.le_refl _) (Obj.cells #[.slice (some ⟨bx, ox, none⟩) (ls[k]).pa.length pc, .bool (ls[k]).co, .string (ls[k]).bo, .int .i64 (ls[k]).ve, .slice qa (ls[k]).ps.length qc] 35)
      have hin1 := hin.below k1 (Nat.le_refl _)
      have hT1 := (hT.below hbe hB).below k1 (by have := hbe.size; omega)
      have HEQ := hide (show carryR fr to v ls[k] = ⟨to ++ (ls[k]).pa.drop fr.length, (ls[k]).co, (ls[k]).bo, v, (ls[k]).ps⟩ from rfl)
      have hpl : fr.length ≤ pc := Nat.le_trans pf1 hin.pl
      have hpm := hin.pm
      have hbw := hbe.size
      have GO := hide (fun (o' cc : Nat) (hsf : Strs (wr.alloc (Obj.cells #[.slice (some ⟨bx, ox, none⟩) (ls[k]).pa.length pc, .bool (ls[k]).co, .string (ls[k]).bo, .int .i64 (ls[k]).ve, .slice qa (ls[k]).ps.length qc] 35)) wr.heap.size (some ⟨bx, o', none⟩) ((ls[k]).pa.drop fr.length)) => show Calls Tryz.prog 111 #[.slice (some ⟨wr.heap.size + 1, 0, none⟩) 2 2] ((wr.alloc (Obj.cells #[.slice (some ⟨bx, ox, none⟩) (ls[k]).pa.length pc, .bool (ls[k]).co, .string (ls[k]).bo, .int .i64 (ls[k]).ve, .slice qa (ls[k]).ps.length qc] 35)).alloc (Obj.cells #[.slice (some ⟨bt, ot, none⟩) to.length cap2, .slice (some ⟨bx, o', none⟩) ((ls[k]).pa.length - fr.length) cc] 25)) fun e w' => (∃ b9 c8 : Nat, e = .returned (.slice (some ⟨b9, 0, none⟩) (to ++ (ls[k]).pa.drop fr.length).length c8) ∧ Strs w' w'.heap.size (some ⟨b9, 0, none⟩) (to ++ (ls[k]).pa.drop fr.length) ∧ wr.heap.size ≤ b9 ∧ (to ++ (ls[k]).pa.drop fr.length).length ≤ c8 ∧ c8 ≤ maxLen) ∧ Below wr.heap.size wr w' from by
        have hP := PathsAt.two (cap := cap2) (cap' := cc) hT1 (by simp; omega) hs2 (by unfold maxLen; omega) hsf (by simp) (fun s hs => pf3 s (List.mem_of_mem_drop hs)) (by rw [List.length_drop]; unfold maxLen; omega)
        rw [List.length_drop] at hP
        have k2 := k1.alloc k1.size (Obj.cells #[.slice (some ⟨bt, ot, none⟩) to.length cap2, .slice (some ⟨bx, o', none⟩) ((ls[k]).pa.length - fr.length) cc] 25)
        have hcat : catL [(to, some ⟨bt, ot, none⟩, cap2), ((ls[k]).pa.drop fr.length, some ⟨bx, o', none⟩, cc)] = to ++ (ls[k]).pa.drop fr.length := by simp [catL]
        have hX := concat_any (wr.alloc (Obj.cells #[.slice (some ⟨bx, ox, none⟩) (ls[k]).pa.length pc, .bool (ls[k]).co, .string (ls[k]).bo, .int .i64 (ls[k]).ve, .slice qa (ls[k]).ps.length qc] 35)).heap.size 2 [(to, some ⟨bt, ot, none⟩, cap2), ((ls[k]).pa.drop fr.length, some ⟨bx, o', none⟩, cc)] (by simp) (by rw [hcat, List.length_append, List.length_drop]; omega) _ hP (fun j hj => by
          have hj' : j = 0 ∨ j = 1 := by simp at hj; omega
          rcases hj' with rfl | rfl
          · exact ⟨_, _, rfl⟩
          · exact ⟨_, _, rfl⟩)
        rw [hcat] at hX
        have hsz : (wr.alloc (Obj.cells #[.slice (some ⟨bx, ox, none⟩) (ls[k]).pa.length pc, .bool (ls[k]).co, .string (ls[k]).bo, .int .i64 (ls[k]).ve, .slice qa (ls[k]).ps.length qc] 35)).heap.size = wr.heap.size + 1 := by simp
        rw [hsz] at hX
        refine hX.mono ?_
        rintro e w' ⟨v9, rfl, hown, hb'⟩
        have hb3 := k2.trans (hb'.mono k2.size)
        rcases hown.2 with ⟨_, h0⟩ | ⟨b9, c8, cur, rfl, q1, q2, q3, q4, q5, q6⟩
        · rw [List.length_append] at h0; omega
        · refine ⟨⟨b9, c8, rfl, fun _ => ⟨b9, 0, rfl, (hown.lt b9 rfl).2, fun j hj => ?_⟩, Nat.le_trans k2.size q1, q3, q4⟩, hb3⟩
          rw [Nat.zero_add, hown.cellAt j (by rw [Nat.mul_one]; exact hj)]
          unfold strV
          rw [List.getElem?_map, List.getElem?_eq_getElem hj]
          rfl)
      have FIN := hide (fun (w' : World) (b9 c8 : Nat) (hb : Below wr.heap.size wr w') (hst : Strs w' w'.heap.size (some ⟨b9, 0, none⟩) (to ++ (ls[k]).pa.drop fr.length)) (hb9 : wr.heap.size ≤ b9) (hc8 : (to ++ (ls[k]).pa.drop fr.length).length ≤ c8) (hm8 : c8 ≤ maxLen) => show CarS ((w'.setCell ⟨g, k * 5, none⟩ (.slice (some ⟨b9, 0, none⟩) (to ++ (ls[k]).pa.drop fr.length).length c8)).setCell ⟨g, k * 5 + 3, none⟩ (.int .i64 v)) g (partL ls fr to v (k + 1)) from by
        have hn := (HCAR.out.below hb).next hpk _ b9 c8 hst (by omega) hc8 hm8 v
        rw [HAT.out, ← HEQ.out, HNX.out] at hn
        exact hn)
      have hf := HCAR.out.fz
      have hsl := hin.ph
      have hpa9 : 0 < (ls[k]).pa.length → Strs (wr.alloc (Obj.cells #[.slice (some ⟨bx, ox, none⟩) (ls[k]).pa.length pc, .bool (ls[k]).co, .string (ls[k]).bo, .int .i64 (ls[k]).ve, .slice qa (ls[k]).ps.length qc] 35)) wr.heap.size (some ⟨bx, ox + fr.length, none⟩) ((ls[k]).pa.drop fr.length) := fun hp0 hd0 => by
        obtain ⟨b0, o0, ea, hb0, hcc⟩ := hin1.ph hp0
        cases ea
        refine ⟨bx, ox + fr.length, rfl, hb0, fun j hj => ?_⟩
        have hj2 : fr.length + j < (ls[k]).pa.length := by rw [List.length_drop] at hj; omega
        rw [Nat.add_assoc, hcc (fr.length + j) hj2, List.getElem_drop]
      have hnil : pc = fr.length → (ls[k]).pa.drop fr.length = [] := fun e => List.drop_of_length_le (by have := hin.pl; omega)
      have HPA := hide hpa9
      have HNIL := hide hnil
      have HNP := hide (show (to ++ (ls[k]).pa.drop fr.length).length = (to ++ (ls[k]).pa.drop fr.length).length from rfl)
      have e1 : (0 : Int) ≤ (fr.length : Int) := by omega
      have e2 : (fr.length : Int) ≤ ((ls[k]).pa.length : Int) := by omega
      clear HEQ hpa9 hnil hin1 hT1 hsl hin
      by_cases hpc : pc = fr.length
      · have X2 := hide (GO.out ox 0 (by rw [HNIL.out hpc]; exact fun h => absurd h (Nat.lt_irrefl _)))
        subst hpc
        obtain ⟨np, hnp⟩ : ∃ np, to ++ (ls[k]).pa.drop fr.length = np := ⟨_, rfl⟩
        rw [hnp] at X2 FIN
        clear GO hnp HNP HPA HNIL
        go_wp2_with fail
        refine X2.out.mono ?_
        rintro e w3 ⟨⟨b9, c8, rfl, st9, q1, q2, q3⟩, bb3⟩
        have HF := hide (FIN.out w3 b9 c8 bb3 st9 q1 q2 q3)
        have c3 := hbe.trans (bb3.mono hbe.size)
        have d0 := (bb3.cell (p := ⟨g, k * 5, none⟩) hgs).trans hc0
        have d3 := (bb3.cell (p := ⟨g, k * 5 + 3, none⟩) hgs).trans hc3
        have f0 := (bb3.frozen (p := ⟨g, k * 5, none⟩) hgs).trans (hf _)
        have f3 := (bb3.frozen (p := ⟨g, k * 5 + 3, none⟩) hgs).trans (hf _)
        clear X2 FIN st9 bb3 hc0 hc1 hc2 hc3 hc4
        go_wp2
        go_roundw
        case rel => exact ⟨k + 1, by omega, by go_num, HF.out, (c3.setCell hgB _).setCell hgB _⟩
        case measure => simp [intOf]; omega
      · have X2 := hide (GO.out (ox + fr.length) (pc - fr.length) (fun hd => HPA.out (by rw [List.length_drop] at hd; omega) hd))
        obtain ⟨np, hnp⟩ : ∃ np, to ++ (ls[k]).pa.drop fr.length = np := ⟨_, rfl⟩
        rw [hnp] at X2 FIN
        clear GO hnp HNP HPA HNIL
        go_wp2_with fail
        refine X2.out.mono ?_
        rintro e w3 ⟨⟨b9, c8, rfl, st9, q1, q2, q3⟩, bb3⟩
        have HF := hide (FIN.out w3 b9 c8 bb3 st9 q1 q2 q3)
        have c3 := hbe.trans (bb3.mono hbe.size)
        have d0 := (bb3.cell (p := ⟨g, k * 5, none⟩) hgs).trans hc0
        have d3 := (bb3.cell (p := ⟨g, k * 5 + 3, none⟩) hgs).trans hc3
        have f0 := (bb3.frozen (p := ⟨g, k * 5, none⟩) hgs).trans (hf _)
        have f3 := (bb3.frozen (p := ⟨g, k * 5 + 3, none⟩) hgs).trans (hf _)
        clear X2 FIN st9 bb3 hc0 hc1 hc2 hc3 hc4
        go_wp2
        go_roundw
        case rel => exact ⟨k + 1, by omega, by go_num, HF.out, (c3.setCell hgB _).setCell hgB _⟩
        case measure => simp [intOf]; omega
    · have hke : partL ls fr to v k = cl := by
        unfold partL
        rw [HLS.out, List.take_of_length_le (by omega), List.drop_of_length_le (by omega), List.append_nil]
      have HR := hide (hcar.rss (Nat.le_refl _))
      rw [hke] at HR
      clear hcar hke
      go_wp2
      go_ret
      exact ⟨⟨g, c9, rfl, HR.out⟩, hbe⟩
end Go.Proofs.YtclnpfpaabmkcaaGreat
