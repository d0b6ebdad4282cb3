/-
  What impl.turnAt and (impl.turn).taken do.
-/
import Derived.Test.YtclnpfpaabmkcaaGreatGrowHp
import Derived.Test.YtclnpfpaabmkcaaGreatWhole
import Derived.Test.YtclnpfpaabmkcaaGreatWithout
import Derived.Test.YtclnpfpaabmkcaaGreatGaveIs
import Derived.Test.YtclnpfpaabmkcaaGreatAskRef
namespace Go.Proofs.YtclnpfpaabmkcaaGreat
open Go.RowKit M
set_option linter.unusedVariables false

/-- What stays and what comes, each made by one call, from L on. -/
def TurnGot (W : World) (L : Nat) (st cs : List Rs) (g caps g2 : Nat) : Prop :=
  ∃ (ts : List RsT) (pb qb : Nat → Nat) (B1 lo1 B2 hi2 : Nat), GrowR W B1 (.slice (some ⟨g, 0, none⟩) st.length caps) ts lo1 ∧ ts.map (·.r) = st ∧ (∀ j (hj : j < ts.length), ts[j].pc = ts[j].r.pa.length ∧ ts[j].qc = ts[j].r.ps.length) ∧ OwnR W B2 hi2 g2 cs pb qb ∧ (lo1 ≤ B2 ∨ hi2 ≤ B1) ∧ hi2 ≤ W.heap.size ∧ L ≤ B1 ∧ L ≤ B2 ∧ B1 ≤ W.heap.size
theorem TurnGot.below {W W' : World} {L : Nat} {st cs : List Rs} {g caps g2 : Nat} (h : TurnGot W L st cs g caps g2) (hb : Below W.heap.size W W') : TurnGot W' L st cs g caps g2 := by
  obtain ⟨ts, pb, qb, B1, lo1, B2, hi2, h1, h2, h3, h4, h5, h6, h7, h8, h9⟩ := h
  exact ⟨ts, pb, qb, B1, lo1, B2, hi2, h1.next hb, h2, h3, h4.below hb, h5, Nat.le_trans h6 hb.size, h7, h8, Nat.le_trans h9 hb.size⟩
theorem TurnGot.rss {W : World} {L : Nat} {st cs : List Rs} {g caps g2 : Nat} (h : TurnGot W L st cs g caps g2) (hs : ∀ r ∈ cs, r.pa.length ≤ maxLen ∧ r.ps.length ≤ maxLen) : Rss W W.heap.size (some ⟨g, 0, none⟩) st ∧ Rss W W.heap.size (some ⟨g2, 0, none⟩) cs := by
  obtain ⟨ts, pb, qb, B1, lo1, B2, hi2, h1, h2, h3, h4, h5, h6, h7, h8, h9⟩ := h
  refine ⟨?_, h4.rss hs h6⟩
  obtain ⟨b, cap, hv, hr⟩ := h1.rss (Nat.le_refl _)
  injection hv with e1 e2 e3
  rw [h2, ← e1] at hr
  exact hr
def takenL (R : Int) (rs : List Rs) (p : List ByteArray) (st cs : List Rs) : List Rs := if R = 0 then wholeL st p cs else rs
def takenC (R : Int) (z : Bool) : Int := if R = 0 then (if z = true then 204 else 201) else R

set_option maxRecDepth 100000 in
set_option maxHeartbeats 4000000 in
theorem turnAt_any (a : Option Addr) (rs : List Rs) (cap B : Nat) (b : Option Addr) (p : List ByteArray) (capb : Nat) (c : Option Addr) (cs : List Rs) (capc : Nat) (w : World) (h : Rss w B a rs) (hp : Strs w B b p) (hc : Rss w B c cs) (hB : B ≤ w.heap.size) (hl : rs.length ≤ 1048576) (hl' : p.length ≤ 1048576) (hlc : cs.length ≤ 1048576) (hz : SzT rs) (hzc : SzT cs) :
    Calls Tryz.prog 61 #[.slice a rs.length cap, .slice b p.length capb, .slice c cs.length capc] w fun e w' => (∃ g caps g2 : Nat, e = .returned (.agg #[.slice a rs.length cap, .slice b p.length capb, .slice (some ⟨g, 0, none⟩) (withoutL rs p).length caps, .slice (some ⟨g2, 0, none⟩) cs.length cs.length]) ∧ TurnGot w' w.heap.size (withoutL rs p) cs g caps g2) ∧ Below w.heap.size w w' := by
  have hb0 := (Below.refl w.heap.size w).alloc (Nat.le_refl _) (Obj.cells #[.slice none 0 0, .slice none 0 0, .slice none 0 0, .slice none 0 0] 75)
  obtain ⟨w0, hw⟩ : ∃ w0, w.alloc (Obj.cells #[.slice none 0 0, .slice none 0 0, .slice none 0 0, .slice none 0 0] 75) = w0 := ⟨_, rfl⟩
  have hq : ∀ o v, #[Value.slice none 0 0, .slice none 0 0, .slice none 0 0, .slice none 0 0][o]? = some v → w0.cell? ⟨w.heap.size, o, none⟩ = some v := fun o v hv => by rw [← hw, World.cell?_alloc_at (w := w) _ _ w.heap.size o rfl]; exact hv
  have hf : ∀ o, w0.frozen? ⟨w.heap.size, o, none⟩ = false := fun o => by rw [← hw]; exact World.frozen?_alloc_at (w := w) _ _ w.heap.size o rfl
  have hw0 : w.heap.size < w0.heap.size := by rw [← hw]; simp
  rw [hw] at hb0
  have X1 := hide (without_grow a rs cap B b p capb B w0 (h.below hb0 hB) (hp.below hb0 hB) (Nat.le_trans hB hb0.size) (Nat.le_trans hB hb0.size) hl hl' hz)
  have HC := hide (hc.below hb0 hB)
  have HB0 := hide hb0
  have HZC := hide hzc
  have hz0 := hb0.size
  clear h hp hc hb0 hz hzc
  generalize withoutL rs p = st at *
  go_enter Tryz.func61, Tryz.ntmps61
  go_wp2_with fail
  refine X1.out.mono ?_
  rintro e w1 ⟨⟨v1, ts, rfl, hG, hm, hcp⟩, b1⟩
  obtain ⟨g, caps, rfl, hgl⟩ := hG.blk
  have htl : ts.length = st.length := by rw [← hm]; simp
  rw [htl] at hG ⊢
  have y1 := b1.size
  have X2 := hide (copyTree_any c cs capc B w1 (HC.out.below b1 (by omega)) (by omega) hlc HZC.out)
  have HG := hide hG
  have HM := hide (And.intro hm hcp)
  have D1 := hide b1
  clear hG hm hcp X1 b1
  go_wp2_with fail
  refine X2.out.mono ?_
  rintro e w2 ⟨rfl, ⟨pb, qb, hO⟩, b2⟩
  have y2 := b2.size
  have gH := hO.gs
  have c2 := HB0.out.trans ((D1.out.trans (b2.mono D1.out.size)).mono HB0.out.size)
  have D2 := D1.out.trans (b2.mono D1.out.size)
  have e0 := (D2.cell (p := ⟨w.heap.size, 0, none⟩) hw0).trans (hq 0 _ rfl)
  have e1 := (D2.cell (p := ⟨w.heap.size, 1, none⟩) hw0).trans (hq 1 _ rfl)
  have e2 := (D2.cell (p := ⟨w.heap.size, 2, none⟩) hw0).trans (hq 2 _ rfl)
  have e3 := (D2.cell (p := ⟨w.heap.size, 3, none⟩) hw0).trans (hq 3 _ rfl)
  have f0 := (D2.frozen (p := ⟨w.heap.size, 0, none⟩) hw0).trans (hf 0)
  have f1 := (D2.frozen (p := ⟨w.heap.size, 1, none⟩) hw0).trans (hf 1)
  have f2 := (D2.frozen (p := ⟨w.heap.size, 2, none⟩) hw0).trans (hf 2)
  have f3 := (D2.frozen (p := ⟨w.heap.size, 3, none⟩) hw0).trans (hf 3)
  have HG2 := hide (HG.out.next b2)
  have HO := hide hO
  have HC2 := hide c2
  clear hO b2 c2 D2 hq hf X2
  go_wp2
  refine bodyPost_ret (v := .agg #[.slice a rs.length cap, .slice b p.length capb, .slice (some ⟨g, 0, none⟩) st.length caps, .slice (some ⟨w1.heap.size, 0, none⟩) cs.length cs.length]) (by simp [results, Tryz.results61, go_sem, e0, e1, e2, e3]) rfl ⟨⟨g, caps, w1.heap.size, rfl, ?_⟩, ?_⟩
  · have ne : ∀ (W : World) (o : Nat) (v : Value) (x : Nat), w0.heap.size ≤ x → (W.setCell ⟨w.heap.size, o, none⟩ v).heap[x]? = W.heap[x]? := fun W o v x hx => Below.heap_setCell _ _ _ _ (by simp; omega)
    refine ⟨ts, pb, qb, w0.heap.size, w1.heap.size, w1.heap.size, w2.heap.size, HG2.out.heap (by simp) (fun x hx _ => ?_), HM.out.1, HM.out.2, HO.out.of (by simp) (fun x o hx _ _ => ?_) (fun x o hx _ _ => ?_), .inl (Nat.le_refl _), by simp, by omega, by omega, by simp; omega⟩
    · rw [ne _ _ _ _ hx, ne _ _ _ _ hx, ne _ _ _ _ hx, ne _ _ _ _ hx]
    · simp only [World.cell?]
      rw [ne _ _ _ _ (by omega), ne _ _ _ _ (by omega), ne _ _ _ _ (by omega), ne _ _ _ _ (by omega)]
    · simp only [World.frozen?]
      rw [ne _ _ _ _ (by omega), ne _ _ _ _ (by omega), ne _ _ _ _ (by omega), ne _ _ _ _ (by omega)]
  · exact (((HC2.out.setCell (by simp) _).setCell (by simp) _).setCell (by simp) _).setCell (by simp) _

set_option maxRecDepth 100000 in
set_option maxHeartbeats 4000000 in
theorem taken_any (k R : Int) (a : Option Addr) (rs : List Rs) (cap B : Nat) (b o : Nat) (p : List ByteArray) (capb : Nat) (g : Nat) (st : List Rs) (caps : Nat) (g2 : Nat) (cs : List Rs) (capc L : Nat) (w : World) (h : Rss w B a rs) (hp : Strs w B (some ⟨b, o, none⟩) p) (hB : B ≤ w.heap.size) (hT : TurnGot w L st cs g caps g2) (hL : L ≤ w.heap.size) (hl : rs.length ≤ 1048576) (hl' : p.length ≤ 1048576) (hsl : st.length ≤ 1048576) (hcl : cs.length ≤ 1048576) (hz : SzT rs)
    (HRF : ∀ W, Below w.heap.size w W → Calls Tryz.prog 112 #[.agg #[.slice a rs.length cap, .slice (some ⟨b, o, none⟩) p.length capb, .slice (some ⟨g, 0, none⟩) st.length caps, .slice (some ⟨g2, 0, none⟩) cs.length capc], .int .i64 k] W fun e w' => e = .returned (.int .i64 R) ∧ Below W.heap.size W w') :
    Calls Tryz.prog 63 #[.agg #[.slice a rs.length cap, .slice (some ⟨b, o, none⟩) p.length capb, .slice (some ⟨g, 0, none⟩) st.length caps, .slice (some ⟨g2, 0, none⟩) cs.length capc], .int .i64 k] w fun e w' => (∃ g' cap' pb' qb', e = .returned (.tuple #[.slice (some ⟨g', 0, none⟩) (takenL R rs p st cs).length cap', .int .i64 (takenC R (thereB rs p))]) ∧ OwnR w' L w'.heap.size g' (takenL R rs p st cs) pb' qb') ∧ Below L w w' := by
  have hlm : rs.length ≤ maxLen := by unfold maxLen; omega
  have hpm : p.length ≤ maxLen := by unfold maxLen; omega
  have hb0 := (Below.refl w.heap.size w).alloc (Nat.le_refl _) (Obj.cells #[.slice a rs.length cap, .slice (some ⟨b, o, none⟩) p.length capb, .slice (some ⟨g, 0, none⟩) st.length caps, .slice (some ⟨g2, 0, none⟩) cs.length capc] 75)
  have hq : ∀ o' v, #[Value.slice a rs.length cap, .slice (some ⟨b, o, none⟩) p.length capb, .slice (some ⟨g, 0, none⟩) st.length caps, .slice (some ⟨g2, 0, none⟩) cs.length capc][o']? = some v → (w.alloc (Obj.cells #[.slice a rs.length cap, .slice (some ⟨b, o, none⟩) p.length capb, .slice (some ⟨g, 0, none⟩) st.length caps, .slice (some ⟨g2, 0, none⟩) cs.length capc] 75)).cell? ⟨w.heap.size, o', none⟩ = some v := fun o' v hv => by rw [World.cell?_alloc_at (w := w) _ _ w.heap.size o' rfl]; exact hv
  have hw0 : w.heap.size < (w.alloc (Obj.cells #[.slice a rs.length cap, .slice (some ⟨b, o, none⟩) p.length capb, .slice (some ⟨g, 0, none⟩) st.length caps, .slice (some ⟨g2, 0, none⟩) cs.length capc] 75)).heap.size := by simp
  obtain ⟨w0, hw⟩ : ∃ w0, w.alloc (Obj.cells #[.slice a rs.length cap, .slice (some ⟨b, o, none⟩) p.length capb, .slice (some ⟨g, 0, none⟩) st.length caps, .slice (some ⟨g2, 0, none⟩) cs.length capc] 75) = w0 := ⟨_, rfl⟩
  rw [hw] at hb0 hq hw0
  have HB0 := hide hb0
  have HBX := hide (fun W (D : Below w0.heap.size w0 W) => show W.cell? ⟨w.heap.size, 0, none⟩ = some (.slice a rs.length cap) ∧ W.cell? ⟨w.heap.size, 1, none⟩ = some (.slice (some ⟨b, o, none⟩) p.length capb) ∧ W.cell? ⟨w.heap.size, 2, none⟩ = some (.slice (some ⟨g, 0, none⟩) st.length caps) ∧ W.cell? ⟨w.heap.size, 3, none⟩ = some (.slice (some ⟨g2, 0, none⟩) cs.length capc) from ⟨(D.cell (p := ⟨w.heap.size, 0, none⟩) hw0).trans (hq 0 _ rfl), (D.cell (p := ⟨w.heap.size, 1, none⟩) hw0).trans (hq 1 _ rfl), (D.cell (p := ⟨w.heap.size, 2, none⟩) hw0).trans (hq 2 _ rfl), (D.cell (p := ⟨w.heap.size, 3, none⟩) hw0).trans (hq 3 _ rfl)⟩)
  have X1 := hide (HRF w0 hb0)
  have HCT := hide (fun W (D : Below w.heap.size w W) => copyTree_any a rs cap B W (h.below D hB) (Nat.le_trans hB D.size) hl hz)
  have HTH := hide (fun W (D : Below w.heap.size w W) => isThere_any a rs cap B (some ⟨b, o, none⟩) p capb B W (h.below D hB) (hp.below D hB) hlm hpm (Nat.le_trans hB D.size) (Nat.le_trans hB D.size))
  have HWH := hide (fun W (D : Below w.heap.size w W) => show Calls Tryz.prog 113 #[.agg #[.slice a rs.length cap, .slice (some ⟨b, o, none⟩) p.length capb, .slice (some ⟨g, 0, none⟩) st.length caps, .slice (some ⟨g2, 0, none⟩) cs.length capc]] W fun e w' => (∃ g' cap' pb' qb', e = .returned (.slice (some ⟨g', 0, none⟩) (wholeL st p cs).length cap') ∧ OwnR w' L w'.heap.size g' (wholeL st p cs) pb' qb') ∧ Below L W w' from by
    obtain ⟨ts, pb, qb, B1, lo1, B2, hi2, h1, h2, h3, h4, h5, h6, h7, h8, h9⟩ := hT.below D
    exact whole_any a rs.length cap b o p capb g st caps g2 cs capc B1 lo1 B2 hi2 L B ts pb qb W h1 h2 h3 h4 h5 h6 h7 h8 (Nat.le_trans hL D.size) h9 (hp.below D hB) (Nat.le_trans hB D.size) hpm hsl hcl)
  have HTL := hide (show takenL R rs p st cs = if R = 0 then wholeL st p cs else rs from rfl)
  have HTC := hide (show takenC R (thereB rs p) = if R = 0 then (if thereB rs p = true then 204 else 201) else R from rfl)
  generalize takenL R rs p st cs = TL at *
  generalize takenC R (thereB rs p) = TC at *
  generalize thereB rs p = z at *
  generalize wholeL st p cs = WL at *
  clear HRF hb0 hq h hp hT
  by_cases hR : R = 0
  · subst hR
    have HTL' := hide (HTL.out.trans (if_pos rfl))
    have HTC' := hide (HTC.out.trans (if_pos rfl))
    clear HTL HTC
    obtain ⟨i0, i1, i2, i3⟩ := HBX.out w0 (Below.refl _ _)
    go_enter Tryz.func63, Tryz.ntmps63
    go_wp2_with fail
    refine X1.out.mono ?_
    rintro e w1 ⟨rfl, b1⟩
    clear i0 i1 i2 i3
    obtain ⟨d0, d1, d2, d3⟩ := HBX.out w1 b1
    have c1 := HB0.out.trans (b1.mono HB0.out.size)
    have X2 := hide (HTH.out w1 c1)
    clear X1
    go_wp2_with fail
    refine X2.out.mono ?_
    rintro e w2 ⟨rfl, b2⟩
    clear d0 d1 d2 d3
    have D2 := b1.trans (b2.mono b1.size)
    obtain ⟨d0, d1, d2, d3⟩ := HBX.out w2 D2
    have c2 := c1.trans (b2.mono c1.size)
    have X3 := hide (HWH.out w2 c2)
    clear X2 b1 b2 D2
    cases z
    · go_wp2_with fail
      refine X3.out.mono ?_
      rintro e w3 ⟨⟨g', cap', pb', qb', rfl, hO⟩, b3⟩
      have HO := hide hO
      have c3 := hide ((c2.mono hL).trans b3)
      clear hO b3 X3 d0 d1 d2 d3
      go_wp2
      go_ret2
      exact ⟨⟨g', cap', pb', qb', by rw [HTL'.out, HTC'.out]; rfl, by rw [HTL'.out]; exact HO.out⟩, c3.out⟩
    · go_wp2_with fail
      refine X3.out.mono ?_
      rintro e w3 ⟨⟨g', cap', pb', qb', rfl, hO⟩, b3⟩
      have HO := hide hO
      have c3 := hide ((c2.mono hL).trans b3)
      clear hO b3 X3 d0 d1 d2 d3
      go_wp2
      go_ret2
      exact ⟨⟨g', cap', pb', qb', by rw [HTL'.out, HTC'.out]; rfl, by rw [HTL'.out]; exact HO.out⟩, c3.out⟩
  · have HTL' := hide (HTL.out.trans (if_neg hR))
    have HTC' := hide (HTC.out.trans (if_neg hR))
    have e0 : (R == 0) = false := by rw [beq_eq_false_iff_ne]; exact hR
    clear HTL HTC
    obtain ⟨i0, i1, i2, i3⟩ := HBX.out w0 (Below.refl _ _)
    go_enter Tryz.func63, Tryz.ntmps63
    go_wp2_with fail
    refine X1.out.mono ?_
    rintro e w1 ⟨rfl, b1⟩
    clear i0 i1 i2 i3
    obtain ⟨d0, d1, d2, d3⟩ := HBX.out w1 b1
    have c1 := HB0.out.trans (b1.mono HB0.out.size)
    have X2 := hide (HCT.out w1 c1)
    clear X1
    go_wp2_with fail
    refine X2.out.mono ?_
    rintro e w2 ⟨rfl, ⟨pb', qb', hO⟩, b2⟩
    have hL2 : L ≤ w1.heap.size := Nat.le_trans hL c1.size
    have HO := hide (show OwnR w2 L w2.heap.size w1.heap.size rs pb' qb' from ⟨Nat.le_trans hL2 hO.gl, hO.gh, hO.gs, hO.fz, hO.cl, hO.rp, hO.rq, fun j hj => by obtain ⟨k1, k2⟩ := hO.bnd j hj; exact ⟨Nat.le_trans hL2 k1, k2⟩, hO.ord⟩)
    have c2 := hide ((c1.trans (b2.mono c1.size)).mono hL)
    clear hO b2 X2 d0 d1 d2 d3
    go_wp2
    go_ret2
    exact ⟨⟨w1.heap.size, rs.length, pb', qb', by rw [HTL'.out, HTC'.out]; rfl, by rw [HTL'.out]; exact HO.out⟩, c2.out⟩
end Go.Proofs.YtclnpfpaabmkcaaGreat
