/-
  What (impl.turn).whole does.
  What impl.without does.
  What impl.turnAt and (impl.turn).taken do.
  What (impl.turn).goesTooDeep and (impl.turn).hasLongBody do.
-/
import Derived.Test.YtifnolomekhmfaaGreatRowsW
import Derived.Test.YtifnolomekhmfaaGreatSpecSmall
import Derived.Deep.RegionHeld3
import Derived.Test.YtifnolomekhmfaaGreatMapHeld
import Derived.Test.YtifnolomekhmfaaGreatSpecCopyAll
import Derived.Test.YtifnolomekhmfaaGreatMathWhole
import Derived.Test.YtifnolomekhmfaaGreatSpecLess
import Derived.Test.YtifnolomekhmfaaGreatMathOrder
namespace Go.Proofs.YtifnolomekhmfaaGreat
open Go.RowKit M
set_option linter.unusedVariables false

theorem belowDW {n : Nat} {w w' : World} (h : Below n w w') : Below n w w'.drew := ⟨h.os, h.tape, h.output, h.size, h.block⟩

set_option maxRecDepth 100000 in
set_option maxHeartbeats 8000000 in
theorem whole_any (a : Option Addr) (na cap : Nat) (b o : Nat) (p : List ByteArray) (capb : Nat) (g : Nat) (st : List Rs) (caps : Nat) (g2 : Nat) (cs : List Rs) (capc B1 lo1 B2 hi2 L C : Nat) (ts : List RsT) (pb qb : Nat → Nat) (w : World) (hG : GrowR w B1 (.slice (some ⟨g, 0, none⟩) st.length caps) ts lo1) (hts : ts.map (·.r) = st) (hcp : ∀ j (hj : j < ts.length), ts[j].pc = ts[j].r.pa.length ∧ ts[j].qc = ts[j].r.ps.length) (hO : OwnR w B2 hi2 g2 cs pb qb) (hap : lo1 ≤ B2 ∨ hi2 ≤ B1) (h2 : hi2 ≤ w.heap.size) (hL1 : L ≤ B1) (hL2 : L ≤ B2) (hL3 : L ≤ w.heap.size) (hB1 : B1 ≤ w.heap.size) (hp : Strs w C (some ⟨b, o, none⟩) p) (hC : C ≤ w.heap.size) (hpl : p.length ≤ maxLen) (hsl : st.length ≤ 1048576) (hcl : cs.length ≤ 1048576) :
    Calls Tryz.prog 113 #[.agg #[.slice a na cap, .slice (some ⟨b, o, none⟩) p.length capb, .slice (some ⟨g, 0, none⟩) st.length caps, .slice (some ⟨g2, 0, none⟩) cs.length capc]] w fun e w' => (∃ g' cap' pb' qb', e = .returned (.slice (some ⟨g', 0, none⟩) (wholeL st p cs).length cap') ∧ OwnR w' L w'.heap.size g' (wholeL st p cs) pb' qb') ∧ Below L w w' := by
  have htl : ts.length = st.length := by rw [← hts]; simp
  have hg1 : B1 ≤ g ∧ g < w.heap.size := hG.own.lt g rfl
  have hgg : g2 ≠ g := by
    have h1 := hO.gl
    have h3 := hO.gh
    obtain ⟨g0, c0, e, h⟩ := hG.blk
    injection e with e1 e2 e3
    have e4 : g = g0 := congrArg Addr.block (Option.some.inj e1)
    have := hG.top
    omega
  have hb0 := (Below.refl w.heap.size w).alloc (Nat.le_refl _) (Obj.cells #[.slice a na cap, .slice (some ⟨b, o, none⟩) p.length capb, .slice (some ⟨g, 0, none⟩) st.length caps, .slice (some ⟨g2, 0, none⟩) cs.length capc] 74)
  have q0 : (w.alloc (Obj.cells #[.slice a na cap, .slice (some ⟨b, o, none⟩) p.length capb, .slice (some ⟨g, 0, none⟩) st.length caps, .slice (some ⟨g2, 0, none⟩) cs.length capc] 74)).cell? ⟨w.heap.size, 0, none⟩ = some (.slice a na cap) := by simp
  have q1 : (w.alloc (Obj.cells #[.slice a na cap, .slice (some ⟨b, o, none⟩) p.length capb, .slice (some ⟨g, 0, none⟩) st.length caps, .slice (some ⟨g2, 0, none⟩) cs.length capc] 74)).cell? ⟨w.heap.size, 1, none⟩ = some (.slice (some ⟨b, o, none⟩) p.length capb) := by simp
  have q2 : (w.alloc (Obj.cells #[.slice a na cap, .slice (some ⟨b, o, none⟩) p.length capb, .slice (some ⟨g, 0, none⟩) st.length caps, .slice (some ⟨g2, 0, none⟩) cs.length capc] 74)).cell? ⟨w.heap.size, 2, none⟩ = some (.slice (some ⟨g, 0, none⟩) st.length caps) := by simp
  have q3 : (w.alloc (Obj.cells #[.slice a na cap, .slice (some ⟨b, o, none⟩) p.length capb, .slice (some ⟨g, 0, none⟩) st.length caps, .slice (some ⟨g2, 0, none⟩) cs.length capc] 74)).cell? ⟨w.heap.size, 3, none⟩ = some (.slice (some ⟨g2, 0, none⟩) cs.length capc) := by simp
  have hw0 : w.heap.size < (w.alloc (Obj.cells #[.slice a na cap, .slice (some ⟨b, o, none⟩) p.length capb, .slice (some ⟨g, 0, none⟩) st.length caps, .slice (some ⟨g2, 0, none⟩) cs.length capc] 74)).heap.size := by simp
  obtain ⟨w0, hw⟩ : ∃ w0, w.alloc (Obj.cells #[.slice a na cap, .slice (some ⟨b, o, none⟩) p.length capb, .slice (some ⟨g, 0, none⟩) st.length caps, .slice (some ⟨g2, 0, none⟩) cs.length capc] 74) = w0 := ⟨_, rfl⟩
  rw [hw] at hb0 q0 q1 q2 q3 hw0
  have HB0 := hide hb0
  have HBX := hide (fun W (D : Below w0.heap.size w0 W) => show W.cell? ⟨w.heap.size, 0, none⟩ = some (.slice a na cap) ∧ W.cell? ⟨w.heap.size, 1, none⟩ = some (.slice (some ⟨b, o, none⟩) p.length capb) ∧ W.cell? ⟨w.heap.size, 2, none⟩ = some (.slice (some ⟨g, 0, none⟩) st.length caps) ∧ W.cell? ⟨w.heap.size, 3, none⟩ = some (.slice (some ⟨g2, 0, none⟩) cs.length capc) from ⟨(D.cell (p := ⟨w.heap.size, 0, none⟩) hw0).trans q0, (D.cell (p := ⟨w.heap.size, 1, none⟩) hw0).trans q1, (D.cell (p := ⟨w.heap.size, 2, none⟩) hw0).trans q2, (D.cell (p := ⟨w.heap.size, 3, none⟩) hw0).trans q3⟩)
  have HG := hide (hG.next hb0)
  have HO := hide (hO.below hb0)
  have hp0 := hp.below hb0 hC
  have HP := hide hp0
  have HTS := hide hts
  have HCP := hide hcp
  have hz0 := hb0.size
  clear hb0 hG hO hp hp0 hts hcp
  go_enter Tryz.func113, Tryz.ntmps113
  go_wp2
  go_loopw [3] (fun i wr => ∃ k : Nat, k ≤ st.length ∧ i = .int .i64 k ∧ (∀ j (hj : j < st.length), j < k → lessL st[j].pa p = true) ∧ Below w0.heap.size w0 wr) (fun i _ => st.length - (intOf i).toNat)
  case atStart => exact ⟨0, Nat.zero_le _, rfl, fun j _ hj => absurd hj (Nat.not_lt_zero _), Below.refl _ _⟩
  case round =>
    obtain ⟨k, hk, rfl, hok, hbe⟩ := hrel
    have HOK := hide hok
    clear hok
    have DD := belowDW hbe
    have END := hide (fun (hstop : ∀ hk : k < st.length, lessL st[k].pa p = false) => show ∀ W, Below w0.heap.size w0 W → Calls Tryz.prog 136 #[.slice (some ⟨g, 0, none⟩) st.length caps, .int .i64 k, .slice (some ⟨g2, 0, none⟩) cs.length capc] W fun e w' => (∃ g' cap' pb' qb', e = .returned (.slice (some ⟨g', 0, none⟩) (wholeL st p cs).length cap') ∧ OwnR w' L w'.heap.size g' (wholeL st p cs) pb' qb') ∧ Below L w w' from fun W D => by
      have G2 := HG.out.next D
      have O2 := HO.out.below D
      have z2 := D.size
      have own2 := G2.own
      rw [htl] at own2
      refine (insert_any B1 g st.length caps k cs.length (rsCells ts) (rsCells (tsOf cs pb qb)) g2 capc W own2 hk (by omega) (by omega) (by rw [rsCells_length, tsOf_length]) O2.cells (rsCells_one _) (rsCells_one _) (by omega) (by have := O2.gs; omega) hgg O2.fz).mono ?_
      rintro e w' ⟨v', rfl, hI⟩
      have hwh := while_at hk HOK.out hstop
      obtain ⟨g', cap', pb', qb', rfl, hR⟩ := whole_put (L := L) G2 HTS.out HCP.out O2 hap (by omega) hL1 hL2 (by omega) hk hwh hI
      refine ⟨⟨g', cap', pb', qb', rfl, hR⟩, ?_⟩
      have g3 := hI.grew
      have c0 := HB0.out.trans (D.mono HB0.out.size)
      exact ⟨g3.os.trans c0.os, g3.tape.trans c0.tape, g3.output.trans c0.output, Nat.le_trans c0.size g3.size, fun x hx => by
        rw [g3.block x (by omega) (fun e => by have := Option.some.inj e; omega)]
        exact c0.block x (by omega)⟩)
    by_cases hlt : k < st.length
    · have hj : k < ts.length := by omega
      have G2 := HG.out.next DD
      have hat := G2.at (b := g) (cap := caps) (by rw [htl]) k hj
      have hel := G2.el k hj
      have hrk : ts[k].r = st[k] := by have e := HTS.out; subst e; simp
      have hcell := hat.1
      have hrow := hel.2.2.2.1
      rw [hrk] at hcell hrow
      have hlk : st[k].pa.length ≤ maxLen := by have := (G2.caps k hj); rw [hrk] at this; omega
      have K0 := And.intro (HBX.out wr.drew DD) hcell
      have XL := hide (lessPath_any (some ⟨ts[k].p, 0, none⟩) (some ⟨b, o, none⟩) st[k].pa p ts[k].pc capb wr.drew.heap.size C wr.drew (hrow.strs' hrow.1) (HP.out.below DD (by omega)) hlk hpl)
      obtain ⟨z, hz⟩ : ∃ z, lessL st[k].pa p = z := ⟨_, rfl⟩
      rw [hz] at XL
      have HZ := hide hz
      generalize ts[k].p = pk at *
      generalize ts[k].pc = ck at *
      generalize hlk9 : st[k].pa.length = lk at *
      have e5 : decide ((k : Int) < (st.length : Int)) = true := by simp; omega
      have hi0 : (0 : Int) ≤ (k : Int) := by omega
      have hi3 : (k : Int) < (st.length : Int) := by omega
      clear hz hat hel hrow hcell G2 hrk hlk hlk9
      cases z
      · go_wp2
        refine wp_region_held_drew (S := (fun W => (W.cell? ⟨w.heap.size, 0, none⟩ = some (.slice a na cap) ∧ W.cell? ⟨w.heap.size, 1, none⟩ = some (.slice (some ⟨b, o, none⟩) p.length capb) ∧ W.cell? ⟨w.heap.size, 2, none⟩ = some (.slice (some ⟨g, 0, none⟩) st.length caps) ∧ W.cell? ⟨w.heap.size, 3, none⟩ = some (.slice (some ⟨g2, 0, none⟩) cs.length capc)) ∧ W.cell? ⟨g, k * 5, none⟩ = some (.slice (some ⟨pk, 0, none⟩) lk ck))) (by kernel_rfl) K0 (fun hHeld => ?_)
        simp only [List.size_toArray, List.length_cons, List.length_nil, Nat.reduceAdd, Array.replicate_succ, Array.replicate_zero, List.push_toArray, List.nil_append, List.cons_append]
        refine wpAnyH_take (i := 0) (v := ?_) rfl (by kernel_rfl) (by kernel_rfl) (by kernel_rfl) (fun _ _ _ h => h) (Or.inl ⟨by rfl, ?_⟩) (by assumption) ?_
        rotate_left
        · intro w hSw; (try dsimp only at hSw); go_simp; try with_reducible rfl
        simp only [Act.put, List.getElem_toArray, List.getElem_cons_zero, List.setIfInBounds_toArray, List.set_cons_zero]
        refine wpAnyH_take (i := 1) (v := ?_) rfl (by kernel_rfl) (by kernel_rfl) (by kernel_rfl) (fun _ _ _ h => h) (Or.inl ⟨by rfl, ?_⟩) (by assumption) ?_
        rotate_left
        · intro w hSw; (try dsimp only at hSw); go_simp; try with_reducible rfl
        simp only [Act.put, List.getElem_toArray, List.getElem_cons_succ, List.getElem_cons_zero, List.setIfInBounds_toArray, List.set_cons_succ, List.set_cons_zero]
        refine wpAnyH_take (i := 2) (v := ?_) rfl (by kernel_rfl) (by kernel_rfl) (by kernel_rfl) (fun _ _ _ h => h) (Or.inl ⟨by rfl, ?_⟩) (by assumption) ?_
        rotate_left
        · intro w hSw; (try dsimp only at hSw); go_simp; try with_reducible rfl
        simp only [Act.put, List.getElem_toArray, List.getElem_cons_succ, List.getElem_cons_zero, List.setIfInBounds_toArray, List.set_cons_succ, List.set_cons_zero]
        refine wpAnyH_take (i := 3) (v := ?_) rfl (by kernel_rfl) (by kernel_rfl) (by kernel_rfl) (fun _ _ _ h => h) (Or.inl ⟨by rfl, ?_⟩) (by assumption) ?_
        rotate_left
        · intro w hSw; (try dsimp only at hSw); go_simp; try with_reducible rfl
        simp only [Act.put, List.getElem_toArray, List.getElem_cons_succ, List.getElem_cons_zero, List.setIfInBounds_toArray, List.set_cons_succ, List.set_cons_zero]
        refine wpAnyH_take (i := 4) (v := .bool true) rfl (by kernel_rfl) (by kernel_rfl) (by kernel_rfl) (fun _ _ _ h => h) (Or.inl ⟨by rfl, ?_⟩) (by assumption) ?_
        · intro w hSw; (try dsimp only at hSw); go_simp
        simp only [Act.put, List.getElem_toArray, List.getElem_cons_succ, List.getElem_cons_zero, List.setIfInBounds_toArray, List.set_cons_succ, List.set_cons_zero]
        refine wpAnyH_take (i := 5) (v := .bool true) rfl (by kernel_rfl) (by kernel_rfl) (by kernel_rfl) (fun _ _ _ h => h) (Or.inl ⟨by rfl, ?_⟩) (by assumption) ?_
        · intro w hSw; (try dsimp only at hSw); go_simp
        simp only [Act.put, List.getElem_toArray, List.getElem_cons_succ, List.getElem_cons_zero, List.setIfInBounds_toArray, List.set_cons_succ, List.set_cons_zero]
        refine wpAnyH_take (i := 6) (v := ?_) rfl (by kernel_rfl) (by kernel_rfl) (by kernel_rfl) (fun _ _ _ h => h) (Or.inl ⟨by rfl, ?_⟩) (by assumption) ?_
        rotate_left
        · intro w hSw; (try dsimp only at hSw); go_simp; try with_reducible rfl
        simp only [Act.put, List.getElem_toArray, List.getElem_cons_succ, List.getElem_cons_zero, List.setIfInBounds_toArray, List.set_cons_succ, List.set_cons_zero]
        refine wpAnyH_take (i := 7) (v := ?_) rfl (by kernel_rfl) (by kernel_rfl) (by kernel_rfl) (fun _ _ _ h => h) (Or.inl ⟨by rfl, ?_⟩) (by assumption) ?_
        rotate_left
        · intro w hSw; (try dsimp only at hSw); go_simp; try with_reducible rfl
        simp only [Act.put, List.getElem_toArray, List.getElem_cons_succ, List.getElem_cons_zero, List.setIfInBounds_toArray, List.set_cons_succ, List.set_cons_zero]
        refine wpAnyH_take (i := 8) (v := ?_) rfl (by kernel_rfl) (by kernel_rfl) (by kernel_rfl) (fun _ _ _ h => h) (Or.inl ⟨by rfl, ?_⟩) (by assumption) ?_
        rotate_left
        · intro w hSw; (try dsimp only at hSw); go_simp; try with_reducible rfl
        simp only [Act.put, List.getElem_toArray, List.getElem_cons_succ, List.getElem_cons_zero, List.setIfInBounds_toArray, List.set_cons_succ, List.set_cons_zero]
        refine wpAnyH_take (i := 9) (v := ?_) rfl (by kernel_rfl) (by kernel_rfl) (by kernel_rfl) (fun _ _ _ h => h) (Or.inl ⟨by rfl, ?_⟩) (by assumption) ?_
        rotate_left
        · intro w hSw; (try dsimp only at hSw); go_simp; try with_reducible rfl
        simp only [Act.put, List.getElem_toArray, List.getElem_cons_succ, List.getElem_cons_zero, List.setIfInBounds_toArray, List.set_cons_succ, List.set_cons_zero]
        refine wpAnyH_take (i := 10) (v := ?_) rfl (by kernel_rfl) (by kernel_rfl) (by kernel_rfl) (fun _ _ _ h => h) (Or.inl ⟨by rfl, ?_⟩) (by assumption) ?_
        rotate_left
        · intro w hSw; (try dsimp only at hSw); go_simp; try with_reducible rfl
        simp only [Act.put, List.getElem_toArray, List.getElem_cons_succ, List.getElem_cons_zero, List.setIfInBounds_toArray, List.set_cons_succ, List.set_cons_zero]
        refine wpAnyH_take (i := 11) (v := ?_) rfl (by kernel_rfl) (by kernel_rfl) (by kernel_rfl) (fun _ _ _ h => h) (Or.inl ⟨by rfl, ?_⟩) (by assumption) ?_
        rotate_left
        · intro w hSw; (try dsimp only at hSw); go_simp; try with_reducible rfl
        simp only [Act.put, List.getElem_toArray, List.getElem_cons_succ, List.getElem_cons_zero, List.setIfInBounds_toArray, List.set_cons_succ, List.set_cons_zero]
        refine wpAnyH_take (i := 12) (v := ?_) rfl (by kernel_rfl) (by kernel_rfl) (by kernel_rfl) (fun _ _ _ h => h) (Or.inl ⟨by rfl, ?_⟩) (by assumption) ?_
        rotate_left
        · intro w hSw; (try dsimp only at hSw); go_simp; try with_reducible rfl
        simp only [Act.put, List.getElem_toArray, List.getElem_cons_succ, List.getElem_cons_zero, List.setIfInBounds_toArray, List.set_cons_succ, List.set_cons_zero]
        refine wpAnyH_take (i := 13) (v := ?_) rfl (by kernel_rfl) (by kernel_rfl) (by kernel_rfl) (fun _ _ _ h => h) (Or.inl ⟨by rfl, ?_⟩) (by assumption) ?_
        rotate_left
        · intro w hSw; (try dsimp only at hSw); go_simp; try with_reducible rfl
        simp only [Act.put, List.getElem_toArray, List.getElem_cons_succ, List.getElem_cons_zero, List.setIfInBounds_toArray, List.set_cons_succ, List.set_cons_zero]
        refine wpAnyH_ready (rs := [14]) (by kernel_rfl) (by simp) ?_
        refine AllReadyH.cons rfl (fun K hK => ?_) AllReadyH.nil
        go_simp
        refine XL.out.mono ?_
        rintro e wL ⟨rfl, hwL⟩
        obtain rfl := hwL
        refine hK.out _ _ K0 (fun hHeld2 => ?_)
        clear hK K hHeld
        have hHeld := hHeld2
        clear hHeld2
        simp only [List.setIfInBounds_toArray, List.set_cons_succ, List.set_cons_zero]
        refine wpAnyH_take (i := 15) (v := .bool false) rfl (by kernel_rfl) (by kernel_rfl) (by kernel_rfl) (fun _ _ _ h => h) (Or.inl ⟨by rfl, ?_⟩) (by assumption) ?_
        · intro w hSw; (try dsimp only at hSw); go_simp
        simp only [Act.put, List.getElem_toArray, List.getElem_cons_succ, List.getElem_cons_zero, List.setIfInBounds_toArray, List.set_cons_succ, List.set_cons_zero]
        refine wpAnyH_done (by kernel_rfl) ?_ _
        clear hHeld
        have XE := hide (END.out (fun _ => HZ.out) wr.drew DD)
        obtain ⟨d0, d1, d2, d3⟩ := HBX.out wr.drew DD
        clear K0 XL END
        go_wp2_with fail
        refine XE.out.mono ?_
        rintro e w9 ⟨⟨g', cap', pb', qb', rfl, hR⟩, b9⟩
        have HR := hide hR
        clear hR XE d0 d1 d2 d3
        go_wp2
        go_ret
        exact ⟨⟨g', cap', pb', qb', rfl, HR.out⟩, b9⟩
      · go_wp2
        refine wp_region_held_drew (S := (fun W => (W.cell? ⟨w.heap.size, 0, none⟩ = some (.slice a na cap) ∧ W.cell? ⟨w.heap.size, 1, none⟩ = some (.slice (some ⟨b, o, none⟩) p.length capb) ∧ W.cell? ⟨w.heap.size, 2, none⟩ = some (.slice (some ⟨g, 0, none⟩) st.length caps) ∧ W.cell? ⟨w.heap.size, 3, none⟩ = some (.slice (some ⟨g2, 0, none⟩) cs.length capc)) ∧ W.cell? ⟨g, k * 5, none⟩ = some (.slice (some ⟨pk, 0, none⟩) lk ck))) (by kernel_rfl) K0 (fun hHeld => ?_)
        simp only [List.size_toArray, List.length_cons, List.length_nil, Nat.reduceAdd, Array.replicate_succ, Array.replicate_zero, List.push_toArray, List.nil_append, List.cons_append]
        refine wpAnyH_take (i := 0) (v := ?_) rfl (by kernel_rfl) (by kernel_rfl) (by kernel_rfl) (fun _ _ _ h => h) (Or.inl ⟨by rfl, ?_⟩) (by assumption) ?_
        rotate_left
        · intro w hSw; (try dsimp only at hSw); go_simp; try with_reducible rfl
        simp only [Act.put, List.getElem_toArray, List.getElem_cons_zero, List.setIfInBounds_toArray, List.set_cons_zero]
        refine wpAnyH_take (i := 1) (v := ?_) rfl (by kernel_rfl) (by kernel_rfl) (by kernel_rfl) (fun _ _ _ h => h) (Or.inl ⟨by rfl, ?_⟩) (by assumption) ?_
        rotate_left
        · intro w hSw; (try dsimp only at hSw); go_simp; try with_reducible rfl
        simp only [Act.put, List.getElem_toArray, List.getElem_cons_succ, List.getElem_cons_zero, List.setIfInBounds_toArray, List.set_cons_succ, List.set_cons_zero]
        refine wpAnyH_take (i := 2) (v := ?_) rfl (by kernel_rfl) (by kernel_rfl) (by kernel_rfl) (fun _ _ _ h => h) (Or.inl ⟨by rfl, ?_⟩) (by assumption) ?_
        rotate_left
        · intro w hSw; (try dsimp only at hSw); go_simp; try with_reducible rfl
        simp only [Act.put, List.getElem_toArray, List.getElem_cons_succ, List.getElem_cons_zero, List.setIfInBounds_toArray, List.set_cons_succ, List.set_cons_zero]
        refine wpAnyH_take (i := 3) (v := ?_) rfl (by kernel_rfl) (by kernel_rfl) (by kernel_rfl) (fun _ _ _ h => h) (Or.inl ⟨by rfl, ?_⟩) (by assumption) ?_
        rotate_left
        · intro w hSw; (try dsimp only at hSw); go_simp; try with_reducible rfl
        simp only [Act.put, List.getElem_toArray, List.getElem_cons_succ, List.getElem_cons_zero, List.setIfInBounds_toArray, List.set_cons_succ, List.set_cons_zero]
        refine wpAnyH_take (i := 4) (v := .bool true) rfl (by kernel_rfl) (by kernel_rfl) (by kernel_rfl) (fun _ _ _ h => h) (Or.inl ⟨by rfl, ?_⟩) (by assumption) ?_
        · intro w hSw; (try dsimp only at hSw); go_simp
        simp only [Act.put, List.getElem_toArray, List.getElem_cons_succ, List.getElem_cons_zero, List.setIfInBounds_toArray, List.set_cons_succ, List.set_cons_zero]
        refine wpAnyH_take (i := 5) (v := .bool true) rfl (by kernel_rfl) (by kernel_rfl) (by kernel_rfl) (fun _ _ _ h => h) (Or.inl ⟨by rfl, ?_⟩) (by assumption) ?_
        · intro w hSw; (try dsimp only at hSw); go_simp
        simp only [Act.put, List.getElem_toArray, List.getElem_cons_succ, List.getElem_cons_zero, List.setIfInBounds_toArray, List.set_cons_succ, List.set_cons_zero]
        refine wpAnyH_take (i := 6) (v := ?_) rfl (by kernel_rfl) (by kernel_rfl) (by kernel_rfl) (fun _ _ _ h => h) (Or.inl ⟨by rfl, ?_⟩) (by assumption) ?_
        rotate_left
        · intro w hSw; (try dsimp only at hSw); go_simp; try with_reducible rfl
        simp only [Act.put, List.getElem_toArray, List.getElem_cons_succ, List.getElem_cons_zero, List.setIfInBounds_toArray, List.set_cons_succ, List.set_cons_zero]
        refine wpAnyH_take (i := 7) (v := ?_) rfl (by kernel_rfl) (by kernel_rfl) (by kernel_rfl) (fun _ _ _ h => h) (Or.inl ⟨by rfl, ?_⟩) (by assumption) ?_
        rotate_left
        · intro w hSw; (try dsimp only at hSw); go_simp; try with_reducible rfl
        simp only [Act.put, List.getElem_toArray, List.getElem_cons_succ, List.getElem_cons_zero, List.setIfInBounds_toArray, List.set_cons_succ, List.set_cons_zero]
        refine wpAnyH_take (i := 8) (v := ?_) rfl (by kernel_rfl) (by kernel_rfl) (by kernel_rfl) (fun _ _ _ h => h) (Or.inl ⟨by rfl, ?_⟩) (by assumption) ?_
        rotate_left
        · intro w hSw; (try dsimp only at hSw); go_simp; try with_reducible rfl
        simp only [Act.put, List.getElem_toArray, List.getElem_cons_succ, List.getElem_cons_zero, List.setIfInBounds_toArray, List.set_cons_succ, List.set_cons_zero]
        refine wpAnyH_take (i := 9) (v := ?_) rfl (by kernel_rfl) (by kernel_rfl) (by kernel_rfl) (fun _ _ _ h => h) (Or.inl ⟨by rfl, ?_⟩) (by assumption) ?_
        rotate_left
        · intro w hSw; (try dsimp only at hSw); go_simp; try with_reducible rfl
        simp only [Act.put, List.getElem_toArray, List.getElem_cons_succ, List.getElem_cons_zero, List.setIfInBounds_toArray, List.set_cons_succ, List.set_cons_zero]
        refine wpAnyH_take (i := 10) (v := ?_) rfl (by kernel_rfl) (by kernel_rfl) (by kernel_rfl) (fun _ _ _ h => h) (Or.inl ⟨by rfl, ?_⟩) (by assumption) ?_
        rotate_left
        · intro w hSw; (try dsimp only at hSw); go_simp; try with_reducible rfl
        simp only [Act.put, List.getElem_toArray, List.getElem_cons_succ, List.getElem_cons_zero, List.setIfInBounds_toArray, List.set_cons_succ, List.set_cons_zero]
        refine wpAnyH_take (i := 11) (v := ?_) rfl (by kernel_rfl) (by kernel_rfl) (by kernel_rfl) (fun _ _ _ h => h) (Or.inl ⟨by rfl, ?_⟩) (by assumption) ?_
        rotate_left
        · intro w hSw; (try dsimp only at hSw); go_simp; try with_reducible rfl
        simp only [Act.put, List.getElem_toArray, List.getElem_cons_succ, List.getElem_cons_zero, List.setIfInBounds_toArray, List.set_cons_succ, List.set_cons_zero]
        refine wpAnyH_take (i := 12) (v := ?_) rfl (by kernel_rfl) (by kernel_rfl) (by kernel_rfl) (fun _ _ _ h => h) (Or.inl ⟨by rfl, ?_⟩) (by assumption) ?_
        rotate_left
        · intro w hSw; (try dsimp only at hSw); go_simp; try with_reducible rfl
        simp only [Act.put, List.getElem_toArray, List.getElem_cons_succ, List.getElem_cons_zero, List.setIfInBounds_toArray, List.set_cons_succ, List.set_cons_zero]
        refine wpAnyH_take (i := 13) (v := ?_) rfl (by kernel_rfl) (by kernel_rfl) (by kernel_rfl) (fun _ _ _ h => h) (Or.inl ⟨by rfl, ?_⟩) (by assumption) ?_
        rotate_left
        · intro w hSw; (try dsimp only at hSw); go_simp; try with_reducible rfl
        simp only [Act.put, List.getElem_toArray, List.getElem_cons_succ, List.getElem_cons_zero, List.setIfInBounds_toArray, List.set_cons_succ, List.set_cons_zero]
        refine wpAnyH_ready (rs := [14]) (by kernel_rfl) (by simp) ?_
        refine AllReadyH.cons rfl (fun K hK => ?_) AllReadyH.nil
        go_simp
        refine XL.out.mono ?_
        rintro e wL ⟨rfl, hwL⟩
        obtain rfl := hwL
        refine hK.out _ _ K0 (fun hHeld2 => ?_)
        clear hK K hHeld
        have hHeld := hHeld2
        clear hHeld2
        simp only [List.setIfInBounds_toArray, List.set_cons_succ, List.set_cons_zero]
        refine wpAnyH_take (i := 15) (v := .bool true) rfl (by kernel_rfl) (by kernel_rfl) (by kernel_rfl) (fun _ _ _ h => h) (Or.inl ⟨by rfl, ?_⟩) (by assumption) ?_
        · intro w hSw; (try dsimp only at hSw); go_simp
        simp only [Act.put, List.getElem_toArray, List.getElem_cons_succ, List.getElem_cons_zero, List.setIfInBounds_toArray, List.set_cons_succ, List.set_cons_zero]
        refine wpAnyH_done (by kernel_rfl) ?_ _
        clear hHeld
        clear K0 XL END
        go_wp2
        go_roundw
        case rel => exact ⟨k + 1, by omega, by go_num, fun j hj hjk => by
                      by_cases e : j = k
                      · subst e; exact HZ.out
                      · exact HOK.out j hj (by omega), DD⟩
        case measure => simp [intOf]; omega
    · have e5 : decide ((k : Int) < (st.length : Int)) = false := by simp; omega
      have K0 := HBX.out wr.drew DD
      go_wp2
      refine wp_region_held_drew (S := (fun W => W.cell? ⟨w.heap.size, 0, none⟩ = some (.slice a na cap) ∧ W.cell? ⟨w.heap.size, 1, none⟩ = some (.slice (some ⟨b, o, none⟩) p.length capb) ∧ W.cell? ⟨w.heap.size, 2, none⟩ = some (.slice (some ⟨g, 0, none⟩) st.length caps) ∧ W.cell? ⟨w.heap.size, 3, none⟩ = some (.slice (some ⟨g2, 0, none⟩) cs.length capc))) (by kernel_rfl) K0 (fun hHeld => ?_)
      simp only [List.size_toArray, List.length_cons, List.length_nil, Nat.reduceAdd, Array.replicate_succ, Array.replicate_zero, List.push_toArray, List.nil_append, List.cons_append]
      refine wpAnyH_take (i := 0) (v := ?_) rfl (by kernel_rfl) (by kernel_rfl) (by kernel_rfl) (fun _ _ _ h => h) (Or.inl ⟨by rfl, ?_⟩) (by assumption) ?_
      rotate_left
      · intro w hSw; (try dsimp only at hSw); go_simp; try with_reducible rfl
      simp only [Act.put, List.getElem_toArray, List.getElem_cons_zero, List.setIfInBounds_toArray, List.set_cons_zero]
      refine wpAnyH_take (i := 1) (v := ?_) rfl (by kernel_rfl) (by kernel_rfl) (by kernel_rfl) (fun _ _ _ h => h) (Or.inl ⟨by rfl, ?_⟩) (by assumption) ?_
      rotate_left
      · intro w hSw; (try dsimp only at hSw); go_simp; try with_reducible rfl
      simp only [Act.put, List.getElem_toArray, List.getElem_cons_succ, List.getElem_cons_zero, List.setIfInBounds_toArray, List.set_cons_succ, List.set_cons_zero]
      refine wpAnyH_take (i := 2) (v := ?_) rfl (by kernel_rfl) (by kernel_rfl) (by kernel_rfl) (fun _ _ _ h => h) (Or.inl ⟨by rfl, ?_⟩) (by assumption) ?_
      rotate_left
      · intro w hSw; (try dsimp only at hSw); go_simp; try with_reducible rfl
      simp only [Act.put, List.getElem_toArray, List.getElem_cons_succ, List.getElem_cons_zero, List.setIfInBounds_toArray, List.set_cons_succ, List.set_cons_zero]
      refine wpAnyH_take (i := 3) (v := ?_) rfl (by kernel_rfl) (by kernel_rfl) (by kernel_rfl) (fun _ _ _ h => h) (Or.inl ⟨by rfl, ?_⟩) (by assumption) ?_
      rotate_left
      · intro w hSw; (try dsimp only at hSw); go_simp; try with_reducible rfl
      simp only [Act.put, List.getElem_toArray, List.getElem_cons_succ, List.getElem_cons_zero, List.setIfInBounds_toArray, List.set_cons_succ, List.set_cons_zero]
      refine wpAnyH_take (i := 4) (v := .bool false) rfl (by kernel_rfl) (by kernel_rfl) (by kernel_rfl) (fun _ _ _ h => h) (Or.inl ⟨by rfl, ?_⟩) (by assumption) ?_
      · intro w hSw; (try dsimp only at hSw); go_simp
      simp only [Act.put, List.getElem_toArray, List.getElem_cons_succ, List.getElem_cons_zero, List.setIfInBounds_toArray, List.set_cons_succ, List.set_cons_zero]
      refine wpAnyH_take (i := 5) (v := .bool false) rfl (by kernel_rfl) (by kernel_rfl) (by kernel_rfl) (fun _ _ _ h => h) (Or.inl ⟨by rfl, ?_⟩) (by assumption) ?_
      · intro w hSw; (try dsimp only at hSw); go_simp
      simp only [Act.put, List.getElem_toArray, List.getElem_cons_succ, List.getElem_cons_zero, List.setIfInBounds_toArray, List.set_cons_succ, List.set_cons_zero]
      refine wpAnyH_take (i := 6) (v := undef) rfl (by kernel_rfl) (by kernel_rfl) (by kernel_rfl) (fun _ _ _ h => h) (Or.inr ⟨by rfl, rfl⟩) (by assumption) ?_
      simp only [Act.put, List.getElem_toArray, List.getElem_cons_succ, List.getElem_cons_zero, List.setIfInBounds_toArray, List.set_cons_succ, List.set_cons_zero]
      refine wpAnyH_take (i := 7) (v := undef) rfl (by kernel_rfl) (by kernel_rfl) (by kernel_rfl) (fun _ _ _ h => h) (Or.inr ⟨by rfl, rfl⟩) (by assumption) ?_
      simp only [Act.put, List.getElem_toArray, List.getElem_cons_succ, List.getElem_cons_zero, List.setIfInBounds_toArray, List.set_cons_succ, List.set_cons_zero]
      refine wpAnyH_take (i := 8) (v := undef) rfl (by kernel_rfl) (by kernel_rfl) (by kernel_rfl) (fun _ _ _ h => h) (Or.inr ⟨by rfl, rfl⟩) (by assumption) ?_
      simp only [Act.put, List.getElem_toArray, List.getElem_cons_succ, List.getElem_cons_zero, List.setIfInBounds_toArray, List.set_cons_succ, List.set_cons_zero]
      refine wpAnyH_take (i := 9) (v := undef) rfl (by kernel_rfl) (by kernel_rfl) (by kernel_rfl) (fun _ _ _ h => h) (Or.inr ⟨by rfl, rfl⟩) (by assumption) ?_
      simp only [Act.put, List.getElem_toArray, List.getElem_cons_succ, List.getElem_cons_zero, List.setIfInBounds_toArray, List.set_cons_succ, List.set_cons_zero]
      refine wpAnyH_take (i := 10) (v := undef) rfl (by kernel_rfl) (by kernel_rfl) (by kernel_rfl) (fun _ _ _ h => h) (Or.inr ⟨by rfl, rfl⟩) (by assumption) ?_
      simp only [Act.put, List.getElem_toArray, List.getElem_cons_succ, List.getElem_cons_zero, List.setIfInBounds_toArray, List.set_cons_succ, List.set_cons_zero]
      refine wpAnyH_take (i := 11) (v := undef) rfl (by kernel_rfl) (by kernel_rfl) (by kernel_rfl) (fun _ _ _ h => h) (Or.inr ⟨by rfl, rfl⟩) (by assumption) ?_
      simp only [Act.put, List.getElem_toArray, List.getElem_cons_succ, List.getElem_cons_zero, List.setIfInBounds_toArray, List.set_cons_succ, List.set_cons_zero]
      refine wpAnyH_take (i := 12) (v := undef) rfl (by kernel_rfl) (by kernel_rfl) (by kernel_rfl) (fun _ _ _ h => h) (Or.inr ⟨by rfl, rfl⟩) (by assumption) ?_
      simp only [Act.put, List.getElem_toArray, List.getElem_cons_succ, List.getElem_cons_zero, List.setIfInBounds_toArray, List.set_cons_succ, List.set_cons_zero]
      refine wpAnyH_take (i := 13) (v := undef) rfl (by kernel_rfl) (by kernel_rfl) (by kernel_rfl) (fun _ _ _ h => h) (Or.inr ⟨by rfl, rfl⟩) (by assumption) ?_
      simp only [Act.put, List.getElem_toArray, List.getElem_cons_succ, List.getElem_cons_zero, List.setIfInBounds_toArray, List.set_cons_succ, List.set_cons_zero]
      refine wpAnyH_take (i := 14) (v := undef) rfl (by kernel_rfl) (by kernel_rfl) (by kernel_rfl) (fun _ _ _ h => h) (Or.inr ⟨by rfl, rfl⟩) (by assumption) ?_
      simp only [Act.put, List.getElem_toArray, List.getElem_cons_succ, List.getElem_cons_zero, List.setIfInBounds_toArray, List.set_cons_succ, List.set_cons_zero]
      refine wpAnyH_take (i := 15) (v := .bool false) rfl (by kernel_rfl) (by kernel_rfl) (by kernel_rfl) (fun _ _ _ h => h) (Or.inl ⟨by rfl, ?_⟩) (by assumption) ?_
      · intro w hSw; (try dsimp only at hSw); go_simp
      simp only [Act.put, List.getElem_toArray, List.getElem_cons_succ, List.getElem_cons_zero, List.setIfInBounds_toArray, List.set_cons_succ, List.set_cons_zero]
      refine wpAnyH_done (by kernel_rfl) ?_ _
      clear hHeld
      have XE := hide (END.out (fun h => absurd h hlt) wr.drew DD)
      obtain ⟨d0, d1, d2, d3⟩ := K0
      clear END
      go_wp2_with fail
      refine XE.out.mono ?_
      rintro e w9 ⟨⟨g', cap', pb', qb', rfl, hR⟩, b9⟩
      have HR := hide hR
      clear hR XE d0 d1 d2 d3
      go_wp2
      go_ret
      exact ⟨⟨g', cap', pb', qb', rfl, HR.out⟩, b9⟩
end Go.Proofs.YtifnolomekhmfaaGreat
namespace Go.Proofs.YtifnolomekhmfaaGreat
open Go.RowKit M
set_option linter.unusedVariables false
set_option linter.unusedSimpArgs false

set_option maxRecDepth 100000 in
set_option maxHeartbeats 4000000 in
theorem without_grow (a : Option Addr) (rs : List Rs) (cap B : Nat) (b : Option Addr) (p : List ByteArray) (cap' C : Nat) (w : World) (h : Rss w B a rs) (h' : Strs w C b p) (hB : B ≤ w.heap.size) (hC : C ≤ w.heap.size) (hl : rs.length ≤ 1048576) (hl' : p.length ≤ 1048576) (hs : ∀ r ∈ rs, r.pa.length ≤ 1048576 ∧ r.ps.length ≤ 1048576 ∧ (∀ s ∈ r.pa, s.size ≤ 281474976710656) ∧ r.bo.size ≤ 281474976710656 ∧ ∀ p ∈ r.ps, p.1.size ≤ 281474976710656 ∧ p.2.1.size ≤ 281474976710656 ∧ p.2.2.size ≤ 281474976710656) :
    Calls Tryz.prog 64 #[.slice a rs.length cap, .slice b p.length cap'] w fun e w' => (∃ (v : Value) (ts : List RsT), e = .returned v ∧ GrowR w' w.heap.size v ts w'.heap.size ∧ ts.map (·.r) = withoutL rs p ∧ (∀ j (hj : j < ts.length), ts[j].pc = ts[j].r.pa.length ∧ ts[j].qc = ts[j].r.ps.length)) ∧ Below w.heap.size w w' := by
  have HS := hide hs
  have hpm : p.length ≤ maxLen := by unfold maxLen; omega
  clear hs
  go_enter Tryz.func64, Tryz.ntmps64
  go_wp2
  go_loopw [5, 11] (fun v i wr => ∃ (k lo : Nat) (ts : List RsT), k ≤ rs.length ∧ i = .int .i64 k ∧ GrowR wr w.heap.size v ts lo ∧ w.heap.size ≤ lo ∧ ts.map (·.r) = (rs.take k).filter (fun r => !deepB p r) ∧ (∀ j (hj : j < ts.length), ts[j].pc = ts[j].r.pa.length ∧ ts[j].qc = ts[j].r.ps.length) ∧ Below w.heap.size w wr) (fun _ i _ => rs.length - (intOf i).toNat)
  case atStart => exact ⟨0, w.heap.size + 1, [], Nat.zero_le _, rfl, GrowR.made w w.heap.size (Nat.le_refl _), by omega, rfl, fun j hj => absurd hj (Nat.not_lt_zero _), (Below.refl _ _).alloc (Nat.le_refl _) _⟩
  case round =>
    obtain ⟨k, lo, ts, hk, rfl, hG, hlo, hts, hcc, hbe⟩ := hrel
    have HG := hide hG
    have HTS := hide hts
    have HCC := hide hcc
    clear hG hts hcc
    by_cases hlt : k < rs.length
    · obtain ⟨b1, o1, rfl, hb1, hcc⟩ := (h.below hbe hB) (by omega)
      obtain ⟨pa, pc, qa, qc, ⟨hc0, hc1, hc2, hc3, hc4⟩, hin⟩ := hcc k hlt
      clear hcc
      have hsk := HS.out _ (List.getElem_mem hlt)
      have HBA := hide ((Below.refl wr.heap.size wr).alloc (Nat.le_refl _) (Obj.cells #[.slice pa (rs[k]).pa.length pc, .bool (rs[k]).co, .string (rs[k]).bo, .int .i64 (rs[k]).ve, .slice qa (rs[k]).ps.length qc] 62))
      have hin2 := hin.below HBA.out (Nat.le_trans hB hbe.size)
      have hp2 := (h'.below hbe hC).below HBA.out (Nat.le_trans hC hbe.size)
      have hkm : (rs[k]).pa.length ≤ maxLen := Nat.le_trans hin2.pl hin2.pm
      have HQ1 := hide (isDeep_any pa b rs[k].pa p pc cap' B C _ hin2.ph hp2 hkm hpm hin2.pl hin2.pm)
      have HI := hide hin2
      have HSK := hide hsk
      have HD := hide (show deepB p rs[k] = deepP rs[k].pa p from rfl)
      generalize deepP rs[k].pa p = z1 at *
      clear hin hin2 hsk hp2 hkm
      -- the one that is not taken
      have no : z1 = true → Hid ((rs.take (k + 1)).filter (fun r => !deepB p r) = (rs.take k).filter (fun r => !deepB p r)) := fun e1 => filter_no (q := (fun r => !deepB p r)) hlt (by simp only [HD.out, e1, Bool.not_true, Bool.not_false])
      have yes : z1 = false → Hid ((rs.take (k + 1)).filter (fun r => !deepB p r) = (rs.take k).filter (fun r => !deepB p r) ++ [rs[k]]) := fun e1 => filter_yes (q := (fun r => !deepB p r)) hlt (by simp only [HD.out, e1, Bool.not_true, Bool.not_false])
      have NO := hide no
      have YES := hide yes
      have HL := hide (show ts.length ≤ rs.length by
        have e1 : ts.length = ((rs.take k).filter (fun r => !deepB p r)).length := by have := congrArg List.length HTS.out; simpa using this
        rw [e1]; exact filter_len rs k)
      clear no yes HD
      by_cases ez : z1 = true
      · subst ez
        have HF := NO.out rfl
        clear NO YES HSK
        go_wp2_with fail
        refine HQ1.out.mono ?_
        rintro e w1 ⟨rfl, hb3⟩
        have b4 := HBA.out.trans (hb3 _)
        have c1 := hbe.trans (b4.mono hbe.size)
        have HG2 := hide (HG.out.next b4)
        clear hb3 b4 HQ1
        go_wp2
        go_roundw
        case rel => exact ⟨k + 1, lo, ts, by omega, by go_num, HG2.out, hlo, by rw [HF.out]; exact HTS.out, HCC.out, c1⟩
        case measure => simp [intOf]; omega
      · obtain rfl : z1 = false := by cases z1 <;> simp at ez ⊢
        clear ez
        have HF := YES.out rfl
        clear NO YES
        go_wp2_with fail
        refine HQ1.out.mono ?_
        rintro e w2 ⟨rfl, hall⟩
        have b4 := HBA.out.trans (hall _)
        have HI2 := hide (HI.out.below (hall B) (Nat.le_refl _))
        clear HQ1
        have hc5 : ∀ o v, (wr.alloc (Obj.cells #[.slice pa (rs[k]).pa.length pc, .bool (rs[k]).co, .string (rs[k]).bo, .int .i64 (rs[k]).ve, .slice qa (rs[k]).ps.length qc] 62)).cell? ⟨wr.heap.size, o, none⟩ = some v → w2.cell? ⟨wr.heap.size, o, none⟩ = some v := fun o v hv => ((hall (wr.heap.size + 1)).cell (p := ⟨wr.heap.size, o, none⟩) (Nat.lt_succ_self _)).trans hv
        have d0 := hc5 0 (.slice pa (rs[k]).pa.length pc) (by simp)
        have d1 := hc5 1 (.bool (rs[k]).co) (by simp)
        have d2 := hc5 2 (.string (rs[k]).bo) (by simp)
        have d3 := hc5 3 (.int .i64 (rs[k]).ve) (by simp)
        have d4 := hc5 4 (.slice qa (rs[k]).ps.length qc) (by simp)
        have c1 := hbe.trans (b4.mono hbe.size)
        have HG2 := hide (HG.out.next b4)
        have hlo2 : lo ≤ w2.heap.size := Nat.le_trans HG.out.top b4.size
        have HCp := hide (copyResC_any rs[k] pa pc qa qc B w2 HI2.out (Nat.le_trans hB c1.size) HSK.out.1 HSK.out.2.1 HSK.out.2.2.1 HSK.out.2.2.2.1 HSK.out.2.2.2.2)
        have hlen := HL.out
        have hk1 := HSK.out.1
        have hk2 := HSK.out.2.1
        clear hc5 hall b4 HI2
        go_wp2_with fail
        refine HCp.out.mono ?_
        rintro e w3 ⟨⟨pp, qq, rfl, hpp, hpq, r3, q3⟩, b5⟩
        have c3 := c1.trans (b5.mono c1.size)
        have bA := (Below.refl w3.heap.size w3).alloc (Nat.le_refl _) (Obj.cells #[.slice (some ⟨pp, 0, none⟩) (rs[k]).pa.length (rs[k]).pa.length, .bool (rs[k]).co, .string (rs[k]).bo, .int .i64 (rs[k]).ve, .slice (some ⟨qq, 0, none⟩) (rs[k]).ps.length (rs[k]).ps.length] 62)
        have HG4 := hide ((HG2.out.next b5).next bA)
        have HR := hide (r3.below bA)
        have HQ := hide (q3.below bA)
        have HC4 := hide (c3.trans (bA.mono c3.size))
        clear r3 q3 b5 bA c1 c3 d0 d1 d2 d3 d4 HCp
        go_wp2_with (at_builtin; refine wp_append_res rfl _ _ rfl w.heap.size lo _ ts rfl HG4.out w3.heap.size ⟨rs[k], pp, (rs[k]).pa.length, qq, (rs[k]).ps.length⟩ rfl ?_ ?_ hlo (Nat.le_trans hlo2 hpp) hpq HR.out HQ.out ?_ ?_)
        · exact ⟨by simp, by simp, by simp, by simp, by simp⟩
        · omega
        · exact ⟨by unfold maxLen; omega, by unfold maxLen; omega⟩
        · intro v' w' hG' hB'
          have HG' := hide hG'
          have HC' := hide (HC4.out.trans hB')
          clear hG' hB'
          go_wp2
          go_roundw
          case rel => exact ⟨k + 1, _, _, by omega, by go_num, HG'.out, HC'.out.size, by rw [HF.out, List.map_append, HTS.out]; rfl, caps_snoc HCC.out, HC'.out⟩
          case measure => simp [intOf]; omega
    · have HF := hide (filter_end (q := (fun r => !deepB p r)) hlt)
      have HM := hide (show ts.map (·.r) = withoutL rs p by rw [HTS.out, HF.out]; rfl)
      have HG3 := hide (HG.out.up HG.out.top (Nat.le_refl _))
      clear HTS HF
      go_wp2
      go_ret
      exact ⟨⟨_, ts, rfl, HG3.out, HM.out, HCC.out⟩, hbe⟩
end Go.Proofs.YtifnolomekhmfaaGreat
namespace Go.Proofs.YtifnolomekhmfaaGreat
open Go.RowKit M
set_option linter.unusedVariables false

/-- What stays and what comes, each made by one call, from L on. -/
def TurnGot (W : World) (L : Nat) (st cs : List Rs) (g caps g2 : Nat) : Prop :=
  ∃ (ts : List RsT) (pb qb : Nat → Nat) (B1 lo1 B2 hi2 : Nat), GrowR W B1 (.slice (some ⟨g, 0, none⟩) st.length caps) ts lo1 ∧ ts.map (·.r) = st ∧ (∀ j (hj : j < ts.length), ts[j].pc = ts[j].r.pa.length ∧ ts[j].qc = ts[j].r.ps.length) ∧ OwnR W B2 hi2 g2 cs pb qb ∧ (lo1 ≤ B2 ∨ hi2 ≤ B1) ∧ hi2 ≤ W.heap.size ∧ L ≤ B1 ∧ L ≤ B2 ∧ B1 ≤ W.heap.size
theorem TurnGot.below {W W' : World} {L : Nat} {st cs : List Rs} {g caps g2 : Nat} (h : TurnGot W L st cs g caps g2) (hb : Below W.heap.size W W') : TurnGot W' L st cs g caps g2 := by
  obtain ⟨ts, pb, qb, B1, lo1, B2, hi2, h1, h2, h3, h4, h5, h6, h7, h8, h9⟩ := h
  exact ⟨ts, pb, qb, B1, lo1, B2, hi2, h1.next hb, h2, h3, h4.below hb, h5, Nat.le_trans h6 hb.size, h7, h8, Nat.le_trans h9 hb.size⟩
theorem TurnGot.rss {W : World} {L : Nat} {st cs : List Rs} {g caps g2 : Nat} (h : TurnGot W L st cs g caps g2) (hs : ∀ r ∈ cs, r.pa.length ≤ maxLen ∧ r.ps.length ≤ maxLen) : Rss W W.heap.size (some ⟨g, 0, none⟩) st ∧ Rss W W.heap.size (some ⟨g2, 0, none⟩) cs := by
  obtain ⟨ts, pb, qb, B1, lo1, B2, hi2, h1, h2, h3, h4, h5, h6, h7, h8, h9⟩ := h
  refine ⟨?_, h4.rss hs h6⟩
  obtain ⟨b, cap, hv, hr⟩ := h1.rss (Nat.le_refl _)
  injection hv with e1 e2 e3
  rw [h2, ← e1] at hr
  exact hr
def takenL (R : Int) (rs : List Rs) (p : List ByteArray) (st cs : List Rs) : List Rs := if R = 0 then wholeL st p cs else rs
def takenC (R : Int) (z : Bool) : Int := if R = 0 then (if z = true then 204 else 201) else R

set_option maxRecDepth 100000 in
set_option maxHeartbeats 4000000 in
theorem turnAt_any (a : Option Addr) (rs : List Rs) (cap B : Nat) (b : Option Addr) (p : List ByteArray) (capb : Nat) (c : Option Addr) (cs : List Rs) (capc : Nat) (w : World) (h : Rss w B a rs) (hp : Strs w B b p) (hc : Rss w B c cs) (hB : B ≤ w.heap.size) (hl : rs.length ≤ 1048576) (hl' : p.length ≤ 1048576) (hlc : cs.length ≤ 1048576) (hz : SzT rs) (hzc : SzT cs) :
    Calls Tryz.prog 60 #[.slice a rs.length cap, .slice b p.length capb, .slice c cs.length capc] w fun e w' => (∃ g caps g2 : Nat, e = .returned (.agg #[.slice a rs.length cap, .slice b p.length capb, .slice (some ⟨g, 0, none⟩) (withoutL rs p).length caps, .slice (some ⟨g2, 0, none⟩) cs.length cs.length]) ∧ TurnGot w' w.heap.size (withoutL rs p) cs g caps g2) ∧ Below w.heap.size w w' := by
  have hb0 := (Below.refl w.heap.size w).alloc (Nat.le_refl _) (Obj.cells #[.slice none 0 0, .slice none 0 0, .slice none 0 0, .slice none 0 0] 74)
  obtain ⟨w0, hw⟩ : ∃ w0, w.alloc (Obj.cells #[.slice none 0 0, .slice none 0 0, .slice none 0 0, .slice none 0 0] 74) = w0 := ⟨_, rfl⟩
  have hq : ∀ o v, #[Value.slice none 0 0, .slice none 0 0, .slice none 0 0, .slice none 0 0][o]? = some v → w0.cell? ⟨w.heap.size, o, none⟩ = some v := fun o v hv => by rw [← hw, World.cell?_alloc_at (w := w) _ _ w.heap.size o rfl]; exact hv
  have hf : ∀ o, w0.frozen? ⟨w.heap.size, o, none⟩ = false := fun o => by rw [← hw]; exact World.frozen?_alloc_at (w := w) _ _ w.heap.size o rfl
  have hw0 : w.heap.size < w0.heap.size := by rw [← hw]; simp
  rw [hw] at hb0
  have X1 := hide (without_grow a rs cap B b p capb B w0 (h.below hb0 hB) (hp.below hb0 hB) (Nat.le_trans hB hb0.size) (Nat.le_trans hB hb0.size) hl hl' hz)
  have HC := hide (hc.below hb0 hB)
  have HB0 := hide hb0
  have HZC := hide hzc
  have hz0 := hb0.size
  clear h hp hc hb0 hz hzc
  generalize withoutL rs p = st at *
  go_enter Tryz.func60, Tryz.ntmps60
  go_wp2_with fail
  refine X1.out.mono ?_
  rintro e w1 ⟨⟨v1, ts, rfl, hG, hm, hcp⟩, b1⟩
  obtain ⟨g, caps, rfl, hgl⟩ := hG.blk
  have htl : ts.length = st.length := by rw [← hm]; simp
  rw [htl] at hG ⊢
  have y1 := b1.size
  have X2 := hide (copyTree_any c cs capc B w1 (HC.out.below b1 (by omega)) (by omega) hlc HZC.out)
  have HG := hide hG
  have HM := hide (And.intro hm hcp)
  have D1 := hide b1
  clear hG hm hcp X1 b1
  go_wp2_with fail
  refine X2.out.mono ?_
  rintro e w2 ⟨rfl, ⟨pb, qb, hO⟩, b2⟩
  have y2 := b2.size
  have gH := hO.gs
  have c2 := HB0.out.trans ((D1.out.trans (b2.mono D1.out.size)).mono HB0.out.size)
  have D2 := D1.out.trans (b2.mono D1.out.size)
  have e0 := (D2.cell (p := ⟨w.heap.size, 0, none⟩) hw0).trans (hq 0 _ rfl)
  have e1 := (D2.cell (p := ⟨w.heap.size, 1, none⟩) hw0).trans (hq 1 _ rfl)
  have e2 := (D2.cell (p := ⟨w.heap.size, 2, none⟩) hw0).trans (hq 2 _ rfl)
  have e3 := (D2.cell (p := ⟨w.heap.size, 3, none⟩) hw0).trans (hq 3 _ rfl)
  have f0 := (D2.frozen (p := ⟨w.heap.size, 0, none⟩) hw0).trans (hf 0)
  have f1 := (D2.frozen (p := ⟨w.heap.size, 1, none⟩) hw0).trans (hf 1)
  have f2 := (D2.frozen (p := ⟨w.heap.size, 2, none⟩) hw0).trans (hf 2)
  have f3 := (D2.frozen (p := ⟨w.heap.size, 3, none⟩) hw0).trans (hf 3)
  have HG2 := hide (HG.out.next b2)
  have HO := hide hO
  have HC2 := hide c2
  clear hO b2 c2 D2 hq hf X2
  go_wp2
  refine bodyPost_ret (v := .agg #[.slice a rs.length cap, .slice b p.length capb, .slice (some ⟨g, 0, none⟩) st.length caps, .slice (some ⟨w1.heap.size, 0, none⟩) cs.length cs.length]) (by simp [results, Tryz.results60, go_sem, e0, e1, e2, e3]) rfl ⟨⟨g, caps, w1.heap.size, rfl, ?_⟩, ?_⟩
  · have ne : ∀ (W : World) (o : Nat) (v : Value) (x : Nat), w0.heap.size ≤ x → (W.setCell ⟨w.heap.size, o, none⟩ v).heap[x]? = W.heap[x]? := fun W o v x hx => Below.heap_setCell _ _ _ _ (by simp; omega)
    refine ⟨ts, pb, qb, w0.heap.size, w1.heap.size, w1.heap.size, w2.heap.size, HG2.out.heap (by simp) (fun x hx _ => ?_), HM.out.1, HM.out.2, HO.out.of (by simp) (fun x o hx _ _ => ?_) (fun x o hx _ _ => ?_), .inl (Nat.le_refl _), by simp, by omega, by omega, by simp; omega⟩
    · rw [ne _ _ _ _ hx, ne _ _ _ _ hx, ne _ _ _ _ hx, ne _ _ _ _ hx]
    · simp only [World.cell?]
      rw [ne _ _ _ _ (by omega), ne _ _ _ _ (by omega), ne _ _ _ _ (by omega), ne _ _ _ _ (by omega)]
    · simp only [World.frozen?]
      rw [ne _ _ _ _ (by omega), ne _ _ _ _ (by omega), ne _ _ _ _ (by omega), ne _ _ _ _ (by omega)]
  · exact (((HC2.out.setCell (by simp) _).setCell (by simp) _).setCell (by simp) _).setCell (by simp) _

set_option maxRecDepth 100000 in
set_option maxHeartbeats 4000000 in
theorem taken_any (k R : Int) (a : Option Addr) (rs : List Rs) (cap B : Nat) (b o : Nat) (p : List ByteArray) (capb : Nat) (g : Nat) (st : List Rs) (caps : Nat) (g2 : Nat) (cs : List Rs) (capc L : Nat) (w : World) (h : Rss w B a rs) (hp : Strs w B (some ⟨b, o, none⟩) p) (hB : B ≤ w.heap.size) (hT : TurnGot w L st cs g caps g2) (hL : L ≤ w.heap.size) (hl : rs.length ≤ 1048576) (hl' : p.length ≤ 1048576) (hsl : st.length ≤ 1048576) (hcl : cs.length ≤ 1048576) (hz : SzT rs)
    (HRF : ∀ W, Below w.heap.size w W → Calls Tryz.prog 112 #[.agg #[.slice a rs.length cap, .slice (some ⟨b, o, none⟩) p.length capb, .slice (some ⟨g, 0, none⟩) st.length caps, .slice (some ⟨g2, 0, none⟩) cs.length capc], .int .i64 k] W fun e w' => e = .returned (.int .i64 R) ∧ Below W.heap.size W w') :
    Calls Tryz.prog 62 #[.agg #[.slice a rs.length cap, .slice (some ⟨b, o, none⟩) p.length capb, .slice (some ⟨g, 0, none⟩) st.length caps, .slice (some ⟨g2, 0, none⟩) cs.length capc], .int .i64 k] w fun e w' => (∃ g' cap' pb' qb', e = .returned (.tuple #[.slice (some ⟨g', 0, none⟩) (takenL R rs p st cs).length cap', .int .i64 (takenC R (thereB rs p))]) ∧ OwnR w' L w'.heap.size g' (takenL R rs p st cs) pb' qb') ∧ Below L w w' := by
  have hlm : rs.length ≤ maxLen := by unfold maxLen; omega
  have hpm : p.length ≤ maxLen := by unfold maxLen; omega
  have hb0 := (Below.refl w.heap.size w).alloc (Nat.le_refl _) (Obj.cells #[.slice a rs.length cap, .slice (some ⟨b, o, none⟩) p.length capb, .slice (some ⟨g, 0, none⟩) st.length caps, .slice (some ⟨g2, 0, none⟩) cs.length capc] 74)
  have hq : ∀ o' v, #[Value.slice a rs.length cap, .slice (some ⟨b, o, none⟩) p.length capb, .slice (some ⟨g, 0, none⟩) st.length caps, .slice (some ⟨g2, 0, none⟩) cs.length capc][o']? = some v → (w.alloc (Obj.cells #[.slice a rs.length cap, .slice (some ⟨b, o, none⟩) p.length capb, .slice (some ⟨g, 0, none⟩) st.length caps, .slice (some ⟨g2, 0, none⟩) cs.length capc] 74)).cell? ⟨w.heap.size, o', none⟩ = some v := fun o' v hv => by rw [World.cell?_alloc_at (w := w) _ _ w.heap.size o' rfl]; exact hv
  have hw0 : w.heap.size < (w.alloc (Obj.cells #[.slice a rs.length cap, .slice (some ⟨b, o, none⟩) p.length capb, .slice (some ⟨g, 0, none⟩) st.length caps, .slice (some ⟨g2, 0, none⟩) cs.length capc] 74)).heap.size := by simp
  obtain ⟨w0, hw⟩ : ∃ w0, w.alloc (Obj.cells #[.slice a rs.length cap, .slice (some ⟨b, o, none⟩) p.length capb, .slice (some ⟨g, 0, none⟩) st.length caps, .slice (some ⟨g2, 0, none⟩) cs.length capc] 74) = w0 := ⟨_, rfl⟩
  rw [hw] at hb0 hq hw0
  have HB0 := hide hb0
  have HBX := hide (fun W (D : Below w0.heap.size w0 W) => show W.cell? ⟨w.heap.size, 0, none⟩ = some (.slice a rs.length cap) ∧ W.cell? ⟨w.heap.size, 1, none⟩ = some (.slice (some ⟨b, o, none⟩) p.length capb) ∧ W.cell? ⟨w.heap.size, 2, none⟩ = some (.slice (some ⟨g, 0, none⟩) st.length caps) ∧ W.cell? ⟨w.heap.size, 3, none⟩ = some (.slice (some ⟨g2, 0, none⟩) cs.length capc) from ⟨(D.cell (p := ⟨w.heap.size, 0, none⟩) hw0).trans (hq 0 _ rfl), (D.cell (p := ⟨w.heap.size, 1, none⟩) hw0).trans (hq 1 _ rfl), (D.cell (p := ⟨w.heap.size, 2, none⟩) hw0).trans (hq 2 _ rfl), (D.cell (p := ⟨w.heap.size, 3, none⟩) hw0).trans (hq 3 _ rfl)⟩)
  have X1 := hide (HRF w0 hb0)
  have HCT := hide (fun W (D : Below w.heap.size w W) => copyTree_any a rs cap B W (h.below D hB) (Nat.le_trans hB D.size) hl hz)
  have HTH := hide (fun W (D : Below w.heap.size w W) => isThere_any a rs cap B (some ⟨b, o, none⟩) p capb B W (h.below D hB) (hp.below D hB) hlm hpm (Nat.le_trans hB D.size) (Nat.le_trans hB D.size))
  have HWH := hide (fun W (D : Below w.heap.size w W) => show Calls Tryz.prog 113 #[.agg #[.slice a rs.length cap, .slice (some ⟨b, o, none⟩) p.length capb, .slice (some ⟨g, 0, none⟩) st.length caps, .slice (some ⟨g2, 0, none⟩) cs.length capc]] W fun e w' => (∃ g' cap' pb' qb', e = .returned (.slice (some ⟨g', 0, none⟩) (wholeL st p cs).length cap') ∧ OwnR w' L w'.heap.size g' (wholeL st p cs) pb' qb') ∧ Below L W w' from by
    obtain ⟨ts, pb, qb, B1, lo1, B2, hi2, h1, h2, h3, h4, h5, h6, h7, h8, h9⟩ := hT.below D
    exact whole_any a rs.length cap b o p capb g st caps g2 cs capc B1 lo1 B2 hi2 L B ts pb qb W h1 h2 h3 h4 h5 h6 h7 h8 (Nat.le_trans hL D.size) h9 (hp.below D hB) (Nat.le_trans hB D.size) hpm hsl hcl)
  have HTL := hide (show takenL R rs p st cs = if R = 0 then wholeL st p cs else rs from rfl)
  have HTC := hide (show takenC R (thereB rs p) = if R = 0 then (if thereB rs p = true then 204 else 201) else R from rfl)
  generalize takenL R rs p st cs = TL at *
  generalize takenC R (thereB rs p) = TC at *
  generalize thereB rs p = z at *
  generalize wholeL st p cs = WL at *
  clear HRF hb0 hq h hp hT
  by_cases hR : R = 0
  · subst hR
    have HTL' := hide (HTL.out.trans (if_pos rfl))
    have HTC' := hide (HTC.out.trans (if_pos rfl))
    clear HTL HTC
    obtain ⟨i0, i1, i2, i3⟩ := HBX.out w0 (Below.refl _ _)
    go_enter Tryz.func62, Tryz.ntmps62
    go_wp2_with fail
    refine X1.out.mono ?_
    rintro e w1 ⟨rfl, b1⟩
    clear i0 i1 i2 i3
    obtain ⟨d0, d1, d2, d3⟩ := HBX.out w1 b1
    have c1 := HB0.out.trans (b1.mono HB0.out.size)
    have X2 := hide (HTH.out w1 c1)
    clear X1
    go_wp2_with fail
    refine X2.out.mono ?_
    rintro e w2 ⟨rfl, b2⟩
    clear d0 d1 d2 d3
    have D2 := b1.trans (b2.mono b1.size)
    obtain ⟨d0, d1, d2, d3⟩ := HBX.out w2 D2
    have c2 := c1.trans (b2.mono c1.size)
    have X3 := hide (HWH.out w2 c2)
    clear X2 b1 b2 D2
    cases z
    · go_wp2_with fail
      refine X3.out.mono ?_
      rintro e w3 ⟨⟨g', cap', pb', qb', rfl, hO⟩, b3⟩
      have HO := hide hO
      have c3 := hide ((c2.mono hL).trans b3)
      clear hO b3 X3 d0 d1 d2 d3
      go_wp2
      go_ret2
      exact ⟨⟨g', cap', pb', qb', by rw [HTL'.out, HTC'.out]; rfl, by rw [HTL'.out]; exact HO.out⟩, c3.out⟩
    · go_wp2_with fail
      refine X3.out.mono ?_
      rintro e w3 ⟨⟨g', cap', pb', qb', rfl, hO⟩, b3⟩
      have HO := hide hO
      have c3 := hide ((c2.mono hL).trans b3)
      clear hO b3 X3 d0 d1 d2 d3
      go_wp2
      go_ret2
      exact ⟨⟨g', cap', pb', qb', by rw [HTL'.out, HTC'.out]; rfl, by rw [HTL'.out]; exact HO.out⟩, c3.out⟩
  · have HTL' := hide (HTL.out.trans (if_neg hR))
    have HTC' := hide (HTC.out.trans (if_neg hR))
    have e0 : (R == 0) = false := by rw [beq_eq_false_iff_ne]; exact hR
    clear HTL HTC
    obtain ⟨i0, i1, i2, i3⟩ := HBX.out w0 (Below.refl _ _)
    go_enter Tryz.func62, Tryz.ntmps62
    go_wp2_with fail
    refine X1.out.mono ?_
    rintro e w1 ⟨rfl, b1⟩
    clear i0 i1 i2 i3
    obtain ⟨d0, d1, d2, d3⟩ := HBX.out w1 b1
    have c1 := HB0.out.trans (b1.mono HB0.out.size)
    have X2 := hide (HCT.out w1 c1)
    clear X1
    go_wp2_with fail
    refine X2.out.mono ?_
    rintro e w2 ⟨rfl, ⟨pb', qb', hO⟩, b2⟩
    have hL2 : L ≤ w1.heap.size := Nat.le_trans hL c1.size
    have HO := hide (show OwnR w2 L w2.heap.size w1.heap.size rs pb' qb' from ⟨Nat.le_trans hL2 hO.gl, hO.gh, hO.gs, hO.fz, hO.cl, hO.rp, hO.rq, fun j hj => by obtain ⟨k1, k2⟩ := hO.bnd j hj; exact ⟨Nat.le_trans hL2 k1, k2⟩, hO.ord⟩)
    have c2 := hide ((c1.trans (b2.mono c1.size)).mono hL)
    clear hO b2 X2 d0 d1 d2 d3
    go_wp2
    go_ret2
    exact ⟨⟨w1.heap.size, rs.length, pb', qb', by rw [HTL'.out, HTC'.out]; rfl, by rw [HTL'.out]; exact HO.out⟩, c2.out⟩
end Go.Proofs.YtifnolomekhmfaaGreat
namespace Go.Proofs.YtifnolomekhmfaaGreat
open Go.RowKit M
set_option linter.unusedVariables false

def badP (r : Rs) : Bool := !pathB r.pa
def longP (r : Rs) : Bool := decide (200 < r.bo.size)
theorem any_at {rs : List Rs} {q : Rs → Bool} (k : Nat) (hk : k < rs.length) (h : q rs[k] = true) : rs.any q = true := List.any_eq_true.2 ⟨_, List.getElem_mem hk, h⟩
theorem any_none {rs : List Rs} {q : Rs → Bool} (h : ∀ j (hj : j < rs.length), q rs[j] = false) : rs.any q = false := by
  rw [List.any_eq_false]
  intro r hr
  obtain ⟨j, hj, rfl⟩ := List.mem_iff_getElem.1 hr
  rw [h j hj]; simp

set_option maxHeartbeats 1000000 in
theorem goesDeep1_any (r : Rs) (pa : Option Addr) (pc : Nat) (qa : Option Addr) (qc B : Nat) (w : World) (h : RsIn w B r pa pc qa qc) (hs : ShortRs r) (hB : B ≤ w.heap.size) :
    Calls Tryz.prog 150 #[.agg #[.slice pa r.pa.length pc, .bool r.co, .string r.bo, .int .i64 r.ve, .slice qa r.ps.length qc]] w fun e w' => e = .returned (.bool (badP r)) ∧ Below w.heap.size w w' := by
  have p1 := h.ph
  have s1 := hs.ps
  have l1 := hs.pl
  clear h hs
  have HZ := hide (show badP r = !pathB r.pa from rfl)
  obtain ⟨ss, co, bo, ve, ps⟩ := r
  simp only at *
  have hb0 : Below w.heap.size w (w.alloc (Obj.cells #[.slice pa ss.length pc, .bool co, .string bo, .int .i64 ve, .slice qa ps.length qc] 62)) := (Below.refl _ _).alloc (Nat.le_refl _) _
  have HE := hide (pathOk_any pa ss pc _ ((p1.below hb0 hB).mono (by simp; omega)) s1 l1)
  have HB0 := hide hb0
  generalize badP ⟨ss, co, bo, ve, ps⟩ = z at *
  generalize pathB ss = y at *
  clear p1 hb0
  go_enter Tryz.func150, Tryz.ntmps150
  go_wp2_with fail
  refine HE.out.mono ?_
  rintro e w1 ⟨rfl, hb1⟩
  have HC1 := hide (HB0.out.trans (hb1.mono HB0.out.size))
  clear hb1
  go_wp2
  go_ret
  exact ⟨by rw [HZ.out]; rfl, HC1.out⟩

set_option maxHeartbeats 1000000 in
theorem longBody1_any (r : Rs) (pa : Option Addr) (pc : Nat) (qa : Option Addr) (qc B : Nat) (w : World) (h : RsIn w B r pa pc qa qc) (hs : ShortRs r) (hB : B ≤ w.heap.size) :
    Calls Tryz.prog 151 #[.agg #[.slice pa r.pa.length pc, .bool r.co, .string r.bo, .int .i64 r.ve, .slice qa r.ps.length qc]] w fun e w' => e = .returned (.bool (longP r)) ∧ Below w.heap.size w w' := by
  have hbo := hs.bo
  clear h hs
  have HZ := hide (show longP r = decide (200 < r.bo.size) from rfl)
  obtain ⟨ss, co, bo, ve, ps⟩ := r
  simp only at *
  have hb0 : Below w.heap.size w (w.alloc (Obj.cells #[.slice pa ss.length pc, .bool co, .string bo, .int .i64 ve, .slice qa ps.length qc] 62)) := (Below.refl _ _).alloc (Nat.le_refl _) _
  have HB0 := hide hb0
  generalize longP ⟨ss, co, bo, ve, ps⟩ = z at *
  clear hb0
  by_cases hd : 200 < bo.size
  · have e0 : decide ((200 : Int) < (bo.size : Int)) = true := by simp; omega
    have HZ' := hide (HZ.out.trans (decide_eq_true hd))
    clear HZ
    go_enter Tryz.func151, Tryz.ntmps151
    go_wp2
    go_ret
    exact ⟨by rw [HZ'.out]; first | rfl | simp [hd], HB0.out⟩
  · have e0 : decide ((200 : Int) < (bo.size : Int)) = false := by simp; omega
    have HZ' := hide (HZ.out.trans (decide_eq_false hd))
    clear HZ
    go_enter Tryz.func151, Tryz.ntmps151
    go_wp2
    go_ret
    exact ⟨by rw [HZ'.out]; first | rfl | simp [hd], HB0.out⟩

set_option maxHeartbeats 1000000 in
theorem goesDeepI_any (a : Option Addr) (rs : List Rs) (cap B : Nat) (w : World) (h : Rss w B a rs) (hs : ShortT rs) (hl : rs.length ≤ maxLen) (hB : B ≤ w.heap.size) :
    Calls Tryz.prog 82 #[.slice a rs.length cap, .func (.func 150) #[] #[]] w fun e w' => (∃ x : Int, e = .returned (.int .i64 x) ∧ decide (0 ≤ x) = rs.any badP) ∧ Below w.heap.size w w' := by
  unfold maxLen at hl
  have HSH := hide hs
  clear hs
  go_enter Tryz.func82, Tryz.ntmps82
  go_wp2
  go_loopw [8] (fun i wr => ∃ k : Nat, k ≤ rs.length ∧ i = .int .i64 k ∧ (∀ j (hj : j < rs.length), j < k → badP rs[j] = false) ∧ Below w.heap.size w wr) (fun i _ => rs.length - (intOf i).toNat)
  case atStart => exact ⟨0, Nat.zero_le _, rfl, fun j _ hj => absurd hj (Nat.not_lt_zero _), Below.refl _ _⟩
  case round =>
    obtain ⟨k, hk, rfl, ht, hbe⟩ := hrel
    have HT := hide ht
    clear ht
    by_cases hlt : k < rs.length
    · obtain ⟨b, o, rfl, hb, hcc⟩ := (h.below hbe hB) (by omega)
      obtain ⟨pa, pc, qa, qc, ⟨hc0, hc1, hc2, hc3, hc4⟩, hin⟩ := hcc k hlt
      clear hcc
      have HC := hide (goesDeep1_any rs[k] pa pc qa qc B wr hin (HSH.out.at k hlt) (Nat.le_trans hB hbe.size))
      obtain ⟨z, hz⟩ : ∃ z, badP rs[k] = z := ⟨_, rfl⟩
      rw [hz] at HC
      have HZ := hide hz
      clear hz hin
      go_wp2_with fail
      refine HC.out.mono ?_
      rintro e w1 ⟨rfl, hb1⟩
      have c1 := hbe.trans (hb1.mono hbe.size)
      clear HC
      cases z
      · go_wp2
        go_roundw
        case rel => exact ⟨k + 1, by omega, by go_num, fun j hj hjk => by
                      by_cases e : j = k
                      · subst e; exact HZ.out
                      · exact HT.out j hj (by omega), c1⟩
        case measure => simp [intOf]; omega
      · go_wp2
        go_ret
        exact ⟨⟨_, rfl, by rw [any_at k hlt HZ.out]; simp⟩, c1⟩
    · have HE := hide (any_none (rs := rs) (q := badP) (fun j hj => HT.out j hj (by omega)))
      go_wp2
      go_ret
      exact ⟨⟨_, rfl, by rw [HE.out]; rfl⟩, hbe⟩

set_option maxHeartbeats 1000000 in
theorem goesDeepC_any (a : Option Addr) (rs : List Rs) (cap B : Nat) (w : World) (h : Rss w B a rs) (hs : ShortT rs) (hl : rs.length ≤ maxLen) (hB : B ≤ w.heap.size) :
    Calls Tryz.prog 149 #[.slice a rs.length cap, .func (.func 150) #[] #[]] w fun e w' => e = .returned (.bool (rs.any badP)) ∧ Below w.heap.size w w' := by
  have HE := hide (goesDeepI_any a rs cap B w h hs hl hB)
  generalize rs.any badP = z at *
  go_enter Tryz.func149, Tryz.ntmps149
  go_wp2_with fail
  refine HE.out.mono ?_
  rintro e w1 ⟨⟨x, rfl, hx⟩, hb1⟩
  have HX := hide hx
  clear hx HE
  go_wp2
  go_ret
  exact ⟨by rw [← HX.out]; rfl, hb1⟩

set_option maxHeartbeats 1000000 in
theorem goesDeep_any (a b s c : Option Addr) (na nb ns cap capb caps capc : Nat) (cs : List Rs) (B : Nat) (w : World) (h : Rss w B c cs) (hs : ShortT cs) (hl : cs.length ≤ maxLen) (hB : B ≤ w.heap.size) :
    Calls Tryz.prog 134 #[.agg #[.slice a na cap, .slice b nb capb, .slice s ns caps, .slice c cs.length capc]] w fun e w' => e = .returned (.bool (cs.any badP)) ∧ Below w.heap.size w w' := by
  have hb0 := (Below.refl w.heap.size w).alloc (Nat.le_refl _) (Obj.cells #[.slice a na cap, .slice b nb capb, .slice s ns caps, .slice c cs.length capc] 74)
  have HE := hide (goesDeepC_any c cs capc B _ (h.below hb0 hB) hs hl (by simp; omega))
  have HB0 := hide hb0
  generalize cs.any badP = z at *
  clear hb0
  go_enter Tryz.func134, Tryz.ntmps134
  go_wp2_with fail
  refine HE.out.mono ?_
  rintro e w1 ⟨rfl, hb1⟩
  have c1 := HB0.out.trans (hb1.mono HB0.out.size)
  clear hb1 HE
  go_wp2
  go_ret
  exact ⟨rfl, c1⟩

set_option maxHeartbeats 1000000 in
theorem longBodyI_any (a : Option Addr) (rs : List Rs) (cap B : Nat) (w : World) (h : Rss w B a rs) (hs : ShortT rs) (hl : rs.length ≤ maxLen) (hB : B ≤ w.heap.size) :
    Calls Tryz.prog 82 #[.slice a rs.length cap, .func (.func 151) #[] #[]] w fun e w' => (∃ x : Int, e = .returned (.int .i64 x) ∧ decide (0 ≤ x) = rs.any longP) ∧ Below w.heap.size w w' := by
  unfold maxLen at hl
  have HSH := hide hs
  clear hs
  go_enter Tryz.func82, Tryz.ntmps82
  go_wp2
  go_loopw [8] (fun i wr => ∃ k : Nat, k ≤ rs.length ∧ i = .int .i64 k ∧ (∀ j (hj : j < rs.length), j < k → longP rs[j] = false) ∧ Below w.heap.size w wr) (fun i _ => rs.length - (intOf i).toNat)
  case atStart => exact ⟨0, Nat.zero_le _, rfl, fun j _ hj => absurd hj (Nat.not_lt_zero _), Below.refl _ _⟩
  case round =>
    obtain ⟨k, hk, rfl, ht, hbe⟩ := hrel
    have HT := hide ht
    clear ht
    by_cases hlt : k < rs.length
    · obtain ⟨b, o, rfl, hb, hcc⟩ := (h.below hbe hB) (by omega)
      obtain ⟨pa, pc, qa, qc, ⟨hc0, hc1, hc2, hc3, hc4⟩, hin⟩ := hcc k hlt
      clear hcc
      have HC := hide (longBody1_any rs[k] pa pc qa qc B wr hin (HSH.out.at k hlt) (Nat.le_trans hB hbe.size))
      obtain ⟨z, hz⟩ : ∃ z, longP rs[k] = z := ⟨_, rfl⟩
      rw [hz] at HC
      have HZ := hide hz
      clear hz hin
      go_wp2_with fail
      refine HC.out.mono ?_
      rintro e w1 ⟨rfl, hb1⟩
      have c1 := hbe.trans (hb1.mono hbe.size)
      clear HC
      cases z
      · go_wp2
        go_roundw
        case rel => exact ⟨k + 1, by omega, by go_num, fun j hj hjk => by
                      by_cases e : j = k
                      · subst e; exact HZ.out
                      · exact HT.out j hj (by omega), c1⟩
        case measure => simp [intOf]; omega
      · go_wp2
        go_ret
        exact ⟨⟨_, rfl, by rw [any_at k hlt HZ.out]; simp⟩, c1⟩
    · have HE := hide (any_none (rs := rs) (q := longP) (fun j hj => HT.out j hj (by omega)))
      go_wp2
      go_ret
      exact ⟨⟨_, rfl, by rw [HE.out]; rfl⟩, hbe⟩

set_option maxHeartbeats 1000000 in
theorem longBodyC_any (a : Option Addr) (rs : List Rs) (cap B : Nat) (w : World) (h : Rss w B a rs) (hs : ShortT rs) (hl : rs.length ≤ maxLen) (hB : B ≤ w.heap.size) :
    Calls Tryz.prog 149 #[.slice a rs.length cap, .func (.func 151) #[] #[]] w fun e w' => e = .returned (.bool (rs.any longP)) ∧ Below w.heap.size w w' := by
  have HE := hide (longBodyI_any a rs cap B w h hs hl hB)
  generalize rs.any longP = z at *
  go_enter Tryz.func149, Tryz.ntmps149
  go_wp2_with fail
  refine HE.out.mono ?_
  rintro e w1 ⟨⟨x, rfl, hx⟩, hb1⟩
  have HX := hide hx
  clear hx HE
  go_wp2
  go_ret
  exact ⟨by rw [← HX.out]; rfl, hb1⟩

set_option maxHeartbeats 1000000 in
theorem longBody_any (a b s c : Option Addr) (na nb ns cap capb caps capc : Nat) (cs : List Rs) (B : Nat) (w : World) (h : Rss w B c cs) (hs : ShortT cs) (hl : cs.length ≤ maxLen) (hB : B ≤ w.heap.size) :
    Calls Tryz.prog 135 #[.agg #[.slice a na cap, .slice b nb capb, .slice s ns caps, .slice c cs.length capc]] w fun e w' => e = .returned (.bool (cs.any longP)) ∧ Below w.heap.size w w' := by
  have hb0 := (Below.refl w.heap.size w).alloc (Nat.le_refl _) (Obj.cells #[.slice a na cap, .slice b nb capb, .slice s ns caps, .slice c cs.length capc] 74)
  have HE := hide (longBodyC_any c cs capc B _ (h.below hb0 hB) hs hl (by simp; omega))
  have HB0 := hide hb0
  generalize cs.any longP = z at *
  clear hb0
  go_enter Tryz.func135, Tryz.ntmps135
  go_wp2_with fail
  refine HE.out.mono ?_
  rintro e w1 ⟨rfl, hb1⟩
  have c1 := HB0.out.trans (hb1.mono HB0.out.size)
  clear hb1 HE
  go_wp2
  go_ret
  exact ⟨rfl, c1⟩
end Go.Proofs.YtifnolomekhmfaaGreat
