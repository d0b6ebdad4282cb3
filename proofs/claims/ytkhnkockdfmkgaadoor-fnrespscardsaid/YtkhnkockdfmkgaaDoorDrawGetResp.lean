/-
  The draw of an answer's bytes, bent or not: some bytes, few, in memory of their own.
-/
import Derived.Test.YtkhnkockdfmkgaaDoorStepHead
import Derived.Test.YtkhnkockdfmkgaaDoorStepByts
import Derived.Test.YtkhnkockdfmkgaaDoorAllOf
namespace Go.Proofs.YtkhnkockdfmkgaaDoor
open Go.RowKit M
set_option linter.unusedVariables false

theorem FewH.sum {n : Nat} {hs : List Hd} (h : FewH n hs) : sumH hs ≤ n * 120 := by
  obtain ⟨h1, h2⟩ := h
  unfold sumH
  induction hs generalizing n with
  | nil => exact Nat.zero_le _
  | cons x t ih =>
    have hx := h2 x (by simp)
    have ht := ih (n := n - 1) (by simp at h1; omega) (fun y hy => h2 y (by simp [hy]))
    simp only [List.map_cons, List.sum_cons, szH]
    simp at h1
    omega
theorem putA_small {r : Rs} (h : FewH 10 r.hs) (hb : r.b.size ≤ 401) : (putA r).length ≤ 2000 := by
  cases hr : respB r
  · rw [putA_no hr]; exact Nat.zero_le _
  · rw [putA_of hr, List.length_append]
    have h1 := frontA_len (resp_hds hr).1 (by omega)
    have h2 := h.sum
    have h3 := h.1
    have h4 : r.b.data.toList.length = r.b.size := Array.length_toList
    omega
theorem FewH.shortA {n : Nat} {r : Rs} (h : FewH n r.hs) (hn : n ≤ 1000) (hb : r.b.size ≤ 401) : ShortA r :=
  ⟨by unfold maxLen; omega, by have := h.1; unfold maxLen; omega, h.short⟩

def getC5 : List Int := [0, 13, 10, 32, 58, 65]
/-- What a draw of bytes returns. -/
def RetB (w' : World) (B : Nat) (v : Value) : Prop := ∃ l : List UInt8, l.length ≤ 8000 ∧ OwnY w' B v l

/-- An answer is drawn, and put. -/
theorem put_drawn {w : World} {B N : Nat} {r : Rs} {g c : Nat} (hf : FewH 2 r.hs) (hb : r.b.size ≤ 20) (ho : w.ownsRow B 42 2 (.slice (some ⟨g, 0, none⟩) r.hs.length c) r.hs.length (hdCells r.hs)) :
    Calls Tryd.prog 19 #[.agg #[.int .i64 r.c, .slice (some ⟨g, 0, none⟩) r.hs.length c, .string r.b]] w fun e w' => (∃ (g' n c' : Nat) (l : List UInt8), e = .returned (.slice (some ⟨g', 0, none⟩) n c') ∧ l.length ≤ 2000 ∧ l.length = n ∧ n ≤ c' ∧ c' ≤ maxLen ∧ OwnY w' w.heap.size (.slice (some ⟨g', 0, none⟩) n c') l) ∧ Below w.heap.size w w' := by
  have h1 := hf.sum
  have h2 := hf.1
  refine (specPutRespO_any (some ⟨g, 0, none⟩) r c w.heap.size w (ownsH_hds ho rfl) (Nat.le_refl _) (hf.shortA (by decide) (by omega)) (by omega) (by omega) (by omega)).mono ?_
  rintro e w1 ⟨⟨v, rfl, hv⟩, hbb⟩
  obtain ⟨g', c', rfl, hv2⟩ := hv.slice
  exact ⟨⟨g', _, c', putA r, rfl, putA_small (hf.mono (by decide)) (by omega), rfl, hv2.bd.2.1, hv2.bd.2.2.1, hv2⟩, hbb⟩

set_option maxRecDepth 100000 in
set_option maxHeartbeats 4000000 in
theorem drawGetResp_any {w : World} {B : Nat} {a : Option Addr} {len : Nat} {zs : List Int} (h : CodeIn w B a len zs) (hB : B ≤ w.heap.size) (cap : Nat) :
    Calls Tryd.prog 7 #[.slice a len cap] w fun e w' => (∃ v, e = .returned v ∧ RetB w' w.heap.size v) ∧ Below w.heap.size w w' := by
  have HN := hide (newDX (h.below (Below.refl _ _)) cap)
  clear h
  go_enter Tryd.func7, Tryd.ntmps7
  go_wp2_with fail
  refine HN.out.mono ?_
  rintro e w1 ⟨rfl, hd1, b1⟩
  have D1 := hide hd1
  have hlt := hd1.lt
  have B1 := hide b1
  clear HN hd1 b1
  go_wp2_with fail
  refine (l5Draw_any D1.out).mono ?_
  rintro e w2 ⟨⟨r, g, c, q1, q4, qc, rfl, hown⟩, hd2, hg2⟩
  have hz2 := hg2.size
  have D2 := hide hd2
  have B2 := hide (dc_below B1.out hg2)
  clear hd2 hg2 D1 B1
  go_wp2_with fail
  refine (put_drawn (N := 0) q1 q4 hown).mono ?_
  rintro e w3 ⟨⟨gb, n, cb, lb, rfl, hl, hln, hnc, hcm, hy⟩, b3⟩
  have hz3 := b3.size
  have D3 := hide (D2.out.other b3.size (fun k hk => b3.block k (by omega)))
  have B3 := hide (B2.out.trans (b3.mono (by omega)))
  have Y3 := hide hy
  clear b3 D2 B2 hown q1 q4 qc hy
  go_wp2_with fail
  refine (l1BelowX D3.out 5 (by decide) (by decide)).mono ?_
  rintro e w4 ⟨⟨k, rfl, hk⟩, hd4, hg4⟩
  have hz4 := hg4.size
  have D4 := hide hd4
  have B4 := hide (dc_below B3.out hg4)
  have hbd := Y3.out.bd
  have Y4 := hide (Y3.out.same (hg4.block gb hbd.2.2.2.2 (by simp; omega)))
  have hgb : w2.heap.size ≤ gb ∧ gb < w4.heap.size := by omega
  clear hd4 hg4 D3 B3 Y3 hbd
  by_cases k0 : k = 0
  · subst k0
    have hw1 : IntKind.i64.wrap ((n : Int) + 1) = (n : Int) + 1 := by rw [IntKind.wrap_i64]; omega
    go_wp2_with fail
    refine (l1BelowX D4.out ((n : Int) + 1) (by omega) (by omega)).mono ?_
    rintro e w5 ⟨⟨m, rfl, hm⟩, hd5, hg5⟩
    have hz5 := hg5.size
    have B5 := hide (dc_below B4.out hg5)
    have y5 := Y4.out.same (hg5.block gb hgb.2 (by simp; omega))
    have I5 := hide (Ins.start hd5 y5 (by omega))
    have hm' : m ≤ n := by omega
    have hmi : (m : Int) ≤ (n : Int) := by omega
    have hmc : (m : Int) ≤ (cb : Int) := by omega
    have hnci : (n : Int) ≤ (cb : Int) := by omega
    have Y5 := hide y5
    clear hd5 hg5 D4 B4 Y4 y5
    go_wp2_with fail
    have ht1 : (lb.take m).length = m := by rw [List.length_take]; omega
    have hd1 : (lb.drop m).length = n - m := by rw [List.length_drop]; omega
    have hlc : lb.length ≤ cb := by omega
    have hm3 : m ≤ 2000 := by omega
    go_region_law (first
      | (refine Ins.append I3.out rfl _ _ rfl g3 (m + 1) c3 (lb.take m ++ [x]) rfl O3.out _ (n - m) (n + 1) (cb - m) (lb.drop m) rfl (tail_some gb m cb) hd1 (fun h => h.back m cb hlc) (by omega) (by omega) ?_
         intro g4 c4 W4 o4 i4 gr4
         have O4 := hide o4
         have I4 := hide i4
         clear o4 i4 gr4)
      | (refine Ins.append (I2.out.alloc _) rfl _ _ rfl g1 m c1 (lb.take m) rfl (O2.out.alloc _) _ 1 (m + 1) 1 [x] rfl ⟨_, _, rfl⟩ rfl (fun _ => byt_one W2 x) rfl (by omega) ?_
         intro g3 c3 W3 o3 i3 gr3
         have O3 := hide o3
         have I3 := hide i3
         clear o3 i3 gr3)
      | (refine Ins.append (by first | exact (I5.out.alloc _).drew | exact ((I5.out.alloc _).alloc _).drew) rfl _ _ rfl _ 0 0 [] rfl (OwnY.bareAt (by first | exact heap_alloc_new _ _ | exact heap_first _ _ _ | exact heap_second _ _ _) (by first | exact Nat.le_refl _ | exact Nat.le_succ _)) _ m m cb (lb.take m) rfl ⟨_, _, rfl⟩ ht1 (fun h => h.front m) (Nat.zero_add _) (by omega) ?_
         intro g1 c1 W1 o1 i1 gr1
         have O1 := hide o1
         have I1 := hide i1
         have G1 := hide gr1
         clear o1 i1 gr1)
      | (go_simp
         go_at_call 22
         refine (Ins.int (by first | exact I1.out.alloc _ | exact I1.out) getC5 _ 3 6 _ (by first | exact I1.out.gr.size | exact Nat.le_refl _ | exact Nat.le_succ _) rfl rfl (by decide) (by decide) (by decide) (by first | exact heap_alloc_new _ _ | exact (G1.out.block _ (by first | (simp; done) | (simp; omega)) (by first | (simp; done) | (simp; omega))).trans (heap_first _ _ _) | exact (G1.out.block _ (by first | (simp; done) | (simp; omega)) (by first | (simp; done) | (simp; omega))).trans (heap_second _ _ _))).mono ?_
         rintro e W2 ⟨⟨x, rfl⟩, i2, gr2⟩
         have hwx := wrap_u8 x
         have o2 : OwnY W2 w5.heap.size (.slice (some ⟨g1, 0, none⟩) m c1) (lb.take m) := by
           have hb1 := O1.out.bd
           have hN1 := I1.out.hN
           first
             | exact (O1.out.alloc _).same (gr2.block g1 (by simp; omega) (by simp; omega))
             | exact O1.out.same (gr2.block g1 (by omega) (by simp; omega))
         have O2 := hide o2
         have I2 := hide i2
         clear o2 i2 gr2))
    all_goals
      have HF : Hid ((∃ v, Ending.returned (.slice (some ⟨g4, 0, none⟩) (n + 1) c4) = .returned v ∧ RetB W4 w.heap.size v) ∧ Below w.heap.size w W4) := hide ⟨⟨_, rfl, _, by rw [O4.out.bd.1]; omega, O4.out.base B5.out.size⟩, dc_below B5.out I4.out.gr⟩
      go_wp2 <;>
      (go_ret
       exact HF.out)
  · have k0' : ((k : Int) == 0) = false := by apply beq_eq_false_iff_ne.2; omega
    by_cases k1 : k = 1
    · subst k1
      have hw1 : IntKind.i64.wrap ((n : Int) + 1) = (n : Int) + 1 := by rw [IntKind.wrap_i64]; omega
      go_wp2_with fail
      refine (l1BelowX D4.out ((n : Int) + 1) (by omega) (by omega)).mono ?_
      rintro e w5 ⟨⟨m, rfl, hm⟩, hd5, hg5⟩
      have B5 := hide (dc_below B4.out hg5)
      have y5 := Y4.out.same (hg5.block gb hgb.2 (by simp; omega))
      have hmc : (m : Int) ≤ (cb : Int) := by omega
      have HF : Hid ((∃ v, Ending.returned (.slice (some ⟨gb, 0, none⟩) m cb) = .returned v ∧ RetB w5 w.heap.size v) ∧ Below w.heap.size w w5) := hide ⟨⟨_, rfl, _, by rw [List.length_take]; omega, (y5.take m (by omega)).base (by have := B5.out.size; omega)⟩, B5.out⟩
      clear hd5 hg5 D4 B4 Y4 y5
      go_wp2
      go_ret
      exact HF.out
    · have k1' : ((k : Int) == 1) = false := by apply beq_eq_false_iff_ne.2; omega
      by_cases k2 : k = 2
      · subst k2
        go_wp2_with fail
        refine (l5Draw_any D4.out).mono ?_
        rintro e w5 ⟨⟨r', g', c', q1, q4, qc, rfl, hown⟩, hd5, hg5⟩
        have hz5 := hg5.size
        have B5 := hide (dc_below B4.out hg5)
        have Y5 := hide (Y4.out.same (hg5.block gb hgb.2 (by simp; omega)))
        clear hd5 hg5 D4 B4 Y4
        go_wp2_with fail
        refine (put_drawn (N := 0) q1 q4 hown).mono ?_
        rintro e w6 ⟨⟨g6, n6, c6, l6, rfl, hl6, hln6, hnc6, hcm6, hy6⟩, b6⟩
        have hz6 := b6.size
        have Y6 := hide (Y5.out.next b6)
        have Y6' := hide hy6
        have B6 := hide (B5.out.trans (b6.mono (by have := B5.out.size; omega)))
        have hbd := hy6.bd
        clear hy6 b6 Y5 B5 hown q1 q4 qc
        subst hln6
        go_wp2_with (at_builtin; refine wp_append_byts rfl _ _ rfl w2.heap.size _ lb rfl Y6.out g6 l6 c6 rfl (fun j hj => ?_) (by omega) (by omega) ?_)
        · obtain ⟨b', o', e, _, hc⟩ := (Y6'.out.bytAt (C := w6.heap.size) (by omega)) (by omega)
          cases e
          have := hc j hj
          rw [Nat.zero_add] at this
          exact this
        · intro v' w7 o7 gr7 _
          obtain ⟨g7, c7, rfl, o7'⟩ := o7.slice
          have B7 : Below w.heap.size w w7 := B6.out.trans ⟨gr7.os, gr7.tape, gr7.output, gr7.size, fun k hk => gr7.block k (by have := B6.out.size; omega) (by simp [Value.ownBlock]; omega)⟩
          have HF : Hid ((∃ v, Ending.returned (.slice (some ⟨g7, 0, none⟩) (lb ++ l6).length c7) = .returned v ∧ RetB w7 w.heap.size v) ∧ Below w.heap.size w w7) := hide ⟨⟨_, rfl, _, by rw [List.length_append]; omega, o7'.base (by have := B6.out.size; omega)⟩, B7⟩
          clear o7 o7' gr7 B7
          go_wp2
          go_ret
          exact HF.out
      · have k2' : ((k : Int) == 2) = false := by apply beq_eq_false_iff_ne.2; omega
        have HF : Hid ((∃ v, Ending.returned (.slice (some ⟨gb, 0, none⟩) n cb) = .returned v ∧ RetB w4 w.heap.size v) ∧ Below w.heap.size w w4) := hide ⟨⟨_, rfl, _, by omega, Y4.out.base (by have := B4.out.size; omega)⟩, B4.out⟩
        go_wp2
        go_ret
        exact HF.out
end Go.Proofs.YtkhnkockdfmkgaaDoor
