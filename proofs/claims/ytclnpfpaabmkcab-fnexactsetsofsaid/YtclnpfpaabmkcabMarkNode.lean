/-
  What the laws' own marks of nodes do.
-/
import Derived.Test.YtclnpfpaabmkcabMathMarkN
import Derived.Test.YtclnpfpaabmkcabTurnN
import Derived.Test.YtclnpfpaabmkcabBoxNode
namespace Go.Proofs.Ytclnpfpaabmkcab
open Go.RowKit M
set_option linter.unusedVariables false

/-- What the walk reads and writes on its way through one round. -/
theorem mark_reads {wr w1 : World} {b o j : Nat} {zs : List Nd} {aj : Nat → Option Addr} {cj : Nat → Nat} {Sj : Nat → Nat → Prop} {S : Nat → Prop} (h : OpenK wr b o zs aj cj Sj S) (hj : j < zs.length) (hlt : ∀ x, S x → x < wr.heap.size) (t : Turn (fun x => x = b) wr w1)
    (hfar : ∀ q, o + j * 4 < q → w1.cell? ⟨b, q, none⟩ = wr.cell? ⟨b, q, none⟩) : OwnK w1 (aj j) zs[j].ks (Sj j) ∧ w1.cell? ⟨b, o + j * 4 + 3, none⟩ = some (.slice (aj j) zs[j].ks.length (cj j)) :=
  ⟨(h.hk j hj).turn t (fun x hx => hlt x (h.hS j x hj hx).1) (fun x hx => (h.hS j x hj hx).2), by rw [hfar _ (by omega)]; exact (h.hc j hj).2.2.2⟩

def MkS (K : Nat) : Prop := ∀ (ks : List Nd) (a : Option Addr) (cap k : Nat) (S : Nat → Prop) (w : World), cntL ks < K → OwnK w a ks S → (∀ x, S x → x < w.heap.size) → 1 ≤ k → k + 3 * cntL ks ≤ 100000000 → ks.length ≤ 100000000 →
    Calls Try.prog 81 #[.slice a ks.length cap, .int .i64 (k : Int)] w fun e w' => e = .returned (.int .i64 ((k + 3 * cntL ks : Nat) : Int)) ∧ OwnK w' a (mkL ks k) S ∧ Turn S w w'

set_option maxRecDepth 100000 in
set_option maxHeartbeats 4000000 in
theorem markNodeS_step (K : Nat) (ih : MkS K) : MkS (K + 1) := by
  intro ks a cap k S w hn h hlt hk1 hk2 hl
  have HI : Hid (MkS K) := ih
  clear ih
  go_enter Try.func81, Try.ntmps81
  go_wp2
  go_loopw [1, 5] (fun kv i wr => ∃ j q : Nat, j ≤ ks.length ∧ i = .int .i64 j ∧ kv = .int .i64 q ∧ q = k + 3 * cntL (ks.take j) ∧ OwnK wr a (mkJ ks k j) S ∧ Turn S w wr) (fun _ i _ => ks.length - (intOf i).toNat)
  case atStart => exact ⟨0, k, Nat.zero_le _, rfl, rfl, by simp [cntL], by rw [mkJ_zero]; exact h, Turn.refl _ _⟩
  case round =>
    obtain ⟨j, q, hj, rfl, rfl, hq, hO, hT⟩ := hrel
    have hq1 : 1 ≤ q := by omega
    have hq2 : q ≤ 100000000 := by have := cntL_take ks j; omega
    have HQ := hide hq
    clear hq
    have HT := hide hT
    have hlr : ∀ x, S x → x < wr.heap.size := fun x hx => Nat.lt_of_lt_of_le (hlt x hx) hT.size
    clear hT
    by_cases hltj : j < ks.length
    · have hjl : j < (mkJ ks k j).length := by rw [mkJ_length]; exact hltj
      obtain ⟨b, o, aj, cj, Sj, rfl, hop⟩ := hO.opened (by omega)
      have HOP := hide hop
      have hat := mkJ_at ks k j hltj hjl
      have hcs := hop.hc j hjl
      rw [hat] at hcs
      obtain ⟨k0, k1, k2, k3⟩ := hcs
      have hbw := hlr b hop.hb
      have hff := hop.hf
      have HST := hide (mkJ_step ks k j hltj)
      have HCN := hide (cntL_snoc ks j hltj)
      have hcn : cntL (ks[j]).ks < K := by have := cntL_at ks j hltj; omega
      have hq3 : q + 3 * (ks[j]).cnt ≤ 100000000 := by have h1 := HQ.out; have h2 := HCN.out; have h3 := cntL_take ks (j + 1); omega
      have hcc : (ks[j]).cnt = cntL (ks[j]).ks + 1 := cnt_ks _
      have hkl : (ks[j]).ks.length ≤ 100000000 := by
        have h1 : (ks[j]).ks.length ≤ cntL (ks[j]).ks := len_cnt _
        omega
      have hq4 : q + 3 ≤ 100000000 := by omega
      have HCC := hide hcc
      clear hcc hop hO
      have f0 := hff (o + j * 4)
      have f1 := hff (o + j * 4 + 1)
      have f2 := hff (o + j * 4 + 2)
      clear hff
      go_wp2_with fail
      refine (markText_any q hq1 hq2 wr).mono ?_
      rintro e w1 ⟨rfl, b1⟩
      have y0 := (b1.cell (p := ⟨b, o + j * 4, none⟩) hbw).trans k0
      have g0 := (b1.frozen (p := ⟨b, o + j * 4, none⟩) hbw).trans f0
      have hb1w : b < w1.heap.size := Nat.lt_of_lt_of_le hbw b1.size
      have B1 := hide b1
      go_wp2_with fail
      refine (markText_any (q + 1) (by omega) (by omega) _).mono ?_
      rintro e w2 ⟨rfl, b2⟩
      have hb2w : b < (w1.setCell ⟨b, o + j * 4, none⟩ (.string (mt q))).heap.size := by simpa using hb1w
      have y1 : w2.cell? ⟨b, o + j * 4 + 1, none⟩ = some (.string (ks[j]).nm) := (b2.cell (p := ⟨b, o + j * 4 + 1, none⟩) hb2w).trans ((cell_at _ _ _ _ _ (by omega)).trans ((b1.cell (p := ⟨b, o + j * 4 + 1, none⟩) hbw).trans k1))
      have g1 : w2.frozen? ⟨b, o + j * 4 + 1, none⟩ = false := (b2.frozen (p := ⟨b, o + j * 4 + 1, none⟩) hb2w).trans ((World.frozen?_setCell _ _ _ _).trans ((b1.frozen (p := ⟨b, o + j * 4 + 1, none⟩) hbw).trans f1))
      have hb3w : b < w2.heap.size := Nat.lt_of_lt_of_le hb2w b2.size
      have B2 := hide b2
      clear y0 g0
      go_wp2_with fail
      refine (markText_any (q + 1 + 1) (by omega) (by omega) _).mono ?_
      rintro e w3 ⟨rfl, b3⟩
      have hb4w : b < (w2.setCell ⟨b, o + j * 4 + 1, none⟩ (.string (mt (q + 1)))).heap.size := by simpa using hb3w
      have y2 : w3.cell? ⟨b, o + j * 4 + 2, none⟩ = some (.string (ks[j]).tx) := (b3.cell (p := ⟨b, o + j * 4 + 2, none⟩) hb4w).trans ((cell_at _ _ _ _ _ (by omega)).trans ((b2.cell (p := ⟨b, o + j * 4 + 2, none⟩) hb2w).trans ((cell_at _ _ _ _ _ (by omega)).trans ((b1.cell (p := ⟨b, o + j * 4 + 2, none⟩) hbw).trans k2))))
      have y3 : w3.cell? ⟨b, o + j * 4 + 3, none⟩ = some (.slice (aj j) (ks[j]).ks.length (cj j)) := (b3.cell (p := ⟨b, o + j * 4 + 3, none⟩) hb4w).trans ((cell_at _ _ _ _ _ (by omega)).trans ((b2.cell (p := ⟨b, o + j * 4 + 3, none⟩) hb2w).trans ((cell_at _ _ _ _ _ (by omega)).trans ((b1.cell (p := ⟨b, o + j * 4 + 3, none⟩) hbw).trans k3))))
      have g2 : w3.frozen? ⟨b, o + j * 4 + 2, none⟩ = false := (b3.frozen (p := ⟨b, o + j * 4 + 2, none⟩) hb4w).trans ((World.frozen?_setCell _ _ _ _).trans ((b2.frozen (p := ⟨b, o + j * 4 + 2, none⟩) hb2w).trans ((World.frozen?_setCell _ _ _ _).trans ((b1.frozen (p := ⟨b, o + j * 4 + 2, none⟩) hbw).trans f2))))
      have B3 := hide b3
      have HT3 : Hid (Turn (fun x => x = b) wr (w3.setCell ⟨b, o + j * 4 + 2, none⟩ (.string (mt (q + 1 + 1))))) := (((((Turn.of_below b1).trans (Turn.set (S := fun x => x = b) w1 ⟨b, o + j * 4, none⟩ (.string (mt q)) rfl)).trans (Turn.of_below b2)).trans (Turn.set (S := fun x => x = b) w2 ⟨b, o + j * 4 + 1, none⟩ (.string (mt (q + 1))) rfl)).trans (Turn.of_below b3)).trans (Turn.set (S := fun x => x = b) w3 ⟨b, o + j * 4 + 2, none⟩ (.string (mt (q + 1 + 1))) rfl)
      have hkid := (HOP.out.hk j hjl).turn HT3.out (fun x hx => hlr x (HOP.out.hS j x hjl hx).1) (fun x hx => (HOP.out.hS j x hjl hx).2)
      rw [hat] at hkid
      have HQ4 := hide (HI.out (ks[j]).ks (aj j) (cj j) (q + 1 + 1 + 1) (Sj j) _ hcn hkid (fun x hx => Nat.lt_of_lt_of_le (hlr x (HOP.out.hS j x hjl hx).1) HT3.out.size) (by omega) (by have := HCC.out; omega) hkl)
      clear y1 g1 b1 b2 b3 hkid k0 k1 k2 k3
      go_wp2_with fail
      refine HQ4.out.mono ?_
      rintro e w4 ⟨rfl, o4, t4⟩
      have hfin := mark_round HOP.out hjl hlr B1.out B2.out B3.out t4 o4 (by rw [mkL_length, hat])
      have hmk : Nd.mk (mt q) (mt (q + 1)) (mt (q + 1 + 1)) (mkL (ks[j]).ks (q + 1 + 1 + 1)) = (ks[j]).mkd (k + 3 * cntL (ks.take j)) := by rw [← HQ.out, mkd_ks]
      rw [hmk, HST.out] at hfin
      have HF := hide hfin
      have HQ5 := hide (show q + 1 + 1 + 1 + 3 * cntL (ks[j]).ks = k + 3 * cntL (ks.take (j + 1)) by have h1 := HQ.out; have h2 := HCN.out; have h3 := HCC.out; omega)
      clear hfin hmk o4 t4
      go_wp2
      go_roundw
      case rel => exact ⟨j + 1, _, by omega, by go_num, rfl, HQ5.out, HF.out.1.own, HT.out.trans HF.out.2⟩
      case measure => simp [intOf]; omega
    · rw [mkJ_all ks k j (by omega)] at hO
      have hqe : q = k + 3 * cntL ks := by rw [HQ.out, List.take_of_length_le (by omega)]
      subst hqe
      go_wp2
      go_ret
      exact ⟨rfl, hO, HT.out⟩

theorem markNodeS_all : ∀ K, MkS K := by
  intro K
  induction K with
  | zero => intro ks a cap k S w hn; exact absurd hn (Nat.not_lt_zero _)
  | succ K ih => exact markNodeS_step K ih

set_option maxHeartbeats 1000000 in
theorem markNode_big (n : Nd) (a : Option Addr) (cap : Nat) (S : Nat → Prop) (w : World) (h : OwnK w a n.ks S) (hlt : ∀ x, S x → x < w.heap.size) (hn : n.cnt ≤ 20000000) :
    Calls Try.prog 35 #[.agg #[.string n.ns, .string n.nm, .string n.tx, .slice a n.ks.length cap], .int .i64 1] w fun e w' => e = .returned (.int .i64 ((1 + 3 * cntL n.ks : Nat) : Int)) ∧ OwnK w' a (mkL n.ks 1) S ∧ Turn S w w' := by
  have hc := cnt_ks n
  have hl := len_cnt n.ks
  have hb0 := (Below.refl w.heap.size w).alloc (Nat.le_refl _) (Obj.cells #[.string n.ns, .string n.nm, .string n.tx, .slice a n.ks.length cap] 59)
  have hq := markNodeS_all (cntL n.ks + 1) n.ks a cap 1 S _ (Nat.lt_succ_self _) (h.stays hb0 hlt) (fun x hx => Nat.lt_of_lt_of_le (hlt x hx) hb0.size) (Nat.le_refl _) (by omega) (by omega)
  have HQ := hide hq
  have HB0 := hide hb0
  clear hq hb0 hc hl
  go_enter Try.func35, Try.ntmps35
  go_wp2_with fail
  refine HQ.out.mono ?_
  rintro e w1 ⟨rfl, o1, t1⟩
  have O1 := hide o1
  have T1 := hide t1
  clear o1 t1
  go_wp2
  go_ret
  exact ⟨rfl, O1.out, (Turn.of_below HB0.out).trans T1.out⟩
theorem markNode_any (n : Nd) (a : Option Addr) (cap : Nat) (S : Nat → Prop) (w : World) (h : OwnK w a n.ks S) (hlt : ∀ x, S x → x < w.heap.size) (hn : n.cnt ≤ 2000000) :
    Calls Try.prog 35 #[.agg #[.string n.ns, .string n.nm, .string n.tx, .slice a n.ks.length cap], .int .i64 1] w fun e w' => e = .returned (.int .i64 ((1 + 3 * cntL n.ks : Nat) : Int)) ∧ OwnK w' a (mkL n.ks 1) S ∧ Turn S w w' :=
  markNode_big n a cap S w h hlt (by omega)
end Go.Proofs.Ytclnpfpaabmkcab
