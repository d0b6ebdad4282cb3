/-
  What the laws' own looks at marked nodes do.
-/
import Derived.Test.YtkgdmlfdlkmojaaMathMarkN
import Derived.Test.YtkgdmlfdlkmojaaNodes
import Derived.Deep.RegionHeld3
namespace Go.Proofs.Ytkgdmlfdlkmojaa
open Go.RowKit M
set_option linter.unusedVariables false

def HdS (K : Nat) : Prop := ∀ (ks : List Nd) (a : Option Addr) (cap k B : Nat) (w : World), cntL ks < K → Nds w B a (mkL ks k) → B ≤ w.heap.size → 1 ≤ k → k + 3 * cntL ks ≤ 100000000 → ks.length ≤ 100000000 →
    Calls Try.prog 67 #[.slice a ks.length cap, .int .i64 (k : Int)] w fun e w' => e = .returned (.int .i64 ((k + 3 * cntL ks : Nat) : Int)) ∧ Below w.heap.size w w'

set_option maxRecDepth 100000 in
set_option maxHeartbeats 4000000 in
theorem heldNodeS_step (K : Nat) (ih : HdS K) : HdS (K + 1) := by
  intro ks a cap k B w hn h hB hk1 hk2 hl
  have HI : Hid (HdS K) := ih
  clear ih
  have HH := hide h
  clear h
  go_enter Try.func67, Try.ntmps67
  go_wp2
  go_loopw [1, 5] (fun kv i wr => ∃ j q : Nat, j ≤ ks.length ∧ i = .int .i64 j ∧ kv = .int .i64 q ∧ q = k + 3 * cntL (ks.take j) ∧ Below w.heap.size w wr) (fun _ i _ => ks.length - (intOf i).toNat)
  case atStart => exact ⟨0, k, Nat.zero_le _, rfl, rfl, by simp [cntL], Below.refl _ _⟩
  case round =>
    obtain ⟨j, q, hj, rfl, rfl, hq, hbe⟩ := hrel
    have hq1 : 1 ≤ q := by omega
    have hq2 : q ≤ 100000000 := by have := cntL_take ks j; omega
    have HQ := hide hq
    by_cases hltj : j < ks.length
    · have hjl : j < (mkL ks k).length := by rw [mkL_length]; exact hltj
      have hml := mkL_length ks k
      obtain ⟨b, o, rfl, hb, hc⟩ := (HH.out.stays hbe hB).at (by omega)
      obtain ⟨aj, cj, k0, k1, k2, k3, hkk⟩ := hc j hjl
      rw [mkL_at ks k j hltj hjl, ← hq] at k0 k1 k2 k3 hkk
      rw [mkd_ns] at k0
      rw [mkd_nm] at k1
      rw [mkd_tx] at k2
      rw [mkd_kk, mkL_length] at k3
      rw [mkd_kk] at hkk
      clear hc hml hq
      have hbw : b < wr.heap.size := by have := hbe.size; omega
      have HCN := hide (cntL_snoc ks j hltj)
      have hcn : cntL (ks[j]).ks < K := by have := cntL_at ks j hltj; omega
      have hq3 : q + 3 * (ks[j]).cnt ≤ 100000000 := by have h1 := HQ.out; have h2 := HCN.out; have h3 := cntL_take ks (j + 1); omega
      have hcc : (ks[j]).cnt = cntL (ks[j]).ks + 1 := cnt_ks _
      have hkl : (ks[j]).ks.length ≤ 100000000 := by
        have h1 : (ks[j]).ks.length ≤ cntL (ks[j]).ks := len_cnt _
        omega
      have hq4 : q + 3 ≤ 100000000 := by omega
      have HCC := hide hcc
      clear hcc
      have HM := hide (fun W => markText_any q hq1 hq2 W)
      have HM2 := hide (fun W => markText_any (q + 1) (by omega) (by omega) W)
      have HM3 := hide (fun W => markText_any (q + 1 + 1) (by omega) (by omega) W)
      have hi0 : (0 : Int) ≤ (j : Int) := by omega
      have hi1 : (j : Int) < (ks.length : Int) := by omega
      have hbd : b < wr.drew.heap.size := hbw
      go_wp2
      go_region_held3 (fun w' => w'.cell? ⟨b, o + j * 4, none⟩ = some (.string (mt q))) (first | exact k0 | exact (b1.cell (p := ⟨b, o + j * 4, none⟩) hbd).trans k0) ((go_at_call 56; refine (HM.out _).mono ?_; rintro e w1 ⟨rfl, b1⟩))
      all_goals
        have hb1 : Below wr.heap.size wr w1 := ((Below.refl wr.heap.size wr).drew).trans b1
        have hc1 := hbe.trans (hb1.mono hbe.size)
        have m1 := (hb1.cell (p := ⟨b, o + j * 4 + 1, none⟩) hbw).trans k1
        have m2 := (hb1.cell (p := ⟨b, o + j * 4 + 2, none⟩) hbw).trans k2
        have m3 := (hb1.cell (p := ⟨b, o + j * 4 + 3, none⟩) hbw).trans k3
        have hbw1 : b < w1.heap.size := Nat.lt_of_lt_of_le hbw hb1.size
        have hbd1 : b < w1.drew.heap.size := hbw1
        have N1 := hide (hkk.stays hb1 (Nat.le_trans hB hbe.size))
        clear b1 k0 k1 k2 k3
        go_wp2
        go_region_held3 (fun w' => w'.cell? ⟨b, o + j * 4 + 1, none⟩ = some (.string (mt (q + 1)))) (first | exact m1 | exact (b2.cell (p := ⟨b, o + j * 4 + 1, none⟩) hbd1).trans m1) ((go_at_call 56; refine (HM2.out _).mono ?_; rintro e w2 ⟨rfl, b2⟩))
        all_goals
          have hb2 : Below w1.heap.size w1 w2 := ((Below.refl w1.heap.size w1).drew).trans b2
          have hc2 := hc1.trans (hb2.mono hc1.size)
          have n2 := (hb2.cell (p := ⟨b, o + j * 4 + 2, none⟩) hbw1).trans m2
          have n3 := (hb2.cell (p := ⟨b, o + j * 4 + 3, none⟩) hbw1).trans m3
          have hbw2 : b < w2.heap.size := Nat.lt_of_lt_of_le hbw1 hb2.size
          have hbd2 : b < w2.drew.heap.size := hbw2
          have N2 := hide (N1.out.stays hb2 (Nat.le_trans hB hc1.size))
          clear b2 m1 m2 m3
          go_wp2
          go_region_held3 (fun w' => w'.cell? ⟨b, o + j * 4 + 2, none⟩ = some (.string (mt (q + 1 + 1)))) (first | exact n2 | exact (b3.cell (p := ⟨b, o + j * 4 + 2, none⟩) hbd2).trans n2) ((go_at_call 56; refine (HM3.out _).mono ?_; rintro e w3 ⟨rfl, b3⟩))
          all_goals
            have hb3 : Below w2.heap.size w2 w3 := ((Below.refl w2.heap.size w2).drew).trans b3
            have hc3 := hc2.trans (hb3.mono hc2.size)
            have p3 := (hb3.cell (p := ⟨b, o + j * 4 + 3, none⟩) hbw2).trans n3
            have HQ4 := hide (HI.out (ks[j]).ks aj cj (q + 1 + 1 + 1) B w3 hcn (N2.out.stays hb3 (Nat.le_trans hB hc2.size)) (Nat.le_trans hB hc3.size) (by omega) (by have := HCC.out; omega) hkl)
            clear b3 n2 n3
            go_wp2_with fail
            refine HQ4.out.mono ?_
            rintro e w4 ⟨rfl, b4⟩
            have hc4 := hc3.trans (b4.mono hc3.size)
            have HQ5 := hide (show q + 1 + 1 + 1 + 3 * cntL (ks[j]).ks = k + 3 * cntL (ks.take (j + 1)) by have h1 := HQ.out; have h2 := HCN.out; have h3 := HCC.out; omega)
            have hq6 : q + 1 + 1 + 1 + 3 * cntL (ks[j]).ks ≤ 100000000 := by have := HCC.out; omega
            generalize q + 1 + 1 + 1 + 3 * cntL (ks[j]).ks = q9 at *
            go_wp2
            go_roundw
            case rel => exact ⟨j + 1, q9, by omega, by go_num, rfl, HQ5.out, hc4⟩
            case measure => simp [intOf]; omega
    · have hqe : q = k + 3 * cntL ks := by rw [HQ.out, List.take_of_length_le (by omega)]
      subst hqe
      go_wp2
      go_ret
      exact ⟨rfl, hbe⟩

theorem heldNodeS_all : ∀ K, HdS K := by
  intro K
  induction K with
  | zero => intro ks a cap k B w hn; exact absurd hn (Nat.not_lt_zero _)
  | succ K ih => exact heldNodeS_step K ih

set_option maxHeartbeats 1000000 in
theorem heldNode_big (x y z : ByteArray) (ks : List Nd) (a : Option Addr) (cap B : Nat) (w : World) (h : Nds w B a (mkL ks 1)) (hB : B ≤ w.heap.size) (hn : cntL ks ≤ 20000000) :
    Calls Try.prog 34 #[.agg #[.string x, .string y, .string z, .slice a ks.length cap], .int .i64 1] w fun e w' => e = .returned (.int .i64 ((1 + 3 * cntL ks : Nat) : Int)) ∧ Below w.heap.size w w' := by
  have hl := len_cnt ks
  have hb0 := (Below.refl w.heap.size w).alloc (Nat.le_refl _) (Obj.cells #[.string x, .string y, .string z, .slice a ks.length cap] 58)
  have hq := heldNodeS_all (cntL ks + 1) ks a cap 1 B _ (Nat.lt_succ_self _) (h.stays hb0 hB) (Nat.le_trans hB hb0.size) (Nat.le_refl _) (by omega) (by omega)
  have HQ := hide hq
  have HB0 := hide hb0
  clear hq hb0
  generalize 1 + 3 * cntL ks = c at *
  go_enter Try.func34, Try.ntmps34
  go_wp2_with fail
  refine HQ.out.mono ?_
  rintro e w1 ⟨rfl, b1⟩
  have c1 := HB0.out.trans (b1.mono HB0.out.size)
  go_wp2
  go_ret
  exact ⟨rfl, c1⟩
theorem heldNode_any (x y z : ByteArray) (ks : List Nd) (a : Option Addr) (cap B : Nat) (w : World) (h : Nds w B a (mkL ks 1)) (hB : B ≤ w.heap.size) (hn : cntL ks ≤ 2000000) :
    Calls Try.prog 34 #[.agg #[.string x, .string y, .string z, .slice a ks.length cap], .int .i64 1] w fun e w' => e = .returned (.int .i64 ((1 + 3 * cntL ks : Nat) : Int)) ∧ Below w.heap.size w w' :=
  heldNode_big x y z ks a cap B w h hB (by omega)
end Go.Proofs.Ytkgdmlfdlkmojaa
