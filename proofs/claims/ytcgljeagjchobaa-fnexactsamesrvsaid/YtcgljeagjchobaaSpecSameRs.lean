/-
  Things held against one another: spec.l15SameRes, spec.l15SameTree.
-/
import Derived.Test.YtcgljeagjchobaaSameRs
import Derived.Test.YtcgljeagjchobaaStrEq
import Derived.Deep.RegionHeld3
namespace Go.Proofs.Ytcgljeagjchobaa
open Go.RowKit M
set_option linter.unusedVariables false

theorem keep10 {W w1 : World} {b1 b2 : Nat} {o0 p0 o1 p1 o2 p2 o3 p3 o4 p4 : Nat} {v0 u0 v1 u1 v2 u2 v3 u3 v4 u4 : Value} (hb : Below W.heap.size W w1) (h1 : b1 < W.heap.size) (h2 : b2 < W.heap.size) (h : W.cell? ⟨b1, o0, none⟩ = some v0 ∧ W.cell? ⟨b1, o1, none⟩ = some v1 ∧ W.cell? ⟨b1, o2, none⟩ = some v2 ∧ W.cell? ⟨b1, o3, none⟩ = some v3 ∧ W.cell? ⟨b1, o4, none⟩ = some v4 ∧ W.cell? ⟨b2, p0, none⟩ = some u0 ∧ W.cell? ⟨b2, p1, none⟩ = some u1 ∧ W.cell? ⟨b2, p2, none⟩ = some u2 ∧ W.cell? ⟨b2, p3, none⟩ = some u3 ∧ W.cell? ⟨b2, p4, none⟩ = some u4) :
    w1.cell? ⟨b1, o0, none⟩ = some v0 ∧ w1.cell? ⟨b1, o1, none⟩ = some v1 ∧ w1.cell? ⟨b1, o2, none⟩ = some v2 ∧ w1.cell? ⟨b1, o3, none⟩ = some v3 ∧ w1.cell? ⟨b1, o4, none⟩ = some v4 ∧ w1.cell? ⟨b2, p0, none⟩ = some u0 ∧ w1.cell? ⟨b2, p1, none⟩ = some u1 ∧ w1.cell? ⟨b2, p2, none⟩ = some u2 ∧ w1.cell? ⟨b2, p3, none⟩ = some u3 ∧ w1.cell? ⟨b2, p4, none⟩ = some u4 := by
  obtain ⟨e0, e1, e2, e3, e4, e5, e6, e7, e8, e9⟩ := h
  exact ⟨(hb.cell (p := ⟨b1, _, none⟩) h1).trans e0, (hb.cell (p := ⟨b1, _, none⟩) h1).trans e1, (hb.cell (p := ⟨b1, _, none⟩) h1).trans e2, (hb.cell (p := ⟨b1, _, none⟩) h1).trans e3, (hb.cell (p := ⟨b1, _, none⟩) h1).trans e4, (hb.cell (p := ⟨b2, _, none⟩) h2).trans e5, (hb.cell (p := ⟨b2, _, none⟩) h2).trans e6, (hb.cell (p := ⟨b2, _, none⟩) h2).trans e7, (hb.cell (p := ⟨b2, _, none⟩) h2).trans e8, (hb.cell (p := ⟨b2, _, none⟩) h2).trans e9⟩

set_option maxRecDepth 100000 in
set_option maxHeartbeats 8000000 in
theorem specSameRes_any (r s : Rs) (pa pb qa qb : Option Addr) (pc pd qc qd B C : Nat) (w : World) (h : Strs w B pa r.pa) (h' : Strs w C pb s.pa) (g : Pps w B qa r.ps) (g' : Pps w C qb s.ps) (hl : r.pa.length ≤ maxLen) (hl' : s.pa.length ≤ maxLen) (gl : r.ps.length ≤ maxLen) (gl' : s.ps.length ≤ maxLen) (hB : B ≤ w.heap.size) (hC : C ≤ w.heap.size) :
    Calls Try.prog 46 #[.agg #[.slice pa r.pa.length pc, .bool r.co, .string r.bo, .int .i64 r.ve, .slice qa r.ps.length qc], .agg #[.slice pb s.pa.length pd, .bool s.co, .string s.bo, .int .i64 s.ve, .slice qb s.ps.length qd]] w fun e w' => e = .returned (.bool (decide (r = s))) ∧ Below w.heap.size w w' := by
  have K0 := hide (show Below w.heap.size w ((w.alloc (Obj.cells #[.slice pa r.pa.length pc, .bool r.co, .string r.bo, .int .i64 r.ve, .slice qa r.ps.length qc] 53)).alloc (Obj.cells #[.slice pb s.pa.length pd, .bool s.co, .string s.bo, .int .i64 s.ve, .slice qb s.ps.length qd] 53)) from ((Below.refl w.heap.size w).alloc (Nat.le_refl _) _).alloc (by simp) _)
  have A0 := hide (show BoxV ((w.alloc (Obj.cells #[.slice pa r.pa.length pc, .bool r.co, .string r.bo, .int .i64 r.ve, .slice qa r.ps.length qc] 53)).alloc (Obj.cells #[.slice pb s.pa.length pd, .bool s.co, .string s.bo, .int .i64 s.ve, .slice qb s.ps.length qd] 53)) w.heap.size [.slice pa r.pa.length pc, .bool r.co, .string r.bo, .int .i64 r.ve, .slice qa r.ps.length qc] from (BoxV.made w [.slice pa r.pa.length pc, .bool r.co, .string r.bo, .int .i64 r.ve, .slice qa r.ps.length qc] 53).alloc _)
  have B0 := hide (show BoxV ((w.alloc (Obj.cells #[.slice pa r.pa.length pc, .bool r.co, .string r.bo, .int .i64 r.ve, .slice qa r.ps.length qc] 53)).alloc (Obj.cells #[.slice pb s.pa.length pd, .bool s.co, .string s.bo, .int .i64 s.ve, .slice qb s.ps.length qd] 53)) (w.heap.size + 1) [.slice pb s.pa.length pd, .bool s.co, .string s.bo, .int .i64 s.ve, .slice qb s.ps.length qd] by have h := BoxV.made (w.alloc (Obj.cells #[.slice pa r.pa.length pc, .bool r.co, .string r.bo, .int .i64 r.ve, .slice qa r.ps.length qc] 53)) [.slice pb s.pa.length pd, .bool s.co, .string s.bo, .int .i64 s.ve, .slice qb s.ps.length qd] 53; simpa using h)
  have HS := hide (fun W (hb : Below w.heap.size w W) => (specSamePath_any pa pb r.pa s.pa pc pd B C W (h.below hb hB) (h'.below hb hC) hl hl').mono (fun e w2 (q : _ ∧ _) => (⟨q.1, q.2 W.heap.size⟩ : _ ∧ Below W.heap.size W w2)))
  have HG := hide (fun W (hb : Below w.heap.size w W) => g.below hb hB)
  have HG' := hide (fun W (hb : Below w.heap.size w W) => g'.below hb hC)
  clear h h' g g'
  unfold maxLen at gl gl'
  have HE := hide (rs_eq r s)
  obtain ⟨q9, hq9⟩ : ∃ z : Bool, decide (r = s) = z := ⟨_, rfl⟩
  rw [hq9] at HE ⊢
  clear hq9
  obtain ⟨z0, hz0⟩ : ∃ z : Bool, sameL r.pa s.pa = z := ⟨_, rfl⟩
  obtain ⟨z1, hz1⟩ : ∃ z : Bool, (r.co != s.co) = z := ⟨_, rfl⟩
  obtain ⟨z2, hz2⟩ : ∃ z : Bool, (r.bo.toList != s.bo.toList) = z := ⟨_, rfl⟩
  obtain ⟨z3, hz3⟩ : ∃ z : Bool, (r.ve != s.ve) = z := ⟨_, rfl⟩
  rw [hz0] at HS HE
  rw [show (r.co == s.co) = !z1 by rw [← hz1]; simp [bne], show (r.bo.toList == s.bo.toList) = !z2 by rw [← hz2]; simp [bne], show (r.ve == s.ve) = !z3 by rw [← hz3]; simp [bne]] at HE
  clear hz0
  cases z0
  · clear hz1 hz2 hz3
    clear HG HG'
    go_enter Try.func46, Try.ntmps46
    have c0 := (A0.out.2 0 _ rfl).1
    have d0 := (B0.out.2 0 _ rfl).1
    have c1 := (A0.out.2 1 _ rfl).1
    have d1 := (B0.out.2 1 _ rfl).1
    have c2 := (A0.out.2 2 _ rfl).1
    have d2 := (B0.out.2 2 _ rfl).1
    have c3 := (A0.out.2 3 _ rfl).1
    have d3 := (B0.out.2 3 _ rfl).1
    have c4 := (A0.out.2 4 _ rfl).1
    have d4 := (B0.out.2 4 _ rfl).1
    go_wp2_with fail
    refine (HS.out _ K0.out).mono ?_
    rintro e w1 ⟨rfl, b1⟩
    clear c0 d0 c1 d1 c2 d2 c3 d3 c4 d4
    have K1 := hide (K0.out.trans (b1.mono K0.out.size))
    have A1 := hide (A0.out.next b1)
    have B1 := hide (B0.out.next b1)
    clear b1 K0 A0 B0
    have c0 := (A1.out.2 0 _ rfl).1
    have d0 := (B1.out.2 0 _ rfl).1
    have c1 := (A1.out.2 1 _ rfl).1
    have d1 := (B1.out.2 1 _ rfl).1
    have c2 := (A1.out.2 2 _ rfl).1
    have d2 := (B1.out.2 2 _ rfl).1
    have c3 := (A1.out.2 3 _ rfl).1
    have d3 := (B1.out.2 3 _ rfl).1
    have c4 := (A1.out.2 4 _ rfl).1
    have d4 := (B1.out.2 4 _ rfl).1
    go_wp2
    go_ret
    exact ⟨ret_bool (by have := HE.out; simpa using this.symm), K1.out⟩
  cases z1
  rotate_left
  · have G1 := hide (show ¬ r.co = s.co by simpa using hz1)
    clear hz1
    clear hz2 hz3
    clear HG HG'
    go_enter Try.func46, Try.ntmps46
    have c0 := (A0.out.2 0 _ rfl).1
    have d0 := (B0.out.2 0 _ rfl).1
    have c1 := (A0.out.2 1 _ rfl).1
    have d1 := (B0.out.2 1 _ rfl).1
    have c2 := (A0.out.2 2 _ rfl).1
    have d2 := (B0.out.2 2 _ rfl).1
    have c3 := (A0.out.2 3 _ rfl).1
    have d3 := (B0.out.2 3 _ rfl).1
    have c4 := (A0.out.2 4 _ rfl).1
    have d4 := (B0.out.2 4 _ rfl).1
    go_wp2_with fail
    refine (HS.out _ K0.out).mono ?_
    rintro e w1 ⟨rfl, b1⟩
    clear c0 d0 c1 d1 c2 d2 c3 d3 c4 d4
    have K1 := hide (K0.out.trans (b1.mono K0.out.size))
    have A1 := hide (A0.out.next b1)
    have B1 := hide (B0.out.next b1)
    clear b1 K0 A0 B0
    have c0 := (A1.out.2 0 _ rfl).1
    have d0 := (B1.out.2 0 _ rfl).1
    have c1 := (A1.out.2 1 _ rfl).1
    have d1 := (B1.out.2 1 _ rfl).1
    have c2 := (A1.out.2 2 _ rfl).1
    have d2 := (B1.out.2 2 _ rfl).1
    have c3 := (A1.out.2 3 _ rfl).1
    have d3 := (B1.out.2 3 _ rfl).1
    have c4 := (A1.out.2 4 _ rfl).1
    have d4 := (B1.out.2 4 _ rfl).1
    have g1 := G1.out
    go_wp2
    go_ret
    exact ⟨ret_bool (by have := HE.out; simpa using this.symm), K1.out⟩
  have G1 := hide (show r.co = s.co by simpa using hz1)
  clear hz1
  cases z2
  rotate_left
  · have G2 := hide (show ¬ r.bo.toList = s.bo.toList by simpa using hz2)
    clear hz2
    clear hz3
    clear HG HG'
    go_enter Try.func46, Try.ntmps46
    have c0 := (A0.out.2 0 _ rfl).1
    have d0 := (B0.out.2 0 _ rfl).1
    have c1 := (A0.out.2 1 _ rfl).1
    have d1 := (B0.out.2 1 _ rfl).1
    have c2 := (A0.out.2 2 _ rfl).1
    have d2 := (B0.out.2 2 _ rfl).1
    have c3 := (A0.out.2 3 _ rfl).1
    have d3 := (B0.out.2 3 _ rfl).1
    have c4 := (A0.out.2 4 _ rfl).1
    have d4 := (B0.out.2 4 _ rfl).1
    go_wp2_with fail
    refine (HS.out _ K0.out).mono ?_
    rintro e w1 ⟨rfl, b1⟩
    clear c0 d0 c1 d1 c2 d2 c3 d3 c4 d4
    have K1 := hide (K0.out.trans (b1.mono K0.out.size))
    have A1 := hide (A0.out.next b1)
    have B1 := hide (B0.out.next b1)
    clear b1 K0 A0 B0
    have c0 := (A1.out.2 0 _ rfl).1
    have d0 := (B1.out.2 0 _ rfl).1
    have c1 := (A1.out.2 1 _ rfl).1
    have d1 := (B1.out.2 1 _ rfl).1
    have c2 := (A1.out.2 2 _ rfl).1
    have d2 := (B1.out.2 2 _ rfl).1
    have c3 := (A1.out.2 3 _ rfl).1
    have d3 := (B1.out.2 3 _ rfl).1
    have c4 := (A1.out.2 4 _ rfl).1
    have d4 := (B1.out.2 4 _ rfl).1
    have g1 := G1.out
    have g2 := G2.out
    go_wp2
    go_ret
    exact ⟨ret_bool (by have := HE.out; simpa using this.symm), K1.out⟩
  have G2 := hide (show r.bo.toList = s.bo.toList by simpa using hz2)
  clear hz2
  cases z3
  rotate_left
  · have G3 := hide (show ¬ r.ve = s.ve by simpa using hz3)
    clear hz3
    clear HG HG'
    go_enter Try.func46, Try.ntmps46
    have c0 := (A0.out.2 0 _ rfl).1
    have d0 := (B0.out.2 0 _ rfl).1
    have c1 := (A0.out.2 1 _ rfl).1
    have d1 := (B0.out.2 1 _ rfl).1
    have c2 := (A0.out.2 2 _ rfl).1
    have d2 := (B0.out.2 2 _ rfl).1
    have c3 := (A0.out.2 3 _ rfl).1
    have d3 := (B0.out.2 3 _ rfl).1
    have c4 := (A0.out.2 4 _ rfl).1
    have d4 := (B0.out.2 4 _ rfl).1
    go_wp2_with fail
    refine (HS.out _ K0.out).mono ?_
    rintro e w1 ⟨rfl, b1⟩
    clear c0 d0 c1 d1 c2 d2 c3 d3 c4 d4
    have K1 := hide (K0.out.trans (b1.mono K0.out.size))
    have A1 := hide (A0.out.next b1)
    have B1 := hide (B0.out.next b1)
    clear b1 K0 A0 B0
    have c0 := (A1.out.2 0 _ rfl).1
    have d0 := (B1.out.2 0 _ rfl).1
    have c1 := (A1.out.2 1 _ rfl).1
    have d1 := (B1.out.2 1 _ rfl).1
    have c2 := (A1.out.2 2 _ rfl).1
    have d2 := (B1.out.2 2 _ rfl).1
    have c3 := (A1.out.2 3 _ rfl).1
    have d3 := (B1.out.2 3 _ rfl).1
    have c4 := (A1.out.2 4 _ rfl).1
    have d4 := (B1.out.2 4 _ rfl).1
    have g1 := G1.out
    have g2 := G2.out
    have g3 := G3.out
    go_wp2
    go_ret
    exact ⟨ret_bool (by have := HE.out; simpa using this.symm), K1.out⟩
  have G3 := hide (show r.ve = s.ve by simpa using hz3)
  clear hz3
  by_cases hlen : r.ps.length = s.ps.length
  rotate_left
  · have f1 : decide (r.ps = s.ps) = false := deq_len hlen
    rw [f1] at HE
    have f2 : ((r.ps.length : Int) != (s.ps.length : Int)) = true := by simp; omega
    clear hlen f1
    clear HG HG'
    go_enter Try.func46, Try.ntmps46
    have c0 := (A0.out.2 0 _ rfl).1
    have d0 := (B0.out.2 0 _ rfl).1
    have c1 := (A0.out.2 1 _ rfl).1
    have d1 := (B0.out.2 1 _ rfl).1
    have c2 := (A0.out.2 2 _ rfl).1
    have d2 := (B0.out.2 2 _ rfl).1
    have c3 := (A0.out.2 3 _ rfl).1
    have d3 := (B0.out.2 3 _ rfl).1
    have c4 := (A0.out.2 4 _ rfl).1
    have d4 := (B0.out.2 4 _ rfl).1
    go_wp2_with fail
    refine (HS.out _ K0.out).mono ?_
    rintro e w1 ⟨rfl, b1⟩
    clear c0 d0 c1 d1 c2 d2 c3 d3 c4 d4
    have K1 := hide (K0.out.trans (b1.mono K0.out.size))
    have A1 := hide (A0.out.next b1)
    have B1 := hide (B0.out.next b1)
    clear b1 K0 A0 B0
    have c0 := (A1.out.2 0 _ rfl).1
    have d0 := (B1.out.2 0 _ rfl).1
    have c1 := (A1.out.2 1 _ rfl).1
    have d1 := (B1.out.2 1 _ rfl).1
    have c2 := (A1.out.2 2 _ rfl).1
    have d2 := (B1.out.2 2 _ rfl).1
    have c3 := (A1.out.2 3 _ rfl).1
    have d3 := (B1.out.2 3 _ rfl).1
    have c4 := (A1.out.2 4 _ rfl).1
    have d4 := (B1.out.2 4 _ rfl).1
    have g1 := G1.out
    have g2 := G2.out
    have g3 := G3.out
    go_wp2
    go_ret
    exact ⟨ret_bool (by have := HE.out; simpa using this.symm), K1.out⟩
  have HL := hide hlen
  have hle : ((r.ps.length : Int) != (s.ps.length : Int)) = false := by simp [hlen]
  clear hlen
  go_enter Try.func46, Try.ntmps46
  have c0 := (A0.out.2 0 _ rfl).1
  have d0 := (B0.out.2 0 _ rfl).1
  have c1 := (A0.out.2 1 _ rfl).1
  have d1 := (B0.out.2 1 _ rfl).1
  have c2 := (A0.out.2 2 _ rfl).1
  have d2 := (B0.out.2 2 _ rfl).1
  have c3 := (A0.out.2 3 _ rfl).1
  have d3 := (B0.out.2 3 _ rfl).1
  have c4 := (A0.out.2 4 _ rfl).1
  have d4 := (B0.out.2 4 _ rfl).1
  go_wp2_with fail
  refine (HS.out _ K0.out).mono ?_
  rintro e w1 ⟨rfl, b1⟩
  clear c0 d0 c1 d1 c2 d2 c3 d3 c4 d4
  have K1 := hide (K0.out.trans (b1.mono K0.out.size))
  have A1 := hide (A0.out.next b1)
  have B1 := hide (B0.out.next b1)
  clear b1 K0 A0 B0
  have c0 := (A1.out.2 0 _ rfl).1
  have d0 := (B1.out.2 0 _ rfl).1
  have c1 := (A1.out.2 1 _ rfl).1
  have d1 := (B1.out.2 1 _ rfl).1
  have c2 := (A1.out.2 2 _ rfl).1
  have d2 := (B1.out.2 2 _ rfl).1
  have c3 := (A1.out.2 3 _ rfl).1
  have d3 := (B1.out.2 3 _ rfl).1
  have c4 := (A1.out.2 4 _ rfl).1
  have d4 := (B1.out.2 4 _ rfl).1
  have g1 := G1.out
  have g2 := G2.out
  have g3 := G3.out
  go_wp2
  go_loopw [5] (fun i wr => ∃ k n : Nat, k ≤ r.ps.length ∧ i = .int .i64 k ∧ r.ps.take k = s.ps.take k ∧ wr = w1.drewN n) (fun i _ => r.ps.length - (intOf i).toNat)
  case atStart => exact ⟨0, 0, Nat.zero_le _, rfl, rfl, rfl⟩
  case round =>
    obtain ⟨k, n, hk, rfl, ht, rfl⟩ := hrel
    have HT : Hid (r.ps.take k = s.ps.take k) := ht
    clear ht
    by_cases hlt : k < r.ps.length
    · have hlt' : k < s.ps.length := by have := HL.out; omega
      obtain ⟨b1, o1, rfl, hb1, hc1⟩ := HG.out _ K1.out (by omega)
      obtain ⟨b2, o2, rfl, hb2, hc2⟩ := HG'.out _ K1.out (by have := HL.out; omega)
      have hx0 := (hc1 k hlt).1
      have hx1 := (hc1 k hlt).2.1
      have hx2 := (hc1 k hlt).2.2
      have hy0 := (hc2 k hlt').1
      have hy1 := (hc2 k hlt').2.1
      have hy2 := (hc2 k hlt').2.2
      have hq := eqIn_prop r.ps[k].1 r.ps[k].2.1 r.ps[k].2.2 s.ps[k].1 s.ps[k].2.1 s.ps[k].2.2
      have hg := prop_guard
      clear hc1 hc2
      by_cases he : r.ps[k] = s.ps[k]
      · have HE2 : Hid (r.ps[k] = s.ps[k]) := he
        have hd : decide (((r.ps[k].1, r.ps[k].2.1, r.ps[k].2.2) : Pp) = (s.ps[k].1, s.ps[k].2.1, s.ps[k].2.2)) = true := decide_eq_true he
        rw [hd] at hq
        clear hd he
        go_wp2
        go_quiet (fail)
        go_wp2
        go_roundw
        case rel => exact ⟨k + 1, n + nq, by omega, by go_num, deq_step k hlt hlt' HT.out HE2.out, by simp⟩
        case measure => simp [intOf]; omega
      · have HF := hide (deq_not k hlt hlt' he)
        have hd : decide (((r.ps[k].1, r.ps[k].2.1, r.ps[k].2.2) : Pp) = (s.ps[k].1, s.ps[k].2.1, s.ps[k].2.2)) = false := decide_eq_false he
        rw [hd] at hq
        clear hd he
        go_wp2
        go_quiet (fail)
        go_wp2
        go_ret
        exact ⟨ret_bool (by have := HE.out; rw [HF.out] at this; simpa using this.symm), below_drewN (below_drewN K1.out _) _⟩
    · have HF := hide (deq_all HL.out k hlt HT.out)
      go_wp2
      go_ret
      exact ⟨ret_bool (by have := HE.out; rw [HF.out] at this; simpa using this.symm), below_drewN K1.out _⟩

set_option maxRecDepth 100000 in
set_option maxHeartbeats 8000000 in
theorem specSameTree_any (a b : Option Addr) (ks ls : List Rs) (cap cap' B C : Nat) (w : World) (h : Rss w B a ks) (h' : Rss w C b ls) (hB : B ≤ w.heap.size) (hC : C ≤ w.heap.size) (hl : ks.length ≤ maxLen) (hl' : ls.length ≤ maxLen) :
    Calls Try.prog 26 #[.slice a ks.length cap, .slice b ls.length cap'] w fun e w' => e = .returned (.bool (decide (ks = ls))) ∧ Below w.heap.size w w' := by
  unfold maxLen at hl hl'
  by_cases hlen : ks.length = ls.length
  · have HL : Hid (ks.length = ls.length) := hlen
    go_enter Try.func26, Try.ntmps26
    rw [← hlen]
    clear hlen
    go_wp2
    go_loopw [5] (fun i wr => ∃ k : Nat, k ≤ ks.length ∧ i = .int .i64 k ∧ ks.take k = ls.take k ∧ Below w.heap.size w wr) (fun i _ => ks.length - (intOf i).toNat)
    case atStart => exact ⟨0, Nat.zero_le _, rfl, rfl, Below.refl _ _⟩
    case round =>
      obtain ⟨k, hk, rfl, ht, hbe⟩ := hrel
      have HT := hide ht
      clear ht
      by_cases hlt : k < ks.length
      · have hlt' : k < ls.length := by have := HL.out; omega
        obtain ⟨b1, o1, rfl, hb1, hc1⟩ := (h.below hbe hB) (by omega)
        obtain ⟨b2, o2, rfl, hb2, hc2⟩ := (h'.below hbe hC) (by have := HL.out; omega)
        obtain ⟨pa, pc, qa, qc, ⟨hx0, hx1, hx2, hx3, hx4⟩, hkx⟩ := hc1 k hlt
        obtain ⟨pb, pd, qb, qd, ⟨hy0, hy1, hy2, hy3, hy4⟩, hky⟩ := hc2 k hlt'
        clear hc1 hc2
        have hq1 : b1 < wr.drew.heap.size := by have := hbe.size; show b1 < wr.heap.size; omega
        have hq2 : b2 < wr.drew.heap.size := by have := hbe.size; show b2 < wr.heap.size; omega
        have KD := hide (show Below w.heap.size w wr.drew from ⟨hbe.os, hbe.tape, hbe.output, hbe.size, hbe.block⟩)
        have bd : Below wr.heap.size wr wr.drew := below_drewG (Below.refl _ _)
        have hq := specSameRes_any ks[k] ls[k] pa pb qa qb pc pd qc qd B C wr.drew (hkx.ph.below bd (Nat.le_trans hB hbe.size)) (hky.ph.below bd (Nat.le_trans hC hbe.size)) (hkx.qh.below bd (Nat.le_trans hB hbe.size)) (hky.qh.below bd (Nat.le_trans hC hbe.size)) (Nat.le_trans hkx.pl hkx.pm) (Nat.le_trans hky.pl hky.pm) (Nat.le_trans hkx.ql hkx.qm) (Nat.le_trans hky.ql hky.qm) (Nat.le_trans hB KD.out.size) (Nat.le_trans hC KD.out.size)
        have HX := hide (And.intro hx0 (And.intro hx1 (And.intro hx2 (And.intro hx3 (And.intro hx4 (And.intro hy0 (And.intro hy1 (And.intro hy2 (And.intro hy3 hy4)))))))))
        have HN := hide (deq_not k hlt hlt')
        have HY := hide (deq_step k hlt hlt' HT.out)
        clear hkx hky bd
        by_cases hz : ks[k] = ls[k]
        · rw [decide_eq_true hz] at hq
          have HQ := hide hq
          have HZ := hide hz
          clear hz hq
          go_wp2
          go_region_held3 (fun W => W.cell? ⟨b1, o1 + k * 5, none⟩ = some (.slice pa ks[k].pa.length pc) ∧ W.cell? ⟨b1, o1 + k * 5 + 1, none⟩ = some (.bool ks[k].co) ∧ W.cell? ⟨b1, o1 + k * 5 + 2, none⟩ = some (.string ks[k].bo) ∧ W.cell? ⟨b1, o1 + k * 5 + 3, none⟩ = some (.int .i64 ks[k].ve) ∧ W.cell? ⟨b1, o1 + k * 5 + 4, none⟩ = some (.slice qa ks[k].ps.length qc) ∧ W.cell? ⟨b2, o2 + k * 5, none⟩ = some (.slice pb ls[k].pa.length pd) ∧ W.cell? ⟨b2, o2 + k * 5 + 1, none⟩ = some (.bool ls[k].co) ∧ W.cell? ⟨b2, o2 + k * 5 + 2, none⟩ = some (.string ls[k].bo) ∧ W.cell? ⟨b2, o2 + k * 5 + 3, none⟩ = some (.int .i64 ls[k].ve) ∧ W.cell? ⟨b2, o2 + k * 5 + 4, none⟩ = some (.slice qb ls[k].ps.length qd)) (first | exact HX.out | exact HX2.out) ((go_at_call 46; refine HQ.out.mono ?_; rintro e w1 ⟨rfl, hb3⟩; have HX2 := hide (keep10 hb3 hq1 hq2 HX.out)))
          all_goals
            have c1 := KD.out.trans (hb3.mono KD.out.size)
            clear hb3
            go_wp2
            go_roundw
            case rel => exact ⟨k + 1, by omega, by go_num, HY.out HZ.out, c1⟩
            case measure => simp [intOf]; omega
        · rw [decide_eq_false hz] at hq
          have HQ := hide hq
          have HZ := hide hz
          clear hz hq
          go_wp2
          go_region_held3 (fun W => W.cell? ⟨b1, o1 + k * 5, none⟩ = some (.slice pa ks[k].pa.length pc) ∧ W.cell? ⟨b1, o1 + k * 5 + 1, none⟩ = some (.bool ks[k].co) ∧ W.cell? ⟨b1, o1 + k * 5 + 2, none⟩ = some (.string ks[k].bo) ∧ W.cell? ⟨b1, o1 + k * 5 + 3, none⟩ = some (.int .i64 ks[k].ve) ∧ W.cell? ⟨b1, o1 + k * 5 + 4, none⟩ = some (.slice qa ks[k].ps.length qc) ∧ W.cell? ⟨b2, o2 + k * 5, none⟩ = some (.slice pb ls[k].pa.length pd) ∧ W.cell? ⟨b2, o2 + k * 5 + 1, none⟩ = some (.bool ls[k].co) ∧ W.cell? ⟨b2, o2 + k * 5 + 2, none⟩ = some (.string ls[k].bo) ∧ W.cell? ⟨b2, o2 + k * 5 + 3, none⟩ = some (.int .i64 ls[k].ve) ∧ W.cell? ⟨b2, o2 + k * 5 + 4, none⟩ = some (.slice qb ls[k].ps.length qd)) (first | exact HX.out | exact HX2.out) ((go_at_call 46; refine HQ.out.mono ?_; rintro e w1 ⟨rfl, hb3⟩; have HX2 := hide (keep10 hb3 hq1 hq2 HX.out)))
          all_goals
            have c1 := KD.out.trans (hb3.mono KD.out.size)
            clear hb3
            go_wp2
            go_ret
            exact ⟨ret_bool (HN.out HZ.out).symm, c1⟩
      · go_wp2
        go_ret
        exact ⟨ret_bool (deq_all HL.out k hlt HT.out).symm, hbe⟩
  · have HS := deq_len hlen
    go_enter Try.func26, Try.ntmps26
    go_wp2
    go_ret
    exact ⟨ret_bool HS.symm, Below.refl _ _⟩
end Go.Proofs.Ytcgljeagjchobaa
