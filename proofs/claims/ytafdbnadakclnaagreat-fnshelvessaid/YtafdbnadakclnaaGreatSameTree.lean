/-
  Whether two slices of things hold the same, where they do: what laws.sameProps, sameRes and sameTree do.
-/
import Derived.Test.YtafdbnadakclnaaGreatSameTexts
import Derived.Test.YtafdbnadakclnaaGreatDrawC
import Derived.Test.YtafdbnadakclnaaGreatSameProps
import Derived.Laws.StructEq
import Derived.Deep.RegionHeld3
namespace Go.Proofs.YtafdbnadakclnaaGreat
open Go.RowKit M
set_option linter.unusedVariables false

theorem keep10S {W w1 : World} {b1 b2 o1 o2 : Nat} {r s : Rs} {pa : Option Addr} {pc : Nat} {qa : Option Addr} {qc : Nat} {pa' : Option Addr} {pc' : Nat} {qa' : Option Addr} {qc' : Nat} (hb : Below W.heap.size W w1) (h1 : b1 < W.heap.size) (h2 : b2 < W.heap.size)
    (h : RsAt W b1 o1 r pa pc qa qc ∧ RsAt W b2 o2 s pa' pc' qa' qc') : RsAt w1 b1 o1 r pa pc qa qc ∧ RsAt w1 b2 o2 s pa' pc' qa' qc' :=
  ⟨h.1.of (fun o' => (bcellP hb).1 b1 o' h1), h.2.of (fun o' => (bcellP hb).1 b2 o' h2)⟩

set_option maxRecDepth 100000 in
set_option maxHeartbeats 2000000 in
theorem sameRes_same (r : Rs) (pa : Option Addr) (pc : Nat) (qa : Option Addr) (qc : Nat) (pa' : Option Addr) (pc' : Nat) (qa' : Option Addr) (qc' : Nat) (B C : Nat) (w : World) (h : RsIn w B r pa pc qa qc) (h' : RsIn w C r pa' pc' qa' qc') (hB : B ≤ w.heap.size) (hC : C ≤ w.heap.size) :
    Calls Tryz.prog 17 #[.agg #[.slice pa r.pa.length pc, .bool r.co, .string r.bo, .int .i64 r.ve, .slice qa r.ps.length qc], .agg #[.slice pa' r.pa.length pc', .bool r.co, .string r.bo, .int .i64 r.ve, .slice qa' r.ps.length qc']] w fun e w' => e = .returned (.bool true) ∧ Below w.heap.size w w' := by
  have l1 : r.pa.length ≤ maxLen := Nat.le_trans h.pl h.pm
  have l2 : r.ps.length ≤ maxLen := Nat.le_trans h.ql h.qm
  have HB := hide (((Below.refl w.heap.size w).alloc (Nat.le_refl _) (Obj.cells #[.slice pa r.pa.length pc, .bool r.co, .string r.bo, .int .i64 r.ve, .slice qa r.ps.length qc] 35)).alloc (by simp) (Obj.cells #[.slice pa' r.pa.length pc', .bool r.co, .string r.bo, .int .i64 r.ve, .slice qa' r.ps.length qc'] 35))
  have HS1 := hide (fun W (hW : Below w.heap.size w W) => sameTexts_any pa pa' r.pa r.pa pc pc' B C W (h.ph.below hW hB) (h'.ph.below hW hC) l1 l1)
  have HS2 := hide (fun W (hW : Below w.heap.size w W) => sameProps_same qa qa' r.ps qc qc' B C W (h.qh.below hW hB) (h'.qh.below hW hC) l2)
  have HC1 := hide (show let W := ((w.alloc (Obj.cells #[.slice pa r.pa.length pc, .bool r.co, .string r.bo, .int .i64 r.ve, .slice qa r.ps.length qc] 35)).alloc (Obj.cells #[.slice pa' r.pa.length pc', .bool r.co, .string r.bo, .int .i64 r.ve, .slice qa' r.ps.length qc'] 35)); RsAt W w.heap.size 0 r pa pc qa qc ∧ RsAt W (w.heap.size + 1) 0 r pa' pc' qa' qc' by
    refine ⟨⟨?_, ?_, ?_, ?_, ?_⟩, ⟨?_, ?_, ?_, ?_, ?_⟩⟩ <;> simp [go_sem])
  have HQ1 := hide (HS1.out _ HB.out)
  simp only [sameL_refl] at HQ1
  have e1 : (r.co == r.co) = true := beq_self_eq_true _
  have e2 : (r.bo.toList == r.bo.toList) = true := beq_self_eq_true _
  have e3 : (r.ve == r.ve) = true := beq_self_eq_true _
  go_enter Tryz.func17, Tryz.ntmps17
  go_wp2_with fail
  refine HQ1.out.mono ?_
  rintro e w1 ⟨rfl, b1'⟩
  have b1 := b1' ((w.alloc (Obj.cells #[.slice pa r.pa.length pc, .bool r.co, .string r.bo, .int .i64 r.ve, .slice qa r.ps.length qc] 35)).alloc (Obj.cells #[.slice pa' r.pa.length pc', .bool r.co, .string r.bo, .int .i64 r.ve, .slice qa' r.ps.length qc'] 35)).heap.size
  have c1 := HB.out.trans (b1.mono HB.out.size)
  obtain ⟨hx, hy⟩ := HC1.out
  have hx' := hx.of (w' := w1) (fun o' => (bcellP b1).1 _ o' (by simp; omega))
  have hy' := hy.of (w' := w1) (fun o' => (bcellP b1).1 _ o' (by simp))
  obtain ⟨hx0, hx1, hx2, hx3, hx4⟩ := hx'
  obtain ⟨hy0, hy1, hy2, hy3, hy4⟩ := hy'
  simp only [Nat.zero_add] at hx0 hx1 hx2 hx3 hx4 hy0 hy1 hy2 hy3 hy4
  have HQ2 := hide (HS2.out w1 c1)
  clear hx hy b1' b1 HC1
  go_wp2_with fail
  refine HQ2.out.mono ?_
  rintro e w2 ⟨rfl, b2'⟩
  have c2 := c1.trans (b2' w.heap.size)
  go_wp2
  go_ret
  exact ⟨rfl, c2⟩

set_option maxRecDepth 100000 in
set_option maxHeartbeats 2000000 in
theorem sameTree_same (a b : Option Addr) (ss : List Rs) (cap cap' B C : Nat) (w : World) (h : Rss w B a ss) (h' : Rss w C b ss) (hB : B ≤ w.heap.size) (hC : C ≤ w.heap.size) (hl : ss.length ≤ maxLen) :
    Calls Tryz.prog 12 #[.slice a ss.length cap, .slice b ss.length cap'] w fun e w' => e = .returned (.bool true) ∧ Below w.heap.size w w' := by
  unfold maxLen at hl
  go_enter Tryz.func12, Tryz.ntmps12
  go_wp2
  go_loopw [5] (fun i wr => ∃ k : Nat, k ≤ ss.length ∧ i = .int .i64 k ∧ Below w.heap.size w wr) (fun i _ => ss.length - (intOf i).toNat)
  case atStart => exact ⟨0, Nat.zero_le _, rfl, Below.refl _ _⟩
  case round =>
    obtain ⟨k, hk, rfl, hbe⟩ := hrel
    by_cases hlt : k < ss.length
    · obtain ⟨b1, o1, rfl, hb1, hc1⟩ := (h.below hbe hB) (by omega)
      obtain ⟨b2, o2, rfl, hb2, hc2⟩ := (h'.below hbe hC) (by omega)
      obtain ⟨pa, pc, qa, qc, ha1, hi1⟩ := hc1 k hlt
      obtain ⟨pa', pc', qa', qc', ha2, hi2⟩ := hc2 k hlt
      clear hc1 hc2
      have hl1 : b1 < wr.drew.heap.size := by have := hbe.size; show b1 < wr.heap.size; omega
      have hl2 : b2 < wr.drew.heap.size := by have := hbe.size; show b2 < wr.heap.size; omega
      have hbd : Below w.heap.size w wr.drew := below_drewP hbe
      have hq := sameRes_same ss[k] pa pc qa qc pa' pc' qa' qc' B C wr.drew hi1.drew hi2.drew (Nat.le_trans hB hbd.size) (Nat.le_trans hC hbd.size)
      have HX := hide (And.intro (ha1.of (w' := wr.drew) (fun _ => rfl)) (ha2.of (w' := wr.drew) (fun _ => rfl)))
      obtain ⟨hx0, hx1, hx2, hx3, hx4⟩ := ha1
      obtain ⟨hy0, hy1, hy2, hy3, hy4⟩ := ha2
      clear hi1 hi2
      go_wp2
      go_region_held3 (fun W => (W.cell? ⟨b1, o1 + k * 5, none⟩ = some (.slice pa ss[k].pa.length pc) ∧ W.cell? ⟨b1, o1 + k * 5 + 1, none⟩ = some (.bool ss[k].co) ∧ W.cell? ⟨b1, o1 + k * 5 + 2, none⟩ = some (.string ss[k].bo) ∧ W.cell? ⟨b1, o1 + k * 5 + 3, none⟩ = some (.int .i64 ss[k].ve) ∧ W.cell? ⟨b1, o1 + k * 5 + 4, none⟩ = some (.slice qa ss[k].ps.length qc)) ∧ (W.cell? ⟨b2, o2 + k * 5, none⟩ = some (.slice pa' ss[k].pa.length pc') ∧ W.cell? ⟨b2, o2 + k * 5 + 1, none⟩ = some (.bool ss[k].co) ∧ W.cell? ⟨b2, o2 + k * 5 + 2, none⟩ = some (.string ss[k].bo) ∧ W.cell? ⟨b2, o2 + k * 5 + 3, none⟩ = some (.int .i64 ss[k].ve) ∧ W.cell? ⟨b2, o2 + k * 5 + 4, none⟩ = some (.slice qa' ss[k].ps.length qc'))) (first | exact HX.out | exact HX2.out) ((go_at_call 17; refine hq.mono ?_; rintro e w1 ⟨rfl, hb3⟩; have HX2 := hide (keep10S hb3 hl1 hl2 HX.out)))
      all_goals
        have c1 := hbd.trans (hb3.mono hbd.size)
        clear hq hb3
        go_wp2
        go_roundw
        case rel => exact ⟨k + 1, by omega, by go_num, c1⟩
        case measure => simp [intOf]; omega
    · go_wp2
      go_ret
      exact ⟨rfl, hbe⟩
end Go.Proofs.YtafdbnadakclnaaGreat
