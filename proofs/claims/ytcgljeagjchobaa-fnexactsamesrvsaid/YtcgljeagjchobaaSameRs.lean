/-
  Things held against one another by the program: impl.sameRes, slices.EqualFunc.
-/
import Derived.Test.YtcgljeagjchobaaDeq
import Derived.Test.YtcgljeagjchobaaRess
import Derived.Test.YtcgljeagjchobaaSamePps
import Derived.Test.YtcgljeagjchobaaStrEq
import Derived.Test.YtcgljeagjchobaaGenBox
import Derived.WalkSpells
import Derived.WalkLawsBesides
namespace Go.Proofs.Ytcgljeagjchobaa
open Go.RowKit M
set_option linter.unusedVariables false

theorem bs_eq (x y : ByteArray) : (x.toList == y.toList) = decide (x = y) := by
  by_cases h : x = y
  · simp [h]
  · have : ¬ x.toList = y.toList := fun e => h (strInj e)
    simp [h, this]
theorem rs_eq (r s : Rs) : decide (r = s) = (sameL r.pa s.pa && (r.co == s.co) && (r.bo.toList == s.bo.toList) && (r.ve == s.ve) && decide (r.ps = s.ps)) := by
  obtain ⟨a, b, c, d, e⟩ := r
  obtain ⟨a', b', c', d', e'⟩ := s
  simp only [Rs.mk.injEq, sameL, Bool.decide_and, Bool.and_assoc, bs_eq]
  rw [show (b == b') = decide (b = b') from by by_cases h : b = b' <;> simp [h], show (d == d') = decide (d = d') from by by_cases h : d = d' <;> simp [h]]

set_option maxRecDepth 100000 in
set_option maxHeartbeats 4000000 in
theorem sameRes_any (r s : Rs) (pa pb qa qb : Option Addr) (pc pd qc qd B C : Nat) (w : World) (h : Strs w B pa r.pa) (h' : Strs w C pb s.pa) (g : Pps w B qa r.ps) (g' : Pps w C qb s.ps) (hl : r.pa.length ≤ maxLen) (hl' : s.pa.length ≤ maxLen) (gl : r.ps.length ≤ maxLen) (gl' : s.ps.length ≤ maxLen) (hB : B ≤ w.heap.size) (hC : C ≤ w.heap.size) :
    Calls Try.prog 33 #[.agg #[.slice pa r.pa.length pc, .bool r.co, .string r.bo, .int .i64 r.ve, .slice qa r.ps.length qc], .agg #[.slice pb s.pa.length pd, .bool s.co, .string s.bo, .int .i64 s.ve, .slice qb s.ps.length qd]] w fun e w' => e = .returned (.bool (decide (r = s))) ∧ Below w.heap.size w w' := by
  rw [rs_eq]
  have K0 := hide (show Below w.heap.size w ((w.alloc (Obj.cells #[.slice pa r.pa.length pc, .bool r.co, .string r.bo, .int .i64 r.ve, .slice qa r.ps.length qc] 53)).alloc (Obj.cells #[.slice pb s.pa.length pd, .bool s.co, .string s.bo, .int .i64 s.ve, .slice qb s.ps.length qd] 53)) from ((Below.refl _ _).alloc (Nat.le_refl _) _).alloc (by simp) _)
  have A0 := hide (show BoxV ((w.alloc (Obj.cells #[.slice pa r.pa.length pc, .bool r.co, .string r.bo, .int .i64 r.ve, .slice qa r.ps.length qc] 53)).alloc (Obj.cells #[.slice pb s.pa.length pd, .bool s.co, .string s.bo, .int .i64 s.ve, .slice qb s.ps.length qd] 53)) w.heap.size [.slice pa r.pa.length pc, .bool r.co, .string r.bo, .int .i64 r.ve, .slice qa r.ps.length qc] from (BoxV.made w [.slice pa r.pa.length pc, .bool r.co, .string r.bo, .int .i64 r.ve, .slice qa r.ps.length qc] 53).alloc _)
  have B0 := hide (show BoxV ((w.alloc (Obj.cells #[.slice pa r.pa.length pc, .bool r.co, .string r.bo, .int .i64 r.ve, .slice qa r.ps.length qc] 53)).alloc (Obj.cells #[.slice pb s.pa.length pd, .bool s.co, .string s.bo, .int .i64 s.ve, .slice qb s.ps.length qd] 53)) (w.heap.size + 1) [.slice pb s.pa.length pd, .bool s.co, .string s.bo, .int .i64 s.ve, .slice qb s.ps.length qd] by have h := BoxV.made (w.alloc (Obj.cells #[.slice pa r.pa.length pc, .bool r.co, .string r.bo, .int .i64 r.ve, .slice qa r.ps.length qc] 53)) [.slice pb s.pa.length pd, .bool s.co, .string s.bo, .int .i64 s.ve, .slice qb s.ps.length qd] 53; simpa using h)
  have HS := hide (fun W (hb : Below w.heap.size w W) => (samePath_any pa pb r.pa s.pa pc pd B C W (h.below hb hB) (h'.below hb hC) hl hl').mono (fun e w2 (q : _ ∧ _) => (⟨q.1, q.2 W.heap.size⟩ : _ ∧ Below W.heap.size W w2)))
  have HP := hide (fun W (hb : Below w.heap.size w W) => (slicesEqualP_any qa qb r.ps s.ps qc qd B C W (g.below hb hB) (g'.below hb hC) gl gl').mono (fun e w2 (q : _ ∧ _) => (⟨q.1, q.2 W.heap.size⟩ : _ ∧ Below W.heap.size W w2)))
  clear h h' g g'
  obtain ⟨z0, hz0⟩ : ∃ z : Bool, sameL r.pa s.pa = z := ⟨_, rfl⟩
  rw [hz0] at HS
  obtain ⟨z1, hz1⟩ : ∃ z : Bool, (r.co == s.co) = z := ⟨_, rfl⟩
  obtain ⟨z2, hz2⟩ : ∃ z : Bool, (r.bo.toList == s.bo.toList) = z := ⟨_, rfl⟩
  obtain ⟨z3, hz3⟩ : ∃ z : Bool, (r.ve == s.ve) = z := ⟨_, rfl⟩
  obtain ⟨z4, hz4⟩ : ∃ z : Bool, decide (r.ps = s.ps) = z := ⟨_, rfl⟩
  rw [hz4] at HP
  rw [hz0, hz1, hz2, hz3, hz4]
  cases z0
  · clear hz0 hz1 hz2 hz3 hz4 HP
    go_enter Try.func33, Try.ntmps33
    have c0 := (A0.out.2 0 _ rfl).1
    have d0 := (B0.out.2 0 _ rfl).1
    have c1 := (A0.out.2 1 _ rfl).1
    have d1 := (B0.out.2 1 _ rfl).1
    have c2 := (A0.out.2 2 _ rfl).1
    have d2 := (B0.out.2 2 _ rfl).1
    have c3 := (A0.out.2 3 _ rfl).1
    have d3 := (B0.out.2 3 _ rfl).1
    have c4 := (A0.out.2 4 _ rfl).1
    have d4 := (B0.out.2 4 _ rfl).1
    go_wp2_with fail
    refine (HS.out _ K0.out).mono ?_
    rintro e w1 ⟨rfl, b1⟩
    clear c0 d0 c1 d1 c2 d2 c3 d3 c4 d4
    have K1 := hide (K0.out.trans (b1.mono K0.out.size))
    have A1 := hide (A0.out.next b1)
    have B1 := hide (B0.out.next b1)
    clear b1 K0 A0 B0
    have c0 := (A1.out.2 0 _ rfl).1
    have d0 := (B1.out.2 0 _ rfl).1
    have c1 := (A1.out.2 1 _ rfl).1
    have d1 := (B1.out.2 1 _ rfl).1
    have c2 := (A1.out.2 2 _ rfl).1
    have d2 := (B1.out.2 2 _ rfl).1
    have c3 := (A1.out.2 3 _ rfl).1
    have d3 := (B1.out.2 3 _ rfl).1
    have c4 := (A1.out.2 4 _ rfl).1
    have d4 := (B1.out.2 4 _ rfl).1
    go_wp2
    go_ret
    exact ⟨ret_bool (by simp), K1.out⟩
  cases z1
  · clear hz0 hz2 hz3 hz4 HP
    go_enter Try.func33, Try.ntmps33
    have c0 := (A0.out.2 0 _ rfl).1
    have d0 := (B0.out.2 0 _ rfl).1
    have c1 := (A0.out.2 1 _ rfl).1
    have d1 := (B0.out.2 1 _ rfl).1
    have c2 := (A0.out.2 2 _ rfl).1
    have d2 := (B0.out.2 2 _ rfl).1
    have c3 := (A0.out.2 3 _ rfl).1
    have d3 := (B0.out.2 3 _ rfl).1
    have c4 := (A0.out.2 4 _ rfl).1
    have d4 := (B0.out.2 4 _ rfl).1
    go_wp2_with fail
    refine (HS.out _ K0.out).mono ?_
    rintro e w1 ⟨rfl, b1⟩
    clear c0 d0 c1 d1 c2 d2 c3 d3 c4 d4
    have K1 := hide (K0.out.trans (b1.mono K0.out.size))
    have A1 := hide (A0.out.next b1)
    have B1 := hide (B0.out.next b1)
    clear b1 K0 A0 B0
    have c0 := (A1.out.2 0 _ rfl).1
    have d0 := (B1.out.2 0 _ rfl).1
    have c1 := (A1.out.2 1 _ rfl).1
    have d1 := (B1.out.2 1 _ rfl).1
    have c2 := (A1.out.2 2 _ rfl).1
    have d2 := (B1.out.2 2 _ rfl).1
    have c3 := (A1.out.2 3 _ rfl).1
    have d3 := (B1.out.2 3 _ rfl).1
    have c4 := (A1.out.2 4 _ rfl).1
    have d4 := (B1.out.2 4 _ rfl).1
    go_wp2
    go_ret
    exact ⟨ret_bool (by simp), K1.out⟩
  cases z2
  · clear hz0 hz3 hz4 HP
    go_enter Try.func33, Try.ntmps33
    have c0 := (A0.out.2 0 _ rfl).1
    have d0 := (B0.out.2 0 _ rfl).1
    have c1 := (A0.out.2 1 _ rfl).1
    have d1 := (B0.out.2 1 _ rfl).1
    have c2 := (A0.out.2 2 _ rfl).1
    have d2 := (B0.out.2 2 _ rfl).1
    have c3 := (A0.out.2 3 _ rfl).1
    have d3 := (B0.out.2 3 _ rfl).1
    have c4 := (A0.out.2 4 _ rfl).1
    have d4 := (B0.out.2 4 _ rfl).1
    go_wp2_with fail
    refine (HS.out _ K0.out).mono ?_
    rintro e w1 ⟨rfl, b1⟩
    clear c0 d0 c1 d1 c2 d2 c3 d3 c4 d4
    have K1 := hide (K0.out.trans (b1.mono K0.out.size))
    have A1 := hide (A0.out.next b1)
    have B1 := hide (B0.out.next b1)
    clear b1 K0 A0 B0
    have c0 := (A1.out.2 0 _ rfl).1
    have d0 := (B1.out.2 0 _ rfl).1
    have c1 := (A1.out.2 1 _ rfl).1
    have d1 := (B1.out.2 1 _ rfl).1
    have c2 := (A1.out.2 2 _ rfl).1
    have d2 := (B1.out.2 2 _ rfl).1
    have c3 := (A1.out.2 3 _ rfl).1
    have d3 := (B1.out.2 3 _ rfl).1
    have c4 := (A1.out.2 4 _ rfl).1
    have d4 := (B1.out.2 4 _ rfl).1
    go_wp2
    go_ret
    exact ⟨ret_bool (by simp), K1.out⟩
  cases z3
  · clear hz0 hz4 HP
    go_enter Try.func33, Try.ntmps33
    have c0 := (A0.out.2 0 _ rfl).1
    have d0 := (B0.out.2 0 _ rfl).1
    have c1 := (A0.out.2 1 _ rfl).1
    have d1 := (B0.out.2 1 _ rfl).1
    have c2 := (A0.out.2 2 _ rfl).1
    have d2 := (B0.out.2 2 _ rfl).1
    have c3 := (A0.out.2 3 _ rfl).1
    have d3 := (B0.out.2 3 _ rfl).1
    have c4 := (A0.out.2 4 _ rfl).1
    have d4 := (B0.out.2 4 _ rfl).1
    go_wp2_with fail
    refine (HS.out _ K0.out).mono ?_
    rintro e w1 ⟨rfl, b1⟩
    clear c0 d0 c1 d1 c2 d2 c3 d3 c4 d4
    have K1 := hide (K0.out.trans (b1.mono K0.out.size))
    have A1 := hide (A0.out.next b1)
    have B1 := hide (B0.out.next b1)
    clear b1 K0 A0 B0
    have c0 := (A1.out.2 0 _ rfl).1
    have d0 := (B1.out.2 0 _ rfl).1
    have c1 := (A1.out.2 1 _ rfl).1
    have d1 := (B1.out.2 1 _ rfl).1
    have c2 := (A1.out.2 2 _ rfl).1
    have d2 := (B1.out.2 2 _ rfl).1
    have c3 := (A1.out.2 3 _ rfl).1
    have d3 := (B1.out.2 3 _ rfl).1
    have c4 := (A1.out.2 4 _ rfl).1
    have d4 := (B1.out.2 4 _ rfl).1
    go_wp2
    go_ret
    exact ⟨ret_bool (by simp), K1.out⟩
  cases z4
  · clear hz0 hz4
    go_enter Try.func33, Try.ntmps33
    have c0 := (A0.out.2 0 _ rfl).1
    have d0 := (B0.out.2 0 _ rfl).1
    have c1 := (A0.out.2 1 _ rfl).1
    have d1 := (B0.out.2 1 _ rfl).1
    have c2 := (A0.out.2 2 _ rfl).1
    have d2 := (B0.out.2 2 _ rfl).1
    have c3 := (A0.out.2 3 _ rfl).1
    have d3 := (B0.out.2 3 _ rfl).1
    have c4 := (A0.out.2 4 _ rfl).1
    have d4 := (B0.out.2 4 _ rfl).1
    go_wp2_with fail
    refine (HS.out _ K0.out).mono ?_
    rintro e w1 ⟨rfl, b1⟩
    clear c0 d0 c1 d1 c2 d2 c3 d3 c4 d4
    have K1 := hide (K0.out.trans (b1.mono K0.out.size))
    have A1 := hide (A0.out.next b1)
    have B1 := hide (B0.out.next b1)
    clear b1 K0 A0 B0
    have c0 := (A1.out.2 0 _ rfl).1
    have d0 := (B1.out.2 0 _ rfl).1
    have c1 := (A1.out.2 1 _ rfl).1
    have d1 := (B1.out.2 1 _ rfl).1
    have c2 := (A1.out.2 2 _ rfl).1
    have d2 := (B1.out.2 2 _ rfl).1
    have c3 := (A1.out.2 3 _ rfl).1
    have d3 := (B1.out.2 3 _ rfl).1
    have c4 := (A1.out.2 4 _ rfl).1
    have d4 := (B1.out.2 4 _ rfl).1
    go_wp2_with fail
    refine (HP.out _ K1.out).mono ?_
    rintro e w2 ⟨rfl, b2⟩
    clear c0 d0 c1 d1 c2 d2 c3 d3 c4 d4
    have K2 := hide (K1.out.trans (b2.mono K1.out.size))
    have A2 := hide (A1.out.next b2)
    have B2 := hide (B1.out.next b2)
    clear b2 K1 A1 B1
    have c0 := (A2.out.2 0 _ rfl).1
    have d0 := (B2.out.2 0 _ rfl).1
    have c1 := (A2.out.2 1 _ rfl).1
    have d1 := (B2.out.2 1 _ rfl).1
    have c2 := (A2.out.2 2 _ rfl).1
    have d2 := (B2.out.2 2 _ rfl).1
    have c3 := (A2.out.2 3 _ rfl).1
    have d3 := (B2.out.2 3 _ rfl).1
    have c4 := (A2.out.2 4 _ rfl).1
    have d4 := (B2.out.2 4 _ rfl).1
    go_wp2
    go_ret
    exact ⟨ret_bool (by simp), K2.out⟩
  clear hz0 hz4
  go_enter Try.func33, Try.ntmps33
  have c0 := (A0.out.2 0 _ rfl).1
  have d0 := (B0.out.2 0 _ rfl).1
  have c1 := (A0.out.2 1 _ rfl).1
  have d1 := (B0.out.2 1 _ rfl).1
  have c2 := (A0.out.2 2 _ rfl).1
  have d2 := (B0.out.2 2 _ rfl).1
  have c3 := (A0.out.2 3 _ rfl).1
  have d3 := (B0.out.2 3 _ rfl).1
  have c4 := (A0.out.2 4 _ rfl).1
  have d4 := (B0.out.2 4 _ rfl).1
  go_wp2_with fail
  refine (HS.out _ K0.out).mono ?_
  rintro e w1 ⟨rfl, b1⟩
  clear c0 d0 c1 d1 c2 d2 c3 d3 c4 d4
  have K1 := hide (K0.out.trans (b1.mono K0.out.size))
  have A1 := hide (A0.out.next b1)
  have B1 := hide (B0.out.next b1)
  clear b1 K0 A0 B0
  have c0 := (A1.out.2 0 _ rfl).1
  have d0 := (B1.out.2 0 _ rfl).1
  have c1 := (A1.out.2 1 _ rfl).1
  have d1 := (B1.out.2 1 _ rfl).1
  have c2 := (A1.out.2 2 _ rfl).1
  have d2 := (B1.out.2 2 _ rfl).1
  have c3 := (A1.out.2 3 _ rfl).1
  have d3 := (B1.out.2 3 _ rfl).1
  have c4 := (A1.out.2 4 _ rfl).1
  have d4 := (B1.out.2 4 _ rfl).1
  go_wp2_with fail
  refine (HP.out _ K1.out).mono ?_
  rintro e w2 ⟨rfl, b2⟩
  clear c0 d0 c1 d1 c2 d2 c3 d3 c4 d4
  have K2 := hide (K1.out.trans (b2.mono K1.out.size))
  have A2 := hide (A1.out.next b2)
  have B2 := hide (B1.out.next b2)
  clear b2 K1 A1 B1
  have c0 := (A2.out.2 0 _ rfl).1
  have d0 := (B2.out.2 0 _ rfl).1
  have c1 := (A2.out.2 1 _ rfl).1
  have d1 := (B2.out.2 1 _ rfl).1
  have c2 := (A2.out.2 2 _ rfl).1
  have d2 := (B2.out.2 2 _ rfl).1
  have c3 := (A2.out.2 3 _ rfl).1
  have d3 := (B2.out.2 3 _ rfl).1
  have c4 := (A2.out.2 4 _ rfl).1
  have d4 := (B2.out.2 4 _ rfl).1
  go_wp2
  go_ret
  exact ⟨ret_bool (by simp), K2.out⟩

set_option maxRecDepth 100000 in
set_option maxHeartbeats 4000000 in
theorem equalRess_any (a b : Option Addr) (ks ls : List Rs) (cap cap' B C : Nat) (w : World) (h : Rss w B a ks) (h' : Rss w C b ls) (hB : B ≤ w.heap.size) (hC : C ≤ w.heap.size) (hl : ks.length ≤ maxLen) (hl' : ls.length ≤ maxLen) :
    Calls Try.prog 32 #[.slice a ks.length cap, .slice b ls.length cap', .func (.func 33) #[] #[]] w fun e w' => e = .returned (.bool (decide (ks = ls))) ∧ Below w.heap.size w w' := by
  have hE : ∀ args w, (callFunc 33 args).run Try.prog w = .ok (.enter 33 args) w := fun args w => enter_fn Try.func33 (by kernel_rfl) rfl args w
  unfold maxLen at hl hl'
  by_cases hlen : ks.length = ls.length
  · have HL : Hid (ks.length = ls.length) := hlen
    go_enter Try.func32, Try.ntmps32
    rw [← hlen]
    clear hlen
    go_wp2
    go_loopw [17] (fun i wr => ∃ k : Nat, k ≤ ks.length ∧ i = .int .i64 k ∧ ks.take k = ls.take k ∧ Below w.heap.size w wr) (fun i _ => ks.length - (intOf i).toNat)
    case atStart => exact ⟨0, Nat.zero_le _, rfl, rfl, Below.refl _ _⟩
    case round =>
      obtain ⟨k, hk, rfl, ht, hbe⟩ := hrel
      have HT := hide ht
      clear ht
      by_cases hlt : k < ks.length
      · have hlt' : k < ls.length := by have := HL.out; omega
        obtain ⟨b1, o1, rfl, hb1, hc1⟩ := (h.below hbe hB) (by omega)
        obtain ⟨b2, o2, rfl, hb2, hc2⟩ := (h'.below hbe hC) (by have := HL.out; omega)
        obtain ⟨pa, pc, qa, qc, ⟨hx0, hx1, hx2, hx3, hx4⟩, hkx⟩ := hc1 k hlt
        obtain ⟨pb, pd, qb, qd, ⟨hy0, hy1, hy2, hy3, hy4⟩, hky⟩ := hc2 k hlt'
        clear hc1 hc2
        have hq1 : b1 < wr.heap.size := by have := hbe.size; omega
        have hq2 : b2 < wr.heap.size := by have := hbe.size; omega
        have HBA := hide (((Below.refl wr.heap.size wr).alloc (Nat.le_refl _) (Obj.cells #[.slice pa ks[k].pa.length pc, .bool ks[k].co, .string ks[k].bo, .int .i64 ks[k].ve, .slice qa ks[k].ps.length qc] 53)).alloc (by simp) (Obj.cells #[.slice pb ls[k].pa.length pd, .bool ls[k].co, .string ls[k].bo, .int .i64 ls[k].ve, .slice qb ls[k].ps.length qd] 53))
        have HQ := hide (sameRes_any ks[k] ls[k] pa pb qa qb pc pd qc qd B C _ (hkx.ph.below HBA.out (Nat.le_trans hB hbe.size)) (hky.ph.below HBA.out (Nat.le_trans hC hbe.size)) (hkx.qh.below HBA.out (Nat.le_trans hB hbe.size)) (hky.qh.below HBA.out (Nat.le_trans hC hbe.size)) (Nat.le_trans hkx.pl hkx.pm) (Nat.le_trans hky.pl hky.pm) (Nat.le_trans hkx.ql hkx.qm) (Nat.le_trans hky.ql hky.qm) (Nat.le_trans (Nat.le_trans hB hbe.size) HBA.out.size) (Nat.le_trans (Nat.le_trans hC hbe.size) HBA.out.size))
        have HN := hide (deq_not k hlt hlt')
        have HY := hide (deq_step k hlt hlt' HT.out)
        clear hkx hky
        by_cases hz : ks[k] = ls[k]
        · rw [decide_eq_true hz] at HQ
          have HZ := hide hz
          clear hz
          go_wp2_with fail
          try rw [hE, Oper.upon_enter]
          refine HQ.out.mono ?_
          rintro e w1 ⟨rfl, hb3⟩
          have c1 := hbe.trans ((HBA.out.trans (hb3.mono HBA.out.size)).mono hbe.size)
          go_wp2
          go_roundw
          case rel => exact ⟨k + 1, by omega, by go_num, HY.out HZ.out, c1⟩
          case measure => simp [intOf]; omega
        · rw [decide_eq_false hz] at HQ
          have HZ := hide hz
          clear hz
          go_wp2_with fail
          try rw [hE, Oper.upon_enter]
          refine HQ.out.mono ?_
          rintro e w1 ⟨rfl, hb3⟩
          have c1 := hbe.trans ((HBA.out.trans (hb3.mono HBA.out.size)).mono hbe.size)
          go_wp2
          go_ret
          exact ⟨ret_bool (HN.out HZ.out).symm, c1⟩
      · go_wp2
        go_ret
        exact ⟨ret_bool (deq_all HL.out k hlt HT.out).symm, hbe⟩
  · have HS := deq_len hlen
    go_enter Try.func32, Try.ntmps32
    go_wp2
    go_ret
    exact ⟨ret_bool HS.symm, Below.refl _ _⟩
end Go.Proofs.Ytcgljeagjchobaa
