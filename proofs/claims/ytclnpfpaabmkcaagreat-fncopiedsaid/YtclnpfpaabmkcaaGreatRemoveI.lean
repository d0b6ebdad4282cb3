/-
  What impl.removeRefused and impl.Remove do.
-/
import Derived.Test.YtclnpfpaabmkcaaGreatGaveIs
import Derived.Test.YtclnpfpaabmkcaaGreatWithout
import Derived.Test.YtclnpfpaabmkcaaGreatMathRem
namespace Go.Proofs.YtclnpfpaabmkcaaGreat
open Go.RowKit M
set_option linter.unusedVariables false

set_option maxHeartbeats 1000000 in
theorem removeRefused_any (a : Option Addr) (rs : List Rs) (cap B : Nat) (b : Option Addr) (p : List ByteArray) (cap' C : Nat) (w : World) (h : Rss w B a rs) (h' : Strs w C b p) (hB : B ≤ w.heap.size) (hC : C ≤ w.heap.size) (hs : ShortT rs) (hl : rs.length ≤ maxLen) (hs' : Short p) (hl' : p.length ≤ maxLen) :
    Calls Tryz.prog 69 #[.slice a rs.length cap, .slice b p.length cap'] w fun e w' => e = .returned (.int .i64 (remI rs p)) ∧ Below w.heap.size w w' := by
  have hb0 := (Below.refl w.heap.size w).alloc (Nat.le_refl _) (Obj.cells #[.slice b p.length cap'] 25)
  have hA := askRefused_any a rs cap B 0 w.heap.size 1 [(p, b, cap')] (by simp) (w.alloc (Obj.cells #[.slice b p.length cap'] 25)) (h.below hb0 hB) (by simp; omega) hs hl (PathsAt.one h' hC hs' hl')
  rw [askI_one] at hA
  have HA := hide hA
  have HB0 := hide hb0
  have HT := hide (fun W (hb : Below w.heap.size w W) => isThere_any a rs cap B b p cap' C W (h.below hb hB) (h'.below hb hC) hl hl' (Nat.le_trans hB hb.size) (Nat.le_trans hC hb.size))
  have HE := hide (show remI rs p = if mayI rs p 0 ≠ 0 then mayI rs p 0 else if p.length = 0 then 403 else if findI rs p < 0 then 404 else 0 from rfl)
  have HH := hide (show thereB rs p = (decide (p.length = 0) || decide (0 ≤ findI rs p)) from rfl)
  generalize remI rs p = E at *
  generalize mayI rs p 0 = m at *
  generalize findI rs p = F at *
  generalize thereB rs p = z at *
  clear hA hb0
  by_cases hm : m = 0
  · subst hm
    by_cases h0 : p.length = 0
    · have HE' := hide (HE.out.trans ((if_neg (by simp)).trans (if_pos h0)))
      have e0 : ((p.length : Int) == 0) = true := by rw [h0]; rfl
      clear HE HH h0
      go_enter Tryz.func69, Tryz.ntmps69
      go_wp2_with fail
      refine HA.out.mono ?_
      rintro e w1 ⟨rfl, b1⟩
      have c1 := HB0.out.trans (b1.mono HB0.out.size)
      clear HA HT
      go_wp2
      go_ret
      exact ⟨by rw [HE'.out]; rfl, c1⟩
    · have e0 : ((p.length : Int) == 0) = false := by rw [beq_eq_false_iff_ne]; omega
      have HZ := hide (show z = decide (0 ≤ F) by rw [HH.out]; simp [h0])
      by_cases hF : F < 0
      · have HE' := hide (HE.out.trans ((if_neg (by simp)).trans ((if_neg h0).trans (if_pos hF))))
        obtain rfl : z = false := by rw [HZ.out]; simp; omega
        clear HE HH HZ
        go_enter Tryz.func69, Tryz.ntmps69
        go_wp2_with fail
        refine HA.out.mono ?_
        rintro e w1 ⟨rfl, b1⟩
        have c1 := HB0.out.trans (b1.mono HB0.out.size)
        have X1 := hide (HT.out w1 c1)
        clear HA HT
        go_wp2_with fail
        refine X1.out.mono ?_
        rintro e w2 ⟨rfl, b2⟩
        go_wp2
        go_ret
        exact ⟨by rw [HE'.out]; rfl, c1.trans (b2.mono c1.size)⟩
      · have HE' := hide (HE.out.trans ((if_neg (by simp)).trans ((if_neg h0).trans (if_neg hF))))
        obtain rfl : z = true := by rw [HZ.out]; simp; omega
        clear HE HH HZ
        go_enter Tryz.func69, Tryz.ntmps69
        go_wp2_with fail
        refine HA.out.mono ?_
        rintro e w1 ⟨rfl, b1⟩
        have c1 := HB0.out.trans (b1.mono HB0.out.size)
        have X1 := hide (HT.out w1 c1)
        clear HA HT
        go_wp2_with fail
        refine X1.out.mono ?_
        rintro e w2 ⟨rfl, b2⟩
        go_wp2
        go_ret
        exact ⟨by rw [HE'.out]; rfl, c1.trans (b2.mono c1.size)⟩
  · have HE' := hide (HE.out.trans (if_pos hm))
    have e0 : (m == 0) = false := by rw [beq_eq_false_iff_ne]; exact hm
    clear HE HH
    go_enter Tryz.func69, Tryz.ntmps69
    go_wp2_with fail
    refine HA.out.mono ?_
    rintro e w1 ⟨rfl, b1⟩
    have c1 := HB0.out.trans (b1.mono HB0.out.size)
    clear HA HT
    go_wp2
    go_ret
    exact ⟨by rw [HE'.out]; rfl, c1⟩

set_option maxHeartbeats 1000000 in
theorem remove_any (a : Option Addr) (rs : List Rs) (cap B : Nat) (b : Option Addr) (p : List ByteArray) (cap' C : Nat) (w : World) (h : Rss w B a rs) (h' : Strs w C b p) (hB : B ≤ w.heap.size) (hC : C ≤ w.heap.size) (hs : ShortT rs) (hl : rs.length ≤ 1048576) (hz : SzT rs) (hs' : Short p) (hl' : p.length ≤ 1048576) :
    Calls Tryz.prog 17 #[.slice a rs.length cap, .slice b p.length cap'] w fun e w' => GaveIs w w' e (remR rs p) (remC (remI rs p)) ∧ Below w.heap.size w w' := by
  have hlm : rs.length ≤ maxLen := by unfold maxLen; omega
  have hlm' : p.length ≤ maxLen := by unfold maxLen; omega
  have HA := hide (removeRefused_any a rs cap B b p cap' C w h h' hB hC hs hlm hs' hlm')
  have HC := hide (fun W (hb : Below w.heap.size w W) => copyTree_any a rs cap B W (h.below hb hB) (Nat.le_trans hB hb.size) hl hz)
  have HW := hide (fun W (hb : Below w.heap.size w W) => without_grow a rs cap B b p cap' C W (h.below hb hB) (h'.below hb hC) (Nat.le_trans hB hb.size) (Nat.le_trans hC hb.size) hl hl' hz)
  have HR := hide (show remR rs p = if remI rs p = 0 then withoutL rs p else rs from rfl)
  generalize remR rs p = R at *
  generalize remI rs p = m at *
  by_cases hm : m = 0
  · subst hm
    have HR' := hide (HR.out.trans (if_pos rfl))
    clear HR
    go_enter Tryz.func17, Tryz.ntmps17
    go_wp2_with fail
    refine HA.out.mono ?_
    rintro e w1 ⟨rfl, b1⟩
    have X1 := hide (HW.out w1 b1)
    clear HA HC HW
    go_wp2_with fail
    refine X1.out.mono ?_
    rintro e w2 ⟨⟨v, ts, rfl, hG, hm, hcp⟩, b2⟩
    obtain ⟨g, cap2, hv, hO⟩ := hG.done hcp
    rw [hm, ← HR'.out] at hO
    have hll : ts.length = R.length := by rw [HR'.out, ← hm]; simp
    rw [hll] at hv
    subst hv
    have HO := hide (show OwnR w2 w.heap.size w2.heap.size g R _ _ from ⟨Nat.le_trans b1.size hO.gl, hO.gh, hO.gs, hO.fz, hO.cl, hO.rp, hO.rq, fun j hj => by obtain ⟨k1, k2⟩ := hO.bnd j hj; exact ⟨Nat.le_trans b1.size k1, k2⟩, hO.ord⟩)
    clear hO hG hm hll X1
    go_wp2
    go_ret2
    exact ⟨⟨g, cap2, _, _, rfl, HO.out⟩, b1.trans (b2.mono b1.size)⟩
  · have HR' := hide (HR.out.trans (if_neg hm))
    have HM := hide (show remC m = m by unfold remC; rw [if_neg hm])
    have e0 : (m == 0) = false := by rw [beq_eq_false_iff_ne]; exact hm
    clear HR
    go_enter Tryz.func17, Tryz.ntmps17
    go_wp2_with fail
    refine HA.out.mono ?_
    rintro e w1 ⟨rfl, b1⟩
    have X1 := hide (HC.out w1 b1)
    clear HA HC HW
    go_wp2_with fail
    refine X1.out.mono ?_
    rintro e w2 ⟨rfl, ⟨pb, qb, hO⟩, b2⟩
    have HO := hide (show OwnR w2 w.heap.size w2.heap.size w1.heap.size rs _ _ from ⟨b1.size, hO.gh, hO.gs, hO.fz, hO.cl, hO.rp, hO.rq, fun j hj => by obtain ⟨k1, k2⟩ := hO.bnd j hj; exact ⟨Nat.le_trans b1.size k1, k2⟩, hO.ord⟩)
    clear hO X1
    go_wp2
    go_ret2
    exact ⟨⟨w1.heap.size, rs.length, _, _, by rw [HR'.out, HM.out]; rfl, by rw [HR'.out]; exact HO.out⟩, b1.trans (b2.mono b1.size)⟩
end Go.Proofs.YtclnpfpaabmkcaaGreat
