/-
  What is taken away: no program in sight.
  What impl.removeRefused and impl.Remove do.
  What spec.l10Prop and spec.l10LessProp do.
-/
import Derived.Test.YtepdfppbnepamabWithout
import Derived.Test.YtepdfppbnepamabMathFind
import Derived.Test.YtepdfppbnepamabQuote
import Derived.Test.YtepdfppbnepamabPropsOk
namespace Go.Proofs.Ytepdfppbnepamab
open M
/-- What Remove says, and answers. -/
def remI (rs : List Rs) (p : List ByteArray) : Int := if mayI rs p 0 ≠ 0 then mayI rs p 0 else if p.length = 0 then 403 else if findI rs p < 0 then 404 else 0
def remR (rs : List Rs) (p : List ByteArray) : List Rs := if remI rs p = 0 then withoutL rs p else rs
def remC (c : Int) : Int := if c = 0 then 204 else c

end Go.Proofs.Ytepdfppbnepamab
namespace Go.Proofs.Ytepdfppbnepamab
open Go.RowKit M
set_option linter.unusedVariables false

set_option maxHeartbeats 1000000 in
theorem removeRefused_any (a : Option Addr) (rs : List Rs) (cap B : Nat) (b : Option Addr) (p : List ByteArray) (cap' C : Nat) (w : World) (h : Rss w B a rs) (h' : Strs w C b p) (hB : B ≤ w.heap.size) (hC : C ≤ w.heap.size) (hs : ShortT rs) (hl : rs.length ≤ maxLen) (hs' : Short p) (hl' : p.length ≤ maxLen) :
    Calls Try.prog 24 #[.slice a rs.length cap, .slice b p.length cap'] w fun e w' => e = .returned (.int .i64 (remI rs p)) ∧ Below w.heap.size w w' := by
  have hb0 := (Below.refl w.heap.size w).alloc (Nat.le_refl _) (Obj.cells #[.slice b p.length cap'] 23)
  have hA := askRefused_any a rs cap B 0 w.heap.size 1 [(p, b, cap')] (by simp) (w.alloc (Obj.cells #[.slice b p.length cap'] 23)) (h.below hb0 hB) (by simp; omega) hs hl (PathsAt.one h' hC hs' hl')
  rw [askI_one] at hA
  have HA := hide hA
  have HB0 := hide hb0
  have HT := hide (fun W (hb : Below w.heap.size w W) => isThere_any a rs cap B b p cap' C W (h.below hb hB) (h'.below hb hC) hl hl' (Nat.le_trans hB hb.size) (Nat.le_trans hC hb.size))
  have HE := hide (show remI rs p = if mayI rs p 0 ≠ 0 then mayI rs p 0 else if p.length = 0 then 403 else if findI rs p < 0 then 404 else 0 from rfl)
  have HH := hide (show thereB rs p = (decide (p.length = 0) || decide (0 ≤ findI rs p)) from rfl)
  generalize remI rs p = E at *
  generalize mayI rs p 0 = m at *
  generalize findI rs p = F at *
  generalize thereB rs p = z at *
  clear hA hb0
  by_cases hm : m = 0
  · subst hm
    by_cases h0 : p.length = 0
    · have HE' := hide (HE.out.trans ((if_neg (by simp)).trans (if_pos h0)))
      have e0 : ((p.length : Int) == 0) = true := by rw [h0]; rfl
      clear HE HH h0
      go_enter Try.func24, Try.ntmps24
      go_wp2_with fail
      refine HA.out.mono ?_
      rintro e w1 ⟨rfl, b1⟩
      have c1 := HB0.out.trans (b1.mono HB0.out.size)
      clear HA HT
      go_wp2
      go_ret
      exact ⟨by rw [HE'.out]; rfl, c1⟩
    · have e0 : ((p.length : Int) == 0) = false := by rw [beq_eq_false_iff_ne]; omega
      have HZ := hide (show z = decide (0 ≤ F) by rw [HH.out]; simp [h0])
      by_cases hF : F < 0
      · have HE' := hide (HE.out.trans ((if_neg (by simp)).trans ((if_neg h0).trans (if_pos hF))))
        obtain rfl : z = false := by rw [HZ.out]; simp; omega
        clear HE HH HZ
        go_enter Try.func24, Try.ntmps24
        go_wp2_with fail
        refine HA.out.mono ?_
        rintro e w1 ⟨rfl, b1⟩
        have c1 := HB0.out.trans (b1.mono HB0.out.size)
        have X1 := hide (HT.out w1 c1)
        clear HA HT
        go_wp2_with fail
        refine X1.out.mono ?_
        rintro e w2 ⟨rfl, b2⟩
        go_wp2
        go_ret
        exact ⟨by rw [HE'.out]; rfl, c1.trans (b2.mono c1.size)⟩
      · have HE' := hide (HE.out.trans ((if_neg (by simp)).trans ((if_neg h0).trans (if_neg hF))))
        obtain rfl : z = true := by rw [HZ.out]; simp; omega
        clear HE HH HZ
        go_enter Try.func24, Try.ntmps24
        go_wp2_with fail
        refine HA.out.mono ?_
        rintro e w1 ⟨rfl, b1⟩
        have c1 := HB0.out.trans (b1.mono HB0.out.size)
        have X1 := hide (HT.out w1 c1)
        clear HA HT
        go_wp2_with fail
        refine X1.out.mono ?_
        rintro e w2 ⟨rfl, b2⟩
        go_wp2
        go_ret
        exact ⟨by rw [HE'.out]; rfl, c1.trans (b2.mono c1.size)⟩
  · have HE' := hide (HE.out.trans (if_pos hm))
    have e0 : (m == 0) = false := by rw [beq_eq_false_iff_ne]; exact hm
    clear HE HH
    go_enter Try.func24, Try.ntmps24
    go_wp2_with fail
    refine HA.out.mono ?_
    rintro e w1 ⟨rfl, b1⟩
    have c1 := HB0.out.trans (b1.mono HB0.out.size)
    clear HA HT
    go_wp2
    go_ret
    exact ⟨by rw [HE'.out]; rfl, c1⟩

set_option maxHeartbeats 1000000 in
theorem remove_any (a : Option Addr) (rs : List Rs) (cap B : Nat) (b : Option Addr) (p : List ByteArray) (cap' C : Nat) (w : World) (h : Rss w B a rs) (h' : Strs w C b p) (hB : B ≤ w.heap.size) (hC : C ≤ w.heap.size) (hs : ShortT rs) (hl : rs.length ≤ 1048576) (hz : SzT rs) (hs' : Short p) (hl' : p.length ≤ 1048576) :
    Calls Try.prog 10 #[.slice a rs.length cap, .slice b p.length cap'] w fun e w' => GaveIs w w' e (remR rs p) (remC (remI rs p)) ∧ Below w.heap.size w w' := by
  have hlm : rs.length ≤ maxLen := by unfold maxLen; omega
  have hlm' : p.length ≤ maxLen := by unfold maxLen; omega
  have HA := hide (removeRefused_any a rs cap B b p cap' C w h h' hB hC hs hlm hs' hlm')
  have HC := hide (fun W (hb : Below w.heap.size w W) => copyTree_any a rs cap B W (h.below hb hB) (Nat.le_trans hB hb.size) hl hz)
  have HW := hide (fun W (hb : Below w.heap.size w W) => without_grow a rs cap B b p cap' C W (h.below hb hB) (h'.below hb hC) (Nat.le_trans hB hb.size) (Nat.le_trans hC hb.size) hl hl' hz)
  have HR := hide (show remR rs p = if remI rs p = 0 then withoutL rs p else rs from rfl)
  generalize remR rs p = R at *
  generalize remI rs p = m at *
  by_cases hm : m = 0
  · subst hm
    have HR' := hide (HR.out.trans (if_pos rfl))
    clear HR
    go_enter Try.func10, Try.ntmps10
    go_wp2_with fail
    refine HA.out.mono ?_
    rintro e w1 ⟨rfl, b1⟩
    have X1 := hide (HW.out w1 b1)
    clear HA HC HW
    go_wp2_with fail
    refine X1.out.mono ?_
    rintro e w2 ⟨⟨v, ts, rfl, hG, hm, hcp⟩, b2⟩
    obtain ⟨g, cap2, hv, hO⟩ := hG.done hcp
    rw [hm, ← HR'.out] at hO
    have hll : ts.length = R.length := by rw [HR'.out, ← hm]; simp
    rw [hll] at hv
    subst hv
    have HO := hide (show OwnR w2 w.heap.size w2.heap.size g R _ _ from ⟨Nat.le_trans b1.size hO.gl, hO.gh, hO.gs, hO.fz, hO.cl, hO.rp, hO.rq, fun j hj => by obtain ⟨k1, k2⟩ := hO.bnd j hj; exact ⟨Nat.le_trans b1.size k1, k2⟩, hO.ord⟩)
    clear hO hG hm hll X1
    go_wp2
    go_ret2
    exact ⟨⟨g, cap2, _, _, rfl, HO.out⟩, b1.trans (b2.mono b1.size)⟩
  · have HR' := hide (HR.out.trans (if_neg hm))
    have HM := hide (show remC m = m by unfold remC; rw [if_neg hm])
    have e0 : (m == 0) = false := by rw [beq_eq_false_iff_ne]; exact hm
    clear HR
    go_enter Try.func10, Try.ntmps10
    go_wp2_with fail
    refine HA.out.mono ?_
    rintro e w1 ⟨rfl, b1⟩
    have X1 := hide (HC.out w1 b1)
    clear HA HC HW
    go_wp2_with fail
    refine X1.out.mono ?_
    rintro e w2 ⟨rfl, ⟨pb, qb, hO⟩, b2⟩
    have HO := hide (show OwnR w2 w.heap.size w2.heap.size w1.heap.size rs _ _ from ⟨b1.size, hO.gh, hO.gs, hO.fz, hO.cl, hO.rp, hO.rq, fun j hj => by obtain ⟨k1, k2⟩ := hO.bnd j hj; exact ⟨Nat.le_trans b1.size k1, k2⟩, hO.ord⟩)
    clear hO X1
    go_wp2
    go_ret2
    exact ⟨⟨w1.heap.size, rs.length, _, _, by rw [HR'.out, HM.out]; rfl, by rw [HR'.out]; exact HO.out⟩, b1.trans (b2.mono b1.size)⟩
end Go.Proofs.Ytepdfppbnepamab
namespace Go.Proofs.Ytepdfppbnepamab
open Go.RowKit M
set_option linter.unusedVariables false

set_option maxHeartbeats 2000000 in
theorem specProp_any (p : Pp) (w : World) (h1 : p.1.size ≤ maxLen) (h2 : p.2.1.size ≤ maxLen) (h3 : p.2.2.size ≤ maxLen) :
    Calls Try.prog 62 #[.agg #[.string p.1, .string p.2.1, .string p.2.2]] w fun e w' => e = .returned (.bool (propB p)) ∧ Below w.heap.size w w' := by
  obtain ⟨x, y, z⟩ := p
  simp only at *
  have HB0 := hide (show Below w.heap.size w (w.alloc (Obj.cells #[.string x, .string y, .string z] 63)) from (Below.refl _ _).alloc (Nat.le_refl _) _)
  have HX := hide (fun W => specPlain_any x W h1)
  have HY := hide (fun W => specSmallName_any y W h2)
  have HZ := hide (fun W => specPlain_any z W h3)
  have HF := hide (show propB (x, y, z) = (decide (x.size ≤ 20) && (allB x.data.toList [0] && (smB y.data.toList && (decide (z.size ≤ 20) && allB z.data.toList [0])))) from rfl)
  generalize propB (x, y, z) = R at *
  generalize allB x.data.toList [0] = bx at *
  generalize smB y.data.toList = by' at *
  generalize allB z.data.toList [0] = bz at *
  by_cases hx : x.size ≤ 20
  · cases bx
    · have hr : R = false := by rw [HF.out]; simp
      subst hr
      go_enter Try.func62, Try.ntmps62
      go_wp2_with fail
      refine (HX.out _).mono ?_
      rintro e w1 ⟨rfl, hw⟩
      obtain rfl := hw
      go_wp2
      go_ret
      exact ⟨rfl, HB0.out⟩
    · cases by'
      · have hr : R = false := by rw [HF.out]; simp
        subst hr
        go_enter Try.func62, Try.ntmps62
        go_wp2_with fail
        refine (HX.out _).mono ?_
        rintro e w1 ⟨rfl, hw⟩
        obtain rfl := hw
        go_wp2_with fail
        refine (HY.out _).mono ?_
        rintro e w1 ⟨rfl, hw⟩
        obtain rfl := hw
        go_wp2
        go_ret
        exact ⟨rfl, HB0.out⟩
      · by_cases hz : z.size ≤ 20
        · have hr : R = bz := by rw [HF.out]; simp [hx, hz]
          subst hr
          go_enter Try.func62, Try.ntmps62
          go_wp2_with fail
          refine (HX.out _).mono ?_
          rintro e w1 ⟨rfl, hw⟩
          obtain rfl := hw
          go_wp2_with fail
          refine (HY.out _).mono ?_
          rintro e w1 ⟨rfl, hw⟩
          obtain rfl := hw
          go_wp2_with fail
          refine (HZ.out _).mono ?_
          rintro e w1 ⟨rfl, hw⟩
          obtain rfl := hw
          go_wp2
          go_ret
          exact ⟨rfl, HB0.out⟩
        · have hr : R = false := by rw [HF.out]; simp [hz]
          subst hr
          go_enter Try.func62, Try.ntmps62
          go_wp2_with fail
          refine (HX.out _).mono ?_
          rintro e w1 ⟨rfl, hw⟩
          obtain rfl := hw
          go_wp2_with fail
          refine (HY.out _).mono ?_
          rintro e w1 ⟨rfl, hw⟩
          obtain rfl := hw
          go_wp2
          go_ret
          exact ⟨rfl, HB0.out⟩
  · have hr : R = false := by rw [HF.out]; simp [hx]
    subst hr
    go_enter Try.func62, Try.ntmps62
    go_wp2
    go_ret
    exact ⟨rfl, HB0.out⟩

set_option maxHeartbeats 1000000 in
theorem specLessProp_any (p q : Pp) (w : World) :
    Calls Try.prog 63 #[.agg #[.string p.1, .string p.2.1, .string p.2.2], .agg #[.string q.1, .string q.2.1, .string q.2.2]] w fun e w' => e = .returned (.bool (lessP p q)) ∧ Below w.heap.size w w' := by
  obtain ⟨x, y, z⟩ := p
  obtain ⟨x', y', z'⟩ := q
  simp only
  have hb0 : Below w.heap.size w ((w.alloc (Obj.cells #[.string x, .string y, .string z] 63)).alloc (Obj.cells #[.string x', .string y', .string z'] 63)) := ((Below.refl _ _).alloc (Nat.le_refl _) _).alloc (by simp) _
  by_cases e : x = x'
  · have HF := hide (show lessP (x, y, z) (x', y', z') = Op.bytesLess y.toList y'.toList by unfold lessP; rw [if_pos e]; rfl)
    have hq : (x.toList == x'.toList) = true := by rw [e]; simp
    generalize lessP (x, y, z) (x', y', z') = R at *
    clear e
    go_enter Try.func63, Try.ntmps63
    go_wp2
    go_ret
    exact ⟨ret_bool HF.out.symm, hb0⟩
  · have HF := hide (show lessP (x, y, z) (x', y', z') = Op.bytesLess x.toList x'.toList by unfold lessP; rw [if_neg e]; rfl)
    have hq : (x.toList == x'.toList) = false := by rw [beq_eq_false_iff_ne]; exact fun e' => e (strInjP e')
    generalize lessP (x, y, z) (x', y', z') = R at *
    clear e
    go_enter Try.func63, Try.ntmps63
    go_wp2
    go_ret
    exact ⟨ret_bool HF.out.symm, hb0⟩
end Go.Proofs.Ytepdfppbnepamab
