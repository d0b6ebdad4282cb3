/-
  What impl.apart and impl.farRefused do.
-/
import Derived.Test.YtclnpfpaabmkcaaGreatGaveIs
import Derived.Test.YtclnpfpaabmkcaaGreatMathFar
namespace Go.Proofs.YtclnpfpaabmkcaaGreat
open Go.RowKit M
set_option linter.unusedVariables false

set_option maxHeartbeats 1000000 in
theorem apart_any (a b : Option Addr) (ss tt : List ByteArray) (cap cap' B C : Nat) (w : World) (h : Strs w B a ss) (h' : Strs w C b tt) (hl : ss.length ≤ maxLen) (hl' : tt.length ≤ maxLen) (hc : ss.length ≤ cap) (hm : cap ≤ maxLen) (hc' : tt.length ≤ cap') (hm' : cap' ≤ maxLen) :
    Calls Tryz.prog 110 #[.slice a ss.length cap, .slice b tt.length cap'] w fun e w' => e = .returned (.bool (apartB ss tt)) ∧ ∀ D, Below D w w' := by
  have HQ1 := hide (isDeep_any a b ss tt cap cap' B C w h h' hl hl' hc hm)
  have HQ2 := hide (fun W (x : Strs W B a ss) (y : Strs W C b tt) => isDeep_any b a tt ss cap' cap C B W y x hl' hl hc' hm')
  have HD := hide (show apartB ss tt = (!deepP ss tt && !deepP tt ss) from rfl)
  generalize apartB ss tt = z at *
  generalize deepP ss tt = z1 at *
  generalize deepP tt ss = z2 at *
  cases z1
  · have HZ := hide (HD.out.trans (Bool.true_and (!z2)))
    clear HD
    go_enter Tryz.func110, Tryz.ntmps110
    go_wp2_with fail
    refine HQ1.out.mono ?_
    rintro e w1 ⟨rfl, hb1⟩
    have X1 := hide (HQ2.out w1 (h.below (hb1 B) (Nat.le_refl _)) (h'.below (hb1 C) (Nat.le_refl _)))
    clear HQ1 HQ2
    go_wp2_with fail
    refine X1.out.mono ?_
    rintro e w2 ⟨rfl, hb2⟩
    clear X1
    go_wp2
    go_ret
    exact ⟨by rw [HZ.out]; rfl, fun D => (hb1 D).trans (hb2 D)⟩
  · have HZ := hide (HD.out.trans (Bool.false_and (!z2)))
    clear HD
    go_enter Tryz.func110, Tryz.ntmps110
    go_wp2_with fail
    refine HQ1.out.mono ?_
    rintro e w1 ⟨rfl, hb1⟩
    go_wp2
    go_ret
    exact ⟨by rw [HZ.out]; rfl, hb1⟩

theorem PathsAt.two {w : World} {a b : Option Addr} {p q : List ByteArray} {cap cap' C D : Nat} (h : Strs w C a p) (hC : C ≤ w.heap.size) (hs : Short p) (hl : p.length ≤ maxLen) (h' : Strs w D b q) (hD : D ≤ w.heap.size) (hs' : Short q) (hl' : q.length ≤ maxLen) : PathsAt (w.alloc (Obj.cells #[.slice a p.length cap, .slice b q.length cap'] 25)) w.heap.size [(p, a, cap), (q, b, cap')] := by
  have hb := (Below.refl w.heap.size w).alloc (Nat.le_refl _) (Obj.cells #[.slice a p.length cap, .slice b q.length cap'] 25)
  refine ⟨by simp, fun j hj => ?_, fun j hj => ?_⟩
  · have hj' : j = 0 ∨ j = 1 := by simp at hj; omega
    rcases hj' with rfl | rfl
    · simp
    · simp
  · have hj' : j = 0 ∨ j = 1 := by simp at hj; omega
    rcases hj' with rfl | rfl
    · exact ⟨(h.below hb hC).mono (by simp; omega), hs, hl⟩
    · exact ⟨(h'.below hb hD).mono (by simp; omega), hs', hl'⟩
theorem pathsB_two (p q : List ByteArray) (a b : Option Addr) (c d : Nat) : pathsB [(p, a, c), (q, b, d)] = (pathB p && pathB q) := by
  unfold pathsB
  simp

set_option maxHeartbeats 2000000 in
theorem farRefused_any (a : Option Addr) (rs : List Rs) (cap B : Nat) (b1 : Option Addr) (fr : List ByteArray) (cap1 : Nat) (b2 : Option Addr) (to : List ByteArray) (cap2 : Nat) (ov : Bool) (v : Int) (w : World) (h : Rss w B a rs) (h1 : Strs w B b1 fr) (h2 : Strs w B b2 to) (hB : B ≤ w.heap.size) (hs : ShortT rs) (hl : rs.length ≤ maxLen) (hs1 : Short fr) (hl1 : fr.length ≤ maxLen) (hs2 : Short to) (hl2 : to.length ≤ maxLen) (hc1 : fr.length ≤ cap1) (hm1 : cap1 ≤ maxLen) (hc2 : to.length ≤ cap2) (hm2 : cap2 ≤ maxLen) :
    Calls Tryz.prog 59 #[.slice a rs.length cap, .slice b1 fr.length cap1, .slice b2 to.length cap2, .bool ov, .int .i64 v] w fun e w' => e = .returned (.int .i64 (far1 rs fr to ov v)) ∧ Below w.heap.size w w' := by
  have hb0 := (Below.refl w.heap.size w).alloc (Nat.le_refl _) (Obj.cells #[.slice b1 fr.length cap1, .slice b2 to.length cap2] 25)
  have hA := askRefused_any a rs cap B v w.heap.size 2 [(fr, b1, cap1), (to, b2, cap2)] (by simp) (w.alloc (Obj.cells #[.slice b1 fr.length cap1, .slice b2 to.length cap2] 25)) (h.below hb0 hB) (by simp; omega) hs hl (PathsAt.two h1 hB hs1 hl1 h2 hB hs2 hl2)
  rw [pathsB_two] at hA
  have HA := hide hA
  have HB0 := hide hb0
  have HT1 := hide (fun W (hb : Below w.heap.size w W) => isThere_any a rs cap B b1 fr cap1 B W (h.below hb hB) (h1.below hb hB) hl hl1 (Nat.le_trans hB hb.size) (Nat.le_trans hB hb.size))
  have HT2 := hide (fun W (hb : Below w.heap.size w W) => isThere_any a rs cap B b2 to cap2 B W (h.below hb hB) (h2.below hb hB) hl hl2 (Nat.le_trans hB hb.size) (Nat.le_trans hB hb.size))
  have HAP := hide (fun W (hb : Below w.heap.size w W) => apart_any b1 b2 fr to cap1 cap2 B B W (h1.below hb hB) (h2.below hb hB) hl1 hl2 hc1 hm1 hc2 hm2)
  have HE := hide (show far1 rs fr to ov v = if askI rs v (pathB fr && pathB to) ≠ 0 then askI rs v (pathB fr && pathB to) else if thereB rs fr = false then 404 else if apartB fr to = false then 403 else if (thereB rs to && !ov) = true then 412 else 0 from rfl)
  generalize far1 rs fr to ov v = E at *
  generalize askI rs v (pathB fr && pathB to) = m at *
  generalize thereB rs fr = z1 at *
  generalize apartB fr to = z2 at *
  generalize thereB rs to = z3 at *
  clear hA hb0 h h1 h2
  by_cases hm : m = 0
  rotate_left
  · have e0 : (m == 0) = false := by rw [beq_eq_false_iff_ne]; exact hm
    have HE' := hide (show E = m from HE.out.trans (if_pos hm))
    clear HE
    go_enter Tryz.func59, Tryz.ntmps59
    go_wp2_with fail
    refine HA.out.mono ?_
    rintro e w1 ⟨rfl, b1'⟩
    have c1 := HB0.out.trans (b1'.mono HB0.out.size)
    clear HA b1'
    go_wp2
    go_ret
    exact ⟨by rw [HE'.out]; rfl, c1⟩
  subst hm
  have HE0 := hide (HE.out.trans (if_neg (by simp)))
  clear HE
  have HE := HE0
  clear HE0
  cases z1
  · skip
    have HE' := hide (show E = 404 from HE.out.trans (if_pos rfl))
    clear HE
    go_enter Tryz.func59, Tryz.ntmps59
    go_wp2_with fail
    refine HA.out.mono ?_
    rintro e w1 ⟨rfl, b1'⟩
    have c1 := HB0.out.trans (b1'.mono HB0.out.size)
    clear HA b1'
    have X1 := hide (HT1.out w1 c1)
    go_wp2_with fail
    refine X1.out.mono ?_
    rintro e w2 ⟨rfl, b'⟩
    have c2 := c1.trans (b'.mono c1.size)
    clear X1 b'
    go_wp2
    go_ret
    exact ⟨by rw [HE'.out]; rfl, c2⟩
  have HE1 := hide (HE.out.trans (if_neg (by simp)))
  clear HE
  have HE := HE1
  clear HE1
  cases z2
  · skip
    have HE' := hide (show E = 403 from HE.out.trans (if_pos rfl))
    clear HE
    go_enter Tryz.func59, Tryz.ntmps59
    go_wp2_with fail
    refine HA.out.mono ?_
    rintro e w1 ⟨rfl, b1'⟩
    have c1 := HB0.out.trans (b1'.mono HB0.out.size)
    clear HA b1'
    have X1 := hide (HT1.out w1 c1)
    go_wp2_with fail
    refine X1.out.mono ?_
    rintro e w2 ⟨rfl, b'⟩
    have c2 := c1.trans (b'.mono c1.size)
    clear X1 b'
    have X2 := hide (HAP.out w2 c2)
    go_wp2_with fail
    refine X2.out.mono ?_
    rintro e w3 ⟨rfl, b'⟩
    have c3 := c2.trans (b' _)
    clear X2 b'
    go_wp2
    go_ret
    exact ⟨by rw [HE'.out]; rfl, c3⟩
  have HE2 := hide (HE.out.trans (if_neg (by simp)))
  clear HE
  have HE := HE2
  clear HE2
  cases z3
  · skip
    have HE' := hide (show E = 0 from HE.out.trans (if_neg (by simp)))
    clear HE
    go_enter Tryz.func59, Tryz.ntmps59
    go_wp2_with fail
    refine HA.out.mono ?_
    rintro e w1 ⟨rfl, b1'⟩
    have c1 := HB0.out.trans (b1'.mono HB0.out.size)
    clear HA b1'
    have X1 := hide (HT1.out w1 c1)
    go_wp2_with fail
    refine X1.out.mono ?_
    rintro e w2 ⟨rfl, b'⟩
    have c2 := c1.trans (b'.mono c1.size)
    clear X1 b'
    have X2 := hide (HAP.out w2 c2)
    go_wp2_with fail
    refine X2.out.mono ?_
    rintro e w3 ⟨rfl, b'⟩
    have c3 := c2.trans (b' _)
    clear X2 b'
    have X3 := hide (HT2.out w3 c3)
    go_wp2_with fail
    refine X3.out.mono ?_
    rintro e w4 ⟨rfl, b'⟩
    have c4 := c3.trans (b'.mono c3.size)
    clear X3 b'
    go_wp2
    go_ret
    exact ⟨by rw [HE'.out]; rfl, c4⟩
  cases ov
  · skip
    have HE' := hide (show E = 412 from HE.out.trans (if_pos rfl))
    clear HE
    go_enter Tryz.func59, Tryz.ntmps59
    go_wp2_with fail
    refine HA.out.mono ?_
    rintro e w1 ⟨rfl, b1'⟩
    have c1 := HB0.out.trans (b1'.mono HB0.out.size)
    clear HA b1'
    have X1 := hide (HT1.out w1 c1)
    go_wp2_with fail
    refine X1.out.mono ?_
    rintro e w2 ⟨rfl, b'⟩
    have c2 := c1.trans (b'.mono c1.size)
    clear X1 b'
    have X2 := hide (HAP.out w2 c2)
    go_wp2_with fail
    refine X2.out.mono ?_
    rintro e w3 ⟨rfl, b'⟩
    have c3 := c2.trans (b' _)
    clear X2 b'
    have X3 := hide (HT2.out w3 c3)
    go_wp2_with fail
    refine X3.out.mono ?_
    rintro e w4 ⟨rfl, b'⟩
    have c4 := c3.trans (b'.mono c3.size)
    clear X3 b'
    go_wp2
    go_ret
    exact ⟨by rw [HE'.out]; rfl, c4⟩
  · skip
    have HE' := hide (show E = 0 from HE.out.trans (if_neg (by simp)))
    clear HE
    go_enter Tryz.func59, Tryz.ntmps59
    go_wp2_with fail
    refine HA.out.mono ?_
    rintro e w1 ⟨rfl, b1'⟩
    have c1 := HB0.out.trans (b1'.mono HB0.out.size)
    clear HA b1'
    have X1 := hide (HT1.out w1 c1)
    go_wp2_with fail
    refine X1.out.mono ?_
    rintro e w2 ⟨rfl, b'⟩
    have c2 := c1.trans (b'.mono c1.size)
    clear X1 b'
    have X2 := hide (HAP.out w2 c2)
    go_wp2_with fail
    refine X2.out.mono ?_
    rintro e w3 ⟨rfl, b'⟩
    have c3 := c2.trans (b' _)
    clear X2 b'
    have X3 := hide (HT2.out w3 c3)
    go_wp2_with fail
    refine X3.out.mono ?_
    rintro e w4 ⟨rfl, b'⟩
    have c4 := c3.trans (b'.mono c3.size)
    clear X3 b'
    go_wp2
    go_ret
    exact ⟨by rw [HE'.out]; rfl, c4⟩
end Go.Proofs.YtclnpfpaabmkcaaGreat
