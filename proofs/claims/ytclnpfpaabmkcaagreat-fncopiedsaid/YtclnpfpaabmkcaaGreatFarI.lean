/-
  What impl.CopyTree does.
-/
import Derived.Test.YtclnpfpaabmkcaaGreatCarried
import Derived.Test.YtclnpfpaabmkcaaGreatTurnDown
import Derived.Test.YtclnpfpaabmkcaaGreatRefused
import Derived.Test.YtclnpfpaabmkcaaGreatSpecPathOk
namespace Go.Proofs.YtclnpfpaabmkcaaGreat
open Go.RowKit M
set_option linter.unusedVariables false

theorem carry_sizes {rs : List Rs} {fr to : List ByteArray} {v : Int} (ht : treeB rs = true) (hto : pathB to = true) : (carryL rs fr to v).length ≤ 12 ∧ SzT (carryL rs fr to v) ∧ ShortT (carryL rs fr to v) := by
  have hts := ht
  unfold treeB at hts
  simp only [Bool.and_eq_true, decide_eq_true_eq, List.all_eq_true] at hts
  have hto' := pathB_iff.1 hto
  have hst := sumL_small to hto'.1
  have key : ∀ x ∈ carryL rs fr to v, x.pa.length ≤ 8 ∧ x.ps.length ≤ 4 ∧ (∀ s ∈ x.pa, s.size ≤ 1000) ∧ x.bo.size ≤ 200 ∧ ∀ q ∈ x.ps, q.1.size ≤ 60 ∧ q.2.1.size ≤ 60 ∧ q.2.2.size ≤ 60 := fun x hx => by
    unfold carryL at hx
    obtain ⟨r, hr, rfl⟩ := List.mem_map.1 hx
    have hm := (deepL_mem.1 hr).1
    have hres := hts.2.1 r hm
    have hsm := res_small hres
    have h2 : szR r = r.pa.length + sumL r.pa + r.bo.size + (r.ps.length + sumP r.ps) := rfl
    have hpp := pathB_iff.1 (resB_path hres)
    unfold resB at hres
    simp only [Bool.and_eq_true, decide_eq_true_eq] at hres
    have hq := hres.2.2.2.2.2
    unfold propsB at hq
    simp only [Bool.and_eq_true, decide_eq_true_eq, List.all_eq_true] at hq
    refine ⟨?_, hq.1, fun s hs => ?_, hres.2.2.1, fun q hqm => ?_⟩
    · show (to ++ r.pa.drop fr.length).length ≤ 8
      rw [List.length_append, List.length_drop]
      have := hto'.2
      have := hpp.2
      omega
    · have hs' : s ∈ to ++ r.pa.drop fr.length := hs
      rcases List.mem_append.1 hs' with h | h
      · have h3 : s.size ≤ sumL to := sumS_mem to s h
        have := hto'.2
        omega
      · have h3 : s.size ≤ sumL r.pa := sumS_mem r.pa s (List.mem_of_mem_drop h)
        omega
    · have := prop_small (hq.2.1 q hqm)
      unfold szP at this
      omega
  refine ⟨?_, fun x hx => ?_, fun x hx => ?_⟩
  · have : (carryL rs fr to v).length = (deepL rs fr).length := by unfold carryL; simp
    rw [this]
    exact Nat.le_trans (List.length_filter_le _ _) hts.1
  · obtain ⟨k1, k2, k3, k4, k5⟩ := key x hx
    exact ⟨by omega, by omega, fun s hs => Nat.le_trans (k3 s hs) (by omega), by omega, fun q hq => by have := k5 q hq; omega⟩
  · obtain ⟨k1, k2, k3, k4, k5⟩ := key x hx
    exact ⟨by unfold maxLen; omega, fun s hs => Nat.le_trans (k3 s hs) (by unfold maxLen; omega), by unfold maxLen; omega, by unfold maxLen; omega, fun q hq => by have := k5 q hq; unfold maxLen; omega⟩
theorem apart_to {fr to : List ByteArray} (h : apartB fr to = true) : 0 < to.length := by
  refine Nat.pos_of_ne_zero fun e => ?_
  obtain rfl := List.length_eq_zero_iff.1 e
  unfold apartB at h
  rw [Bool.and_eq_true] at h
  have : deepP fr [] = true := (deepB_P [] ⟨fr, false, ByteArray.empty, 0, []⟩).symm.trans (deep_iff.2 (List.nil_prefix))
  rw [this] at h
  cases h.1

/-- What is done behind a code of nothing: the looks at the turn, and the turn. -/
theorem far_taken (a : Option Addr) (rs : List Rs) (cap B : Nat) (fr : List ByteArray) (bt ot : Nat) (to : List ByteArray) (cap2 : Nat) (ov : Bool) (v : Int) (mv : Bool) (w W : World) (h : Rss w B a rs) (h2 : Strs w B (some ⟨bt, ot, none⟩) to) (hB : B ≤ w.heap.size) (hb : Below w.heap.size w W) (hl : rs.length ≤ 1048576) (hz : SzT rs) (hl2 : to.length ≤ 1048576) (hpz : ∀ x ∈ to, x.size ≤ 281474976710656) (hc2 : to.length ≤ cap2) (hm2 : cap2 ≤ maxLen) (hfar : far1 rs fr to ov v = 0) (g caps g2 capc : Nat) (hT : TurnGot W w.heap.size (restL rs fr to mv) (carryL rs fr to v) g caps g2) :
    Calls Tryz.prog 63 #[.agg #[.slice a rs.length cap, .slice (some ⟨bt, ot, none⟩) to.length cap2, .slice (some ⟨g, 0, none⟩) (restL rs fr to mv).length caps, .slice (some ⟨g2, 0, none⟩) (carryL rs fr to v).length capc], .int .i64 2] W fun e w' => GaveIs w w' e (farR rs fr to ov v mv) (farC rs fr to ov v mv) ∧ Below w.heap.size w w' := by
  obtain ⟨ht, hpf, hto, hv, hth, hap⟩ := far1_ok hfar
  obtain ⟨n1, n2, n3⟩ := carry_sizes (fr := fr) (v := v) ht hto
  refine (taken_any 2 (farI rs fr to ov v mv) a rs cap B bt ot to cap2 g (restL rs fr to mv) caps g2 (carryL rs fr to v) capc w.heap.size W (h.below hb hB) (h2.below hb hB) (Nat.le_trans hB hb.size) hT hb.size hl hl2 (Nat.le_trans (restL_len rs fr to mv) hl) (by omega) hz (fun W2 hb2 => ?_)).mono ?_
  · have hT2 := hT.below hb2
    obtain ⟨q1, q2⟩ := hT2.rss (fun r hr => by
      have := n2 r hr
      unfold maxLen
      omega)
    have hb3 := hb.trans (hb2.mono hb.size)
    have hx := refused2_any a rs cap bt ot to cap2 (some ⟨g, 0, none⟩) (restL rs fr to mv) caps (some ⟨g2, 0, none⟩) (carryL rs fr to v) capc W2.heap.size W2 ⟨(h.below hb3 hB).mono (Nat.le_trans hB hb3.size), (h2.below hb3 hB).mono (Nat.le_trans hB hb3.size), q1, q2⟩ (Nat.le_refl _) ⟨hl, hl2, hpz, hc2, hm2, Nat.le_trans (restL_len rs fr to mv) hl, by omega, n3⟩
    rw [far_says (mv := mv) hfar] at hx
    exact hx
  · rintro e w' ⟨⟨g', cap', pb', qb', he, hO⟩, hb'⟩
    exact ⟨⟨g', cap', pb', qb', he, hO⟩, hb.trans (hb'.mono (Nat.le_refl _))⟩

set_option maxRecDepth 100000 in
set_option maxHeartbeats 4000000 in
theorem copyTreeI_any (a : Option Addr) (rs : List Rs) (cap B : Nat) (b1 : Option Addr) (fr : List ByteArray) (cap1 : Nat) (bt ot : Nat) (to : List ByteArray) (cap2 : Nat) (ov : Bool) (v : Int) (w : World) (h : Rss w B a rs) (h1 : Strs w B b1 fr) (h2 : Strs w B (some ⟨bt, ot, none⟩) to) (hB : B ≤ w.heap.size) (hs : ShortT rs) (hl : rs.length ≤ 1048576) (hz : SzT rs) (hs1 : Short fr) (hl1 : fr.length ≤ 1048576) (hs2 : Short to) (hl2 : to.length ≤ 1048576) (hpz : ∀ x ∈ to, x.size ≤ 281474976710656) (hc1 : fr.length ≤ cap1) (hm1 : cap1 ≤ maxLen) (hc2 : to.length ≤ cap2) (hm2 : cap2 ≤ maxLen) :
    Calls Tryz.prog 10 #[.slice a rs.length cap, .slice b1 fr.length cap1, .slice (some ⟨bt, ot, none⟩) to.length cap2, .bool ov, .int .i64 v] w fun e w' => GaveIs w w' e (farR rs fr to ov v false) (farC rs fr to ov v false) ∧ Below w.heap.size w w' := by
  have HA := hide (farRefused_any a rs cap B b1 fr cap1 (some ⟨bt, ot, none⟩) to cap2 ov v w h h1 h2 hB hs (by unfold maxLen; omega) hs1 (by unfold maxLen; omega) hs2 (by unfold maxLen; omega) hc1 hm1 hc2 hm2)
  by_cases hfar : far1 rs fr to ov v = 0
  rotate_left
  · obtain ⟨r1, r2⟩ := far_refused (mv := false) hfar
    have HC := hide (fun W (hb : Below w.heap.size w W) => copyTree_any a rs cap B W (h.below hb hB) (Nat.le_trans hB hb.size) hl hz)
    rw [r1, r2]
    generalize far1 rs fr to ov v = M at *
    have e0 : (M == 0) = false := by rw [beq_eq_false_iff_ne]; exact hfar
    clear r1 r2
    go_enter Tryz.func10, Tryz.ntmps10
    go_wp2_with fail
    refine HA.out.mono ?_
    rintro e w1 ⟨rfl, c1⟩
    have X1 := hide (HC.out w1 c1)
    clear HA HC
    go_wp2_with fail
    refine X1.out.mono ?_
    rintro e w2 ⟨rfl, ⟨pb, qb, hO⟩, b2⟩
    have HO := hide (hO.down c1.size)
    have c2 := c1.trans (b2.mono c1.size)
    clear hO X1 b2
    go_wp2
    go_ret2
    exact ⟨⟨w1.heap.size, rs.length, pb, qb, rfl, HO.out⟩, c2⟩
  obtain ⟨ht, hpf, hto, hv, hth, hap⟩ := far1_ok hfar
  obtain ⟨n1, n2, n3⟩ := carry_sizes (fr := fr) (v := v) ht hto
  have HCA := hide (fun W (hb : Below w.heap.size w W) => carried_any a rs cap B b1 fr cap1 bt ot to cap2 v W (h.below hb hB) (h1.below hb hB) (h2.below hb hB) (Nat.le_trans hB hb.size) hl hz hl1 hl2 hs2 hs (apart_to hap))
  have HTA := hide (fun W g c9 (hb : Below w.heap.size w W) (hr : Rss W W.heap.size (some ⟨g, 0, none⟩) (carryL rs fr to v)) => turnAt_any a rs cap W.heap.size (some ⟨bt, ot, none⟩) to cap2 (some ⟨g, 0, none⟩) (carryL rs fr to v) c9 W ((h.below hb hB).mono (Nat.le_trans hB hb.size)) ((h2.below hb hB).mono (Nat.le_trans hB hb.size)) hr (Nat.le_refl _) hl hl2 (by omega) hz n2)
  have HTK := hide (fun W (hb : Below w.heap.size w W) g caps g2 capc (hT : TurnGot W w.heap.size (restL rs fr to false) (carryL rs fr to v) g caps g2) => far_taken a rs cap B fr bt ot to cap2 ov v false w W h h2 hB hb hl hz hl2 hpz hc2 hm2 hfar g caps g2 capc hT)
  have hre : restL rs fr to false = withoutL rs to := rfl
  rw [hre] at HTK
  rw [hfar] at HA
  generalize farR rs fr to ov v false = FR at *
  generalize farC rs fr to ov v false = FC at *
  generalize withoutL rs to = st at *
  generalize carryL rs fr to v = cs at *
  clear hre hfar
  go_enter Tryz.func10, Tryz.ntmps10
  go_wp2_with fail
  refine HA.out.mono ?_
  rintro e w1 ⟨rfl, c1⟩
  have X1 := hide (HCA.out w1 c1)
  clear HA HCA
  go_wp2_with fail
  refine X1.out.mono ?_
  rintro e w2 ⟨⟨g, c9, rfl, hr⟩, b2⟩
  have c2 := c1.trans (b2.mono c1.size)
  have X2 := hide (HTA.out w2 g c9 c2 hr)
  clear X1 hr b2 HTA
  go_wp2_with fail
  refine X2.out.mono ?_
  rintro e w3 ⟨⟨g1, caps, g2, rfl, hT⟩, b3⟩
  have c3 := c2.trans (b3.mono c2.size)
  have X3 := hide (HTK.out w3 c3 g1 caps g2 cs.length (hT.down c2.size))
  clear X2 hT b3 HTK
  go_wp2_with fail
  refine X3.out.mono ?_
  rintro e w4 ⟨⟨g', cap', pb', qb', rfl, hO⟩, c4⟩
  have HO := hide hO
  clear hO X3
  go_wp2
  go_ret2
  exact ⟨⟨g', cap', pb', qb', rfl, HO.out⟩, c4⟩

set_option maxRecDepth 100000 in
set_option maxHeartbeats 4000000 in
theorem moveTreeI_any (a : Option Addr) (rs : List Rs) (cap B : Nat) (b1 : Option Addr) (fr : List ByteArray) (cap1 : Nat) (bt ot : Nat) (to : List ByteArray) (cap2 : Nat) (ov : Bool) (v : Int) (w : World) (h : Rss w B a rs) (h1 : Strs w B b1 fr) (h2 : Strs w B (some ⟨bt, ot, none⟩) to) (hB : B ≤ w.heap.size) (hs : ShortT rs) (hl : rs.length ≤ 1048576) (hz : SzT rs) (hs1 : Short fr) (hl1 : fr.length ≤ 1048576) (hs2 : Short to) (hl2 : to.length ≤ 1048576) (hpz : ∀ x ∈ to, x.size ≤ 281474976710656) (hc1 : fr.length ≤ cap1) (hm1 : cap1 ≤ maxLen) (hc2 : to.length ≤ cap2) (hm2 : cap2 ≤ maxLen) :
    Calls Tryz.prog 11 #[.slice a rs.length cap, .slice b1 fr.length cap1, .slice (some ⟨bt, ot, none⟩) to.length cap2, .bool ov, .int .i64 v] w fun e w' => GaveIs w w' e (farR rs fr to ov v true) (farC rs fr to ov v true) ∧ Below w.heap.size w w' := by
  have HA := hide (farRefused_any a rs cap B b1 fr cap1 (some ⟨bt, ot, none⟩) to cap2 ov v w h h1 h2 hB hs (by unfold maxLen; omega) hs1 (by unfold maxLen; omega) hs2 (by unfold maxLen; omega) hc1 hm1 hc2 hm2)
  by_cases hfar : far1 rs fr to ov v = 0
  rotate_left
  · obtain ⟨r1, r2⟩ := far_refused (mv := true) hfar
    have HC := hide (fun W (hb : Below w.heap.size w W) => copyTree_any a rs cap B W (h.below hb hB) (Nat.le_trans hB hb.size) hl hz)
    rw [r1, r2]
    generalize far1 rs fr to ov v = M at *
    have e0 : (M == 0) = false := by rw [beq_eq_false_iff_ne]; exact hfar
    clear r1 r2
    go_enter Tryz.func11, Tryz.ntmps11
    go_wp2_with fail
    refine HA.out.mono ?_
    rintro e w1 ⟨rfl, c1⟩
    have X1 := hide (HC.out w1 c1)
    clear HA HC
    go_wp2_with fail
    refine X1.out.mono ?_
    rintro e w2 ⟨rfl, ⟨pb, qb, hO⟩, b2⟩
    have HO := hide (hO.down c1.size)
    have c2 := c1.trans (b2.mono c1.size)
    clear hO X1 b2
    go_wp2
    go_ret2
    exact ⟨⟨w1.heap.size, rs.length, pb, qb, rfl, HO.out⟩, c2⟩
  obtain ⟨ht, hpf, hto, hv, hth, hap⟩ := far1_ok hfar
  obtain ⟨n1, n2, n3⟩ := carry_sizes (fr := fr) (v := v) ht hto
  have HCA := hide (fun W (hb : Below w.heap.size w W) => carried_any a rs cap B b1 fr cap1 bt ot to cap2 v W (h.below hb hB) (h1.below hb hB) (h2.below hb hB) (Nat.le_trans hB hb.size) hl hz hl1 hl2 hs2 hs (apart_to hap))
  have HTA := hide (fun W g c9 (hb : Below w.heap.size w W) (hr : Rss W W.heap.size (some ⟨g, 0, none⟩) (carryL rs fr to v)) => turnAt_any a rs cap W.heap.size (some ⟨bt, ot, none⟩) to cap2 (some ⟨g, 0, none⟩) (carryL rs fr to v) c9 W ((h.below hb hB).mono (Nat.le_trans hB hb.size)) ((h2.below hb hB).mono (Nat.le_trans hB hb.size)) hr (Nat.le_refl _) hl hl2 (by omega) hz n2)
  have HTK := hide (fun W (hb : Below w.heap.size w W) g caps g2 capc (hT : TurnGot W w.heap.size (restL rs fr to true) (carryL rs fr to v) g caps g2) => far_taken a rs cap B fr bt ot to cap2 ov v true w W h h2 hB hb hl hz hl2 hpz hc2 hm2 hfar g caps g2 capc hT)
  have hre : restL rs fr to true = withoutL (withoutL rs to) fr := rfl
  rw [hre] at HTK
  rw [hfar] at HA
  have hstl : (withoutL rs to).length ≤ 1048576 := Nat.le_trans (List.length_filter_le _ _) hl
  have hstz : SzT (withoutL rs to) := fun r hr => hz r (List.mem_filter.1 hr).1
  have HWO := hide (fun W g caps (hb : Below w.heap.size w W) (hr : Rss W W.heap.size (some ⟨g, 0, none⟩) (withoutL rs to)) => without_grow (some ⟨g, 0, none⟩) (withoutL rs to) caps W.heap.size b1 fr cap1 B W hr (h1.below hb hB) (Nat.le_refl _) (Nat.le_trans hB hb.size) hstl hl1 hstz)
  have hcm : ∀ r ∈ carryL rs fr to v, r.pa.length ≤ maxLen ∧ r.ps.length ≤ maxLen := fun r hr => by
    have := n2 r hr
    unfold maxLen
    omega
  generalize farR rs fr to ov v true = FR at *
  generalize farC rs fr to ov v true = FC at *
  generalize withoutL (withoutL rs to) fr = su at *
  generalize withoutL rs to = st at *
  generalize carryL rs fr to v = cs at *
  clear hre hfar hstl hstz n2 n3
  go_enter Tryz.func11, Tryz.ntmps11
  go_wp2_with fail
  refine HA.out.mono ?_
  rintro e w1 ⟨rfl, c1⟩
  have X1 := hide (HCA.out w1 c1)
  clear HA HCA
  go_wp2_with fail
  refine X1.out.mono ?_
  rintro e w2 ⟨⟨g, c9, rfl, hr⟩, b2⟩
  have c2 := c1.trans (b2.mono c1.size)
  have X2 := hide (HTA.out w2 g c9 c2 hr)
  clear X1 hr b2 HTA
  go_wp2_with fail
  refine X2.out.mono ?_
  rintro e w3 ⟨⟨g1, caps, g2, rfl, hT⟩, b3⟩
  have c3 := c2.trans (b3.mono c2.size)
  have y3 := c3.size
  have k4 := (Below.refl w3.heap.size w3).alloc (Nat.le_refl _) (Obj.cells #[.slice a rs.length cap, .slice (some ⟨bt, ot, none⟩) to.length cap2, .slice (some ⟨g1, 0, none⟩) st.length caps, .slice (some ⟨g2, 0, none⟩) cs.length cs.length] 75)
  have hT3 := hT.down c2.size
  have hT4 := hT3.below k4
  have X3 := hide (HWO.out _ g1 caps (c3.trans (k4.mono c3.size)) (hT4.rss hcm).1)
  have HT := hide hT3
  have K4 := hide k4
  clear X2 hT hT3 hT4 b3 HWO k4
  go_wp2_with fail
  refine X3.out.mono ?_
  rintro e w5 ⟨⟨v5, ts, rfl, hG, hm5, hcp5⟩, b5⟩
  obtain ⟨g5, caps5, rfl, hg5⟩ := hG.blk
  have htl : ts.length = su.length := by rw [← hm5]; simp
  rw [htl] at hG ⊢
  have d0 := (b5.cell (p := ⟨w3.heap.size, 0, none⟩) (by simp)).trans (show _ = some (.slice a rs.length cap) by simp)
  have d1 := (b5.cell (p := ⟨w3.heap.size, 1, none⟩) (by simp)).trans (show _ = some (.slice (some ⟨bt, ot, none⟩) to.length cap2) by simp)
  have d2 := (b5.cell (p := ⟨w3.heap.size, 2, none⟩) (by simp)).trans (show _ = some (.slice (some ⟨g1, 0, none⟩) st.length caps) by simp)
  have d3 := (b5.cell (p := ⟨w3.heap.size, 3, none⟩) (by simp)).trans (show _ = some (.slice (some ⟨g2, 0, none⟩) cs.length cs.length) by simp)
  have f2 := (b5.frozen (p := ⟨w3.heap.size, 2, none⟩) (by simp)).trans (show _ = false by simp)
  have z5 : w3.heap.size + 1 ≤ w5.heap.size := by have := b5.size; simp at this; omega
  have c5 := c3.trans ((K4.out.trans (b5.mono K4.out.size)).mono c3.size)
  have hT6 : TurnGot (w5.setCell ⟨w3.heap.size, 2, none⟩ (.slice (some ⟨g5, 0, none⟩) su.length caps5)) w.heap.size su cs g5 caps5 g2 := by
    obtain ⟨ts0, pb, qb, B1, lo1, B2, hi2, q1, q2, q3, q4, q5, q6, q7, q8, q9⟩ := HT.out
    have q4' := (q4.below K4.out).below b5
    have hsz4 : (w3.alloc (Obj.cells #[.slice a rs.length cap, .slice (some ⟨bt, ot, none⟩) to.length cap2, .slice (some ⟨g1, 0, none⟩) st.length caps, .slice (some ⟨g2, 0, none⟩) cs.length cs.length] 75)).heap.size = w3.heap.size + 1 := by simp
    rw [hsz4] at hG
    have ne : ∀ x, x ≠ w3.heap.size → (w5.setCell ⟨w3.heap.size, 2, none⟩ (.slice (some ⟨g5, 0, none⟩) su.length caps5)).heap[x]? = w5.heap[x]? := fun x hx => Below.heap_setCell _ _ _ _ hx
    refine ⟨ts, pb, qb, w3.heap.size + 1, w5.heap.size, B2, hi2, hG.heap (by simp) (fun x hx _ => ne x (by omega)), hm5, hcp5, q4'.of (by simp) (fun x o _ hx _ => ?_) (fun x o _ hx _ => ?_), .inr (by omega), by simp; omega, by omega, q8, by simp; omega⟩
    · simp only [World.cell?]
      rw [ne x (by omega)]
    · simp only [World.frozen?]
      rw [ne x (by omega)]
  have c6 := c5.setCell (p := ⟨w3.heap.size, 2, none⟩) (by simp; omega) (.slice (some ⟨g5, 0, none⟩) su.length caps5)
  have X4 := hide (HTK.out _ c6 g5 caps5 g2 cs.length hT6)
  clear X3 hG hm5 hcp5 hT6 HTK HT K4 b5
  go_wp2_with fail
  refine X4.out.mono ?_
  rintro e w7 ⟨⟨g', cap', pb', qb', rfl, hO⟩, c7⟩
  have HO := hide hO
  clear hO X4
  go_wp2
  go_ret2
  exact ⟨⟨g', cap', pb', qb', rfl, HO.out⟩, c7⟩
end Go.Proofs.YtclnpfpaabmkcaaGreat
