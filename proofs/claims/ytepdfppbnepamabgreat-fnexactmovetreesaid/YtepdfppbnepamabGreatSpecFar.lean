/-
  What spec.CopyTree and spec.MoveTree do.
-/
import Derived.Test.YtepdfppbnepamabGreatSpecFarA
import Derived.Test.YtepdfppbnepamabGreatSpecFarB
import Derived.Test.YtepdfppbnepamabGreatSpecFarC
import Derived.Test.YtepdfppbnepamabGreatSpecFarD1
namespace Go.Proofs.YtepdfppbnepamabGreat
open Go.RowKit M
set_option linter.unusedVariables false

theorem specFar_any (a : Option Addr) (rs : List Rs) (cap B : Nat) (b1 : Option Addr) (fr : List ByteArray) (cap1 : Nat) (bt ot : Nat) (to : List ByteArray) (cap2 : Nat) (ov : Bool) (v : Int) (mv : Bool) (w : World) (h : Rss w B a rs) (h1 : Strs w B b1 fr) (h2 : Strs w B (some ⟨bt, ot, none⟩) to) (hB : B ≤ w.heap.size) (hs : ShortT rs) (hl : rs.length ≤ 1048576) (hlp : ∀ r ∈ rs, r.pa.length ≤ 1048576 ∧ r.ps.length ≤ 1048576) (hs1 : Short fr) (hl1 : fr.length ≤ 1048576) (hs2 : Short to) (hl2 : to.length ≤ 1048576) (hc1 : fr.length ≤ cap1) (hm1 : cap1 ≤ maxLen) (hc2 : to.length ≤ cap2) (hm2 : cap2 ≤ maxLen) :
    Calls Tryz.prog 42 #[.slice a rs.length cap, .slice b1 fr.length cap1, .slice (some ⟨bt, ot, none⟩) to.length cap2, .bool ov, .int .i64 v, .bool mv] w fun e w' => TurnIs w w' e (farR rs fr to ov v mv) (farC rs fr to ov v mv) ∧ Below w.heap.size w w' := by
  have A1 := fun hq => specFarA_any a rs cap B b1 fr cap1 bt ot to cap2 ov v mv w h h1 h2 hB hs hl hlp hs1 hl1 hs2 hl2 hc1 hm1 hc2 hm2 hq
  cases ht : treeB rs
  · exact A1 (.inl ht)
  cases hf : pathB fr
  · exact A1 (.inr (.inl ⟨ht, hf⟩))
  cases hv : inB v 0 99999
  · cases hto : pathB to
    · exact A1 (.inr (.inr (.inl ⟨ht, hf, hv, hto⟩)))
    · exact A1 (.inr (.inr (.inr (.inl ⟨ht, hf, hv, hto⟩))))
  cases hto : pathB to
  · exact A1 (.inr (.inr (.inr (.inr ⟨ht, hf, hv, hto⟩))))
  have B1 := fun hq => specFarB_any a rs cap B b1 fr cap1 bt ot to cap2 ov v mv w h h1 h2 hB hs hl hlp hs1 hl1 hs2 hl2 hc1 hm1 hc2 hm2 ht hf hto hv hq
  by_cases hF1 : findI rs fr < 0
  · exact B1 (.inl hF1)
  cases hap : apartB fr to
  · exact B1 (.inr (.inr (.inl hap)))
  by_cases ho : findI rs to < 0 ∨ ov = true
  rotate_left
  · have h3 : ¬ findI rs to < 0 := fun e => ho (.inl e)
    have h4 : ov = false := by cases ov with | false => rfl | true => exact absurd (.inr rfl) ho
    exact B1 (.inr (.inr (.inr ⟨h3, h4⟩)))
  have C1 := fun hq => specFarC_any a rs cap B b1 fr cap1 bt ot to cap2 ov v mv w h h1 h2 hB hs hl hlp hs1 hl1 hs2 hl2 hc1 hm1 hc2 hm2 ht hf hto hv hF1 hap ho hq
  cases hca : collB rs (aboveL to)
  · exact C1 (.inl hca)
  cases hlg : (deepL rs fr).any (longB fr to)
  rotate_left
  · exact C1 (.inr (.inl hlg))
  by_cases h12 : 12 < (restL rs fr to mv).length + (deepL rs fr).length
  · exact C1 (.inr (.inr h12))
  cases mv
  · exact specFarD0_any a rs cap B b1 fr cap1 bt ot to cap2 ov v w h h1 h2 hB hs hl hlp hs1 hl1 hs2 hl2 hc1 hm1 hc2 hm2 ht hf hto hv hF1 hap ho hca hlg h12
  · exact specFarD1_any a rs cap B b1 fr cap1 bt ot to cap2 ov v w h h1 h2 hB hs hl hlp hs1 hl1 hs2 hl2 hc1 hm1 hc2 hm2 ht hf hto hv hF1 hap ho hca hlg h12

set_option maxHeartbeats 1000000 in
theorem specCopyTree_any (a : Option Addr) (rs : List Rs) (cap B : Nat) (b1 : Option Addr) (fr : List ByteArray) (cap1 : Nat) (bt ot : Nat) (to : List ByteArray) (cap2 : Nat) (ov : Bool) (v : Int) (w : World) (h : Rss w B a rs) (h1 : Strs w B b1 fr) (h2 : Strs w B (some ⟨bt, ot, none⟩) to) (hB : B ≤ w.heap.size) (hs : ShortT rs) (hl : rs.length ≤ 1048576) (hlp : ∀ r ∈ rs, r.pa.length ≤ 1048576 ∧ r.ps.length ≤ 1048576) (hs1 : Short fr) (hl1 : fr.length ≤ 1048576) (hs2 : Short to) (hl2 : to.length ≤ 1048576) (hc1 : fr.length ≤ cap1) (hm1 : cap1 ≤ maxLen) (hc2 : to.length ≤ cap2) (hm2 : cap2 ≤ maxLen) :
    Calls Tryz.prog 20 #[.slice a rs.length cap, .slice b1 fr.length cap1, .slice (some ⟨bt, ot, none⟩) to.length cap2, .bool ov, .int .i64 v] w fun e w' => TurnIs w w' e (farR rs fr to ov v false) (farC rs fr to ov v false) ∧ Below w.heap.size w w' := by
  have HX := hide (specFar_any a rs cap B b1 fr cap1 bt ot to cap2 ov v false w h h1 h2 hB hs hl hlp hs1 hl1 hs2 hl2 hc1 hm1 hc2 hm2)
  go_enter Tryz.func20, Tryz.ntmps20
  go_wp2_with fail
  refine HX.out.mono ?_
  rintro e w1 ⟨⟨vv, ts, base, hb, rfl, hg, hm⟩, c1⟩
  have TT := hide (show TurnIs w w1 (.returned (.tuple #[vv, .int .i64 (farC rs fr to ov v false)])) (farR rs fr to ov v false) (farC rs fr to ov v false) from ⟨vv, ts, base, hb, rfl, hg, hm⟩)
  clear hg hm HX
  go_wp2
  go_ret2
  exact ⟨TT.out, c1⟩

set_option maxHeartbeats 1000000 in
theorem specMoveTree_any (a : Option Addr) (rs : List Rs) (cap B : Nat) (b1 : Option Addr) (fr : List ByteArray) (cap1 : Nat) (bt ot : Nat) (to : List ByteArray) (cap2 : Nat) (ov : Bool) (v : Int) (w : World) (h : Rss w B a rs) (h1 : Strs w B b1 fr) (h2 : Strs w B (some ⟨bt, ot, none⟩) to) (hB : B ≤ w.heap.size) (hs : ShortT rs) (hl : rs.length ≤ 1048576) (hlp : ∀ r ∈ rs, r.pa.length ≤ 1048576 ∧ r.ps.length ≤ 1048576) (hs1 : Short fr) (hl1 : fr.length ≤ 1048576) (hs2 : Short to) (hl2 : to.length ≤ 1048576) (hc1 : fr.length ≤ cap1) (hm1 : cap1 ≤ maxLen) (hc2 : to.length ≤ cap2) (hm2 : cap2 ≤ maxLen) :
    Calls Tryz.prog 22 #[.slice a rs.length cap, .slice b1 fr.length cap1, .slice (some ⟨bt, ot, none⟩) to.length cap2, .bool ov, .int .i64 v] w fun e w' => TurnIs w w' e (farR rs fr to ov v true) (farC rs fr to ov v true) ∧ Below w.heap.size w w' := by
  have HX := hide (specFar_any a rs cap B b1 fr cap1 bt ot to cap2 ov v true w h h1 h2 hB hs hl hlp hs1 hl1 hs2 hl2 hc1 hm1 hc2 hm2)
  go_enter Tryz.func22, Tryz.ntmps22
  go_wp2_with fail
  refine HX.out.mono ?_
  rintro e w1 ⟨⟨vv, ts, base, hb, rfl, hg, hm⟩, c1⟩
  have TT := hide (show TurnIs w w1 (.returned (.tuple #[vv, .int .i64 (farC rs fr to ov v true)])) (farR rs fr to ov v true) (farC rs fr to ov v true) from ⟨vv, ts, base, hb, rfl, hg, hm⟩)
  clear hg hm HX
  go_wp2
  go_ret2
  exact ⟨TT.out, c1⟩
end Go.Proofs.YtepdfppbnepamabGreat
