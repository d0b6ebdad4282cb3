/-
  What spec.l11May does.
-/
import Derived.Test.YtepdfppbnepamabGreatSpecTreeOk
import Derived.Test.YtepdfppbnepamabGreatRowsW
namespace Go.Proofs.YtepdfppbnepamabGreat
open Go.RowKit M
set_option linter.unusedVariables false

set_option maxHeartbeats 2000000 in
theorem specMay_any (a : Option Addr) (rs : List Rs) (cap B : Nat) (b : Option Addr) (p : List ByteArray) (cap' C : Nat) (v : Int) (w : World) (h : Rss w B a rs) (h' : Strs w C b p) (hB : B ≤ w.heap.size) (hC : C ≤ w.heap.size) (hs : ShortT rs) (hl : rs.length ≤ maxLen) (hlp : ∀ r ∈ rs, r.pa.length ≤ 1048576) (hs' : Short p) (hl' : p.length ≤ maxLen) :
    Calls Tryz.prog 25 #[.slice a rs.length cap, .slice b p.length cap', .int .i64 v] w fun e w' => e = .returned (.int .i64 (mayI rs p v)) ∧ Below w.heap.size w w' := by
  have HT := hide (specTreeOk_any a rs cap B w h hB hs hl hlp)
  have HP := hide (fun W (hb : Below w.heap.size w W) => specPathOk_any b p cap' C W (h'.below hb hC) hs' hl')
  have HV := hide (fun (W : World) => l1In_any v 0 99999 W)
  have H5 := hide (fun h => mayI_500 (rs := rs) (p := p) (v := v) h)
  have H4 := hide (fun h h1 => mayI_400 (rs := rs) (p := p) (v := v) h h1)
  have H7 := hide (fun h h1 h2 => mayI_507 (rs := rs) (p := p) (v := v) h h1 h2)
  have H0 := hide (fun h h1 h2 => mayI_0 (rs := rs) (p := p) (v := v) h h1 h2)
  generalize mayI rs p v = M at *
  generalize treeB rs = bt at *
  generalize pathB p = bp at *
  generalize inB v 0 99999 = bv at *
  clear h h'
  cases bt
  · have hM := H5.out rfl
    subst hM
    go_enter Tryz.func25, Tryz.ntmps25
    go_wp2_with fail
    refine HT.out.mono ?_
    rintro e w1 ⟨rfl, b1⟩
    go_wp2
    go_ret
    exact ⟨rfl, b1⟩
  cases bp
  · have hM := H4.out rfl rfl
    subst hM
    go_enter Tryz.func25, Tryz.ntmps25
    go_wp2_with fail
    refine HT.out.mono ?_
    rintro e w1 ⟨rfl, b1⟩
    have HP1 := hide (HP.out w1 b1)
    go_wp2_with fail
    refine HP1.out.mono ?_
    rintro e w2 ⟨rfl, hw⟩
    obtain rfl := hw.symm
    go_wp2
    go_ret
    exact ⟨rfl, b1⟩
  cases bv
  · have hM := H7.out rfl rfl rfl
    subst hM
    go_enter Tryz.func25, Tryz.ntmps25
    go_wp2_with fail
    refine HT.out.mono ?_
    rintro e w1 ⟨rfl, b1⟩
    have HP1 := hide (HP.out w1 b1)
    go_wp2_with fail
    refine HP1.out.mono ?_
    rintro e w2 ⟨rfl, hw⟩
    obtain rfl := hw.symm
    go_wp2_with fail
    refine (HV.out _).mono ?_
    rintro e w2 ⟨rfl, hw⟩
    obtain rfl := hw.symm
    go_wp2
    go_ret
    exact ⟨rfl, b1⟩
  · have hM := H0.out rfl rfl rfl
    subst hM
    go_enter Tryz.func25, Tryz.ntmps25
    go_wp2_with fail
    refine HT.out.mono ?_
    rintro e w1 ⟨rfl, b1⟩
    have HP1 := hide (HP.out w1 b1)
    go_wp2_with fail
    refine HP1.out.mono ?_
    rintro e w2 ⟨rfl, hw⟩
    obtain rfl := hw.symm
    go_wp2_with fail
    refine (HV.out _).mono ?_
    rintro e w2 ⟨rfl, hw⟩
    obtain rfl := hw.symm
    go_wp2
    go_ret
    exact ⟨rfl, b1⟩
end Go.Proofs.YtepdfppbnepamabGreat
