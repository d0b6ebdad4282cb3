/-
  What the specification's Under does.
  What spec.l11Without does.
  What spec.DeepOf does.
  What spec.l11Long does; an append as one step of a region that draws.
  What the specification says of copies and moves, case by case: no program in sight.
-/
import Derived.Test.YtepdfppbnepamabGreatSpecLess
import Derived.Test.YtepdfppbnepamabGreatRowsW
import Derived.Test.YtepdfppbnepamabGreatSpecCopy
import Derived.Test.YtepdfppbnepamabGreatMathOrder
import Derived.Maps.AppendAt
import Derived.Test.YtepdfppbnepamabGreatFarRef
namespace Go.Proofs.YtepdfppbnepamabGreat
open Go.RowKit
set_option linter.unusedVariables false

set_option maxHeartbeats 400000 in
theorem specUnder_any (a b : Option Addr) (ss tt : List ByteArray) (cap cap' B C : Nat) (w : World) (h : Strs w B a ss) (h' : Strs w C b tt) (hl : ss.length ≤ maxLen) (hl' : tt.length ≤ maxLen) (hc : ss.length ≤ cap) (hc' : cap ≤ maxLen) :
    Calls Tryz.prog 65 #[.slice a ss.length cap, .slice b tt.length cap'] w fun e w' => e = .returned (.bool (underB ss tt)) ∧ ∀ D, Below D w w' := by
  have hl1 := hl
  have hl2 := hl'
  have hc2 := hc'
  unfold maxLen at hl hl' hc'
  by_cases hlt : tt.length < ss.length
  · have ht : (ss.take tt.length).length = tt.length := by rw [List.length_take]; omega
    have cE := fun w1 cap1 (hh : Strs w1 B a ss) (hh' : Strs w1 C b tt) => specSamePath_any a b (ss.take tt.length) tt cap1 cap' B C w1 (hh.take _) hh' (by omega) hl2
    rw [ht] at cE
    obtain ⟨b1, o1, rfl, _, _⟩ := h (by omega)
    go_enter Tryz.func65, Tryz.ntmps65
    go_wp2_with fail
    refine (cE _ _ h h').mono ?_
    rintro e w1 ⟨rfl, hb⟩
    go_wp2
    go_ret
    exact ⟨ret_bool (by simp [underB, hlt]), hb⟩
  · go_enter Tryz.func65, Tryz.ntmps65
    go_wp2
    go_ret
    exact ⟨ret_bool (by simp [underB, hlt]), fun D => Below.refl _ _⟩

end Go.Proofs.YtepdfppbnepamabGreat
namespace Go.Proofs.YtepdfppbnepamabGreat
open Go.RowKit M
set_option linter.unusedVariables false
set_option linter.unusedSimpArgs false

set_option maxRecDepth 100000 in
set_option maxHeartbeats 4000000 in
theorem specWithout_any (a : Option Addr) (rs : List Rs) (cap B : Nat) (b : Option Addr) (p : List ByteArray) (cap' C : Nat) (w : World) (h : Rss w B a rs) (h' : Strs w C b p) (hB : B ≤ w.heap.size) (hC : C ≤ w.heap.size) (hl : rs.length ≤ 1048576) (hl' : p.length ≤ 1048576) (hs : ∀ r ∈ rs, r.pa.length ≤ 1048576 ∧ r.ps.length ≤ 1048576) :
    Calls Tryz.prog 64 #[.slice a rs.length cap, .slice b p.length cap'] w fun e w' => (∃ v ts, e = .returned v ∧ GrowR w' w.heap.size v ts w'.heap.size ∧ ts.map (·.r) = withoutL rs p) ∧ Below w.heap.size w w' := by
  have HS := hide hs
  have hpm : p.length ≤ maxLen := by unfold maxLen; omega
  clear hs
  go_enter Tryz.func64, Tryz.ntmps64
  go_wp2
  go_loopw [5, 6] (fun v i wr => ∃ (k lo : Nat) (ts : List RsT), k ≤ rs.length ∧ i = .int .i64 k ∧ GrowR wr w.heap.size v ts lo ∧ w.heap.size ≤ lo ∧ ts.map (·.r) = (rs.take k).filter (fun r => !deepB p r) ∧ Below w.heap.size w wr) (fun _ i _ => rs.length - (intOf i).toNat)
  case atStart => exact ⟨0, w.heap.size + 1, [], Nat.zero_le _, rfl, GrowR.made w w.heap.size (Nat.le_refl _), by omega, rfl, (Below.refl _ _).alloc (Nat.le_refl _) _⟩
  case round =>
    obtain ⟨k, lo, ts, hk, rfl, hG, hlo, hts, hbe⟩ := hrel
    have HG := hide hG
    have HTS := hide hts
    clear hG hts
    by_cases hlt : k < rs.length
    · obtain ⟨b1, o1, rfl, hb1, hcc⟩ := (h.below hbe hB) (by omega)
      obtain ⟨pa, pc, qa, qc, ⟨hc0, hc1, hc2, hc3, hc4⟩, hin⟩ := hcc k hlt
      clear hcc
      have hsk := HS.out _ (List.getElem_mem hlt)
      have hp2 := h'.below hbe hC
      have hkm : (rs[k]).pa.length ≤ maxLen := Nat.le_trans hin.pl hin.pm
      have HQ1 := hide (specSamePath_any pa b rs[k].pa p pc cap' B C _ hin.ph hp2 hkm hpm)
      have HQ2 := hide (fun W (x : Strs W B pa rs[k].pa) (y : Strs W C b p) => specUnder_any pa b rs[k].pa p pc cap' B C W x y hkm hpm hin.pl hin.pm)
      have HI := hide hin
      have HP := hide hp2
      have HSK := hide hsk
      have HD := hide (show deepB p rs[k] = (sameL rs[k].pa p || underB rs[k].pa p) from rfl)
      generalize sameL rs[k].pa p = z1 at *
      generalize underB rs[k].pa p = z2 at *
      clear hin hsk hp2 hkm
      have no : (z1 || z2) = true → Hid ((rs.take (k + 1)).filter (fun r => !deepB p r) = (rs.take k).filter (fun r => !deepB p r)) := fun e1 => filter_no (q := fun r => !deepB p r) hlt (by simp only [HD.out, e1, Bool.not_true])
      have yes : z1 = false → z2 = false → Hid ((rs.take (k + 1)).filter (fun r => !deepB p r) = (rs.take k).filter (fun r => !deepB p r) ++ [rs[k]]) := fun e1 e2 => filter_yes (q := fun r => !deepB p r) hlt (by simp only [HD.out, e1, e2, Bool.or_self, Bool.not_false])
      have NO := hide no
      have YES := hide yes
      have HL := hide (show ts.length ≤ rs.length by
        have e1 : ts.length = ((rs.take k).filter (fun r => !deepB p r)).length := by have := congrArg List.length HTS.out; simpa using this
        rw [e1]; exact filter_len rs k)
      have hbw : b1 < wr.heap.size := by have := hbe.size; omega
      clear no yes HD
      cases z1
      · cases z2
        · have HF := YES.out rfl rfl
          clear NO YES
          go_wp2_with fail
          refine HQ1.out.mono ?_
          rintro e w1 ⟨rfl, hb3⟩
          have hcl := ((hb3 (b1 + 1)).cell (p := ⟨b1, o1 + k * 5, none⟩) (Nat.lt_succ_self _)).trans hc0
          have X1 := hide (HQ2.out w1 (HI.out.ph.below (hb3 B) (Nat.le_refl _)) (HP.out.below (hb3 C) (Nat.le_refl _)))
          have HI1 := hide (HI.out.below (hb3 B) (Nat.le_refl _))
          have HC1 := hide (show ∀ D, Below D wr w1 from hb3)
          clear hb3 HQ1 HQ2
          go_wp2_with fail
          refine X1.out.mono ?_
          rintro e w2 ⟨rfl, hb4⟩
          have HI2 := hide (HI1.out.below (hb4 B) (Nat.le_refl _))
          have hall : ∀ D, Below D wr w2 := fun D => (HC1.out D).trans (hb4 D)
          have b4 := hall wr.heap.size
          clear hb4 hcl X1 HI1 HC1
          have hc5 : ∀ o v, wr.cell? ⟨b1, o, none⟩ = some v → w2.cell? ⟨b1, o, none⟩ = some v := fun o v hv => ((hall (b1 + 1)).cell (p := ⟨b1, o, none⟩) (Nat.lt_succ_self _)).trans hv
          have d0 := hc5 _ _ hc0
          have d1 := hc5 _ _ hc1
          have d2 := hc5 _ _ hc2
          have d3 := hc5 _ _ hc3
          have d4 := hc5 _ _ hc4
          have c1 := hbe.trans (b4.mono hbe.size)
          have HG2 := hide (HG.out.next b4)
          have hlo2 : lo ≤ w2.heap.size := Nat.le_trans HG.out.top b4.size
          have HCp := hide (specCopy_any rs[k] pa pc qa qc B w2 HI2.out (Nat.le_trans hB c1.size) HSK.out.1 HSK.out.2)
          have hlen := HL.out
          clear hc5 hall b4 HI2
          go_wp2_with fail
          refine HCp.out.mono ?_
          rintro e w3 ⟨⟨pp, cc, qq, dd, rfl, hpp, hpq, r3, q3, k1, k2, k3, k4⟩, b5⟩
          have c3 := c1.trans (b5.mono c1.size)
          have bA := (Below.refl w3.heap.size w3).alloc (Nat.le_refl _) (Obj.cells #[.slice (some ⟨pp, 0, none⟩) (rs[k]).pa.length cc, .bool (rs[k]).co, .string (rs[k]).bo, .int .i64 (rs[k]).ve, .slice (some ⟨qq, 0, none⟩) (rs[k]).ps.length dd] 49)
          have HG4 := hide ((HG2.out.next b5).next bA)
          have HR := hide (r3.below bA)
          have HQ := hide (q3.below bA)
          have HC4 := hide (c3.trans (bA.mono c3.size))
          have HKK := hide (And.intro k1 (And.intro k2 (And.intro k3 k4)))
          clear r3 q3 b5 bA c1 c3 d0 d1 d2 d3 d4 HCp k1 k2 k3 k4
          go_wp2_with (at_builtin; refine wp_append_res rfl _ _ rfl w.heap.size lo _ ts rfl HG4.out w3.heap.size ⟨rs[k], pp, cc, qq, dd⟩ rfl ?_ ?_ hlo (Nat.le_trans hlo2 hpp) hpq HR.out HQ.out HKK.out ?_)
          · exact ⟨by simp, by simp, by simp, by simp, by simp⟩
          · omega
          · intro v' w' hG' hB'
            have HG' := hide hG'
            have HC' := hide (HC4.out.trans hB')
            clear hG' hB'
            go_wp2
            go_roundw
            case rel => exact ⟨k + 1, _, _, by omega, by go_num, HG'.out, HC'.out.size, by rw [HF.out, List.map_append, HTS.out]; rfl, HC'.out⟩
            case measure => simp [intOf]; omega
        · have HF := NO.out rfl
          clear NO YES HSK
          go_wp2_with fail
          refine HQ1.out.mono ?_
          rintro e w1 ⟨rfl, hb3⟩
          have hcl := ((hb3 (b1 + 1)).cell (p := ⟨b1, o1 + k * 5, none⟩) (Nat.lt_succ_self _)).trans hc0
          have X1 := hide (HQ2.out w1 (HI.out.ph.below (hb3 B) (Nat.le_refl _)) (HP.out.below (hb3 C) (Nat.le_refl _)))
          have b3 := hb3 wr.heap.size
          clear hb3 HQ1 HQ2
          go_wp2_with fail
          refine X1.out.mono ?_
          rintro e w2 ⟨rfl, hb4⟩
          have b4 := b3.trans (hb4 _)
          have c1 := hbe.trans (b4.mono hbe.size)
          have HG2 := hide (HG.out.next b4)
          clear b3 hb4 b4 hcl X1
          go_wp2
          go_roundw
          case rel => exact ⟨k + 1, lo, ts, by omega, by go_num, HG2.out, hlo, by rw [HF.out]; exact HTS.out, c1⟩
          case measure => simp [intOf]; omega
      · have HF := NO.out rfl
        clear NO YES HSK
        go_wp2_with fail
        refine HQ1.out.mono ?_
        rintro e w1 ⟨rfl, hb3⟩
        have b4 := hb3 wr.heap.size
        have c1 := hbe.trans (b4.mono hbe.size)
        have HG2 := hide (HG.out.next b4)
        clear hb3 b4 HQ1 HQ2
        go_wp2
        go_roundw
        case rel => exact ⟨k + 1, lo, ts, by omega, by go_num, HG2.out, hlo, by rw [HF.out]; exact HTS.out, c1⟩
        case measure => simp [intOf]; omega
    · have HF := hide (filter_end (q := fun r => !deepB p r) hlt)
      have HM := hide (show ts.map (·.r) = withoutL rs p by rw [HTS.out, HF.out]; rfl)
      have HG3 := hide (HG.out.up HG.out.top (Nat.le_refl _))
      clear HTS HF
      go_wp2
      go_ret
      exact ⟨⟨_, ts, rfl, HG3.out, HM.out⟩, hbe⟩
end Go.Proofs.YtepdfppbnepamabGreat
namespace Go.Proofs.YtepdfppbnepamabGreat
open Go.RowKit M
set_option linter.unusedVariables false

set_option maxRecDepth 100000 in
set_option maxHeartbeats 4000000 in
theorem specDeepOf_any (a : Option Addr) (rs : List Rs) (cap B : Nat) (b : Option Addr) (p : List ByteArray) (cap' C : Nat) (w : World) (h : Rss w B a rs) (h' : Strs w C b p) (hB : B ≤ w.heap.size) (hC : C ≤ w.heap.size) (hl : rs.length ≤ 1048576) (hl' : p.length ≤ 1048576) (hs : ∀ r ∈ rs, r.pa.length ≤ 1048576 ∧ r.ps.length ≤ 1048576) :
    Calls Tryz.prog 63 #[.slice a rs.length cap, .slice b p.length cap'] w fun e w' => (∃ g cap2 _n : Nat, e = .returned (.slice (some ⟨g, 0, none⟩) (deepL rs p).length cap2) ∧ Rss w' w'.heap.size (some ⟨g, 0, none⟩) (deepL rs p)) ∧ Below w.heap.size w w' := by
  have HS := hide hs
  have hpm : p.length ≤ maxLen := by unfold maxLen; omega
  clear hs
  go_enter Tryz.func63, Tryz.ntmps63
  go_wp2
  go_loopw [5, 6] (fun v i wr => ∃ (k lo : Nat) (ts : List RsT), k ≤ rs.length ∧ i = .int .i64 k ∧ GrowR wr w.heap.size v ts lo ∧ w.heap.size ≤ lo ∧ ts.map (·.r) = (rs.take k).filter (deepB p) ∧ Below w.heap.size w wr) (fun _ i _ => rs.length - (intOf i).toNat)
  case atStart => exact ⟨0, w.heap.size + 1, [], Nat.zero_le _, rfl, GrowR.made w w.heap.size (Nat.le_refl _), by omega, rfl, (Below.refl _ _).alloc (Nat.le_refl _) _⟩
  case round =>
    obtain ⟨k, lo, ts, hk, rfl, hG, hlo, hts, hbe⟩ := hrel
    have HG := hide hG
    have HTS := hide hts
    clear hG hts
    by_cases hlt : k < rs.length
    · obtain ⟨b1, o1, rfl, hb1, hcc⟩ := (h.below hbe hB) (by omega)
      obtain ⟨pa, pc, qa, qc, ⟨hc0, hc1, hc2, hc3, hc4⟩, hin⟩ := hcc k hlt
      clear hcc
      have hsk := HS.out _ (List.getElem_mem hlt)
      have hp2 := h'.below hbe hC
      have hkm : (rs[k]).pa.length ≤ maxLen := Nat.le_trans hin.pl hin.pm
      have HQ1 := hide (specSamePath_any pa b rs[k].pa p pc cap' B C _ hin.ph hp2 hkm hpm)
      have HQ2 := hide (fun W (x : Strs W B pa rs[k].pa) (y : Strs W C b p) => specUnder_any pa b rs[k].pa p pc cap' B C W x y hkm hpm hin.pl hin.pm)
      have HI := hide hin
      have HP := hide hp2
      have HSK := hide hsk
      have HD := hide (show deepB p rs[k] = (sameL rs[k].pa p || underB rs[k].pa p) from rfl)
      generalize sameL rs[k].pa p = z1 at *
      generalize underB rs[k].pa p = z2 at *
      clear hin hsk hp2 hkm
      have no : z1 = false → z2 = false → Hid ((rs.take (k + 1)).filter (deepB p) = (rs.take k).filter (deepB p)) := fun e1 e2 => filter_no (q := deepB p) hlt (by rw [HD.out, e1, e2]; rfl)
      have yes : (z1 || z2) = true → Hid ((rs.take (k + 1)).filter (deepB p) = (rs.take k).filter (deepB p) ++ [rs[k]]) := fun e1 => filter_yes (q := deepB p) hlt (by rw [HD.out, e1])
      have NO := hide no
      have YES := hide yes
      have HL := hide (show ts.length ≤ rs.length by
        have e1 : ts.length = ((rs.take k).filter (deepB p)).length := by have := congrArg List.length HTS.out; simpa using this
        rw [e1]; exact filter_len rs k)
      have hbw : b1 < wr.heap.size := by have := hbe.size; omega
      clear no yes HD
      cases z1
      · cases z2
        · have HF := NO.out rfl rfl
          clear NO YES HSK
          go_wp2_with fail
          refine HQ1.out.mono ?_
          rintro e w1 ⟨rfl, hb3⟩
          have hcl := ((hb3 (b1 + 1)).cell (p := ⟨b1, o1 + k * 5, none⟩) (Nat.lt_succ_self _)).trans hc0
          have X1 := hide (HQ2.out w1 (HI.out.ph.below (hb3 B) (Nat.le_refl _)) (HP.out.below (hb3 C) (Nat.le_refl _)))
          have b3 := hb3 wr.heap.size
          clear hb3 HQ1 HQ2
          go_wp2_with fail
          refine X1.out.mono ?_
          rintro e w2 ⟨rfl, hb4⟩
          have b4 := b3.trans (hb4 _)
          have c1 := hbe.trans (b4.mono hbe.size)
          have HG2 := hide (HG.out.next b4)
          clear b3 hb4 b4 hcl X1
          go_wp2
          go_roundw
          case rel => exact ⟨k + 1, lo, ts, by omega, by go_num, HG2.out, hlo, by rw [HF.out]; exact HTS.out, c1⟩
          case measure => simp [intOf]; omega
        · have HF := YES.out rfl
          clear NO YES
          go_wp2_with fail
          refine HQ1.out.mono ?_
          rintro e w1 ⟨rfl, hb3⟩
          have hcl := ((hb3 (b1 + 1)).cell (p := ⟨b1, o1 + k * 5, none⟩) (Nat.lt_succ_self _)).trans hc0
          have X1 := hide (HQ2.out w1 (HI.out.ph.below (hb3 B) (Nat.le_refl _)) (HP.out.below (hb3 C) (Nat.le_refl _)))
          have HI1 := hide (HI.out.below (hb3 B) (Nat.le_refl _))
          have HC1 := hide (show ∀ D, Below D wr w1 from hb3)
          clear hb3 HQ1 HQ2
          go_wp2_with fail
          refine X1.out.mono ?_
          rintro e w2 ⟨rfl, hb4⟩
          have HI2 := hide (HI1.out.below (hb4 B) (Nat.le_refl _))
          have hall : ∀ D, Below D wr w2 := fun D => (HC1.out D).trans (hb4 D)
          have b4 := hall wr.heap.size
          clear hb4 hcl X1 HI1 HC1
          have hc5 : ∀ o v, wr.cell? ⟨b1, o, none⟩ = some v → w2.cell? ⟨b1, o, none⟩ = some v := fun o v hv => ((hall (b1 + 1)).cell (p := ⟨b1, o, none⟩) (Nat.lt_succ_self _)).trans hv
          have d0 := hc5 _ _ hc0
          have d1 := hc5 _ _ hc1
          have d2 := hc5 _ _ hc2
          have d3 := hc5 _ _ hc3
          have d4 := hc5 _ _ hc4
          have c1 := hbe.trans (b4.mono hbe.size)
          have HG2 := hide (HG.out.next b4)
          have hlo2 : lo ≤ w2.heap.size := Nat.le_trans HG.out.top b4.size
          have HCp := hide (specCopy_any rs[k] pa pc qa qc B w2 HI2.out (Nat.le_trans hB c1.size) HSK.out.1 HSK.out.2)
          have hlen := HL.out
          clear hc5 hall b4 HI2
          go_wp2_with fail
          refine HCp.out.mono ?_
          rintro e w3 ⟨⟨pp, cc, qq, dd, rfl, hpp, hpq, r3, q3, k1, k2, k3, k4⟩, b5⟩
          have c3 := c1.trans (b5.mono c1.size)
          have bA := (Below.refl w3.heap.size w3).alloc (Nat.le_refl _) (Obj.cells #[.slice (some ⟨pp, 0, none⟩) (rs[k]).pa.length cc, .bool (rs[k]).co, .string (rs[k]).bo, .int .i64 (rs[k]).ve, .slice (some ⟨qq, 0, none⟩) (rs[k]).ps.length dd] 49)
          have HG4 := hide ((HG2.out.next b5).next bA)
          have HR := hide (r3.below bA)
          have HQ := hide (q3.below bA)
          have HC4 := hide (c3.trans (bA.mono c3.size))
          have HKK := hide (And.intro k1 (And.intro k2 (And.intro k3 k4)))
          clear r3 q3 b5 bA c1 c3 d0 d1 d2 d3 d4 HCp k1 k2 k3 k4
          go_wp2_with (at_builtin; refine wp_append_res rfl _ _ rfl w.heap.size lo _ ts rfl HG4.out w3.heap.size ⟨rs[k], pp, cc, qq, dd⟩ rfl ?_ ?_ hlo (Nat.le_trans hlo2 hpp) hpq HR.out HQ.out HKK.out ?_)
          · exact ⟨by simp, by simp, by simp, by simp, by simp⟩
          · omega
          · intro v' w' hG' hB'
            have HG' := hide hG'
            have HC' := hide (HC4.out.trans hB')
            clear hG' hB'
            go_wp2
            go_roundw
            case rel => exact ⟨k + 1, _, _, by omega, by go_num, HG'.out, HC'.out.size, by rw [HF.out, List.map_append, HTS.out]; rfl, HC'.out⟩
            case measure => simp [intOf]; omega
      · have HF := YES.out rfl
        clear NO YES
        go_wp2_with fail
        refine HQ1.out.mono ?_
        rintro e w2 ⟨rfl, hall⟩
        have b4 := hall wr.heap.size
        have HI2 := hide (HI.out.below (hall B) (Nat.le_refl _))
        clear HQ1 HQ2
        have hc5 : ∀ o v, wr.cell? ⟨b1, o, none⟩ = some v → w2.cell? ⟨b1, o, none⟩ = some v := fun o v hv => ((hall (b1 + 1)).cell (p := ⟨b1, o, none⟩) (Nat.lt_succ_self _)).trans hv
        have d0 := hc5 _ _ hc0
        have d1 := hc5 _ _ hc1
        have d2 := hc5 _ _ hc2
        have d3 := hc5 _ _ hc3
        have d4 := hc5 _ _ hc4
        have c1 := hbe.trans (b4.mono hbe.size)
        have HG2 := hide (HG.out.next b4)
        have hlo2 : lo ≤ w2.heap.size := Nat.le_trans HG.out.top b4.size
        have HCp := hide (specCopy_any rs[k] pa pc qa qc B w2 HI2.out (Nat.le_trans hB c1.size) HSK.out.1 HSK.out.2)
        have hlen := HL.out
        clear hc5 hall b4 HI2
        go_wp2_with fail
        refine HCp.out.mono ?_
        rintro e w3 ⟨⟨pp, cc, qq, dd, rfl, hpp, hpq, r3, q3, k1, k2, k3, k4⟩, b5⟩
        have c3 := c1.trans (b5.mono c1.size)
        have bA := (Below.refl w3.heap.size w3).alloc (Nat.le_refl _) (Obj.cells #[.slice (some ⟨pp, 0, none⟩) (rs[k]).pa.length cc, .bool (rs[k]).co, .string (rs[k]).bo, .int .i64 (rs[k]).ve, .slice (some ⟨qq, 0, none⟩) (rs[k]).ps.length dd] 49)
        have HG4 := hide ((HG2.out.next b5).next bA)
        have HR := hide (r3.below bA)
        have HQ := hide (q3.below bA)
        have HC4 := hide (c3.trans (bA.mono c3.size))
        have HKK := hide (And.intro k1 (And.intro k2 (And.intro k3 k4)))
        clear r3 q3 b5 bA c1 c3 d0 d1 d2 d3 d4 HCp k1 k2 k3 k4
        go_wp2_with (at_builtin; refine wp_append_res rfl _ _ rfl w.heap.size lo _ ts rfl HG4.out w3.heap.size ⟨rs[k], pp, cc, qq, dd⟩ rfl ?_ ?_ hlo (Nat.le_trans hlo2 hpp) hpq HR.out HQ.out HKK.out ?_)
        · exact ⟨by simp, by simp, by simp, by simp, by simp⟩
        · omega
        · intro v' w' hG' hB'
          have HG' := hide hG'
          have HC' := hide (HC4.out.trans hB')
          clear hG' hB'
          go_wp2
          go_roundw
          case rel => exact ⟨k + 1, _, _, by omega, by go_num, HG'.out, HC'.out.size, by rw [HF.out, List.map_append, HTS.out]; rfl, HC'.out⟩
          case measure => simp [intOf]; omega
    · have HF := hide (filter_end (q := deepB p) hlt)
      obtain ⟨g, cap2, e, hO⟩ := HG.out.rss (Nat.le_refl _)
      have hm : ts.map (·.r) = deepL rs p := by rw [HTS.out, HF.out]; rfl
      have hll : ts.length = (deepL rs p).length := by rw [← hm]; simp
      rw [hm] at hO
      rw [hll] at e
      subst e
      clear hm hll
      go_wp2
      go_ret
      exact ⟨⟨g, cap2, 0, rfl, hO⟩, hbe⟩
end Go.Proofs.YtepdfppbnepamabGreat
namespace Go.Proofs.YtepdfppbnepamabGreat
open Go.RowKit M
set_option linter.unusedVariables false

theorem step_append_ownT {P : Program} {ops : Array Oper} {o : Oper} {a : Act} {w : World} {K : Act → World → Prop} {Q : Exit → Act → World → Prop} {E : Prop} (hgd : o.guard = none) (s x : Operand) (t : TypeId)
    (ho : o.op = .call { callee := .builtin .append, args := #[s, x], argTypes := #[t, t] })
    (base : Nat) (e : TypeId) (i : TypeInfo) (z : Value) (size bytes : Nat) (ht : P.underlying t = some (.slice e)) (hi : P.info? e = some i) (hz : i.zero = some z)
    (hsize : i.size = size) (hby : i.bytes = bytes) (hzs : z.cells.size = size) (hsz : 0 < size)
    (v : Value) (n : Nat) (xs : List Value) (hs : a.eval s = v) (hown : w.ownsRow base e size v n xs)
    (ad : Addr) (m c : Nat) (news : List Value) (hx : a.eval x = .slice (some ad) m c) (hl : news.length = m * size) (hnews : ∀ j u, news[j]? = some u → w.cell? (ad.add j) = some u) (h1 : ∀ u ∈ news, u.oneCell' = true)
    (h63 : n + m ≤ maxLen) (hbytes : (n + m) * bytes ≤ 140737488355328) (hbase : base ≤ w.heap.size)
    (h : ∀ v' w', w'.ownsRow base e size v' (n + m) (xs ++ news) → w.grownBy w' v.ownBlock → K (a.put o.dst v') w') :
    if Region.wanted o (yielded ops a.tmps) = true then Oper.wp P o a w K Q else E := by
  have hw : Region.wanted o (yielded ops a.tmps) = true := by simp [Region.wanted, hgd]
  rw [if_pos hw]
  obtain ⟨v', w', hr, h2, h3, h4, h5⟩ := run_append_own_at (P := P) w base t o.type e i z size bytes ht hi hz hsize hby hzs hsz v n xs hown ad m c news hl hnews h1 h63 hbytes hbase
  unfold Oper.wp execOp
  simp only [ho, resolve, invoke, builtin, Sem.run_bind, Sem.run_pure, Result.andThen_ok, List.map_toArray, List.map_cons, List.map_nil, hs, hx, hr]
  exact h v' w' h2 h3
theorem below_own {W W' : World} {base e size n L : Nat} {v : Value} {xs : List Value} (hown : W.ownsRow base e size v n xs) (hg : W.grownBy W' v.ownBlock) (hL : L ≤ base) (hLW : L ≤ W.heap.size) : Below L W W' :=
  ⟨hg.os, hg.tape, hg.output, hg.size, fun b hb => hg.block b (by omega) (fun e => by have := (hown.lt b e.symm).1; omega)⟩

def longB (fr to : List ByteArray) (r : Rs) : Bool := decide (4 < r.pa.length - fr.length + to.length)
theorem anyL_at {rs : List Rs} {q : Rs → Bool} (k : Nat) (hk : k < rs.length) (h : q rs[k] = true) : rs.any q = true := List.any_eq_true.2 ⟨_, List.getElem_mem hk, h⟩
theorem anyL_none {rs : List Rs} {q : Rs → Bool} (h : ∀ j (hj : j < rs.length), q rs[j] = false) : rs.any q = false := by
  rw [List.any_eq_false]
  intro r hr
  obtain ⟨j, hj, rfl⟩ := List.mem_iff_getElem.1 hr
  rw [h j hj]; simp

set_option maxHeartbeats 2000000 in
theorem specLong_any (a : Option Addr) (ls : List Rs) (cap B : Nat) (b1 b2 : Option Addr) (fr to : List ByteArray) (cap1 cap2 : Nat) (w : World) (h : Rss w B a ls) (hl : ls.length ≤ 1048576) (hp : ∀ r ∈ ls, fr.length ≤ r.pa.length ∧ r.pa.length ≤ 1048576) (hl1 : fr.length ≤ 1048576) (hl2 : to.length ≤ 1048576) :
    Calls Tryz.prog 66 #[.slice a ls.length cap, .slice b1 fr.length cap1, .slice b2 to.length cap2] w fun e w' => e = .returned (.bool (ls.any (longB fr to))) ∧ w' = w := by
  have HP := hide hp
  clear hp
  go_enter Tryz.func66, Tryz.ntmps66
  go_wp2
  go_loop [7] (fun i => ∃ k : Nat, k ≤ ls.length ∧ i = .int .i64 k ∧ ∀ j (hj : j < ls.length), j < k → longB fr to ls[j] = false) (fun i => ls.length - (intOf i).toNat)
  case atStart => exact ⟨0, Nat.zero_le _, rfl, fun j _ hj => absurd hj (Nat.not_lt_zero _)⟩
  case round =>
    obtain ⟨k, hk, rfl, ht⟩ := hrel
    have HT := hide ht
    clear ht
    by_cases hlt : k < ls.length
    · obtain ⟨b, o, rfl, hb, hc⟩ := h (by omega)
      obtain ⟨pa, pc, qa, qc, ⟨hc0, hc1, hc2, hc3, hc4⟩, hin⟩ := hc k hlt
      clear hc hin
      obtain ⟨p1, p2⟩ := HP.out _ (List.getElem_mem hlt)
      by_cases hd : 4 < ls[k].pa.length - fr.length + to.length
      · have HZ := hide (show longB fr to ls[k] = true from decide_eq_true hd)
        have e9 : decide ((4 : Int) < (ls[k].pa.length : Int) - (fr.length : Int) + (to.length : Int)) = true := by simp; omega
        generalize (ls[k]).pa.length = m at *
        go_wp2
        go_ret
        exact ⟨by rw [anyL_at k hlt HZ.out]; rfl, rfl⟩
      · have HZ := hide (show longB fr to ls[k] = false from decide_eq_false hd)
        have e9 : decide ((4 : Int) < (ls[k].pa.length : Int) - (fr.length : Int) + (to.length : Int)) = false := by simp; omega
        generalize (ls[k]).pa.length = m at *
        go_wp2
        go_round
        case rel => exact ⟨k + 1, by omega, by go_num, fun j hj hjk => by
                      by_cases e : j = k
                      · subst e; exact HZ.out
                      · exact HT.out j hj (by omega)⟩
        case measure => simp [intOf]; omega
    · have HE := hide (anyL_none (rs := ls) (q := longB fr to) (fun j hj => HT.out j hj (by omega)))
      go_wp2
      go_ret
      exact ⟨by rw [HE.out]; rfl, rfl⟩
end Go.Proofs.YtepdfppbnepamabGreat
namespace Go.Proofs.YtepdfppbnepamabGreat
open M

theorem deepP_nil (p : List ByteArray) : deepP p [] = true := (deepB_P [] ⟨p, false, ByteArray.empty, 0, []⟩).symm.trans (deep_iff.2 (List.nil_prefix))
theorem sameL_comm (a b : List ByteArray) : sameL a b = sameL b a := by
  unfold sameL
  by_cases h : a = b
  · subst h; rfl
  · rw [decide_eq_false h, decide_eq_false (fun e => h e.symm)]
theorem apart_no {fr to : List ByteArray} (h : fr.length = 0 ∨ to.length = 0 ∨ sameL fr to = true ∨ underB fr to = true ∨ underB to fr = true) : apartB fr to = false := by
  unfold apartB
  rcases h with h | h | h | h | h
  · obtain rfl := List.length_eq_zero_iff.1 h
    rw [deepP_nil to]; simp
  · obtain rfl := List.length_eq_zero_iff.1 h
    rw [deepP_nil fr]; simp
  · have : deepP fr to = true := by unfold deepP; rw [h]; rfl
    rw [this]; simp
  · have : deepP fr to = true := by unfold deepP; rw [h]; simp
    rw [this]; simp
  · have : deepP to fr = true := by unfold deepP; rw [h]; simp
    rw [this]; simp
theorem apart_yes {fr to : List ByteArray} (h1 : sameL fr to = false) (h2 : underB fr to = false) (h3 : underB to fr = false) : apartB fr to = true := by
  unfold apartB deepP
  rw [sameL_comm to fr, h1, h2, h3]; rfl
theorem far_code {rs : List Rs} {fr to : List ByteArray} {ov : Bool} {v : Int} {mv : Bool} {c : Int} (h : farI rs fr to ov v mv = c) (hc : ¬ c = 0) : farR rs fr to ov v mv = rs ∧ farC rs fr to ov v mv = c := by
  unfold farR farC takenC
  rw [h, if_neg hc, if_neg hc]
  exact ⟨rfl, rfl⟩
theorem farI_ask {rs : List Rs} {fr to : List ByteArray} {ov : Bool} {v : Int} {mv : Bool} {c : Int} (h : askI rs v (pathB fr && pathB to) = c) (hc : ¬ c = 0) : farI rs fr to ov v mv = c := by
  have h1 : far1 rs fr to ov v = c := by unfold far1; rw [h, if_pos hc]
  unfold farI; rw [h1, if_pos hc]
theorem ask_zero {rs : List Rs} {fr to : List ByteArray} {v : Int} (ht : treeB rs = true) (h1 : pathB fr = true) (h2 : pathB to = true) (hv : inB v 0 99999 = true) : askI rs v (pathB fr && pathB to) = 0 := by
  unfold askI; rw [ht, h1, h2, hv]; rfl
theorem farI_404 {rs : List Rs} {fr to : List ByteArray} {ov : Bool} {v : Int} {mv : Bool} (h : askI rs v (pathB fr && pathB to) = 0) (hf : thereB rs fr = false) : farI rs fr to ov v mv = 404 := by
  have h1 : far1 rs fr to ov v = 404 := by unfold far1; rw [if_neg (by simp [h]), if_pos hf]
  unfold farI; rw [h1]; rfl
theorem farI_403 {rs : List Rs} {fr to : List ByteArray} {ov : Bool} {v : Int} {mv : Bool} (h : askI rs v (pathB fr && pathB to) = 0) (hf : thereB rs fr = true) (ha : apartB fr to = false) : farI rs fr to ov v mv = 403 := by
  have h1 : far1 rs fr to ov v = 403 := by unfold far1; rw [if_neg (by simp [h]), if_neg (by simp [hf]), if_pos ha]
  unfold farI; rw [h1]; rfl
theorem farI_412 {rs : List Rs} {fr to : List ByteArray} {v : Int} {mv : Bool} (h : askI rs v (pathB fr && pathB to) = 0) (hf : thereB rs fr = true) (ha : apartB fr to = true) (ht : thereB rs to = true) : farI rs fr to false v mv = 412 := by
  have h1 : far1 rs fr to false v = 412 := by unfold far1; rw [if_neg (by simp [h]), if_neg (by simp [hf]), if_neg (by simp [ha]), if_pos (by simp [ht])]
  unfold farI; rw [h1]; rfl
theorem far1_zero {rs : List Rs} {fr to : List ByteArray} {ov : Bool} {v : Int} (h : askI rs v (pathB fr && pathB to) = 0) (hf : thereB rs fr = true) (ha : apartB fr to = true) (ht : (thereB rs to && !ov) = false) : far1 rs fr to ov v = 0 := by
  unfold far1; rw [if_neg (by simp [h]), if_neg (by simp [hf]), if_neg (by simp [ha]), if_neg (by simp [ht])]
theorem farI_409a {rs : List Rs} {fr to : List ByteArray} {ov : Bool} {v : Int} {mv : Bool} (h : far1 rs fr to ov v = 0) (hc : collB rs (aboveL to) = false) : farI rs fr to ov v mv = 409 := by
  unfold farI; rw [if_neg (by simp [h]), if_pos hc]
theorem farI_409b {rs : List Rs} {fr to : List ByteArray} {ov : Bool} {v : Int} {mv : Bool} (h : far1 rs fr to ov v = 0) (hc : collB rs (aboveL to) = true) (hl : (deepL rs fr).any (longB fr to) = true) : farI rs fr to ov v mv = 409 := by
  unfold farI; rw [if_neg (by simp [h]), if_neg (by simp [hc]), if_pos (show tooLong rs fr to = true from hl)]
theorem farI_507 {rs : List Rs} {fr to : List ByteArray} {ov : Bool} {v : Int} {mv : Bool} (h : far1 rs fr to ov v = 0) (hc : collB rs (aboveL to) = true) (hl : (deepL rs fr).any (longB fr to) = false) (h12 : 12 < (restL rs fr to mv).length + (deepL rs fr).length) : farI rs fr to ov v mv = 507 := by
  unfold farI; rw [if_neg (by simp [h]), if_neg (by simp [hc]), if_neg (show ¬ tooLong rs fr to = true by unfold tooLong; have := hl; unfold longB at this; rw [this]; simp), if_pos h12]
theorem farI_0 {rs : List Rs} {fr to : List ByteArray} {ov : Bool} {v : Int} {mv : Bool} (h : far1 rs fr to ov v = 0) (hc : collB rs (aboveL to) = true) (hl : (deepL rs fr).any (longB fr to) = false) (h12 : ¬ 12 < (restL rs fr to mv).length + (deepL rs fr).length) : farI rs fr to ov v mv = 0 := by
  unfold farI; rw [if_neg (by simp [h]), if_neg (by simp [hc]), if_neg (show ¬ tooLong rs fr to = true by unfold tooLong; have := hl; unfold longB at this; rw [this]; simp), if_neg h12]
theorem there_of {rs : List Rs} {p : List ByteArray} (h : ¬ findI rs p < 0) : thereB rs p = true := there_iff.2 (.inr (by omega))
theorem there_not {rs : List Rs} {p : List ByteArray} (h0 : ¬ p.length = 0) (h : findI rs p < 0) : thereB rs p = false := by
  unfold thereB
  rw [decide_eq_false h0, decide_eq_false (by omega)]; rfl
end Go.Proofs.YtepdfppbnepamabGreat
