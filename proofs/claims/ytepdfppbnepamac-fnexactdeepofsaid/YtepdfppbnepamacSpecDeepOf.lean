/-
  What spec.DeepOf does.
-/
import Derived.Test.YtepdfppbnepamacSamePathI
import Derived.Test.YtepdfppbnepamacUnderS
import Derived.Test.YtepdfppbnepamacSpecCopy
import Derived.Test.YtepdfppbnepamacMathNum
namespace Go.Proofs.Ytepdfppbnepamac
open Go.RowKit M
set_option linter.unusedVariables false

set_option maxRecDepth 100000 in
set_option maxHeartbeats 4000000 in
theorem specDeepOf_any (a : Option Addr) (rs : List Rs) (cap B : Nat) (b : Option Addr) (p : List ByteArray) (cap' C : Nat) (w : World) (h : Rss w B a rs) (h' : Strs w C b p) (hB : B ≤ w.heap.size) (hC : C ≤ w.heap.size) (hl : rs.length ≤ 1048576) (hl' : p.length ≤ 1048576) (hs : ∀ r ∈ rs, r.pa.length ≤ 1048576 ∧ r.ps.length ≤ 1048576) :
    Calls Try.prog 6 #[.slice a rs.length cap, .slice b p.length cap'] w fun e w' => (∃ g cap2 _n : Nat, e = .returned (.slice (some ⟨g, 0, none⟩) (deepL rs p).length cap2) ∧ Rss w' w'.heap.size (some ⟨g, 0, none⟩) (deepL rs p)) ∧ Below w.heap.size w w' := by
  have HS := hide hs
  have hpm : p.length ≤ maxLen := by unfold maxLen; omega
  clear hs
  go_enter Try.func6, Try.ntmps6
  go_wp2
  go_loopw [5, 6] (fun v i wr => ∃ (k lo : Nat) (ts : List RsT), k ≤ rs.length ∧ i = .int .i64 k ∧ GrowR wr w.heap.size v ts lo ∧ w.heap.size ≤ lo ∧ ts.map (·.r) = (rs.take k).filter (deepB p) ∧ Below w.heap.size w wr) (fun _ i _ => rs.length - (intOf i).toNat)
  case atStart => exact ⟨0, w.heap.size + 1, [], Nat.zero_le _, rfl, GrowR.made w w.heap.size (Nat.le_refl _), by omega, rfl, (Below.refl _ _).alloc (Nat.le_refl _) _⟩
  case round =>
    obtain ⟨k, lo, ts, hk, rfl, hG, hlo, hts, hbe⟩ := hrel
    have HG := hide hG
    have HTS := hide hts
    clear hG hts
    by_cases hlt : k < rs.length
    · obtain ⟨b1, o1, rfl, hb1, hcc⟩ := (h.below hbe hB) (by omega)
      obtain ⟨pa, pc, qa, qc, ⟨hc0, hc1, hc2, hc3, hc4⟩, hin⟩ := hcc k hlt
      clear hcc
      have hsk := HS.out _ (List.getElem_mem hlt)
      have hp2 := h'.below hbe hC
      have hkm : (rs[k]).pa.length ≤ maxLen := Nat.le_trans hin.pl hin.pm
      have HQ1 := hide (specSamePath_any pa b rs[k].pa p pc cap' B C _ hin.ph hp2 hkm hpm)
      have HQ2 := hide (fun W (x : Strs W B pa rs[k].pa) (y : Strs W C b p) => specUnder_any pa b rs[k].pa p pc cap' B C W x y hkm hpm hin.pl hin.pm)
      have HI := hide hin
      have HP := hide hp2
      have HSK := hide hsk
      have HD := hide (show deepB p rs[k] = (sameL rs[k].pa p || underB rs[k].pa p) from rfl)
      generalize sameL rs[k].pa p = z1 at *
      generalize underB rs[k].pa p = z2 at *
      clear hin hsk hp2 hkm
      have no : z1 = false → z2 = false → Hid ((rs.take (k + 1)).filter (deepB p) = (rs.take k).filter (deepB p)) := fun e1 e2 => filter_no (q := deepB p) hlt (by rw [HD.out, e1, e2]; rfl)
      have yes : (z1 || z2) = true → Hid ((rs.take (k + 1)).filter (deepB p) = (rs.take k).filter (deepB p) ++ [rs[k]]) := fun e1 => filter_yes (q := deepB p) hlt (by rw [HD.out, e1])
      have NO := hide no
      have YES := hide yes
      have HL := hide (show ts.length ≤ rs.length by
        have e1 : ts.length = ((rs.take k).filter (deepB p)).length := by have := congrArg List.length HTS.out; simpa using this
        rw [e1]; exact filter_len rs k)
      have hbw : b1 < wr.heap.size := by have := hbe.size; omega
      clear no yes HD
      cases z1
      · cases z2
        · have HF := NO.out rfl rfl
          clear NO YES HSK
          go_wp2_with fail
          refine HQ1.out.mono ?_
          rintro e w1 ⟨rfl, hb3⟩
          have hcl := ((hb3 (b1 + 1)).cell (p := ⟨b1, o1 + k * 5, none⟩) (Nat.lt_succ_self _)).trans hc0
          have X1 := hide (HQ2.out w1 (HI.out.ph.below (hb3 B) (Nat.le_refl _)) (HP.out.below (hb3 C) (Nat.le_refl _)))
          have b3 := hb3 wr.heap.size
          clear hb3 HQ1 HQ2
          go_wp2_with fail
          refine X1.out.mono ?_
          rintro e w2 ⟨rfl, hb4⟩
          have b4 := b3.trans (hb4 _)
          have c1 := hbe.trans (b4.mono hbe.size)
          have HG2 := hide (HG.out.next b4)
          clear b3 hb4 b4 hcl X1
          go_wp2
          go_roundw
          case rel => exact ⟨k + 1, lo, ts, by omega, by go_num, HG2.out, hlo, by rw [HF.out]; exact HTS.out, c1⟩
          case measure => simp [intOf]; omega
        · have HF := YES.out rfl
          clear NO YES
          go_wp2_with fail
          refine HQ1.out.mono ?_
          rintro e w1 ⟨rfl, hb3⟩
          have hcl := ((hb3 (b1 + 1)).cell (p := ⟨b1, o1 + k * 5, none⟩) (Nat.lt_succ_self _)).trans hc0
          have X1 := hide (HQ2.out w1 (HI.out.ph.below (hb3 B) (Nat.le_refl _)) (HP.out.below (hb3 C) (Nat.le_refl _)))
          have HI1 := hide (HI.out.below (hb3 B) (Nat.le_refl _))
          have HC1 := hide (show ∀ D, Below D wr w1 from hb3)
          clear hb3 HQ1 HQ2
          go_wp2_with fail
          refine X1.out.mono ?_
          rintro e w2 ⟨rfl, hb4⟩
          have HI2 := hide (HI1.out.below (hb4 B) (Nat.le_refl _))
          have hall : ∀ D, Below D wr w2 := fun D => (HC1.out D).trans (hb4 D)
          have b4 := hall wr.heap.size
          clear hb4 hcl X1 HI1 HC1
          have hc5 : ∀ o v, wr.cell? ⟨b1, o, none⟩ = some v → w2.cell? ⟨b1, o, none⟩ = some v := fun o v hv => ((hall (b1 + 1)).cell (p := ⟨b1, o, none⟩) (Nat.lt_succ_self _)).trans hv
          have d0 := hc5 _ _ hc0
          have d1 := hc5 _ _ hc1
          have d2 := hc5 _ _ hc2
          have d3 := hc5 _ _ hc3
          have d4 := hc5 _ _ hc4
          have c1 := hbe.trans (b4.mono hbe.size)
          have HG2 := hide (HG.out.next b4)
          have hlo2 : lo ≤ w2.heap.size := Nat.le_trans HG.out.top b4.size
          have HCp := hide (specCopy_any rs[k] pa pc qa qc B w2 HI2.out (Nat.le_trans hB c1.size) HSK.out.1 HSK.out.2)
          have hlen := HL.out
          clear hc5 hall b4 HI2
          go_wp2_with fail
          refine HCp.out.mono ?_
          rintro e w3 ⟨⟨pp, cc, qq, dd, rfl, hpp, hpq, r3, q3, k1, k2, k3, k4⟩, b5⟩
          have c3 := c1.trans (b5.mono c1.size)
          have bA := (Below.refl w3.heap.size w3).alloc (Nat.le_refl _) (Obj.cells #[.slice (some ⟨pp, 0, none⟩) (rs[k]).pa.length cc, .bool (rs[k]).co, .string (rs[k]).bo, .int .i64 (rs[k]).ve, .slice (some ⟨qq, 0, none⟩) (rs[k]).ps.length dd] 40)
          have HG4 := hide ((HG2.out.next b5).next bA)
          have HR := hide (r3.below bA)
          have HQ := hide (q3.below bA)
          have HC4 := hide (c3.trans (bA.mono c3.size))
          have HKK := hide (And.intro k1 (And.intro k2 (And.intro k3 k4)))
          clear r3 q3 b5 bA c1 c3 d0 d1 d2 d3 d4 HCp k1 k2 k3 k4
          go_wp2_with (at_builtin; refine wp_append_res rfl _ _ rfl w.heap.size lo _ ts rfl HG4.out w3.heap.size ⟨rs[k], pp, cc, qq, dd⟩ rfl ?_ ?_ hlo (Nat.le_trans hlo2 hpp) hpq HR.out HQ.out HKK.out ?_)
          · exact ⟨by simp, by simp, by simp, by simp, by simp⟩
          · omega
          · intro v' w' hG' hB'
            have HG' := hide hG'
            have HC' := hide (HC4.out.trans hB')
            clear hG' hB'
            go_wp2
            go_roundw
            case rel => exact ⟨k + 1, _, _, by omega, by go_num, HG'.out, HC'.out.size, by rw [HF.out, List.map_append, HTS.out]; rfl, HC'.out⟩
            case measure => simp [intOf]; omega
      · have HF := YES.out rfl
        clear NO YES
        go_wp2_with fail
        refine HQ1.out.mono ?_
        rintro e w2 ⟨rfl, hall⟩
        have b4 := hall wr.heap.size
        have HI2 := hide (HI.out.below (hall B) (Nat.le_refl _))
        clear HQ1 HQ2
        have hc5 : ∀ o v, wr.cell? ⟨b1, o, none⟩ = some v → w2.cell? ⟨b1, o, none⟩ = some v := fun o v hv => ((hall (b1 + 1)).cell (p := ⟨b1, o, none⟩) (Nat.lt_succ_self _)).trans hv
        have d0 := hc5 _ _ hc0
        have d1 := hc5 _ _ hc1
        have d2 := hc5 _ _ hc2
        have d3 := hc5 _ _ hc3
        have d4 := hc5 _ _ hc4
        have c1 := hbe.trans (b4.mono hbe.size)
        have HG2 := hide (HG.out.next b4)
        have hlo2 : lo ≤ w2.heap.size := Nat.le_trans HG.out.top b4.size
        have HCp := hide (specCopy_any rs[k] pa pc qa qc B w2 HI2.out (Nat.le_trans hB c1.size) HSK.out.1 HSK.out.2)
        have hlen := HL.out
        clear hc5 hall b4 HI2
        go_wp2_with fail
        refine HCp.out.mono ?_
        rintro e w3 ⟨⟨pp, cc, qq, dd, rfl, hpp, hpq, r3, q3, k1, k2, k3, k4⟩, b5⟩
        have c3 := c1.trans (b5.mono c1.size)
        have bA := (Below.refl w3.heap.size w3).alloc (Nat.le_refl _) (Obj.cells #[.slice (some ⟨pp, 0, none⟩) (rs[k]).pa.length cc, .bool (rs[k]).co, .string (rs[k]).bo, .int .i64 (rs[k]).ve, .slice (some ⟨qq, 0, none⟩) (rs[k]).ps.length dd] 40)
        have HG4 := hide ((HG2.out.next b5).next bA)
        have HR := hide (r3.below bA)
        have HQ := hide (q3.below bA)
        have HC4 := hide (c3.trans (bA.mono c3.size))
        have HKK := hide (And.intro k1 (And.intro k2 (And.intro k3 k4)))
        clear r3 q3 b5 bA c1 c3 d0 d1 d2 d3 d4 HCp k1 k2 k3 k4
        go_wp2_with (at_builtin; refine wp_append_res rfl _ _ rfl w.heap.size lo _ ts rfl HG4.out w3.heap.size ⟨rs[k], pp, cc, qq, dd⟩ rfl ?_ ?_ hlo (Nat.le_trans hlo2 hpp) hpq HR.out HQ.out HKK.out ?_)
        · exact ⟨by simp, by simp, by simp, by simp, by simp⟩
        · omega
        · intro v' w' hG' hB'
          have HG' := hide hG'
          have HC' := hide (HC4.out.trans hB')
          clear hG' hB'
          go_wp2
          go_roundw
          case rel => exact ⟨k + 1, _, _, by omega, by go_num, HG'.out, HC'.out.size, by rw [HF.out, List.map_append, HTS.out]; rfl, HC'.out⟩
          case measure => simp [intOf]; omega
    · have HF := hide (filter_end (q := deepB p) hlt)
      obtain ⟨g, cap2, e, hO⟩ := HG.out.rss (Nat.le_refl _)
      have hm : ts.map (·.r) = deepL rs p := by rw [HTS.out, HF.out]; rfl
      have hll : ts.length = (deepL rs p).length := by rw [← hm]; simp
      rw [hm] at hO
      rw [hll] at e
      subst e
      clear hm hll
      go_wp2
      go_ret
      exact ⟨⟨g, cap2, 0, rfl, hO⟩, hbe⟩
end Go.Proofs.Ytepdfppbnepamac
