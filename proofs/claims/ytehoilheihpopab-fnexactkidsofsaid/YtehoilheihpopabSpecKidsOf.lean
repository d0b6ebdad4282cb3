/-
  What spec.KidsOf does.
-/
import Derived.Test.YtehoilheihpopabMathKids
import Derived.Test.YtehoilheihpopabUnderS
import Derived.Test.YtehoilheihpopabRowsSS
namespace Go.Proofs.Ytehoilheihpopab
open Go.RowKit M
set_option linter.unusedVariables false

set_option maxRecDepth 100000 in
set_option maxHeartbeats 4000000 in
theorem specKidsOf_any (a : Option Addr) (rs : List Rs) (cap B : Nat) (b : Option Addr) (p : List ByteArray) (cap' C : Nat) (w : World) (h : Rss w B a rs) (h' : Strs w C b p) (hB : B ≤ w.heap.size) (hC : C ≤ w.heap.size) (hl : rs.length ≤ 1048576) (hl' : p.length ≤ 1048576) (hs : ∀ r ∈ rs, r.pa.length ≤ 1048576) :
    Calls Try.prog 19 #[.slice a rs.length cap, .slice b p.length cap'] w fun e w' => (∃ g cap2 pb, e = .returned (.slice (some ⟨g, 0, none⟩) (kidsL rs p).length cap2) ∧ OwnSS w' w.heap.size w'.heap.size g (kidsL rs p) pb) ∧ Below w.heap.size w w' := by
  have HS := hide hs
  clear hs
  go_enter Try.func19, Try.ntmps19
  go_wp2
  go_loopw [5, 6] (fun v i wr => ∃ (k lo : Nat) (ts : List SsT), k ≤ rs.length ∧ i = .int .i64 k ∧ GrowS wr w.heap.size v ts lo ∧ w.heap.size ≤ lo ∧ ts.map (·.l) = ((rs.take k).filter (kidB p)).map (·.pa) ∧ Below w.heap.size w wr) (fun _ i _ => rs.length - (intOf i).toNat)
  case atStart => exact ⟨0, w.heap.size + 1, [], Nat.zero_le _, rfl, GrowS.made w w.heap.size (Nat.le_refl _), by omega, rfl, (Below.refl _ _).alloc (Nat.le_refl _) _⟩
  case round =>
    obtain ⟨k, lo, ts, hk, rfl, hG, hlo, hts, hbe⟩ := hrel
    have HG := hide hG
    have HTS := hide hts
    clear hG hts
    by_cases hlt : k < rs.length
    · obtain ⟨b1, o1, rfl, hb1, hcc⟩ := (h.below hbe hB) (by omega)
      obtain ⟨pa, pc, qa, qc, ⟨hc0, hc1, hc2, hc3, hc4⟩, hin⟩ := hcc k hlt
      clear hcc
      have hlk := HS.out _ (List.getElem_mem hlt)
      have HP := hide hin.ph
      have HPN := hide hin.pn
      by_cases e : rs[k].pa.length = p.length + 1
      · have hq : (((rs[k]).pa.length : Int) == (p.length : Int) + 1) = true := by rw [beq_iff_eq]; omega
        have HQ := hide (specUnder_any pa b rs[k].pa p pc cap' B C wr hin.ph (h'.below hbe hC) (by unfold maxLen; omega) (by unfold maxLen; omega) hin.pl hin.pm)
        have HK := hide (show kidB p rs[k] = underB rs[k].pa p by unfold kidB; simp [e])
        have HEQ := hide e
        clear e
        obtain ⟨z, hz⟩ : ∃ z, underB rs[k].pa p = z := ⟨_, rfl⟩
        rw [hz] at HQ HK
        clear hz hin
        cases z
        · have HF := hide (filter_no (q := kidB p) hlt HK.out)
          go_wp2_with fail
          refine HQ.out.mono ?_
          rintro e w1 ⟨rfl, hb3⟩
          have c1 := hbe.trans (hb3 _)
          have HG2 := hide (HG.out.next (hb3 _))
          clear hb3
          go_wp2
          go_roundw
          case rel => exact ⟨k + 1, lo, ts, by omega, by go_num, HG2.out, hlo, by rw [HF.out]; exact HTS.out, c1⟩
          case measure => simp [intOf]; omega
        · have HF := hide (filter_yes (q := kidB p) hlt HK.out)
          have HL := hide (show ts.length ≤ rs.length by
            have e1 : ts.length = ((rs.take k).filter (kidB p)).length := by have := congrArg List.length HTS.out; simpa using this
            rw [e1]; exact filter_len rs k)
          go_wp2_with fail
          refine HQ.out.mono ?_
          rintro e w1 ⟨rfl, hb3⟩
          have c1 := hbe.trans (hb3 _)
          have hd0 : w1.cell? ⟨b1, o1 + k * 5, none⟩ = some (.slice pa (rs[k]).pa.length pc) := ((hb3 (b1 + 1)).cell (p := ⟨b1, o1 + k * 5, none⟩) (Nat.lt_succ_self _)).trans hc0
          have hz1 := (hb3 wr.heap.size).size
          have bA := (Below.refl w1.heap.size w1).alloc (Nat.le_refl _) (Obj.cells #[] 9)
          have HG2 := hide (HG.out.next (hb3 _))
          have HBA := hide bA
          have HC1 := hide c1
          have HP2 := hide ((HP.out.below (hb3 B) (Nat.le_refl _)).below bA (Nat.le_trans hB c1.size))
          have HCA := hide (c1.trans (bA.mono c1.size))
          have hlen := HL.out
          have hlo2 : lo ≤ w1.heap.size := Nat.le_trans HG.out.top hz1
          have hbw : b1 < w1.heap.size := by have := c1.size; omega
          clear bA hb3 HQ
          go_wp2_with (at_builtin; refine wp_append_strs rfl _ _ rfl w1.heap.size _ (rs[k]).pa (rs[k]).pa.length rfl rfl (World.ownsRow_made w1 #[] 0 (Nat.le_refl _) (by decide) rfl) B pa pc rfl HP2.out HPN.out ?_ ?_ ?_)
          · omega
          · simp
          intro g cap3 w2 r2 hg2 _ _ b2
          have b12 := HBA.out.trans b2
          have HG3 := hide (HG2.out.next b12)
          have c2 := HC1.out.trans (b12.mono HC1.out.size)
          have bC := (Below.refl w2.heap.size w2).alloc (Nat.le_refl _) (Obj.cells #[Value.slice (some ⟨g, 0, none⟩) (rs[k]).pa.length cap3] 23)
          have HG4 := hide (HG3.out.next bC)
          have HR := hide (r2.below bC)
          have HC4 := hide (c2.trans (bC.mono c2.size))
          have hlo3 : lo ≤ g := Nat.le_trans hlo2 hg2
          clear r2 b2 bC b12 c2 c1 HBA HC1 HCA
          go_wp2_with (at_builtin; refine wp_append_ss rfl _ _ rfl w.heap.size lo _ ts rfl HG4.out w2.heap.size ⟨(rs[k]).pa, g, cap3⟩ rfl ?_ ?_ hlo hlo3 HR.out ?_)
          · omega
          · intro v' w' hG' hB'
            have HG' := hide hG'
            have HC' := hide (HC4.out.trans hB')
            clear hG' hB'
            go_wp2
            go_roundw
            case rel => exact ⟨k + 1, _, _, by omega, by go_num, HG'.out, HC'.out.size, by rw [HF.out, List.map_append, List.map_append, HTS.out]; rfl, HC'.out⟩
            case measure => simp [intOf]; omega
      · have hq : (((rs[k]).pa.length : Int) == (p.length : Int) + 1) = false := by rw [beq_eq_false_iff_ne]; omega
        have HF := hide (filter_no (q := kidB p) hlt (show kidB p rs[k] = false by unfold kidB; simp [e]))
        clear e hin
        go_wp2
        go_roundw
        case rel => exact ⟨k + 1, lo, ts, by omega, by go_num, HG.out, hlo, by rw [HF.out]; exact HTS.out, hbe⟩
        case measure => simp [intOf]; omega
    · have HF := hide (filter_end (q := kidB p) hlt)
      obtain ⟨g, cap2, e, hO⟩ := HG.out.done
      have hm : ts.map (·.l) = kidsL rs p := by rw [HTS.out, HF.out]; rfl
      have hll : ts.length = (kidsL rs p).length := by rw [← hm]; simp
      rw [hm] at hO
      rw [hll] at e
      subst e
      clear hm hll
      go_wp2
      go_ret
      exact ⟨⟨g, cap2, _, rfl, hO⟩, hbe⟩
end Go.Proofs.Ytehoilheihpopab
