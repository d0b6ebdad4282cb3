/-
  What impl.without does.
-/
import Derived.Test.YtclnpfpaabmkcaaGreatGaveIs
import Derived.Test.YtclnpfpaabmkcaaGreatSpecCopyAll
import Derived.Test.YtclnpfpaabmkcaaGreatSameTexts
namespace Go.Proofs.YtclnpfpaabmkcaaGreat
open Go.RowKit M
set_option linter.unusedVariables false
set_option linter.unusedSimpArgs false

set_option maxRecDepth 100000 in
set_option maxHeartbeats 4000000 in
theorem without_grow (a : Option Addr) (rs : List Rs) (cap B : Nat) (b : Option Addr) (p : List ByteArray) (cap' C : Nat) (w : World) (h : Rss w B a rs) (h' : Strs w C b p) (hB : B ≤ w.heap.size) (hC : C ≤ w.heap.size) (hl : rs.length ≤ 1048576) (hl' : p.length ≤ 1048576) (hs : ∀ r ∈ rs, r.pa.length ≤ 1048576 ∧ r.ps.length ≤ 1048576 ∧ (∀ s ∈ r.pa, s.size ≤ 281474976710656) ∧ r.bo.size ≤ 281474976710656 ∧ ∀ p ∈ r.ps, p.1.size ≤ 281474976710656 ∧ p.2.1.size ≤ 281474976710656 ∧ p.2.2.size ≤ 281474976710656) :
    Calls Tryz.prog 64 #[.slice a rs.length cap, .slice b p.length cap'] w fun e w' => (∃ (v : Value) (ts : List RsT), e = .returned v ∧ GrowR w' w.heap.size v ts w'.heap.size ∧ ts.map (·.r) = withoutL rs p ∧ (∀ j (hj : j < ts.length), ts[j].pc = ts[j].r.pa.length ∧ ts[j].qc = ts[j].r.ps.length)) ∧ Below w.heap.size w w' := by
  have HS := hide hs
  have hpm : p.length ≤ maxLen := by unfold maxLen; omega
  clear hs
  go_enter Tryz.func64, Tryz.ntmps64
  go_wp2
  go_loopw [5, 11] (fun v i wr => ∃ (k lo : Nat) (ts : List RsT), k ≤ rs.length ∧ i = .int .i64 k ∧ GrowR wr w.heap.size v ts lo ∧ w.heap.size ≤ lo ∧ ts.map (·.r) = (rs.take k).filter (fun r => !deepB p r) ∧ (∀ j (hj : j < ts.length), ts[j].pc = ts[j].r.pa.length ∧ ts[j].qc = ts[j].r.ps.length) ∧ Below w.heap.size w wr) (fun _ i _ => rs.length - (intOf i).toNat)
  case atStart => exact ⟨0, w.heap.size + 1, [], Nat.zero_le _, rfl, GrowR.made w w.heap.size (Nat.le_refl _), by omega, rfl, fun j hj => absurd hj (Nat.not_lt_zero _), (Below.refl _ _).alloc (Nat.le_refl _) _⟩
  case round =>
    obtain ⟨k, lo, ts, hk, rfl, hG, hlo, hts, hcc, hbe⟩ := hrel
    have HG := hide hG
    have HTS := hide hts
    have HCC := hide hcc
    clear hG hts hcc
    by_cases hlt : k < rs.length
    · obtain ⟨b1, o1, rfl, hb1, hcc⟩ := (h.below hbe hB) (by omega)
      obtain ⟨pa, pc, qa, qc, ⟨hc0, hc1, hc2, hc3, hc4⟩, hin⟩ := hcc k hlt
      clear hcc
      have hsk := HS.out _ (List.getElem_mem hlt)
      have HBA := hide ((Below.refl wr.heap.size wr).alloc (Nat.le_refl _) (Obj.cells #[.slice pa (rs[k]).pa.length pc, .bool (rs[k]).co, .string (rs[k]).bo, .int .i64 (rs[k]).ve, .slice qa (rs[k]).ps.length qc] 35))
      have hin2 := hin.below HBA.out (Nat.le_trans hB hbe.size)
      have hp2 := (h'.below hbe hC).below HBA.out (Nat.le_trans hC hbe.size)
      have hkm : (rs[k]).pa.length ≤ maxLen := Nat.le_trans hin2.pl hin2.pm
      have HQ1 := hide (isDeep_any pa b rs[k].pa p pc cap' B C _ hin2.ph hp2 hkm hpm hin2.pl hin2.pm)
      have HI := hide hin2
      have HSK := hide hsk
      have HD := hide (show deepB p rs[k] = deepP rs[k].pa p from rfl)
      generalize deepP rs[k].pa p = z1 at *
      clear hin hin2 hsk hp2 hkm
      -- the one that is not taken
      have no : z1 = true → Hid ((rs.take (k + 1)).filter (fun r => !deepB p r) = (rs.take k).filter (fun r => !deepB p r)) := fun e1 => filter_no (q := (fun r => !deepB p r)) hlt (by simp only [HD.out, e1, Bool.not_true, Bool.not_false])
      have yes : z1 = false → Hid ((rs.take (k + 1)).filter (fun r => !deepB p r) = (rs.take k).filter (fun r => !deepB p r) ++ [rs[k]]) := fun e1 => filter_yes (q := (fun r => !deepB p r)) hlt (by simp only [HD.out, e1, Bool.not_true, Bool.not_false])
      have NO := hide no
      have YES := hide yes
      have HL := hide (show ts.length ≤ rs.length by
        have e1 : ts.length = ((rs.take k).filter (fun r => !deepB p r)).length := by have := congrArg List.length HTS.out; simpa using this
        rw [e1]; exact filter_len rs k)
      clear no yes HD
      by_cases ez : z1 = true
      · subst ez
        have HF := NO.out rfl
        clear NO YES HSK
        go_wp2_with fail
        refine HQ1.out.mono ?_
        rintro e w1 ⟨rfl, hb3⟩
        have b4 := HBA.out.trans (hb3 _)
        have c1 := hbe.trans (b4.mono hbe.size)
        have HG2 := hide (HG.out.next b4)
        clear hb3 b4 HQ1
        go_wp2
        go_roundw
        case rel => exact ⟨k + 1, lo, ts, by omega, by go_num, HG2.out, hlo, by rw [HF.out]; exact HTS.out, HCC.out, c1⟩
        case measure => simp [intOf]; omega
      · obtain rfl : z1 = false := by cases z1 <;> simp at ez ⊢
        clear ez
        have HF := YES.out rfl
        clear NO YES
        go_wp2_with fail
        refine HQ1.out.mono ?_
        rintro e w2 ⟨rfl, hall⟩
        have b4 := HBA.out.trans (hall _)
        have HI2 := hide (HI.out.below (hall B) (Nat.le_refl _))
        clear HQ1
        have hc5 : ∀ o v, (wr.alloc (Obj.cells #[.slice pa (rs[k]).pa.length pc, .bool (rs[k]).co, .string (rs[k]).bo, .int .i64 (rs[k]).ve, .slice qa (rs[k]).ps.length qc] 35)).cell? ⟨wr.heap.size, o, none⟩ = some v → w2.cell? ⟨wr.heap.size, o, none⟩ = some v := fun o v hv => ((hall (wr.heap.size + 1)).cell (p := ⟨wr.heap.size, o, none⟩) (Nat.lt_succ_self _)).trans hv
        have d0 := hc5 0 (.slice pa (rs[k]).pa.length pc) (by simp)
        have d1 := hc5 1 (.bool (rs[k]).co) (by simp)
        have d2 := hc5 2 (.string (rs[k]).bo) (by simp)
        have d3 := hc5 3 (.int .i64 (rs[k]).ve) (by simp)
        have d4 := hc5 4 (.slice qa (rs[k]).ps.length qc) (by simp)
        have c1 := hbe.trans (b4.mono hbe.size)
        have HG2 := hide (HG.out.next b4)
        have hlo2 : lo ≤ w2.heap.size := Nat.le_trans HG.out.top b4.size
        have HCp := hide (copyRes_any rs[k] pa pc qa qc B w2 HI2.out (Nat.le_trans hB c1.size) HSK.out.1 HSK.out.2.1 HSK.out.2.2.1 HSK.out.2.2.2.1 HSK.out.2.2.2.2)
        have hlen := HL.out
        have hk1 := HSK.out.1
        have hk2 := HSK.out.2.1
        clear hc5 hall b4 HI2
        go_wp2_with fail
        refine HCp.out.mono ?_
        rintro e w3 ⟨⟨pp, qq, rfl, hpp, hpq, r3, q3⟩, b5⟩
        have c3 := c1.trans (b5.mono c1.size)
        have bA := (Below.refl w3.heap.size w3).alloc (Nat.le_refl _) (Obj.cells #[.slice (some ⟨pp, 0, none⟩) (rs[k]).pa.length (rs[k]).pa.length, .bool (rs[k]).co, .string (rs[k]).bo, .int .i64 (rs[k]).ve, .slice (some ⟨qq, 0, none⟩) (rs[k]).ps.length (rs[k]).ps.length] 35)
        have HG4 := hide ((HG2.out.next b5).next bA)
        have HR := hide (r3.below bA)
        have HQ := hide (q3.below bA)
        have HC4 := hide (c3.trans (bA.mono c3.size))
        clear r3 q3 b5 bA c1 c3 d0 d1 d2 d3 d4 HCp
        go_wp2_with (at_builtin; refine wp_append_res rfl _ _ rfl w.heap.size lo _ ts rfl HG4.out w3.heap.size ⟨rs[k], pp, (rs[k]).pa.length, qq, (rs[k]).ps.length⟩ rfl ?_ ?_ hlo (Nat.le_trans hlo2 hpp) hpq HR.out HQ.out.full ?_ ?_)
        · exact ⟨by simp, by simp, by simp, by simp, by simp⟩
        · omega
        · exact ⟨by unfold maxLen; omega, by unfold maxLen; omega⟩
        · intro v' w' hG' hB'
          have HG' := hide hG'
          have HC' := hide (HC4.out.trans hB')
          clear hG' hB'
          go_wp2
          go_roundw
          case rel => exact ⟨k + 1, _, _, by omega, by go_num, HG'.out, HC'.out.size, by rw [HF.out, List.map_append, HTS.out]; rfl, caps_snoc HCC.out, HC'.out⟩
          case measure => simp [intOf]; omega
    · have HF := hide (filter_end (q := (fun r => !deepB p r)) hlt)
      have HM := hide (show ts.map (·.r) = withoutL rs p by rw [HTS.out, HF.out]; rfl)
      have HG3 := hide (HG.out.up HG.out.top (Nat.le_refl _))
      clear HTS HF
      go_wp2
      go_ret
      exact ⟨⟨_, ts, rfl, HG3.out, HM.out, HCC.out⟩, hbe⟩
end Go.Proofs.YtclnpfpaabmkcaaGreat
