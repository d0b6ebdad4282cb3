/-
  What impl.DeepOf does.
-/
import Derived.Test.YtehoilheihpopabMathKids
import Derived.Test.YtehoilheihpopabUnderI
import Derived.Test.YtehoilheihpopabSamePathI
import Derived.Test.YtehoilheihpopabCopyRes
import Derived.Test.YtehoilheihpopabRowsR
namespace Go.Proofs.Ytehoilheihpopab
open Go.RowKit M
set_option linter.unusedVariables false

theorem caps_snoc {ts : List RsT} {r : Rs} {p q : Nat} (h : ∀ j (hj : j < ts.length), ts[j].pc = ts[j].r.pa.length ∧ ts[j].qc = ts[j].r.ps.length) : ∀ j (hj : j < (ts ++ [(⟨r, p, r.pa.length, q, r.ps.length⟩ : RsT)]).length), (ts ++ [(⟨r, p, r.pa.length, q, r.ps.length⟩ : RsT)])[j].pc = (ts ++ [(⟨r, p, r.pa.length, q, r.ps.length⟩ : RsT)])[j].r.pa.length ∧ (ts ++ [(⟨r, p, r.pa.length, q, r.ps.length⟩ : RsT)])[j].qc = (ts ++ [(⟨r, p, r.pa.length, q, r.ps.length⟩ : RsT)])[j].r.ps.length := by
  intro j hj
  by_cases e : j < ts.length
  · rw [List.getElem_append_left e]; exact h j e
  · have ej : j = ts.length := by simp at hj; omega
    subst ej
    simp

set_option maxRecDepth 100000 in
set_option maxHeartbeats 4000000 in
theorem deepOf_any (a : Option Addr) (rs : List Rs) (cap B : Nat) (b : Option Addr) (p : List ByteArray) (cap' C : Nat) (w : World) (h : Rss w B a rs) (h' : Strs w C b p) (hB : B ≤ w.heap.size) (hC : C ≤ w.heap.size) (hl : rs.length ≤ 1048576) (hl' : p.length ≤ 1048576) (hs : ∀ r ∈ rs, r.pa.length ≤ 1048576 ∧ r.ps.length ≤ 1048576 ∧ (∀ s ∈ r.pa, s.size ≤ 281474976710656) ∧ r.bo.size ≤ 281474976710656 ∧ ∀ p ∈ r.ps, p.1.size ≤ 281474976710656 ∧ p.2.1.size ≤ 281474976710656 ∧ p.2.2.size ≤ 281474976710656) :
    Calls Try.prog 26 #[.slice a rs.length cap, .slice b p.length cap'] w fun e w' => (∃ g cap2 pb qb, e = .returned (.slice (some ⟨g, 0, none⟩) (deepL rs p).length cap2) ∧ OwnR w' w.heap.size w'.heap.size g (deepL rs p) pb qb) ∧ Below w.heap.size w w' := by
  have HS := hide hs
  have hpm : p.length ≤ maxLen := by unfold maxLen; omega
  clear hs
  go_enter Try.func26, Try.ntmps26
  go_wp2
  go_loopw [5, 11] (fun v i wr => ∃ (k lo : Nat) (ts : List RsT), k ≤ rs.length ∧ i = .int .i64 k ∧ GrowR wr w.heap.size v ts lo ∧ w.heap.size ≤ lo ∧ ts.map (·.r) = (rs.take k).filter (deepB p) ∧ (∀ j (hj : j < ts.length), ts[j].pc = ts[j].r.pa.length ∧ ts[j].qc = ts[j].r.ps.length) ∧ Below w.heap.size w wr) (fun _ i _ => rs.length - (intOf i).toNat)
  case atStart => exact ⟨0, w.heap.size + 1, [], Nat.zero_le _, rfl, GrowR.made w w.heap.size (Nat.le_refl _), by omega, rfl, fun j hj => absurd hj (Nat.not_lt_zero _), (Below.refl _ _).alloc (Nat.le_refl _) _⟩
  case round =>
    obtain ⟨k, lo, ts, hk, rfl, hG, hlo, hts, hcc, hbe⟩ := hrel
    have HG := hide hG
    have HTS := hide hts
    have HCC := hide hcc
    clear hG hts hcc
    by_cases hlt : k < rs.length
    · obtain ⟨b1, o1, rfl, hb1, hcc⟩ := (h.below hbe hB) (by omega)
      obtain ⟨pa, pc, qa, qc, ⟨hc0, hc1, hc2, hc3, hc4⟩, hin⟩ := hcc k hlt
      clear hcc
      have hsk := HS.out _ (List.getElem_mem hlt)
      have HBA := hide ((Below.refl wr.heap.size wr).alloc (Nat.le_refl _) (Obj.cells #[.slice pa (rs[k]).pa.length pc, .bool (rs[k]).co, .string (rs[k]).bo, .int .i64 (rs[k]).ve, .slice qa (rs[k]).ps.length qc] 47))
      have hin2 := hin.below HBA.out (Nat.le_trans hB hbe.size)
      have hp2 := (h'.below hbe hC).below HBA.out (Nat.le_trans hC hbe.size)
      have hkm : (rs[k]).pa.length ≤ maxLen := Nat.le_trans hin2.pl hin2.pm
      have HQ1 := hide (samePath_any pa b rs[k].pa p pc cap' B C _ hin2.ph hp2 hkm hpm)
      have HQ2 := hide (fun W (x : Strs W B pa rs[k].pa) (y : Strs W C b p) => under_any pa b rs[k].pa p pc cap' B C W x y hkm hpm hin2.pl hin2.pm)
      have HI := hide hin2
      have HP := hide hp2
      have HSK := hide hsk
      have HD := hide (show deepB p rs[k] = (sameL rs[k].pa p || underB rs[k].pa p) from rfl)
      generalize sameL rs[k].pa p = z1 at *
      generalize underB rs[k].pa p = z2 at *
      clear hin hin2 hsk hp2 hkm
      -- the one that is not taken
      have no : z1 = false → z2 = false → Hid ((rs.take (k + 1)).filter (deepB p) = (rs.take k).filter (deepB p)) := fun e1 e2 => filter_no (q := deepB p) hlt (by rw [HD.out, e1, e2]; rfl)
      have yes : (z1 || z2) = true → Hid ((rs.take (k + 1)).filter (deepB p) = (rs.take k).filter (deepB p) ++ [rs[k]]) := fun e1 => filter_yes (q := deepB p) hlt (by rw [HD.out, e1])
      have NO := hide no
      have YES := hide yes
      have HL := hide (show ts.length ≤ rs.length by
        have e1 : ts.length = ((rs.take k).filter (deepB p)).length := by have := congrArg List.length HTS.out; simpa using this
        rw [e1]; exact filter_len rs k)
      clear no yes HD
      cases z1
      · cases z2
        · have HF := NO.out rfl rfl
          clear NO YES HSK
          go_wp2_with fail
          refine HQ1.out.mono ?_
          rintro e w1 ⟨rfl, hb3⟩
          have hcl : w1.cell? ⟨wr.heap.size, 0, none⟩ = some (.slice pa (rs[k]).pa.length pc) := ((hb3 (wr.heap.size + 1)).cell (p := ⟨wr.heap.size, 0, none⟩) (Nat.lt_succ_self _)).trans (by simp)
          have b3 := HBA.out.trans (hb3 _)
          have X1 := hide (HQ2.out w1 (HI.out.ph.below (hb3 B) (Nat.le_refl _)) (HP.out.below (hb3 C) (Nat.le_refl _)))
          clear hb3 HQ1 HQ2
          go_wp2_with fail
          refine X1.out.mono ?_
          rintro e w2 ⟨rfl, hb4⟩
          have b4 := b3.trans (hb4 _)
          have c1 := hbe.trans (b4.mono hbe.size)
          have HG2 := hide (HG.out.next b4)
          clear b3 hb4 b4 hcl X1
          go_wp2
          go_roundw
          case rel => exact ⟨k + 1, lo, ts, by omega, by go_num, HG2.out, hlo, by rw [HF.out]; exact HTS.out, HCC.out, c1⟩
          case measure => simp [intOf]; omega
        · have HF := YES.out rfl
          clear NO YES
          go_wp2_with fail
          refine HQ1.out.mono ?_
          rintro e w1 ⟨rfl, hb3⟩
          have hcl : w1.cell? ⟨wr.heap.size, 0, none⟩ = some (.slice pa (rs[k]).pa.length pc) := ((hb3 (wr.heap.size + 1)).cell (p := ⟨wr.heap.size, 0, none⟩) (Nat.lt_succ_self _)).trans (by simp)
          have b3 := HBA.out.trans (hb3 _)
          have X1 := hide (HQ2.out w1 (HI.out.ph.below (hb3 B) (Nat.le_refl _)) (HP.out.below (hb3 C) (Nat.le_refl _)))
          have HI1 := hide (HI.out.below (hb3 B) (Nat.le_refl _))
          have HC1 := hide (show ∀ D, Below D (wr.alloc (Obj.cells #[.slice pa (rs[k]).pa.length pc, .bool (rs[k]).co, .string (rs[k]).bo, .int .i64 (rs[k]).ve, .slice qa (rs[k]).ps.length qc] 47)) w1 from hb3)
          clear hb3 HQ1 HQ2
          go_wp2_with fail
          refine X1.out.mono ?_
          rintro e w2 ⟨rfl, hb4⟩
          have b4 := b3.trans (hb4 _)
          have HI2 := hide (HI1.out.below (hb4 B) (Nat.le_refl _))
          have hall : ∀ D, Below D (wr.alloc (Obj.cells #[.slice pa (rs[k]).pa.length pc, .bool (rs[k]).co, .string (rs[k]).bo, .int .i64 (rs[k]).ve, .slice qa (rs[k]).ps.length qc] 47)) w2 := fun D => (HC1.out D).trans (hb4 D)
          clear b3 hb4 hcl X1 HI1 HC1
          have hc5 : ∀ o v, (wr.alloc (Obj.cells #[.slice pa (rs[k]).pa.length pc, .bool (rs[k]).co, .string (rs[k]).bo, .int .i64 (rs[k]).ve, .slice qa (rs[k]).ps.length qc] 47)).cell? ⟨wr.heap.size, o, none⟩ = some v → w2.cell? ⟨wr.heap.size, o, none⟩ = some v := fun o v hv => ((hall (wr.heap.size + 1)).cell (p := ⟨wr.heap.size, o, none⟩) (Nat.lt_succ_self _)).trans hv
          have d0 := hc5 0 (.slice pa (rs[k]).pa.length pc) (by simp)
          have d1 := hc5 1 (.bool (rs[k]).co) (by simp)
          have d2 := hc5 2 (.string (rs[k]).bo) (by simp)
          have d3 := hc5 3 (.int .i64 (rs[k]).ve) (by simp)
          have d4 := hc5 4 (.slice qa (rs[k]).ps.length qc) (by simp)
          have c1 := hbe.trans (b4.mono hbe.size)
          have HG2 := hide (HG.out.next b4)
          have hlo2 : lo ≤ w2.heap.size := Nat.le_trans HG.out.top b4.size
          have HCp := hide (copyRes_any rs[k] pa pc qa qc B w2 HI2.out (Nat.le_trans hB c1.size) HSK.out.1 HSK.out.2.1 HSK.out.2.2.1 HSK.out.2.2.2.1 HSK.out.2.2.2.2)
          have hlen := HL.out
          have hk1 := HSK.out.1
          have hk2 := HSK.out.2.1
          clear hc5 hall b4 HI2
          go_wp2_with fail
          refine HCp.out.mono ?_
          rintro e w3 ⟨⟨pp, qq, rfl, hpp, hpq, r3, q3⟩, b5⟩
          have c3 := c1.trans (b5.mono c1.size)
          have bA := (Below.refl w3.heap.size w3).alloc (Nat.le_refl _) (Obj.cells #[.slice (some ⟨pp, 0, none⟩) (rs[k]).pa.length (rs[k]).pa.length, .bool (rs[k]).co, .string (rs[k]).bo, .int .i64 (rs[k]).ve, .slice (some ⟨qq, 0, none⟩) (rs[k]).ps.length (rs[k]).ps.length] 47)
          have HG4 := hide ((HG2.out.next b5).next bA)
          have HR := hide (r3.below bA)
          have HQ := hide (q3.below bA)
          have HC4 := hide (c3.trans (bA.mono c3.size))
          clear r3 q3 b5 bA c1 c3 d0 d1 d2 d3 d4 HCp
          go_wp2_with (at_builtin; refine wp_append_res rfl _ _ rfl w.heap.size lo _ ts rfl HG4.out w3.heap.size ⟨rs[k], pp, (rs[k]).pa.length, qq, (rs[k]).ps.length⟩ rfl ?_ ?_ hlo (Nat.le_trans hlo2 hpp) hpq HR.out HQ.out ?_ ?_)
          · exact ⟨by simp, by simp, by simp, by simp, by simp⟩
          · omega
          · exact ⟨by unfold maxLen; omega, by unfold maxLen; omega⟩
          · intro v' w' hG' hB'
            have HG' := hide hG'
            have HC' := hide (HC4.out.trans hB')
            clear hG' hB'
            go_wp2
            go_roundw
            case rel => exact ⟨k + 1, _, _, by omega, by go_num, HG'.out, HC'.out.size, by rw [HF.out, List.map_append, HTS.out]; rfl, caps_snoc HCC.out, HC'.out⟩
            case measure => simp [intOf]; omega
      · have HF := YES.out rfl
        clear NO YES
        go_wp2_with fail
        refine HQ1.out.mono ?_
        rintro e w2 ⟨rfl, hall⟩
        have b4 := HBA.out.trans (hall _)
        have HI2 := hide (HI.out.below (hall B) (Nat.le_refl _))
        clear HQ1 HQ2
        have hc5 : ∀ o v, (wr.alloc (Obj.cells #[.slice pa (rs[k]).pa.length pc, .bool (rs[k]).co, .string (rs[k]).bo, .int .i64 (rs[k]).ve, .slice qa (rs[k]).ps.length qc] 47)).cell? ⟨wr.heap.size, o, none⟩ = some v → w2.cell? ⟨wr.heap.size, o, none⟩ = some v := fun o v hv => ((hall (wr.heap.size + 1)).cell (p := ⟨wr.heap.size, o, none⟩) (Nat.lt_succ_self _)).trans hv
        have d0 := hc5 0 (.slice pa (rs[k]).pa.length pc) (by simp)
        have d1 := hc5 1 (.bool (rs[k]).co) (by simp)
        have d2 := hc5 2 (.string (rs[k]).bo) (by simp)
        have d3 := hc5 3 (.int .i64 (rs[k]).ve) (by simp)
        have d4 := hc5 4 (.slice qa (rs[k]).ps.length qc) (by simp)
        have c1 := hbe.trans (b4.mono hbe.size)
        have HG2 := hide (HG.out.next b4)
        have hlo2 : lo ≤ w2.heap.size := Nat.le_trans HG.out.top b4.size
        have HCp := hide (copyRes_any rs[k] pa pc qa qc B w2 HI2.out (Nat.le_trans hB c1.size) HSK.out.1 HSK.out.2.1 HSK.out.2.2.1 HSK.out.2.2.2.1 HSK.out.2.2.2.2)
        have hlen := HL.out
        have hk1 := HSK.out.1
        have hk2 := HSK.out.2.1
        clear hc5 hall b4 HI2
        go_wp2_with fail
        refine HCp.out.mono ?_
        rintro e w3 ⟨⟨pp, qq, rfl, hpp, hpq, r3, q3⟩, b5⟩
        have c3 := c1.trans (b5.mono c1.size)
        have bA := (Below.refl w3.heap.size w3).alloc (Nat.le_refl _) (Obj.cells #[.slice (some ⟨pp, 0, none⟩) (rs[k]).pa.length (rs[k]).pa.length, .bool (rs[k]).co, .string (rs[k]).bo, .int .i64 (rs[k]).ve, .slice (some ⟨qq, 0, none⟩) (rs[k]).ps.length (rs[k]).ps.length] 47)
        have HG4 := hide ((HG2.out.next b5).next bA)
        have HR := hide (r3.below bA)
        have HQ := hide (q3.below bA)
        have HC4 := hide (c3.trans (bA.mono c3.size))
        clear r3 q3 b5 bA c1 c3 d0 d1 d2 d3 d4 HCp
        go_wp2_with (at_builtin; refine wp_append_res rfl _ _ rfl w.heap.size lo _ ts rfl HG4.out w3.heap.size ⟨rs[k], pp, (rs[k]).pa.length, qq, (rs[k]).ps.length⟩ rfl ?_ ?_ hlo (Nat.le_trans hlo2 hpp) hpq HR.out HQ.out ?_ ?_)
        · exact ⟨by simp, by simp, by simp, by simp, by simp⟩
        · omega
        · exact ⟨by unfold maxLen; omega, by unfold maxLen; omega⟩
        · intro v' w' hG' hB'
          have HG' := hide hG'
          have HC' := hide (HC4.out.trans hB')
          clear hG' hB'
          go_wp2
          go_roundw
          case rel => exact ⟨k + 1, _, _, by omega, by go_num, HG'.out, HC'.out.size, by rw [HF.out, List.map_append, HTS.out]; rfl, caps_snoc HCC.out, HC'.out⟩
          case measure => simp [intOf]; omega
    · have HF := hide (filter_end (q := deepB p) hlt)
      obtain ⟨g, cap2, e, hO⟩ := HG.out.done HCC.out
      have hm : ts.map (·.r) = deepL rs p := by rw [HTS.out, HF.out]; rfl
      have hll : ts.length = (deepL rs p).length := by rw [← hm]; simp
      rw [hm] at hO
      rw [hll] at e
      subst e
      clear hm hll
      go_wp2
      go_ret
      exact ⟨⟨g, cap2, _, _, rfl, hO⟩, hbe⟩
end Go.Proofs.Ytehoilheihpopab
