/-
  What spec.EvalIf does.
-/
import Derived.Test.YtmgikfeknmbpbabSpecHas
import Derived.Test.YtmgikfeknmbpbabConds
import Derived.Test.YtmgikfeknmbpbabMathSub
namespace Go.Proofs.Ytmgikfeknmbpbab
open Go.RowKit M
set_option linter.unusedVariables false

set_option maxRecDepth 100000 in
set_option maxHeartbeats 4000000 in
theorem specEval_any (ls : List (List Cn)) (a : Option Addr) (cap : Nat) (tag : ByteArray) (ta : Option Addr) (toks : List Int) (tc D B : Nat) (w : World) (h : Cnss w B a ls) (hB : B ≤ w.heap.size) (hn : ls.length ≤ 1048576) (hn2 : ∀ cs ∈ ls, cs.length ≤ 1048576) (ht : Ints w D ta toks) (hD : D ≤ w.heap.size) (hl : toks.length ≤ 1048576) :
    Calls Try.prog 6 #[.slice a ls.length cap, .slice ta toks.length tc, .string tag] w fun e w' => e = .returned (.bool (evalI ls toks tag)) ∧ Below w.heap.size w w' := by
  have HH := hide h
  have HN2 := hide hn2
  have HI := hide (fun w1 (hb : Below w.heap.size w w1) t => specHas_any ta toks tc D t w1 (ht.below hb hD) hl)
  clear h ht hn2
  go_enter Try.func6, Try.ntmps6
  go_wp2
  go_loopw [7] (fun i wr => ∃ k : Nat, k ≤ ls.length ∧ i = .int .i64 k ∧ Hid (evalI (ls.take k) toks tag = false) ∧ Below w.heap.size w wr) (fun i _ => ls.length - (intOf i).toNat)
  case atStart => exact ⟨0, Nat.zero_le _, rfl, (by show _ = _; simp [evalI]), Below.refl _ _⟩
  case round =>
    obtain ⟨k, hk, rfl, HE, hbe⟩ := hrel
    by_cases hlt : k < ls.length
    · obtain ⟨b, o, rfl, hb, hc⟩ := HH.out (by omega)
      obtain ⟨pa, pc, hc0, hin⟩ := hc k hlt
      have HS := hide (evalI_snoc ls toks tag k hlt)
      have HHE := hide (evalI_here ls toks tag k hlt)
      have hfk : ls[k].length ≤ 1048576 := HN2.out _ (List.getElem_mem hlt)
      obtain ⟨cs, hcs⟩ : ∃ cs, ls[k] = cs := ⟨_, rfl⟩
      rw [hcs] at HS HHE hfk hin hc0
      have HIN := hide hin.ps
      have hbw : b < w.heap.size := by omega
      clear hcs hc hin
      go_wp2
      go_loopw [8, 9] (fun al q wr => ∃ (j : Nat) (z : Bool), j ≤ cs.length ∧ q = .int .i64 j ∧ al = .bool z ∧ Hid (allC toks tag (cs.take j) = z) ∧ Below w.heap.size w wr) (fun _ q _ => cs.length - (intOf q).toNat)
      case atStart => exact ⟨0, true, Nat.zero_le _, rfl, rfl, (by show _ = _; simp [allC]), hbe⟩
      case round =>
        obtain ⟨j, z, hj, rfl, rfl, HAL, hbs⟩ := hrel
        by_cases hjl : j < cs.length
        · obtain ⟨b2, o2, rfl, hb2, hd⟩ := HIN.out (by omega)
          obtain ⟨d0, d1, d2⟩ := hd j hjl
          have hb2w : b2 < w.heap.size := by omega
          have HSJ := hide (allC_snoc toks tag cs j hjl)
          have e0 := (hbs.cell (p := ⟨b, o + k, none⟩) hbw).trans hc0
          have q0 := (hbs.cell (p := ⟨b2, o2 + j * 3, none⟩) hb2w).trans d0
          have q1 := (hbs.cell (p := ⟨b2, o2 + j * 3 + 1, none⟩) hb2w).trans d1
          have q2 := (hbs.cell (p := ⟨b2, o2 + j * 3 + 2, none⟩) hb2w).trans d2
          obtain ⟨x, hx⟩ : ∃ x, cs[j] = x := ⟨_, rfl⟩
          rw [hx] at HSJ q0 q1 q2
          clear hx hd d0 d1 d2
          obtain ⟨no, tk, tg⟩ := x
          simp only at q0 q1 q2
          have HCB := hide (show condB toks tag ⟨no, tk, tg⟩ = ((if tk = 0 then tg.toList == tag.toList else toks.any (· == tk)) != no) from rfl)
          have bX := hbs.alloc hbs.size (Obj.cells #[.bool no, .int .i64 tk, .string tg] 40)
          have HBX := hide bX
          have HX := hide (BoxV.made wr [.bool no, .int .i64 tk, .string tg] 40)
          have HQ := hide (HI.out _ bX tk)
          rw [HAL.out] at HSJ
          clear bX
          by_cases hz : tk = 0
          · rw [if_pos hz] at HCB
            subst hz
            obtain ⟨y, hy⟩ : ∃ y, (tg.toList == tag.toList) = y := ⟨_, rfl⟩
            rw [hy] at HCB
            cases z
            · have HAN := hide (show allC toks tag (cs.take (j + 1)) = false by rw [HSJ.out]; rfl)
              clear HCB HQ HX
              go_wp2
              go_roundw
              case rel => exact ⟨j + 1, false, by omega, by go_num, rfl, HAN, HBX.out⟩
              case measure => simp [intOf]; omega
            · have HAN := hide (show allC toks tag (cs.take (j + 1)) = (y != no) by rw [HSJ.out, HCB.out]; simp)
              clear HCB HQ HX
              go_wp2
              go_roundw
              case rel => exact ⟨j + 1, _, by omega, by go_num, rfl, HAN, HBX.out⟩
              case measure => simp [intOf]; omega
          · rw [if_neg hz] at HCB
            have hz1 : (tk == 0) = false := by simpa using hz
            have hz2 : (tk != 0) = true := by simpa using hz
            obtain ⟨y, hy⟩ : ∃ y, toks.any (· == tk) = y := ⟨_, rfl⟩
            rw [hy] at HCB HQ
            clear hz hy
            go_wp2_with fail
            refine HQ.out.mono ?_
            rintro e w1 ⟨rfl, hw⟩
            subst hw
            have r0 := (HX.out.2 0 _ rfl).1
            cases z
            · have HAN := hide (show allC toks tag (cs.take (j + 1)) = false by rw [HSJ.out]; rfl)
              clear HCB HX
              go_wp2
              go_roundw
              case rel => exact ⟨j + 1, false, by omega, by go_num, rfl, HAN, HBX.out⟩
              case measure => simp [intOf]; omega
            · have HAN := hide (show allC toks tag (cs.take (j + 1)) = (y != no) by rw [HSJ.out, HCB.out]; simp)
              clear HCB HX
              go_wp2
              go_roundw
              case rel => exact ⟨j + 1, _, by omega, by go_num, rfl, HAN, HBX.out⟩
              case measure => simp [intOf]; omega
        · have e0 := (hbs.cell (p := ⟨b, o + k, none⟩) hbw).trans hc0
          have HT := hide (show allC toks tag cs = z by rw [← HAL.out, show cs.take j = cs from List.take_of_length_le (by omega)])
          cases z
          · have HAN := hide (show evalI (ls.take (k + 1)) toks tag = false by rw [HS.out, HE.out, HT.out]; rfl)
            go_wp2
            go_roundw
            case rel => exact ⟨k + 1, by omega, by go_num, HAN, hbs⟩
            case measure => simp [intOf]; omega
          · have HAN := hide (HHE.out HT.out)
            go_wp2
            go_ret
            exact ⟨by rw [HAN.out]; rfl, hbs⟩
    · have HT := hide (show evalI ls toks tag = false by rw [← HE.out, show ls.take k = ls from List.take_of_length_le (by omega)])
      go_wp2
      go_ret
      exact ⟨by rw [HT.out]; rfl, hbe⟩
end Go.Proofs.Ytmgikfeknmbpbab
