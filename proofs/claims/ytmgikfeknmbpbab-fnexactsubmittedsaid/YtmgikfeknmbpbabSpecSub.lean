/-
  What spec.Submitted does.
-/
import Derived.Test.YtmgikfeknmbpbabRowsI
import Derived.Test.YtmgikfeknmbpbabConds
import Derived.Test.YtmgikfeknmbpbabMathSub
import Derived.WalkKit
namespace Go.Proofs.Ytmgikfeknmbpbab
open Go.RowKit M
set_option linter.unusedVariables false

set_option maxRecDepth 100000 in
set_option maxHeartbeats 4000000 in
theorem specSub_any (a : Option Addr) (ls : List (List Cn)) (cap B : Nat) (w : World) (h : Cnss w B a ls) (hB : B ≤ w.heap.size) (hl : ls.length ≤ 1048576) (hf : ls.flatten.length ≤ 1048576) :
    Calls Try.prog 12 #[.slice a ls.length cap] w fun e w' => (∃ g n c : Nat, e = .returned (.slice (some ⟨g, 0, none⟩) n c) ∧ OwnG 3 1 ci w' w.heap.size (.slice (some ⟨g, 0, none⟩) n c) (subI ls)) ∧ Below w.heap.size w w' := by
  have HH := hide h
  have HF := hide hf
  have HO := hide (OwnG.made (tE := 3) (K := 1) (cs := ci) w w.heap.size (Nat.le_refl _))
  clear h hf
  go_enter Try.func12, Try.ntmps12
  go_wp2
  go_loopw [3, 4] (fun v i wr => ∃ (k g n c : Nat) (ts : List Int), k ≤ ls.length ∧ i = .int .i64 k ∧ v = .slice (some ⟨g, 0, none⟩) n c ∧ Hid (OwnG 3 1 ci wr w.heap.size (.slice (some ⟨g, 0, none⟩) n c) ts) ∧ Hid (ts = subI (ls.take k)) ∧ Below w.heap.size w wr) (fun _ i _ => ls.length - (intOf i).toNat)
  case atStart => exact ⟨0, _, _, _, [], Nat.zero_le _, rfl, rfl, HO, (by show _ = _; simp [subI, subC]), (Below.refl _ _).alloc (Nat.le_refl _) _⟩
  case round =>
    obtain ⟨k, g, n, c, ts, hk, rfl, rfl, HOW, HTS, hbe⟩ := hrel
    by_cases hlt : k < ls.length
    · obtain ⟨b, o, rfl, hb, hc⟩ := HH.out (by omega)
      obtain ⟨pa, pc, hc0, hin⟩ := hc k hlt
      have HS := hide (subI_snoc ls k hlt)
      have hfk : ls[k].length ≤ 1048576 := Nat.le_trans (flat_here ls k hlt) HF.out
      have hts : ts.length ≤ 1048576 := by
        rw [HTS.out]
        have := subC_len (ls.take k).flatten
        have := subI_le ls k
        have := HF.out
        unfold subI
        omega
      obtain ⟨cs, hcs⟩ : ∃ cs, ls[k] = cs := ⟨_, rfl⟩
      rw [hcs] at HS hfk hin hc0
      have HIN := hide hin.ps
      clear hcs hc hin
      have hbw : b < w.heap.size := by omega
      go_wp2
      go_loopw [3, 5] (fun v q wr => ∃ (j g2 n2 c2 : Nat) (us : List Int), j ≤ cs.length ∧ q = .int .i64 j ∧ v = .slice (some ⟨g2, 0, none⟩) n2 c2 ∧ us.length ≤ 1048576 + j ∧ Hid (OwnG 3 1 ci wr w.heap.size (.slice (some ⟨g2, 0, none⟩) n2 c2) us) ∧ Hid (us = ts ++ subC (cs.take j)) ∧ Below w.heap.size w wr) (fun _ q _ => cs.length - (intOf q).toNat)
      case atStart => exact ⟨0, g, n, c, ts, Nat.zero_le _, rfl, rfl, by omega, HOW, (by show _ = _; simp [subC]), hbe⟩
      case round =>
        obtain ⟨j, g2, n2, c2, us, hj, rfl, rfl, hul, HOU, HUS, hbs⟩ := hrel
        by_cases hjl : j < cs.length
        · obtain ⟨b2, o2, rfl, hb2, hd⟩ := HIN.out (by omega)
          obtain ⟨d0, d1, d2⟩ := hd j hjl
          have hb2w : b2 < w.heap.size := by omega
          have HSJ := hide (subC_snoc cs j hjl)
          have e0 := (hbs.cell (p := ⟨b, o + k, none⟩) hbw).trans hc0
          have q0 := (hbs.cell (p := ⟨b2, o2 + j * 3, none⟩) hb2w).trans d0
          have q1 := (hbs.cell (p := ⟨b2, o2 + j * 3 + 1, none⟩) hb2w).trans d1
          have q2 := (hbs.cell (p := ⟨b2, o2 + j * 3 + 2, none⟩) hb2w).trans d2
          obtain ⟨x, hx⟩ : ∃ x, cs[j] = x := ⟨_, rfl⟩
          rw [hx] at HSJ q0 q1 q2
          have hs3 := hbs.size
          clear hx hd d0 d1 d2
          obtain ⟨no, tk, tg⟩ := x
          simp only at q0 q1 q2

          by_cases hz : tk = 0
          · subst hz
            have HSS := hide (show us = ts ++ subC (cs.take (j + 1)) by rw [HSJ.out, HUS.out]; simp [subB])
            go_wp2
            go_roundw
            case rel => exact ⟨j + 1, g2, n2, c2, us, by omega, by go_num, rfl, by omega, HOU, HSS, hbs⟩
            case measure => simp [intOf]; omega
          · have hz1 : (tk == 0) = false := by simpa using hz
            have hz2 : (tk != 0) = true := by simpa using hz
            cases no
            · have HSS := hide (show us ++ [tk] = ts ++ subC (cs.take (j + 1)) by rw [HSJ.out, HUS.out]; simp [subB, hz])
              clear hz
              have bA := (Below.refl wr.heap.size wr).alloc (Nat.le_refl _) (Obj.cells #[.int .i64 tk] 3)
              have HO3 := hide (HOU.out.next bA)
              have HC3 := hide (hbs.trans (bA.mono hbs.size))
              have hln : us.length + 1 ≤ 100000000000 := by omega
              have hs4 := HC3.out.size
              clear bA
              go_wp2_with (at_builtin; refine wp_append_gen 23 Try.underlying23 (.int .i64 0) 8 infoI rfl (by decide) (by decide) rfl _ _ rfl w.heap.size _ us rfl HO3.out ci_len _ tk rfl (fun i v hv => by match i with | 0 => (cases hv; simp) | i + 1 => cases hv) (fun v hv => by simp [ci] at hv; subst hv; rfl) hln hs4 ?_)
              intro g9 n9 c9 w9 hn9 hO9 hb9 hg9 _
              have HO9 := hide hO9
              have HB9 := hide (HC3.out.trans hb9)
              clear hO9 hb9 hg9 hn9 HO3 HC3
              go_wp2
              go_roundw
              case rel => exact ⟨j + 1, g9, n9, c9, _, by omega, by go_num, rfl, by simp; omega, HO9, HSS, HB9.out⟩
              case measure => simp [intOf]; omega
            · have HSS := hide (show us = ts ++ subC (cs.take (j + 1)) by rw [HSJ.out, HUS.out]; simp [subB])
              clear hz
              go_wp2
              go_roundw
              case rel => exact ⟨j + 1, g2, n2, c2, us, by omega, by go_num, rfl, by omega, HOU, HSS, hbs⟩
              case measure => simp [intOf]; omega
        · have HT := hide (show us = subI (ls.take (k + 1)) by rw [HS.out, HUS.out, HTS.out, show cs.take j = cs from List.take_of_length_le (by omega)])
          have e0 := (hbs.cell (p := ⟨b, o + k, none⟩) hbw).trans hc0
          go_wp2
          go_roundw
          case rel => exact ⟨k + 1, g2, n2, c2, us, by omega, by go_num, rfl, HOU, HT, hbs⟩
          case measure => simp [intOf]; omega
    · have HT := hide (show ls.take k = ls from List.take_of_length_le (by omega))
      go_wp2
      go_ret
      exact ⟨⟨_, _, _, rfl, by rw [← HT.out, ← HTS.out]; exact HOW.out⟩, hbe⟩
end Go.Proofs.Ytmgikfeknmbpbab
