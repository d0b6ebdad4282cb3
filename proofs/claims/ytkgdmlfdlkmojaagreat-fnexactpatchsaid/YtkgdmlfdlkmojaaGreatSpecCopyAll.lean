/-
  What spec.l10CopyAll does.
-/
import Derived.Test.YtkgdmlfdlkmojaaGreatSpecCopy
import Derived.Test.YtkgdmlfdlkmojaaGreatCapsR
namespace Go.Proofs.YtkgdmlfdlkmojaaGreat
open Go.RowKit M
set_option linter.unusedVariables false

theorem take_snocR {rs : List Rs} {ts : List RsT} {k : Nat} (h : ts.map (·.r) = rs.take k) (hk : k < rs.length) (p c q d : Nat) : (ts ++ [(⟨rs[k], p, c, q, d⟩ : RsT)]).map (·.r) = rs.take (k + 1) := by
  rw [List.map_append, h, List.take_succ_eq_append_getElem hk]; rfl

set_option maxRecDepth 100000 in
set_option maxHeartbeats 4000000 in
theorem specCopyAll_any (a : Option Addr) (rs : List Rs) (cap B : Nat) (w : World) (h : Rss w B a rs) (hB : B ≤ w.heap.size) (hl : rs.length ≤ 1048576) (hs : ∀ r ∈ rs, r.pa.length ≤ 1048576 ∧ r.ps.length ≤ 1048576) :
    Calls Tryz.prog 21 #[.slice a rs.length cap] w fun e w' => (∃ v ts, e = .returned v ∧ GrowR w' w.heap.size v ts w'.heap.size ∧ ts.map (·.r) = rs) ∧ Below w.heap.size w w' := by
  have HS := hide hs
  clear hs
  go_enter Tryz.func21, Tryz.ntmps21
  go_wp2
  go_loopw [3, 4] (fun v i wr => ∃ (k lo : Nat) (ts : List RsT), k ≤ rs.length ∧ i = .int .i64 k ∧ GrowR wr w.heap.size v ts lo ∧ w.heap.size ≤ lo ∧ ts.map (·.r) = rs.take k ∧ Below w.heap.size w wr) (fun _ i _ => rs.length - (intOf i).toNat)
  case atStart => exact ⟨0, w.heap.size + 1, [], Nat.zero_le _, rfl, GrowR.made w w.heap.size (Nat.le_refl _), by omega, rfl, (Below.refl _ _).alloc (Nat.le_refl _) _⟩
  case round =>
    obtain ⟨k, lo, ts, hk, rfl, hG, hlo, hts, hbe⟩ := hrel
    have HG := hide hG
    have HTS := hide hts
    clear hG hts
    by_cases hlt : k < rs.length
    · obtain ⟨b1, o1, rfl, hb1, hcc⟩ := (h.below hbe hB) (by omega)
      obtain ⟨pa, pc, qa, qc, ⟨hc0, hc1, hc2, hc3, hc4⟩, hin⟩ := hcc k hlt
      clear hcc
      have hsk := HS.out _ (List.getElem_mem hlt)
      have hlo2 : lo ≤ wr.heap.size := HG.out.top
      have HCp := hide (specCopy_any rs[k] pa pc qa qc B wr hin (Nat.le_trans hB hbe.size) hsk.1 hsk.2)
      have hlen : ts.length ≤ 1048576 := by
        have := congrArg List.length HTS.out
        simp only [List.length_map, List.length_take] at this
        omega
      clear hin hsk
      go_wp2_with fail
      refine HCp.out.mono ?_
      rintro e w3 ⟨⟨pp, cc, qq, dd, rfl, hpp, hpq, r3, q3, k1, k2, k3, k4⟩, b5⟩
      have c3 := hbe.trans (b5.mono hbe.size)
      have bA := (Below.refl w3.heap.size w3).alloc (Nat.le_refl _) (Obj.cells #[.slice (some ⟨pp, 0, none⟩) (rs[k]).pa.length cc, .bool (rs[k]).co, .string (rs[k]).bo, .int .i64 (rs[k]).ve, .slice (some ⟨qq, 0, none⟩) (rs[k]).ps.length dd] 57)
      have HG4 := hide ((HG.out.next b5).next bA)
      have HR := hide (r3.below bA)
      have HQ := hide (q3.below bA)
      have HC4 := hide (c3.trans (bA.mono c3.size))
      have HKK := hide (And.intro k1 (And.intro k2 (And.intro k3 k4)))
      clear r3 q3 b5 bA c3 HCp k1 k2 k3 k4 hc0 hc1 hc2 hc3 hc4
      go_wp2_with (at_builtin; refine wp_append_res rfl _ _ rfl w.heap.size lo _ ts rfl HG4.out w3.heap.size ⟨rs[k], pp, cc, qq, dd⟩ rfl ?_ ?_ hlo (Nat.le_trans hlo2 hpp) hpq HR.out HQ.out HKK.out ?_)
      · exact ⟨by simp, by simp, by simp, by simp, by simp⟩
      · omega
      · intro v' w' hG' hB'
        have HG' := hide hG'
        have HC' := hide (HC4.out.trans hB')
        clear hG' hB'
        go_wp2
        go_roundw
        case rel => exact ⟨k + 1, _, _, by omega, by go_num, HG'.out, HC'.out.size, take_snocR HTS.out hlt _ _ _ _, HC'.out⟩
        case measure => simp [intOf]; omega
    · have hm : ts.map (·.r) = rs := by rw [HTS.out, List.take_of_length_le (by omega)]
      have HM := hide hm
      clear hm
      go_wp2
      go_ret
      exact ⟨⟨_, ts, rfl, HG.out.up HG.out.top (Nat.le_refl _), HM.out⟩, hbe⟩
end Go.Proofs.YtkgdmlfdlkmojaaGreat
