/-
  What impl.TreeOk does.
-/
import Derived.Test.YtcgljeagjchobaaGreatDigit
import Derived.Test.YtcgljeagjchobaaGreatResOk
namespace Go.Proofs.YtcgljeagjchobaaGreat
open Go.RowKit Go.Maps M
set_option linter.unusedVariables false

set_option maxRecDepth 100000 in
set_option maxHeartbeats 4000000 in
theorem treeOk_any (a : Option Addr) (rs : List Rs) (cap B : Nat) (w : World) (h : Rss w B a rs) (hB : B ≤ w.heap.size) (hs : ShortT rs) (hl : rs.length ≤ maxLen) :
    Calls Tryz.prog 27 #[.slice a rs.length cap] w fun e w' => e = .returned (.bool (treeB rs)) ∧ Below w.heap.size w w' := by
  have hl' := hl
  unfold maxLen at hl'
  by_cases h12 : rs.length ≤ 12
  · go_enter Tryz.func27, Tryz.ntmps27
    go_wp2
    go_loopw [10] (fun i wr => ∃ k : Nat, k ≤ rs.length ∧ i = .int .i64 k ∧ (∀ j (hj : j < rs.length), j < k → resB rs[j] = true) ∧ Below w.heap.size w wr) (fun i _ => rs.length - (intOf i).toNat)
    case atStart => exact ⟨0, Nat.zero_le _, rfl, fun j _ hj => absurd hj (Nat.not_lt_zero _), Below.refl _ _⟩
    case round =>
      obtain ⟨k, hk, rfl, ht, hbe⟩ := hrel
      have HT := hide ht
      clear ht
      by_cases hlt : k < rs.length
      · obtain ⟨b1, o1, rfl, hb1, hcc⟩ := (h.below hbe hB) (by omega)
        obtain ⟨pa, pc, qa, qc, ⟨hc0, hc1, hc2, hc3, hc4⟩, hin⟩ := hcc k hlt
        clear hcc
        have HBA := hide ((Below.refl wr.heap.size wr).alloc (Nat.le_refl _) (Obj.cells #[.slice pa (rs[k]).pa.length pc, .bool (rs[k]).co, .string (rs[k]).bo, .int .i64 (rs[k]).ve, .slice qa (rs[k]).ps.length qc] 45))
        have HQ := hide (resOk_any rs[k] pa pc qa qc B _ (hin.below HBA.out (Nat.le_trans hB hbe.size)) (Nat.le_trans (Nat.le_trans hB hbe.size) HBA.out.size) (hs.at k hlt))
        obtain ⟨z, hz⟩ : ∃ z, resB rs[k] = z := ⟨_, rfl⟩
        rw [hz] at HQ
        have HZ := hide hz
        clear hz hin
        cases z
        · go_wp2_with fail
          refine HQ.out.mono ?_
          rintro e w1 ⟨rfl, hb3⟩
          have c1 := hbe.trans ((HBA.out.trans (hb3.mono HBA.out.size)).mono hbe.size)
          go_wp2
          go_ret
          exact ⟨ret_bool (treeB_bad k hlt HZ.out).symm, c1⟩
        · go_wp2_with fail
          refine HQ.out.mono ?_
          rintro e w1 ⟨rfl, hb3⟩
          have c1 := hbe.trans ((HBA.out.trans (hb3.mono HBA.out.size)).mono hbe.size)
          go_wp2
          go_roundw
          case rel => exact ⟨k + 1, by omega, by go_num, fun j hj hjk => by
                        by_cases e : j = k
                        · subst e; exact HZ.out
                        · exact HT.out j hj (by omega), c1⟩
          case measure => simp [intOf]; omega
      · have hres : ∀ j (hj : j < rs.length), resB rs[j] = true := fun j hj => HT.out j hj (by omega)
        have HE := hide (treeB_of hres)
        have hmem : ∀ r ∈ rs, resB r = true := fun r hr => by
          obtain ⟨j, hj, rfl⟩ := List.mem_iff_getElem.1 hr
          exact hres j hj
        have HA := hide (ascRes_any a rs cap B wr (h.below hbe hB) (Nat.le_trans hB hbe.size) hl)
        have HLN := hide (fun (e : ascB lessR rs = true) => left_none hmem e)
        have HLK := hide (fun W (hb : Below w.heap.size w W) => lacking_any a rs cap B W (h.below hb hB) (Nat.le_trans hB hb.size) h12 hmem)
        clear hres hmem
        obtain ⟨z, hz⟩ : ∃ z, ascB lessR rs = z := ⟨_, rfl⟩
        rw [hz] at HA HE HLN
        clear hz
        cases z
        · have HR0 := hide (show treeB rs = false by rw [HE.out]; simp)
          go_wp2_with fail
          refine HA.out.mono ?_
          rintro e w1 ⟨rfl, hb1⟩
          have c1 := hbe.trans (hb1.mono hbe.size)
          go_wp2
          go_ret
          exact ⟨ret_bool HR0.out.symm, c1⟩
        · have hr := hide (show treeB rs = rs.all (onB rs) by rw [HE.out]; simp [h12])
          go_wp2_with fail
          refine HA.out.mono ?_
          rintro e w1 ⟨rfl, hb1⟩
          have c1 := hbe.trans (hb1.mono hbe.size)
          have HL1 := hide (HLK.out w1 c1)
          clear hb1 HA HLK
          go_wp2_with fail
          refine HL1.out.mono ?_
          rintro e w2 ⟨rfl, ⟨n, D, hown, hho⟩, hb2⟩
          have c2 := c1.trans (hb2.mono c1.size)
          have hlen := fun ty => hown.len Tryz.underlying88 ty
          have HSZ := hide ((hho.size).trans (HLN.out (by trivial)))
          clear hb2 hown hho HL1 HLN
          go_wp2
          go_ret
          refine ⟨ret_bool ?_, c2⟩
          rw [hr.out]
          cases e : rs.all (onB rs)
          · rw [beq_eq_false_iff_ne]
            intro e2
            have e3 : Maps.size D = 0 := by omega
            have := HSZ.out.1 e3
            rw [e] at this
            cases this
          · rw [beq_iff_eq]
            have := HSZ.out.2 e
            omega
  · have HE := hide (treeB_long h12)
    go_enter Tryz.func27, Tryz.ntmps27
    go_wp2
    go_ret
    exact ⟨ret_bool HE.out.symm, Below.refl _ _⟩
end Go.Proofs.YtcgljeagjchobaaGreat
