/-
  What impl.ascending over what is known and impl.PropsOk do.
-/
import Derived.Test.YtcgljeagjchobaaGreatLessProp
namespace Go.Proofs.YtcgljeagjchobaaGreat
open Go.RowKit M
set_option linter.unusedVariables false

set_option maxRecDepth 100000 in
set_option maxHeartbeats 4000000 in
theorem ascProps_any (a : Option Addr) (ps : List Pp) (cap B : Nat) (w : World) (h : Pps w B a ps) (hB : B ≤ w.heap.size) (hl : ps.length ≤ maxLen) :
    Calls Tryz.prog 127 #[.slice a ps.length cap, .func (.func 128) #[] #[]] w fun e w' => e = .returned (.bool (ascB lessP ps)) ∧ Below w.heap.size w w' := by
  unfold maxLen at hl
  go_enter Tryz.func127, Tryz.ntmps127
  go_wp2
  go_loopw [5] (fun i wr => ∃ m : Nat, m ≤ ps.length ∧ i = .int .i64 ((m : Int) + 1) ∧ (∀ j (hj : j + 1 < ps.length), j < m → lessP ps[j] ps[j + 1] = true) ∧ Below w.heap.size w wr) (fun i _ => ps.length - (intOf i).toNat)
  case atStart => exact ⟨0, Nat.zero_le _, by simp, fun j _ hj => absurd hj (Nat.not_lt_zero _), Below.refl _ _⟩
  case round =>
    obtain ⟨m, hm, rfl, ht, hbe⟩ := hrel
    have HT := hide ht
    clear ht
    by_cases hlt : m + 1 < ps.length
    · obtain ⟨b, o, rfl, hb, hc⟩ := (h.below hbe hB) (by omega)
      obtain ⟨hx0, hx1, hx2⟩ := hc m (by omega)
      obtain ⟨hy0, hy1, hy2⟩ := hc (m + 1) hlt
      clear hc
      have hl1 : b < wr.drew.heap.size := by have := hbe.size; show b < wr.heap.size; omega
      have hbd : Below w.heap.size w wr.drew := below_drewP hbe
      have hq := lessProp_any ps[m] ps[m + 1] wr.drew
      have hi1 : IntKind.i64.wrap ((m : Int) + 1 - 1) = (m : Int) := by rw [IntKind.wrap_i64] <;> omega
      have hi2 : ((m : Int) + 1).toNat = m + 1 := by omega
      have hi3 : (m : Int) < (ps.length : Int) := by omega
      have hi4 : (m : Int) + 1 < (ps.length : Int) := by omega
      have hi5 : ¬ ((m : Int) + 1 < 0) := by omega
      have hi6 : IntKind.i64.wrap (m : Int) = (m : Int) := by rw [IntKind.wrap_i64] <;> omega
      have hi7 : (0 : Int) ≤ (m : Int) := by omega
      have hi8 : (0 : Int) ≤ (m : Int) + 1 := by omega
      obtain ⟨z, hz⟩ : ∃ z, lessP ps[m] ps[m + 1] = z := ⟨_, rfl⟩
      rw [hz] at hq
      have HZ := hide hz
      clear hz
      cases z
      · go_wp2
        go_region_held3 (fun W => W.cell? ⟨b, o + m * 3, none⟩ = some (.string ps[m].1) ∧ W.cell? ⟨b, o + m * 3 + 1, none⟩ = some (.string ps[m].2.1) ∧ W.cell? ⟨b, o + m * 3 + 2, none⟩ = some (.string ps[m].2.2) ∧ W.cell? ⟨b, o + (m + 1) * 3, none⟩ = some (.string ps[m + 1].1) ∧ W.cell? ⟨b, o + (m + 1) * 3 + 1, none⟩ = some (.string ps[m + 1].2.1) ∧ W.cell? ⟨b, o + (m + 1) * 3 + 2, none⟩ = some (.string ps[m + 1].2.2)) (first | exact ⟨hx0, hx1, hx2, hy0, hy1, hy2⟩ | (simp only [(bcellP hb3).1 b _ hl1]; exact ⟨hx0, hx1, hx2, hy0, hy1, hy2⟩)) ((go_at_call 128; refine hq.mono ?_; rintro e w1 ⟨rfl, hb3⟩))
        all_goals
          have c1 := hbd.trans (hb3.mono hbd.size)
          clear hq hb3
          go_wp2
          go_ret
          exact ⟨ret_bool (ascB_not lessP ps m hlt HZ.out).symm, c1⟩
      · go_wp2
        go_region_held3 (fun W => W.cell? ⟨b, o + m * 3, none⟩ = some (.string ps[m].1) ∧ W.cell? ⟨b, o + m * 3 + 1, none⟩ = some (.string ps[m].2.1) ∧ W.cell? ⟨b, o + m * 3 + 2, none⟩ = some (.string ps[m].2.2) ∧ W.cell? ⟨b, o + (m + 1) * 3, none⟩ = some (.string ps[m + 1].1) ∧ W.cell? ⟨b, o + (m + 1) * 3 + 1, none⟩ = some (.string ps[m + 1].2.1) ∧ W.cell? ⟨b, o + (m + 1) * 3 + 2, none⟩ = some (.string ps[m + 1].2.2)) (first | exact ⟨hx0, hx1, hx2, hy0, hy1, hy2⟩ | (simp only [(bcellP hb3).1 b _ hl1]; exact ⟨hx0, hx1, hx2, hy0, hy1, hy2⟩)) ((go_at_call 128; refine hq.mono ?_; rintro e w1 ⟨rfl, hb3⟩))
        all_goals
          have c1 := hbd.trans (hb3.mono hbd.size)
          clear hq hb3
          go_wp2
          go_roundw
          case rel => exact ⟨m + 1, by omega, by go_num, fun j hj hjm => by
                        by_cases e : j = m
                        · subst e; exact HZ.out
                        · exact HT.out j hj (by omega), c1⟩
          case measure => simp [intOf]; omega
    · have HE := hide (ascB_all lessP ps (fun j hj => HT.out j hj (by omega)))
      go_wp2
      go_ret
      exact ⟨ret_bool HE.out.symm, hbe⟩

set_option maxHeartbeats 2000000 in
theorem propsOk_any (a : Option Addr) (ps : List Pp) (cap B : Nat) (w : World) (h : Pps w B a ps) (hB : B ≤ w.heap.size) (hs : ShortPs ps) (hl : ps.length ≤ maxLen) :
    Calls Tryz.prog 101 #[.slice a ps.length cap] w fun e w' => e = .returned (.bool (propsB ps)) ∧ Below w.heap.size w w' := by
  have hl' := hl
  unfold maxLen at hl'
  by_cases h4 : ps.length ≤ 4
  · go_enter Tryz.func101, Tryz.ntmps101
    go_wp2
    go_loopw [10] (fun i wr => ∃ k : Nat, k ≤ ps.length ∧ i = .int .i64 k ∧ (∀ j (hj : j < ps.length), j < k → propB ps[j] = true) ∧ Below w.heap.size w wr) (fun i _ => ps.length - (intOf i).toNat)
    case atStart => exact ⟨0, Nat.zero_le _, rfl, fun j _ hj => absurd hj (Nat.not_lt_zero _), Below.refl _ _⟩
    case round =>
      obtain ⟨k, hk, rfl, ht, hbe⟩ := hrel
      have HT := hide ht
      clear ht
      by_cases hlt : k < ps.length
      · obtain ⟨b, o, rfl, hb, hc⟩ := (h.below hbe hB) (by omega)
        obtain ⟨hx0, hx1, hx2⟩ := hc k hlt
        have hsz := hs.at k hlt
        clear hc
        have HBA := hide ((Below.refl wr.heap.size wr).alloc (Nat.le_refl _) (Obj.cells #[.string (ps[k]).1, .string (ps[k]).2.1, .string (ps[k]).2.2] 108))
        have HQ := hide (propOk_any ps[k] (wr.alloc (Obj.cells #[.string (ps[k]).1, .string (ps[k]).2.1, .string (ps[k]).2.2] 108)) hsz.1 hsz.2.1 hsz.2.2)
        obtain ⟨z, hz⟩ : ∃ z, propB ps[k] = z := ⟨_, rfl⟩
        rw [hz] at HQ
        have HZ := hide hz
        clear hz hsz
        cases z
        · go_wp2_with fail
          refine HQ.out.mono ?_
          rintro e w1 ⟨rfl, hb3⟩
          have c1 := hbe.trans ((HBA.out.trans (hb3.mono HBA.out.size)).mono hbe.size)
          go_wp2
          go_ret
          exact ⟨ret_bool (propsB_bad k hlt HZ.out).symm, c1⟩
        · go_wp2_with fail
          refine HQ.out.mono ?_
          rintro e w1 ⟨rfl, hb3⟩
          have c1 := hbe.trans ((HBA.out.trans (hb3.mono HBA.out.size)).mono hbe.size)
          go_wp2
          go_roundw
          case rel => exact ⟨k + 1, by omega, by go_num, fun j hj hjk => by
                        by_cases e : j = k
                        · subst e; exact HZ.out
                        · exact HT.out j hj (by omega), c1⟩
          case measure => simp [intOf]; omega
      · have HE := hide (propsB_of (ps := ps) (fun j hj => HT.out j hj (by omega)))
        have HA := hide (ascProps_any a ps cap B wr (h.below hbe hB) (Nat.le_trans hB hbe.size) hl)
        go_wp2_with fail
        refine HA.out.mono ?_
        rintro e w1 ⟨rfl, hb1⟩
        have c1 := hbe.trans (hb1.mono hbe.size)
        go_wp2
        go_ret
        exact ⟨ret_bool (by rw [HE.out]; simp [h4]), c1⟩
  · have HE := hide (propsB_long h4)
    go_enter Tryz.func101, Tryz.ntmps101
    go_wp2
    go_ret
    exact ⟨ret_bool HE.out.symm, Below.refl _ _⟩
end Go.Proofs.YtcgljeagjchobaaGreat
