/-
  What slices.Clone at what is known and impl.turnedBy do.
-/
import Derived.Test.YtkgdmlfdlkmojaaRowsQq
import Derived.Test.YtkgdmlfdlkmojaaSpecSm
import Derived.Test.YtkgdmlfdlkmojaaNeName
import Derived.Lib.SliceRun
import Derived.Deep.RegionHeld3
namespace Go.Proofs.Ytkgdmlfdlkmojaa
open Go.RowKit M
set_option linter.unusedVariables false

set_option maxRecDepth 100000 in
set_option maxHeartbeats 2000000 in
theorem cloneProps_any (a : Option Addr) (ps : List Pp) (n cap B : Nat) (hn : Hid (n = ps.length)) (w : World) (h : Pps w B a ps) (hB : B ≤ w.heap.size) (hpn : a = none → cap = 0) (hl : ps.length ≤ 1048576000) :
    Calls Try.prog 75 #[.slice a n cap] w fun e w' => (∃ v, e = .returned v ∧ OwnQ w' w.heap.size v ps ∧ (a ≠ none → ∃ g n c, v = .slice (some ⟨g, 0, none⟩) n c)) ∧ Below w.heap.size w w' := by
  cases a with
  | none =>
    have h0 : ps.length = 0 := by
      by_cases e : 0 < ps.length
      · obtain ⟨_, _, e', _⟩ := h e; cases e'
      · omega
    have hl : ps = [] := List.length_eq_zero_iff.1 h0
    have hc := hpn rfl
    have hn0 : n = 0 := by rw [hn.out, h0]
    subst hl hc hn0
    have hnil := fun W => Lib.run_eql_slice_nil (P := Try.prog) W 24 36 none 0 0 0 0 Try.underlying24
    simp only [Option.isNone_none] at hnil
    clear h0
    go_enter Try.func75, Try.ntmps75
    go_wp2
    go_ret
    exact ⟨⟨_, rfl, OwnQ.nil _ _⟩, Below.refl _ _⟩
  | some ad =>
    have hnil := fun W => Lib.run_eql_slice_nil (P := Try.prog) W 24 36 (some ad) n cap 0 0 Try.underlying24
    simp only [Option.isNone_some] at hnil
    have HM := hide (OwnQ.made w w.heap.size (Nat.le_refl _))
    have HB0 := hide ((Below.refl w.heap.size w).alloc (Nat.le_refl _) (Obj.cells #[] 36))
    have HP := hide (h.below HB0.out hB)
    have hnl : n ≤ 1048576000 := by have := hn.out; omega
    go_enter Try.func75, Try.ntmps75
    go_wp2_with (at_builtin; refine wp_append_propsO rfl _ _ rfl w.heap.size w.heap.size ps n hn.out rfl HM.out B (some ad) cap rfl HP.out hpn hnl HB0.out.size ?_)
    intro g cap' w1 hO hb
    go_wp2
    go_ret
    exact ⟨⟨_, rfl, hO, fun _ => ⟨_, _, _, rfl⟩⟩, HB0.out.trans (hb.mono (Nat.le_refl _))⟩

/-- One in a box, and a set in a box. -/
def TwoB (W : World) (M : Nat) (q : Pp) (N : Nat) (s : Sx) : Prop := (W.cell? ⟨M, 0, none⟩ = some (.string q.1) ∧ W.cell? ⟨M, 1, none⟩ = some (.string q.2.1) ∧ W.cell? ⟨M, 2, none⟩ = some (.string q.2.2)) ∧ W.cell? ⟨N, 0, none⟩ = some (.bool s.1) ∧ W.cell? ⟨N, 1, none⟩ = some (.string s.2.1) ∧ W.cell? ⟨N, 2, none⟩ = some (.string s.2.2.1) ∧ W.cell? ⟨N, 3, none⟩ = some (.string s.2.2.2)
theorem TwoB.below {W w1 : World} {M N : Nat} {q : Pp} {s : Sx} (h : TwoB W M q N s) (hb : Below W.heap.size W w1) : TwoB w1 M q N s := by
  have hM : M < W.heap.size := World.block_lt_of_cell? W _ h.1.1
  have hN : N < W.heap.size := World.block_lt_of_cell? W _ h.2.1
  unfold TwoB at *
  simp only [(bcellP hb).1 M _ hM, (bcellP hb).1 N _ hN]
  exact h
theorem ne_is (p q : Pp) : (!(q.1.toList == p.1.toList && q.2.1.toList == p.2.1.toList)) = neP p q := by
  unfold neP isP
  congr 1
  congr 1
  · by_cases e : q.1 = p.1
    · simp [e]
    · rw [decide_eq_false e]; exact beq_eq_false_iff_ne.2 (fun h => e (strInjP h))
  · by_cases e : q.2.1 = p.2.1
    · simp [e]
    · rw [decide_eq_false e]; exact beq_eq_false_iff_ne.2 (fun h => e (strInjP h))
theorem ne_false {p q : Pp} (h : neP p q = false) : q.1.toList = p.1.toList ∧ q.2.1.toList = p.2.1.toList := by
  rw [← ne_is] at h
  simpa using h
theorem ne_true {p q : Pp} (h : neP p q = true) : ¬ (q.1.toList = p.1.toList ∧ q.2.1.toList = p.2.1.toList) := by
  rw [← ne_is] at h
  intro e
  rw [e.1, e.2] at h
  simp at h

set_option maxRecDepth 100000 in
set_option maxHeartbeats 8000000 in
theorem turnedBy_any (b0 o0 : Nat) (ps : List Pp) (cap B : Nat) (d0 : Bool) (p : Pp) (w : World) (h : Pps w B (some ⟨b0, o0, none⟩) ps) (hB : B ≤ w.heap.size) (hl : ps.length ≤ 1048576000) (hcap : ps.length ≤ cap) (hcm : cap ≤ maxLen) :
    Calls Try.prog 40 #[.slice (some ⟨b0, o0, none⟩) ps.length cap, .agg #[.bool d0, .string p.1, .string p.2.1, .string p.2.2]] w fun e w' => (∃ v, e = .returned v ∧ OwnQ w' w.heap.size v (oneL ps (d0, p)) ∧ ∃ g n c, v = .slice (some ⟨g, 0, none⟩) n c) ∧ Below w.heap.size w w' := by
  unfold maxLen at hcm
  have HB0 := hide ((Below.refl w.heap.size w).alloc (Nat.le_refl _) (Obj.cells #[.bool d0, .string p.1, .string p.2.1, .string p.2.2] 38))
  have HBX := hide (show StAt (w.alloc (Obj.cells #[.bool d0, .string p.1, .string p.2.1, .string p.2.2] 38)) w.heap.size 0 (d0, p) by unfold StAt; simp)
  have HPL := hide (placeOf_any (some ⟨b0, o0, none⟩) ps cap B p _ (h.below HB0.out hB) (Nat.le_trans hB HB0.out.size) (by unfold maxLen; omega))
  have HEQ := hide (oneL_eq ps (d0, p))
  have HEL := hide (oneL_len ps (d0, p))
  have hle := plc_le p ps
  obtain ⟨at', hat⟩ : ∃ m, plcL p ps = m := ⟨_, rfl⟩
  rw [hat] at HPL hle
  simp only [hat] at HEQ
  clear hat
  go_enter Try.func40, Try.ntmps40
  go_wp2_with fail
  refine HPL.out.mono ?_
  rintro e w1 ⟨rfl, b1⟩
  have c1 := HB0.out.trans (b1.mono HB0.out.size)
  have hw1 : w.heap.size + 1 ≤ w1.heap.size := by have := b1.size; simpa using this
  have hbx1 : StAt w1 w.heap.size 0 (d0, p) := HBX.out.of (fun o' => (bcellP b1).1 _ o' (by simp))
  have HCL := hide (cloneProps_any (some ⟨b0, o0, none⟩) (ps.take at') at' cap B (hide (by rw [List.length_take]; omega)) w1 (fun h0 => by
      obtain ⟨b, o, e, hb, hc⟩ := (h.below c1 hB) (by rw [List.length_take] at h0; omega)
      exact ⟨b, o, e, hb, fun j hj => by rw [List.getElem_take]; exact hc j (by rw [List.length_take] at hj; omega)⟩) (Nat.le_trans hB c1.size) (fun e => by cases e) (by rw [List.length_take]; omega))
  have hi1 : (0 : Int) ≤ (at' : Int) := by omega
  have hi2 : (at' : Int) ≤ (cap : Int) := by omega
  go_wp2_with fail
  refine HCL.out.mono ?_
  rintro e w2 ⟨⟨v2, rfl, hO2, hv2⟩, b2⟩
  have HV2 := hide (hv2 (fun e => by cases e))
  clear hv2
  have c2 := c1.trans (b2.mono c1.size)
  have hbx2 : StAt w2 w.heap.size 0 (d0, p) := hbx1.of (fun o' => (bcellP b2).1 _ o' (by omega))
  have hbx2k := hbx2
  obtain ⟨hq0, hq1, hq2, hq3⟩ := hbx2
  simp only [Nat.zero_add] at hq0 hq1 hq2 hq3
  have hi3 : (at' : Int) ≤ (ps.length : Int) := by omega
  clear HCL HPL hbx1
  have hat1 : at' ≤ cap := by omega
  have HBX2 := hide hbx2k
  cases d0
  · have HS1 := hide (show (ps.take at' ++ [p]) ++ ((ps.drop at').drop 0).filter (neP p) = oneL ps (false, p) by rw [HEQ.out, List.drop_zero]; simp)
    have HOA := hide (hO2.alloc (Obj.cells #[.string p.1, .string p.2.1, .string p.2.2] 36))
    have CB := (Below.refl w1.heap.size w1).trans b2
    have HBA := hide (CB.alloc CB.size (Obj.cells #[.string p.1, .string p.2.1, .string p.2.2] 36))
    have HBXA := hide (HBX2.out.of (w' := w2.alloc (Obj.cells #[.string p.1, .string p.2.1, .string p.2.2] 36)) (fun o' => (bcellP ((Below.refl w2.heap.size w2).alloc (Nat.le_refl _) _)).1 _ o' (by have := b2.size; omega)))
    have HLN := hide (show (ps.take at').length + 1 ≤ 1099511627776 by rw [List.length_take]; omega)
    obtain ⟨ta, hta⟩ : ∃ t, ps.take at' = t := ⟨_, rfl⟩
    rw [hta] at HS1 HOA HLN
    clear CB b2 hO2 HEQ hta
    by_cases hcp : cap = at'
    · have hcq := hcp.symm
      subst hcq
      go_wp2_with (at_builtin; refine wp_append_prop rfl _ _ rfl w1.heap.size _ ta rfl HOA.out _ p rfl ?_ ?_ ?_ HLN.out HBA.out.size ?_)
      · simp
      · simp
      · simp
      intro g3 n3 cap3 w3 hn3 hO3 hb3
      have HO := hide hO3
      have HST := HS1
      have HB3 := hide (HBA.out.trans (hb3.mono (Nat.le_refl _)))
      have HV3 := hide (show ∃ g n c, Value.slice (some ⟨g3, 0, none⟩) n3 cap3 = .slice (some ⟨g, 0, none⟩) n c from ⟨_, _, _, rfl⟩)
      have HBX3 := hide (HBXA.out.of (fun o' => hb3.cell (p := ⟨w.heap.size, o', none⟩) (show w.heap.size < w1.heap.size by omega)))
      clear hq0 hq1 hq2 hq3 hb3 hO3 hn3 HS1 HOA HBA HBXA HLN HBX2
      go_wp2
      go_loopw [6, 29] (fun nx i wr => ∃ (k : Nat) (acc : List Pp), k ≤ ps.length - at' ∧ i = .int .i64 k ∧ OwnQ wr w1.heap.size nx acc ∧ Hid (∃ g n c, nx = .slice (some ⟨g, 0, none⟩) n c) ∧ Hid (acc ++ ((ps.drop at').drop k).filter (neP p) = oneL ps (false, p)) ∧ StAt wr w.heap.size 0 (false, p) ∧ Below w1.heap.size w1 wr) (fun _ i _ => (ps.length - at') - (intOf i).toNat)
      case atStart => exact ⟨0, _, Nat.zero_le _, rfl, HO.out, HV3, HST.out, HBX3.out, HB3.out⟩
      case round =>
        obtain ⟨k, acc, hk, rfl, hO, hvv, hst, hbx, hbe⟩ := hrel
        have HAL := hide (show acc.length ≤ 1048576001 by have h1 := congrArg List.length hst.out; have h2 := HEL.out; rw [List.length_append] at h1; omega)
        have hsz := hbe.size
        by_cases hlt : k < ps.length - at'
        · exfalso; omega
        · have HACC := hide (show acc = oneL ps (false, p) by rw [← hst.out, List.drop_eq_nil_of_le (by rw [List.length_drop]; omega)]; simp)
          have hO7 := hO.base (C := w.heap.size) (by omega)
          have c7 := c1.trans (hbe.mono c1.size)
          clear hO hst hbx hbe
          go_wp2
          go_ret
          rw [← HACC.out]
          exact ⟨⟨_, rfl, hO7, hvv.out⟩, c7⟩
    · go_wp2_with (at_builtin; refine wp_append_prop rfl _ _ rfl w1.heap.size _ ta rfl HOA.out _ p rfl ?_ ?_ ?_ HLN.out HBA.out.size ?_)
      · simp
      · simp
      · simp
      intro g3 n3 cap3 w3 hn3 hO3 hb3
      have HO := hide hO3
      have HST := HS1
      have HB3 := hide (HBA.out.trans (hb3.mono (Nat.le_refl _)))
      have HV3 := hide (show ∃ g n c, Value.slice (some ⟨g3, 0, none⟩) n3 cap3 = .slice (some ⟨g, 0, none⟩) n c from ⟨_, _, _, rfl⟩)
      have HBX3 := hide (HBXA.out.of (fun o' => hb3.cell (p := ⟨w.heap.size, o', none⟩) (show w.heap.size < w1.heap.size by omega)))
      clear hq0 hq1 hq2 hq3 hb3 hO3 hn3 HS1 HOA HBA HBXA HLN HBX2
      go_wp2
      go_loopw [6, 29] (fun nx i wr => ∃ (k : Nat) (acc : List Pp), k ≤ ps.length - at' ∧ i = .int .i64 k ∧ OwnQ wr w1.heap.size nx acc ∧ Hid (∃ g n c, nx = .slice (some ⟨g, 0, none⟩) n c) ∧ Hid (acc ++ ((ps.drop at').drop k).filter (neP p) = oneL ps (false, p)) ∧ StAt wr w.heap.size 0 (false, p) ∧ Below w1.heap.size w1 wr) (fun _ i _ => (ps.length - at') - (intOf i).toNat)
      case atStart => exact ⟨0, _, Nat.zero_le _, rfl, HO.out, HV3, HST.out, HBX3.out, HB3.out⟩
      case round =>
        obtain ⟨k, acc, hk, rfl, hO, hvv, hst, hbx, hbe⟩ := hrel
        have HAL := hide (show acc.length ≤ 1048576001 by have h1 := congrArg List.length hst.out; have h2 := HEL.out; rw [List.length_append] at h1; omega)
        have hsz := hbe.size
        by_cases hlt : k < ps.length - at'
        · obtain ⟨b, o, e, hb, hc⟩ := ((h.below c1 hB).below hbe (by omega)) (by omega)
          cases e
          have hcq := hc (at' + k) (by omega)
          have HDR := hide (show (ps.drop at').drop k = ps[at' + k] :: (ps.drop at').drop (k + 1) by rw [List.drop_drop, List.drop_drop, List.drop_eq_getElem_cons (by omega)]; congr 2)
          obtain ⟨q, hq⟩ : ∃ q, ps[at' + k] = q := ⟨_, rfl⟩
          rw [hq] at hcq HDR
          clear hc hq
          obtain ⟨hx0, hx1, hx2⟩ := hcq
          rw [show o0 + (at' + k) * 3 = o0 + at' * 3 + k * 3 by omega] at hx0 hx1 hx2
          obtain ⟨hq0, hq1, hq2, hq3⟩ := hbx
          simp only [Nat.zero_add] at hq0 hq1 hq2 hq3
          have hNl : w.heap.size < wr.heap.size := by omega
          have HTB := hide (show TwoB (wr.alloc (Obj.cells #[.string q.1, .string q.2.1, .string q.2.2] 36)) wr.heap.size q w.heap.size (false, p) by
            have CA : Below wr.heap.size wr (wr.alloc (Obj.cells #[.string q.1, .string q.2.1, .string q.2.2] 36)) := (Below.refl _ _).alloc (Nat.le_refl _) _
            refine ⟨by simp, ?_, ?_, ?_, ?_⟩
            · rw [(bcellP CA).1 _ _ hNl]; exact hq0
            · rw [(bcellP CA).1 _ _ hNl]; exact hq1
            · rw [(bcellP CA).1 _ _ hNl]; exact hq2
            · rw [(bcellP CA).1 _ _ hNl]; exact hq3)
          have HCA := hide (below_drewP ((Below.refl wr.heap.size wr).alloc (Nat.le_refl _) (Obj.cells #[.string q.1, .string q.2.1, .string q.2.2] 36)))
          have HZ := hide (ne_is p q)
          obtain ⟨z, hz⟩ : ∃ z, (!(q.1.toList == p.1.toList && q.2.1.toList == p.2.1.toList)) = z := ⟨_, rfl⟩
          rw [hz] at HZ
          clear hz hq0 hq1 hq2 hq3
          cases z
          · have HZL := hide (ne_false HZ.out.symm)
            go_wp2
            refine wp_region_held_drew (S := (fun W => TwoB W wr.heap.size q w.heap.size (false, p))) (by kernel_rfl) (by exact HTB.out) (fun hHeld => ?_)
            simp only [List.size_toArray, List.length_cons, List.length_nil, Nat.reduceAdd, Array.replicate_succ, Array.replicate_zero, List.push_toArray, List.nil_append, List.cons_append]
            refine wpAnyH_take (i := 0) (v := ?_) rfl (by kernel_rfl) (by kernel_rfl) (by kernel_rfl) (fun _ _ _ h => h) (Or.inl ⟨by rfl, ?_⟩) (by assumption) ?_
            rotate_left
            · intro w hSw; (try dsimp only at hSw); obtain ⟨⟨hs0, hs1, hs2⟩, hs3, hs4, hs5, hs6⟩ := hSw; go_simp; try with_reducible rfl
            simp only [Act.put, List.getElem_toArray, List.getElem_cons_zero, List.setIfInBounds_toArray, List.set_cons_zero]
            refine wpAnyH_take (i := 2) (v := ?_) rfl (by kernel_rfl) (by kernel_rfl) (by kernel_rfl) (fun _ _ _ h => h) (Or.inl ⟨by rfl, ?_⟩) (by assumption) ?_
            rotate_left
            · intro w hSw; (try dsimp only at hSw); obtain ⟨⟨hs0, hs1, hs2⟩, hs3, hs4, hs5, hs6⟩ := hSw; go_simp; try with_reducible rfl
            simp only [Act.put, List.getElem_toArray, List.getElem_cons_succ, List.getElem_cons_zero, List.setIfInBounds_toArray, List.set_cons_succ, List.set_cons_zero]
            refine wpAnyH_take (i := 3) (v := ?_) rfl (by kernel_rfl) (by kernel_rfl) (by kernel_rfl) (fun _ _ _ h => h) (Or.inl ⟨by rfl, ?_⟩) (by assumption) ?_
            rotate_left
            · intro w hSw; (try dsimp only at hSw); obtain ⟨⟨hs0, hs1, hs2⟩, hs3, hs4, hs5, hs6⟩ := hSw; go_simp; try with_reducible rfl
            simp only [Act.put, List.getElem_toArray, List.getElem_cons_succ, List.getElem_cons_zero, List.setIfInBounds_toArray, List.set_cons_succ, List.set_cons_zero]
            refine wpAnyH_ready (rs := [1]) (by kernel_rfl) (by simp) ?_
            refine AllReadyH.cons rfl (fun K hK => ?_) AllReadyH.nil
            go_simp
            refine (nameOfProp_any _ _ _ _).mono ?_
            rintro e w4 ⟨rfl, b4⟩
            have K4 := hide (hHeld.below b4)
            refine hK.out _ _ K4.out (fun hHeld2 => ?_)
            clear hK K hHeld
            have hHeld := hHeld2
            clear hHeld2
            simp only [List.setIfInBounds_toArray, List.set_cons_succ, List.set_cons_zero]
            refine wpAnyH_ready (rs := [4]) (by kernel_rfl) (by simp) ?_
            refine AllReadyH.cons rfl (fun K hK => ?_) AllReadyH.nil
            go_simp
            refine (nameOfProp_any _ _ _ _).mono ?_
            rintro e w5 ⟨rfl, b5⟩
            have K5 := hide (hHeld.below b5)
            refine hK.out _ _ K5.out (fun hHeld2 => ?_)
            clear hK K hHeld
            have hHeld := hHeld2
            clear hHeld2
            simp only [List.setIfInBounds_toArray, List.set_cons_succ, List.set_cons_zero]
            refine wpAnyH_take (i := 5) (v := .bool false) rfl (by kernel_rfl) (by kernel_rfl) (by kernel_rfl) (fun _ _ _ h => h) (Or.inl ⟨by rfl, ?_⟩) (by assumption) ?_
            · intro w hSw; (try dsimp only at hSw); obtain ⟨⟨hs0, hs1, hs2⟩, hs3, hs4, hs5, hs6⟩ := hSw; go_simp; rw [if_pos HZL.out.1, if_pos HZL.out.2]
            simp only [Act.put, List.getElem_toArray, List.getElem_cons_succ, List.getElem_cons_zero, List.setIfInBounds_toArray, List.set_cons_succ, List.set_cons_zero]
            refine wpAnyH_done (by kernel_rfl) ?_ _
            have c4 := HCA.out.trans (b4.mono HCA.out.size)
            have c5 := c4.trans (b5.mono c4.size)
            have hO5 := hO.next c5
            have c6 := hbe.trans (c5.mono hbe.size)
            have hbx6 : StAt w5 w.heap.size 0 (false, p) := by unfold StAt; simp only [Nat.zero_add]; exact K5.out.2
            have HST6 := hide (show acc ++ ((ps.drop at').drop (k + 1)).filter (neP p) = oneL ps (false, p) by rw [← hst.out, HDR.out, List.filter_cons, if_neg (by rw [← HZ.out]; exact Bool.false_ne_true)])
            clear hHeld K4 K5 c4 c5 b4 b5 HCA HTB hO hst hbe
            go_wp2
            go_roundw
            case rel => exact ⟨k + 1, acc, by omega, by go_num, hO5, hvv, HST6, hbx6, c6⟩
            case measure => simp [intOf]; omega
          · have HZL := hide (ne_true HZ.out.symm)
            go_wp2
            refine wp_region_held_drew (S := (fun W => TwoB W wr.heap.size q w.heap.size (false, p))) (by kernel_rfl) (by exact HTB.out) (fun hHeld => ?_)
            simp only [List.size_toArray, List.length_cons, List.length_nil, Nat.reduceAdd, Array.replicate_succ, Array.replicate_zero, List.push_toArray, List.nil_append, List.cons_append]
            refine wpAnyH_take (i := 0) (v := ?_) rfl (by kernel_rfl) (by kernel_rfl) (by kernel_rfl) (fun _ _ _ h => h) (Or.inl ⟨by rfl, ?_⟩) (by assumption) ?_
            rotate_left
            · intro w hSw; (try dsimp only at hSw); obtain ⟨⟨hs0, hs1, hs2⟩, hs3, hs4, hs5, hs6⟩ := hSw; go_simp; try with_reducible rfl
            simp only [Act.put, List.getElem_toArray, List.getElem_cons_zero, List.setIfInBounds_toArray, List.set_cons_zero]
            refine wpAnyH_take (i := 2) (v := ?_) rfl (by kernel_rfl) (by kernel_rfl) (by kernel_rfl) (fun _ _ _ h => h) (Or.inl ⟨by rfl, ?_⟩) (by assumption) ?_
            rotate_left
            · intro w hSw; (try dsimp only at hSw); obtain ⟨⟨hs0, hs1, hs2⟩, hs3, hs4, hs5, hs6⟩ := hSw; go_simp; try with_reducible rfl
            simp only [Act.put, List.getElem_toArray, List.getElem_cons_succ, List.getElem_cons_zero, List.setIfInBounds_toArray, List.set_cons_succ, List.set_cons_zero]
            refine wpAnyH_take (i := 3) (v := ?_) rfl (by kernel_rfl) (by kernel_rfl) (by kernel_rfl) (fun _ _ _ h => h) (Or.inl ⟨by rfl, ?_⟩) (by assumption) ?_
            rotate_left
            · intro w hSw; (try dsimp only at hSw); obtain ⟨⟨hs0, hs1, hs2⟩, hs3, hs4, hs5, hs6⟩ := hSw; go_simp; try with_reducible rfl
            simp only [Act.put, List.getElem_toArray, List.getElem_cons_succ, List.getElem_cons_zero, List.setIfInBounds_toArray, List.set_cons_succ, List.set_cons_zero]
            refine wpAnyH_ready (rs := [1]) (by kernel_rfl) (by simp) ?_
            refine AllReadyH.cons rfl (fun K hK => ?_) AllReadyH.nil
            go_simp
            refine (nameOfProp_any _ _ _ _).mono ?_
            rintro e w4 ⟨rfl, b4⟩
            have K4 := hide (hHeld.below b4)
            refine hK.out _ _ K4.out (fun hHeld2 => ?_)
            clear hK K hHeld
            have hHeld := hHeld2
            clear hHeld2
            simp only [List.setIfInBounds_toArray, List.set_cons_succ, List.set_cons_zero]
            refine wpAnyH_ready (rs := [4]) (by kernel_rfl) (by simp) ?_
            refine AllReadyH.cons rfl (fun K hK => ?_) AllReadyH.nil
            go_simp
            refine (nameOfProp_any _ _ _ _).mono ?_
            rintro e w5 ⟨rfl, b5⟩
            have K5 := hide (hHeld.below b5)
            refine hK.out _ _ K5.out (fun hHeld2 => ?_)
            clear hK K hHeld
            have hHeld := hHeld2
            clear hHeld2
            simp only [List.setIfInBounds_toArray, List.set_cons_succ, List.set_cons_zero]
            refine wpAnyH_take (i := 5) (v := .bool true) rfl (by kernel_rfl) (by kernel_rfl) (by kernel_rfl) (fun _ _ _ h => h) (Or.inl ⟨by rfl, ?_⟩) (by assumption) ?_
            · intro w hSw; (try dsimp only at hSw); obtain ⟨⟨hs0, hs1, hs2⟩, hs3, hs4, hs5, hs6⟩ := hSw; go_simp; exact fun e1 e2 => HZL.out ⟨e1, e2⟩
            simp only [Act.put, List.getElem_toArray, List.getElem_cons_succ, List.getElem_cons_zero, List.setIfInBounds_toArray, List.set_cons_succ, List.set_cons_zero]
            refine wpAnyH_done (by kernel_rfl) ?_ _
            have c4 := HCA.out.trans (b4.mono HCA.out.size)
            have c5 := c4.trans (b5.mono c4.size)
            have c6 := hbe.trans (c5.mono hbe.size)
            have HO6 := hide ((hO.next c5).alloc (Obj.cells #[.string q.1, .string q.2.1, .string q.2.2] 36))
            have HC6 := hide (c6.alloc c6.size (Obj.cells #[.string q.1, .string q.2.1, .string q.2.2] 36))
            obtain ⟨⟨hs0, hs1, hs2⟩, hs3, hs4, hs5, hs6⟩ := K5.out
            have HLN := hide (show acc.length + 1 ≤ 1099511627776 by have := HAL.out; omega)
            have HBX6 := hide (show StAt (w5.alloc (Obj.cells #[.string q.1, .string q.2.1, .string q.2.2] 36)) w.heap.size 0 (false, p) by
              have h5 : StAt w5 w.heap.size 0 (false, p) := by unfold StAt; simp only [Nat.zero_add]; exact K5.out.2
              exact h5.of (fun o' => (bcellP ((Below.refl w5.heap.size w5).alloc (Nat.le_refl _) _)).1 _ o' (by have := c6.size; omega)))
            have HST6 := hide (show (acc ++ [q]) ++ ((ps.drop at').drop (k + 1)).filter (neP p) = oneL ps (false, p) by rw [← hst.out, HDR.out, List.filter_cons, if_pos HZ.out.symm, List.append_assoc]; rfl)
            clear hHeld K4 K5 c4 c5 b4 b5 HCA HTB hO hst hbe c6
            go_wp2_with (at_builtin; refine wp_append_prop rfl _ _ rfl w1.heap.size _ acc rfl HO6.out _ q rfl ?_ ?_ ?_ HLN.out HC6.out.size ?_)
            intro g2 n2 cap2 w6 hn2 hO6 hb6
            have c7 := HC6.out.trans (hb6.mono (Nat.le_refl _))
            have hbx7 : StAt w6 w.heap.size 0 (false, p) := HBX6.out.of (fun o' => hb6.cell (p := ⟨w.heap.size, o', none⟩) (show w.heap.size < w1.heap.size by omega))
            clear hs0 hs1 hs2 hs3 hs4 hs5 hs6 hb6 hn2 HO6 HC6 HBX6 HLN
            go_wp2
            go_roundw
            case rel => exact ⟨k + 1, acc ++ [q], by omega, by go_num, hO6, hide ⟨_, _, _, rfl⟩, HST6, hbx7, c7⟩
            case measure => simp [intOf]; omega
        · have HACC := hide (show acc = oneL ps (false, p) by rw [← hst.out, List.drop_eq_nil_of_le (by rw [List.length_drop]; omega)]; simp)
          have hO7 := hO.base (C := w.heap.size) (by omega)
          have c7 := c1.trans (hbe.mono c1.size)
          clear hO hst hbx hbe
          go_wp2
          go_ret
          rw [← HACC.out]
          exact ⟨⟨_, rfl, hO7, hvv.out⟩, c7⟩
  · have HST := hide (show (ps.take at') ++ ((ps.drop at').drop 0).filter (neP p) = oneL ps (true, p) by rw [HEQ.out, List.drop_zero]; simp)
    have HO := hide hO2
    have HB3 := hide ((Below.refl w1.heap.size w1).trans b2)
    have HV3 := HV2
    have HBX3 := HBX2
    clear b2 hO2 HEQ HBX2
    by_cases hcp : cap = at'
    · have hcq := hcp.symm
      subst hcq
      go_wp2
      go_loopw [6, 29] (fun nx i wr => ∃ (k : Nat) (acc : List Pp), k ≤ ps.length - at' ∧ i = .int .i64 k ∧ OwnQ wr w1.heap.size nx acc ∧ Hid (∃ g n c, nx = .slice (some ⟨g, 0, none⟩) n c) ∧ Hid (acc ++ ((ps.drop at').drop k).filter (neP p) = oneL ps (true, p)) ∧ StAt wr w.heap.size 0 (true, p) ∧ Below w1.heap.size w1 wr) (fun _ i _ => (ps.length - at') - (intOf i).toNat)
      case atStart => exact ⟨0, _, Nat.zero_le _, rfl, HO.out, HV3, HST.out, HBX3.out, HB3.out⟩
      case round =>
        obtain ⟨k, acc, hk, rfl, hO, hvv, hst, hbx, hbe⟩ := hrel
        have HAL := hide (show acc.length ≤ 1048576001 by have h1 := congrArg List.length hst.out; have h2 := HEL.out; rw [List.length_append] at h1; omega)
        have hsz := hbe.size
        by_cases hlt : k < ps.length - at'
        · exfalso; omega
        · have HACC := hide (show acc = oneL ps (true, p) by rw [← hst.out, List.drop_eq_nil_of_le (by rw [List.length_drop]; omega)]; simp)
          have hO7 := hO.base (C := w.heap.size) (by omega)
          have c7 := c1.trans (hbe.mono c1.size)
          clear hO hst hbx hbe
          go_wp2
          go_ret
          rw [← HACC.out]
          exact ⟨⟨_, rfl, hO7, hvv.out⟩, c7⟩
    · go_wp2
      go_loopw [6, 29] (fun nx i wr => ∃ (k : Nat) (acc : List Pp), k ≤ ps.length - at' ∧ i = .int .i64 k ∧ OwnQ wr w1.heap.size nx acc ∧ Hid (∃ g n c, nx = .slice (some ⟨g, 0, none⟩) n c) ∧ Hid (acc ++ ((ps.drop at').drop k).filter (neP p) = oneL ps (true, p)) ∧ StAt wr w.heap.size 0 (true, p) ∧ Below w1.heap.size w1 wr) (fun _ i _ => (ps.length - at') - (intOf i).toNat)
      case atStart => exact ⟨0, _, Nat.zero_le _, rfl, HO.out, HV3, HST.out, HBX3.out, HB3.out⟩
      case round =>
        obtain ⟨k, acc, hk, rfl, hO, hvv, hst, hbx, hbe⟩ := hrel
        have HAL := hide (show acc.length ≤ 1048576001 by have h1 := congrArg List.length hst.out; have h2 := HEL.out; rw [List.length_append] at h1; omega)
        have hsz := hbe.size
        by_cases hlt : k < ps.length - at'
        · obtain ⟨b, o, e, hb, hc⟩ := ((h.below c1 hB).below hbe (by omega)) (by omega)
          cases e
          have hcq := hc (at' + k) (by omega)
          have HDR := hide (show (ps.drop at').drop k = ps[at' + k] :: (ps.drop at').drop (k + 1) by rw [List.drop_drop, List.drop_drop, List.drop_eq_getElem_cons (by omega)]; congr 2)
          obtain ⟨q, hq⟩ : ∃ q, ps[at' + k] = q := ⟨_, rfl⟩
          rw [hq] at hcq HDR
          clear hc hq
          obtain ⟨hx0, hx1, hx2⟩ := hcq
          rw [show o0 + (at' + k) * 3 = o0 + at' * 3 + k * 3 by omega] at hx0 hx1 hx2
          obtain ⟨hq0, hq1, hq2, hq3⟩ := hbx
          simp only [Nat.zero_add] at hq0 hq1 hq2 hq3
          have hNl : w.heap.size < wr.heap.size := by omega
          have HTB := hide (show TwoB (wr.alloc (Obj.cells #[.string q.1, .string q.2.1, .string q.2.2] 36)) wr.heap.size q w.heap.size (true, p) by
            have CA : Below wr.heap.size wr (wr.alloc (Obj.cells #[.string q.1, .string q.2.1, .string q.2.2] 36)) := (Below.refl _ _).alloc (Nat.le_refl _) _
            refine ⟨by simp, ?_, ?_, ?_, ?_⟩
            · rw [(bcellP CA).1 _ _ hNl]; exact hq0
            · rw [(bcellP CA).1 _ _ hNl]; exact hq1
            · rw [(bcellP CA).1 _ _ hNl]; exact hq2
            · rw [(bcellP CA).1 _ _ hNl]; exact hq3)
          have HCA := hide (below_drewP ((Below.refl wr.heap.size wr).alloc (Nat.le_refl _) (Obj.cells #[.string q.1, .string q.2.1, .string q.2.2] 36)))
          have HZ := hide (ne_is p q)
          obtain ⟨z, hz⟩ : ∃ z, (!(q.1.toList == p.1.toList && q.2.1.toList == p.2.1.toList)) = z := ⟨_, rfl⟩
          rw [hz] at HZ
          clear hz hq0 hq1 hq2 hq3
          cases z
          · have HZL := hide (ne_false HZ.out.symm)
            go_wp2
            refine wp_region_held_drew (S := (fun W => TwoB W wr.heap.size q w.heap.size (true, p))) (by kernel_rfl) (by exact HTB.out) (fun hHeld => ?_)
            simp only [List.size_toArray, List.length_cons, List.length_nil, Nat.reduceAdd, Array.replicate_succ, Array.replicate_zero, List.push_toArray, List.nil_append, List.cons_append]
            refine wpAnyH_take (i := 0) (v := ?_) rfl (by kernel_rfl) (by kernel_rfl) (by kernel_rfl) (fun _ _ _ h => h) (Or.inl ⟨by rfl, ?_⟩) (by assumption) ?_
            rotate_left
            · intro w hSw; (try dsimp only at hSw); obtain ⟨⟨hs0, hs1, hs2⟩, hs3, hs4, hs5, hs6⟩ := hSw; go_simp; try with_reducible rfl
            simp only [Act.put, List.getElem_toArray, List.getElem_cons_zero, List.setIfInBounds_toArray, List.set_cons_zero]
            refine wpAnyH_take (i := 2) (v := ?_) rfl (by kernel_rfl) (by kernel_rfl) (by kernel_rfl) (fun _ _ _ h => h) (Or.inl ⟨by rfl, ?_⟩) (by assumption) ?_
            rotate_left
            · intro w hSw; (try dsimp only at hSw); obtain ⟨⟨hs0, hs1, hs2⟩, hs3, hs4, hs5, hs6⟩ := hSw; go_simp; try with_reducible rfl
            simp only [Act.put, List.getElem_toArray, List.getElem_cons_succ, List.getElem_cons_zero, List.setIfInBounds_toArray, List.set_cons_succ, List.set_cons_zero]
            refine wpAnyH_take (i := 3) (v := ?_) rfl (by kernel_rfl) (by kernel_rfl) (by kernel_rfl) (fun _ _ _ h => h) (Or.inl ⟨by rfl, ?_⟩) (by assumption) ?_
            rotate_left
            · intro w hSw; (try dsimp only at hSw); obtain ⟨⟨hs0, hs1, hs2⟩, hs3, hs4, hs5, hs6⟩ := hSw; go_simp; try with_reducible rfl
            simp only [Act.put, List.getElem_toArray, List.getElem_cons_succ, List.getElem_cons_zero, List.setIfInBounds_toArray, List.set_cons_succ, List.set_cons_zero]
            refine wpAnyH_ready (rs := [1]) (by kernel_rfl) (by simp) ?_
            refine AllReadyH.cons rfl (fun K hK => ?_) AllReadyH.nil
            go_simp
            refine (nameOfProp_any _ _ _ _).mono ?_
            rintro e w4 ⟨rfl, b4⟩
            have K4 := hide (hHeld.below b4)
            refine hK.out _ _ K4.out (fun hHeld2 => ?_)
            clear hK K hHeld
            have hHeld := hHeld2
            clear hHeld2
            simp only [List.setIfInBounds_toArray, List.set_cons_succ, List.set_cons_zero]
            refine wpAnyH_ready (rs := [4]) (by kernel_rfl) (by simp) ?_
            refine AllReadyH.cons rfl (fun K hK => ?_) AllReadyH.nil
            go_simp
            refine (nameOfProp_any _ _ _ _).mono ?_
            rintro e w5 ⟨rfl, b5⟩
            have K5 := hide (hHeld.below b5)
            refine hK.out _ _ K5.out (fun hHeld2 => ?_)
            clear hK K hHeld
            have hHeld := hHeld2
            clear hHeld2
            simp only [List.setIfInBounds_toArray, List.set_cons_succ, List.set_cons_zero]
            refine wpAnyH_take (i := 5) (v := .bool false) rfl (by kernel_rfl) (by kernel_rfl) (by kernel_rfl) (fun _ _ _ h => h) (Or.inl ⟨by rfl, ?_⟩) (by assumption) ?_
            · intro w hSw; (try dsimp only at hSw); obtain ⟨⟨hs0, hs1, hs2⟩, hs3, hs4, hs5, hs6⟩ := hSw; go_simp; rw [if_pos HZL.out.1, if_pos HZL.out.2]
            simp only [Act.put, List.getElem_toArray, List.getElem_cons_succ, List.getElem_cons_zero, List.setIfInBounds_toArray, List.set_cons_succ, List.set_cons_zero]
            refine wpAnyH_done (by kernel_rfl) ?_ _
            have c4 := HCA.out.trans (b4.mono HCA.out.size)
            have c5 := c4.trans (b5.mono c4.size)
            have hO5 := hO.next c5
            have c6 := hbe.trans (c5.mono hbe.size)
            have hbx6 : StAt w5 w.heap.size 0 (true, p) := by unfold StAt; simp only [Nat.zero_add]; exact K5.out.2
            have HST6 := hide (show acc ++ ((ps.drop at').drop (k + 1)).filter (neP p) = oneL ps (true, p) by rw [← hst.out, HDR.out, List.filter_cons, if_neg (by rw [← HZ.out]; exact Bool.false_ne_true)])
            clear hHeld K4 K5 c4 c5 b4 b5 HCA HTB hO hst hbe
            go_wp2
            go_roundw
            case rel => exact ⟨k + 1, acc, by omega, by go_num, hO5, hvv, HST6, hbx6, c6⟩
            case measure => simp [intOf]; omega
          · have HZL := hide (ne_true HZ.out.symm)
            go_wp2
            refine wp_region_held_drew (S := (fun W => TwoB W wr.heap.size q w.heap.size (true, p))) (by kernel_rfl) (by exact HTB.out) (fun hHeld => ?_)
            simp only [List.size_toArray, List.length_cons, List.length_nil, Nat.reduceAdd, Array.replicate_succ, Array.replicate_zero, List.push_toArray, List.nil_append, List.cons_append]
            refine wpAnyH_take (i := 0) (v := ?_) rfl (by kernel_rfl) (by kernel_rfl) (by kernel_rfl) (fun _ _ _ h => h) (Or.inl ⟨by rfl, ?_⟩) (by assumption) ?_
            rotate_left
            · intro w hSw; (try dsimp only at hSw); obtain ⟨⟨hs0, hs1, hs2⟩, hs3, hs4, hs5, hs6⟩ := hSw; go_simp; try with_reducible rfl
            simp only [Act.put, List.getElem_toArray, List.getElem_cons_zero, List.setIfInBounds_toArray, List.set_cons_zero]
            refine wpAnyH_take (i := 2) (v := ?_) rfl (by kernel_rfl) (by kernel_rfl) (by kernel_rfl) (fun _ _ _ h => h) (Or.inl ⟨by rfl, ?_⟩) (by assumption) ?_
            rotate_left
            · intro w hSw; (try dsimp only at hSw); obtain ⟨⟨hs0, hs1, hs2⟩, hs3, hs4, hs5, hs6⟩ := hSw; go_simp; try with_reducible rfl
            simp only [Act.put, List.getElem_toArray, List.getElem_cons_succ, List.getElem_cons_zero, List.setIfInBounds_toArray, List.set_cons_succ, List.set_cons_zero]
            refine wpAnyH_take (i := 3) (v := ?_) rfl (by kernel_rfl) (by kernel_rfl) (by kernel_rfl) (fun _ _ _ h => h) (Or.inl ⟨by rfl, ?_⟩) (by assumption) ?_
            rotate_left
            · intro w hSw; (try dsimp only at hSw); obtain ⟨⟨hs0, hs1, hs2⟩, hs3, hs4, hs5, hs6⟩ := hSw; go_simp; try with_reducible rfl
            simp only [Act.put, List.getElem_toArray, List.getElem_cons_succ, List.getElem_cons_zero, List.setIfInBounds_toArray, List.set_cons_succ, List.set_cons_zero]
            refine wpAnyH_ready (rs := [1]) (by kernel_rfl) (by simp) ?_
            refine AllReadyH.cons rfl (fun K hK => ?_) AllReadyH.nil
            go_simp
            refine (nameOfProp_any _ _ _ _).mono ?_
            rintro e w4 ⟨rfl, b4⟩
            have K4 := hide (hHeld.below b4)
            refine hK.out _ _ K4.out (fun hHeld2 => ?_)
            clear hK K hHeld
            have hHeld := hHeld2
            clear hHeld2
            simp only [List.setIfInBounds_toArray, List.set_cons_succ, List.set_cons_zero]
            refine wpAnyH_ready (rs := [4]) (by kernel_rfl) (by simp) ?_
            refine AllReadyH.cons rfl (fun K hK => ?_) AllReadyH.nil
            go_simp
            refine (nameOfProp_any _ _ _ _).mono ?_
            rintro e w5 ⟨rfl, b5⟩
            have K5 := hide (hHeld.below b5)
            refine hK.out _ _ K5.out (fun hHeld2 => ?_)
            clear hK K hHeld
            have hHeld := hHeld2
            clear hHeld2
            simp only [List.setIfInBounds_toArray, List.set_cons_succ, List.set_cons_zero]
            refine wpAnyH_take (i := 5) (v := .bool true) rfl (by kernel_rfl) (by kernel_rfl) (by kernel_rfl) (fun _ _ _ h => h) (Or.inl ⟨by rfl, ?_⟩) (by assumption) ?_
            · intro w hSw; (try dsimp only at hSw); obtain ⟨⟨hs0, hs1, hs2⟩, hs3, hs4, hs5, hs6⟩ := hSw; go_simp; exact fun e1 e2 => HZL.out ⟨e1, e2⟩
            simp only [Act.put, List.getElem_toArray, List.getElem_cons_succ, List.getElem_cons_zero, List.setIfInBounds_toArray, List.set_cons_succ, List.set_cons_zero]
            refine wpAnyH_done (by kernel_rfl) ?_ _
            have c4 := HCA.out.trans (b4.mono HCA.out.size)
            have c5 := c4.trans (b5.mono c4.size)
            have c6 := hbe.trans (c5.mono hbe.size)
            have HO6 := hide ((hO.next c5).alloc (Obj.cells #[.string q.1, .string q.2.1, .string q.2.2] 36))
            have HC6 := hide (c6.alloc c6.size (Obj.cells #[.string q.1, .string q.2.1, .string q.2.2] 36))
            obtain ⟨⟨hs0, hs1, hs2⟩, hs3, hs4, hs5, hs6⟩ := K5.out
            have HLN := hide (show acc.length + 1 ≤ 1099511627776 by have := HAL.out; omega)
            have HBX6 := hide (show StAt (w5.alloc (Obj.cells #[.string q.1, .string q.2.1, .string q.2.2] 36)) w.heap.size 0 (true, p) by
              have h5 : StAt w5 w.heap.size 0 (true, p) := by unfold StAt; simp only [Nat.zero_add]; exact K5.out.2
              exact h5.of (fun o' => (bcellP ((Below.refl w5.heap.size w5).alloc (Nat.le_refl _) _)).1 _ o' (by have := c6.size; omega)))
            have HST6 := hide (show (acc ++ [q]) ++ ((ps.drop at').drop (k + 1)).filter (neP p) = oneL ps (true, p) by rw [← hst.out, HDR.out, List.filter_cons, if_pos HZ.out.symm, List.append_assoc]; rfl)
            clear hHeld K4 K5 c4 c5 b4 b5 HCA HTB hO hst hbe c6
            go_wp2_with (at_builtin; refine wp_append_prop rfl _ _ rfl w1.heap.size _ acc rfl HO6.out _ q rfl ?_ ?_ ?_ HLN.out HC6.out.size ?_)
            intro g2 n2 cap2 w6 hn2 hO6 hb6
            have c7 := HC6.out.trans (hb6.mono (Nat.le_refl _))
            have hbx7 : StAt w6 w.heap.size 0 (true, p) := HBX6.out.of (fun o' => hb6.cell (p := ⟨w.heap.size, o', none⟩) (show w.heap.size < w1.heap.size by omega))
            clear hs0 hs1 hs2 hs3 hs4 hs5 hs6 hb6 hn2 HO6 HC6 HBX6 HLN
            go_wp2
            go_roundw
            case rel => exact ⟨k + 1, acc ++ [q], by omega, by go_num, hO6, hide ⟨_, _, _, rfl⟩, HST6, hbx7, c7⟩
            case measure => simp [intOf]; omega
        · have HACC := hide (show acc = oneL ps (true, p) by rw [← hst.out, List.drop_eq_nil_of_le (by rw [List.length_drop]; omega)]; simp)
          have hO7 := hO.base (C := w.heap.size) (by omega)
          have c7 := c1.trans (hbe.mono c1.size)
          clear hO hst hbx hbe
          go_wp2
          go_ret
          rw [← HACC.out]
          exact ⟨⟨_, rfl, hO7, hvv.out⟩, c7⟩
end Go.Proofs.Ytkgdmlfdlkmojaa
