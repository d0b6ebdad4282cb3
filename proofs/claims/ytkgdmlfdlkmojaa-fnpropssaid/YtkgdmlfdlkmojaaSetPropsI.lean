/-
  What impl.SetProps does.
-/
import Derived.Test.YtkgdmlfdlkmojaaTurnedBy
import Derived.Test.YtkgdmlfdlkmojaaPropsOk
import Derived.Test.YtkgdmlfdlkmojaaCopyProps
namespace Go.Proofs.Ytkgdmlfdlkmojaa
open Go.RowKit M
set_option linter.unusedVariables false

/-- All of at most this size. -/
def SmallPs (ps : List Pp) : Prop := ∀ p ∈ ps, p.1.size ≤ 281474976710656 ∧ p.2.1.size ≤ 281474976710656 ∧ p.2.2.size ≤ 281474976710656
def SmallSs (ss : List Sx) : Prop := ∀ s ∈ ss, s.2.1.size ≤ 281474976710656 ∧ s.2.2.1.size ≤ 281474976710656 ∧ s.2.2.2.size ≤ 281474976710656
theorem SmallPs.short {ps : List Pp} (h : SmallPs ps) : ShortPs ps := fun p hp => by have := h p hp; unfold maxLen; omega
theorem SmallSs.short {ss : List Sx} (h : SmallSs ss) : ShortSs ss := fun p hp => by have := h p hp; unfold maxLen; omega
theorem turn_small {l : List Pp} {ss : List Sx} (h1 : SmallPs l) (h2 : SmallSs ss) (k : Nat) : SmallPs (turnL l (ss.take k)) := fun q hq => by
  rcases turn_mem l ss k q hq with h | ⟨s, hs, rfl⟩
  · exact h1 q h
  · exact h2 s hs
theorem propsB_len {ps : List Pp} (h : propsB ps = true) : ps.length ≤ 4 := by
  by_cases e : ps.length ≤ 4
  · exact e
  · rw [propsB_long e] at h; cases h
/-- A row of the call's own, as a slice with an address. -/
theorem turned_slice {w : World} {B : Nat} {v : Value} {ps : List Pp} (h : OwnQ w B v ps) (hv : ∃ g n c, v = .slice (some ⟨g, 0, none⟩) n c) : ∃ g n cap, v = .slice (some ⟨g, 0, none⟩) n cap ∧ n = ps.length ∧ Pps w w.heap.size (some ⟨g, 0, none⟩) ps ∧ n ≤ cap ∧ cap ≤ maxLen := by
  obtain ⟨g, n, c, rfl⟩ := hv
  obtain ⟨a, cap, e, hn, hp, hm⟩ := h.slice
  cases e
  obtain ⟨r, _, hc, hm2⟩ := h.row rfl
  exact ⟨g, _, c, rfl, rfl, hp, hc, hm2⟩

set_option maxRecDepth 100000 in
set_option maxHeartbeats 4000000 in
theorem setProps_any (b0 o0 : Nat) (ps : List Pp) (cap B : Nat) (c : Option Addr) (ss : List Sx) (cap2 C : Nat) (w : World) (h : Pps w B (some ⟨b0, o0, none⟩) ps) (hB : B ≤ w.heap.size) (hcap : ps.length ≤ cap) (hcm : cap ≤ maxLen) (hS : Sts w C c ss) (hC : C ≤ w.heap.size) (hl : ps.length ≤ 1048576) (hl2 : ss.length ≤ 1048576) (hsh : SmallPs ps) (hsh2 : SmallSs ss) :
    Calls Try.prog 9 #[.slice (some ⟨b0, o0, none⟩) ps.length cap, .slice c ss.length cap2] w fun e w' => (∃ g, w.heap.size ≤ g ∧ e = .returned (.tuple #[.slice (some ⟨g, 0, none⟩) (setsL ps ss).length (setsL ps ss).length, .bool (setsB ps ss)]) ∧ RowP w' g (setsL ps ss)) ∧ Below w.heap.size w w' := by
  have HBAD := hide (fun k hk e => sets_bad (l := ps) (ss := ss) k hk e)
  have HALL := hide (fun e => sets_all (l := ps) (ss := ss) e)
  have HNO := hide (fun e => sets_no (l := ps) (ss := ss) e)
  have HYES := hide (fun e => sets_yes (l := ps) (ss := ss) e)
  have HCP := hide (fun W (hW : Below w.heap.size w W) => copyProps_any (some ⟨b0, o0, none⟩) ps cap B W (h.below hW hB) (Nat.le_trans hB hW.size) hl hsh)
  unfold maxLen at hcm
  go_enter Try.func9, Try.ntmps9
  go_wp2
  go_loopw [6, 12] (fun nx i wr => ∃ (k b o n cc : Nat), k ≤ ss.length ∧ i = .int .i64 k ∧ nx = .slice (some ⟨b, o, none⟩) n cc ∧ Hid (n = (turnL ps (ss.take k)).length) ∧ n ≤ cc ∧ cc ≤ 9223372036854775807 ∧ Pps wr wr.heap.size (some ⟨b, o, none⟩) (turnL ps (ss.take k)) ∧ Hid (∀ j (hj : j < ss.length), j < k → propB ss[j].2 = true) ∧ Below w.heap.size w wr) (fun _ i _ => ss.length - (intOf i).toNat)
  case atStart => exact ⟨0, b0, o0, ps.length, cap, Nat.zero_le _, rfl, rfl, rfl, hcap, by omega, h.mono hB, fun j _ hj => absurd hj (by omega), Below.refl _ _⟩
  case round =>
    obtain ⟨k, b, o, n, cc, hk, rfl, rfl, hn, hnc, hcc, hP, hpr, hbe⟩ := hrel
    have HTL := hide (turn_len ps ss k)
    have HTS := hide (turn_small hsh hsh2 k)
    by_cases hlt : k < ss.length
    · obtain ⟨b2, o2, rfl, hb2, hc⟩ := (hS.below hbe hC) (by omega)
      obtain ⟨hcd, hcx, hcy, hcz⟩ := hc k hlt
      obtain ⟨z1, z2, z3⟩ := hsh2.short.at k hlt
      have HN := hide (turn_next ps ss k hlt)
      have HBA := hide ((Below.refl wr.heap.size wr).alloc (Nat.le_refl _) (Obj.cells #[.bool ss[k].1, .string ss[k].2.1, .string ss[k].2.2.1, .string ss[k].2.2.2] 38))
      have HBX := hide (show StAt (wr.alloc (Obj.cells #[.bool ss[k].1, .string ss[k].2.1, .string ss[k].2.2.1, .string ss[k].2.2.2] 38)) wr.heap.size 0 ss[k] by unfold StAt; simp)
      have HPO := hide (fun W => propOk_any ss[k].2 W z1 z2 z3)
      obtain ⟨u, hu⟩ : ∃ u, propB ss[k].2 = u := ⟨_, rfl⟩
      simp only [hu] at HPO
      have HU := hide hu
      have hki : (k : Int) < (ss.length : Int) := by omega
      clear hu hc z1 z2 z3
      go_wp2_with fail
      refine (HPO.out _).mono ?_
      rintro e w1 ⟨rfl, b1⟩
      have d1 := HBA.out.trans (b1.mono HBA.out.size)
      have c1 := hbe.trans (d1.mono hbe.size)
      have hP1 := hP.below d1 (Nat.le_refl _)
      have hbx1 : StAt w1 wr.heap.size 0 ss[k] := HBX.out.of (fun o' => (bcellP b1).1 _ o' (by simp))
      obtain ⟨hq0, hq1, hq2, hq3⟩ := hbx1
      simp only [Nat.zero_add] at hq0 hq1 hq2 hq3
      clear hP b1 HPO HBX
      cases u
      · have HR := hide (HBAD.out k hlt HU.out)
        have HC1 := hide (HCP.out w1 c1)
        go_wp2_with fail
        refine HC1.out.mono ?_
        rintro e w2 ⟨rfl, r2, b2⟩
        have c2 := c1.trans (b2.mono c1.size)
        go_wp2
        go_ret2
        rw [HR.out.1, HR.out.2]
        exact ⟨⟨_, c1.size, rfl, r2⟩, c2⟩
      · obtain ⟨l, hL⟩ : ∃ l, turnL ps (ss.take k) = l := ⟨_, rfl⟩
        rw [hL] at hP1 hn HN HTL HTS
        have hnl := hn.out
        have HONE := hide (turnedBy_any b o l cc wr.heap.size ss[k].1 ss[k].2 w1 hP1 d1.size (by have := HTL.out; omega) (by omega) (by unfold maxLen; omega))
        rw [← hnl] at HONE
        clear hL hnl hP1
        go_wp2_with fail
        refine HONE.out.mono ?_
        rintro e w2 ⟨⟨v2, rfl, hO2, hv2⟩, b2⟩
        have c2 := c1.trans (b2.mono c1.size)
        obtain ⟨g2, n2, cap2, e2, hn2, hp2, hc2, hm2⟩ := turned_slice hO2 hv2
        clear hv2
        subst e2
        have HN2 := hide hn2
        clear hn2 hO2
        go_wp2
        go_roundw
        case rel => exact ⟨k + 1, g2, 0, n2, cap2, by omega, by go_num, rfl, hide (by rw [HN.out]; exact HN2.out), hc2, by unfold maxLen at hm2; omega, by rw [HN.out]; exact hp2, hide (fun j hj hjk => if e : j = k then by subst e; exact HU.out else hpr.out j hj (by omega)), c2⟩
        case measure => simp [intOf]; omega
    · have HEND := hide (HALL.out (fun j hj => hpr.out j hj (by omega)))
      have HTK := hide (show ss.take k = ss from List.take_of_length_le (by omega))
      obtain ⟨l, hL⟩ : ∃ l, turnL ps (ss.take k) = l := ⟨_, rfl⟩
      have HLE := hide (show turnL ps ss = l by rw [← hL, HTK.out])
      rw [hL] at hP hn HTL HTS
      have hnl := hn.out
      have HPK := hide (propsOk_any (some ⟨b, o, none⟩) l cc wr.heap.size wr hP (Nat.le_refl _) HTS.out.short (by have := HTL.out; unfold maxLen; omega))
      have HCL := hide (fun W (hW : Below wr.heap.size wr W) (hle : l.length ≤ 1048576) => copyProps_any (some ⟨b, o, none⟩) l cc wr.heap.size W (hP.below hW (Nat.le_refl _)) hW.size hle HTS.out)
      rw [← hnl] at HPK
      simp only [← hnl] at HCL
      obtain ⟨u, hu⟩ : ∃ u, propsB l = u := ⟨_, rfl⟩
      rw [hu] at HPK
      have HE2 := hide (show setsB ps ss = u by rw [HEND.out, HLE.out, hu])
      have HLN := hide (fun (e : u = true) => propsB_len (ps := l) (by rw [hu]; exact e))
      clear hL hnl hu
      go_wp2_with fail
      refine HPK.out.mono ?_
      rintro e w1 ⟨rfl, b1⟩
      have c1 := hbe.trans (b1.mono hbe.size)
      cases u
      · have HC1 := hide (HCP.out w1 c1)
        have HR := hide (HNO.out HE2.out)
        go_wp2_with fail
        refine HC1.out.mono ?_
        rintro e w2 ⟨rfl, r2, b2⟩
        have c2 := c1.trans (b2.mono c1.size)
        go_wp2
        go_ret2
        rw [HR.out, HE2.out]
        exact ⟨⟨_, c1.size, rfl, r2⟩, c2⟩
      · have HR := hide (HYES.out HE2.out)
        have HC1 := hide (HCL.out w1 b1 (by have := HLN.out (by trivial); have := hn.out; omega))
        go_wp2_with fail
        refine HC1.out.mono ?_
        rintro e w2 ⟨rfl, r2, b2⟩
        have c2 := c1.trans (b2.mono c1.size)
        go_wp2
        go_ret2
        rw [HR.out, HE2.out, HLE.out, ← hn.out]
        exact ⟨⟨_, c1.size, rfl, r2⟩, c2⟩
end Go.Proofs.Ytkgdmlfdlkmojaa
