/-
  What spec.SetProps does.
-/
import Derived.Test.YtkgdmlfdlkmojaaSpecOne
import Derived.Test.YtkgdmlfdlkmojaaSpecPropsOk
namespace Go.Proofs.Ytkgdmlfdlkmojaa
open Go.RowKit M
set_option linter.unusedVariables false

/-- All short, as far as sets go. -/
theorem turn_short {l : List Pp} {ss : List Sx} (h1 : ShortPs l) (h2 : ShortSs ss) (k : Nat) : ShortPs (turnL l (ss.take k)) := fun q hq => by
  rcases turn_mem l ss k q hq with h | ⟨s, hs, rfl⟩
  · exact h1 q h
  · exact h2 s hs

set_option maxRecDepth 100000 in
set_option maxHeartbeats 4000000 in
theorem specSetProps_any (a : Option Addr) (ps : List Pp) (cap B : Nat) (c : Option Addr) (ss : List Sx) (cap2 C : Nat) (w : World) (h : Pps w B a ps) (hB : B ≤ w.heap.size) (hpn : a = none → cap = 0) (hS : Sts w C c ss) (hC : C ≤ w.heap.size) (hl : ps.length ≤ 1048576) (hl2 : ss.length ≤ 1048576) (hsh : ShortPs ps) (hsh2 : ShortSs ss) :
    Calls Try.prog 10 #[.slice a ps.length cap, .slice c ss.length cap2] w fun e w' => (∃ g n cap', e = .returned (.tuple #[.slice (some ⟨g, 0, none⟩) n cap', .bool (setsB ps ss)]) ∧ n = (setsL ps ss).length ∧ OwnQ w' w.heap.size (.slice (some ⟨g, 0, none⟩) n cap') (setsL ps ss)) ∧ Below w.heap.size w w' := by
  have HM := hide (OwnQ.made w w.heap.size (Nat.le_refl _))
  have HB0 := hide ((Below.refl w.heap.size w).alloc (Nat.le_refl _) (Obj.cells #[] 36))
  have HP := hide (h.below HB0.out hB)
  have hl3 : ps.length ≤ 1048576000 := by omega
  have HBAD := hide (fun k hk e => sets_bad (l := ps) (ss := ss) k hk e)
  have HALL := hide (fun e => sets_all (l := ps) (ss := ss) e)
  have HNO := hide (fun e => sets_no (l := ps) (ss := ss) e)
  have HYES := hide (fun e => sets_yes (l := ps) (ss := ss) e)
  have HAPP : Hid (∀ (W : World) (hW : Below w.heap.size w W) {ops : Array Oper} {rest : List Oper} {o : Oper} {aa : Act} {Q : Exit → Act → World → Prop} (hgd : o.guard = none) (s x : Operand) (ho : o.op = .call { callee := .builtin .append, args := #[s, x], argTypes := #[24, 24] }) (hs : aa.eval s = .slice (some ⟨W.heap.size, 0, none⟩) 0 0) (hx : aa.eval x = .slice a ps.length cap) (hK : ∀ g cap' w', OwnQ w' w.heap.size (.slice (some ⟨g, 0, none⟩) ps.length cap') ps → Below w.heap.size w w' → wpList Try.prog ops Q rest (aa.put o.dst (.slice (some ⟨g, 0, none⟩) ps.length cap')) w'), wpList Try.prog ops Q (o :: rest) aa (W.alloc (Obj.cells #[] 36))) := by
    intro W hW ops rest o aa Q hgd s x ho hs hx hK
    have c1 : Below w.heap.size w (W.alloc (Obj.cells #[] 36)) := hW.alloc hW.size _
    exact wp_append_propsO hgd s x ho w.heap.size W.heap.size ps ps.length rfl hs (OwnQ.made W w.heap.size hW.size) B a cap hx (h.below c1 hB) hpn hl3 c1.size (fun g cap' w' hO hb => hK g cap' w' hO (c1.trans (hb.mono (Nat.le_refl _))))
  go_enter Try.func10, Try.ntmps10
  go_wp2_with (at_builtin; refine HAPP.out w (Below.refl _ _) rfl _ _ rfl rfl rfl ?_)
  intro g0 cap0 w0 hO0 hb0
  go_wp2
  go_loopw [6, 7] (fun out i wr => ∃ (k g n cc : Nat), k ≤ ss.length ∧ i = .int .i64 k ∧ out = .slice (some ⟨g, 0, none⟩) n cc ∧ Hid (n = (turnL ps (ss.take k)).length) ∧ OwnQ wr w.heap.size (.slice (some ⟨g, 0, none⟩) n cc) (turnL ps (ss.take k)) ∧ Hid (∀ j (hj : j < ss.length), j < k → propB ss[j].2 = true) ∧ Below w.heap.size w wr) (fun _ i _ => ss.length - (intOf i).toNat)
  case atStart => exact ⟨0, g0, ps.length, cap0, Nat.zero_le _, rfl, rfl, rfl, hO0, fun j _ hj => absurd hj (by omega), hb0⟩
  case round =>
    obtain ⟨k, g, n, cc, hk, rfl, rfl, hn, hO, hpr, hbe⟩ := hrel
    have HTL := hide (turn_len ps ss k)
    have HTS := hide (turn_short hsh hsh2 k)
    by_cases hlt : k < ss.length
    · obtain ⟨b, o, rfl, hb, hc⟩ := (hS.below hbe hC) (by omega)
      obtain ⟨hcd, hcx, hcy, hcz⟩ := hc k hlt
      obtain ⟨z1, z2, z3⟩ := hsh2.at k hlt
      have HN := hide (turn_next ps ss k hlt)
      have HSP := hide (specProp_any ss[k].2 wr z1 z2 z3)
      obtain ⟨u, hu⟩ : ∃ u, propB ss[k].2 = u := ⟨_, rfl⟩
      rw [hu] at HSP
      have HU := hide hu
      have hbb : b < w.heap.size := by omega
      clear hu hc z1 z2 z3
      go_wp2_with fail
      refine HSP.out.mono ?_
      rintro e w1 ⟨rfl, b1⟩
      have c1 := hbe.trans (b1.mono hbe.size)
      have hO1 := hO.next b1
      have hbw : b < wr.heap.size := by have := hbe.size; omega
      have kc : ∀ o', w1.cell? ⟨b, o', none⟩ = wr.cell? ⟨b, o', none⟩ := fun o' => (bcellP b1).1 b o' hbw
      have hcd1 := (kc _).trans hcd
      have hcx1 := (kc _).trans hcx
      have hcy1 := (kc _).trans hcy
      have hcz1 := (kc _).trans hcz
      clear hO b1 kc
      cases u
      · have HR := hide (HBAD.out k hlt HU.out)
        go_wp2_with (at_builtin; refine HAPP.out w1 c1 rfl _ _ rfl rfl rfl ?_)
        intro g2 cap2 w2 hO2 hb2
        go_wp2
        go_ret2
        rw [HR.out.1, HR.out.2]
        exact ⟨⟨_, _, _, rfl, rfl, hO2⟩, hb2⟩
      · obtain ⟨l, hL⟩ : ∃ l, turnL ps (ss.take k) = l := ⟨_, rfl⟩
        rw [hL] at hO1 hn HN HTL HTS
        have hnl := hn.out
        obtain ⟨aq, cq, eq, hcn, hpq, _⟩ := hO1.slice
        have eq2 : Value.slice (some ⟨g, 0, none⟩) n cc = .slice (some ⟨g, 0, none⟩) l.length cc := by rw [hnl]
        obtain rfl : aq = some ⟨g, 0, none⟩ := by rw [eq2] at eq; cases eq; rfl
        have HONE := hide (specOne_any (some ⟨g, 0, none⟩) l cc w1.heap.size ss[k].1 ss[k].2 w1 hpq (Nat.le_refl _) (by have := HTL.out; omega))
        rw [← hnl] at HONE
        clear hL hnl eq eq2 hpq hcn
        go_wp2_with fail
        refine HONE.out.mono ?_
        rintro e w2 ⟨⟨g2, n2, cap2, rfl, hn2, hO2⟩, b2⟩
        have c2 := c1.trans (b2.mono c1.size)
        have HN2 := hide hn2
        have hO3 := hO2.base c1.size
        clear hn2 hO2
        go_wp2
        go_roundw
        case rel => exact ⟨k + 1, g2, n2, cap2, by omega, by go_num, rfl, hide (by rw [HN.out]; exact HN2.out), (by rw [HN.out]; exact hO3), hide (fun j hj hjk => if e : j = k then by subst e; exact HU.out else hpr.out j hj (by omega)), c2⟩
        case measure => simp [intOf]; omega
    · have HTE := hide (show ss.take k = ss from List.take_of_length_le (by omega))
      rw [HTE.out] at hn hO HTL HTS
      obtain ⟨l, hL⟩ : ∃ l, turnL ps ss = l := ⟨_, rfl⟩
      have HA := hide (HALL.out (fun j hj => hpr.out j hj (by omega)))
      rw [hL] at hO hn HTL HTS HA HYES
      have hnl := hn.out
      obtain ⟨aq, cq, eq, hcn, hpq, _⟩ := hO.slice
      have eq2 : Value.slice (some ⟨g, 0, none⟩) n cc = .slice (some ⟨g, 0, none⟩) l.length cc := by rw [hnl]
      obtain rfl : aq = some ⟨g, 0, none⟩ := by rw [eq2] at eq; cases eq; rfl
      have HPO := hide (specPropsOk_any (some ⟨g, 0, none⟩) l cc wr.heap.size wr hpq (Nat.le_refl _) HTS.out (by have := HTL.out; unfold maxLen; omega))
      rw [← hnl] at HPO
      clear hL hnl eq eq2 hpq hcn
      obtain ⟨u, hu⟩ : ∃ u, propsB l = u := ⟨_, rfl⟩
      rw [hu] at HPO HA
      clear hu
      go_wp2_with fail
      refine HPO.out.mono ?_
      rintro e w1 ⟨rfl, b1⟩
      have c1 := hbe.trans (b1.mono hbe.size)
      have hO1 := hO.next b1
      clear hO b1
      cases u
      · go_wp2_with (at_builtin; refine HAPP.out w1 c1 rfl _ _ rfl rfl rfl ?_)
        intro g2 cap2 w2 hO2 hb2
        go_wp2
        go_ret2
        rw [HNO.out HA.out, HA.out]
        exact ⟨⟨_, _, _, rfl, rfl, hO2⟩, hb2⟩
      · go_wp2
        go_ret2
        rw [HYES.out HA.out, HA.out]
        exact ⟨⟨_, _, _, rfl, hn.out, hO1⟩, c1⟩
end Go.Proofs.Ytkgdmlfdlkmojaa
