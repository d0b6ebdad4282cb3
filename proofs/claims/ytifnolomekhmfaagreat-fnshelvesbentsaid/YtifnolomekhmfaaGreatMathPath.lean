/-
  What spec.SetProps does.
  What is right of what is known is small.
  What is drawn of what is known: one, and a right list of them.
  Where a thing stands in a list of things.
  A list of texts without its last.
  Plain facts on quoted texts: no program in sight.
  Plain facts on numbers' digits: no program in sight.
  Plain facts on numbers read of their digits: no program in sight.
  Plain facts on numbers read of their digits to the base 16: no program in sight.
  Plain facts on what is unquoted: no program in sight.
  What is quoted comes back, and is plain: no program in sight.
  Plain facts on names and paths: no program in sight.
-/
import Derived.Test.YtifnolomekhmfaaGreatSpecOne
import Derived.Test.YtifnolomekhmfaaGreatSpecPropsOk
import Derived.Test.YtifnolomekhmfaaGreatEqBs
import Derived.Test.YtifnolomekhmfaaGreatHide
import Derived.Test.YtifnolomekhmfaaGreatMathOrder
import GoSem.Op.String
import Derived.Lib.ItoaNum
import Derived.Lib.Atoi
namespace Go.Proofs.YtifnolomekhmfaaGreat
open Go.RowKit M
set_option linter.unusedVariables false

/-- All short, as far as sets go. -/
theorem turn_short {l : List Pp} {ss : List Sx} (h1 : ShortPs l) (h2 : ShortSs ss) (k : Nat) : ShortPs (turnL l (ss.take k)) := fun q hq => by
  rcases turn_mem l ss k q hq with h | ⟨s, hs, rfl⟩
  · exact h1 q h
  · exact h2 s hs

set_option maxRecDepth 100000 in
set_option maxHeartbeats 4000000 in
theorem specSetProps_any (a : Option Addr) (ps : List Pp) (cap B : Nat) (c : Option Addr) (ss : List Sx) (cap2 C : Nat) (w : World) (h : Pps w B a ps) (hB : B ≤ w.heap.size) (hpn : a = none → cap = 0) (hS : Sts w C c ss) (hC : C ≤ w.heap.size) (hl : ps.length ≤ 1048576) (hl2 : ss.length ≤ 1048576) (hsh : ShortPs ps) (hsh2 : ShortSs ss) :
    Calls Tryz.prog 100 #[.slice a ps.length cap, .slice c ss.length cap2] w fun e w' => (∃ g n cap', e = .returned (.tuple #[.slice (some ⟨g, 0, none⟩) n cap', .bool (setsB ps ss)]) ∧ n = (setsL ps ss).length ∧ OwnQ w' w.heap.size (.slice (some ⟨g, 0, none⟩) n cap') (setsL ps ss)) ∧ Below w.heap.size w w' := by
  have HM := hide (OwnQ.made w w.heap.size (Nat.le_refl _))
  have HB0 := hide ((Below.refl w.heap.size w).alloc (Nat.le_refl _) (Obj.cells #[] 88))
  have HP := hide (h.below HB0.out hB)
  have hl3 : ps.length ≤ 1048576000 := by omega
  have HBAD := hide (fun k hk e => sets_bad (l := ps) (ss := ss) k hk e)
  have HALL := hide (fun e => sets_all (l := ps) (ss := ss) e)
  have HNO := hide (fun e => sets_no (l := ps) (ss := ss) e)
  have HYES := hide (fun e => sets_yes (l := ps) (ss := ss) e)
  have HAPP : Hid (∀ (W : World) (hW : Below w.heap.size w W) {ops : Array Oper} {rest : List Oper} {o : Oper} {aa : Act} {Q : Exit → Act → World → Prop} (hgd : o.guard = none) (s x : Operand) (ho : o.op = .call { callee := .builtin .append, args := #[s, x], argTypes := #[42, 42] }) (hs : aa.eval s = .slice (some ⟨W.heap.size, 0, none⟩) 0 0) (hx : aa.eval x = .slice a ps.length cap) (hK : ∀ g cap' w', OwnQ w' w.heap.size (.slice (some ⟨g, 0, none⟩) ps.length cap') ps → Below w.heap.size w w' → wpList Tryz.prog ops Q rest (aa.put o.dst (.slice (some ⟨g, 0, none⟩) ps.length cap')) w'), wpList Tryz.prog ops Q (o :: rest) aa (W.alloc (Obj.cells #[] 88))) := by
    intro W hW ops rest o aa Q hgd s x ho hs hx hK
    have c1 : Below w.heap.size w (W.alloc (Obj.cells #[] 88)) := hW.alloc hW.size _
    exact wp_append_propsO hgd s x ho w.heap.size W.heap.size ps ps.length rfl hs (OwnQ.made W w.heap.size hW.size) B a cap hx (h.below c1 hB) hpn hl3 c1.size (fun g cap' w' hO hb => hK g cap' w' hO (c1.trans (hb.mono (Nat.le_refl _))))
  go_enter Tryz.func100, Tryz.ntmps100
  go_wp2_with (at_builtin; refine HAPP.out w (Below.refl _ _) rfl _ _ rfl rfl rfl ?_)
  intro g0 cap0 w0 hO0 hb0
  go_wp2
  go_loopw [6, 7] (fun out i wr => ∃ (k g n cc : Nat), k ≤ ss.length ∧ i = .int .i64 k ∧ out = .slice (some ⟨g, 0, none⟩) n cc ∧ Hid (n = (turnL ps (ss.take k)).length) ∧ OwnQ wr w.heap.size (.slice (some ⟨g, 0, none⟩) n cc) (turnL ps (ss.take k)) ∧ Hid (∀ j (hj : j < ss.length), j < k → propB ss[j].2 = true) ∧ Below w.heap.size w wr) (fun _ i _ => ss.length - (intOf i).toNat)
  case atStart => exact ⟨0, g0, ps.length, cap0, Nat.zero_le _, rfl, rfl, rfl, hO0, fun j _ hj => absurd hj (by omega), hb0⟩
  case round =>
    obtain ⟨k, g, n, cc, hk, rfl, rfl, hn, hO, hpr, hbe⟩ := hrel
    have HTL := hide (turn_len ps ss k)
    have HTS := hide (turn_short hsh hsh2 k)
    by_cases hlt : k < ss.length
    · obtain ⟨b, o, rfl, hb, hc⟩ := (hS.below hbe hC) (by omega)
      obtain ⟨hcd, hcx, hcy, hcz⟩ := hc k hlt
      obtain ⟨z1, z2, z3⟩ := hsh2.at k hlt
      have HN := hide (turn_next ps ss k hlt)
      have HSP := hide (specProp_any ss[k].2 wr z1 z2 z3)
      obtain ⟨u, hu⟩ : ∃ u, propB ss[k].2 = u := ⟨_, rfl⟩
      rw [hu] at HSP
      have HU := hide hu
      have hbb : b < w.heap.size := by omega
      clear hu hc z1 z2 z3
      go_wp2_with fail
      refine HSP.out.mono ?_
      rintro e w1 ⟨rfl, b1⟩
      have c1 := hbe.trans (b1.mono hbe.size)
      have hO1 := hO.next b1
      have hbw : b < wr.heap.size := by have := hbe.size; omega
      have kc : ∀ o', w1.cell? ⟨b, o', none⟩ = wr.cell? ⟨b, o', none⟩ := fun o' => (bcellP b1).1 b o' hbw
      have hcd1 := (kc _).trans hcd
      have hcx1 := (kc _).trans hcx
      have hcy1 := (kc _).trans hcy
      have hcz1 := (kc _).trans hcz
      clear hO b1 kc
      cases u
      · have HR := hide (HBAD.out k hlt HU.out)
        go_wp2_with (at_builtin; refine HAPP.out w1 c1 rfl _ _ rfl rfl rfl ?_)
        intro g2 cap2 w2 hO2 hb2
        go_wp2
        go_ret2
        rw [HR.out.1, HR.out.2]
        exact ⟨⟨_, _, _, rfl, rfl, hO2⟩, hb2⟩
      · obtain ⟨l, hL⟩ : ∃ l, turnL ps (ss.take k) = l := ⟨_, rfl⟩
        rw [hL] at hO1 hn HN HTL HTS
        have hnl := hn.out
        obtain ⟨aq, cq, eq, hcn, hpq, _⟩ := hO1.slice
        have eq2 : Value.slice (some ⟨g, 0, none⟩) n cc = .slice (some ⟨g, 0, none⟩) l.length cc := by rw [hnl]
        obtain rfl : aq = some ⟨g, 0, none⟩ := by rw [eq2] at eq; cases eq; rfl
        have HONE := hide (specOne_any (some ⟨g, 0, none⟩) l cc w1.heap.size ss[k].1 ss[k].2 w1 hpq (Nat.le_refl _) (by have := HTL.out; omega))
        rw [← hnl] at HONE
        clear hL hnl eq eq2 hpq hcn
        go_wp2_with fail
        refine HONE.out.mono ?_
        rintro e w2 ⟨⟨g2, n2, cap2, rfl, hn2, hO2⟩, b2⟩
        have c2 := c1.trans (b2.mono c1.size)
        have HN2 := hide hn2
        have hO3 := hO2.base c1.size
        clear hn2 hO2
        go_wp2
        go_roundw
        case rel => exact ⟨k + 1, g2, n2, cap2, by omega, by go_num, rfl, hide (by rw [HN.out]; exact HN2.out), (by rw [HN.out]; exact hO3), hide (fun j hj hjk => if e : j = k then by subst e; exact HU.out else hpr.out j hj (by omega)), c2⟩
        case measure => simp [intOf]; omega
    · have HTE := hide (show ss.take k = ss from List.take_of_length_le (by omega))
      rw [HTE.out] at hn hO HTL HTS
      obtain ⟨l, hL⟩ : ∃ l, turnL ps ss = l := ⟨_, rfl⟩
      have HA := hide (HALL.out (fun j hj => hpr.out j hj (by omega)))
      rw [hL] at hO hn HTL HTS HA HYES
      have hnl := hn.out
      obtain ⟨aq, cq, eq, hcn, hpq, _⟩ := hO.slice
      have eq2 : Value.slice (some ⟨g, 0, none⟩) n cc = .slice (some ⟨g, 0, none⟩) l.length cc := by rw [hnl]
      obtain rfl : aq = some ⟨g, 0, none⟩ := by rw [eq2] at eq; cases eq; rfl
      have HPO := hide (specPropsOk_any (some ⟨g, 0, none⟩) l cc wr.heap.size wr hpq (Nat.le_refl _) HTS.out (by have := HTL.out; unfold maxLen; omega))
      rw [← hnl] at HPO
      clear hL hnl eq eq2 hpq hcn
      obtain ⟨u, hu⟩ : ∃ u, propsB l = u := ⟨_, rfl⟩
      rw [hu] at HPO HA
      clear hu
      go_wp2_with fail
      refine HPO.out.mono ?_
      rintro e w1 ⟨rfl, b1⟩
      have c1 := hbe.trans (b1.mono hbe.size)
      have hO1 := hO.next b1
      clear hO b1
      cases u
      · go_wp2_with (at_builtin; refine HAPP.out w1 c1 rfl _ _ rfl rfl rfl ?_)
        intro g2 cap2 w2 hO2 hb2
        go_wp2
        go_ret2
        rw [HNO.out HA.out, HA.out]
        exact ⟨⟨_, _, _, rfl, rfl, hO2⟩, hb2⟩
      · go_wp2
        go_ret2
        rw [HYES.out HA.out, HA.out]
        exact ⟨⟨_, _, _, rfl, hn.out, hO1⟩, c1⟩
end Go.Proofs.YtifnolomekhmfaaGreat
namespace Go.Proofs.YtifnolomekhmfaaGreat
open M

theorem prop_small {p : Pp} (h : propB p = true) : szP p ≤ 60 := by
  unfold propB at h
  simp only [Bool.and_eq_true, decide_eq_true_eq] at h
  obtain ⟨h1, _, h2, h3, _⟩ := h
  have h4 : p.2.1.size ≤ 20 := by
    have e : p.2.1.data.toList.length = p.2.1.size := Array.length_toList
    cases hd : p.2.1.data.toList with
    | nil => rw [hd] at e; simp at e; omega
    | cons c r =>
      rw [hd] at h2 e
      unfold smB at h2
      simp only [Bool.and_eq_true, decide_eq_true_eq] at h2
      omega
  unfold szP
  omega
end Go.Proofs.YtifnolomekhmfaaGreat
namespace Go.Proofs.YtifnolomekhmfaaGreat
open Go.RowKit M
set_option linter.unusedVariables false

/-- Three cells of a box. -/
structure B3 (w : World) (b : Nat) (v0 v1 v2 : Value) : Prop where
  lt : b < w.heap.size
  c0 : w.cell? ⟨b, 0, none⟩ = some v0
  c1 : w.cell? ⟨b, 1, none⟩ = some v1
  c2 : w.cell? ⟨b, 2, none⟩ = some v2
  fz : ∀ k, w.frozen? ⟨b, k, none⟩ = false
theorem B3.of {w w' : World} {b : Nat} {v0 v1 v2 : Value} (h : B3 w b v0 v1 v2) (hs : w.heap.size ≤ w'.heap.size) (hb : w'.heap[b]? = w.heap[b]?) : B3 w' b v0 v1 v2 :=
  ⟨Nat.lt_of_lt_of_le h.lt hs, (World.cell?_of_block (a := ⟨b, 0, none⟩) hb).trans h.c0, (World.cell?_of_block (a := ⟨b, 1, none⟩) hb).trans h.c1, (World.cell?_of_block (a := ⟨b, 2, none⟩) hb).trans h.c2, fun k => by have := h.fz k; simp only [World.frozen?, hb] at this ⊢; exact this⟩
theorem B3.grown {w w' : World} {b N : Nat} {v0 v1 v2 : Value} (h : B3 w b v0 v1 v2) (hg : w.grownBy w' (some N)) (hN : b ≠ N) : B3 w' b v0 v1 v2 :=
  h.of hg.size (hg.block b h.lt (by simpa using hN))
theorem B3.made (w : World) (v0 v1 v2 : Value) (T : TypeId) : B3 (w.alloc (Obj.cells #[v0, v1, v2] T)) w.heap.size v0 v1 v2 :=
  ⟨by simp, by simp, by simp, by simp, fun k => World.frozen?_alloc_new w _ _ k⟩

def nsQ : List ByteArray := [⟨#[68, 65, 86, 58]⟩, ⟨#[117, 58, 120]⟩, ⟨#[]⟩]
def nmQ : List ByteArray := [⟨#[97]⟩, ⟨#[99, 111, 108, 111, 114]⟩, ⟨#[98]⟩]
def vlQ : List ByteArray := [⟨#[]⟩, ⟨#[114, 101, 100]⟩, ⟨#[97, 60, 98]⟩]
/-- Short in all its parts. -/
def FewP (p : Pp) : Prop := p.1.size ≤ 30 ∧ p.2.1.size ≤ 30 ∧ p.2.2.size ≤ 30

set_option maxRecDepth 100000 in
set_option maxHeartbeats 4000000 in
theorem l10OneProp_any {w : World} {N : Nat} {a : Option Addr} {len cap : Nat} {zs : List Int} (h : DX w N a len cap zs) :
    Calls Tryz.prog 105 #[.pointer (some ⟨N, 0, none⟩)] w fun e w' => (∃ p : Pp, e = .returned (.agg #[.string p.1, .string p.2.1, .string p.2.2]) ∧ FewP p) ∧ DX w' N a len cap zs ∧ w.grownBy w' (some N) := by
  have hNl := h.lt
  have DA := hide (h.alloc (Obj.cells #[Value.string { data := #[] }, Value.string { data := #[] }, Value.string { data := #[] }] 88))
  have BR := hide (B3.made w (.string ⟨#[]⟩) (.string ⟨#[]⟩) (.string ⟨#[]⟩) 88)
  have GA := hide (grown_alloc (grown_refl w (some N)) (Obj.cells #[Value.string { data := #[] }, Value.string { data := #[] }, Value.string { data := #[] }] 88))
  obtain ⟨wA, hwA⟩ : ∃ wA, w.alloc (Obj.cells #[Value.string { data := #[] }, Value.string { data := #[] }, Value.string { data := #[] }] 88) = wA := ⟨_, rfl⟩
  rw [hwA] at DA BR GA
  clear h
  go_enter Tryz.func105, Tryz.ntmps105
  go_wp2_with fail
  refine (strNewQ DA.out 30 nsQ _ _ 3 _ rfl rfl rfl (by decide) (by decide) (by decide)).mono ?_
  rintro e w1 ⟨⟨s1, rfl, hs1⟩, dx1, g1⟩
  have D1 := hide dx1
  have G1 := hide (grown_trans GA.out g1)
  have BR1 := hide (BR.out.grown g1 (by omega))
  clear dx1 g1 hwA DA GA BR
  go_wp2_with fail
  refine (strNewQ D1.out 30 nmQ _ _ 3 _ rfl rfl rfl (by decide) (by decide) (by decide)).mono ?_
  rintro e w2 ⟨⟨s2, rfl, hs2⟩, dx2, g2⟩
  have D2 := hide dx2
  have G2 := hide (grown_trans G1.out g2)
  have BR2 := hide (BR1.out.grown g2 (by omega))
  clear dx2 g2 D1 G1 BR1
  go_wp2_with fail
  refine (strNewQ D2.out 30 vlQ _ _ 3 _ rfl rfl rfl (by decide) (by decide) (by decide)).mono ?_
  rintro e w3 ⟨⟨s3, rfl, hs3⟩, dx3, g3⟩
  have D3 := hide dx3
  have G3 := hide (grown_trans G2.out g3)
  have BR3 := hide (BR2.out.grown g3 (by omega))
  clear dx3 g3 D2 G2 BR2
  obtain ⟨_, r0, r1, r2, rz⟩ := BR3.out
  go_wp2
  refine bodyPost_ret (v := .agg #[.string s1, .string s2, .string s3]) (by simp [results, Tryz.results105, go_sem, r0, r1, r2]) rfl ⟨⟨(s1, s2, s3), rfl, hs1, hs2, hs3⟩, ((D3.out.set _ hNl).set _ hNl).set _ hNl, grown_setQ (grown_setQ (grown_setQ G3.out _ (Nat.le_refl _)) _ (Nat.le_refl _)) _ (Nat.le_refl _)⟩

theorem FewP.short {p : Pp} (h : FewP p) : p.1.size ≤ maxLen ∧ p.2.1.size ≤ maxLen ∧ p.2.2.size ≤ maxLen := by
  obtain ⟨h1, h2, h3⟩ := h
  unfold maxLen; omega
theorem sets_right {ps : List Pp} {ss : List Sx} (h : propsB ps = true) : propsB (setsL ps ss) = true := by
  by_cases e : setsB ps ss = true
  · rw [sets_yes e]
    unfold setsB at e
    exact (Bool.and_eq_true_iff.1 e).2
  · rw [sets_no (by simpa using e)]; exact h
theorem props_few {ps : List Pp} (h : propsB ps = true) : ps.length ≤ 4 ∧ ∀ p ∈ ps, propB p = true := by
  unfold propsB at h
  obtain ⟨h1, h2⟩ := Bool.and_eq_true_iff.1 h
  exact ⟨of_decide_eq_true h1, List.all_eq_true.1 (Bool.and_eq_true_iff.1 h2).1⟩
theorem prop_short {p : Pp} (h : propB p = true) : p.1.size ≤ 60 ∧ p.2.1.size ≤ 60 ∧ p.2.2.size ≤ 60 := by
  have := prop_small h
  unfold szP at this
  omega
theorem OwnQ.grown {w w' : World} {B N : Nat} {v : Value} {ps : List Pp} (h : OwnQ w B v ps) (hg : w.grownBy w' (some N)) (hN : N < B) : OwnQ w' B v ps :=
  World.ownsRow.kept h hg (by
    rcases h.2 with ⟨e, _⟩ | ⟨g, c, cur, e, hB, _⟩
    · left; rw [e]; rfl
    · right; rw [e]; simp [Value.ownBlock]; omega)

set_option maxRecDepth 100000 in
set_option maxHeartbeats 4000000 in
theorem l10Props_any {w : World} {N : Nat} {a : Option Addr} {len cap : Nat} {zs : List Int} (h : DX w N a len cap zs) :
    Calls Tryz.prog 74 #[.pointer (some ⟨N, 0, none⟩)] w fun e w' => (∃ (ps : List Pp) (g n c : Nat), propsB ps = true ∧ n = ps.length ∧ e = .returned (.slice (some ⟨g, 0, none⟩) n c) ∧ OwnQ w' w.heap.size (.slice (some ⟨g, 0, none⟩) n c) ps) ∧ DX w' N a len cap zs ∧ w.grownBy w' (some N) := by
  have hlt := h.lt
  have H := hide h
  have HM := hide (OwnQ.made w w.heap.size (Nat.le_refl _))
  clear h
  go_enter Tryz.func74, Tryz.ntmps74
  go_wp2_with fail
  refine (l1BelowX (H.out.alloc _) 3 (by decide) (by decide)).mono ?_
  rintro e w1 ⟨⟨k0, rfl, hk0⟩, hd1, hg1⟩
  have HG := hide (grown_trans (grown_alloc (grown_refl w (some N)) _) hg1)
  have HO1 := hide (HM.out.grown hg1 hlt)
  have HD := hide hd1
  clear hg1 hd1
  go_wp2
  go_loopw [3, 4] (fun v i wr => ∃ (k : Nat) (ps : List Pp) (n g c : Nat), i = .int .i64 k ∧ k ≤ 3 ∧ v = .slice (some ⟨g, 0, none⟩) n c ∧ Hid (n = ps.length) ∧ Hid (propsB ps = true) ∧ OwnQ wr w.heap.size (.slice (some ⟨g, 0, none⟩) n c) ps ∧ DX wr N a len cap zs ∧ w.grownBy wr (some N)) (fun _ i _ => (intOf i).toNat)
  case atStart => exact ⟨k0, [], 0, w.heap.size, 0, rfl, by omega, rfl, rfl, hide (by decide), HO1.out, HD.out, HG.out⟩
  case round =>
    obtain ⟨k, ps, n, g, c, rfl, hk3, rfl, hn, hps, hown, hd, hg⟩ := hrel
    have HD2 := hide hd
    have HG2 := hide hg
    clear hd hg
    by_cases h0 : 0 < k
    · have h0' : (0 : Int) < k := by omega
      go_wp2_with fail
      refine (l10OneProp_any HD2.out).mono ?_
      rintro e w2 ⟨⟨p, rfl, hp⟩, hd2, hg2⟩
      have hown2 := hown.grown hg2 hlt
      have HG3 := hide (grown_trans HG2.out hg2)
      have HP := hide hp
      have hsz := HG3.out.size
      have HBA := hide ((Below.refl w2.heap.size w2).alloc (Nat.le_refl _) (Obj.cells #[.bool false, .string p.1, .string p.2.1, .string p.2.2] 119))
      have HDA := hide (hd2.below HBA.out)
      have hownA := hown2.next HBA.out
      obtain ⟨aq, cq, eq, hcn, hpq, hcq⟩ := hownA.slice
      have hnl := hn.out
      have eq2 : Value.slice (some ⟨g, 0, none⟩) n c = .slice (some ⟨g, 0, none⟩) ps.length c := by rw [hnl]
      obtain rfl : aq = some ⟨g, 0, none⟩ := by rw [eq2] at eq; cases eq; rfl
      have HPF := hide (props_few hps.out)
      have HS := hide (specSetProps_any (some ⟨g, 0, none⟩) ps c _ (some ⟨w2.heap.size, 0, none⟩) [(false, p)] 1 _ _ hpq (Nat.le_refl _) (fun e => by cases e) (show Sts (w2.alloc (Obj.cells #[.bool false, .string p.1, .string p.2.1, .string p.2.2] 119)) (w2.alloc (Obj.cells #[.bool false, .string p.1, .string p.2.1, .string p.2.2] 119)).heap.size (some ⟨w2.heap.size, 0, none⟩) [(false, p)] from fun _ => ⟨w2.heap.size, 0, rfl, by simp, fun j hj => by
        have e0 : j = 0 := by simp at hj; exact hj
        subst e0
        unfold StAt
        simp⟩) (Nat.le_refl _) (by have := HPF.out.1; omega) (by simp) (fun q hq => by have := prop_short (HPF.out.2 q hq); unfold maxLen; omega) (fun s hs => by
        have e0 : s = (false, p) := by simpa using hs
        subst e0
        exact HP.out.short))
      rw [← hnl] at HS
      have HR := hide (sets_right (ss := [(false, p)]) hps.out)
      clear hnl eq eq2 hpq hcn hcq hown2 hownA hd2 hg2 hp hown
      go_wp2_with fail
      refine HS.out.mono ?_
      rintro e w3 ⟨⟨g3, n3, c3, rfl, hn3, hO3⟩, b3⟩
      have HN3 := hide hn3
      have hO4 := hO3.base (C := w.heap.size) (by have := HBA.out.size; omega)
      have HD4 := hide (HDA.out.below b3)
      have HG4 := hide (grown_belowQ (grown_belowQ HG3.out HBA.out (by omega)) b3 (by have := HBA.out.size; omega))
      clear hn3 hO3 b3 HS
      go_wp2
      go_roundw
      case rel => exact ⟨k - 1, _, n3, g3, c3, by first | go_num | (congr 1; omega), by omega, rfl, HN3, HR, hO4, HD4.out, HG4.out⟩
      case measure => simp [intOf]; omega
    · have hk : k = 0 := by omega
      subst hk
      go_wp2
      go_ret
      exact ⟨⟨ps, g, n, c, hps.out, hn.out, rfl, hown⟩, HD2.out, HG2.out⟩
end Go.Proofs.YtifnolomekhmfaaGreat
namespace Go.Proofs.YtifnolomekhmfaaGreat
open M

/-- Whether its path is this. -/
def isAt (p : List ByteArray) (r : Rs) : Bool := sameL r.pa p
/-- Its place, or -1. -/
def findI (rs : List Rs) (p : List ByteArray) : Int := if rs.findIdx (isAt p) < rs.length then (rs.findIdx (isAt p) : Int) else -1
theorem findI_at {rs : List Rs} {p : List ByteArray} (k : Nat) (hk : k < rs.length) (h0 : ∀ j (hj : j < rs.length), j < k → sameL rs[j].pa p = false) (h1 : sameL rs[k].pa p = true) : findI rs p = k := by
  have e : rs.findIdx (isAt p) = k := by
    rw [List.findIdx_eq hk]
    exact ⟨h1, fun j hj => h0 j (by omega) hj⟩
  unfold findI
  rw [e, if_pos hk]
theorem findI_none {rs : List Rs} {p : List ByteArray} (h0 : ∀ j (hj : j < rs.length), sameL rs[j].pa p = false) : findI rs p = -1 := by
  unfold findI
  rw [if_neg]
  intro h
  have := List.findIdx_getElem (w := h)
  rw [show isAt p rs[rs.findIdx (isAt p)] = sameL rs[rs.findIdx (isAt p)].pa p from rfl, h0 _ h] at this
  cases this
theorem findI_cases (rs : List Rs) (p : List ByteArray) : findI rs p = -1 ∨ ∃ k, ∃ hk : k < rs.length, findI rs p = (k : Nat) ∧ sameL rs[k].pa p = true := by
  unfold findI
  by_cases h : rs.findIdx (isAt p) < rs.length
  · rw [if_pos h]
    exact .inr ⟨_, h, rfl, List.findIdx_getElem (w := h)⟩
  · rw [if_neg h]; exact .inl rfl
/-- Whether it is the root, or a shelf that is there. -/
def collB (rs : List Rs) (p : List ByteArray) : Bool := decide (p.length = 0) || (match rs.find? (isAt p) with | none => false | some r => r.co)
theorem find_of_findIdx {rs : List Rs} {q : Rs → Bool} (h : rs.findIdx q < rs.length) : rs.find? q = some rs[rs.findIdx q] := by
  induction rs with
  | nil => simp at h
  | cons x l ih =>
    by_cases e : q x = true
    · simp [List.findIdx_cons, e]
    · have e' : q x = false := by simpa using e
      simp only [List.findIdx_cons, e', cond_false, List.length_cons] at h ⊢
      rw [List.find?_cons_of_neg (by simp [e']), ih (by omega)]
      simp
theorem collB_at {rs : List Rs} {p : List ByteArray} (k : Nat) (hk : k < rs.length) (h : findI rs p = k) (hp : ¬ p.length = 0) : collB rs p = rs[k].co := by
  unfold findI at h
  by_cases h' : rs.findIdx (isAt p) < rs.length
  · rw [if_pos h'] at h
    have e : rs.findIdx (isAt p) = k := by omega
    unfold collB
    rw [find_of_findIdx h']
    simp [hp, e]
  · rw [if_neg h'] at h; omega
theorem collB_none {rs : List Rs} {p : List ByteArray} (h : findI rs p = -1) (hp : ¬ p.length = 0) : collB rs p = false := by
  unfold findI at h
  by_cases h' : rs.findIdx (isAt p) < rs.length
  · rw [if_pos h'] at h; omega
  · unfold collB
    have : rs.find? (isAt p) = none := by
      rw [List.find?_eq_none]
      intro x hx hq
      exact h' (List.findIdx_lt_length_of_exists ⟨x, hx, hq⟩)
    rw [this]
    simp [hp]
theorem collB_root {rs : List Rs} {p : List ByteArray} (hp : p.length = 0) : collB rs p = true := by unfold collB; simp [hp]
end Go.Proofs.YtifnolomekhmfaaGreat
namespace Go.Proofs.YtifnolomekhmfaaGreat.M
def aboveL (ss : List ByteArray) : List ByteArray := ss.take (ss.length - 1)
theorem aboveL_len (ss : List ByteArray) : (aboveL ss).length = ss.length - 1 := by unfold aboveL; rw [List.length_take]; omega
end Go.Proofs.YtifnolomekhmfaaGreat.M
namespace Go.Proofs.YtifnolomekhmfaaGreat.M

/-- These bytes, as a text. -/
def bytesOf (l : List UInt8) : ByteArray := ⟨l.toArray⟩
theorem bytesOf_append (l m : List UInt8) : bytesOf l ++ bytesOf m = bytesOf (l ++ m) := by
  apply ByteArray.ext
  simp [bytesOf]

theorem bytesOf_size (l : List UInt8) : (bytesOf l).size = l.length := by
  show l.toArray.size = l.length
  simp

/-- A digit of sixteen, a large one. -/
def digL (n : Nat) : UInt8 := if n < 10 then UInt8.ofNat (48 + n) else UInt8.ofNat (55 + n)
theorem digL_lo (n : Nat) (h : n < 10) : (digL n).toNat = 48 + n := by
  unfold digL; rw [if_pos h]; simp; omega
theorem digL_hi (n : Nat) (h : ¬ n < 10) (h' : n < 16) : (digL n).toNat = 55 + n := by
  unfold digL; rw [if_neg h]; simp; omega

/-- Whether a byte stays as it is in a quoted text. -/
def freeB (c : Int) : Bool := ((((((isB c 2 || isB c 3) || isB c 4) || c == 45) || c == 46) || c == 95) || c == 126)
def quoteB (c : UInt8) : List UInt8 := if freeB (c.toNat : Int) then [c] else [37, digL (c.toNat / 16), digL (c.toNat % 16)]
def quoteL (l : List UInt8) : List UInt8 := l.flatMap quoteB

theorem quoteB_yes {c : UInt8} (h : freeB (c.toNat : Int) = true) : quoteB c = [c] := by unfold quoteB; rw [if_pos h]
theorem quoteB_no {c : UInt8} (h : freeB (c.toNat : Int) = false) : quoteB c = [37, digL (c.toNat / 16), digL (c.toNat % 16)] := by unfold quoteB; rw [if_neg (by simp [h])]

theorem quoteL_snoc (s : ByteArray) (k : Nat) (h : k < s.size) : quoteL (s.data.toList.take (k + 1)) = quoteL (s.data.toList.take k) ++ quoteB s[k] := by
  rw [take_snoc s k h]; simp [quoteL]

theorem quoteB_length (c : UInt8) : (quoteB c).length ≤ 3 := by unfold quoteB; split <;> simp
theorem quoteL_le (l : List UInt8) : (quoteL l).length ≤ 3 * l.length := by
  induction l with
  | nil => simp [quoteL]
  | cons c l ih =>
    have := quoteB_length c
    simp only [quoteL, List.flatMap_cons, List.length_append, List.length_cons] at *
    omega

theorem hex_at (n : Nat) (h : n < 16) : (⟨#[48, 49, 50, 51, 52, 53, 54, 55, 56, 57, 65, 66, 67, 68, 69, 70]⟩ : ByteArray)[n]'(by show n < 16; exact h) = digL n := by
  have key : ∀ i : Fin 16, (⟨#[48, 49, 50, 51, 52, 53, 54, 55, 56, 57, 65, 66, 67, 68, 69, 70]⟩ : ByteArray)[i.val]'(by show i.val < 16; exact i.isLt) = digL i.val := by decide
  exact key ⟨n, h⟩

end Go.Proofs.YtifnolomekhmfaaGreat.M
namespace Go.Proofs.YtifnolomekhmfaaGreat.M

/-- The digits ahead of the last one. -/
def decAhead (m : Nat) : List UInt8 := if m < 10 then [] else Lib.decDigits (m / 10)
def decLow (m : Nat) : UInt8 := UInt8.ofNat (48 + m % 10)

theorem decDigits_ahead (m : Nat) : Lib.decDigits m = decAhead m ++ [decLow m] := by
  rw [Lib.decDigits]
  unfold decAhead decLow
  by_cases h : m < 10
  · rw [dif_pos h, if_pos h, Nat.mod_eq_of_lt h]; rfl
  · rw [dif_neg h, if_neg h]

theorem decAhead_step (m : Nat) (h : 9 < m) : decAhead m = decAhead (m / 10) ++ [decLow (m / 10)] := by
  rw [← decDigits_ahead]
  unfold decAhead
  rw [if_neg (by omega)]

theorem decAhead_end (m : Nat) (h : ¬ 9 < m) : decAhead m = [] := by
  unfold decAhead
  rw [if_pos (by omega)]

theorem decLow_toNat (m : Nat) : (decLow m).toNat = 48 + m % 10 := by
  unfold decLow
  rw [UInt8.toNat_ofNat']
  omega

/-- A digit to the base 16. -/
def hexCh (d : Nat) : UInt8 := if d < 10 then UInt8.ofNat (48 + d) else UInt8.ofNat (87 + d)
/-- The digits to the base 16, f of them at most. -/
def hexDig : Nat → Nat → List UInt8
  | 0, _ => []
  | f + 1, m => if m < 16 then [hexCh m] else hexDig f (m / 16) ++ [hexCh (m % 16)]
def hexDigits (m : Nat) : List UInt8 := hexDig 16 m
/-- The digits ahead of the last one. -/
def hexAhead (f m : Nat) : List UInt8 := if m < 16 then [] else hexDig f (m / 16)

theorem hexDig_ahead (f m : Nat) : hexDig (f + 1) m = hexAhead f m ++ [hexCh (m % 16)] := by
  unfold hexAhead
  simp only [hexDig]
  by_cases h : m < 16
  · rw [if_pos h, if_pos h, Nat.mod_eq_of_lt h]; rfl
  · rw [if_neg h, if_neg h]

theorem hexAhead_step (f m : Nat) (h : 15 < m) : hexAhead (f + 1) m = hexAhead f (m / 16) ++ [hexCh (m / 16 % 16)] := by
  rw [← hexDig_ahead]
  unfold hexAhead
  rw [if_neg (by omega)]

theorem hexAhead_end (f m : Nat) (h : ¬ 15 < m) : hexAhead f m = [] := by
  unfold hexAhead
  rw [if_pos (by omega)]

theorem hexCh_toNat (d : Nat) (h : d < 16) : (hexCh d).toNat = if d < 10 then 48 + d else 87 + d := by
  unfold hexCh
  split
  · rw [UInt8.toNat_ofNat']; omega
  · rw [UInt8.toNat_ofNat']; omega

end Go.Proofs.YtifnolomekhmfaaGreat.M
namespace Go.Proofs.YtifnolomekhmfaaGreat.M

/-- The worth of decimal digits, the first one the greatest, behind a number. -/
def decValF (n : Nat) (l : List UInt8) : Nat := l.foldl (fun n c => n * 10 + (c.toNat - 48)) n
def decVal (l : List UInt8) : Nat := decValF 0 l

theorem decVal_snoc (l : List UInt8) (c : UInt8) : decVal (l ++ [c]) = decVal l * 10 + (c.toNat - 48) := by
  simp [decVal, decValF]

def digs (l : List UInt8) : Bool := allB l [4]

theorem digs_cons (c : UInt8) (r : List UInt8) : digs (c :: r) = true → (48 ≤ c.toNat ∧ c.toNat ≤ 57) ∧ digs r = true := by
  intro h
  have h1 : isB (c.toNat : Int) 4 = true ∧ digs r = true := by simpa [digs, allB, anyB] using h
  refine ⟨?_, h1.2⟩
  have := h1.1; simp [isB] at this; omega

theorem decFrom_val (l : List UInt8) : ∀ n, digs l = true → Lib.decFrom n l = some (decValF n l) := by
  induction l with
  | nil => intro n _; rfl
  | cons c r ih =>
    intro n h
    obtain ⟨h1, h2⟩ := digs_cons c r h
    have hd : Lib.digitVal c = some (c.toNat - 48) := by unfold Lib.digitVal; rw [if_pos h1]
    simp only [Lib.decFrom, hd]
    exact ih _ h2

theorem atoi_val (l : List UInt8) (h : digs l = true) (h0 : 1 ≤ l.length) : Lib.atoi l = some (decVal l : Int) := by
  match l, h, h0 with
  | c :: r, h, _ =>
    obtain ⟨h1, _⟩ := digs_cons c r h
    have e45 : (c == 45) = false := by
      rw [beq_eq_false_iff_ne]; intro e; subst e; exact absurd h1.1 (by decide)
    have e43 : (c == 43) = false := by
      rw [beq_eq_false_iff_ne]; intro e; subst e; exact absurd h1.1 (by decide)
    simp only [Lib.atoi, e45, e43]
    simp [Lib.decNat, decFrom_val _ _ h, decVal]

theorem decVal_lt (l : List UInt8) (h : digs l = true) : decVal l < 10 ^ l.length := by
  have := Lib.decFrom_lt l 0 _ (decFrom_val l 0 h)
  simpa [decVal] using this

theorem pow_le8 {k : Nat} (h : k ≤ 8) : 10 ^ k ≤ 100000000 := by
  have := Nat.pow_le_pow_right (show 0 < 10 by decide) h
  exact this

/-- What ParseNum answers. -/
def parseOk (l : List UInt8) (most : Int) : Prop := 1 ≤ l.length ∧ l.length ≤ 7 ∧ digs l = true ∧ ¬ (1 < l.length ∧ l.head? = some 48) ∧ (decVal l : Int) ≤ most
def parseB (l : List UInt8) (most : Int) : Bool := decide (1 ≤ l.length) && (decide (l.length ≤ 7) && (digs l && (!(decide (1 < l.length) && l.head? == some 48) && decide ((decVal l : Int) ≤ most))))
theorem parseB_iff (l : List UInt8) (most : Int) : parseB l most = true ↔ parseOk l most := by
  simp only [parseB, parseOk, Bool.and_eq_true, decide_eq_true_eq, Bool.not_eq_true', Bool.and_eq_false_iff, decide_eq_false_iff_not]
  constructor
  · rintro ⟨a, b, c, d, e⟩
    refine ⟨a, b, c, ?_, e⟩
    rintro ⟨x, y⟩
    rcases d with d | d
    · exact d x
    · simp [y] at d
  · rintro ⟨a, b, c, d, e⟩
    refine ⟨a, b, c, ?_, e⟩
    by_cases x : 1 < l.length
    · right
      rw [beq_eq_false_iff_ne]
      exact fun y => d ⟨x, y⟩
    · exact .inl x
def parseNum (l : List UInt8) (most : Int) : Int × Bool := if parseB l most then ((decVal l : Int), true) else (0, false)
theorem parseNum_no {l : List UInt8} {most : Int} (h : ¬ parseOk l most) : parseNum l most = (0, false) := if_neg (fun e => h ((parseB_iff l most).1 e))
theorem parseNum_yes {l : List UInt8} {most : Int} (h : parseOk l most) : parseNum l most = ((decVal l : Int), true) := if_pos ((parseB_iff l most).2 h)

theorem digs_snoc (s : ByteArray) (k : Nat) (h : k < s.size) (h0 : digs (s.data.toList.take k) = true) (h2 : isB (s[k].toNat : Int) 4 = true) : digs (s.data.toList.take (k + 1)) = true :=
  allB_snoc s [4] k h h0 (by rw [anyB_one, h2]; rfl)
theorem digs_not (s : ByteArray) (k : Nat) (h : k < s.size) (h2 : isB (s[k].toNat : Int) 4 = false) : digs s.data.toList = false :=
  allB_not s [4] k h (by rw [anyB_one, h2]; rfl)
theorem decVal_step (s : ByteArray) (k : Nat) (h : k < s.size) : decVal (s.data.toList.take (k + 1)) = decVal (s.data.toList.take k) * 10 + (s[k].toNat - 48) := by
  rw [take_snoc s k h, decVal_snoc]
theorem isB4 {c : Int} (h : isB c 4 = true) : 48 ≤ c ∧ c ≤ 57 := by simp [isB] at h; omega
theorem head_get (s : ByteArray) (h : 0 < s.size) : s.data.toList.head? = some s[0] := by
  have e : s.data.toList.length = s.size := Array.length_toList
  rw [List.head?_eq_getElem?, List.getElem?_eq_getElem (by omega)]; rfl
theorem len_list (s : ByteArray) : s.data.toList.length = s.size := Array.length_toList

theorem not_size {s : ByteArray} {most : Int} (h : inB (s.size : Int) 1 7 = false) : ¬ parseOk s.data.toList most := by
  intro hp
  have e := len_list s
  have h1 : 1 ≤ s.size ∧ s.size ≤ 7 := by have := hp.1; have := hp.2.1; omega
  simp [inB] at h
  omega
theorem not_nought {s : ByteArray} {most : Int} (h0 : 0 < s.size) (h1 : 1 < s.size) (hz : (((s[0]).toNat : Int) == 48) = true) : ¬ parseOk s.data.toList most := by
  intro hp
  refine hp.2.2.2.1 ⟨by rw [len_list]; exact h1, ?_⟩
  rw [head_get s h0]
  have : (s[0]).toNat = 48 := by simp at hz; omega
  congr 1
  exact UInt8.toNat_inj.1 this
theorem not_most {l : List UInt8} {most : Int} (h : most < (decVal l : Int)) : ¬ parseOk l most := fun hp => by have := hp.2.2.2.2; omega
theorem not_digs {l : List UInt8} {most : Int} (h : digs l = false) : ¬ parseOk l most := fun hp => by have := hp.2.2.1; rw [h] at this; cases this
theorem is_ok {s : ByteArray} {most : Int} (h0 : 0 < s.size) (h : inB (s.size : Int) 1 7 = true) (hd : digs s.data.toList = true) (hz : 1 < s.size → (((s[0]).toNat : Int) == 48) = false) (hm : ¬ most < (decVal s.data.toList : Int)) : parseOk s.data.toList most := by
  have e := len_list s
  have h1 : 1 ≤ s.size ∧ s.size ≤ 7 := by simp [inB] at h; omega
  refine ⟨by omega, by omega, hd, ?_, by omega⟩
  rintro ⟨h2, h3⟩
  rw [head_get s h0] at h3
  have h4 := hz (by omega)
  have h5 : s[0] = 48 := Option.some.inj h3
  rw [h5] at h4
  simp at h4

end Go.Proofs.YtifnolomekhmfaaGreat.M
namespace Go.Proofs.YtifnolomekhmfaaGreat.M

/-- The worth of a digit to the base 16. -/
def hexW (c : UInt8) : Nat := if isB (c.toNat : Int) 4 then c.toNat - 48 else if isB (c.toNat : Int) 5 then c.toNat - 87 else c.toNat - 55
def isHex (c : UInt8) : Bool := anyB (c.toNat : Int) [4, 5, 6]
def hexVal (l : List UInt8) : Nat := l.foldl (fun n c => n * 16 + hexW c) 0
def hexs (l : List UInt8) : Bool := allB l [4, 5, 6]

theorem hexVal_snoc (l : List UInt8) (c : UInt8) : hexVal (l ++ [c]) = hexVal l * 16 + hexW c := by
  simp [hexVal]

theorem isHex_cases {c : UInt8} (h : isHex c = true) : isB (c.toNat : Int) 4 = true ∨ (isB (c.toNat : Int) 4 = false ∧ isB (c.toNat : Int) 5 = true) ∨ (isB (c.toNat : Int) 4 = false ∧ isB (c.toNat : Int) 5 = false ∧ isB (c.toNat : Int) 6 = true) := by
  unfold isHex anyB at h
  cases h4 : isB (c.toNat : Int) 4 <;> cases h5 : isB (c.toNat : Int) 5 <;> cases h6 : isB (c.toNat : Int) 6 <;> simp_all

theorem isB5 {c : Int} (h : isB c 5 = true) : 97 ≤ c ∧ c ≤ 102 := by simp [isB] at h; omega
theorem isB6 {c : Int} (h : isB c 6 = true) : 65 ≤ c ∧ c ≤ 70 := by simp [isB] at h; omega

theorem hexW_4 {c : UInt8} (h : isB (c.toNat : Int) 4 = true) : hexW c = c.toNat - 48 := by simp [hexW, h]
theorem hexW_5 {c : UInt8} (h4 : isB (c.toNat : Int) 4 = false) (h : isB (c.toNat : Int) 5 = true) : hexW c = c.toNat - 87 := by simp [hexW, h4, h]
theorem hexW_6 {c : UInt8} (h4 : isB (c.toNat : Int) 4 = false) (h5 : isB (c.toNat : Int) 5 = false) : hexW c = c.toNat - 55 := by simp [hexW, h4, h5]

theorem hexW_lt {c : UInt8} (h : isHex c = true) : hexW c < 16 := by
  rcases isHex_cases h with h4 | ⟨h4, h5⟩ | ⟨h4, h5, h6⟩
  · have := isB4 h4; rw [hexW_4 h4]; omega
  · have := isB5 h5; rw [hexW_5 h4 h5]; omega
  · have := isB6 h6; rw [hexW_6 h4 h5]; omega

theorem hexs_get (s : ByteArray) (h : hexs s.data.toList = true) (k : Nat) (hk : k < s.size) : isHex s[k] = true := by
  have h1 := (List.all_eq_true.1 h) s[k] (by
    have e := len_list s
    have h' : k < s.data.toList.length := by omega
    exact List.getElem_mem h')
  exact h1

theorem hexs_snoc (s : ByteArray) (k : Nat) (h : k < s.size) (h0 : hexs (s.data.toList.take k) = true) (h2 : isHex s[k] = true) : hexs (s.data.toList.take (k + 1)) = true :=
  allB_snoc s [4, 5, 6] k h h0 (by rw [show anyB (s[k].toNat : Int) [4, 5, 6] = true from h2]; rfl)
theorem hexs_not (s : ByteArray) (k : Nat) (h : k < s.size) (h2 : isHex s[k] = false) : hexs s.data.toList = false :=
  allB_not s [4, 5, 6] k h (by rw [show anyB (s[k].toNat : Int) [4, 5, 6] = false from h2]; rfl)
theorem hexVal_step (s : ByteArray) (k : Nat) (h : k < s.size) : hexVal (s.data.toList.take (k + 1)) = hexVal (s.data.toList.take k) * 16 + hexW s[k] := by
  rw [take_snoc s k h, hexVal_snoc]

theorem hexVal_lt (s : ByteArray) (k : Nat) (hk : k ≤ s.size) (h : hexs (s.data.toList.take k) = true) : hexVal (s.data.toList.take k) < 16 ^ k := by
  induction k with
  | zero => simp [hexVal]
  | succ k ih =>
    have hk' : k < s.size := by omega
    have h1 : hexs (s.data.toList.take k) = true ∧ isHex s[k] = true := by
      rw [take_snoc s k hk'] at h
      simpa [hexs, allB, isHex] using h
    have := ih (by omega) h1.1
    have := hexW_lt h1.2
    rw [hexVal_step s k hk', Nat.pow_succ]
    omega

theorem pow16_le {k : Nat} (h : k ≤ 5) : 16 ^ k ≤ 1048576 := Nat.pow_le_pow_right (show 0 < 16 by decide) h

/-- What ParseHex answers. -/
def hexB (l : List UInt8) : Bool := decide (1 ≤ l.length) && (decide (l.length ≤ 4) && hexs l)
def parseHex (l : List UInt8) : Int × Bool := if hexB l then ((hexVal l : Int), true) else (0, false)
theorem parseHex_yes {s : ByteArray} (h : inB (s.size : Int) 1 4 = true) (hd : hexs s.data.toList = true) : parseHex s.data.toList = ((hexVal s.data.toList : Int), true) := by
  have e := len_list s
  have h1 : 1 ≤ s.size ∧ s.size ≤ 4 := by simp [inB] at h; omega
  apply if_pos
  simp only [hexB, hd, Bool.and_true, Bool.and_eq_true, decide_eq_true_eq]
  omega
theorem parseHex_size {s : ByteArray} (h : inB (s.size : Int) 1 4 = false) : parseHex s.data.toList = (0, false) := by
  have e := len_list s
  have h1 : ¬ (1 ≤ s.size ∧ s.size ≤ 4) := by simp [inB] at h; omega
  apply if_neg
  intro hp
  simp only [hexB, Bool.and_eq_true, decide_eq_true_eq] at hp
  omega
theorem parseHex_no {l : List UInt8} (h : hexs l = false) : parseHex l = (0, false) := by
  apply if_neg
  simp [hexB, h]

/-- The specification's digit: below 0 where it is none. -/
def hexOf (c : UInt8) : Int := if isHex c then (hexW c : Int) else -1
theorem hexOf_yes {c : UInt8} (h : isHex c = true) : hexOf c = (hexW c : Int) := if_pos h
theorem hexOf_no {c : UInt8} (h : isHex c = false) : hexOf c = -1 := if_neg (by simp [h])

end Go.Proofs.YtifnolomekhmfaaGreat.M
namespace Go.Proofs.YtifnolomekhmfaaGreat.M

/-- The byte of two digits. -/
def hx (a b : UInt8) : UInt8 := UInt8.ofNat (hexW a * 16 + hexW b)

theorem u8_37 {c : UInt8} (h : ((c.toNat : Int) == 37) = true) : c = 37 := by
  have h' : c.toNat = 37 := by simp at h; omega
  exact UInt8.toNat_inj.1 (by rw [h']; rfl)

/-- What these bytes are, unquoted. -/
def unq : List UInt8 → Option (List UInt8)
  | [] => some []
  | c :: r => if c = 37 then
      (match r with
       | a :: b :: q => if isHex a && isHex b then (unq q).map (hx a b :: ·) else none
       | _ => none)
    else (unq r).map (c :: ·)

/-- .. as the two answers. -/
def unqR (l : List UInt8) : List UInt8 × Bool := match unq l with | some x => (x, true) | none => ([], false)

theorem unq_plain {c : UInt8} (r : List UInt8) (h : ¬ c = 37) : unq (c :: r) = (unq r).map (c :: ·) := by
  rw [unq.eq_def]; simp only [h, if_false]
theorem unq_short {c : UInt8} (r : List UInt8) (h : c = 37) (hr : r.length < 2) : unq (c :: r) = none := by
  rw [unq.eq_def]; simp only [h, if_true]
  match r, hr with
  | [], _ => rfl
  | [_], _ => rfl
theorem unq_bad {c a b : UInt8} (q : List UInt8) (h : c = 37) (hb : (isHex a && isHex b) = false) : unq (c :: a :: b :: q) = none := by
  rw [unq.eq_def]; simp [h, hb]
theorem unq_hex {c a b : UInt8} (q : List UInt8) (h : c = 37) (ha : isHex a = true) (hb : isHex b = true) : unq (c :: a :: b :: q) = (unq q).map (hx a b :: ·) := by
  rw [unq.eq_def]; simp [h, ha, hb]

theorem drop_at (s : ByteArray) (k : Nat) (h : k < s.size) : s.data.toList.drop k = s[k] :: s.data.toList.drop (k + 1) := by
  have e : s.data.toList.length = s.size := Array.length_toList
  rw [List.drop_eq_getElem_cons (by omega)]
  rfl

theorem drop_end (s : ByteArray) (k : Nat) (h : ¬ k < s.size) : s.data.toList.drop k = [] := by
  have e : s.data.toList.length = s.size := Array.length_toList
  exact List.drop_of_length_le (by omega)

/-- What is read so far, and what is left: together all. -/
def UnqAt (s : ByteArray) (k : Nat) (acc : List UInt8) : Prop := k ≤ s.size ∧ acc.length ≤ k ∧ unq s.data.toList = (unq (s.data.toList.drop k)).map (acc ++ ·)

theorem UnqAt.start (s : ByteArray) : UnqAt s 0 [] := ⟨Nat.zero_le _, Nat.le_refl _, by simp⟩

theorem UnqAt.plain {s : ByteArray} {k : Nat} {acc : List UInt8} (h : UnqAt s k acc) (hk : k < s.size) (hc : ¬ s[k] = 37) : UnqAt s (k + 1) (acc ++ [s[k]]) := by
  obtain ⟨h1, h2, h3⟩ := h
  refine ⟨by omega, by simp; omega, ?_⟩
  rw [h3, drop_at s k hk, unq_plain _ hc, Option.map_map]
  congr 1
  funext x
  simp [Function.comp]

theorem UnqAt.hex {s : ByteArray} {k : Nat} {acc : List UInt8} (h : UnqAt s k acc) (hk : k + 2 < s.size) (hc : s[k] = 37) (ha : isHex s[k + 1] = true) (hb : isHex s[k + 2] = true) : UnqAt s (k + 3) (acc ++ [hx s[k + 1] s[k + 2]]) := by
  obtain ⟨h1, h2, h3⟩ := h
  refine ⟨by omega, by simp; omega, ?_⟩
  rw [h3, drop_at s k (by omega), drop_at s (k + 1) (by omega), drop_at s (k + 2) (by omega), unq_hex _ hc ha hb, Option.map_map]
  congr 1
  funext x
  simp [Function.comp]

theorem UnqAt.short {s : ByteArray} {k : Nat} {acc : List UInt8} (h : UnqAt s k acc) (hk : k < s.size) (hc : s[k] = 37) (hl : s.size ≤ k + 2) : unqR s.data.toList = ([], false) := by
  obtain ⟨h1, h2, h3⟩ := h
  have e : s.data.toList.length = s.size := Array.length_toList
  unfold unqR
  rw [h3, drop_at s k hk, unq_short _ hc (by rw [List.length_drop]; omega)]
  rfl

theorem UnqAt.bad {s : ByteArray} {k : Nat} {acc : List UInt8} (h : UnqAt s k acc) (hk : k + 2 < s.size) (hc : s[k] = 37) (hb : (isHex s[k + 1] && isHex s[k + 2]) = false) : unqR s.data.toList = ([], false) := by
  obtain ⟨h1, h2, h3⟩ := h
  unfold unqR
  rw [h3, drop_at s k (by omega), drop_at s (k + 1) (by omega), drop_at s (k + 2) (by omega), unq_bad _ hc hb]
  rfl

theorem UnqAt.done {s : ByteArray} {k : Nat} {acc : List UInt8} (h : UnqAt s k acc) (hk : ¬ k < s.size) : unqR s.data.toList = (acc, true) := by
  obtain ⟨h1, h2, h3⟩ := h
  unfold unqR
  rw [h3, drop_end s k hk]
  simp [unq]

theorem hx_nat {a b : UInt8} (ha : isHex a = true) (hb : isHex b = true) : ((hx a b).toNat : Int) = (hexW a : Int) * 16 + hexW b := by
  have h1 := hexW_lt ha
  have h2 := hexW_lt hb
  unfold hx
  rw [UInt8.toNat_ofNat']
  omega

theorem extract_two (s : ByteArray) (k : Nat) (h : k + 2 < s.size) : (s.extract (k + 1) (k + 3)).data.toList = [s[k + 1], s[k + 2]] := by
  have e : s.data.toList.length = s.size := Array.length_toList
  have h1 : (s.extract (k + 1) (k + 3)).data = s.data.extract (k + 1) (k + 3) := by simp
  rw [h1, Array.toList_extract]
  show (s.data.toList.drop (k + 1)).take (k + 3 - (k + 1)) = _
  rw [drop_at s (k + 1) (by omega), drop_at s (k + 2) (by omega), show k + 3 - (k + 1) = 2 by omega]
  rfl

theorem parseHex_two (a b : UInt8) : parseHex [a, b] = if (isHex a && isHex b) then ((hexW a : Int) * 16 + hexW b, true) else (0, false) := by
  have hh : hexs [a, b] = (isHex a && isHex b) := by simp [hexs, allB, isHex]
  unfold parseHex hexB
  rw [hh]
  cases h : (isHex a && isHex b)
  · simp
  · simp [hexVal]
end Go.Proofs.YtifnolomekhmfaaGreat.M
namespace Go.Proofs.YtifnolomekhmfaaGreat.M

theorem digL_hex : ∀ n : Fin 16, isHex (digL n.val) = true ∧ hexW (digL n.val) = n.val := by decide

theorem free_not37 : freeB 37 = false := by decide

theorem hx_back (c : UInt8) : hx (digL (c.toNat / 16)) (digL (c.toNat % 16)) = c := by
  have h := c.toNat_lt
  have h1 := (digL_hex ⟨c.toNat / 16, by omega⟩).2
  have h2 := (digL_hex ⟨c.toNat % 16, by omega⟩).2
  simp only at h1 h2
  unfold hx
  rw [h1, h2]
  have e : c.toNat / 16 * 16 + c.toNat % 16 = c.toNat := by omega
  rw [e]
  exact UInt8.ofNat_toNat

theorem unq_quote (l : List UInt8) : unq (quoteL l) = some l := by
  induction l with
  | nil => rfl
  | cons c r ih =>
    have e : quoteL (c :: r) = quoteB c ++ quoteL r := by simp [quoteL]
    rw [e]
    cases hf : freeB (c.toNat : Int)
    · rw [quoteB_no hf]
      have h := c.toNat_lt
      have h1 := (digL_hex ⟨c.toNat / 16, by omega⟩).1
      have h2 := (digL_hex ⟨c.toNat % 16, by omega⟩).1
      show unq (37 :: digL (c.toNat / 16) :: digL (c.toNat % 16) :: quoteL r) = _
      rw [unq_hex _ rfl h1 h2, ih, hx_back]
      rfl
    · rw [quoteB_yes hf]
      have hc : ¬ c = 37 := fun e => by rw [e] at hf; exact absurd hf (by decide)
      show unq (c :: quoteL r) = _
      rw [unq_plain _ hc, ih]
      rfl

theorem unqR_quote (l : List UInt8) : unqR (quoteL l) = (l, true) := by unfold unqR; rw [unq_quote]

theorem digL_plain : ∀ n : Fin 16, anyB ((digL n.val).toNat : Int) [0] = true := by decide

theorem free_plain {c : Int} (h : freeB c = true) : anyB c [0] = true := by
  simp only [freeB, isB, anyB, List.any_cons, List.any_nil] at h ⊢
  simp at h ⊢
  omega

theorem quote_plain (l : List UInt8) : allB (quoteL l) [0] = true := by
  induction l with
  | nil => rfl
  | cons c r ih =>
    have e : quoteL (c :: r) = quoteB c ++ quoteL r := by simp [quoteL]
    rw [e]
    unfold allB at ih ⊢
    rw [List.all_append, ih, Bool.and_true]
    cases hf : freeB (c.toNat : Int)
    · rw [quoteB_no hf]
      have h := c.toNat_lt
      have h1 := digL_plain ⟨c.toNat / 16, by omega⟩
      have h2 := digL_plain ⟨c.toNat % 16, by omega⟩
      simp only at h1 h2
      simp only [List.all_cons, List.all_nil, h1, h2, Bool.and_true]
      decide
    · rw [quoteB_yes hf]
      simp only [List.all_cons, List.all_nil, free_plain hf, Bool.and_true]
end Go.Proofs.YtifnolomekhmfaaGreat.M
namespace Go.Proofs.YtifnolomekhmfaaGreat.M

/-- Whether a text is a name, as the document has it. -/
def noSlash (l : List UInt8) : Bool := l.all fun c => !(c == 47)
def nameB (s : ByteArray) : Bool := noSlash s.data.toList && (inB s.size 1 8 && (allB s.data.toList [0] && (!(s.toList == [46]) && !(s.toList == [46, 46]))))

theorem noSlash_snoc (s : ByteArray) (k : Nat) (h : k < s.size) (h0 : noSlash (s.data.toList.take k) = true) (h1 : ¬ s[k] = 47) : noSlash (s.data.toList.take (k + 1)) = true := by
  rw [take_snoc s k h]
  unfold noSlash at *
  rw [List.all_append, h0]
  simp [h1]

theorem mem_at (s : ByteArray) (k : Nat) (h : k < s.size) : s[k] ∈ s.data.toList := by
  have e : s.data.toList.length = s.size := Array.length_toList
  have h' : k < s.data.toList.length := by omega
  exact List.getElem_mem h'

theorem noSlash_not (s : ByteArray) (k : Nat) (h : k < s.size) (h1 : s[k] = 47) : noSlash s.data.toList = false := by
  unfold noSlash
  rw [List.all_eq_false]
  exact ⟨_, mem_at s k h, by simp [h1]⟩

theorem u8_47 {c : UInt8} (h : ((c.toNat : Int) == 47) = true) : c = 47 := by
  have h' : c.toNat = 47 := by simp at h; omega
  exact UInt8.toNat_inj.1 (by rw [h']; rfl)

theorem okc_of {c : UInt8} (h : (32 ≤ (c.toNat : Int) ∧ (c.toNat : Int) ≤ 126) ∧ ((c.toNat : Int) == 47) = false) : anyB (c.toNat : Int) [0] = true ∧ ¬ c = 47 := by
  refine ⟨?_, fun e => by rw [e] at h; exact absurd h.2 (by decide)⟩
  simp [anyB, isB]
  omega

theorem okc_not {c : UInt8} (h : ((c.toNat : Int) < 32 ∨ 126 < (c.toNat : Int)) ∨ ((c.toNat : Int) == 47) = true) (h' : anyB (c.toNat : Int) [0] = true ∧ ¬ c = 47) : False := by
  have h0 := h'.1
  simp [anyB, isB] at h0
  rcases h with h | h
  · omega
  · exact h'.2 (u8_47 h)

theorem noSlash_no (s : ByteArray) (k : Nat) (h : k < s.size) (h1 : ((s[k].toNat : Int) == 47) = true) : nameB s = false := by
  unfold nameB; rw [noSlash_not s k h (u8_47 h1)]; rfl

theorem plain_no (s : ByteArray) (k : Nat) (h : k < s.size) (h1 : anyB (s[k].toNat : Int) [0] = false) : nameB s = false := by
  unfold nameB; rw [allB_not s [0] k h (by simp [h1])]; simp

theorem nameB_all (s : ByteArray) (h0 : noSlash s.data.toList = true) (h1 : inB s.size 1 8 = true) (h2 : allB s.data.toList [0] = true) (h3 : ¬ s.toList = [46]) (h4 : ¬ s.toList = [46, 46]) : nameB s = true := by
  unfold nameB; simp [h0, h1, h2, h3, h4]

end Go.Proofs.YtifnolomekhmfaaGreat.M
