/-
  What the program's readNode does.
-/
import Derived.Test.YtccehdlgpbeijaaGreatDoorNodeS
import Derived.Test.YtccehdlgpbeijaaGreatDoorParseNum
import Derived.Test.YtccehdlgpbeijaaGreatDoorPieces
namespace Go.Proofs.YtccehdlgpbeijaaGreatDoor
open Go.RowKit M
set_option linter.unusedVariables false

theorem rd_all : ∀ f, NdR f ∧ KdR f := by
  intro f
  induction f using Nat.strongRecOn with
  | ind f ih => exact ⟨node_step f (fun g hg => (ih g hg).2), kids_step f (fun g hg => (ih g hg).1)⟩
theorem OwnP.cap {w : World} {B : Nat} {v : Value} {ps : List Pce} (h : OwnP w B v ps) : ∃ a c, v = .slice a ps.length c ∧ Pcs w w.heap.size a ps ∧ ps.length ≤ c ∧ c ≤ maxLen := by
  obtain ⟨a, c, e, hp⟩ := h.pcs
  refine ⟨a, c, e, hp, ?_⟩
  rcases h.2 with ⟨e', h0⟩ | ⟨g, cap, cur, e', hB, hh, h1, h2, h3, h4⟩
  · rw [e] at e'
    injection e' with _ i2 i3
    subst i3
    exact ⟨by omega, by unfold maxLen; omega⟩
  · rw [e] at e'
    injection e' with _ i2 i3
    subst i3
    exact ⟨h1, h2⟩
theorem below_grownN {w w' : World} {N : Nat} (h : w.grownBy w' (some N)) (hN : w.heap.size ≤ N) : Below w.heap.size w w' :=
  ⟨h.os, h.tape, h.output, h.size, fun k hk => h.block k hk (by simp; omega)⟩
/-- What a whole reading is handed back as. -/
def RnRet (w w' : World) (x : Option Nd) (e : Ending) : Prop :=
  match x with
  | none => e = gaveUp
  | some n => ∃ (a : Option Addr) (c : Nat), e = .returned (.agg #[.string n.ns, .string n.nm, .string n.tx, .slice a n.ks.length c]) ∧ OwnK w' a n.ks (Ivl w.heap.size w'.heap.size)

set_option maxRecDepth 100000 in
set_option maxHeartbeats 4000000 in
theorem readNode_any (s : ByteArray) (w : World) (hs : s.size ≤ 1048576) :
    Calls Tryz.prog 30 #[.string s] w fun e w' => RnRet w w' (readP (pcsR s.data.toList).1) e ∧ Below w.heap.size w w' := by
  have bA : Below w.heap.size w (w.alloc (Obj.cells #[Value.string { data := #[] }, Value.string { data := #[] }, Value.string { data := #[] }, Value.slice none 0 0] 26)) := (Below.refl _ _).alloc (Nat.le_refl _) _
  have HP := hide (pieces_any s (w.alloc (Obj.cells #[Value.string { data := #[] }, Value.string { data := #[] }, Value.string { data := #[] }, Value.slice none 0 0] 26)) (by omega))
  have BRa := hide (Bx.made w (.string ⟨#[]⟩) (.string ⟨#[]⟩) (.string ⟨#[]⟩) (.slice none 0 0) 26)
  obtain ⟨hz1, hz2⟩ := pcsR_size s.data.toList
  have hz3 := pcsR_text s.data.toList
  have el : s.data.toList.length = s.size := Array.length_toList
  rw [el] at hz2 hz3
  obtain ⟨ps, hps⟩ : ∃ ps, (pcsR s.data.toList).1 = ps := ⟨_, rfl⟩
  obtain ⟨bb, hbb⟩ : ∃ bb, (pcsR s.data.toList).2 = bb := ⟨_, rfl⟩
  unfold PcsIs at HP
  rw [hps, hbb] at HP
  rw [hps] at hz1 hz2 hz3 ⊢
  clear hps hbb el
  have HZ1 : Hid (∀ p ∈ ps, p.s.size ≤ 1048576) := fun p hp => Nat.le_trans (hz3 p hp) hs
  have HZ2 : Hid (∀ p ∈ ps, pcSize p ≤ maxLen) := fun p hp => by have := hz2 p hp; unfold maxLen; omega
  have HBA := hide bA
  clear hz2 hz3 bA
  go_enter Tryz.func30, Tryz.ntmps30
  go_wp2_with fail
  refine HP.out.mono ?_
  rintro e w1 ⟨⟨v, rfl, ho⟩, b1⟩
  obtain ⟨a, c, rfl, hpc, hc1, hc2⟩ := ho.cap
  have bN := (Below.refl w1.heap.size w1).alloc (Nat.le_refl _) (Obj.cells #[.slice a ps.length c] 87)
  have hrd : Rd (w1.alloc (Obj.cells #[.slice a ps.length c] 87)) w1.heap.size w1.heap.size ps := ⟨by simp, Nat.le_refl _, World.frozen?_alloc_new _ _ _ 0, a, c, by simp, hpc.below bN (Nat.le_refl _), hc1, hc2⟩
  have z1 := b1.size
  simp at z1
  have BR1 := hide ((BRa.out.next b1 (by simp)).next bN (by omega))
  have G1 := hide (grownR_of (N := w1.heap.size) ((HBA.out.trans (b1.mono HBA.out.size)).trans (bN.mono (by omega))))
  have HQ := hide (blanks_any w1.heap.size w1.heap.size ps _ hrd HZ1.out)
  clear ho hpc hrd b1 bN HBA HP BRa
  go_wp2_with fail
  refine HQ.out.mono ?_
  rintro e w2 ⟨rfl, r2, g2⟩
  have BR2 := hide (BR1.out.grown g2 (by omega))
  have G2 := hide (grownR_trans G1.out g2)
  have z2 := g2.size
  simp at z2
  have hsl := skipP_len ps
  have HZ3 : Hid (∀ p ∈ skipP ps, pcSize p ≤ maxLen) := fun p hp => HZ2.out p (skipP_mem _ _ hp)
  have HND := hide ((rd_all (2 * ps.length + 1)).1 (skipP ps) ⟨#[]⟩ w1.heap.size w1.heap.size w2 (by omega) r2 (fun p hp => HZ1.out p (skipP_mem _ _ hp)) (by omega))
  obtain ⟨x, hx⟩ : ∃ x, rdN (2 * ps.length + 1) (skipP ps) ⟨#[]⟩ = x := ⟨_, rfl⟩
  have HRP : Hid (readP ps = readT x) := by
    show readT _ = readT x
    rw [hx]
  rw [hx] at HND
  have HX := hide hx
  clear r2 g2 BR1 G1 HQ hx
  cases x with
  | none =>
    have HN : Hid (readP ps = none) := HRP.out
    go_wp2_with fail
    refine HND.out.mono ?_
    rintro e w3 ⟨hn, g3⟩
    have e3 : e = gaveUp := hn
    subst e3
    refine ⟨rfl, ?_, below_grownN (grownR_trans G2.out g3) (by omega)⟩
    rw [HN.out]
    exact rfl
  | some y =>
    obtain ⟨n, r⟩ := y
    have HSH := hide ((rd_short _).1 _ _ _ _ HX.out HZ3.out (by unfold maxLen; omega) (by show 0 ≤ maxLen; omega))
    obtain ⟨hl1, hl2⟩ := (rd_left _).1 _ _ _ _ HX.out
    have HRQ : Hid (readP ps = if skipP r = [] then (if nodeB n = true then some n else none) else none) := HRP.out
    have HZR : Hid (∀ p ∈ r, p.s.size ≤ 1048576) := fun p hp => HZ1.out p (skipP_mem _ _ (hl1 p hp))
    clear HRP HX hl1 HZ1 HZ2 HZ3
    go_wp2_with fail
    refine HND.out.mono ?_
    rintro e w3 ⟨⟨⟨a', c', rfl, o3⟩, r3⟩, g3⟩
    have z3 := g3.size
    have bM := (Below.refl w3.heap.size w3).alloc (Nat.le_refl _) (Obj.cells #[.string n.ns, .string n.nm, .string n.tx, .slice a' n.ks.length c'] 26)
    have BM3 := hide (Bx.made w3 (.string n.ns) (.string n.nm) (.string n.tx) (.slice a' n.ks.length c') 26)
    have BR3 := hide ((BR2.out.grown g3 (by omega)).next bM (by omega))
    have O3 := hide (o3.stays bM (fun x hx => hx.2))
    have G3 := hide (grownR_below (grownR_trans G2.out g3) (bM.mono (by omega)))
    have HQ := hide (blanks_any _ _ r _ (r3.next bM) HZR.out)
    clear o3 r3 g3 bM BR2 G2 HND
    go_wp2_with fail
    refine HQ.out.mono ?_
    rintro e w4 ⟨rfl, r4, g4⟩
    have z4 := g4.size
    simp at z4
    have BM4 := hide (BM3.out.grown g4 (by omega))
    have BR4 := hide (BR3.out.grown g4 (by omega))
    have O4 := hide (O3.out.grown g4 (fun x hx => by have h1 := hx.1; have h2 := hx.2; simp; omega))
    have G4 := hide (grownR_trans G3.out g4)
    obtain ⟨q, hq⟩ : ∃ q, skipP r = q := ⟨_, rfl⟩
    rw [hq] at HRQ r4
    clear hq g4 BM3 BR3 O3 G3 HQ HZR
    cases q with
    | cons q0 q1 =>
      have HN : Hid (readP ps = none) := HRQ.out
      have HE := hide (end_some _ _ q0 q1 w4 r4)
      clear r4
      go_wp2_with fail
      refine HE.out.mono ?_
      rintro e w5 ⟨rfl, rfl⟩
      refine ⟨rfl, ?_, below_grownN G4.out (by omega)⟩
      rw [HN.out]
      exact rfl
    | nil =>
      have HE := hide (end_none _ _ w4 r4)
      have HRS : Hid (readP ps = if nodeB n = true then some n else none) := HRQ.out
      have HOK := hide (nodeOk_any n a' c' w4.heap.size w4 (O4.out.nds (fun x hx => by have := hx.2; omega)) (Nat.le_refl _) HSH.out)
      clear r4 HRQ HSH
      obtain ⟨_, e0, e1, e2, e3, ez⟩ := BM4.out
      go_wp2_with fail
      refine HE.out.mono ?_
      rintro e w5 ⟨rfl, h5⟩
      obtain rfl := h5.symm
      cases hb : nodeB n with
      | false =>
        rw [hb] at HOK HRS
        have HN : Hid (readP ps = none) := HRS.out
        go_wp2_with fail
        refine HOK.out.mono ?_
        rintro e w6 ⟨rfl, b6⟩
        have G6 := hide (grownR_below G4.out (b6.mono (by omega)))
        clear b6
        go_wp2
        refine ⟨rfl, ?_, below_grownN G6.out (by omega)⟩
        rw [HN.out]
        exact rfl
      | true =>
        rw [hb] at HOK HRS
        have HN : Hid (readP ps = some n) := HRS.out
        go_wp2_with fail
        refine HOK.out.mono ?_
        rintro e w6 ⟨rfl, b6⟩
        have z6 := b6.size
        have bm6 := BM4.out.next b6 BM4.out.lt
        have br6 := BR4.out.next b6 BR4.out.lt
        have O6 := hide (O4.out.stays b6 (fun x hx => by have := hx.2; omega))
        have G6 := hide (grownR_below G4.out (b6.mono (by omega)))
        clear b6 e0 e1 e2 e3 ez BM4 BR4 O4 G4 HOK
        obtain ⟨_, e0, e1, e2, e3, ez⟩ := bm6
        obtain ⟨_, d0, d1, d2, d3, dz⟩ := br6
        go_wp2
        refine bodyPost_ret (v := .agg #[.string n.ns, .string n.nm, .string n.tx, .slice a' n.ks.length c']) (by simp [results, Tryz.results30, go_sem, d0, d1, d2, d3]) rfl ?_
        rw [HN.out]
        refine ⟨⟨a', c', rfl, ?_⟩, ?_⟩
        · refine OwnK.wide ((((O6.out.setC _ ?_).setC _ ?_).setC _ ?_).setC _ ?_) (fun x hx => ?_)
          all_goals first | (intro x hx; have h1 := hx.1; omega) | (have h1 := hx.1; have h2 := hx.2; unfold Ivl; simp; omega)
        · exact below_grownN (grownR_setB (grownR_setB (grownR_setB (grownR_setB G6.out _ (Nat.le_refl _)) _ (Nat.le_refl _)) _ (Nat.le_refl _)) _ (Nat.le_refl _)) (by omega)
end Go.Proofs.YtccehdlgpbeijaaGreatDoor
