/-
  Trees that are drawn, bent or not.
-/
import Derived.Test.YtccehdlgpbeijaaGreatDoorGrowM
namespace Go.Proofs.YtccehdlgpbeijaaGreatDoor
open Go.RowKit M
set_option linter.unusedVariables false

/-- A drawn tree: its parts, in blocks of its own. -/
def NdO (w w' : World) (z : Nat) (e : Ending) : Prop := ∃ (n : Nd) (an : Option Addr) (cn : Nat), e = .returned (.agg #[.string n.ns, .string n.nm, .string n.tx, .slice an n.ks.length cn]) ∧ OwnK w' an n.ks (Ivl w.heap.size w'.heap.size) ∧ n.szN ≤ z
def endW (w W : World) (n : Nd) (an : Option Addr) (cn : Nat) : World := (((W.setCell ⟨w.heap.size, 0, none⟩ (.string n.ns)).setCell ⟨w.heap.size, 1, none⟩ (.string n.nm)).setCell ⟨w.heap.size, 2, none⟩ (.string n.tx)).setCell ⟨w.heap.size, 3, none⟩ (.slice an n.ks.length cn)
theorem any_end {w W : World} {N M : Nat} {a : Option Addr} {len cap : Nat} {zs : List Int} {n : Nd} {an : Option Addr} {cn : Nat} (hN : N < w.heap.size) (dW : DX W N a len cap zs) (gW : w.grownBy W (some N)) (oW : OwnK W an n.ks (fun x => Ivl (w.heap.size + 1) W.heap.size x ∧ x ≠ M)) (hz : n.szN ≤ 10000) :
    NdO w (endW w W n an cn) 10000 (.returned (.agg #[.string n.ns, .string n.nm, .string n.tx, .slice an n.ks.length cn])) ∧ DX (endW w W n an cn) N a len cap zs ∧ w.grownBy (endW w W n an cn) (some N) := by
  refine ⟨⟨n, an, cn, rfl, ?_, hz⟩, ?_, ?_⟩
  · have hs : (endW w W n an cn).heap.size = W.heap.size := by simp [endW]
    rw [hs]
    refine OwnK.wide ((((oW.setC _ ?_).setC _ ?_).setC _ ?_).setC _ ?_) (fun x hx => ?_)
    all_goals first | (intro x hx; have h1 := hx.1.1; omega) | (have h1 := hx.1.1; have h2 := hx.1.2; unfold Ivl; omega)
  · exact (((dW.set _ hN).set _ hN).set _ hN).set _ hN
  · exact grownR_setB (grownR_setB (grownR_setB (grownR_setB gW _ (Nat.le_refl _)) _ (Nat.le_refl _)) _ (Nat.le_refl _)) _ (Nat.le_refl _)
def upN (n : Nd) : Nd := .mk ⟨#[]⟩ ⟨#[117, 112]⟩ ⟨#[]⟩ [n]
def kN : Nd := .mk ⟨#[]⟩ ⟨#[107]⟩ ⟨#[]⟩ []
theorem up_own {W : World} {M R : Nat} {n : Nd} {an : Option Addr} {cn : Nat} (o : OwnK W an n.ks (fun x => Ivl R W.heap.size x ∧ x ≠ M)) (hR : R ≤ W.heap.size) (hM : M < W.heap.size) (T : TypeId) :
    OwnK (W.alloc (Obj.cells #[.string n.ns, .string n.nm, .string n.tx, .slice an n.ks.length cn] T)) (some ⟨W.heap.size, 0, none⟩) [n] (fun x => Ivl R (W.alloc (Obj.cells #[.string n.ns, .string n.nm, .string n.tx, .slice an n.ks.length cn] T)).heap.size x ∧ x ≠ M) := by
  have hs : (W.alloc (Obj.cells #[.string n.ns, .string n.nm, .string n.tx, .slice an n.ks.length cn] T)).heap.size = W.heap.size + 1 := by simp
  have hb := (Below.refl W.heap.size W).alloc (Nat.le_refl _) (Obj.cells #[.string n.ns, .string n.nm, .string n.tx, .slice an n.ks.length cn] T)
  rw [hs]
  refine .row W.heap.size 0 [n] (fun _ => an) (fun _ => cn) (fun _ => fun x => Ivl R W.heap.size x ∧ x ≠ M) _ ⟨⟨hR, by omega⟩, by omega⟩ (fun j hj => ?_) (fun i => World.frozen?_alloc_new _ _ _ i) (fun j hj => ?_) (fun j x hj hx => ?_) (fun i j x hij hj => ?_)
  · have hj0 : j = 0 := by simpa using hj
    subst hj0
    exact ⟨by simp, by simp, by simp, by simp⟩
  · have hj0 : j = 0 := by simpa using hj
    subst hj0
    exact o.stays hb (fun x hx => hx.1.2)
  · have h1 := hx.1
    unfold Ivl at h1 ⊢
    exact ⟨⟨by omega, hx.2⟩, by omega⟩
  · simp at hj; omega

def nm3D : List ByteArray := [⟨#[]⟩, ⟨#[65]⟩, ⟨#[120, 32, 121]⟩]
def ns2D : List ByteArray := [⟨#[1]⟩, ⟨#[116, 119, 101, 110, 116, 121, 45, 111, 110, 101, 45, 98, 121, 116, 101, 115, 45, 116, 101, 120, 116]⟩]
def tx2D : List ByteArray := [⟨#[97]⟩, ⟨#[255]⟩]

set_option maxRecDepth 100000 in
set_option maxHeartbeats 8000000 in
theorem l8Any_any {w : World} {N : Nat} {a : Option Addr} {len cap : Nat} {zs : List Int} (h : DX w N a len cap zs) :
    Calls Tryz.prog 24 #[.pointer (some ⟨N, 0, none⟩)] w fun e w' => NdO w w' 10000 e ∧ DX w' N a len cap zs ∧ w.grownBy w' (some N) := by
  have H := hide h
  have hNl := h.lt
  clear h
  have bA := (Below.refl w.heap.size w).alloc (Nat.le_refl _) (Obj.cells #[Value.string { data := #[] }, Value.string { data := #[] }, Value.string { data := #[] }, Value.slice none 0 0] 26)
  have DA := hide (H.out.alloc (Obj.cells #[Value.string { data := #[] }, Value.string { data := #[] }, Value.string { data := #[] }, Value.slice none 0 0] 26))
  have BR := hide (Bx.made w (.string ⟨#[]⟩) (.string ⟨#[]⟩) (.string ⟨#[]⟩) (.slice none 0 0) 26)
  have GA := hide (grownR_of (N := N) bA)
  obtain ⟨wA, hwA⟩ : ∃ wA, w.alloc (Obj.cells #[Value.string { data := #[] }, Value.string { data := #[] }, Value.string { data := #[] }, Value.slice none 0 0] 26) = wA := ⟨_, rfl⟩
  have zA : Hid (wA.heap.size = w.heap.size + 1) := by show _ = _; rw [← hwA]; simp
  rw [hwA] at DA BR GA
  clear bA
  have HQ := hide (l8Draw_all 3 (by decide) N a len cap zs wA DA.out)
  go_enter Tryz.func24, Tryz.ntmps24
  go_wp2_with fail
  refine HQ.out.mono ?_
  rintro e w1 ⟨⟨n, ts, an, cn, rfl, htk, gk, hz⟩, dx1, g1⟩
  have z1 := g1.size
  have bM := (Below.refl w1.heap.size w1).alloc (Nat.le_refl _) (Obj.cells #[.string n.ns, .string n.nm, .string n.tx, .slice an n.ks.length cn] 26)
  have hw1 : w.heap.size + 1 ≤ w1.heap.size := by have := zA.out; omega
  have D2 := hide (dx1.alloc (Obj.cells #[.string n.ns, .string n.nm, .string n.tx, .slice an n.ks.length cn] 26))
  have G2 := hide (grownR_below (grownR_trans GA.out g1) (bM.mono (by omega)))
  have BR2 := hide ((BR.out.grown g1 (by omega)).next bM (by omega))
  have BM2 := hide (Bx.made w1 (.string n.ns) (.string n.nm) (.string n.tx) (.slice an n.ks.length cn) 26)
  have K2 := hide ((gk.toM).next bM (Nat.le_refl _))
  have hvb : Hid ((Value.slice an n.ks.length cn).ownBlock ≠ some w1.heap.size) := fun e => by have := gk.blk _ e; omega
  have HTK := hide htk
  have hz' : n.szN ≤ 1000 := Nat.le_trans hz (by decide)
  rw [zA.out] at K2
  clear dx1 g1 hwA DA GA BR bM gk htk hz HQ zA
  go_wp2_with fail
  refine (l1BelowX D2.out 10 (by decide) (by decide)).mono ?_
  rintro e w3 ⟨⟨k, rfl, hk⟩, dx3, g3⟩
  have z3 := g3.size
  simp at z3
  obtain ⟨M, hM⟩ : ∃ M, w1.heap.size = M := ⟨_, rfl⟩
  have hMN : N < M := by omega
  have hMR : w.heap.size < M := by omega
  have D3 := hide dx3
  have G3 := hide (grownR_trans G2.out g3)
  have BR3 := hide (BR2.out.grown g3 (by omega))
  have BM3 := hide (BM2.out.grown g3 (by omega))
  have K3 := hide (K2.out.grown g3 (by omega) (by simp))
  rw [hM] at BM3 K3 hvb z3
  rw [hM]
  have hM3 : M < w3.heap.size := by omega
  have O3 : Hid (OwnK w3 an n.ks (fun x => Ivl (w.heap.size + 1) w3.heap.size x ∧ x ≠ M)) := by
    have := K3.out.done (M := M) (by omega) (Nat.le_refl _) hvb.out
    rw [HTK.out] at this
    exact this
  clear dx3 g3 hM D2 G2 BR2 BM2 K2
  by_cases k0 : k = 0
  · subst k0
    go_wp2_with fail
    refine (strNew8 D3.out nm3D _ _ 3 _ 30 rfl rfl rfl (by decide) (by decide) (by decide)).mono ?_
    rintro e w4 ⟨⟨t, rfl, ht⟩, dx4, g4⟩
    have z4 := g4.size
    have BM4 := BM3.out.grown g4 (by omega)
    have BR4 := hide ((BR3.out.grown g4 (by omega)).other (b' := M) (k := 1) (.string t) (by omega))
    have BM5 := hide (BM4.set1 (.string t))
    have D5 := dx4.set (b := M) (k := 1) (.string t) hMN
    have G5 := grownR_setB (b := M) (k := 1) (grownR_trans G3.out g4) (.string t) (by omega)
    have O5 : OwnK (w4.setCell ⟨M, 1, none⟩ (.string t)) an n.ks (fun x => Ivl (w.heap.size + 1) (w4.setCell ⟨M, 1, none⟩ (.string t)).heap.size x ∧ x ≠ M) := by
      have hs : (w4.setCell ⟨M, 1, none⟩ (.string t)).heap.size = w4.heap.size := by simp
      rw [hs]
      refine OwnK.wide ((O3.out.grown g4 (fun x hx => ?_)).setC _ (fun x hx => hx.2)) (fun x hx => ?_)
      · have h1 := hx.1; unfold Ivl at h1; omega
      · have h1 := hx.1; unfold Ivl at h1 ⊢; exact ⟨by omega, hx.2⟩
    have HE := hide (any_end (n := Nd.mk n.ns t n.tx n.ks) (cn := cn) hNl D5 G5 O5 (by have := szN_ks n; rw [Nd.szN]; omega))
    obtain ⟨_, m0, m1, m2, m3, mz⟩ := BM5.out
    obtain ⟨_, r0, r1, r2, r3, rz⟩ := BR4.out
    have f0 := BM4.c1
    have fz := BM4.fz
    clear dx4 g4 D5 G5 O5 BM4
    go_wp2
    refine bodyPost_ret (v := .agg #[.string n.ns, .string t, .string n.tx, .slice an n.ks.length cn]) (by simp [results, Tryz.results24, go_sem, r0, r1, r2, r3]) rfl HE.out
  by_cases k1 : k = 1
  · subst k1
    go_wp2_with fail
    refine (strNew8 D3.out ns2D _ _ 2 _ 30 rfl rfl rfl (by decide) (by decide) (by decide)).mono ?_
    rintro e w4 ⟨⟨t, rfl, ht⟩, dx4, g4⟩
    have z4 := g4.size
    have BM4 := BM3.out.grown g4 (by omega)
    have BR4 := hide ((BR3.out.grown g4 (by omega)).other (b' := M) (k := 0) (.string t) (by omega))
    have BM5 := hide (BM4.set0 (.string t))
    have D5 := dx4.set (b := M) (k := 0) (.string t) hMN
    have G5 := grownR_setB (b := M) (k := 0) (grownR_trans G3.out g4) (.string t) (by omega)
    have O5 : OwnK (w4.setCell ⟨M, 0, none⟩ (.string t)) an n.ks (fun x => Ivl (w.heap.size + 1) (w4.setCell ⟨M, 0, none⟩ (.string t)).heap.size x ∧ x ≠ M) := by
      have hs : (w4.setCell ⟨M, 0, none⟩ (.string t)).heap.size = w4.heap.size := by simp
      rw [hs]
      refine OwnK.wide ((O3.out.grown g4 (fun x hx => ?_)).setC _ (fun x hx => hx.2)) (fun x hx => ?_)
      · have h1 := hx.1; unfold Ivl at h1; omega
      · have h1 := hx.1; unfold Ivl at h1 ⊢; exact ⟨by omega, hx.2⟩
    have HE := hide (any_end (n := Nd.mk t n.nm n.tx n.ks) (cn := cn) hNl D5 G5 O5 (by have := szN_ks n; rw [Nd.szN]; omega))
    obtain ⟨_, m0, m1, m2, m3, mz⟩ := BM5.out
    obtain ⟨_, r0, r1, r2, r3, rz⟩ := BR4.out
    have f0 := BM4.c0
    have fz := BM4.fz
    clear dx4 g4 D5 G5 O5 BM4
    go_wp2
    refine bodyPost_ret (v := .agg #[.string t, .string n.nm, .string n.tx, .slice an n.ks.length cn]) (by simp [results, Tryz.results24, go_sem, r0, r1, r2, r3]) rfl HE.out
  by_cases k2 : k = 2
  · subst k2
    go_wp2_with fail
    refine (strNew8 D3.out tx2D _ _ 2 _ 30 rfl rfl rfl (by decide) (by decide) (by decide)).mono ?_
    rintro e w4 ⟨⟨t, rfl, ht⟩, dx4, g4⟩
    have z4 := g4.size
    have BM4 := BM3.out.grown g4 (by omega)
    have BR4 := hide ((BR3.out.grown g4 (by omega)).other (b' := M) (k := 2) (.string t) (by omega))
    have BM5 := hide (BM4.set2 (.string t))
    have D5 := dx4.set (b := M) (k := 2) (.string t) hMN
    have G5 := grownR_setB (b := M) (k := 2) (grownR_trans G3.out g4) (.string t) (by omega)
    have O5 : OwnK (w4.setCell ⟨M, 2, none⟩ (.string t)) an n.ks (fun x => Ivl (w.heap.size + 1) (w4.setCell ⟨M, 2, none⟩ (.string t)).heap.size x ∧ x ≠ M) := by
      have hs : (w4.setCell ⟨M, 2, none⟩ (.string t)).heap.size = w4.heap.size := by simp
      rw [hs]
      refine OwnK.wide ((O3.out.grown g4 (fun x hx => ?_)).setC _ (fun x hx => hx.2)) (fun x hx => ?_)
      · have h1 := hx.1; unfold Ivl at h1; omega
      · have h1 := hx.1; unfold Ivl at h1 ⊢; exact ⟨by omega, hx.2⟩
    have HE := hide (any_end (n := Nd.mk n.ns n.nm t n.ks) (cn := cn) hNl D5 G5 O5 (by have := szN_ks n; rw [Nd.szN]; omega))
    obtain ⟨_, m0, m1, m2, m3, mz⟩ := BM5.out
    obtain ⟨_, r0, r1, r2, r3, rz⟩ := BR4.out
    have f0 := BM4.c2
    have fz := BM4.fz
    clear dx4 g4 D5 G5 O5 BM4
    go_wp2
    refine bodyPost_ret (v := .agg #[.string n.ns, .string n.nm, .string t, .slice an n.ks.length cn]) (by simp [results, Tryz.results24, go_sem, r0, r1, r2, r3]) rfl HE.out
  by_cases k3 : k = 3
  · subst k3
    go_wp2_with fail
    refine (l1BelowX D3.out 6 (by decide) (by decide)).mono ?_
    rintro e w4 ⟨⟨j0, rfl, hj0⟩, dx4, g4⟩
    have z4 := g4.size
    have D4 := hide dx4
    have G4 := hide (grownR_trans G3.out g4)
    have BM4 := hide (BM3.out.grown g4 (by omega))
    have BR4 := hide (BR3.out.grown g4 (by omega))
    have O4 : Hid (OwnK w4 an n.ks (fun x => Ivl (w.heap.size + 1) w4.heap.size x ∧ x ≠ M)) := OwnK.wide (O3.out.grown g4 (fun x hx => by have h1 := hx.1; unfold Ivl at h1; omega)) (fun x hx => by have h1 := hx.1; unfold Ivl at h1 ⊢; exact ⟨by omega, hx.2⟩)
    clear dx4 g4 D3 G3 BM3 BR3 O3 K3 HTK
    go_wp2
    go_loopw [4] (fun i wr => ∃ (j : Nat) (m : Nd) (am : Option Addr) (cm : Nat), i = .int .i64 j ∧ m.szN + 3 * j ≤ 1100 ∧ Bx wr M (.string m.ns) (.string m.nm) (.string m.tx) (.slice am m.ks.length cm) ∧ Bx wr w.heap.size (.string ⟨#[]⟩) (.string ⟨#[]⟩) (.string ⟨#[]⟩) (.slice none 0 0) ∧ OwnK wr am m.ks (fun x => Ivl (w.heap.size + 1) wr.heap.size x ∧ x ≠ M) ∧ DX wr N a len cap zs ∧ w.grownBy wr (some N)) (fun i _ => (intOf i).toNat)
    case atStart => exact ⟨j0, n, an, cn, rfl, by omega, BM4.out, BR4.out, O4.out, D4.out, G4.out⟩
    case round =>
      clear BM4 BR4 O4 D4 G4
      obtain ⟨j, m, am, cm, rfl, hjz, hbm, hbr, hom, hdx, hgr⟩ := hrel
      have BM := hide hbm
      have BR := hide hbr
      have OM := hide hom
      have DD := hide hdx
      have GR := hide hgr
      have hMl := hbm.lt
      have hwz := hgr.size
      clear hbm hbr hom hdx hgr
      obtain ⟨_, m0, m1, m2, m3, mz⟩ := BM.out
      by_cases hj : 0 < j
      · have hj' : (0 : Int) < (j : Int) := by omega
        have S1 := (((BM.out.set0 (.string ⟨#[]⟩)).set1 (.string ⟨#[117, 112]⟩)).set2 (.string ⟨#[]⟩)).set3 (.slice (some ⟨wr.heap.size, 0, none⟩) 1 1)
        have S2 := (((BR.out.other (b' := M) (k := 0) (.string ⟨#[]⟩) (by omega)).other (b' := M) (k := 1) (.string ⟨#[117, 112]⟩) (by omega)).other (b' := M) (k := 2) (.string ⟨#[]⟩) (by omega)).other (b' := M) (k := 3) (.slice (some ⟨wr.heap.size, 0, none⟩) 1 1) (by omega)
        have S3 := (((DD.out.set (b := M) (k := 0) (.string ⟨#[]⟩) hMN).set (b := M) (k := 1) (.string ⟨#[117, 112]⟩) hMN).set (b := M) (k := 2) (.string ⟨#[]⟩) hMN).set (b := M) (k := 3) (.slice (some ⟨wr.heap.size, 0, none⟩) 1 1) hMN
        have S4 := grownR_setB (b := M) (k := 3) (grownR_setB (b := M) (k := 2) (grownR_setB (b := M) (k := 1) (grownR_setB (b := M) (k := 0) GR.out (.string ⟨#[]⟩) (by omega)) (.string ⟨#[117, 112]⟩) (by omega)) (.string ⟨#[]⟩) (by omega)) (.slice (some ⟨wr.heap.size, 0, none⟩) 1 1) (by omega)
        have S5 := (((OM.out.setC (b := M) (k := 0) (.string ⟨#[]⟩) (fun x hx => hx.2)).setC (b := M) (k := 1) (.string ⟨#[117, 112]⟩) (fun x hx => hx.2)).setC (b := M) (k := 2) (.string ⟨#[]⟩) (fun x hx => hx.2)).setC (b := M) (k := 3) (.slice (some ⟨wr.heap.size, 0, none⟩) 1 1) (fun x hx => hx.2)
        have hsz : ((((wr.setCell ⟨M, 0, none⟩ (.string ⟨#[]⟩)).setCell ⟨M, 1, none⟩ (.string ⟨#[117, 112]⟩)).setCell ⟨M, 2, none⟩ (.string ⟨#[]⟩)).setCell ⟨M, 3, none⟩ (.slice (some ⟨wr.heap.size, 0, none⟩) 1 1)).heap.size = wr.heap.size := by simp
        obtain ⟨W1, hW1⟩ : ∃ W1, (((wr.setCell ⟨M, 0, none⟩ (.string ⟨#[]⟩)).setCell ⟨M, 1, none⟩ (.string ⟨#[117, 112]⟩)).setCell ⟨M, 2, none⟩ (.string ⟨#[]⟩)).setCell ⟨M, 3, none⟩ (.slice (some ⟨wr.heap.size, 0, none⟩) 1 1) = W1 := ⟨_, rfl⟩
        rw [hW1] at S1 S2 S3 S4 S5 hsz
        rw [← hsz] at S5
        have bX := (Below.refl W1.heap.size W1).alloc (Nat.le_refl _) (Obj.cells #[.string m.ns, .string m.nm, .string m.tx, .slice am m.ks.length cm] 26)
        have O9' := up_own (cn := cm) S5 (by omega) (by omega) 26
        rw [hsz] at O9'
        have B9 := hide (S1.next bX (by omega))
        have R9 := hide (S2.next bX (by omega))
        have D9 := hide (S3.alloc (Obj.cells #[.string m.ns, .string m.nm, .string m.tx, .slice am m.ks.length cm] 26))
        have G9 := hide (grownR_below S4 (bX.mono (by omega)))
        have O9 := hide O9'
        have HW1 := hide hW1
        rw [← HW1.out] at B9 R9 D9 G9 O9
        clear bX O9' S1 S2 S3 S4 S5 hW1 HW1 hsz
        go_wp2
        go_roundw
        case rel => exact ⟨j - 1, upN m, some ⟨wr.heap.size, 0, none⟩, 1, by go_num, by have h0 : (⟨#[]⟩ : ByteArray).size = 0 := rfl; have h2 : (⟨#[117, 112]⟩ : ByteArray).size = 2 := rfl; simp only [upN, Nd.szN, szL, List.length_cons, List.length_nil]; omega, B9.out, R9.out, O9.out, D9.out, G9.out⟩
        case measure => simp [intOf]; omega
      · have hj' : ¬ (0 : Int) < (j : Int) := by omega
        have HE := hide (any_end (n := m) (cn := cm) hNl DD.out GR.out OM.out (by omega))
        obtain ⟨_, r0, r1, r2, r3, rz⟩ := BR.out
        go_wp2
        refine bodyPost_ret (v := .agg #[.string m.ns, .string m.nm, .string m.tx, .slice am m.ks.length cm]) (by simp [results, Tryz.results24, go_sem, r0, r1, r2, r3]) rfl HE.out
  by_cases k4 : k = 4
  · subst k4
    have hks : n.ks.length = ts.length := by rw [← HTK.out, List.length_map]
    rw [hks] at BM3 K3 hvb
    have HZT : Hid (szL (ts.map (·.1)) + ts.length + n.ns.size + n.nm.size + n.tx.size ≤ 1000) := by
      show _ ≤ _
      have h1 := szN_ks n
      rw [HTK.out]; omega
    go_wp2
    go_loopw [5] (fun i wr => ∃ (j : Nat) (us : List NdT) (am : Option Addr) (cm : Nat), i = .int .i64 j ∧ j ≤ 19 ∧ us.length ≤ ts.length + j ∧ szL (us.map (·.1)) + us.length + n.ns.size + n.nm.size + n.tx.size ≤ 1000 + 5 * j ∧ Bx wr M (.string n.ns) (.string n.nm) (.string n.tx) (.slice am us.length cm) ∧ Bx wr w.heap.size (.string ⟨#[]⟩) (.string ⟨#[]⟩) (.string ⟨#[]⟩) (.slice none 0 0) ∧ GrowM wr (w.heap.size + 1) (.slice am us.length cm) us M ∧ (Value.slice am us.length cm).ownBlock ≠ some M ∧ DX wr N a len cap zs ∧ w.grownBy wr (some N)) (fun i _ => 19 - (intOf i).toNat)
    case atStart => exact ⟨0, ts, an, cn, rfl, Nat.zero_le _, by omega, by have := HZT.out; omega, BM3.out, BR3.out, K3.out, hvb.out, D3.out, G3.out⟩
    case round =>
      clear BM3 BR3 K3 D3 G3 O3 hvb HZT
      obtain ⟨j, us, am, cm, rfl, hj19, husl, husz, hbm, hbr, hgm, hvm, hdx, hgr⟩ := hrel
      have BM := hide hbm
      have BR := hide hbr
      have GM := hide hgm
      have HV := hide hvm
      have DD := hide hdx
      have GR := hide hgr
      have hMl := hbm.lt
      have hwz := hgr.size
      clear hbm hbr hgm hvm hdx hgr
      obtain ⟨_, m0, m1, m2, m3, mz⟩ := BM.out
      by_cases hj : j < 19
      · have hj' : (j : Int) < 19 := by omega
        have bX := (Below.refl wr.heap.size wr).alloc (Nat.le_refl _) (Obj.cells #[.string ⟨#[]⟩, .string ⟨#[107]⟩, .string ⟨#[]⟩, .slice none 0 0] 26)
        have GM7 := hide (GM.out.next bX (by omega))
        have BM7 := hide (BM.out.next bX (by omega))
        have BR7 := hide (BR.out.next bX (by omega))
        have D7 := hide (DD.out.alloc (Obj.cells #[.string ⟨#[]⟩, .string ⟨#[107]⟩, .string ⟨#[]⟩, .slice none 0 0] 26))
        have GR7 := hide (grownR_below GR.out (bX.mono (by omega)))
        have hts9 : ts.length ≤ 1000 := by have := szN_ks n; omega
        clear bX
        go_wp2_with (at_builtin; refine wp_append_nodeM rfl _ _ rfl (w.heap.size + 1) M _ us rfl GM7.out _ kN rfl ?c0 ?c1 ?c2 ?c3 rfl ?c4 ?c5 ?c6 ?_)
        case c0 => simp [kN, Nd.ns]
        case c1 => simp [kN, Nd.nm]
        case c2 => simp [kN, Nd.tx]
        case c3 => simp
        case c4 => omega
        case c5 => simp; omega
        case c6 => simp; omega
        intro g8 c8 w8 o8 b8 gr8 hat8
        have hgM : g8 ≠ M := fun e => by
          rcases hat8 with h | h
          · exact HV.out (by rw [← h, e])
          · first | omega | (simp at h; omega)
        have hvb8 : ∀ y, (Value.slice am us.length cm).ownBlock = some y → w.heap.size + 1 ≤ y := fun y hy => (World.ownsRow.lt GM7.out.own y hy).1
        have hblk : w8.heap[M]? = (wr.alloc (Obj.cells #[.string ⟨#[]⟩, .string ⟨#[107]⟩, .string ⟨#[]⟩, .slice none 0 0] 26)).heap[M]? := gr8.block M (by simp; omega) (fun e => HV.out e.symm)
        have BM8 := BM7.out.of gr8.size hblk
        have BM9 := hide (BM8.set3 (.slice (some ⟨g8, 0, none⟩) (us.length + 1) c8))
        have BR9 := hide ((BR7.out.next b8 (by omega)).other (b' := M) (k := 3) (.slice (some ⟨g8, 0, none⟩) (us.length + 1) c8) (by omega))
        have GM9 := hide (o8.store (M := M) (k := 3) (.slice (some ⟨g8, 0, none⟩) (us.length + 1) c8) (Nat.le_refl _) (fun e => hgM (Option.some.inj e)))
        have D9 := hide ((D7.out.other (w' := w8) b8.size (fun i hi => b8.block i (by omega))).set (b := M) (k := 3) (.slice (some ⟨g8, 0, none⟩) (us.length + 1) c8) hMN)
        have GR9 := hide (grownR_setB (b := M) (k := 3) (grownR_below GR7.out (b8.mono (by omega))) (.slice (some ⟨g8, 0, none⟩) (us.length + 1) c8) (by omega))
        have x3 := BM8.c3
        have xz := BM8.fz
        clear o8 b8 gr8 hat8 hblk BM8 BM7 BR7 GM7 D7 GR7 hvb8
        go_wp2
        go_roundw
        case rel => exact ⟨j + 1, us ++ [(kN, none, 0)], some ⟨g8, 0, none⟩, c8, by go_num, by omega, by simp; omega, by rw [List.map_append, szL_app]; have h0 : (⟨#[]⟩ : ByteArray).size = 0 := rfl; have h2 : (⟨#[107]⟩ : ByteArray).size = 1 := rfl; simp only [List.map_cons, List.map_nil, szL, kN, Nd.szN, List.length_append, List.length_cons, List.length_nil]; omega, by rw [List.length_append]; exact BM9.out, BR9.out, by have := GM9.out; rw [List.length_append]; exact this, (fun e => hgM (Option.some.inj e)), D9.out, GR9.out⟩
        case measure => simp [intOf]; omega
      · have hj' : ¬ (j : Int) < 19 := by omega
        have OM := GM.out.done (M := M) (by omega) (Nat.le_refl _) HV.out
        have HE := any_end (n := .mk n.ns n.nm n.tx (us.map (·.1))) (cn := cm) hNl DD.out GR.out OM (by rw [Nd.szN, List.length_map]; omega)
        have hlm : (Nd.mk n.ns n.nm n.tx (us.map (·.1))).ks.length = us.length := by simp [Nd.ks]
        unfold endW at HE
        rw [hlm] at HE
        have HE' := hide HE
        obtain ⟨_, r0, r1, r2, r3, rz⟩ := BR.out
        clear OM HE hlm
        go_wp2
        refine bodyPost_ret (v := .agg #[.string n.ns, .string n.nm, .string n.tx, .slice am us.length cm]) (by simp [results, Tryz.results24, go_sem, r0, r1, r2, r3]) rfl HE'.out
  have e0 : ((k : Int) == 0) = false := by apply beq_eq_false_iff_ne.2; omega
  have e1 : ((k : Int) == 1) = false := by apply beq_eq_false_iff_ne.2; omega
  have e2 : ((k : Int) == 2) = false := by apply beq_eq_false_iff_ne.2; omega
  have e3 : ((k : Int) == 3) = false := by apply beq_eq_false_iff_ne.2; omega
  have e4 : ((k : Int) == 4) = false := by apply beq_eq_false_iff_ne.2; omega
  have HE := hide (any_end (n := n) (cn := cn) hNl D3.out G3.out O3.out (by omega))
  obtain ⟨_, m0, m1, m2, m3, mz⟩ := BM3.out
  obtain ⟨_, r0, r1, r2, r3, rz⟩ := BR3.out
  clear k0 k1 k2 k3 k4
  go_wp2
  refine bodyPost_ret (v := .agg #[.string n.ns, .string n.nm, .string n.tx, .slice an n.ks.length cn]) (by simp [results, Tryz.results24, go_sem, r0, r1, r2, r3]) rfl HE.out
end Go.Proofs.YtccehdlgpbeijaaGreatDoor
