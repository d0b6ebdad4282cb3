/-
  The draws of the law FnNodes: whatever is drawn, it is small.
  Two trees that are drawn.
-/
import Derived.Test.YtccehdlgpbeijaaGreatDoorDrawAny8
import Derived.Test.YtccehdlgpbeijaaGreatDoorSpecCopyN
import Derived.Deep.RegionHeld3
namespace Go.Proofs.YtccehdlgpbeijaaGreatDoor
open Go.RowKit M
set_option linter.unusedVariables false

theorem below_then {B N : Nat} {w w1 w2 : World} (hb : Below B w w1) (hg : w1.grownBy w2 (some N)) (hN : B ≤ N) (hB : B ≤ w1.heap.size) : Below B w w2 :=
  hb.trans ⟨hg.os, hg.tape, hg.output, hg.size, fun k hk => hg.block k (by omega) (by simp; omega)⟩
theorem nodeT_len (n : Nd) (h : n.szN ≤ 1000) : (nodeT n).size ≤ 100100 := by
  unfold nodeT
  split
  · rw [bytesOf_size]
    have := txt_len n ByteArray.empty
    omega
  · show 0 ≤ _
    omega

set_option maxRecDepth 100000 in
set_option maxHeartbeats 4000000 in
theorem drawNodeText_any {w : World} {B : Nat} {a : Option Addr} {len : Nat} {zs : List Int} (h : CodeIn w B a len zs) (cap : Nat) :
    Calls Tryz.prog 6 #[.slice a len cap] w fun e w' => NdO w w' 10000 e ∧ Below w.heap.size w w' := by
  have hB := h.hB
  have bA := (Below.refl w.heap.size w).alloc (Nat.le_refl _) (Obj.cells #[Value.string { data := #[] }, Value.string { data := #[] }, Value.string { data := #[] }, Value.slice none 0 0] 26)
  have HC := hide (h.below (bA.mono hB))
  have BR := hide (Bx.made w (.string ⟨#[]⟩) (.string ⟨#[]⟩) (.string ⟨#[]⟩) (.slice none 0 0) 26)
  have BA := hide bA
  obtain ⟨wA, hwA⟩ : ∃ wA, w.alloc (Obj.cells #[Value.string { data := #[] }, Value.string { data := #[] }, Value.string { data := #[] }, Value.slice none 0 0] 26) = wA := ⟨_, rfl⟩
  have zA : wA.heap.size = w.heap.size + 1 := by rw [← hwA]; simp
  have ZA := hide zA
  rw [hwA] at HC BR BA
  clear h bA zA
  go_enter Tryz.func6, Tryz.ntmps6
  go_wp2_with fail
  refine (newDX HC.out cap).mono ?_
  rintro e w1 ⟨rfl, dx1, b1⟩
  have D1 := hide dx1
  have z1 := b1.size
  have z1' : w.heap.size + 1 ≤ w1.heap.size := by have := ZA.out; omega
  have C1 := hide (BA.out.trans (b1.mono (by have := ZA.out; omega)))
  have BR1 := hide (BR.out.next b1 (by have := ZA.out; omega))
  clear dx1 b1 hwA
  go_wp2_with fail
  refine (l8Any_any D1.out).mono ?_
  rintro e w2 ⟨⟨n, an, cn, rfl, o2, hz⟩, _, g2⟩
  have z2 := g2.size
  have C2 := hide (below_then C1.out g2 (by have := ZA.out; omega) (by omega))
  have BR2 := hide (BR1.out.grown g2 (by have := ZA.out; omega))
  have O2 := hide o2
  obtain ⟨_, r0, r1, r2, r3, rz⟩ := BR2.out
  clear o2 g2
  go_wp2
  refine bodyPost_ret (v := .agg #[.string n.ns, .string n.nm, .string n.tx, .slice an n.ks.length cn]) (by simp [results, Tryz.results6, go_sem, r0, r1, r2, r3]) rfl ⟨⟨n, an, cn, rfl, ?_, hz⟩, ?_⟩
  · refine OwnK.wide ((((O2.out.setC _ ?_).setC _ ?_).setC _ ?_).setC _ ?_) (fun x hx => ?_)
    all_goals first | (intro x hx; have h1 := hx.1; omega) | (have h1 := hx.1; have h2 := hx.2; unfold Ivl; simp; omega)
  · exact (((C2.out.setCell (Nat.le_refl _) _).setCell (Nat.le_refl _) _).setCell (Nat.le_refl _) _).setCell (Nat.le_refl _) _

def ns3D : List ByteArray := [⟨#[68, 65, 86, 58]⟩, ⟨#[]⟩, ⟨#[117, 58, 120]⟩]
def nmKD : List ByteArray := [⟨#[97]⟩, ⟨#[98]⟩, ⟨#[112, 114, 111, 112]⟩]

set_option maxRecDepth 100000 in
set_option maxHeartbeats 4000000 in
theorem drawKidOf_any {w : World} {B : Nat} {a : Option Addr} {len : Nat} {zs : List Int} (h : CodeIn w B a len zs) (cap : Nat) :
    Calls Tryz.prog 12 #[.slice a len cap] w fun e w' => (∃ (n : Nd) (an : Option Addr) (cn : Nat) (x y : ByteArray), e = .returned (.tuple #[.agg #[.string n.ns, .string n.nm, .string n.tx, .slice an n.ks.length cn], .string x, .string y]) ∧ OwnK w' an n.ks (Ivl w.heap.size w'.heap.size) ∧ n.szN ≤ 10000 ∧ x.size ≤ 20 ∧ y.size ≤ 20) ∧ Below w.heap.size w w' := by
  have hB := h.hB
  have bA := (Below.refl w.heap.size w).alloc (Nat.le_refl _) (Obj.cells #[Value.string { data := #[] }, Value.string { data := #[] }, Value.string { data := #[] }, Value.slice none 0 0] 26)
  have HC := hide (h.below (bA.mono hB))
  have BR := hide (Bx.made w (.string ⟨#[]⟩) (.string ⟨#[]⟩) (.string ⟨#[]⟩) (.slice none 0 0) 26)
  have BA := hide bA
  obtain ⟨wA, hwA⟩ : ∃ wA, w.alloc (Obj.cells #[Value.string { data := #[] }, Value.string { data := #[] }, Value.string { data := #[] }, Value.slice none 0 0] 26) = wA := ⟨_, rfl⟩
  have zA : wA.heap.size = w.heap.size + 1 := by rw [← hwA]; simp
  have ZA := hide zA
  rw [hwA] at HC BR BA
  clear h bA zA
  go_enter Tryz.func12, Tryz.ntmps12
  go_wp2_with fail
  refine (newDX HC.out cap).mono ?_
  rintro e w1 ⟨rfl, dx1, b1⟩
  have D1 := hide dx1
  have hN1 := dx1.lt
  have z1 := b1.size
  have z1' : w.heap.size + 1 ≤ w1.heap.size := by have := ZA.out; omega
  have C1 := hide (BA.out.trans (b1.mono (by have := ZA.out; omega)))
  have BR1 := hide (BR.out.next b1 (by have := ZA.out; omega))
  have HQ := hide (l8Draw_all 2 (by decide) _ _ _ _ _ _ D1.out)
  clear dx1 b1 hwA
  go_wp2_with fail
  refine HQ.out.mono ?_
  rintro e w2 ⟨⟨n, ts, an, cn, rfl, htk, gk, hz⟩, dx2, g2⟩
  have z2 := g2.size
  have hz' : n.szN ≤ 10000 := Nat.le_trans hz (by decide)
  have C2 := hide (below_then C1.out g2 (by have := ZA.out; omega) (by omega))
  have BR2 := hide (BR1.out.grown g2 (by have := ZA.out; omega))
  have D2 := hide dx2
  have O2 : Hid (OwnK w2 an n.ks (Ivl w1.heap.size w2.heap.size)) := by
    obtain ⟨a9, c9, e9, o9⟩ := gk.done
    injection e9 with i1 i2 i3
    rw [htk] at o9
    rw [i1]; exact o9
  clear gk htk hz dx2 g2 HQ C1 BR1 D1
  go_wp2_with fail
  refine (strNew8 D2.out ns3D _ _ 3 _ 20 rfl rfl rfl (by decide) (by decide) (by decide)).mono ?_
  rintro e w3 ⟨⟨x, rfl, hx⟩, dx3, g3⟩
  have z3 := g3.size
  have D3 := hide dx3
  have C3 := hide (below_then C2.out g3 (by have := ZA.out; omega) (by omega))
  have BR3 := hide (BR2.out.grown g3 (by have := ZA.out; omega))
  have O3 := hide (O2.out.grown g3 (fun x hx => by have h1 := hx.1; have h2 := hx.2; have := ZA.out; omega))
  clear dx3 g3 C2 BR2 O2 D2
  go_wp2_with fail
  refine (strNew8 D3.out nmKD _ _ 3 _ 20 rfl rfl rfl (by decide) (by decide) (by decide)).mono ?_
  rintro e w4 ⟨⟨y, rfl, hy⟩, _, g4⟩
  have z4 := g4.size
  have C4 := hide (below_then C3.out g4 (by have := ZA.out; omega) (by omega))
  have BR4 := hide (BR3.out.grown g4 (by have := ZA.out; omega))
  have O4 := hide (O3.out.grown g4 (fun x hx => by have h1 := hx.1; have h2 := hx.2; have := ZA.out; omega))
  obtain ⟨_, r0, r1, r2, r3, rz⟩ := BR4.out
  clear g4 C3 BR3 O3 D3
  go_wp2
  refine bodyPost_ret (v := .tuple #[.agg #[.string n.ns, .string n.nm, .string n.tx, .slice an n.ks.length cn], .string x, .string y]) (by simp [results, Tryz.results12, go_sem, r0, r1, r2, r3]) rfl ⟨⟨n, an, cn, x, y, rfl, ?_, hz', hx, hy⟩, ?_⟩
  · refine OwnK.wide ((((O4.out.setC _ ?_).setC _ ?_).setC _ ?_).setC _ ?_) (fun x hx => ?_)
    all_goals first | (intro x hx; have h1 := hx.1; omega) | (have h1 := hx.1; have h2 := hx.2; unfold Ivl; simp; omega)
  · exact (((C4.out.setCell (Nat.le_refl _) _).setCell (Nat.le_refl _) _).setCell (Nat.le_refl _) _).setCell (Nat.le_refl _) _

def pnD : List ByteArray := [⟨#[]⟩, ⟨#[60, 97, 62]⟩, ⟨#[60, 47, 97, 62]⟩, ⟨#[60, 97, 62, 60, 47, 98, 62]⟩, ⟨#[60, 97, 47, 62, 60, 98, 47, 62]⟩, ⟨#[32, 60, 97, 62, 32, 60, 98, 47, 62, 32, 60, 47, 97, 62, 32]⟩, ⟨#[60, 97, 62, 120, 60, 98, 47, 62, 60, 47, 97, 62]⟩, ⟨#[60, 97, 62, 60, 98, 62, 60, 47, 97, 62, 60, 47, 98, 62]⟩, ⟨#[120]⟩, ⟨#[60, 97, 62, 32, 60, 47, 97, 62]⟩, ⟨#[60, 97, 32, 120, 109, 108, 110, 115, 61, 34, 34, 47, 62]⟩, ⟨#[60, 97, 32, 120, 109, 108, 110, 115, 61, 34, 117, 34, 62, 60, 98, 47, 62, 60, 47, 97, 62]⟩, ⟨#[60, 97, 32, 120, 109, 108, 110, 115, 61, 34, 117, 34, 62, 60, 98, 32, 120, 109, 108, 110, 115, 61, 34, 117, 34, 47, 62, 60, 47, 97, 62]⟩, ⟨#[60, 97, 62, 38, 35, 54, 53, 59, 60, 47, 97, 62]⟩]
def inD : List ByteArray := [⟨#[32]⟩, ⟨#[60]⟩, ⟨#[62]⟩, ⟨#[120]⟩, ⟨#[60, 122, 47, 62]⟩, ⟨#[38, 97, 109, 112, 59]⟩]

set_option maxRecDepth 100000 in
set_option maxHeartbeats 4000000 in
theorem drawParseNode_any {w : World} {B : Nat} {a : Option Addr} {len : Nat} {zs : List Int} (h : CodeIn w B a len zs) (cap : Nat) :
    Calls Tryz.prog 8 #[.slice a len cap] w fun e w' => (∃ t : ByteArray, e = .returned (.string t) ∧ t.size ≤ 1048576) ∧ Below w.heap.size w w' := by
  have HC := hide h
  have hB := h.hB
  clear h
  go_enter Tryz.func8, Tryz.ntmps8
  go_wp2_with fail
  refine (newDX HC.out cap).mono ?_
  rintro e w1 ⟨rfl, dx1, b1⟩
  have D1 := hide dx1
  have z1 := b1.size
  have C1 := hide b1
  have HQ := hide (l8Draw_all 3 (by decide) _ _ _ _ _ _ D1.out)
  clear dx1 b1
  go_wp2_with fail
  refine HQ.out.mono ?_
  rintro e w2 ⟨⟨n, ts, an, cn, rfl, htk, gk, hz⟩, dx2, g2⟩
  have z2 := g2.size
  have hz' : n.szN ≤ 1000 := Nat.le_trans hz (by decide)
  have C2 := hide (below_then C1.out g2 (Nat.le_refl _) (by omega))
  have D2 := hide dx2
  have hnd : Nds w2 w2.heap.size an n.ks := by
    obtain ⟨a9, c9, e9, o9⟩ := gk.done
    injection e9 with i1 i2 i3
    rw [htk] at o9
    rw [i1]; exact o9.nds (fun x hx => hx.2)
  have HNT := hide (specNodeText_any n an cn w2.heap.size w2 hnd (Nat.le_refl _) (by omega))
  have hsz := nodeT_len n hz'
  obtain ⟨s, hs⟩ : ∃ s, nodeT n = s := ⟨_, rfl⟩
  rw [hs] at HNT hsz
  clear gk htk hz dx2 g2 HQ C1 D1 hnd hs
  go_wp2_with fail
  refine HNT.out.mono ?_
  rintro e w3 ⟨rfl, b3⟩
  have z3 := b3.size
  have C3 := hide (C2.out.trans (b3.mono (by omega)))
  have D3 := hide (D2.out.other (w' := w3) b3.size (fun k hk => b3.block k (by have := D2.out.lt; omega)))
  clear b3 C2 D2 HNT
  go_wp2_with fail
  refine (l1BelowX D3.out 4 (by decide) (by decide)).mono ?_
  rintro e w4 ⟨⟨k, rfl, hk⟩, dx4, g4⟩
  have z4 := g4.size
  have D4 := hide dx4
  have C4 := hide (below_then C3.out g4 (Nat.le_refl _) (by omega))
  clear dx4 g4 C3 D3
  by_cases k0 : k = 0
  · subst k0
    go_wp2_with fail
    refine (strNew8 D4.out pnD _ _ 14 _ 40 rfl rfl rfl (by decide) (by decide) (by decide)).mono ?_
    rintro e w5 ⟨⟨t, rfl, ht⟩, _, g5⟩
    have C5 := hide (below_then C4.out g5 (Nat.le_refl _) (by omega))
    go_wp2
    go_ret
    exact ⟨⟨t, rfl, by omega⟩, C5.out⟩
  · have e0 : ((k : Int) == 0) = false := by apply beq_eq_false_iff_ne.2; omega
    by_cases k1 : k = 1
    · subst k1
      have hi : IntKind.i64.wrap ((s.size : Int) + 1) = (s.size : Int) + 1 := by rw [IntKind.wrap_i64]; omega
      go_wp2_with fail
      refine (l1BelowX D4.out ((s.size : Int) + 1) (by omega) (by omega)).mono ?_
      rintro e w5 ⟨⟨j, rfl, hj⟩, dx5, g5⟩
      have z5 := g5.size
      have D5 := hide dx5
      have C5 := hide (below_then C4.out g5 (Nat.le_refl _) (by omega))
      have hj1 : (0 : Int) ≤ (j : Int) := by omega
      have hj2 : (j : Int) ≤ (s.size : Int) := by omega
      have hjn : j ≤ s.size := by omega
      have x1 : (s.extract 0 j).size ≤ s.size := by rw [ByteArray.size_extract]; omega
      have x2 : (s.extract j s.size).size ≤ s.size := by rw [ByteArray.size_extract]; omega
      obtain ⟨pa, hpa⟩ : ∃ pa, s.extract 0 j = pa := ⟨_, rfl⟩
      obtain ⟨pb, hpb⟩ : ∃ pb, s.extract j s.size = pb := ⟨_, rfl⟩
      rw [hpa] at x1
      rw [hpb] at x2
      clear dx5 g5 C4 D4
      go_wp2
      go_region_held3 (fun _ => True) (trivial) ((go_at_call 28; refine (strNew8 (w := w5.drew) (D5.out.other (w' := w5.drew) (Nat.le_refl _) (fun _ _ => rfl)) inD _ _ 6 _ 20 rfl rfl rfl (by decide) (by decide) (by decide)).mono ?_; rintro e w6 ⟨⟨t, rfl, ht⟩, _, g6⟩; (have q1 : ¬ (9223372036854775807 < pa.size + t.size) := (by omega)); (have q2 : ¬ (9223372036854775807 < pa.size + t.size + pb.size) := (by omega))))
      all_goals
        have C6 := hide (below_then (w1 := w5.drew) (below_drewN C5.out) g6 (Nat.le_refl _) (by show _ ≤ w5.heap.size; omega))
        go_wp2
        go_ret
        exact ⟨⟨_, rfl, by rw [ByteArray.size_append, ByteArray.size_append]; omega⟩, C6.out⟩
    · have e1 : ((k : Int) == 1) = false := by apply beq_eq_false_iff_ne.2; omega
      go_wp2
      go_ret
      exact ⟨⟨s, rfl, by omega⟩, C4.out⟩
end Go.Proofs.YtccehdlgpbeijaaGreatDoor
namespace Go.Proofs.YtccehdlgpbeijaaGreatDoor
open Go.RowKit M
set_option linter.unusedVariables false

/-- Two drawn trees, each in blocks of its own. -/
def TwoN (w w' : World) (e : Ending) : Prop := ∃ (n m : Nd) (an am : Option Addr) (cn cm : Nat), e = .returned (.tuple #[.agg #[.string n.ns, .string n.nm, .string n.tx, .slice an n.ks.length cn], .agg #[.string m.ns, .string m.nm, .string m.tx, .slice am m.ks.length cm]]) ∧ OwnK w' an n.ks (Ivl w.heap.size w'.heap.size) ∧ OwnK w' am m.ks (Ivl w.heap.size w'.heap.size) ∧ n.szN ≤ 10000 ∧ m.szN ≤ 10000
def put8 (W : World) (R : Nat) (n m : Nd) (an am : Option Addr) (cn cm : Nat) : World := (((((((W.setCell ⟨R, 0, none⟩ (.string n.ns)).setCell ⟨R, 1, none⟩ (.string n.nm)).setCell ⟨R, 2, none⟩ (.string n.tx)).setCell ⟨R, 3, none⟩ (.slice an n.ks.length cn)).setCell ⟨R + 1, 0, none⟩ (.string m.ns)).setCell ⟨R + 1, 1, none⟩ (.string m.nm)).setCell ⟨R + 1, 2, none⟩ (.string m.tx)).setCell ⟨R + 1, 3, none⟩ (.slice am m.ks.length cm)
def put8' (W : World) (R : Nat) (n m : Nd) (an am : Option Addr) (cn cm : Nat) : World := (((((((W.setCell ⟨R + 1, 0, none⟩ (.string m.ns)).setCell ⟨R + 1, 1, none⟩ (.string m.nm)).setCell ⟨R + 1, 2, none⟩ (.string m.tx)).setCell ⟨R + 1, 3, none⟩ (.slice am m.ks.length cm)).setCell ⟨R, 0, none⟩ (.string n.ns)).setCell ⟨R, 1, none⟩ (.string n.nm)).setCell ⟨R, 2, none⟩ (.string n.tx)).setCell ⟨R, 3, none⟩ (.slice an n.ks.length cn)
theorem two_end {w W F : World} {n m : Nd} {an am : Option Addr} {cn cm : Nat} (c : Below w.heap.size w W) (o1 : OwnK W an n.ks (Ivl (w.heap.size + 2) W.heap.size)) (o2 : OwnK W am m.ks (Ivl (w.heap.size + 2) W.heap.size)) (h1 : n.szN ≤ 10000) (h2 : m.szN ≤ 10000) (hF : F = put8 W w.heap.size n m an am cn cm ∨ F = put8' W w.heap.size n m an am cn cm) :
    TwoN w F (.returned (.tuple #[.agg #[.string n.ns, .string n.nm, .string n.tx, .slice an n.ks.length cn], .agg #[.string m.ns, .string m.nm, .string m.tx, .slice am m.ks.length cm]])) ∧ Below w.heap.size w F := by
  have hs : F.heap.size = W.heap.size := by rcases hF with rfl | rfl <;> simp [put8, put8']
  have key : ∀ (a : Option Addr) (ks : List Nd), OwnK W a ks (Ivl (w.heap.size + 2) W.heap.size) → OwnK F a ks (Ivl (w.heap.size + 2) W.heap.size) := by
    intro a ks o
    have e0 : ∀ x, Ivl (w.heap.size + 2) W.heap.size x → x ≠ w.heap.size := fun x hx => by unfold Ivl at hx; omega
    have e1 : ∀ x, Ivl (w.heap.size + 2) W.heap.size x → x ≠ w.heap.size + 1 := fun x hx => by unfold Ivl at hx; omega
    rcases hF with rfl | rfl
    · exact (((((((o.setC _ e0).setC _ e0).setC _ e0).setC _ e0).setC _ e1).setC _ e1).setC _ e1).setC _ e1
    · exact (((((((o.setC _ e1).setC _ e1).setC _ e1).setC _ e1).setC _ e0).setC _ e0).setC _ e0).setC _ e0
  have wd : ∀ x, Ivl (w.heap.size + 2) W.heap.size x → Ivl w.heap.size F.heap.size x := fun x hx => by rw [hs]; unfold Ivl at hx ⊢; omega
  refine ⟨⟨n, m, an, am, cn, cm, rfl, (key _ _ o1).wide wd, (key _ _ o2).wide wd, h1, h2⟩, ?_⟩
  rcases hF with rfl | rfl
  · exact (((((((c.setCell (Nat.le_refl _) _).setCell (Nat.le_refl _) _).setCell (Nat.le_refl _) _).setCell (Nat.le_refl _) _).setCell (by simp) _).setCell (by simp) _).setCell (by simp) _).setCell (by simp) _
  · exact (((((((c.setCell (by simp) _).setCell (by simp) _).setCell (by simp) _).setCell (by simp) _).setCell (Nat.le_refl _) _).setCell (Nat.le_refl _) _).setCell (Nat.le_refl _) _).setCell (Nat.le_refl _) _

set_option maxRecDepth 100000 in
set_option maxHeartbeats 8000000 in
theorem drawSameNode_any {w : World} {B : Nat} {a : Option Addr} {len : Nat} {zs : List Int} (h : CodeIn w B a len zs) (cap : Nat) :
    Calls Tryz.prog 11 #[.slice a len cap] w fun e w' => TwoN w w' e ∧ Below w.heap.size w w' := by
  have hB := h.hB
  have b0 := (Below.refl w.heap.size w).alloc (Nat.le_refl _) (Obj.cells #[Value.string { data := #[] }, Value.string { data := #[] }, Value.string { data := #[] }, Value.slice none 0 0] 26)
  have R1 := Bx.made w (.string ⟨#[]⟩) (.string ⟨#[]⟩) (.string ⟨#[]⟩) (.slice none 0 0) 26
  obtain ⟨w0, hw0⟩ : ∃ w0, w.alloc (Obj.cells #[Value.string { data := #[] }, Value.string { data := #[] }, Value.string { data := #[] }, Value.slice none 0 0] 26) = w0 := ⟨_, rfl⟩
  have z0 : w0.heap.size = w.heap.size + 1 := by rw [← hw0]; simp
  rw [hw0] at b0 R1
  have bA := (Below.refl w0.heap.size w0).alloc (Nat.le_refl _) (Obj.cells #[Value.string { data := #[] }, Value.string { data := #[] }, Value.string { data := #[] }, Value.slice none 0 0] 26)
  have R2 := Bx.made w0 (.string ⟨#[]⟩) (.string ⟨#[]⟩) (.string ⟨#[]⟩) (.slice none 0 0) 26
  have R1A := R1.next bA (by omega)
  have c0 := b0.trans (bA.mono (by omega))
  have HC0 := h.below (c0.mono hB)
  obtain ⟨wA, hwA⟩ : ∃ wA, w0.alloc (Obj.cells #[Value.string { data := #[] }, Value.string { data := #[] }, Value.string { data := #[] }, Value.slice none 0 0] 26) = wA := ⟨_, rfl⟩
  have zA : wA.heap.size = w.heap.size + 2 := by rw [← hwA]; simp; omega
  rw [hwA] at R2 R1A c0 HC0
  rw [z0] at R2
  have HC := hide HC0
  have HR1 := hide R1A
  have HR2 := hide R2
  have CA := hide c0
  have ZA := hide zA
  have HW0 := hide hw0
  have HWA := hide hwA
  clear h b0 R1 bA R2 R1A c0 HC0 z0 zA hw0 hwA
  go_enter Tryz.func11, Tryz.ntmps11
  go_wp2_with fail
  rw [HW0.out, HWA.out]
  refine (newDX HC.out cap).mono ?_
  rintro e w1 ⟨rfl, dx1, b1⟩
  have D1 := hide dx1
  have hN1 := dx1.lt
  have z1 := b1.size
  have C1 := hide (CA.out.trans (b1.mono (by have := ZA.out; omega)))
  have A1 := hide (HR1.out.next b1 (by have := ZA.out; omega))
  have A2 := hide (HR2.out.next b1 (by have := ZA.out; omega))
  have z1' : w.heap.size + 2 ≤ w1.heap.size := by have := ZA.out; omega
  clear dx1 b1 HW0 HWA HC
  go_wp2_with fail
  refine (l8Any_any D1.out).mono ?_
  rintro e w2 ⟨⟨n, an, cn, rfl, o2, hz⟩, dx2, g2⟩
  have z2 := g2.size
  have bM := (Below.refl w2.heap.size w2).alloc (Nat.le_refl _) (Obj.cells #[.string n.ns, .string n.nm, .string n.tx, .slice an n.ks.length cn] 26)
  have c2 := below_then C1.out g2 (by have := ZA.out; omega) (by omega)
  have C3 := hide (c2.trans (bM.mono (by omega)))
  have A13 := hide ((A1.out.grown g2 (by have := ZA.out; omega)).next bM (by omega))
  have A23 := hide ((A2.out.grown g2 (by have := ZA.out; omega)).next bM (by omega))
  have BM3 := hide (Bx.made w2 (.string n.ns) (.string n.nm) (.string n.tx) (.slice an n.ks.length cn) 26)
  have D3 := hide (dx2.alloc (Obj.cells #[.string n.ns, .string n.nm, .string n.tx, .slice an n.ks.length cn] 26))
  have O3 := hide (o2.stays bM (fun x hx => hx.2))
  clear o2 dx2 g2 bM c2 C1 A1 A2 D1
  go_wp2_with fail
  refine (l1Once8 D3.out 2 (by decide) (by decide)).mono ?_
  rintro e w4 ⟨⟨q, rfl⟩, dx4, g4⟩
  have z4 := g4.size
  simp at z4
  obtain ⟨MA, hMA⟩ : ∃ MA, w2.heap.size = MA := ⟨_, rfl⟩
  have bd4 : Below w4.heap.size w4 w4.drew := below_drewN (Below.refl _ _)
  have C4d := hide (below_drewN (below_then C3.out g4 (by have := ZA.out; omega) (by simp; omega)))
  have A14d := hide ((A13.out.grown g4 (by have := ZA.out; omega)).next bd4 (by omega))
  have A24d := hide ((A23.out.grown g4 (by have := ZA.out; omega)).next bd4 (by omega))
  have BM4d := hide ((BM3.out.grown g4 (by have := ZA.out; omega)).next bd4 (by omega))
  have D4d := hide (dx4.other (w' := w4.drew) (Nat.le_refl _) (fun _ _ => rfl))
  have O4d := hide ((O3.out.grown g4 (fun x hx => by have h1 := hx.1; have h2 := hx.2; have := ZA.out; simp; omega)).stays bd4 (fun x hx => by have h2 := hx.2; omega))
  rw [hMA] at BM4d
  rw [hMA]
  have hMA1 : w.heap.size + 2 ≤ MA := by omega
  have hMA2 : MA < w4.heap.size := by omega
  have hMAN : wA.heap.size < MA := by omega
  have zd : w4.drew.heap.size = w4.heap.size := rfl
  obtain ⟨_, s0, s1, s2, s3, sz⟩ := A14d.out
  obtain ⟨_, t0, t1, t2, t3, tz⟩ := A24d.out
  obtain ⟨_, u0, u1, u2, u3, uz⟩ := BM4d.out
  clear dx4 g4 bd4 C3 A13 A23 BM3 D3 O3 hMA
  cases q with
  | true =>
    have HCP := hide (l8Copy_all (cntL n.ks + 1) n an cn w4.drew.heap.size w4.drew (Nat.lt_succ_self _) (O4d.out.nds (fun x hx => by have h2 := hx.2; omega)) (Nat.le_refl _) (by omega))
    go_wp2
    go_region_with ((go_at_call 35; refine HCP.out.mono ?_; rintro e w6 ⟨⟨a6, c6, rfl, o6⟩, b6⟩; have z6 := b6.size; have P1 := A14d.out.next b6 (by omega); have P2 := A24d.out.next b6 (by omega); have PM := BM4d.out.next b6 (by omega); obtain ⟨_, s0', s1', s2', s3', sz'⟩ := P1; obtain ⟨_, t0', t1', t2', t3', tz'⟩ := P2; obtain ⟨_, u0', u1', u2', u3', uz'⟩ := PM))
    all_goals
      have O6 := (O4d.out.stays b6 (fun x hx => by have h2 := hx.2; omega)).wide (T := Ivl (w.heap.size + 2) w6.heap.size) (fun x hx => by unfold Ivl at hx ⊢; omega)
      have O6' := o6.wide (T := Ivl (w.heap.size + 2) w6.heap.size) (fun x hx => by unfold Ivl at hx ⊢; omega)
      have C6 := C4d.out.trans (b6.mono (by omega))
      have HE := hide (fun F hF => two_end (F := F) (cn := cn) (cm := c6) C6 O6 O6' hz hz hF)
      clear C6 O6 O6' o6 b6
      go_wp2
      refine bodyPost_ret (v := .tuple #[.agg #[.string n.ns, .string n.nm, .string n.tx, .slice an n.ks.length cn], .agg #[.string n.ns, .string n.nm, .string n.tx, .slice a6 n.ks.length c6]]) (by simp [results, Tryz.results11, go_sem, s0', s1', s2', s3', t0', t1', t2', t3']) rfl (by first | exact HE.out _ (.inl rfl) | exact HE.out _ (.inr rfl))
  | false =>
    have HAN := hide (l8Any_any D4d.out)
    go_wp2
    go_region_with ((go_at_call 24; refine HAN.out.mono ?_; rintro e w6 ⟨⟨m, a6, c6, rfl, o6, hz6⟩, _, g6⟩; have z6 := g6.size; have P1 := A14d.out.grown g6 (by have := ZA.out; omega); have P2 := A24d.out.grown g6 (by have := ZA.out; omega); have PM := BM4d.out.grown g6 (by have := ZA.out; omega); obtain ⟨_, s0', s1', s2', s3', sz'⟩ := P1; obtain ⟨_, t0', t1', t2', t3', tz'⟩ := P2; obtain ⟨_, u0', u1', u2', u3', uz'⟩ := PM))
    all_goals
      have O6 := (O4d.out.grown g6 (fun x hx => by have h1 := hx.1; have h2 := hx.2; have := ZA.out; omega)).wide (T := Ivl (w.heap.size + 2) w6.heap.size) (fun x hx => by unfold Ivl at hx ⊢; omega)
      have O6' := o6.wide (T := Ivl (w.heap.size + 2) w6.heap.size) (fun x hx => by unfold Ivl at hx ⊢; omega)
      have C6 := below_then C4d.out g6 (by have := ZA.out; omega) (by omega)
      have HE := hide (fun F hF => two_end (F := F) (cn := cn) (cm := c6) C6 O6 O6' hz hz6 hF)
      clear C6 O6 O6' o6 g6
      go_wp2
      refine bodyPost_ret (v := .tuple #[.agg #[.string n.ns, .string n.nm, .string n.tx, .slice an n.ks.length cn], .agg #[.string m.ns, .string m.nm, .string m.tx, .slice a6 m.ks.length c6]]) (by simp [results, Tryz.results11, go_sem, s0', s1', s2', s3', t0', t1', t2', t3']) rfl (by first | exact HE.out _ (.inl rfl) | exact HE.out _ (.inr rfl))
end Go.Proofs.YtccehdlgpbeijaaGreatDoor
