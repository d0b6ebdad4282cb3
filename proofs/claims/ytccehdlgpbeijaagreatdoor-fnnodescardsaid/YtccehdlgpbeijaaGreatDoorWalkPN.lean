/-
  The walk of the law FnExactParseNode, what l8Read does being known.
-/
import Derived.Test.YtccehdlgpbeijaaGreatDoorSpecPN
import Derived.Test.YtccehdlgpbeijaaGreatDoorStP
import Derived.Test.YtccehdlgpbeijaaGreatDoorEqNode
import Derived.Test.YtccehdlgpbeijaaGreatDoorMarkNode
import Derived.Test.YtccehdlgpbeijaaGreatDoorHeldNode
namespace Go.Proofs.YtccehdlgpbeijaaGreatDoor
open Go.RowKit M
set_option linter.unusedVariables false

set_option maxRecDepth 100000 in
set_option maxHeartbeats 8000000 in
theorem FnExactParseNode_of (hSp : ∀ f, SpN f) (s : ByteArray) (hs : s.size ≤ maxLen) (w : World) :
    Calls Tryz.prog 4 #[.string s] w fun e w' => e = .returned (.bool true) ∧ Below w.heap.size w w' := by
  unfold maxLen at hs
  by_cases hb : (1048576 : Int) < s.size
  · go_enter Tryz.func4, Tryz.ntmps4
    go_wp2
    go_ret
    exact ⟨rfl, Below.refl _ _⟩
  · have HSP := hide (fun W => (specParseNode_of hSp s W (by omega)).mono fun e w' h => And.intro (pn_parts h.1) h.2)
    have HIP := hide (fun W => (parseNode_any s W (by omega)).mono fun e w' h => And.intro (pn_parts h.1) h.2)
    obtain ⟨hz, hcn⟩ := ndOf_small (pcsR s.data.toList).1
    obtain ⟨m, hm⟩ : ∃ m, ndOf (readP (pcsR s.data.toList).1) = m := ⟨_, rfl⟩
    obtain ⟨f, hf⟩ : ∃ f, (readP (pcsR s.data.toList).1).isSome = f := ⟨_, rfl⟩
    simp only [hm, hf] at HSP HIP hz hcn
    have HMH := hide (short_sz m (by omega))
    have HMC : Hid (m.cnt ≤ 2000000) := (by omega : m.cnt ≤ 2000000)
    have HCL : Hid (cntL m.ks ≤ 2000000) := (by have h2 := cnt_ks m; omega : cntL m.ks ≤ 2000000)
    clear hm hf hSp hz hcn
    go_enter Tryz.func4, Tryz.ntmps4
    go_wp2_with fail
    refine (HSP.out w).mono ?_
    rintro e w1 ⟨⟨am, cm, rfl, t0⟩, b1⟩
    have BB1 := hide ((Below.refl w1.heap.size w1).alloc (Nat.le_refl _) (Obj.cells #[.string m.ns, .string m.nm, .string m.tx, .slice am m.ks.length cm] 26))
    have BX1 := hide (BoxN.made w1 am cm m 26)
    have T1 := hide (t0.stays BB1.out (fun x hx => hx.2))
    have C1 := hide (b1.trans (BB1.out.mono b1.size))
    have z1 := b1.size
    obtain ⟨WA, hWA⟩ : ∃ WA, (w1.alloc (Obj.cells #[.string m.ns, .string m.nm, .string m.tx, .slice am m.ks.length cm] 26)) = WA := ⟨_, rfl⟩
    have HZA : Hid (WA.heap.size = w1.heap.size + 1) := by show _ = _; rw [← hWA]; simp
    rw [hWA] at BB1 BX1 T1 C1
    clear t0 b1 BB1
    go_wp2_with fail
    refine (HIP.out WA).mono ?_
    rintro e w2 ⟨⟨ag, cg, rfl, t2⟩, b2⟩
    have z2 := b2.size
    have BB2 := hide ((Below.refl w2.heap.size w2).alloc (Nat.le_refl _) (Obj.cells #[.string m.ns, .string m.nm, .string m.tx, .slice ag m.ks.length cg] 26))
    have BX2 := hide (BoxN.made w2 ag cg m 26)
    have ST : Hid (StP w (w2.alloc (Obj.cells #[.string m.ns, .string m.nm, .string m.tx, .slice ag m.ks.length cg] 26)) m w1.heap.size w2.heap.size am ag cm cg m.ks (Ivl w.heap.size w1.heap.size) (Ivl WA.heap.size w2.heap.size)) := by
      have e1 := HZA.out
      have e2 : (w2.alloc (Obj.cells #[.string m.ns, .string m.nm, .string m.tx, .slice ag m.ks.length cg] 26)).heap.size = w2.heap.size + 1 := by simp
      have c2 := C1.out.trans (b2.mono C1.out.size)
      exact ⟨(BX1.out.next b2).next BB2.out, BX2.out, c2.trans (BB2.out.mono c2.size), (T1.out.stays b2 (fun x hx => by have := hx.2; omega)).stays BB2.out (fun x hx => by have := hx.2; omega), t2.stays BB2.out (fun x hx => hx.2), fun x hx => by have := hx.2; omega, fun x hx => by have := hx.2; omega⟩
    have AP : Hid (∀ x, Ivl WA.heap.size w2.heap.size x → w.heap.size < x ∧ x ≠ w1.heap.size ∧ x ≠ w2.heap.size ∧ ¬ Ivl w.heap.size w1.heap.size x) := fun x hx => by
      have e1 := HZA.out
      unfold Ivl at hx ⊢
      omega
    obtain ⟨WB, hWB⟩ : ∃ WB, (w2.alloc (Obj.cells #[.string m.ns, .string m.nm, .string m.tx, .slice ag m.ks.length cg] 26)) = WB := ⟨_, rfl⟩
    rw [hWB] at ST
    clear hWA t2 b2 BB2 BX1 BX2 T1 C1
    generalize Ivl w.heap.size w1.heap.size = S0 at *
    generalize Ivl WA.heap.size w2.heap.size = S2 at *
    clear HZA z1 z2
    obtain ⟨p0, hp0⟩ : ∃ p0, w1.heap.size = p0 := ⟨_, rfl⟩
    obtain ⟨p2, hp2⟩ : ∃ p2, w2.heap.size = p2 := ⟨_, rfl⟩
    rw [hp0, hp2] at ST AP
    have HE := hide (fun (W : World) (a1 a2 : Option Addr) (c1 c2 : Nat) (T1 T2 : Nat → Prop) (h1 : OwnK W a1 m.ks T1) (h2 : OwnK W a2 m.ks T2) (l1 : ∀ x, T1 x → x < W.heap.size) (l2 : ∀ x, T2 x → x < W.heap.size) => eqNode_any m m a1 a2 c1 c2 W.heap.size W.heap.size W (h1.nds l1) (h2.nds l2) (Nat.le_refl _) (Nat.le_refl _) HMH.out HMH.out)
    simp only [same_refl] at HE
    obtain ⟨u0, u1, u2, u3, v0, v1, v2, v3⟩ := keepB ST.out.b2 ST.out.b0
    go_wp2_with fail
    refine (HE.out WB ag am cg cm S2 S0 ST.out.t2 ST.out.t0 ST.out.l2 ST.out.l0).mono ?_
    rintro e w3 ⟨rfl, b3⟩
    have ST3 := hide (ST.out.next b3)
    clear hWB hp0 hp2 u0 u1 u2 u3 v0 v1 v2 v3 b3 ST
    obtain ⟨_, u0, u1, u2, u3⟩ := ST3.out.b2
    go_wp2_with fail
    refine (markNode_any m ag cg S2 w3 ST3.out.t2 ST3.out.l2 HMC.out).mono ?_
    rintro e w4 ⟨rfl, o4, t4⟩
    have ST4 := hide (ST3.out.mark AP.out t4 o4)
    clear u0 u1 u2 u3 o4 t4 ST3
    have HHD := hide (fun (W : World) (h : OwnK W ag (mkL m.ks 1) S2) (l : ∀ x, S2 x → x < W.heap.size) => heldNode_any m.ns m.nm m.tx m.ks ag cg W.heap.size W (h.nds l) (Nat.le_refl _) HCL.out)
    generalize 1 + 3 * cntL m.ks = km at *
    obtain ⟨_, u0, u1, u2, u3⟩ := ST4.out.b2
    go_wp2_with fail
    refine (HHD.out w4 ST4.out.t2 ST4.out.l2).mono ?_
    rintro e w5 ⟨rfl, b5⟩
    have ST5 := hide (ST4.out.next b5)
    clear u0 u1 u2 u3 b5 ST4
    go_wp2_with fail
    refine (HIP.out w5).mono ?_
    rintro e w6 ⟨⟨ah, ch, rfl, t6⟩, b6⟩
    have ST6 := hide (ST5.out.next b6)
    have BB6 := hide ((Below.refl w6.heap.size w6).alloc (Nat.le_refl _) (Obj.cells #[.string m.ns, .string m.nm, .string m.tx, .slice ah m.ks.length ch] 26))
    have BX6 := hide (BoxN.made w6 ah ch m 26)
    have ST7 := hide (ST6.out.next BB6.out)
    have T7 := hide (t6.stays BB6.out (fun x hx => hx.2))
    have L7 : Hid (∀ x, Ivl w5.heap.size w6.heap.size x → x < (w6.alloc (Obj.cells #[.string m.ns, .string m.nm, .string m.tx, .slice ah m.ks.length ch] 26)).heap.size) := fun x hx => by have := hx.2; simp; omega
    obtain ⟨WC, hWC⟩ : ∃ WC, (w6.alloc (Obj.cells #[.string m.ns, .string m.nm, .string m.tx, .slice ah m.ks.length ch] 26)) = WC := ⟨_, rfl⟩
    rw [hWC] at BX6 ST7 T7 L7
    clear t6 b6 BB6 ST6 ST5
    generalize Ivl w5.heap.size w6.heap.size = S6 at *
    obtain ⟨u0, u1, u2, u3, v0, v1, v2, v3⟩ := keepB BX6.out ST7.out.b0
    go_wp2_with fail
    refine (HE.out WC ah am ch cm S6 S0 T7.out ST7.out.t0 L7.out ST7.out.l0).mono ?_
    rintro e w8 ⟨rfl, b8⟩
    have ST8 := hide (ST7.out.next b8)
    clear hWC u0 u1 u2 u3 v0 v1 v2 v3 b8 ST7 BX6 T7 L7
    obtain ⟨_, u0, u1, u2, u3⟩ := ST8.out.b2
    go_wp2_with fail
    refine (HHD.out w8 ST8.out.t2 ST8.out.l2).mono ?_
    rintro e w9 ⟨rfl, b9⟩
    have ST9 := hide (ST8.out.next b9)
    clear u0 u1 u2 u3 b9 ST8
    go_wp2
    go_ret
    exact ⟨rfl, ST9.out.c⟩
end Go.Proofs.YtccehdlgpbeijaaGreatDoor
