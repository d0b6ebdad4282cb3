/-
  The walk of the law FnExactSetsNode: for all sets it returns true, and turns nothing that was there.
-/
import Derived.Test.YtkgdmlfdlkmojaaSetsNodeT
import Derived.Test.YtkgdmlfdlkmojaaSpecSetsNode
import Derived.Test.YtkgdmlfdlkmojaaLawSets
import Derived.Test.YtkgdmlfdlkmojaaEqSets
import Derived.Test.YtkgdmlfdlkmojaaMarkSets
import Derived.Test.YtkgdmlfdlkmojaaEqNode
import Derived.Test.YtkgdmlfdlkmojaaMarkNode
import Derived.Test.YtkgdmlfdlkmojaaHeldNode
import Derived.Test.YtkgdmlfdlkmojaaStK
namespace Go.Proofs.Ytkgdmlfdlkmojaa
open Go.RowKit M
set_option linter.unusedVariables false

theorem RowU.turnN {S : Nat → Prop} {w w' : World} {g : Nat} {ps : List Sx} (h : RowU w g ps) (u : Turn S w w') (hS : ¬ S g) : RowU w' g ps := h.of (Nat.lt_of_lt_of_le h.1 u.size) (fun o' => u.cell h.1 hS o') (fun o' => u.frozen h.1 hS o')
theorem small_sumT {ss : List Sx} (h : sumT ss ≤ 1048576) : ∀ s ∈ ss, s.2.1.size ≤ 281474976710656 ∧ s.2.2.1.size ≤ 281474976710656 ∧ s.2.2.2.size ≤ 281474976710656 := fun p hp => by
  have h3 := sumT_mem ss p hp
  have h4 : szT p = p.2.1.size + p.2.2.1.size + p.2.2.2.size := rfl
  omega
theorem setN_cnt (s : Sx) : (setN s).cnt = 3 := by simp [setN, prpN, leafN, Nd.cnt, cntL]
theorem setsN_cnt : ∀ ss : List Sx, cntL (ss.map setN) = 3 * ss.length
  | [] => rfl
  | s :: r => by rw [List.map_cons, cntL, setN_cnt, setsN_cnt r, List.length_cons]; omega
theorem setN_short {s : Sx} (h : s.2.1.size ≤ maxLen ∧ s.2.2.1.size ≤ maxLen ∧ s.2.2.2.size ≤ maxLen) : (setN s).short := by
  have h1 : (if s.1 then remT else setT).size ≤ maxLen := by unfold maxLen; split <;> decide
  have h2 : (if s.1 then (⟨#[]⟩ : ByteArray) else s.2.2.2).size ≤ maxLen := by split; exact Nat.zero_le _; exact h.2.2
  refine ⟨by decide, h1, by decide, by simp [maxLen], ⟨by decide, by decide, by decide, by simp [maxLen], ⟨h.1, h.2.1, h2, by simp, trivial⟩, trivial⟩, trivial⟩
theorem setsN_short : ∀ {ss : List Sx}, ShortSs ss → shortK (ss.map setN)
  | [], _ => trivial
  | s :: r, h => ⟨setN_short (h s (List.mem_cons_self ..)), setsN_short (fun x hx => h x (List.mem_cons_of_mem _ hx))⟩

/-- A node in a box, by its cells. -/
structure Bx4 (w : World) (b : Nat) (x y : ByteArray) (a : Option Addr) (n c : Nat) : Prop where
  lt : b < w.heap.size
  c : w.cell? ⟨b, 0, none⟩ = some (.string x) ∧ w.cell? ⟨b, 1, none⟩ = some (.string y) ∧ w.cell? ⟨b, 2, none⟩ = some (.string ⟨#[]⟩) ∧ w.cell? ⟨b, 3, none⟩ = some (.slice a n c)
theorem Bx4.made (w : World) (x y : ByteArray) (a : Option Addr) (n c : Nat) (T : TypeId) : Bx4 (w.alloc (Obj.cells #[.string x, .string y, .string ⟨#[]⟩, .slice a n c] T)) w.heap.size x y a n c := ⟨by simp, by simp⟩
theorem Bx4.next {w w' : World} {b : Nat} {x y : ByteArray} {a : Option Addr} {n c : Nat} (h : Bx4 w b x y a n c) (hb : Below w.heap.size w w') : Bx4 w' b x y a n c :=
  ⟨Nat.lt_of_lt_of_le h.lt hb.size, by simp only [hb.cell (p := ⟨b, 0, none⟩) h.lt, hb.cell (p := ⟨b, 1, none⟩) h.lt, hb.cell (p := ⟨b, 2, none⟩) h.lt, hb.cell (p := ⟨b, 3, none⟩) h.lt]; exact h.c⟩
theorem Bx4.turn {S : Nat → Prop} {w w' : World} {b : Nat} {x y : ByteArray} {a : Option Addr} {n c : Nat} (h : Bx4 w b x y a n c) (t : Turn S w w') (hS : ¬ S b) : Bx4 w' b x y a n c :=
  ⟨Nat.lt_of_lt_of_le h.lt t.size, by simp only [t.cell h.lt hS]; exact h.c⟩

set_option maxRecDepth 100000 in
set_option maxHeartbeats 16000000 in
theorem FnExactSetsNode_walk (a0 : Option Addr) (l0 : List Sx) (cap0 : Nat) (hs0 : ShortSs l0) (hl0 : l0.length ≤ maxLen) (w : World) (hh0 : Sts w w.heap.size a0 l0) :
    Calls Try.prog 6 #[.slice a0 l0.length cap0] w fun e w' => e = .returned (.bool true) ∧ Below w.heap.size w w' := by
  go_enter Try.func6, Try.ntmps6
  have k0 := Below.refl w.heap.size w
  go_wp2_with fail
  refine (szSetS_any a0 l0 cap0 _ 1048576 w hh0 (Nat.le_refl _) hs0 hl0 (Nat.le_refl _)).mono ?_
  rintro e w1 ⟨⟨z, rfl, hz⟩, b1⟩
  have k1 := b1
  rcases hz with hz | ⟨m1, rfl, hm⟩
  · go_wp2
    go_ret
    exact ⟨rfl, k1⟩
  have hq0 : l0.length ≤ 1048576 := by omega
  have hz0 : sumT l0 ≤ 1048576 := by omega
  clear hm
  have HSP := hide (fun (g : Nat) (W : World) (x : Sts W W.heap.size (some ⟨g, 0, none⟩) l0) => specSetsNode_any (some ⟨g, 0, none⟩) l0 l0.length W.heap.size W x (Nat.le_refl _) hq0)
  have HIP := hide (fun (g : Nat) (W : World) (x : Sts W W.heap.size (some ⟨g, 0, none⟩) l0) => setsNode_any (some ⟨g, 0, none⟩) l0 l0.length W.heap.size W x (Nat.le_refl _) hq0 (small_sumT hz0))
  have HTO := hide (fun (W : World) (k : Below w.heap.size w W) => toSetS_any a0 l0 cap0 w.heap.size W (hh0.below k (Nat.le_refl _)) k.size hq0)
  have hkl : (l0.map setN).length = l0.length := List.length_map ..
  have HMsh := hide (show (setsN l0).short from ⟨by decide, by decide, by decide, by rw [hkl]; exact hl0, setsN_short hs0⟩)
  have HCK := hide (show cntL (l0.map setN) ≤ 20000000 by rw [setsN_cnt]; omega)
  have HE := hide (fun (W : World) (a1 a2 : Option Addr) (c1 c2 B C : Nat) (h1 : Nds W B a1 (l0.map setN)) (h2 : Nds W C a2 (l0.map setN)) (e1 : B ≤ W.heap.size) (e2 : C ≤ W.heap.size) => eqNode_any (setsN l0) (setsN l0) a1 a2 c1 c2 B C W h1 h2 e1 e2 HMsh.out HMsh.out)
  have HMK := hide (fun (W : World) (a1 : Option Addr) (c1 lo hi : Nat) (h1 : OwnK W a1 (l0.map setN) (Ivl lo hi)) (e1 : hi ≤ W.heap.size) => markNode_big (setsN l0) a1 c1 (Ivl lo hi) W h1 (fun x hx => by have := hx.2; omega) (by have h3 := cnt_ks (setsN l0); have h4 : (setsN l0).ks = l0.map setN := rfl; rw [h4] at h3; have h5 := setsN_cnt l0; omega))
  have HHD := hide (fun (W : World) (a1 : Option Addr) (c1 B : Nat) (h1 : Nds W B a1 (mkL (l0.map setN) 1)) (e1 : B ≤ W.heap.size) => heldNode_big davT updT ⟨#[]⟩ (l0.map setN) a1 c1 B W h1 e1 HCK.out)
  have eM : (setsN l0).ns = davT ∧ (setsN l0).nm = updT ∧ (setsN l0).tx = ⟨#[]⟩ ∧ (setsN l0).ks = l0.map setN := ⟨rfl, rfl, rfl, rfl⟩
  simp only [same_refl, eM.1, eM.2.1, eM.2.2.1, eM.2.2.2, hkl] at HE HMK
  simp only [hkl] at HHD
  clear eM
  obtain ⟨ks, hks⟩ : ∃ ks, l0.map setN = ks := ⟨_, rfl⟩
  simp only [hks] at HSP HIP HE HMK HHD
  obtain ⟨N, hN⟩ : ∃ N, 1 + 3 * cntL ks = N := ⟨_, rfl⟩
  simp only [hN] at HMK HHD
  clear hks hkl hN HMsh HCK
  obtain ⟨dv, hdv⟩ : ∃ d : ByteArray, davT = d := ⟨_, rfl⟩
  obtain ⟨ud, hud⟩ : ∃ d : ByteArray, updT = d := ⟨_, rfl⟩
  simp only [hdv, hud] at HSP HIP HE HMK HHD
  clear hdv hud
  go_wp2_with fail
  refine (HTO.out w1 k1).mono ?_
  rintro e w2 ⟨rfl, X2, b2⟩
  have k2 := k1.trans (b2.mono k1.size)
  have y2 := b2.size
  have HQ := hide (HSP.out _ w2 (X2.sts X2.1))
  clear X2
  go_wp2_with fail
  refine HQ.out.mono ?_
  rintro e w3 ⟨⟨am, cm, rfl, tw_3⟩, b3⟩
  clear HQ
  have k3 := k2.trans (b3.mono k2.size)
  have y3 := b3.size
  have b4 := (Below.refl w3.heap.size w3).alloc (Nat.le_refl _) (Obj.cells #[.string dv, .string ud, .string ⟨#[]⟩, .slice am l0.length cm] 58)
  have bw0 : Bx4 (w3.alloc (Obj.cells #[.string dv, .string ud, .string ⟨#[]⟩, .slice am l0.length cm] 58)) w3.heap.size dv ud am l0.length cm := Bx4.made w3 dv ud am l0.length cm 58
  have z4 : (w3.alloc (Obj.cells #[.string dv, .string ud, .string ⟨#[]⟩, .slice am l0.length cm] 58)).heap.size = w3.heap.size + 1 := by simp
  obtain ⟨w4, hw4⟩ : ∃ W, w3.alloc (Obj.cells #[.string dv, .string ud, .string ⟨#[]⟩, .slice am l0.length cm] 58) = W := ⟨_, rfl⟩
  rw [hw4] at b4 bw0 z4
  have Z4 := hide z4
  clear z4
  have y4' := Z4.out
  have hY4 : w3.heap.size < w4.heap.size := by omega
  have k4 := k3.trans (b4.mono k3.size)
  have y4 := b4.size
  have tw_4 := tw_3.stays b4 (fun x hx => by have := hx.2; omega)
  clear tw_3
  have bw_4 := bw0
  clear bw0
  have V4 := hide y4'
  clear y4' y4
  have y4 := hY4
  go_wp2_with fail
  refine (HTO.out w4 k4).mono ?_
  rintro e w5 ⟨rfl, X, b5⟩
  have k5 := k4.trans (b5.mono k4.size)
  have y5 := b5.size
  have tw_5 := tw_4.stays b5 (fun x hx => by have := hx.2; omega)
  clear tw_4
  have bw_5 := bw_4.next b5
  clear bw_4
  have xr_5 := X
  have q5 : w4.heap.size < w5.heap.size := X.1
  clear X
  clear hw4
  have HQ := hide (HIP.out _ w5 (xr_5.sts xr_5.1))
  go_wp2_with fail
  refine HQ.out.mono ?_
  rintro e w6 ⟨⟨ag, cg, rfl, TG⟩, b6⟩
  clear HQ
  have k6 := k5.trans (b6.mono k5.size)
  have y6 := b6.size
  have tw_6 := tw_5.stays b6 (fun x hx => by have := hx.2; omega)
  clear tw_5
  have bw_6 := bw_5.next b6
  clear bw_5
  have xr_6 := xr_5.below b6
  clear xr_5
  have tg_6 := TG
  clear TG
  have b7 := (Below.refl w6.heap.size w6).alloc (Nat.le_refl _) (Obj.cells #[.string dv, .string ud, .string ⟨#[]⟩, .slice ag l0.length cg] 58)
  have bg0 : Bx4 (w6.alloc (Obj.cells #[.string dv, .string ud, .string ⟨#[]⟩, .slice ag l0.length cg] 58)) w6.heap.size dv ud ag l0.length cg := Bx4.made w6 dv ud ag l0.length cg 58
  have hY7 : w6.heap.size < (w6.alloc (Obj.cells #[.string dv, .string ud, .string ⟨#[]⟩, .slice ag l0.length cg] 58)).heap.size := by simp
  obtain ⟨w7, hw7⟩ : ∃ W, w6.alloc (Obj.cells #[.string dv, .string ud, .string ⟨#[]⟩, .slice ag l0.length cg] 58) = W := ⟨_, rfl⟩
  rw [hw7] at b7 bg0 hY7
  have k7 := k6.trans (b7.mono k6.size)
  have y7 := b7.size
  have tw_7 := tw_6.stays b7 (fun x hx => by have := hx.2; omega)
  clear tw_6
  have bw_7 := bw_6.next b7
  clear bw_6
  have xr_7 := xr_6.below b7
  clear xr_6
  have tg_7 := tg_6.stays b7 (fun x hx => by have := hx.2; omega)
  clear tg_6
  have bg_7 := bg0
  clear bg0
  obtain ⟨v0, v1, v2, v3⟩ := bw_7.c
  obtain ⟨u0, u1, u2, u3⟩ := bg_7.c
  have HQ := hide (HE.out w7 ag am cg cm w7.heap.size w7.heap.size (tg_7.nds (fun x hx => by have := hx.2; omega)) (tw_7.nds (fun x hx => by have := hx.2; omega)) (Nat.le_refl _) (Nat.le_refl _))
  go_wp2_with fail
  refine HQ.out.mono ?_
  rintro e w8 ⟨rfl, b8⟩
  clear HQ u0 u1 u2 u3 v0 v1 v2 v3
  have k8 := k7.trans (b8.mono k7.size)
  have y8 := b8.size
  have tw_8 := tw_7.stays b8 (fun x hx => by have := hx.2; omega)
  clear tw_7
  have bw_8 := bw_7.next b8
  clear bw_7
  have xr_8 := xr_7.below b8
  clear xr_7
  have tg_8 := tg_7.stays b8 (fun x hx => by have := hx.2; omega)
  clear tg_7
  have bg_8 := bg_7.next b8
  clear bg_7
  clear hw7
  go_wp2_with fail
  refine (HTO.out w8 k8).mono ?_
  rintro e w9 ⟨rfl, X, b9⟩
  have k9 := k8.trans (b9.mono k8.size)
  have y9 := b9.size
  have tw_9 := tw_8.stays b9 (fun x hx => by have := hx.2; omega)
  clear tw_8
  have bw_9 := bw_8.next b9
  clear bw_8
  have xr_9 := xr_8.below b9
  clear xr_8
  have tg_9 := tg_8.stays b9 (fun x hx => by have := hx.2; omega)
  clear tg_8
  have bg_9 := bg_8.next b9
  clear bg_8
  have nr_9 := X
  have q9 : w8.heap.size < w9.heap.size := X.1
  clear X
  have HQ := hide (eqSetS_any _ _ l0 l0 l0.length l0.length w9.heap.size w9.heap.size w9 (xr_9.sts xr_9.1) (nr_9.sts nr_9.1) (Nat.le_refl _) (Nat.le_refl _) hl0 hl0)
  go_wp2_with fail
  refine HQ.out.mono ?_
  rintro e w10 ⟨rfl, b10⟩
  rw [sameS_refl]
  clear HQ nr_9
  have k10 := k9.trans (b10.mono k9.size)
  have y10 := b10.size
  have tw_10 := tw_9.stays b10 (fun x hx => by have := hx.2; omega)
  clear tw_9
  have bw_10 := bw_9.next b10
  clear bw_9
  have xr_10 := xr_9.below b10
  clear xr_9
  have tg_10 := tg_9.stays b10 (fun x hx => by have := hx.2; omega)
  clear tg_9
  have bg_10 := bg_9.next b10
  clear bg_9
  obtain ⟨FX, hFX⟩ := xr_10.cellsU
  have HQ := hide (markSetS_from w4.heap.size l0.length l0.length 1 FX hq0 (Nat.le_refl _) (by omega) w10 hFX)
  have yk := k4.size
  clear hFX xr_10
  go_wp2_with fail
  refine HQ.out.mono ?_
  rintro e w11 ⟨rfl, _, u11⟩
  clear HQ
  have k11 := k10.trans (u11.below (C := w.heap.size) (fun x hx => by omega) (by omega))
  have y11 := u11.size
  have tw_11 := tw_10.turn u11 (fun x hx => by have := hx.2; omega) (fun x hx hy => by have := hx.1; have := hx.2; omega)
  clear tw_10
  have bw_11 := bw_10.turn u11 (by omega)
  clear bw_10
  have tg_11 := tg_10.turn u11 (fun x hx => by have := hx.2; omega) (fun x hx hy => by have := hx.1; have := hx.2; omega)
  clear tg_10
  have bg_11 := bg_10.turn u11 (by omega)
  clear bg_10
  obtain ⟨K1, hK1⟩ : ∃ K : Nat, 1 + 4 * l0.length = K := ⟨_, rfl⟩
  rw [hK1]
  have hk0 : ¬ ((K1 : Int) < 0) := by omega
  clear hK1
  obtain ⟨v0, v1, v2, v3⟩ := bw_11.c
  obtain ⟨u0, u1, u2, u3⟩ := bg_11.c
  have HQ := hide (HE.out w11 ag am cg cm w11.heap.size w11.heap.size (tg_11.nds (fun x hx => by have := hx.2; omega)) (tw_11.nds (fun x hx => by have := hx.2; omega)) (Nat.le_refl _) (Nat.le_refl _))
  go_wp2_with fail
  refine HQ.out.mono ?_
  rintro e w12 ⟨rfl, b12⟩
  clear HQ u0 u1 u2 u3 v0 v1 v2 v3
  have k12 := k11.trans (b12.mono k11.size)
  have y12 := b12.size
  have tw_12 := tw_11.stays b12 (fun x hx => by have := hx.2; omega)
  clear tw_11
  have bw_12 := bw_11.next b12
  clear bw_11
  have tg_12 := tg_11.stays b12 (fun x hx => by have := hx.2; omega)
  clear tg_11
  have bg_12 := bg_11.next b12
  clear bg_11
  clear hk0
  obtain ⟨u0, u1, u2, u3⟩ := bg_12.c
  have HQ := hide (HMK.out w12 ag cg w5.heap.size w6.heap.size tg_12 (by omega))
  clear tg_12
  go_wp2_with fail
  refine HQ.out.mono ?_
  rintro e w13 ⟨rfl, TM, u13⟩
  clear HQ u0 u1 u2 u3
  have k13 := k12.trans (u13.below (C := w.heap.size) (fun x hx => by have := hx.1; omega) (by omega))
  have y13 := u13.size
  have tw_13 := tw_12.turn u13 (fun x hx => by have := hx.2; omega) (fun x hx hy => by have := hx.1; have := hx.2; have := hy.1; have := hy.2; omega)
  clear tw_12
  have bw_13 := bw_12.turn u13 (fun hx => by have := hx.1; have := hx.2; omega)
  clear bw_12
  have bg_13 := bg_12.turn u13 (fun hx => by have := hx.1; have := hx.2; omega)
  clear bg_12
  have tm_13 := TM
  clear TM
  obtain ⟨u0, u1, u2, u3⟩ := bg_13.c
  have HQ := hide (HHD.out w13 ag cg w13.heap.size (tm_13.nds (fun x hx => by have := hx.2; omega)) (Nat.le_refl _))
  go_wp2_with fail
  refine HQ.out.mono ?_
  rintro e w14 ⟨rfl, b14⟩
  clear HQ u0 u1 u2 u3
  have k14 := k13.trans (b14.mono k13.size)
  have y14 := b14.size
  have tw_14 := tw_13.stays b14 (fun x hx => by have := hx.2; omega)
  clear tw_13
  have bw_14 := bw_13.next b14
  clear bw_13
  have bg_14 := bg_13.next b14
  clear bg_13
  have tm_14 := tm_13.stays b14 (fun x hx => by have := hx.2; omega)
  clear tm_13
  go_wp2_with fail
  refine (HTO.out w14 k14).mono ?_
  rintro e w15 ⟨rfl, X, b15⟩
  have k15 := k14.trans (b15.mono k14.size)
  have y15 := b15.size
  have tw_15 := tw_14.stays b15 (fun x hx => by have := hx.2; omega)
  clear tw_14
  have bw_15 := bw_14.next b15
  clear bw_14
  have bg_15 := bg_14.next b15
  clear bg_14
  have tm_15 := tm_14.stays b15 (fun x hx => by have := hx.2; omega)
  clear tm_14
  have nr_15 := X
  have q15 : w14.heap.size < w15.heap.size := X.1
  clear X
  have HQ := hide (HIP.out _ w15 (nr_15.sts nr_15.1))
  clear nr_15
  go_wp2_with fail
  refine HQ.out.mono ?_
  rintro e w16 ⟨⟨ah, ch, rfl, TH⟩, b16⟩
  clear HQ
  have k16 := k15.trans (b16.mono k15.size)
  have y16 := b16.size
  have tw_16 := tw_15.stays b16 (fun x hx => by have := hx.2; omega)
  clear tw_15
  have bw_16 := bw_15.next b16
  clear bw_15
  have bg_16 := bg_15.next b16
  clear bg_15
  have tm_16 := tm_15.stays b16 (fun x hx => by have := hx.2; omega)
  clear tm_15
  have th_16 := TH
  clear TH
  have b17 := (Below.refl w16.heap.size w16).alloc (Nat.le_refl _) (Obj.cells #[.string dv, .string ud, .string ⟨#[]⟩, .slice ah l0.length ch] 58)
  have bh0 : Bx4 (w16.alloc (Obj.cells #[.string dv, .string ud, .string ⟨#[]⟩, .slice ah l0.length ch] 58)) w16.heap.size dv ud ah l0.length ch := Bx4.made w16 dv ud ah l0.length ch 58
  obtain ⟨w17, hw17⟩ : ∃ W, w16.alloc (Obj.cells #[.string dv, .string ud, .string ⟨#[]⟩, .slice ah l0.length ch] 58) = W := ⟨_, rfl⟩
  rw [hw17] at b17 bh0
  have k17 := k16.trans (b17.mono k16.size)
  have y17 := b17.size
  have tw_17 := tw_16.stays b17 (fun x hx => by have := hx.2; omega)
  clear tw_16
  have bw_17 := bw_16.next b17
  clear bw_16
  have bg_17 := bg_16.next b17
  clear bg_16
  have tm_17 := tm_16.stays b17 (fun x hx => by have := hx.2; omega)
  clear tm_16
  have th_17 := th_16.stays b17 (fun x hx => by have := hx.2; omega)
  clear th_16
  have bh_17 := bh0
  clear bh0
  obtain ⟨v0, v1, v2, v3⟩ := bw_17.c
  obtain ⟨u0, u1, u2, u3⟩ := bh_17.c
  have HQ := hide (HE.out w17 ah am ch cm w17.heap.size w17.heap.size (th_17.nds (fun x hx => by have := hx.2; omega)) (tw_17.nds (fun x hx => by have := hx.2; omega)) (Nat.le_refl _) (Nat.le_refl _))
  go_wp2_with fail
  refine HQ.out.mono ?_
  rintro e w18 ⟨rfl, b18⟩
  clear HQ u0 u1 u2 u3 v0 v1 v2 v3
  have k18 := k17.trans (b18.mono k17.size)
  have y18 := b18.size
  have tw_18 := tw_17.stays b18 (fun x hx => by have := hx.2; omega)
  clear tw_17
  have bw_18 := bw_17.next b18
  clear bw_17
  have bg_18 := bg_17.next b18
  clear bg_17
  have tm_18 := tm_17.stays b18 (fun x hx => by have := hx.2; omega)
  clear tm_17
  have th_18 := th_17.stays b18 (fun x hx => by have := hx.2; omega)
  clear th_17
  clear hw17
  obtain ⟨u0, u1, u2, u3⟩ := bg_18.c
  have HQ := hide (HHD.out w18 ag cg w18.heap.size (tm_18.nds (fun x hx => by have := hx.2; omega)) (Nat.le_refl _))
  go_wp2_with fail
  refine HQ.out.mono ?_
  rintro e w19 ⟨rfl, b19⟩
  clear HQ u0 u1 u2 u3
  have k19 := k18.trans (b19.mono k18.size)
  go_wp2
  go_ret
  exact ⟨rfl, k19⟩
end Go.Proofs.Ytkgdmlfdlkmojaa
