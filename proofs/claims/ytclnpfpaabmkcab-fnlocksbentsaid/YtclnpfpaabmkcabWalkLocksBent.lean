/-
  The walk of the law FnLocksBent: for every code it returns true, and turns nothing that was there.
-/
import Derived.Test.YtclnpfpaabmkcabDrawLokK
import Derived.Test.YtclnpfpaabmkcabDrawCovK
import Derived.Test.YtclnpfpaabmkcabCoversI
import Derived.Test.YtclnpfpaabmkcabLockOkI
import Derived.Test.YtclnpfpaabmkcabSpecPl
import Derived.Test.YtclnpfpaabmkcabClashI
import Derived.Test.YtclnpfpaabmkcabDropL
import Derived.Test.YtclnpfpaabmkcabSpecDrop
import Derived.Test.YtclnpfpaabmkcabLiveI
import Derived.Test.YtclnpfpaabmkcabSpecLive
import Derived.Test.YtclnpfpaabmkcabTokensI
import Derived.Test.YtclnpfpaabmkcabSpecTokens
import Derived.Test.YtclnpfpaabmkcabIsRow0
import Derived.Test.YtclnpfpaabmkcabIsRow
namespace Go.Proofs.Ytclnpfpaabmkcab
open Go.RowKit M
set_option linter.unusedVariables false

set_option maxRecDepth 100000 in
set_option maxHeartbeats 16000000 in
theorem FnLocksBent_walk (a : Option Addr) (len cap : Nat) (zs : List Int) (w : World) (hr : IsRow .u8 w a len cap zs) :
    Calls Try.prog 3 #[.slice a len cap] w fun e w' => e = .returned (.bool true) ∧ Below w.heap.size w w' := by
  have hml := row_len hr
  by_cases hb : (1048576 : Int) < (len : Int)
  · clear hr
    go_enter Try.func3, Try.ntmps3
    go_wp2_with (go_at_call 5; refine (big_any a len cap _ hml).mono ?_; rintro e w1 ⟨rfl, hw⟩; obtain rfl := hw.symm; rw [decide_eq_true hb])
    go_ret
    exact ⟨rfl, Below.refl _ _⟩
  have HC : Hid (CodeIn w w.heap.size a len zs) := code_of_row hr (by omega)
  clear hr
  go_enter Try.func3, Try.ntmps3
  go_wp2_with (go_at_call 5; refine (big_any a len cap _ hml).mono ?_; rintro e w1 ⟨rfl, hw⟩; obtain rfl := hw.symm; rw [decide_eq_false hb])
  refine (drawLockOk_any HC.out cap).mono ?_
  rintro e w1 ⟨⟨x, px, mx, kx, rfl, x1, x2, xf, xm, xr, xk1, xk2⟩, b1⟩
  subst xm
  have K_1 := hide (b1)
  have SX_1 := hide (xr.strs' xr.1)
  have HXF := hide xf
  have HXK := hide (And.intro xk1 xk2)
  clear xf xr xk1 xk2 x1 x2 b1
  have bA := (Below.refl w1.heap.size w1).alloc (Nat.le_refl _) (Obj.cells #[.int .i64 x.tk, .slice (some ⟨px, 0, none⟩) x.pa.length kx, .bool x.de, .bool x.sh, .int .i64 x.un] 26)
  have X := BoxV.made w1 [.int .i64 x.tk, .slice (some ⟨px, 0, none⟩) x.pa.length kx, .bool x.de, .bool x.sh, .int .i64 x.un] 26
  obtain ⟨w2, hW2⟩ : ∃ W, w1.alloc (Obj.cells #[.int .i64 x.tk, .slice (some ⟨px, 0, none⟩) x.pa.length kx, .bool x.de, .bool x.sh, .int .i64 x.un] 26) = W := ⟨_, rfl⟩
  obtain ⟨NBX, hNBX⟩ : ∃ N, w1.heap.size = N := ⟨_, rfl⟩
  rw [hW2] at bA X
  have HW2 := hide hW2
  have HNBX := hide hNBX
  clear hW2
  have K_2 := hide (K_1.out.trans (bA.mono K_1.out.size))
  have SX_2 := hide ((SX_1.out.below bA (Nat.le_refl _)).mono bA.size)
  clear K_1 SX_1
  rw [hNBX] at X
  have BX_2 := hide X
  clear X bA hNBX
  go_wp2_with fail
  rw [HW2.out, HNBX.out]
  refine (drawCovers_any (HC.out.below K_2.out) cap).mono ?_
  rintro e w3 ⟨⟨y, py, my, ky, sy, qy, ny, jy, rfl, hy, yf, yn, yr, yk1, yk2⟩, b3⟩
  obtain ⟨y1, y2, yf2, ym, yr2, yk3, yk4⟩ := hy
  subst ym yn
  have K_3 := hide (K_2.out.trans (b3.mono K_2.out.size))
  have SX_3 := hide ((SX_2.out.below b3 (Nat.le_refl _)).mono b3.size)
  have BX_3 := hide (BX_2.out.next b3)
  clear K_2 SX_2 BX_2
  have SY_3 := hide (yr2.strs' yr2.1)
  have PY_3 := hide (yr.strs' yr.1)
  have HYK := hide (And.intro yk3 yk4)
  have HYP := hide (And.intro yk1 yk2)
  clear y1 y2 yf yf2 yr yr2 yk1 yk2 yk3 yk4 b3
  have bA := (Below.refl w3.heap.size w3).alloc (Nat.le_refl _) (Obj.cells #[.int .i64 y.tk, .slice (some ⟨py, 0, none⟩) y.pa.length ky, .bool y.de, .bool y.sh, .int .i64 y.un] 26)
  have X := BoxV.made w3 [.int .i64 y.tk, .slice (some ⟨py, 0, none⟩) y.pa.length ky, .bool y.de, .bool y.sh, .int .i64 y.un] 26
  obtain ⟨w4, hW4⟩ : ∃ W, w3.alloc (Obj.cells #[.int .i64 y.tk, .slice (some ⟨py, 0, none⟩) y.pa.length ky, .bool y.de, .bool y.sh, .int .i64 y.un] 26) = W := ⟨_, rfl⟩
  obtain ⟨NBY, hNBY⟩ : ∃ N, w3.heap.size = N := ⟨_, rfl⟩
  rw [hW4] at bA X
  have HW4 := hide hW4
  have HNBY := hide hNBY
  clear hW4
  have K_4 := hide (K_3.out.trans (bA.mono K_3.out.size))
  have SX_4 := hide ((SX_3.out.below bA (Nat.le_refl _)).mono bA.size)
  have BX_4 := hide (BX_3.out.next bA)
  have SY_4 := hide ((SY_3.out.below bA (Nat.le_refl _)).mono bA.size)
  have PY_4 := hide ((PY_3.out.below bA (Nat.le_refl _)).mono bA.size)
  clear K_3 SX_3 BX_3 SY_3 PY_3
  rw [hNBY] at X
  have BY_4 := hide X
  clear X bA hNBY
  go_wp2_with fail
  rw [HW4.out, HNBY.out]
  refine (drawLockClash_any (HC.out.below K_4.out) cap).mono ?_
  rintro e w5 ⟨⟨u, pu, mu, ku, v, pv, mv, kv, rfl, hu, hv⟩, b5⟩
  obtain ⟨u1, u2, uf, um, ur, uk1, uk2⟩ := hu
  obtain ⟨v1, v2, vf, vm, vr, vk1, vk2⟩ := hv
  subst um vm
  have K_5 := hide (K_4.out.trans (b5.mono K_4.out.size))
  have SX_5 := hide ((SX_4.out.below b5 (Nat.le_refl _)).mono b5.size)
  have BX_5 := hide (BX_4.out.next b5)
  have SY_5 := hide ((SY_4.out.below b5 (Nat.le_refl _)).mono b5.size)
  have PY_5 := hide ((PY_4.out.below b5 (Nat.le_refl _)).mono b5.size)
  have BY_5 := hide (BY_4.out.next b5)
  clear K_4 SX_4 BX_4 SY_4 PY_4 BY_4
  have SU_5 := hide (ur.strs' ur.1)
  have SV_5 := hide (vr.strs' vr.1)
  have HUK := hide (And.intro uk1 uk2)
  have HVK := hide (And.intro vk1 vk2)
  clear u1 u2 uf ur uk1 uk2 v1 v2 vf vr vk1 vk2 b5
  have bA := (Below.refl w5.heap.size w5).alloc (Nat.le_refl _) (Obj.cells #[.int .i64 u.tk, .slice (some ⟨pu, 0, none⟩) u.pa.length ku, .bool u.de, .bool u.sh, .int .i64 u.un] 26)
  have X := BoxV.made w5 [.int .i64 u.tk, .slice (some ⟨pu, 0, none⟩) u.pa.length ku, .bool u.de, .bool u.sh, .int .i64 u.un] 26
  obtain ⟨w6, hW6⟩ : ∃ W, w5.alloc (Obj.cells #[.int .i64 u.tk, .slice (some ⟨pu, 0, none⟩) u.pa.length ku, .bool u.de, .bool u.sh, .int .i64 u.un] 26) = W := ⟨_, rfl⟩
  obtain ⟨NBU, hNBU⟩ : ∃ N, w5.heap.size = N := ⟨_, rfl⟩
  rw [hW6] at bA X
  have HW6 := hide hW6
  have HNBU := hide hNBU
  clear hW6
  have K_6 := hide (K_5.out.trans (bA.mono K_5.out.size))
  have SX_6 := hide ((SX_5.out.below bA (Nat.le_refl _)).mono bA.size)
  have BX_6 := hide (BX_5.out.next bA)
  have SY_6 := hide ((SY_5.out.below bA (Nat.le_refl _)).mono bA.size)
  have PY_6 := hide ((PY_5.out.below bA (Nat.le_refl _)).mono bA.size)
  have BY_6 := hide (BY_5.out.next bA)
  have SU_6 := hide ((SU_5.out.below bA (Nat.le_refl _)).mono bA.size)
  have SV_6 := hide ((SV_5.out.below bA (Nat.le_refl _)).mono bA.size)
  clear K_5 SX_5 BX_5 SY_5 PY_5 BY_5 SU_5 SV_5
  rw [hNBU] at X
  have BU_6 := hide X
  clear X bA hNBU
  have bA := (Below.refl w6.heap.size w6).alloc (Nat.le_refl _) (Obj.cells #[.int .i64 v.tk, .slice (some ⟨pv, 0, none⟩) v.pa.length kv, .bool v.de, .bool v.sh, .int .i64 v.un] 26)
  have X := BoxV.made w6 [.int .i64 v.tk, .slice (some ⟨pv, 0, none⟩) v.pa.length kv, .bool v.de, .bool v.sh, .int .i64 v.un] 26
  obtain ⟨w7, hW7⟩ : ∃ W, w6.alloc (Obj.cells #[.int .i64 v.tk, .slice (some ⟨pv, 0, none⟩) v.pa.length kv, .bool v.de, .bool v.sh, .int .i64 v.un] 26) = W := ⟨_, rfl⟩
  obtain ⟨NBV, hNBV⟩ : ∃ N, w6.heap.size = N := ⟨_, rfl⟩
  rw [hW7] at bA X
  have HW7 := hide hW7
  have HNBV := hide hNBV
  clear hW7
  have K_7 := hide (K_6.out.trans (bA.mono K_6.out.size))
  have SX_7 := hide ((SX_6.out.below bA (Nat.le_refl _)).mono bA.size)
  have BX_7 := hide (BX_6.out.next bA)
  have SY_7 := hide ((SY_6.out.below bA (Nat.le_refl _)).mono bA.size)
  have PY_7 := hide ((PY_6.out.below bA (Nat.le_refl _)).mono bA.size)
  have BY_7 := hide (BY_6.out.next bA)
  have SU_7 := hide ((SU_6.out.below bA (Nat.le_refl _)).mono bA.size)
  have SV_7 := hide ((SV_6.out.below bA (Nat.le_refl _)).mono bA.size)
  have BU_7 := hide (BU_6.out.next bA)
  clear K_6 SX_6 BX_6 SY_6 PY_6 BY_6 SU_6 SV_6 BU_6
  rw [hNBV] at X
  have BV_7 := hide X
  clear X bA hNBV
  have hNV : NBU + 1 = NBV := by rw [← HNBU.out, ← HNBV.out, ← HW6.out]; simp
  go_wp2_with fail
  rw [HW6.out, HNBU.out, HW7.out, hNV]
  clear hNV
  refine (drawDropLock_any (HC.out.below K_7.out) cap).mono ?_
  rintro e w8 ⟨⟨l, gl, nl, cl, t, rfl, lf, ln, lc1, lc2, lr, lt1, lt2⟩, b8⟩
  have K_8 := hide (K_7.out.trans (b8.mono K_7.out.size))
  have SX_8 := hide ((SX_7.out.below b8 (Nat.le_refl _)).mono b8.size)
  have BX_8 := hide (BX_7.out.next b8)
  have SY_8 := hide ((SY_7.out.below b8 (Nat.le_refl _)).mono b8.size)
  have PY_8 := hide ((PY_7.out.below b8 (Nat.le_refl _)).mono b8.size)
  have BY_8 := hide (BY_7.out.next b8)
  have SU_8 := hide ((SU_7.out.below b8 (Nat.le_refl _)).mono b8.size)
  have SV_8 := hide ((SV_7.out.below b8 (Nat.le_refl _)).mono b8.size)
  have BU_8 := hide (BU_7.out.next b8)
  have BV_8 := hide (BV_7.out.next b8)
  clear K_7 SX_7 BX_7 SY_7 PY_7 BY_7 SU_7 SV_7 BU_7 BV_7
  subst ln
  have LL_8 := hide (lr.lks)
  have HLF := hide lf
  have HLC := hide (And.intro lc1 lc2)
  clear lf lc1 lc2 lr lt1 lt2 b8
  have hs4 := hide (fun (k : Nat) (ls : List Lk) (hf : FewM k ls) => (fun r hr => ⟨by have := ((hf.2 r hr).2.2).1; omega, fun s hs => by have := ((hf.2 r hr).2.2).2 s hs; omega⟩ : ∀ r ∈ ls, r.pa.length ≤ 1048576 ∧ ∀ s ∈ r.pa, s.size ≤ 281474976710656))
  have HSL := hide (fun (ks : List Lk) (u v : Option Addr) (c1 c2 B C : Nat) (W : World) (h1 : Lks W B u ks) (h2 : Lks W C v ks) (hB : B ≤ W.heap.size) (hC : C ≤ W.heap.size) (hk : ks.length ≤ maxLen) => by
    have h := sameLocks_any u v ks ks c1 c2 B C W h1 h2 hB hC hk hk
    rw [decide_eq_true rfl] at h
    exact h)
  have hlm : l.length ≤ 6 := HLF.out.1
  have hlc : l.length ≤ cl := HLC.out.1
  have hcm : cl ≤ maxLen := HLC.out.2
  have hdl : (dropL t l).length ≤ maxLen := by have := (dropL_sub t l).length_le; unfold maxLen; omega
  have HD1 := hide (fun W (h : Lks W W.heap.size (some ⟨gl, 0, none⟩) l) => dropLock_any (some ⟨gl, 0, none⟩) l cl W.heap.size t W h (Nat.le_refl _) (by omega) hlc hcm (hs4.out 6 l HLF.out))
  have HD2 := hide (fun W (h : Lks W W.heap.size (some ⟨gl, 0, none⟩) l) => specDrop_any (some ⟨gl, 0, none⟩) l cl W.heap.size t W h (Nat.le_refl _) (by omega) (fun r hr => (hs4.out 6 l HLF.out r hr).1))
  generalize l.any (isTk t) = zd at HD1 HD2
  obtain ⟨D, hD⟩ : ∃ D, dropL t l = D := ⟨_, rfl⟩
  rw [hD] at HD1 HD2 hdl
  clear hD
  go_wp2_with fail
  refine (HD1.out w8 LL_8.out).mono ?_
  rintro e w9 ⟨⟨ga, rfl, ha, pb, oa⟩, b9⟩
  have K_9 := hide (K_8.out.trans (b9.mono K_8.out.size))
  have SX_9 := hide ((SX_8.out.below b9 (Nat.le_refl _)).mono b9.size)
  have BX_9 := hide (BX_8.out.next b9)
  have SY_9 := hide ((SY_8.out.below b9 (Nat.le_refl _)).mono b9.size)
  have PY_9 := hide ((PY_8.out.below b9 (Nat.le_refl _)).mono b9.size)
  have BY_9 := hide (BY_8.out.next b9)
  have SU_9 := hide ((SU_8.out.below b9 (Nat.le_refl _)).mono b9.size)
  have SV_9 := hide ((SV_8.out.below b9 (Nat.le_refl _)).mono b9.size)
  have BU_9 := hide (BU_8.out.next b9)
  have BV_9 := hide (BV_8.out.next b9)
  have LL_9 := hide ((LL_8.out.below b9 (Nat.le_refl _)).mono b9.size)
  clear K_8 SX_8 BX_8 SY_8 PY_8 BY_8 SU_8 SV_8 BU_8 BV_8 LL_8
  have OA := oa.lks (Nat.le_refl _)
  clear b9
  have DA_9 := hide (OA)
  clear oa OA ha
  go_wp2_with fail
  refine (HD2.out w9 LL_9.out).mono ?_
  rintro e w10 ⟨⟨gb, nb, cb, rfl, hnb, hb1, hb2, ob⟩, b10⟩
  have K_10 := hide (K_9.out.trans (b10.mono K_9.out.size))
  have SX_10 := hide ((SX_9.out.below b10 (Nat.le_refl _)).mono b10.size)
  have BX_10 := hide (BX_9.out.next b10)
  have SY_10 := hide ((SY_9.out.below b10 (Nat.le_refl _)).mono b10.size)
  have PY_10 := hide ((PY_9.out.below b10 (Nat.le_refl _)).mono b10.size)
  have BY_10 := hide (BY_9.out.next b10)
  have SU_10 := hide ((SU_9.out.below b10 (Nat.le_refl _)).mono b10.size)
  have SV_10 := hide ((SV_9.out.below b10 (Nat.le_refl _)).mono b10.size)
  have BU_10 := hide (BU_9.out.next b10)
  have BV_10 := hide (BV_9.out.next b10)
  have LL_10 := hide ((LL_9.out.below b10 (Nat.le_refl _)).mono b10.size)
  have DA_10 := hide ((DA_9.out.below b10 (Nat.le_refl _)).mono b10.size)
  clear K_9 SX_9 BX_9 SY_9 PY_9 BY_9 SU_9 SV_9 BU_9 BV_9 LL_9 DA_9
  subst hnb
  clear b10
  have DB_10 := hide (ob)
  clear ob hb1 hb2 HD1 HD2
  go_wp2_with fail
  refine (drawLiveLocks_any (HC.out.below K_10.out) cap).mono ?_
  rintro e w11 ⟨⟨m, gm, nm, cm, now, rfl, mf, mn, mc1, mc2, mr, mt1, mt2⟩, b11⟩
  have K_11 := hide (K_10.out.trans (b11.mono K_10.out.size))
  have SX_11 := hide ((SX_10.out.below b11 (Nat.le_refl _)).mono b11.size)
  have BX_11 := hide (BX_10.out.next b11)
  have SY_11 := hide ((SY_10.out.below b11 (Nat.le_refl _)).mono b11.size)
  have PY_11 := hide ((PY_10.out.below b11 (Nat.le_refl _)).mono b11.size)
  have BY_11 := hide (BY_10.out.next b11)
  have SU_11 := hide ((SU_10.out.below b11 (Nat.le_refl _)).mono b11.size)
  have SV_11 := hide ((SV_10.out.below b11 (Nat.le_refl _)).mono b11.size)
  have BU_11 := hide (BU_10.out.next b11)
  have BV_11 := hide (BV_10.out.next b11)
  have LL_11 := hide ((LL_10.out.below b11 (Nat.le_refl _)).mono b11.size)
  have DA_11 := hide ((DA_10.out.below b11 (Nat.le_refl _)).mono b11.size)
  have DB_11 := hide ((DB_10.out.below b11 (Nat.le_refl _)).mono b11.size)
  clear K_10 SX_10 BX_10 SY_10 PY_10 BY_10 SU_10 SV_10 BU_10 BV_10 LL_10 DA_10 DB_10
  subst mn
  have LM_11 := hide (mr.lks)
  have HMF := hide mf
  have hmm : m.length ≤ 6 := mf.1
  clear mf mc1 mc2 mr mt1 mt2 b11
  go_wp2_with fail
  refine (drawTokensAt_any (HC.out.below K_11.out) cap).mono ?_
  rintro e w12 ⟨⟨n, gn, nn, cn, sn, pn, mn, kn, rfl, nf, nnn, nc1, nc2, nr, sf, sm, nrs, nk1, nk2, nB⟩, b12⟩
  have K_12 := hide (K_11.out.trans (b12.mono K_11.out.size))
  have SX_12 := hide ((SX_11.out.below b12 (Nat.le_refl _)).mono b12.size)
  have BX_12 := hide (BX_11.out.next b12)
  have SY_12 := hide ((SY_11.out.below b12 (Nat.le_refl _)).mono b12.size)
  have PY_12 := hide ((PY_11.out.below b12 (Nat.le_refl _)).mono b12.size)
  have BY_12 := hide (BY_11.out.next b12)
  have SU_12 := hide ((SU_11.out.below b12 (Nat.le_refl _)).mono b12.size)
  have SV_12 := hide ((SV_11.out.below b12 (Nat.le_refl _)).mono b12.size)
  have BU_12 := hide (BU_11.out.next b12)
  have BV_12 := hide (BV_11.out.next b12)
  have LL_12 := hide ((LL_11.out.below b12 (Nat.le_refl _)).mono b12.size)
  have DA_12 := hide ((DA_11.out.below b12 (Nat.le_refl _)).mono b12.size)
  have DB_12 := hide ((DB_11.out.below b12 (Nat.le_refl _)).mono b12.size)
  have LM_12 := hide ((LM_11.out.below b12 (Nat.le_refl _)).mono b12.size)
  clear K_11 SX_11 BX_11 SY_11 PY_11 BY_11 SU_11 SV_11 BU_11 BV_11 LL_11 DA_11 DB_11 LM_11
  subst nnn sm
  have LN_12 := hide (nr.lks)
  have PN_12 := hide (nrs.strs' nrs.1)
  have hnm : n.length ≤ 6 := nf.1
  have HNK := hide (And.intro nk1 nk2)
  clear nf nc1 nc2 nr sf nrs nk1 nk2 nB b12
  go_wp2_with fail
  refine (drawMayTurn_any (HC.out.below K_12.out) cap).mono ?_
  rintro e w13 ⟨⟨q, gq, nq, cq, sq, pq, mq, kq, dp, ks, gk, nk, ck, rfl, qf, qn, qc1, qc2, qr, qsf, qsm, qrs, qk1, qk2, ks6, ok⟩, b13⟩
  have K_13 := hide (K_12.out.trans (b13.mono K_12.out.size))
  have SX_13 := hide ((SX_12.out.below b13 (Nat.le_refl _)).mono b13.size)
  have BX_13 := hide (BX_12.out.next b13)
  have SY_13 := hide ((SY_12.out.below b13 (Nat.le_refl _)).mono b13.size)
  have PY_13 := hide ((PY_12.out.below b13 (Nat.le_refl _)).mono b13.size)
  have BY_13 := hide (BY_12.out.next b13)
  have SU_13 := hide ((SU_12.out.below b13 (Nat.le_refl _)).mono b13.size)
  have SV_13 := hide ((SV_12.out.below b13 (Nat.le_refl _)).mono b13.size)
  have BU_13 := hide (BU_12.out.next b13)
  have BV_13 := hide (BV_12.out.next b13)
  have LL_13 := hide ((LL_12.out.below b13 (Nat.le_refl _)).mono b13.size)
  have DA_13 := hide ((DA_12.out.below b13 (Nat.le_refl _)).mono b13.size)
  have DB_13 := hide ((DB_12.out.below b13 (Nat.le_refl _)).mono b13.size)
  have LM_13 := hide ((LM_12.out.below b13 (Nat.le_refl _)).mono b13.size)
  have LN_13 := hide ((LN_12.out.below b13 (Nat.le_refl _)).mono b13.size)
  have PN_13 := hide ((PN_12.out.below b13 (Nat.le_refl _)).mono b13.size)
  clear K_12 SX_12 BX_12 SY_12 PY_12 BY_12 SU_12 SV_12 BU_12 BV_12 LL_12 DA_12 DB_12 LM_12 LN_12 PN_12
  obtain ⟨ik1, ik2⟩ : nk = ks.length ∧ Ints w13 w13.heap.size (some ⟨gk, 0, none⟩) ks := by
    obtain ⟨ax, cx, e, _, _, _, hx⟩ := ints_of_view (view_of_ints ok)
    cases e
    exact ⟨rfl, hx⟩
  subst qn qsm ik1
  have LQ_13 := hide (qr.lks)
  have PQ_13 := hide (qrs.strs' qrs.1)
  have IK_13 := hide (ik2)
  have hqm : q.length ≤ 6 := qf.1
  have HQK := hide (And.intro qk1 qk2)
  clear qf qc1 qc2 qr qsf qrs qk1 qk2 ok ik2 b13
  have HXS := hide (show Short x.pa from fun s hs => by have := HXF.out.2 s hs; unfold maxLen; omega)
  obtain ⟨z1, hz1⟩ : ∃ z, lockB x = z := ⟨_, rfl⟩
  obtain ⟨z2, hz2⟩ : ∃ z, covB y sy = z := ⟨_, rfl⟩
  obtain ⟨z3, hz3⟩ : ∃ z, clashB u v = z := ⟨_, rfl⟩
  have hz4 : clashB v u = z3 := by rw [clashB_comm]; exact hz3
  obtain ⟨z5, hz5⟩ : ∃ z, mayB q sq dp ks = z := ⟨_, rfl⟩
  have HZ1 := hide hz1
  have HZ2 := hide hz2
  have HZ3 := hide hz3
  have HZ4 := hide hz4
  have HZ5 := hide hz5
  clear hz1 hz2 hz3 hz4 hz5
  have bb1 : (z1 == z1) = true := beq_self_eq_true _
  have bb2 : (z2 == z2) = true := beq_self_eq_true _
  have bb3 : (z3 == z3) = true := beq_self_eq_true _
  have bb5 : (z5 == z5) = true := beq_self_eq_true _
  have bbd : (zd == zd) = true := beq_self_eq_true _
  have flat : ∀ W : World, BoxV W NBX [.int .i64 x.tk, .slice (some ⟨px, 0, none⟩) x.pa.length kx, .bool x.de, .bool x.sh, .int .i64 x.un] → BoxV W NBY [.int .i64 y.tk, .slice (some ⟨py, 0, none⟩) y.pa.length ky, .bool y.de, .bool y.sh, .int .i64 y.un] → BoxV W NBU [.int .i64 u.tk, .slice (some ⟨pu, 0, none⟩) u.pa.length ku, .bool u.de, .bool u.sh, .int .i64 u.un] → BoxV W NBV [.int .i64 v.tk, .slice (some ⟨pv, 0, none⟩) v.pa.length kv, .bool v.de, .bool v.sh, .int .i64 v.un] → (W.cell? ⟨NBX, 0, none⟩ = some (.int .i64 x.tk) ∧ W.cell? ⟨NBX, 1, none⟩ = some (.slice (some ⟨px, 0, none⟩) x.pa.length kx) ∧ W.cell? ⟨NBX, 2, none⟩ = some (.bool x.de) ∧ W.cell? ⟨NBX, 3, none⟩ = some (.bool x.sh) ∧ W.cell? ⟨NBX, 4, none⟩ = some (.int .i64 x.un) ∧ W.cell? ⟨NBY, 0, none⟩ = some (.int .i64 y.tk) ∧ W.cell? ⟨NBY, 1, none⟩ = some (.slice (some ⟨py, 0, none⟩) y.pa.length ky) ∧ W.cell? ⟨NBY, 2, none⟩ = some (.bool y.de) ∧ W.cell? ⟨NBY, 3, none⟩ = some (.bool y.sh) ∧ W.cell? ⟨NBY, 4, none⟩ = some (.int .i64 y.un) ∧ W.cell? ⟨NBU, 0, none⟩ = some (.int .i64 u.tk) ∧ W.cell? ⟨NBU, 1, none⟩ = some (.slice (some ⟨pu, 0, none⟩) u.pa.length ku) ∧ W.cell? ⟨NBU, 2, none⟩ = some (.bool u.de) ∧ W.cell? ⟨NBU, 3, none⟩ = some (.bool u.sh) ∧ W.cell? ⟨NBU, 4, none⟩ = some (.int .i64 u.un) ∧ W.cell? ⟨NBV, 0, none⟩ = some (.int .i64 v.tk) ∧ W.cell? ⟨NBV, 1, none⟩ = some (.slice (some ⟨pv, 0, none⟩) v.pa.length kv) ∧ W.cell? ⟨NBV, 2, none⟩ = some (.bool v.de) ∧ W.cell? ⟨NBV, 3, none⟩ = some (.bool v.sh) ∧ W.cell? ⟨NBV, 4, none⟩ = some (.int .i64 v.un)) := fun W X Y U V => ⟨(X.2 0 _ rfl).1, (X.2 1 _ rfl).1, (X.2 2 _ rfl).1, (X.2 3 _ rfl).1, (X.2 4 _ rfl).1, (Y.2 0 _ rfl).1, (Y.2 1 _ rfl).1, (Y.2 2 _ rfl).1, (Y.2 3 _ rfl).1, (Y.2 4 _ rfl).1, (U.2 0 _ rfl).1, (U.2 1 _ rfl).1, (U.2 2 _ rfl).1, (U.2 3 _ rfl).1, (U.2 4 _ rfl).1, (V.2 0 _ rfl).1, (V.2 1 _ rfl).1, (V.2 2 _ rfl).1, (V.2 3 _ rfl).1, (V.2 4 _ rfl).1⟩
  have bD : Below w13.heap.size w13 w13.drew := below_drewG (Below.refl _ _)
  have K_14 := hide (K_13.out.trans (bD.mono K_13.out.size))
  have SX_14 := hide ((SX_13.out.below bD (Nat.le_refl _)).mono bD.size)
  have BX_14 := hide (BX_13.out.next bD)
  have SY_14 := hide ((SY_13.out.below bD (Nat.le_refl _)).mono bD.size)
  have PY_14 := hide ((PY_13.out.below bD (Nat.le_refl _)).mono bD.size)
  have BY_14 := hide (BY_13.out.next bD)
  have SU_14 := hide ((SU_13.out.below bD (Nat.le_refl _)).mono bD.size)
  have SV_14 := hide ((SV_13.out.below bD (Nat.le_refl _)).mono bD.size)
  have BU_14 := hide (BU_13.out.next bD)
  have BV_14 := hide (BV_13.out.next bD)
  have LL_14 := hide ((LL_13.out.below bD (Nat.le_refl _)).mono bD.size)
  have DA_14 := hide ((DA_13.out.below bD (Nat.le_refl _)).mono bD.size)
  have DB_14 := hide ((DB_13.out.below bD (Nat.le_refl _)).mono bD.size)
  have LM_14 := hide ((LM_13.out.below bD (Nat.le_refl _)).mono bD.size)
  have LN_14 := hide ((LN_13.out.below bD (Nat.le_refl _)).mono bD.size)
  have PN_14 := hide ((PN_13.out.below bD (Nat.le_refl _)).mono bD.size)
  have LQ_14 := hide ((LQ_13.out.below bD (Nat.le_refl _)).mono bD.size)
  have PQ_14 := hide ((PQ_13.out.below bD (Nat.le_refl _)).mono bD.size)
  have IK_14 := hide ((IK_13.out.below bD (Nat.le_refl _)).mono bD.size)
  clear K_13 SX_13 BX_13 SY_13 PY_13 BY_13 SU_13 SV_13 BU_13 BV_13 LL_13 DA_13 DB_13 LM_13 LN_13 PN_13 LQ_13 PQ_13 IK_13
  go_wp2
  refine wp_region_held_drew (S := (fun W => W.cell? ⟨NBX, 0, none⟩ = some (.int .i64 x.tk) ∧ W.cell? ⟨NBX, 1, none⟩ = some (.slice (some ⟨px, 0, none⟩) x.pa.length kx) ∧ W.cell? ⟨NBX, 2, none⟩ = some (.bool x.de) ∧ W.cell? ⟨NBX, 3, none⟩ = some (.bool x.sh) ∧ W.cell? ⟨NBX, 4, none⟩ = some (.int .i64 x.un) ∧ W.cell? ⟨NBY, 0, none⟩ = some (.int .i64 y.tk) ∧ W.cell? ⟨NBY, 1, none⟩ = some (.slice (some ⟨py, 0, none⟩) y.pa.length ky) ∧ W.cell? ⟨NBY, 2, none⟩ = some (.bool y.de) ∧ W.cell? ⟨NBY, 3, none⟩ = some (.bool y.sh) ∧ W.cell? ⟨NBY, 4, none⟩ = some (.int .i64 y.un) ∧ W.cell? ⟨NBU, 0, none⟩ = some (.int .i64 u.tk) ∧ W.cell? ⟨NBU, 1, none⟩ = some (.slice (some ⟨pu, 0, none⟩) u.pa.length ku) ∧ W.cell? ⟨NBU, 2, none⟩ = some (.bool u.de) ∧ W.cell? ⟨NBU, 3, none⟩ = some (.bool u.sh) ∧ W.cell? ⟨NBU, 4, none⟩ = some (.int .i64 u.un) ∧ W.cell? ⟨NBV, 0, none⟩ = some (.int .i64 v.tk) ∧ W.cell? ⟨NBV, 1, none⟩ = some (.slice (some ⟨pv, 0, none⟩) v.pa.length kv) ∧ W.cell? ⟨NBV, 2, none⟩ = some (.bool v.de) ∧ W.cell? ⟨NBV, 3, none⟩ = some (.bool v.sh) ∧ W.cell? ⟨NBV, 4, none⟩ = some (.int .i64 v.un))) (by kernel_rfl) (flat _ BX_14.out BY_14.out BU_14.out BV_14.out) (fun hHeld => ?_)
  clear hHeld
  obtain ⟨w14, hwd⟩ : ∃ X, w13.drew = X := ⟨_, rfl⟩
  rw [hwd] at K_14 SX_14 BX_14 SY_14 PY_14 BY_14 SU_14 SV_14 BU_14 BV_14 LL_14 DA_14 DB_14 LM_14 LN_14 PN_14 LQ_14 PQ_14 IK_14 ⊢
  clear hwd bD
  have hHeld : (fun W : World => W.cell? ⟨NBX, 0, none⟩ = some (.int .i64 x.tk) ∧ W.cell? ⟨NBX, 1, none⟩ = some (.slice (some ⟨px, 0, none⟩) x.pa.length kx) ∧ W.cell? ⟨NBX, 2, none⟩ = some (.bool x.de) ∧ W.cell? ⟨NBX, 3, none⟩ = some (.bool x.sh) ∧ W.cell? ⟨NBX, 4, none⟩ = some (.int .i64 x.un) ∧ W.cell? ⟨NBY, 0, none⟩ = some (.int .i64 y.tk) ∧ W.cell? ⟨NBY, 1, none⟩ = some (.slice (some ⟨py, 0, none⟩) y.pa.length ky) ∧ W.cell? ⟨NBY, 2, none⟩ = some (.bool y.de) ∧ W.cell? ⟨NBY, 3, none⟩ = some (.bool y.sh) ∧ W.cell? ⟨NBY, 4, none⟩ = some (.int .i64 y.un) ∧ W.cell? ⟨NBU, 0, none⟩ = some (.int .i64 u.tk) ∧ W.cell? ⟨NBU, 1, none⟩ = some (.slice (some ⟨pu, 0, none⟩) u.pa.length ku) ∧ W.cell? ⟨NBU, 2, none⟩ = some (.bool u.de) ∧ W.cell? ⟨NBU, 3, none⟩ = some (.bool u.sh) ∧ W.cell? ⟨NBU, 4, none⟩ = some (.int .i64 u.un) ∧ W.cell? ⟨NBV, 0, none⟩ = some (.int .i64 v.tk) ∧ W.cell? ⟨NBV, 1, none⟩ = some (.slice (some ⟨pv, 0, none⟩) v.pa.length kv) ∧ W.cell? ⟨NBV, 2, none⟩ = some (.bool v.de) ∧ W.cell? ⟨NBV, 3, none⟩ = some (.bool v.sh) ∧ W.cell? ⟨NBV, 4, none⟩ = some (.int .i64 v.un)) w14 := (flat _ BX_14.out BY_14.out BU_14.out BV_14.out)
  simp only [List.append_eq, List.cons_append, List.nil_append, List.size_toArray, List.length_cons, List.length_nil, Nat.reduceAdd, Array.replicate_succ, Array.replicate_zero, List.push_toArray, List.nil_append, List.cons_append]
  refine wpAnyH_take (i := 0) (v := ?_) rfl (by kernel_rfl) (by kernel_rfl) (by kernel_rfl) (fun _ _ _ h => h) (Or.inl ⟨by rfl, ?_⟩) (by assumption) ?_
  rotate_left
  · intro w hSw; (try dsimp only at hSw); go_simp; try with_reducible rfl
  simp only [Act.put, List.getElem_toArray, List.getElem_cons_zero, List.setIfInBounds_toArray, List.set_cons_zero]
  refine wpAnyH_take (i := 2) (v := ?_) rfl (by kernel_rfl) (by kernel_rfl) (by kernel_rfl) (fun _ _ _ h => h) (Or.inl ⟨by rfl, ?_⟩) (by assumption) ?_
  rotate_left
  · intro w hSw; (try dsimp only at hSw); go_simp; try with_reducible rfl
  simp only [Act.put, List.getElem_toArray, List.getElem_cons_succ, List.getElem_cons_zero, List.setIfInBounds_toArray, List.set_cons_succ, List.set_cons_zero]
  refine wpAnyH_ready (rs := [1]) (by kernel_rfl) (by simp) ?_
  refine AllReadyH.cons rfl (fun K hK => ?_) AllReadyH.nil
  go_simp
  have HQ := hide (lockOk_any x (some ⟨px, 0, none⟩) kx w14.heap.size w14 ⟨SX_14.out, HXK.out.1, HXK.out.2, fun e => by cases e⟩ (Nat.le_refl _) HXS.out)
  rw [HZ1.out] at HQ
  refine (HQ.out).mono ?_
  rintro e w15 ⟨rfl, b15⟩
  have K_15 := hide (K_14.out.trans (b15.mono K_14.out.size))
  have SX_15 := hide ((SX_14.out.below b15 (Nat.le_refl _)).mono b15.size)
  have BX_15 := hide (BX_14.out.next b15)
  have SY_15 := hide ((SY_14.out.below b15 (Nat.le_refl _)).mono b15.size)
  have PY_15 := hide ((PY_14.out.below b15 (Nat.le_refl _)).mono b15.size)
  have BY_15 := hide (BY_14.out.next b15)
  have SU_15 := hide ((SU_14.out.below b15 (Nat.le_refl _)).mono b15.size)
  have SV_15 := hide ((SV_14.out.below b15 (Nat.le_refl _)).mono b15.size)
  have BU_15 := hide (BU_14.out.next b15)
  have BV_15 := hide (BV_14.out.next b15)
  have LL_15 := hide ((LL_14.out.below b15 (Nat.le_refl _)).mono b15.size)
  have DA_15 := hide ((DA_14.out.below b15 (Nat.le_refl _)).mono b15.size)
  have DB_15 := hide ((DB_14.out.below b15 (Nat.le_refl _)).mono b15.size)
  have LM_15 := hide ((LM_14.out.below b15 (Nat.le_refl _)).mono b15.size)
  have LN_15 := hide ((LN_14.out.below b15 (Nat.le_refl _)).mono b15.size)
  have PN_15 := hide ((PN_14.out.below b15 (Nat.le_refl _)).mono b15.size)
  have LQ_15 := hide ((LQ_14.out.below b15 (Nat.le_refl _)).mono b15.size)
  have PQ_15 := hide ((PQ_14.out.below b15 (Nat.le_refl _)).mono b15.size)
  have IK_15 := hide ((IK_14.out.below b15 (Nat.le_refl _)).mono b15.size)
  clear K_14 SX_14 BX_14 SY_14 PY_14 BY_14 SU_14 SV_14 BU_14 BV_14 LL_14 DA_14 DB_14 LM_14 LN_14 PN_14 LQ_14 PQ_14 IK_14
  clear b15
  clear HQ
  refine hK.out _ _ (flat _ BX_15.out BY_15.out BU_15.out BV_15.out) (fun hHeld2 => ?_)
  clear hK K hHeld
  have hHeld := hHeld2
  clear hHeld2
  simp only [List.setIfInBounds_toArray, List.set_cons_succ, List.set_cons_zero]
  refine wpAnyH_ready (rs := [3]) (by kernel_rfl) (by simp) ?_
  refine AllReadyH.cons rfl (fun K hK => ?_) AllReadyH.nil
  go_simp
  have HQ := hide (specLockOk_any x (some ⟨px, 0, none⟩) kx w15.heap.size w15 ⟨SX_15.out, HXK.out.1, HXK.out.2, fun e => by cases e⟩ (Nat.le_refl _) HXS.out)
  rw [HZ1.out] at HQ
  refine (HQ.out).mono ?_
  rintro e w16 ⟨rfl, b16⟩
  have K_16 := hide (K_15.out.trans (b16.mono K_15.out.size))
  have SX_16 := hide ((SX_15.out.below b16 (Nat.le_refl _)).mono b16.size)
  have BX_16 := hide (BX_15.out.next b16)
  have SY_16 := hide ((SY_15.out.below b16 (Nat.le_refl _)).mono b16.size)
  have PY_16 := hide ((PY_15.out.below b16 (Nat.le_refl _)).mono b16.size)
  have BY_16 := hide (BY_15.out.next b16)
  have SU_16 := hide ((SU_15.out.below b16 (Nat.le_refl _)).mono b16.size)
  have SV_16 := hide ((SV_15.out.below b16 (Nat.le_refl _)).mono b16.size)
  have BU_16 := hide (BU_15.out.next b16)
  have BV_16 := hide (BV_15.out.next b16)
  have LL_16 := hide ((LL_15.out.below b16 (Nat.le_refl _)).mono b16.size)
  have DA_16 := hide ((DA_15.out.below b16 (Nat.le_refl _)).mono b16.size)
  have DB_16 := hide ((DB_15.out.below b16 (Nat.le_refl _)).mono b16.size)
  have LM_16 := hide ((LM_15.out.below b16 (Nat.le_refl _)).mono b16.size)
  have LN_16 := hide ((LN_15.out.below b16 (Nat.le_refl _)).mono b16.size)
  have PN_16 := hide ((PN_15.out.below b16 (Nat.le_refl _)).mono b16.size)
  have LQ_16 := hide ((LQ_15.out.below b16 (Nat.le_refl _)).mono b16.size)
  have PQ_16 := hide ((PQ_15.out.below b16 (Nat.le_refl _)).mono b16.size)
  have IK_16 := hide ((IK_15.out.below b16 (Nat.le_refl _)).mono b16.size)
  clear K_15 SX_15 BX_15 SY_15 PY_15 BY_15 SU_15 SV_15 BU_15 BV_15 LL_15 DA_15 DB_15 LM_15 LN_15 PN_15 LQ_15 PQ_15 IK_15
  clear b16
  clear HQ
  refine hK.out _ _ (flat _ BX_16.out BY_16.out BU_16.out BV_16.out) (fun hHeld2 => ?_)
  clear hK K hHeld
  have hHeld := hHeld2
  clear hHeld2
  simp only [List.setIfInBounds_toArray, List.set_cons_succ, List.set_cons_zero]
  refine wpAnyH_take (i := 4) (v := .bool true) rfl (by kernel_rfl) (by kernel_rfl) (by kernel_rfl) (fun _ _ _ h => h) (Or.inl ⟨by rfl, ?_⟩) (by assumption) ?_
  · intro w hSw; (try dsimp only at hSw); go_simp
  simp only [Act.put, List.getElem_toArray, List.getElem_cons_succ, List.getElem_cons_zero, List.setIfInBounds_toArray, List.set_cons_succ, List.set_cons_zero]
  refine wpAnyH_take (i := 5) (v := ?_) rfl (by kernel_rfl) (by kernel_rfl) (by kernel_rfl) (fun _ _ _ h => h) (Or.inl ⟨by rfl, ?_⟩) (by assumption) ?_
  rotate_left
  · intro w hSw; (try dsimp only at hSw); go_simp; try with_reducible rfl
  simp only [Act.put, List.getElem_toArray, List.getElem_cons_succ, List.getElem_cons_zero, List.setIfInBounds_toArray, List.set_cons_succ, List.set_cons_zero]
  refine wpAnyH_take (i := 6) (v := ?_) rfl (by kernel_rfl) (by kernel_rfl) (by kernel_rfl) (fun _ _ _ h => h) (Or.inl ⟨by rfl, ?_⟩) (by assumption) ?_
  rotate_left
  · intro w hSw; (try dsimp only at hSw); go_simp; try with_reducible rfl
  simp only [Act.put, List.getElem_toArray, List.getElem_cons_succ, List.getElem_cons_zero, List.setIfInBounds_toArray, List.set_cons_succ, List.set_cons_zero]
  refine wpAnyH_take (i := 7) (v := ?_) rfl (by kernel_rfl) (by kernel_rfl) (by kernel_rfl) (fun _ _ _ h => h) (Or.inl ⟨by rfl, ?_⟩) (by assumption) ?_
  rotate_left
  · intro w hSw; (try dsimp only at hSw); go_simp; try with_reducible rfl
  simp only [Act.put, List.getElem_toArray, List.getElem_cons_succ, List.getElem_cons_zero, List.setIfInBounds_toArray, List.set_cons_succ, List.set_cons_zero]
  refine wpAnyH_take (i := 9) (v := ?_) rfl (by kernel_rfl) (by kernel_rfl) (by kernel_rfl) (fun _ _ _ h => h) (Or.inl ⟨by rfl, ?_⟩) (by assumption) ?_
  rotate_left
  · intro w hSw; (try dsimp only at hSw); go_simp; try with_reducible rfl
  simp only [Act.put, List.getElem_toArray, List.getElem_cons_succ, List.getElem_cons_zero, List.setIfInBounds_toArray, List.set_cons_succ, List.set_cons_zero]
  refine wpAnyH_take (i := 10) (v := ?_) rfl (by kernel_rfl) (by kernel_rfl) (by kernel_rfl) (fun _ _ _ h => h) (Or.inl ⟨by rfl, ?_⟩) (by assumption) ?_
  rotate_left
  · intro w hSw; (try dsimp only at hSw); go_simp; try with_reducible rfl
  simp only [Act.put, List.getElem_toArray, List.getElem_cons_succ, List.getElem_cons_zero, List.setIfInBounds_toArray, List.set_cons_succ, List.set_cons_zero]
  refine wpAnyH_ready (rs := [8]) (by kernel_rfl) (by simp) ?_
  refine AllReadyH.cons rfl (fun K hK => ?_) AllReadyH.nil
  go_simp
  have HQ := hide (covers_any y (some ⟨py, 0, none⟩) ky (some ⟨qy, 0, none⟩) sy jy w16.heap.size w16.heap.size w16 ⟨SY_16.out, HYK.out.1, HYK.out.2, fun e => by cases e⟩ (Nat.le_refl _) PY_16.out (Nat.le_refl _) HYP.out.1 HYP.out.2)
  rw [HZ2.out] at HQ
  refine (HQ.out).mono ?_
  rintro e w17 ⟨rfl, b17⟩
  have K_17 := hide (K_16.out.trans (b17.mono K_16.out.size))
  have SX_17 := hide ((SX_16.out.below b17 (Nat.le_refl _)).mono b17.size)
  have BX_17 := hide (BX_16.out.next b17)
  have SY_17 := hide ((SY_16.out.below b17 (Nat.le_refl _)).mono b17.size)
  have PY_17 := hide ((PY_16.out.below b17 (Nat.le_refl _)).mono b17.size)
  have BY_17 := hide (BY_16.out.next b17)
  have SU_17 := hide ((SU_16.out.below b17 (Nat.le_refl _)).mono b17.size)
  have SV_17 := hide ((SV_16.out.below b17 (Nat.le_refl _)).mono b17.size)
  have BU_17 := hide (BU_16.out.next b17)
  have BV_17 := hide (BV_16.out.next b17)
  have LL_17 := hide ((LL_16.out.below b17 (Nat.le_refl _)).mono b17.size)
  have DA_17 := hide ((DA_16.out.below b17 (Nat.le_refl _)).mono b17.size)
  have DB_17 := hide ((DB_16.out.below b17 (Nat.le_refl _)).mono b17.size)
  have LM_17 := hide ((LM_16.out.below b17 (Nat.le_refl _)).mono b17.size)
  have LN_17 := hide ((LN_16.out.below b17 (Nat.le_refl _)).mono b17.size)
  have PN_17 := hide ((PN_16.out.below b17 (Nat.le_refl _)).mono b17.size)
  have LQ_17 := hide ((LQ_16.out.below b17 (Nat.le_refl _)).mono b17.size)
  have PQ_17 := hide ((PQ_16.out.below b17 (Nat.le_refl _)).mono b17.size)
  have IK_17 := hide ((IK_16.out.below b17 (Nat.le_refl _)).mono b17.size)
  clear K_16 SX_16 BX_16 SY_16 PY_16 BY_16 SU_16 SV_16 BU_16 BV_16 LL_16 DA_16 DB_16 LM_16 LN_16 PN_16 LQ_16 PQ_16 IK_16
  clear b17
  clear HQ
  refine hK.out _ _ (flat _ BX_17.out BY_17.out BU_17.out BV_17.out) (fun hHeld2 => ?_)
  clear hK K hHeld
  have hHeld := hHeld2
  clear hHeld2
  simp only [List.setIfInBounds_toArray, List.set_cons_succ, List.set_cons_zero]
  refine wpAnyH_ready (rs := [11]) (by kernel_rfl) (by simp) ?_
  refine AllReadyH.cons rfl (fun K hK => ?_) AllReadyH.nil
  go_simp
  have HQ := hide (specCovers_any y (some ⟨py, 0, none⟩) ky (some ⟨qy, 0, none⟩) sy jy w17.heap.size w17.heap.size w17 ⟨SY_17.out, HYK.out.1, HYK.out.2, fun e => by cases e⟩ (Nat.le_refl _) PY_17.out (Nat.le_refl _) HYP.out.1 HYP.out.2)
  rw [HZ2.out] at HQ
  refine (HQ.out).mono ?_
  rintro e w18 ⟨rfl, b18⟩
  have K_18 := hide (K_17.out.trans (b18.mono K_17.out.size))
  have SX_18 := hide ((SX_17.out.below b18 (Nat.le_refl _)).mono b18.size)
  have BX_18 := hide (BX_17.out.next b18)
  have SY_18 := hide ((SY_17.out.below b18 (Nat.le_refl _)).mono b18.size)
  have PY_18 := hide ((PY_17.out.below b18 (Nat.le_refl _)).mono b18.size)
  have BY_18 := hide (BY_17.out.next b18)
  have SU_18 := hide ((SU_17.out.below b18 (Nat.le_refl _)).mono b18.size)
  have SV_18 := hide ((SV_17.out.below b18 (Nat.le_refl _)).mono b18.size)
  have BU_18 := hide (BU_17.out.next b18)
  have BV_18 := hide (BV_17.out.next b18)
  have LL_18 := hide ((LL_17.out.below b18 (Nat.le_refl _)).mono b18.size)
  have DA_18 := hide ((DA_17.out.below b18 (Nat.le_refl _)).mono b18.size)
  have DB_18 := hide ((DB_17.out.below b18 (Nat.le_refl _)).mono b18.size)
  have LM_18 := hide ((LM_17.out.below b18 (Nat.le_refl _)).mono b18.size)
  have LN_18 := hide ((LN_17.out.below b18 (Nat.le_refl _)).mono b18.size)
  have PN_18 := hide ((PN_17.out.below b18 (Nat.le_refl _)).mono b18.size)
  have LQ_18 := hide ((LQ_17.out.below b18 (Nat.le_refl _)).mono b18.size)
  have PQ_18 := hide ((PQ_17.out.below b18 (Nat.le_refl _)).mono b18.size)
  have IK_18 := hide ((IK_17.out.below b18 (Nat.le_refl _)).mono b18.size)
  clear K_17 SX_17 BX_17 SY_17 PY_17 BY_17 SU_17 SV_17 BU_17 BV_17 LL_17 DA_17 DB_17 LM_17 LN_17 PN_17 LQ_17 PQ_17 IK_17
  clear b18
  clear HQ
  refine hK.out _ _ (flat _ BX_18.out BY_18.out BU_18.out BV_18.out) (fun hHeld2 => ?_)
  clear hK K hHeld
  have hHeld := hHeld2
  clear hHeld2
  simp only [List.setIfInBounds_toArray, List.set_cons_succ, List.set_cons_zero]
  refine wpAnyH_take (i := 12) (v := .bool true) rfl (by kernel_rfl) (by kernel_rfl) (by kernel_rfl) (fun _ _ _ h => h) (Or.inl ⟨by rfl, ?_⟩) (by assumption) ?_
  · intro w hSw; (try dsimp only at hSw); go_simp
  simp only [Act.put, List.getElem_toArray, List.getElem_cons_succ, List.getElem_cons_zero, List.setIfInBounds_toArray, List.set_cons_succ, List.set_cons_zero]
  refine wpAnyH_take (i := 13) (v := .bool true) rfl (by kernel_rfl) (by kernel_rfl) (by kernel_rfl) (fun _ _ _ h => h) (Or.inl ⟨by rfl, ?_⟩) (by assumption) ?_
  · intro w hSw; (try dsimp only at hSw); go_simp
  simp only [Act.put, List.getElem_toArray, List.getElem_cons_succ, List.getElem_cons_zero, List.setIfInBounds_toArray, List.set_cons_succ, List.set_cons_zero]
  refine wpAnyH_take (i := 14) (v := ?_) rfl (by kernel_rfl) (by kernel_rfl) (by kernel_rfl) (fun _ _ _ h => h) (Or.inl ⟨by rfl, ?_⟩) (by assumption) ?_
  rotate_left
  · intro w hSw; (try dsimp only at hSw); go_simp; try with_reducible rfl
  simp only [Act.put, List.getElem_toArray, List.getElem_cons_succ, List.getElem_cons_zero, List.setIfInBounds_toArray, List.set_cons_succ, List.set_cons_zero]
  refine wpAnyH_take (i := 15) (v := ?_) rfl (by kernel_rfl) (by kernel_rfl) (by kernel_rfl) (fun _ _ _ h => h) (Or.inl ⟨by rfl, ?_⟩) (by assumption) ?_
  rotate_left
  · intro w hSw; (try dsimp only at hSw); go_simp; try with_reducible rfl
  simp only [Act.put, List.getElem_toArray, List.getElem_cons_succ, List.getElem_cons_zero, List.setIfInBounds_toArray, List.set_cons_succ, List.set_cons_zero]
  refine wpAnyH_take (i := 16) (v := ?_) rfl (by kernel_rfl) (by kernel_rfl) (by kernel_rfl) (fun _ _ _ h => h) (Or.inl ⟨by rfl, ?_⟩) (by assumption) ?_
  rotate_left
  · intro w hSw; (try dsimp only at hSw); go_simp; try with_reducible rfl
  simp only [Act.put, List.getElem_toArray, List.getElem_cons_succ, List.getElem_cons_zero, List.setIfInBounds_toArray, List.set_cons_succ, List.set_cons_zero]
  refine wpAnyH_take (i := 18) (v := ?_) rfl (by kernel_rfl) (by kernel_rfl) (by kernel_rfl) (fun _ _ _ h => h) (Or.inl ⟨by rfl, ?_⟩) (by assumption) ?_
  rotate_left
  · intro w hSw; (try dsimp only at hSw); go_simp; try with_reducible rfl
  simp only [Act.put, List.getElem_toArray, List.getElem_cons_succ, List.getElem_cons_zero, List.setIfInBounds_toArray, List.set_cons_succ, List.set_cons_zero]
  refine wpAnyH_take (i := 19) (v := ?_) rfl (by kernel_rfl) (by kernel_rfl) (by kernel_rfl) (fun _ _ _ h => h) (Or.inl ⟨by rfl, ?_⟩) (by assumption) ?_
  rotate_left
  · intro w hSw; (try dsimp only at hSw); go_simp; try with_reducible rfl
  simp only [Act.put, List.getElem_toArray, List.getElem_cons_succ, List.getElem_cons_zero, List.setIfInBounds_toArray, List.set_cons_succ, List.set_cons_zero]
  refine wpAnyH_ready (rs := [17]) (by kernel_rfl) (by simp) ?_
  refine AllReadyH.cons rfl (fun K hK => ?_) AllReadyH.nil
  go_simp
  have HQ := hide (lockClash_any u (some ⟨pu, 0, none⟩) ku v (some ⟨pv, 0, none⟩) kv w18.heap.size w18.heap.size w18 ⟨SU_18.out, HUK.out.1, HUK.out.2, fun e => by cases e⟩ (Nat.le_refl _) ⟨SV_18.out, HVK.out.1, HVK.out.2, fun e => by cases e⟩ (Nat.le_refl _))
  rw [HZ3.out] at HQ
  refine (HQ.out).mono ?_
  rintro e w19 ⟨rfl, b19⟩
  have K_19 := hide (K_18.out.trans (b19.mono K_18.out.size))
  have SX_19 := hide ((SX_18.out.below b19 (Nat.le_refl _)).mono b19.size)
  have BX_19 := hide (BX_18.out.next b19)
  have SY_19 := hide ((SY_18.out.below b19 (Nat.le_refl _)).mono b19.size)
  have PY_19 := hide ((PY_18.out.below b19 (Nat.le_refl _)).mono b19.size)
  have BY_19 := hide (BY_18.out.next b19)
  have SU_19 := hide ((SU_18.out.below b19 (Nat.le_refl _)).mono b19.size)
  have SV_19 := hide ((SV_18.out.below b19 (Nat.le_refl _)).mono b19.size)
  have BU_19 := hide (BU_18.out.next b19)
  have BV_19 := hide (BV_18.out.next b19)
  have LL_19 := hide ((LL_18.out.below b19 (Nat.le_refl _)).mono b19.size)
  have DA_19 := hide ((DA_18.out.below b19 (Nat.le_refl _)).mono b19.size)
  have DB_19 := hide ((DB_18.out.below b19 (Nat.le_refl _)).mono b19.size)
  have LM_19 := hide ((LM_18.out.below b19 (Nat.le_refl _)).mono b19.size)
  have LN_19 := hide ((LN_18.out.below b19 (Nat.le_refl _)).mono b19.size)
  have PN_19 := hide ((PN_18.out.below b19 (Nat.le_refl _)).mono b19.size)
  have LQ_19 := hide ((LQ_18.out.below b19 (Nat.le_refl _)).mono b19.size)
  have PQ_19 := hide ((PQ_18.out.below b19 (Nat.le_refl _)).mono b19.size)
  have IK_19 := hide ((IK_18.out.below b19 (Nat.le_refl _)).mono b19.size)
  clear K_18 SX_18 BX_18 SY_18 PY_18 BY_18 SU_18 SV_18 BU_18 BV_18 LL_18 DA_18 DB_18 LM_18 LN_18 PN_18 LQ_18 PQ_18 IK_18
  clear b19
  clear HQ
  refine hK.out _ _ (flat _ BX_19.out BY_19.out BU_19.out BV_19.out) (fun hHeld2 => ?_)
  clear hK K hHeld
  have hHeld := hHeld2
  clear hHeld2
  simp only [List.setIfInBounds_toArray, List.set_cons_succ, List.set_cons_zero]
  refine wpAnyH_ready (rs := [20]) (by kernel_rfl) (by simp) ?_
  refine AllReadyH.cons rfl (fun K hK => ?_) AllReadyH.nil
  go_simp
  have HQ := hide (specLockClash_any u (some ⟨pu, 0, none⟩) ku v (some ⟨pv, 0, none⟩) kv w19.heap.size w19.heap.size w19 ⟨SU_19.out, HUK.out.1, HUK.out.2, fun e => by cases e⟩ (Nat.le_refl _) ⟨SV_19.out, HVK.out.1, HVK.out.2, fun e => by cases e⟩ (Nat.le_refl _))
  rw [HZ3.out] at HQ
  refine (HQ.out).mono ?_
  rintro e w20 ⟨rfl, b20⟩
  have K_20 := hide (K_19.out.trans (b20.mono K_19.out.size))
  have SX_20 := hide ((SX_19.out.below b20 (Nat.le_refl _)).mono b20.size)
  have BX_20 := hide (BX_19.out.next b20)
  have SY_20 := hide ((SY_19.out.below b20 (Nat.le_refl _)).mono b20.size)
  have PY_20 := hide ((PY_19.out.below b20 (Nat.le_refl _)).mono b20.size)
  have BY_20 := hide (BY_19.out.next b20)
  have SU_20 := hide ((SU_19.out.below b20 (Nat.le_refl _)).mono b20.size)
  have SV_20 := hide ((SV_19.out.below b20 (Nat.le_refl _)).mono b20.size)
  have BU_20 := hide (BU_19.out.next b20)
  have BV_20 := hide (BV_19.out.next b20)
  have LL_20 := hide ((LL_19.out.below b20 (Nat.le_refl _)).mono b20.size)
  have DA_20 := hide ((DA_19.out.below b20 (Nat.le_refl _)).mono b20.size)
  have DB_20 := hide ((DB_19.out.below b20 (Nat.le_refl _)).mono b20.size)
  have LM_20 := hide ((LM_19.out.below b20 (Nat.le_refl _)).mono b20.size)
  have LN_20 := hide ((LN_19.out.below b20 (Nat.le_refl _)).mono b20.size)
  have PN_20 := hide ((PN_19.out.below b20 (Nat.le_refl _)).mono b20.size)
  have LQ_20 := hide ((LQ_19.out.below b20 (Nat.le_refl _)).mono b20.size)
  have PQ_20 := hide ((PQ_19.out.below b20 (Nat.le_refl _)).mono b20.size)
  have IK_20 := hide ((IK_19.out.below b20 (Nat.le_refl _)).mono b20.size)
  clear K_19 SX_19 BX_19 SY_19 PY_19 BY_19 SU_19 SV_19 BU_19 BV_19 LL_19 DA_19 DB_19 LM_19 LN_19 PN_19 LQ_19 PQ_19 IK_19
  clear b20
  clear HQ
  refine hK.out _ _ (flat _ BX_20.out BY_20.out BU_20.out BV_20.out) (fun hHeld2 => ?_)
  clear hK K hHeld
  have hHeld := hHeld2
  clear hHeld2
  simp only [List.setIfInBounds_toArray, List.set_cons_succ, List.set_cons_zero]
  refine wpAnyH_take (i := 21) (v := .bool true) rfl (by kernel_rfl) (by kernel_rfl) (by kernel_rfl) (fun _ _ _ h => h) (Or.inl ⟨by rfl, ?_⟩) (by assumption) ?_
  · intro w hSw; (try dsimp only at hSw); go_simp
  simp only [Act.put, List.getElem_toArray, List.getElem_cons_succ, List.getElem_cons_zero, List.setIfInBounds_toArray, List.set_cons_succ, List.set_cons_zero]
  refine wpAnyH_take (i := 22) (v := .bool true) rfl (by kernel_rfl) (by kernel_rfl) (by kernel_rfl) (fun _ _ _ h => h) (Or.inl ⟨by rfl, ?_⟩) (by assumption) ?_
  · intro w hSw; (try dsimp only at hSw); go_simp
  simp only [Act.put, List.getElem_toArray, List.getElem_cons_succ, List.getElem_cons_zero, List.setIfInBounds_toArray, List.set_cons_succ, List.set_cons_zero]
  refine wpAnyH_take (i := 23) (v := ?_) rfl (by kernel_rfl) (by kernel_rfl) (by kernel_rfl) (fun _ _ _ h => h) (Or.inl ⟨by rfl, ?_⟩) (by assumption) ?_
  rotate_left
  · intro w hSw; (try dsimp only at hSw); go_simp; try with_reducible rfl
  simp only [Act.put, List.getElem_toArray, List.getElem_cons_succ, List.getElem_cons_zero, List.setIfInBounds_toArray, List.set_cons_succ, List.set_cons_zero]
  refine wpAnyH_take (i := 24) (v := ?_) rfl (by kernel_rfl) (by kernel_rfl) (by kernel_rfl) (fun _ _ _ h => h) (Or.inl ⟨by rfl, ?_⟩) (by assumption) ?_
  rotate_left
  · intro w hSw; (try dsimp only at hSw); go_simp; try with_reducible rfl
  simp only [Act.put, List.getElem_toArray, List.getElem_cons_succ, List.getElem_cons_zero, List.setIfInBounds_toArray, List.set_cons_succ, List.set_cons_zero]
  refine wpAnyH_take (i := 25) (v := ?_) rfl (by kernel_rfl) (by kernel_rfl) (by kernel_rfl) (fun _ _ _ h => h) (Or.inl ⟨by rfl, ?_⟩) (by assumption) ?_
  rotate_left
  · intro w hSw; (try dsimp only at hSw); go_simp; try with_reducible rfl
  simp only [Act.put, List.getElem_toArray, List.getElem_cons_succ, List.getElem_cons_zero, List.setIfInBounds_toArray, List.set_cons_succ, List.set_cons_zero]
  refine wpAnyH_take (i := 27) (v := ?_) rfl (by kernel_rfl) (by kernel_rfl) (by kernel_rfl) (fun _ _ _ h => h) (Or.inl ⟨by rfl, ?_⟩) (by assumption) ?_
  rotate_left
  · intro w hSw; (try dsimp only at hSw); go_simp; try with_reducible rfl
  simp only [Act.put, List.getElem_toArray, List.getElem_cons_succ, List.getElem_cons_zero, List.setIfInBounds_toArray, List.set_cons_succ, List.set_cons_zero]
  refine wpAnyH_take (i := 28) (v := ?_) rfl (by kernel_rfl) (by kernel_rfl) (by kernel_rfl) (fun _ _ _ h => h) (Or.inl ⟨by rfl, ?_⟩) (by assumption) ?_
  rotate_left
  · intro w hSw; (try dsimp only at hSw); go_simp; try with_reducible rfl
  simp only [Act.put, List.getElem_toArray, List.getElem_cons_succ, List.getElem_cons_zero, List.setIfInBounds_toArray, List.set_cons_succ, List.set_cons_zero]
  refine wpAnyH_ready (rs := [26]) (by kernel_rfl) (by simp) ?_
  refine AllReadyH.cons rfl (fun K hK => ?_) AllReadyH.nil
  go_simp
  have HQ := hide (lockClash_any u (some ⟨pu, 0, none⟩) ku v (some ⟨pv, 0, none⟩) kv w20.heap.size w20.heap.size w20 ⟨SU_20.out, HUK.out.1, HUK.out.2, fun e => by cases e⟩ (Nat.le_refl _) ⟨SV_20.out, HVK.out.1, HVK.out.2, fun e => by cases e⟩ (Nat.le_refl _))
  rw [HZ3.out] at HQ
  refine (HQ.out).mono ?_
  rintro e w21 ⟨rfl, b21⟩
  have K_21 := hide (K_20.out.trans (b21.mono K_20.out.size))
  have SX_21 := hide ((SX_20.out.below b21 (Nat.le_refl _)).mono b21.size)
  have BX_21 := hide (BX_20.out.next b21)
  have SY_21 := hide ((SY_20.out.below b21 (Nat.le_refl _)).mono b21.size)
  have PY_21 := hide ((PY_20.out.below b21 (Nat.le_refl _)).mono b21.size)
  have BY_21 := hide (BY_20.out.next b21)
  have SU_21 := hide ((SU_20.out.below b21 (Nat.le_refl _)).mono b21.size)
  have SV_21 := hide ((SV_20.out.below b21 (Nat.le_refl _)).mono b21.size)
  have BU_21 := hide (BU_20.out.next b21)
  have BV_21 := hide (BV_20.out.next b21)
  have LL_21 := hide ((LL_20.out.below b21 (Nat.le_refl _)).mono b21.size)
  have DA_21 := hide ((DA_20.out.below b21 (Nat.le_refl _)).mono b21.size)
  have DB_21 := hide ((DB_20.out.below b21 (Nat.le_refl _)).mono b21.size)
  have LM_21 := hide ((LM_20.out.below b21 (Nat.le_refl _)).mono b21.size)
  have LN_21 := hide ((LN_20.out.below b21 (Nat.le_refl _)).mono b21.size)
  have PN_21 := hide ((PN_20.out.below b21 (Nat.le_refl _)).mono b21.size)
  have LQ_21 := hide ((LQ_20.out.below b21 (Nat.le_refl _)).mono b21.size)
  have PQ_21 := hide ((PQ_20.out.below b21 (Nat.le_refl _)).mono b21.size)
  have IK_21 := hide ((IK_20.out.below b21 (Nat.le_refl _)).mono b21.size)
  clear K_20 SX_20 BX_20 SY_20 PY_20 BY_20 SU_20 SV_20 BU_20 BV_20 LL_20 DA_20 DB_20 LM_20 LN_20 PN_20 LQ_20 PQ_20 IK_20
  clear b21
  clear HQ
  refine hK.out _ _ (flat _ BX_21.out BY_21.out BU_21.out BV_21.out) (fun hHeld2 => ?_)
  clear hK K hHeld
  have hHeld := hHeld2
  clear hHeld2
  simp only [List.setIfInBounds_toArray, List.set_cons_succ, List.set_cons_zero]
  refine wpAnyH_ready (rs := [29]) (by kernel_rfl) (by simp) ?_
  refine AllReadyH.cons rfl (fun K hK => ?_) AllReadyH.nil
  go_simp
  have HQ := hide (lockClash_any v (some ⟨pv, 0, none⟩) kv u (some ⟨pu, 0, none⟩) ku w21.heap.size w21.heap.size w21 ⟨SV_21.out, HVK.out.1, HVK.out.2, fun e => by cases e⟩ (Nat.le_refl _) ⟨SU_21.out, HUK.out.1, HUK.out.2, fun e => by cases e⟩ (Nat.le_refl _))
  rw [HZ4.out] at HQ
  refine (HQ.out).mono ?_
  rintro e w22 ⟨rfl, b22⟩
  have K_22 := hide (K_21.out.trans (b22.mono K_21.out.size))
  have SX_22 := hide ((SX_21.out.below b22 (Nat.le_refl _)).mono b22.size)
  have BX_22 := hide (BX_21.out.next b22)
  have SY_22 := hide ((SY_21.out.below b22 (Nat.le_refl _)).mono b22.size)
  have PY_22 := hide ((PY_21.out.below b22 (Nat.le_refl _)).mono b22.size)
  have BY_22 := hide (BY_21.out.next b22)
  have SU_22 := hide ((SU_21.out.below b22 (Nat.le_refl _)).mono b22.size)
  have SV_22 := hide ((SV_21.out.below b22 (Nat.le_refl _)).mono b22.size)
  have BU_22 := hide (BU_21.out.next b22)
  have BV_22 := hide (BV_21.out.next b22)
  have LL_22 := hide ((LL_21.out.below b22 (Nat.le_refl _)).mono b22.size)
  have DA_22 := hide ((DA_21.out.below b22 (Nat.le_refl _)).mono b22.size)
  have DB_22 := hide ((DB_21.out.below b22 (Nat.le_refl _)).mono b22.size)
  have LM_22 := hide ((LM_21.out.below b22 (Nat.le_refl _)).mono b22.size)
  have LN_22 := hide ((LN_21.out.below b22 (Nat.le_refl _)).mono b22.size)
  have PN_22 := hide ((PN_21.out.below b22 (Nat.le_refl _)).mono b22.size)
  have LQ_22 := hide ((LQ_21.out.below b22 (Nat.le_refl _)).mono b22.size)
  have PQ_22 := hide ((PQ_21.out.below b22 (Nat.le_refl _)).mono b22.size)
  have IK_22 := hide ((IK_21.out.below b22 (Nat.le_refl _)).mono b22.size)
  clear K_21 SX_21 BX_21 SY_21 PY_21 BY_21 SU_21 SV_21 BU_21 BV_21 LL_21 DA_21 DB_21 LM_21 LN_21 PN_21 LQ_21 PQ_21 IK_21
  clear b22
  clear HQ
  refine hK.out _ _ (flat _ BX_22.out BY_22.out BU_22.out BV_22.out) (fun hHeld2 => ?_)
  clear hK K hHeld
  have hHeld := hHeld2
  clear hHeld2
  simp only [List.setIfInBounds_toArray, List.set_cons_succ, List.set_cons_zero]
  refine wpAnyH_take (i := 30) (v := .bool true) rfl (by kernel_rfl) (by kernel_rfl) (by kernel_rfl) (fun _ _ _ h => h) (Or.inl ⟨by rfl, ?_⟩) (by assumption) ?_
  · intro w hSw; (try dsimp only at hSw); go_simp
  simp only [Act.put, List.getElem_toArray, List.getElem_cons_succ, List.getElem_cons_zero, List.setIfInBounds_toArray, List.set_cons_succ, List.set_cons_zero]
  refine wpAnyH_take (i := 31) (v := .bool true) rfl (by kernel_rfl) (by kernel_rfl) (by kernel_rfl) (fun _ _ _ h => h) (Or.inl ⟨by rfl, ?_⟩) (by assumption) ?_
  · intro w hSw; (try dsimp only at hSw); go_simp
  simp only [Act.put, List.getElem_toArray, List.getElem_cons_succ, List.getElem_cons_zero, List.setIfInBounds_toArray, List.set_cons_succ, List.set_cons_zero]
  refine wpAnyH_take (i := 32) (v := ?_) rfl (by kernel_rfl) (by kernel_rfl) (by kernel_rfl) (fun _ _ _ h => h) (Or.inl ⟨by rfl, ?_⟩) (by assumption) ?_
  rotate_left
  · intro w hSw; (try dsimp only at hSw); go_simp; try with_reducible rfl
  simp only [Act.put, List.getElem_toArray, List.getElem_cons_succ, List.getElem_cons_zero, List.setIfInBounds_toArray, List.set_cons_succ, List.set_cons_zero]
  refine wpAnyH_take (i := 33) (v := ?_) rfl (by kernel_rfl) (by kernel_rfl) (by kernel_rfl) (fun _ _ _ h => h) (Or.inl ⟨by rfl, ?_⟩) (by assumption) ?_
  rotate_left
  · intro w hSw; (try dsimp only at hSw); go_simp; try with_reducible rfl
  simp only [Act.put, List.getElem_toArray, List.getElem_cons_succ, List.getElem_cons_zero, List.setIfInBounds_toArray, List.set_cons_succ, List.set_cons_zero]
  refine wpAnyH_take (i := 34) (v := ?_) rfl (by kernel_rfl) (by kernel_rfl) (by kernel_rfl) (fun _ _ _ h => h) (Or.inl ⟨by rfl, ?_⟩) (by assumption) ?_
  rotate_left
  · intro w hSw; (try dsimp only at hSw); go_simp; try with_reducible rfl
  simp only [Act.put, List.getElem_toArray, List.getElem_cons_succ, List.getElem_cons_zero, List.setIfInBounds_toArray, List.set_cons_succ, List.set_cons_zero]
  refine wpAnyH_take (i := 35) (v := .bool true) rfl (by kernel_rfl) (by kernel_rfl) (by kernel_rfl) (fun _ _ _ h => h) (Or.inl ⟨by rfl, ?_⟩) (by assumption) ?_
  · intro w hSw; (try dsimp only at hSw); go_simp
  simp only [Act.put, List.getElem_toArray, List.getElem_cons_succ, List.getElem_cons_zero, List.setIfInBounds_toArray, List.set_cons_succ, List.set_cons_zero]
  refine wpAnyH_take (i := 36) (v := .bool true) rfl (by kernel_rfl) (by kernel_rfl) (by kernel_rfl) (fun _ _ _ h => h) (Or.inl ⟨by rfl, ?_⟩) (by assumption) ?_
  · intro w hSw; (try dsimp only at hSw); go_simp
  simp only [Act.put, List.getElem_toArray, List.getElem_cons_succ, List.getElem_cons_zero, List.setIfInBounds_toArray, List.set_cons_succ, List.set_cons_zero]
  refine wpAnyH_take (i := 37) (v := ?_) rfl (by kernel_rfl) (by kernel_rfl) (by kernel_rfl) (fun _ _ _ h => h) (Or.inl ⟨by rfl, ?_⟩) (by assumption) ?_
  rotate_left
  · intro w hSw; (try dsimp only at hSw); go_simp; try with_reducible rfl
  simp only [Act.put, List.getElem_toArray, List.getElem_cons_succ, List.getElem_cons_zero, List.setIfInBounds_toArray, List.set_cons_succ, List.set_cons_zero]
  refine wpAnyH_take (i := 38) (v := ?_) rfl (by kernel_rfl) (by kernel_rfl) (by kernel_rfl) (fun _ _ _ h => h) (Or.inl ⟨by rfl, ?_⟩) (by assumption) ?_
  rotate_left
  · intro w hSw; (try dsimp only at hSw); go_simp; try with_reducible rfl
  simp only [Act.put, List.getElem_toArray, List.getElem_cons_succ, List.getElem_cons_zero, List.setIfInBounds_toArray, List.set_cons_succ, List.set_cons_zero]
  refine wpAnyH_take (i := 39) (v := ?_) rfl (by kernel_rfl) (by kernel_rfl) (by kernel_rfl) (fun _ _ _ h => h) (Or.inl ⟨by rfl, ?_⟩) (by assumption) ?_
  rotate_left
  · intro w hSw; (try dsimp only at hSw); go_simp; try with_reducible rfl
  simp only [Act.put, List.getElem_toArray, List.getElem_cons_succ, List.getElem_cons_zero, List.setIfInBounds_toArray, List.set_cons_succ, List.set_cons_zero]
  refine wpAnyH_ready (rs := [40]) (by kernel_rfl) (by simp) ?_
  refine AllReadyH.cons rfl (fun K hK => ?_) AllReadyH.nil
  go_simp
  have HQ := hide (HSL.out D (some ⟨ga, 0, none⟩) (some ⟨gb, 0, none⟩) D.length cb w22.heap.size w22.heap.size w22 DA_22.out DB_22.out (Nat.le_refl _) (Nat.le_refl _) hdl)
  refine (HQ.out).mono ?_
  rintro e w23 ⟨rfl, b23⟩
  have K_23 := hide (K_22.out.trans (b23.mono K_22.out.size))
  have SX_23 := hide ((SX_22.out.below b23 (Nat.le_refl _)).mono b23.size)
  have BX_23 := hide (BX_22.out.next b23)
  have SY_23 := hide ((SY_22.out.below b23 (Nat.le_refl _)).mono b23.size)
  have PY_23 := hide ((PY_22.out.below b23 (Nat.le_refl _)).mono b23.size)
  have BY_23 := hide (BY_22.out.next b23)
  have SU_23 := hide ((SU_22.out.below b23 (Nat.le_refl _)).mono b23.size)
  have SV_23 := hide ((SV_22.out.below b23 (Nat.le_refl _)).mono b23.size)
  have BU_23 := hide (BU_22.out.next b23)
  have BV_23 := hide (BV_22.out.next b23)
  have LL_23 := hide ((LL_22.out.below b23 (Nat.le_refl _)).mono b23.size)
  have DA_23 := hide ((DA_22.out.below b23 (Nat.le_refl _)).mono b23.size)
  have DB_23 := hide ((DB_22.out.below b23 (Nat.le_refl _)).mono b23.size)
  have LM_23 := hide ((LM_22.out.below b23 (Nat.le_refl _)).mono b23.size)
  have LN_23 := hide ((LN_22.out.below b23 (Nat.le_refl _)).mono b23.size)
  have PN_23 := hide ((PN_22.out.below b23 (Nat.le_refl _)).mono b23.size)
  have LQ_23 := hide ((LQ_22.out.below b23 (Nat.le_refl _)).mono b23.size)
  have PQ_23 := hide ((PQ_22.out.below b23 (Nat.le_refl _)).mono b23.size)
  have IK_23 := hide ((IK_22.out.below b23 (Nat.le_refl _)).mono b23.size)
  clear K_22 SX_22 BX_22 SY_22 PY_22 BY_22 SU_22 SV_22 BU_22 BV_22 LL_22 DA_22 DB_22 LM_22 LN_22 PN_22 LQ_22 PQ_22 IK_22
  clear b23
  clear HQ
  refine hK.out _ _ (flat _ BX_23.out BY_23.out BU_23.out BV_23.out) (fun hHeld2 => ?_)
  clear hK K hHeld
  have hHeld := hHeld2
  clear hHeld2
  simp only [List.setIfInBounds_toArray, List.set_cons_succ, List.set_cons_zero]
  refine wpAnyH_take (i := 41) (v := .bool true) rfl (by kernel_rfl) (by kernel_rfl) (by kernel_rfl) (fun _ _ _ h => h) (Or.inl ⟨by rfl, ?_⟩) (by assumption) ?_
  · intro w hSw; (try dsimp only at hSw); go_simp
  simp only [Act.put, List.getElem_toArray, List.getElem_cons_succ, List.getElem_cons_zero, List.setIfInBounds_toArray, List.set_cons_succ, List.set_cons_zero]
  refine wpAnyH_take (i := 42) (v := ?_) rfl (by kernel_rfl) (by kernel_rfl) (by kernel_rfl) (fun _ _ _ h => h) (Or.inl ⟨by rfl, ?_⟩) (by assumption) ?_
  rotate_left
  · intro w hSw; (try dsimp only at hSw); go_simp; try with_reducible rfl
  simp only [Act.put, List.getElem_toArray, List.getElem_cons_succ, List.getElem_cons_zero, List.setIfInBounds_toArray, List.set_cons_succ, List.set_cons_zero]
  refine wpAnyH_take (i := 43) (v := ?_) rfl (by kernel_rfl) (by kernel_rfl) (by kernel_rfl) (fun _ _ _ h => h) (Or.inl ⟨by rfl, ?_⟩) (by assumption) ?_
  rotate_left
  · intro w hSw; (try dsimp only at hSw); go_simp; try with_reducible rfl
  simp only [Act.put, List.getElem_toArray, List.getElem_cons_succ, List.getElem_cons_zero, List.setIfInBounds_toArray, List.set_cons_succ, List.set_cons_zero]
  refine wpAnyH_take (i := 44) (v := ?_) rfl (by kernel_rfl) (by kernel_rfl) (by kernel_rfl) (fun _ _ _ h => h) (Or.inl ⟨by rfl, ?_⟩) (by assumption) ?_
  rotate_left
  · intro w hSw; (try dsimp only at hSw); go_simp; try with_reducible rfl
  simp only [Act.put, List.getElem_toArray, List.getElem_cons_succ, List.getElem_cons_zero, List.setIfInBounds_toArray, List.set_cons_succ, List.set_cons_zero]
  refine wpAnyH_take (i := 46) (v := ?_) rfl (by kernel_rfl) (by kernel_rfl) (by kernel_rfl) (fun _ _ _ h => h) (Or.inl ⟨by rfl, ?_⟩) (by assumption) ?_
  rotate_left
  · intro w hSw; (try dsimp only at hSw); go_simp; try with_reducible rfl
  simp only [Act.put, List.getElem_toArray, List.getElem_cons_succ, List.getElem_cons_zero, List.setIfInBounds_toArray, List.set_cons_succ, List.set_cons_zero]
  refine wpAnyH_take (i := 47) (v := ?_) rfl (by kernel_rfl) (by kernel_rfl) (by kernel_rfl) (fun _ _ _ h => h) (Or.inl ⟨by rfl, ?_⟩) (by assumption) ?_
  rotate_left
  · intro w hSw; (try dsimp only at hSw); go_simp; try with_reducible rfl
  simp only [Act.put, List.getElem_toArray, List.getElem_cons_succ, List.getElem_cons_zero, List.setIfInBounds_toArray, List.set_cons_succ, List.set_cons_zero]
  refine wpAnyH_ready (rs := [45]) (by kernel_rfl) (by simp) ?_
  refine AllReadyH.cons rfl (fun K hK => ?_) AllReadyH.nil
  go_simp
  have hfm : (m.filter (liveB now)).length ≤ maxLen := by have := List.length_filter_le (liveB now) m; unfold maxLen; omega
  have hfs := hs4.out 6 m HMF.out
  have HV1 := hide (fun W (h : Lks W W.heap.size (some ⟨gm, 0, none⟩) m) => liveLocks_any (some ⟨gm, 0, none⟩) m cm W.heap.size now W h (Nat.le_refl _) (by omega) hfs)
  have HV2 := hide (fun W (h : Lks W W.heap.size (some ⟨gm, 0, none⟩) m) => specLive_any (some ⟨gm, 0, none⟩) m cm W.heap.size now W h (Nat.le_refl _) (by omega) (fun r hr => (hfs r hr).1))
  obtain ⟨E, hE⟩ : ∃ E, m.filter (liveB now) = E := ⟨_, rfl⟩
  rw [hE] at HV1 HV2 hfm
  clear hE hfs
  refine (HV1.out w23 LM_23.out).mono ?_
  rintro e w24 ⟨⟨gc, rfl, hc, pb2, oc⟩, b24⟩
  have K_24 := hide (K_23.out.trans (b24.mono K_23.out.size))
  have SX_24 := hide ((SX_23.out.below b24 (Nat.le_refl _)).mono b24.size)
  have BX_24 := hide (BX_23.out.next b24)
  have SY_24 := hide ((SY_23.out.below b24 (Nat.le_refl _)).mono b24.size)
  have PY_24 := hide ((PY_23.out.below b24 (Nat.le_refl _)).mono b24.size)
  have BY_24 := hide (BY_23.out.next b24)
  have SU_24 := hide ((SU_23.out.below b24 (Nat.le_refl _)).mono b24.size)
  have SV_24 := hide ((SV_23.out.below b24 (Nat.le_refl _)).mono b24.size)
  have BU_24 := hide (BU_23.out.next b24)
  have BV_24 := hide (BV_23.out.next b24)
  have LL_24 := hide ((LL_23.out.below b24 (Nat.le_refl _)).mono b24.size)
  have DA_24 := hide ((DA_23.out.below b24 (Nat.le_refl _)).mono b24.size)
  have DB_24 := hide ((DB_23.out.below b24 (Nat.le_refl _)).mono b24.size)
  have LM_24 := hide ((LM_23.out.below b24 (Nat.le_refl _)).mono b24.size)
  have LN_24 := hide ((LN_23.out.below b24 (Nat.le_refl _)).mono b24.size)
  have PN_24 := hide ((PN_23.out.below b24 (Nat.le_refl _)).mono b24.size)
  have LQ_24 := hide ((LQ_23.out.below b24 (Nat.le_refl _)).mono b24.size)
  have PQ_24 := hide ((PQ_23.out.below b24 (Nat.le_refl _)).mono b24.size)
  have IK_24 := hide ((IK_23.out.below b24 (Nat.le_refl _)).mono b24.size)
  clear K_23 SX_23 BX_23 SY_23 PY_23 BY_23 SU_23 SV_23 BU_23 BV_23 LL_23 DA_23 DB_23 LM_23 LN_23 PN_23 LQ_23 PQ_23 IK_23
  have OC := oc.lks (Nat.le_refl _)
  clear b24
  have EA_24 := hide (OC)
  clear oc OC hc
  refine hK.out _ _ (flat _ BX_24.out BY_24.out BU_24.out BV_24.out) (fun hHeld2 => ?_)
  clear hK K hHeld
  have hHeld := hHeld2
  clear hHeld2
  simp only [List.setIfInBounds_toArray, List.set_cons_succ, List.set_cons_zero]
  refine wpAnyH_ready (rs := [48]) (by kernel_rfl) (by simp) ?_
  refine AllReadyH.cons rfl (fun K hK => ?_) AllReadyH.nil
  go_simp
  refine (HV2.out w24 LM_24.out).mono ?_
  rintro e w25 ⟨⟨gd, nd, cd, rfl, hnd, hd1, hd2, od⟩, b25⟩
  have K_25 := hide (K_24.out.trans (b25.mono K_24.out.size))
  have SX_25 := hide ((SX_24.out.below b25 (Nat.le_refl _)).mono b25.size)
  have BX_25 := hide (BX_24.out.next b25)
  have SY_25 := hide ((SY_24.out.below b25 (Nat.le_refl _)).mono b25.size)
  have PY_25 := hide ((PY_24.out.below b25 (Nat.le_refl _)).mono b25.size)
  have BY_25 := hide (BY_24.out.next b25)
  have SU_25 := hide ((SU_24.out.below b25 (Nat.le_refl _)).mono b25.size)
  have SV_25 := hide ((SV_24.out.below b25 (Nat.le_refl _)).mono b25.size)
  have BU_25 := hide (BU_24.out.next b25)
  have BV_25 := hide (BV_24.out.next b25)
  have LL_25 := hide ((LL_24.out.below b25 (Nat.le_refl _)).mono b25.size)
  have DA_25 := hide ((DA_24.out.below b25 (Nat.le_refl _)).mono b25.size)
  have DB_25 := hide ((DB_24.out.below b25 (Nat.le_refl _)).mono b25.size)
  have LM_25 := hide ((LM_24.out.below b25 (Nat.le_refl _)).mono b25.size)
  have LN_25 := hide ((LN_24.out.below b25 (Nat.le_refl _)).mono b25.size)
  have PN_25 := hide ((PN_24.out.below b25 (Nat.le_refl _)).mono b25.size)
  have LQ_25 := hide ((LQ_24.out.below b25 (Nat.le_refl _)).mono b25.size)
  have PQ_25 := hide ((PQ_24.out.below b25 (Nat.le_refl _)).mono b25.size)
  have IK_25 := hide ((IK_24.out.below b25 (Nat.le_refl _)).mono b25.size)
  have EA_25 := hide ((EA_24.out.below b25 (Nat.le_refl _)).mono b25.size)
  clear K_24 SX_24 BX_24 SY_24 PY_24 BY_24 SU_24 SV_24 BU_24 BV_24 LL_24 DA_24 DB_24 LM_24 LN_24 PN_24 LQ_24 PQ_24 IK_24 EA_24
  subst hnd
  clear b25
  have EB_25 := hide (od)
  clear od hd1 hd2 HV1 HV2
  refine hK.out _ _ (flat _ BX_25.out BY_25.out BU_25.out BV_25.out) (fun hHeld2 => ?_)
  clear hK K hHeld
  have hHeld := hHeld2
  clear hHeld2
  simp only [List.setIfInBounds_toArray, List.set_cons_succ, List.set_cons_zero]
  refine wpAnyH_ready (rs := [49]) (by kernel_rfl) (by simp) ?_
  refine AllReadyH.cons rfl (fun K hK => ?_) AllReadyH.nil
  go_simp
  have HQ := hide (HSL.out E (some ⟨gc, 0, none⟩) (some ⟨gd, 0, none⟩) E.length cd w25.heap.size w25.heap.size w25 EA_25.out EB_25.out (Nat.le_refl _) (Nat.le_refl _) hfm)
  refine (HQ.out).mono ?_
  rintro e w26 ⟨rfl, b26⟩
  have K_26 := hide (K_25.out.trans (b26.mono K_25.out.size))
  have SX_26 := hide ((SX_25.out.below b26 (Nat.le_refl _)).mono b26.size)
  have BX_26 := hide (BX_25.out.next b26)
  have SY_26 := hide ((SY_25.out.below b26 (Nat.le_refl _)).mono b26.size)
  have PY_26 := hide ((PY_25.out.below b26 (Nat.le_refl _)).mono b26.size)
  have BY_26 := hide (BY_25.out.next b26)
  have SU_26 := hide ((SU_25.out.below b26 (Nat.le_refl _)).mono b26.size)
  have SV_26 := hide ((SV_25.out.below b26 (Nat.le_refl _)).mono b26.size)
  have BU_26 := hide (BU_25.out.next b26)
  have BV_26 := hide (BV_25.out.next b26)
  have LL_26 := hide ((LL_25.out.below b26 (Nat.le_refl _)).mono b26.size)
  have DA_26 := hide ((DA_25.out.below b26 (Nat.le_refl _)).mono b26.size)
  have DB_26 := hide ((DB_25.out.below b26 (Nat.le_refl _)).mono b26.size)
  have LM_26 := hide ((LM_25.out.below b26 (Nat.le_refl _)).mono b26.size)
  have LN_26 := hide ((LN_25.out.below b26 (Nat.le_refl _)).mono b26.size)
  have PN_26 := hide ((PN_25.out.below b26 (Nat.le_refl _)).mono b26.size)
  have LQ_26 := hide ((LQ_25.out.below b26 (Nat.le_refl _)).mono b26.size)
  have PQ_26 := hide ((PQ_25.out.below b26 (Nat.le_refl _)).mono b26.size)
  have IK_26 := hide ((IK_25.out.below b26 (Nat.le_refl _)).mono b26.size)
  have EA_26 := hide ((EA_25.out.below b26 (Nat.le_refl _)).mono b26.size)
  have EB_26 := hide ((EB_25.out.below b26 (Nat.le_refl _)).mono b26.size)
  clear K_25 SX_25 BX_25 SY_25 PY_25 BY_25 SU_25 SV_25 BU_25 BV_25 LL_25 DA_25 DB_25 LM_25 LN_25 PN_25 LQ_25 PQ_25 IK_25 EA_25 EB_25
  clear b26
  clear HQ
  refine hK.out _ _ (flat _ BX_26.out BY_26.out BU_26.out BV_26.out) (fun hHeld2 => ?_)
  clear hK K hHeld
  have hHeld := hHeld2
  clear hHeld2
  simp only [List.setIfInBounds_toArray, List.set_cons_succ, List.set_cons_zero]
  refine wpAnyH_take (i := 50) (v := .bool true) rfl (by kernel_rfl) (by kernel_rfl) (by kernel_rfl) (fun _ _ _ h => h) (Or.inl ⟨by rfl, ?_⟩) (by assumption) ?_
  · intro w hSw; (try dsimp only at hSw); go_simp
  simp only [Act.put, List.getElem_toArray, List.getElem_cons_succ, List.getElem_cons_zero, List.setIfInBounds_toArray, List.set_cons_succ, List.set_cons_zero]
  refine wpAnyH_take (i := 51) (v := ?_) rfl (by kernel_rfl) (by kernel_rfl) (by kernel_rfl) (fun _ _ _ h => h) (Or.inl ⟨by rfl, ?_⟩) (by assumption) ?_
  rotate_left
  · intro w hSw; (try dsimp only at hSw); go_simp; try with_reducible rfl
  simp only [Act.put, List.getElem_toArray, List.getElem_cons_succ, List.getElem_cons_zero, List.setIfInBounds_toArray, List.set_cons_succ, List.set_cons_zero]
  refine wpAnyH_take (i := 52) (v := ?_) rfl (by kernel_rfl) (by kernel_rfl) (by kernel_rfl) (fun _ _ _ h => h) (Or.inl ⟨by rfl, ?_⟩) (by assumption) ?_
  rotate_left
  · intro w hSw; (try dsimp only at hSw); go_simp; try with_reducible rfl
  simp only [Act.put, List.getElem_toArray, List.getElem_cons_succ, List.getElem_cons_zero, List.setIfInBounds_toArray, List.set_cons_succ, List.set_cons_zero]
  refine wpAnyH_take (i := 53) (v := ?_) rfl (by kernel_rfl) (by kernel_rfl) (by kernel_rfl) (fun _ _ _ h => h) (Or.inl ⟨by rfl, ?_⟩) (by assumption) ?_
  rotate_left
  · intro w hSw; (try dsimp only at hSw); go_simp; try with_reducible rfl
  simp only [Act.put, List.getElem_toArray, List.getElem_cons_succ, List.getElem_cons_zero, List.setIfInBounds_toArray, List.set_cons_succ, List.set_cons_zero]
  refine wpAnyH_take (i := 55) (v := ?_) rfl (by kernel_rfl) (by kernel_rfl) (by kernel_rfl) (fun _ _ _ h => h) (Or.inl ⟨by rfl, ?_⟩) (by assumption) ?_
  rotate_left
  · intro w hSw; (try dsimp only at hSw); go_simp; try with_reducible rfl
  simp only [Act.put, List.getElem_toArray, List.getElem_cons_succ, List.getElem_cons_zero, List.setIfInBounds_toArray, List.set_cons_succ, List.set_cons_zero]
  refine wpAnyH_take (i := 56) (v := ?_) rfl (by kernel_rfl) (by kernel_rfl) (by kernel_rfl) (fun _ _ _ h => h) (Or.inl ⟨by rfl, ?_⟩) (by assumption) ?_
  rotate_left
  · intro w hSw; (try dsimp only at hSw); go_simp; try with_reducible rfl
  simp only [Act.put, List.getElem_toArray, List.getElem_cons_succ, List.getElem_cons_zero, List.setIfInBounds_toArray, List.set_cons_succ, List.set_cons_zero]
  refine wpAnyH_ready (rs := [54]) (by kernel_rfl) (by simp) ?_
  refine AllReadyH.cons rfl (fun K hK => ?_) AllReadyH.nil
  go_simp
  have htl : (tokL n sn).length ≤ 6 := by unfold tokL; rw [List.length_map]; have := List.length_filter_le (fun x => covB x sn) n; omega
  have HT1 := hide (fun W (h : Lks W W.heap.size (some ⟨gn, 0, none⟩) n) (h' : Strs W W.heap.size (some ⟨pn, 0, none⟩) sn) => tokensAt_any (some ⟨gn, 0, none⟩) n cn W.heap.size (some ⟨pn, 0, none⟩) sn kn W.heap.size W h (Nat.le_refl _) h' (Nat.le_refl _) HNK.out.1 HNK.out.2 (by omega))
  have HT2 := hide (fun W (h : Lks W W.heap.size (some ⟨gn, 0, none⟩) n) (h' : Strs W W.heap.size (some ⟨pn, 0, none⟩) sn) => specTokens_any (some ⟨gn, 0, none⟩) n cn W.heap.size (some ⟨pn, 0, none⟩) sn kn W.heap.size W h (Nat.le_refl _) h' (Nat.le_refl _) (by omega) HNK.out.1 HNK.out.2)
  obtain ⟨tk, htk⟩ : ∃ T, tokL n sn = T := ⟨_, rfl⟩
  rw [htk] at HT1 HT2 htl
  clear htk
  refine (HT1.out w26 LN_26.out PN_26.out).mono ?_
  rintro e w27 ⟨⟨r1, rfl, ot1⟩, b27⟩
  have K_27 := hide (K_26.out.trans (b27.mono K_26.out.size))
  have SX_27 := hide ((SX_26.out.below b27 (Nat.le_refl _)).mono b27.size)
  have BX_27 := hide (BX_26.out.next b27)
  have SY_27 := hide ((SY_26.out.below b27 (Nat.le_refl _)).mono b27.size)
  have PY_27 := hide ((PY_26.out.below b27 (Nat.le_refl _)).mono b27.size)
  have BY_27 := hide (BY_26.out.next b27)
  have SU_27 := hide ((SU_26.out.below b27 (Nat.le_refl _)).mono b27.size)
  have SV_27 := hide ((SV_26.out.below b27 (Nat.le_refl _)).mono b27.size)
  have BU_27 := hide (BU_26.out.next b27)
  have BV_27 := hide (BV_26.out.next b27)
  have LL_27 := hide ((LL_26.out.below b27 (Nat.le_refl _)).mono b27.size)
  have DA_27 := hide ((DA_26.out.below b27 (Nat.le_refl _)).mono b27.size)
  have DB_27 := hide ((DB_26.out.below b27 (Nat.le_refl _)).mono b27.size)
  have LM_27 := hide ((LM_26.out.below b27 (Nat.le_refl _)).mono b27.size)
  have LN_27 := hide ((LN_26.out.below b27 (Nat.le_refl _)).mono b27.size)
  have PN_27 := hide ((PN_26.out.below b27 (Nat.le_refl _)).mono b27.size)
  have LQ_27 := hide ((LQ_26.out.below b27 (Nat.le_refl _)).mono b27.size)
  have PQ_27 := hide ((PQ_26.out.below b27 (Nat.le_refl _)).mono b27.size)
  have IK_27 := hide ((IK_26.out.below b27 (Nat.le_refl _)).mono b27.size)
  have EA_27 := hide ((EA_26.out.below b27 (Nat.le_refl _)).mono b27.size)
  have EB_27 := hide ((EB_26.out.below b27 (Nat.le_refl _)).mono b27.size)
  clear K_26 SX_26 BX_26 SY_26 PY_26 BY_26 SU_26 SV_26 BU_26 BV_26 LL_26 DA_26 DB_26 LM_26 LN_26 PN_26 LQ_26 PQ_26 IK_26 EA_26 EB_26
  obtain ⟨at1, ct1, rfl, _, _, _, hi1⟩ := ints_of_view (ot1.vw (Nat.le_refl _))
  clear b27
  have T1_27 := hide (hi1)
  clear ot1 hi1
  refine hK.out _ _ (flat _ BX_27.out BY_27.out BU_27.out BV_27.out) (fun hHeld2 => ?_)
  clear hK K hHeld
  have hHeld := hHeld2
  clear hHeld2
  simp only [List.setIfInBounds_toArray, List.set_cons_succ, List.set_cons_zero]
  refine wpAnyH_ready (rs := [57]) (by kernel_rfl) (by simp) ?_
  refine AllReadyH.cons rfl (fun K hK => ?_) AllReadyH.nil
  go_simp
  refine (HT2.out w27 LN_27.out PN_27.out).mono ?_
  rintro e w28 ⟨⟨r2, rfl, ot2⟩, b28⟩
  have K_28 := hide (K_27.out.trans (b28.mono K_27.out.size))
  have SX_28 := hide ((SX_27.out.below b28 (Nat.le_refl _)).mono b28.size)
  have BX_28 := hide (BX_27.out.next b28)
  have SY_28 := hide ((SY_27.out.below b28 (Nat.le_refl _)).mono b28.size)
  have PY_28 := hide ((PY_27.out.below b28 (Nat.le_refl _)).mono b28.size)
  have BY_28 := hide (BY_27.out.next b28)
  have SU_28 := hide ((SU_27.out.below b28 (Nat.le_refl _)).mono b28.size)
  have SV_28 := hide ((SV_27.out.below b28 (Nat.le_refl _)).mono b28.size)
  have BU_28 := hide (BU_27.out.next b28)
  have BV_28 := hide (BV_27.out.next b28)
  have LL_28 := hide ((LL_27.out.below b28 (Nat.le_refl _)).mono b28.size)
  have DA_28 := hide ((DA_27.out.below b28 (Nat.le_refl _)).mono b28.size)
  have DB_28 := hide ((DB_27.out.below b28 (Nat.le_refl _)).mono b28.size)
  have LM_28 := hide ((LM_27.out.below b28 (Nat.le_refl _)).mono b28.size)
  have LN_28 := hide ((LN_27.out.below b28 (Nat.le_refl _)).mono b28.size)
  have PN_28 := hide ((PN_27.out.below b28 (Nat.le_refl _)).mono b28.size)
  have LQ_28 := hide ((LQ_27.out.below b28 (Nat.le_refl _)).mono b28.size)
  have PQ_28 := hide ((PQ_27.out.below b28 (Nat.le_refl _)).mono b28.size)
  have IK_28 := hide ((IK_27.out.below b28 (Nat.le_refl _)).mono b28.size)
  have EA_28 := hide ((EA_27.out.below b28 (Nat.le_refl _)).mono b28.size)
  have EB_28 := hide ((EB_27.out.below b28 (Nat.le_refl _)).mono b28.size)
  have T1_28 := hide ((T1_27.out.below b28 (Nat.le_refl _)).mono b28.size)
  clear K_27 SX_27 BX_27 SY_27 PY_27 BY_27 SU_27 SV_27 BU_27 BV_27 LL_27 DA_27 DB_27 LM_27 LN_27 PN_27 LQ_27 PQ_27 IK_27 EA_27 EB_27 T1_27
  obtain ⟨at2, ct2, rfl, _, _, _, hi2⟩ := ints_of_view ot2
  clear b28
  have T2_28 := hide (hi2)
  clear ot2 hi2 HT1 HT2
  refine hK.out _ _ (flat _ BX_28.out BY_28.out BU_28.out BV_28.out) (fun hHeld2 => ?_)
  clear hK K hHeld
  have hHeld := hHeld2
  clear hHeld2
  simp only [List.setIfInBounds_toArray, List.set_cons_succ, List.set_cons_zero]
  refine wpAnyH_ready (rs := [58]) (by kernel_rfl) (by simp) ?_
  refine AllReadyH.cons rfl (fun K hK => ?_) AllReadyH.nil
  go_simp
  have HQ := hide (sameInts_any at1 at2 tk tk ct1 ct2 w28.heap.size w28.heap.size w28 T1_28.out T2_28.out (by omega) (by omega))
  refine (HQ.out).mono ?_
  rintro e w29 ⟨⟨zi, rfl, hzi⟩, b29⟩
  have K_29 := hide (K_28.out.trans (b29.mono K_28.out.size))
  have SX_29 := hide ((SX_28.out.below b29 (Nat.le_refl _)).mono b29.size)
  have BX_29 := hide (BX_28.out.next b29)
  have SY_29 := hide ((SY_28.out.below b29 (Nat.le_refl _)).mono b29.size)
  have PY_29 := hide ((PY_28.out.below b29 (Nat.le_refl _)).mono b29.size)
  have BY_29 := hide (BY_28.out.next b29)
  have SU_29 := hide ((SU_28.out.below b29 (Nat.le_refl _)).mono b29.size)
  have SV_29 := hide ((SV_28.out.below b29 (Nat.le_refl _)).mono b29.size)
  have BU_29 := hide (BU_28.out.next b29)
  have BV_29 := hide (BV_28.out.next b29)
  have LL_29 := hide ((LL_28.out.below b29 (Nat.le_refl _)).mono b29.size)
  have DA_29 := hide ((DA_28.out.below b29 (Nat.le_refl _)).mono b29.size)
  have DB_29 := hide ((DB_28.out.below b29 (Nat.le_refl _)).mono b29.size)
  have LM_29 := hide ((LM_28.out.below b29 (Nat.le_refl _)).mono b29.size)
  have LN_29 := hide ((LN_28.out.below b29 (Nat.le_refl _)).mono b29.size)
  have PN_29 := hide ((PN_28.out.below b29 (Nat.le_refl _)).mono b29.size)
  have LQ_29 := hide ((LQ_28.out.below b29 (Nat.le_refl _)).mono b29.size)
  have PQ_29 := hide ((PQ_28.out.below b29 (Nat.le_refl _)).mono b29.size)
  have IK_29 := hide ((IK_28.out.below b29 (Nat.le_refl _)).mono b29.size)
  have EA_29 := hide ((EA_28.out.below b29 (Nat.le_refl _)).mono b29.size)
  have EB_29 := hide ((EB_28.out.below b29 (Nat.le_refl _)).mono b29.size)
  have T1_29 := hide ((T1_28.out.below b29 (Nat.le_refl _)).mono b29.size)
  have T2_29 := hide ((T2_28.out.below b29 (Nat.le_refl _)).mono b29.size)
  clear K_28 SX_28 BX_28 SY_28 PY_28 BY_28 SU_28 SV_28 BU_28 BV_28 LL_28 DA_28 DB_28 LM_28 LN_28 PN_28 LQ_28 PQ_28 IK_28 EA_28 EB_28 T1_28 T2_28
  obtain rfl : zi = true := hzi.2 rfl
  clear hzi
  clear b29
  clear HQ
  refine hK.out _ _ (flat _ BX_29.out BY_29.out BU_29.out BV_29.out) (fun hHeld2 => ?_)
  clear hK K hHeld
  have hHeld := hHeld2
  clear hHeld2
  simp only [List.setIfInBounds_toArray, List.set_cons_succ, List.set_cons_zero]
  refine wpAnyH_take (i := 59) (v := .bool true) rfl (by kernel_rfl) (by kernel_rfl) (by kernel_rfl) (fun _ _ _ h => h) (Or.inl ⟨by rfl, ?_⟩) (by assumption) ?_
  · intro w hSw; (try dsimp only at hSw); go_simp
  simp only [Act.put, List.getElem_toArray, List.getElem_cons_succ, List.getElem_cons_zero, List.setIfInBounds_toArray, List.set_cons_succ, List.set_cons_zero]
  refine wpAnyH_take (i := 60) (v := ?_) rfl (by kernel_rfl) (by kernel_rfl) (by kernel_rfl) (fun _ _ _ h => h) (Or.inl ⟨by rfl, ?_⟩) (by assumption) ?_
  rotate_left
  · intro w hSw; (try dsimp only at hSw); go_simp; try with_reducible rfl
  simp only [Act.put, List.getElem_toArray, List.getElem_cons_succ, List.getElem_cons_zero, List.setIfInBounds_toArray, List.set_cons_succ, List.set_cons_zero]
  refine wpAnyH_take (i := 61) (v := ?_) rfl (by kernel_rfl) (by kernel_rfl) (by kernel_rfl) (fun _ _ _ h => h) (Or.inl ⟨by rfl, ?_⟩) (by assumption) ?_
  rotate_left
  · intro w hSw; (try dsimp only at hSw); go_simp; try with_reducible rfl
  simp only [Act.put, List.getElem_toArray, List.getElem_cons_succ, List.getElem_cons_zero, List.setIfInBounds_toArray, List.set_cons_succ, List.set_cons_zero]
  refine wpAnyH_take (i := 62) (v := ?_) rfl (by kernel_rfl) (by kernel_rfl) (by kernel_rfl) (fun _ _ _ h => h) (Or.inl ⟨by rfl, ?_⟩) (by assumption) ?_
  rotate_left
  · intro w hSw; (try dsimp only at hSw); go_simp; try with_reducible rfl
  simp only [Act.put, List.getElem_toArray, List.getElem_cons_succ, List.getElem_cons_zero, List.setIfInBounds_toArray, List.set_cons_succ, List.set_cons_zero]
  refine wpAnyH_take (i := 63) (v := ?_) rfl (by kernel_rfl) (by kernel_rfl) (by kernel_rfl) (fun _ _ _ h => h) (Or.inl ⟨by rfl, ?_⟩) (by assumption) ?_
  rotate_left
  · intro w hSw; (try dsimp only at hSw); go_simp; try with_reducible rfl
  simp only [Act.put, List.getElem_toArray, List.getElem_cons_succ, List.getElem_cons_zero, List.setIfInBounds_toArray, List.set_cons_succ, List.set_cons_zero]
  refine wpAnyH_take (i := 64) (v := ?_) rfl (by kernel_rfl) (by kernel_rfl) (by kernel_rfl) (fun _ _ _ h => h) (Or.inl ⟨by rfl, ?_⟩) (by assumption) ?_
  rotate_left
  · intro w hSw; (try dsimp only at hSw); go_simp; try with_reducible rfl
  simp only [Act.put, List.getElem_toArray, List.getElem_cons_succ, List.getElem_cons_zero, List.setIfInBounds_toArray, List.set_cons_succ, List.set_cons_zero]
  refine wpAnyH_take (i := 66) (v := ?_) rfl (by kernel_rfl) (by kernel_rfl) (by kernel_rfl) (fun _ _ _ h => h) (Or.inl ⟨by rfl, ?_⟩) (by assumption) ?_
  rotate_left
  · intro w hSw; (try dsimp only at hSw); go_simp; try with_reducible rfl
  simp only [Act.put, List.getElem_toArray, List.getElem_cons_succ, List.getElem_cons_zero, List.setIfInBounds_toArray, List.set_cons_succ, List.set_cons_zero]
  refine wpAnyH_take (i := 67) (v := ?_) rfl (by kernel_rfl) (by kernel_rfl) (by kernel_rfl) (fun _ _ _ h => h) (Or.inl ⟨by rfl, ?_⟩) (by assumption) ?_
  rotate_left
  · intro w hSw; (try dsimp only at hSw); go_simp; try with_reducible rfl
  simp only [Act.put, List.getElem_toArray, List.getElem_cons_succ, List.getElem_cons_zero, List.setIfInBounds_toArray, List.set_cons_succ, List.set_cons_zero]
  refine wpAnyH_take (i := 68) (v := ?_) rfl (by kernel_rfl) (by kernel_rfl) (by kernel_rfl) (fun _ _ _ h => h) (Or.inl ⟨by rfl, ?_⟩) (by assumption) ?_
  rotate_left
  · intro w hSw; (try dsimp only at hSw); go_simp; try with_reducible rfl
  simp only [Act.put, List.getElem_toArray, List.getElem_cons_succ, List.getElem_cons_zero, List.setIfInBounds_toArray, List.set_cons_succ, List.set_cons_zero]
  refine wpAnyH_take (i := 69) (v := ?_) rfl (by kernel_rfl) (by kernel_rfl) (by kernel_rfl) (fun _ _ _ h => h) (Or.inl ⟨by rfl, ?_⟩) (by assumption) ?_
  rotate_left
  · intro w hSw; (try dsimp only at hSw); go_simp; try with_reducible rfl
  simp only [Act.put, List.getElem_toArray, List.getElem_cons_succ, List.getElem_cons_zero, List.setIfInBounds_toArray, List.set_cons_succ, List.set_cons_zero]
  refine wpAnyH_ready (rs := [65]) (by kernel_rfl) (by simp) ?_
  refine AllReadyH.cons rfl (fun K hK => ?_) AllReadyH.nil
  go_simp
  have HQ := hide (mayTurn_any (some ⟨gq, 0, none⟩) q cq w29.heap.size (some ⟨pq, 0, none⟩) sq kq w29.heap.size dp (some ⟨gk, 0, none⟩) ks ck w29.heap.size w29 LQ_29.out (Nat.le_refl _) PQ_29.out (Nat.le_refl _) IK_29.out (Nat.le_refl _) HQK.out.1 HQK.out.2 (by omega) (by omega))
  rw [HZ5.out] at HQ
  refine (HQ.out).mono ?_
  rintro e w30 ⟨rfl, b30⟩
  have K_30 := hide (K_29.out.trans (b30.mono K_29.out.size))
  have SX_30 := hide ((SX_29.out.below b30 (Nat.le_refl _)).mono b30.size)
  have BX_30 := hide (BX_29.out.next b30)
  have SY_30 := hide ((SY_29.out.below b30 (Nat.le_refl _)).mono b30.size)
  have PY_30 := hide ((PY_29.out.below b30 (Nat.le_refl _)).mono b30.size)
  have BY_30 := hide (BY_29.out.next b30)
  have SU_30 := hide ((SU_29.out.below b30 (Nat.le_refl _)).mono b30.size)
  have SV_30 := hide ((SV_29.out.below b30 (Nat.le_refl _)).mono b30.size)
  have BU_30 := hide (BU_29.out.next b30)
  have BV_30 := hide (BV_29.out.next b30)
  have LL_30 := hide ((LL_29.out.below b30 (Nat.le_refl _)).mono b30.size)
  have DA_30 := hide ((DA_29.out.below b30 (Nat.le_refl _)).mono b30.size)
  have DB_30 := hide ((DB_29.out.below b30 (Nat.le_refl _)).mono b30.size)
  have LM_30 := hide ((LM_29.out.below b30 (Nat.le_refl _)).mono b30.size)
  have LN_30 := hide ((LN_29.out.below b30 (Nat.le_refl _)).mono b30.size)
  have PN_30 := hide ((PN_29.out.below b30 (Nat.le_refl _)).mono b30.size)
  have LQ_30 := hide ((LQ_29.out.below b30 (Nat.le_refl _)).mono b30.size)
  have PQ_30 := hide ((PQ_29.out.below b30 (Nat.le_refl _)).mono b30.size)
  have IK_30 := hide ((IK_29.out.below b30 (Nat.le_refl _)).mono b30.size)
  have EA_30 := hide ((EA_29.out.below b30 (Nat.le_refl _)).mono b30.size)
  have EB_30 := hide ((EB_29.out.below b30 (Nat.le_refl _)).mono b30.size)
  have T1_30 := hide ((T1_29.out.below b30 (Nat.le_refl _)).mono b30.size)
  have T2_30 := hide ((T2_29.out.below b30 (Nat.le_refl _)).mono b30.size)
  clear K_29 SX_29 BX_29 SY_29 PY_29 BY_29 SU_29 SV_29 BU_29 BV_29 LL_29 DA_29 DB_29 LM_29 LN_29 PN_29 LQ_29 PQ_29 IK_29 EA_29 EB_29 T1_29 T2_29
  clear b30
  clear HQ
  refine hK.out _ _ (flat _ BX_30.out BY_30.out BU_30.out BV_30.out) (fun hHeld2 => ?_)
  clear hK K hHeld
  have hHeld := hHeld2
  clear hHeld2
  simp only [List.setIfInBounds_toArray, List.set_cons_succ, List.set_cons_zero]
  refine wpAnyH_ready (rs := [70]) (by kernel_rfl) (by simp) ?_
  refine AllReadyH.cons rfl (fun K hK => ?_) AllReadyH.nil
  go_simp
  have HQ := hide (specMay_any (some ⟨gq, 0, none⟩) q cq w30.heap.size (some ⟨pq, 0, none⟩) sq kq w30.heap.size dp (some ⟨gk, 0, none⟩) ks ck w30.heap.size w30 LQ_30.out (Nat.le_refl _) PQ_30.out (Nat.le_refl _) IK_30.out (Nat.le_refl _) (by omega) HQK.out.1 HQK.out.2 (by omega))
  rw [HZ5.out] at HQ
  refine (HQ.out).mono ?_
  rintro e w31 ⟨rfl, b31⟩
  have K_31 := hide (K_30.out.trans (b31.mono K_30.out.size))
  have SX_31 := hide ((SX_30.out.below b31 (Nat.le_refl _)).mono b31.size)
  have BX_31 := hide (BX_30.out.next b31)
  have SY_31 := hide ((SY_30.out.below b31 (Nat.le_refl _)).mono b31.size)
  have PY_31 := hide ((PY_30.out.below b31 (Nat.le_refl _)).mono b31.size)
  have BY_31 := hide (BY_30.out.next b31)
  have SU_31 := hide ((SU_30.out.below b31 (Nat.le_refl _)).mono b31.size)
  have SV_31 := hide ((SV_30.out.below b31 (Nat.le_refl _)).mono b31.size)
  have BU_31 := hide (BU_30.out.next b31)
  have BV_31 := hide (BV_30.out.next b31)
  have LL_31 := hide ((LL_30.out.below b31 (Nat.le_refl _)).mono b31.size)
  have DA_31 := hide ((DA_30.out.below b31 (Nat.le_refl _)).mono b31.size)
  have DB_31 := hide ((DB_30.out.below b31 (Nat.le_refl _)).mono b31.size)
  have LM_31 := hide ((LM_30.out.below b31 (Nat.le_refl _)).mono b31.size)
  have LN_31 := hide ((LN_30.out.below b31 (Nat.le_refl _)).mono b31.size)
  have PN_31 := hide ((PN_30.out.below b31 (Nat.le_refl _)).mono b31.size)
  have LQ_31 := hide ((LQ_30.out.below b31 (Nat.le_refl _)).mono b31.size)
  have PQ_31 := hide ((PQ_30.out.below b31 (Nat.le_refl _)).mono b31.size)
  have IK_31 := hide ((IK_30.out.below b31 (Nat.le_refl _)).mono b31.size)
  have EA_31 := hide ((EA_30.out.below b31 (Nat.le_refl _)).mono b31.size)
  have EB_31 := hide ((EB_30.out.below b31 (Nat.le_refl _)).mono b31.size)
  have T1_31 := hide ((T1_30.out.below b31 (Nat.le_refl _)).mono b31.size)
  have T2_31 := hide ((T2_30.out.below b31 (Nat.le_refl _)).mono b31.size)
  clear K_30 SX_30 BX_30 SY_30 PY_30 BY_30 SU_30 SV_30 BU_30 BV_30 LL_30 DA_30 DB_30 LM_30 LN_30 PN_30 LQ_30 PQ_30 IK_30 EA_30 EB_30 T1_30 T2_30
  clear b31
  clear HQ
  refine hK.out _ _ (flat _ BX_31.out BY_31.out BU_31.out BV_31.out) (fun hHeld2 => ?_)
  clear hK K hHeld
  have hHeld := hHeld2
  clear hHeld2
  simp only [List.setIfInBounds_toArray, List.set_cons_succ, List.set_cons_zero]
  refine wpAnyH_take (i := 71) (v := .bool true) rfl (by kernel_rfl) (by kernel_rfl) (by kernel_rfl) (fun _ _ _ h => h) (Or.inl ⟨by rfl, ?_⟩) (by assumption) ?_
  · intro w hSw; (try dsimp only at hSw); go_simp
  simp only [Act.put, List.getElem_toArray, List.getElem_cons_succ, List.getElem_cons_zero, List.setIfInBounds_toArray, List.set_cons_succ, List.set_cons_zero]
  refine wpAnyH_take (i := 72) (v := .bool true) rfl (by kernel_rfl) (by kernel_rfl) (by kernel_rfl) (fun _ _ _ h => h) (Or.inl ⟨by rfl, ?_⟩) (by assumption) ?_
  · intro w hSw; (try dsimp only at hSw); go_simp
  simp only [Act.put, List.getElem_toArray, List.getElem_cons_succ, List.getElem_cons_zero, List.setIfInBounds_toArray, List.set_cons_succ, List.set_cons_zero]
  refine wpAnyH_take (i := 73) (v := ?_) rfl (by kernel_rfl) (by kernel_rfl) (by kernel_rfl) (fun _ _ _ h => h) (Or.inl ⟨by rfl, ?_⟩) (by assumption) ?_
  rotate_left
  · intro w hSw; (try dsimp only at hSw); go_simp; try with_reducible rfl
  simp only [Act.put, List.getElem_toArray, List.getElem_cons_succ, List.getElem_cons_zero, List.setIfInBounds_toArray, List.set_cons_succ, List.set_cons_zero]
  refine wpAnyH_done (by kernel_rfl) ?_ _
  clear hHeld
  go_wp2
  go_ret
  exact ⟨by simp, K_31.out⟩
end Go.Proofs.Ytclnpfpaabmkcab
