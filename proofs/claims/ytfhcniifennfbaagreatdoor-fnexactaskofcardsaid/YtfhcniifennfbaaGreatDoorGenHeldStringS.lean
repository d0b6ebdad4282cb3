/-
  A help of the laws, by program (tools/gen_help.py): Eq1 of Req.
  What the laws' own markText does.
  A help of the laws, by program (tools/gen_help.py): Mark of String.
  A help of the laws, by program (tools/gen_help.py): Mark of Prop.
  A help of the laws, by program (tools/gen_help.py): Mark of Res.
  A help of the laws, by program (tools/gen_help.py): Mark of Lock.
  A help of the laws, by program (tools/gen_help.py): Mark of Int.
  A help of the laws, by program (tools/gen_help.py): Mk1 of Srv.
  A help of the laws, by program (tools/gen_help.py): Mark of Head.
  A help of the laws, by program (tools/gen_help.py): Mk1 of Req.
  A help of the laws, by program (tools/gen_help.py): Mk1 of Ask.
  A help of the laws, by program (tools/gen_help.py): Held of String.
-/
import Derived.Test.YtfhcniifennfbaaGreatDoorRows
import Derived.Test.YtfhcniifennfbaaGreatDoorMathMark2
import Derived.Test.YtfhcniifennfbaaGreatDoorUnq
import Derived.Test.YtfhcniifennfbaaGreatDoorGenEqqHeadS
import Derived.WalkKit
import Derived.WalkSpells
import Derived.WalkLawsBesides
import Derived.Deep.Light
import Derived.Deep.QuietTactic
import Derived.Deep.RegionHeld3
import Derived.Test.YtfhcniifennfbaaGreatDoorMathLock
import Derived.Test.YtfhcniifennfbaaGreatDoorTurn
import Derived.Laws.IdiomStrings
import Derived.Laws.BytesArg
import Derived.Test.YtfhcniifennfbaaGreatDoorSvIn
import Derived.Test.YtfhcniifennfbaaGreatDoorGenLock
import Derived.Test.YtfhcniifennfbaaGreatDoorGenAsk
namespace Go.Proofs.YtfhcniifennfbaaGreatDoor
open Go.RowKit M
set_option linter.unusedVariables false

set_option maxRecDepth 100000 in
set_option maxHeartbeats 4000000 in
theorem eqReq_gen (x : Rq) (u2 t2 : Value) (B C : Nat) (w : World) (h2 : View w B u2 (.l (x.hs.map dHd))) (j2 : View w C t2 (.l (x.hs.map dHd))) (hB : B ≤ w.heap.size) (hC : C ≤ w.heap.size) :
    Calls Tryz.prog 12 #[.agg #[.string x.m, .string x.p, u2, .string x.b], .agg #[.string x.m, .string x.p, t2, .string x.b]] w fun e w' => e = .returned (.bool true) ∧ Below w.heap.size w w' := by
  have K0 := hide (show Below w.heap.size w ((w.alloc (Obj.cells #[.string x.m, .string x.p, u2, .string x.b] 43)).alloc (Obj.cells #[.string x.m, .string x.p, t2, .string x.b] 43)) from ((Below.refl _ _).alloc (Nat.le_refl _) _).alloc (by simp) _)
  have X0 := hide (show BoxV ((w.alloc (Obj.cells #[.string x.m, .string x.p, u2, .string x.b] 43)).alloc (Obj.cells #[.string x.m, .string x.p, t2, .string x.b] 43)) w.heap.size [.string x.m, .string x.p, u2, .string x.b] from (BoxV.made w [.string x.m, .string x.p, u2, .string x.b] 43).alloc _)
  have Y0 := hide (show BoxV ((w.alloc (Obj.cells #[.string x.m, .string x.p, u2, .string x.b] 43)).alloc (Obj.cells #[.string x.m, .string x.p, t2, .string x.b] 43)) (w.heap.size + 1) [.string x.m, .string x.p, t2, .string x.b] by have h := BoxV.made (w.alloc (Obj.cells #[.string x.m, .string x.p, u2, .string x.b] 43)) [.string x.m, .string x.p, t2, .string x.b] 43; simpa using h)
  go_enter Tryz.func12, Tryz.ntmps12
  have HQ := hide (eqHeadS_gen (x.hs) u2 t2 B C _ (h2.stays K0.out hB) (j2.stays K0.out hC) (Nat.le_trans hB K0.out.size) (Nat.le_trans hC K0.out.size))
  go_wp2_with fail
  refine HQ.out.mono ?_
  rintro e w1 ⟨rfl, b1⟩
  have K1 := hide (K0.out.trans (b1.mono K0.out.size))
  have X1 := hide (X0.out.next b1)
  have Y1 := hide (Y0.out.next b1)
  clear HQ b1 K0 X0 Y0
  have c3 := (X1.out.2 3 _ rfl).1
  have d3 := (Y1.out.2 3 _ rfl).1
  go_wp2
  go_ret
  exact ⟨rfl, K1.out⟩
end Go.Proofs.YtfhcniifennfbaaGreatDoor
namespace Go.Proofs.YtfhcniifennfbaaGreatDoor
open Go.RowKit M
set_option linter.unusedVariables false

theorem digit_nat (m : Nat) : ((dg m).toNat : Int) = 48 + (m : Int) % 10 := by
  unfold dg
  rw [UInt8.toNat_ofNat']
  omega

theorem conv_mark (w : World) (c : UInt8) : (convert 124 9 (.slice (some ⟨w.heap.size, 0, none⟩) 1 1)).run Tryz.prog (w.alloc (.cells #[.int .u8 c.toNat] 5)) = .ok (.string (bytesOf [c])) (w.alloc (.cells #[.int .u8 c.toNat] 5)) := by
  refine run_convert_bytes_back _ 124 9 5 _ 1 [c] Tryz.underlying124 Tryz.underlying5 Tryz.underlying9 ?_
  intro j hj
  have hj0 : j = 0 := by simp at hj; exact hj
  subst hj0
  simp [Addr.add]

set_option maxRecDepth 100000 in
set_option maxHeartbeats 1000000 in
theorem markText_any (k : Nat) (h1 : 1 ≤ k) (h2 : k ≤ 100000000) (w : World) :
    Calls Tryz.prog 75 #[.int .i64 k] w fun e w' => e = .returned (.string (mt k)) ∧ Below w.heap.size w w' := by
  have hk0 : ¬ k = 0 := by omega
  go_enter Tryz.func75, Tryz.ntmps75
  go_wp2
  go_loopw [0, 3] (fun kv ov wr => ∃ (m : Nat) (acc : List UInt8), kv = .int .i64 m ∧ ov = .string (bytesOf acc) ∧ mtL k = mtL m ++ acc ∧ acc.length + m ≤ k ∧ Below w.heap.size w wr) (fun kv _ _ => (intOf kv).toNat)
  case atStart => exact ⟨k, [], rfl, rfl, by simp, by simp, Below.refl _ _⟩
  case round =>
    obtain ⟨m, acc, rfl, rfl, hm, hle, hbe⟩ := hrel
    have HM : Hid (mtL k = mtL m ++ acc) := hm
    clear hm
    have hz : (bytesOf acc).size ≤ 100000000 := by rw [bytesOf_size]; omega
    by_cases h0 : 0 < m
    · have HS : Hid (mtL m = mtL (m / 10) ++ [dg m]) := mtL_step m h0
      have hcv := conv_mark wr (dg m)
      rw [digit_nat] at hcv
      have h0' : (0 : Int) < m := by omega
      have hz1 : (bytesOf [dg m]).size = 1 := by rw [bytesOf_size]; rfl
      have HD : Hid ((m : Int) / 10 = ((m / 10 : Nat) : Int)) := by show (m : Int) / 10 = ((m / 10 : Nat) : Int); omega
      have hd10 : m / 10 < m := by omega
      go_wp2
      go_roundw
      case rel => exact ⟨m / 10, [dg m] ++ acc, by rw [HD.out], by rw [← bytesOf_append], by rw [HM.out, HS.out, List.append_assoc], by simp; omega, hbe.alloc hbe.size _⟩
      case measure => simp [intOf]; omega
    · have hm0 : m = 0 := by omega
      subst hm0
      have HM2 : Hid (mtL k = acc) := by show mtL k = acc; rw [HM.out, mtL_zero]; rfl
      go_wp2
      go_ret
      refine ⟨?_, hbe⟩
      unfold mt
      rw [HM2.out]
      show Ending.returned (.string (bytesOf [109] ++ bytesOf acc)) = _
      rw [bytesOf_append]; rfl
end Go.Proofs.YtfhcniifennfbaaGreatDoor
namespace Go.Proofs.YtfhcniifennfbaaGreatDoor
open Go.RowKit M
set_option linter.unusedVariables false

set_option maxRecDepth 100000 in
set_option maxHeartbeats 4000000 in
theorem markStringS_gen (l : List ByteArray) (k0 : Nat) (v : Value) (S : Nat → Prop) (w : World) (h : Own w v (.l (l.map dS)) S) (hk1 : 1 ≤ k0) (hk : k0 + cntRs (l.map dS) ≤ 90000000) :
    Calls Tryz.prog 41 #[v, .int .i64 k0] w fun e w' => e = .returned (.int .i64 ((k0 + cntRs (l.map dS) : Nat) : Int)) ∧ Own w' v (mkF k0 (.l (l.map dS))) S ∧ Turn S w w' := by
  obtain ⟨a, cap, rfl, hl, hm, hst⟩ := h.rows 1 (fun _ => rfl)
  have HST := hide (hst.mid0 (k0 := k0))
  have HLM := hide (And.intro hl hm)
  have HKB := hide hk
  have hn : l.length ≤ 90000000 := by have := cnt_lenF dS (fun x => by simp [dS, cntR, cntF]; try omega) l; omega
  have hka := kAtF_all dS k0 l
  have HKA := hide hka
  have hk00 := kAtF_zero dS k0 l
  clear h hst hl hm hk hka
  go_enter Tryz.func41, Tryz.ntmps41
  go_wp2
  go_loopw [1, 5] (fun kv i wr => ∃ j K : Nat, j ≤ l.length ∧ i = .int .i64 j ∧ kv = .int .i64 K ∧ Hid (K = kAtF dS k0 l j) ∧ Hid (OwnSt wr a l.length cap 1 (midF dS k0 l j) S) ∧ Turn S w wr) (fun _ i _ => l.length - (intOf i).toNat)
  case atStart => exact ⟨0, k0, Nat.zero_le _, rfl, rfl, hk00.symm, HST, Turn.refl _ _⟩
  case round =>
    obtain ⟨j, K, hj, rfl, rfl, hK, hR, ht⟩ := hrel
    by_cases hlt : j < l.length
    · obtain ⟨b, o, C, Sf, rfl, hG⟩ := hR.out.at (by omega)
      have hG := hG.start hlt
      have hN := kAtF_next dS k0 l j hlt
      have hle := (kAtF_le dS k0 l (j + 1)).2
      have hle0 := (kAtF_le dS k0 l j).1
      obtain ⟨x, hx⟩ : ∃ x, l[j] = x := ⟨_, rfl⟩
      rw [hx] at hG hN
      rw [hN] at hle
      rw [← hK.out] at hN hle hle0
      have HX := hide hx
      clear hx
      have hsum : cntR (dS x) = 1 := by simp [dS, cntR, cntF]
      rw [hsum] at hN hle
      have hle2 := Nat.le_trans hle HKB.out
      have HNX := hide hN
      have hK1 : 1 ≤ K := Nat.le_trans hk1 hle0
      clear hle hle0 hsum hN
      obtain ⟨c0, z0⟩ := hG.hc j 0 hlt (by decide)
      simp only [Nat.mul_one, Nat.add_zero] at c0 z0
      have HQ0 := hide (show ∀ W, _ from fun W => markText_any (K) (by omega) (by omega) W)
      have hGk := hide hG
      have htk := hide ht
      clear hG ht
      go_wp2_with fail
      refine (HQ0.out _).mono ?_
      rintro e w1 ⟨rfl, b1⟩
      have hGw1 := hGk.out.below b1
      have tw1 := htk.out.trans (Turn.of_below b1)
      clear hGk htk HQ0 b1 c0 z0
      obtain ⟨c0, z0⟩ := hGw1.hc j 0 hlt (by decide)
      simp only [Nat.mul_one, Nat.add_zero] at c0 z0
      obtain ⟨C1, hG1, e1⟩ := hGw1.set hlt (i := 0) (by decide) (.string (mt (K)))
      simp only [Nat.mul_one, Nat.add_zero] at hG1
      have t1 := tw1.trans (Turn.set (S := S) w1 ⟨b, o + j, none⟩ (.string (mt (K))) hG1.hS)
      clear hGw1 tw1
      have HG := hide hG1
      have HT := hide t1
      clear hG1 t1
      go_wp2
      go_roundw
      case rel =>
        refine ⟨j + 1, K + 1, by omega, by go_num, by first | go_num | (congr 1; omega), ?_, .inr ⟨b, o, _, _, rfl, RowG.close HG.out hlt ?_⟩, HT.out⟩
        · have := HNX.out; show _ = _; omega
        · rw [HX.out, ← hK.out]
          simp [dS, mkR, mkF, mkV]
      case measure => simp [intOf]; omega
    · have hjn : j = l.length := by omega
      subst hjn
      have hKK := hK.out
      rw [HKA.out] at hKK
      subst hKK
      go_wp2
      go_ret
      exact ⟨rfl, hR.out.marked HLM.out.1 HLM.out.2, ht⟩
end Go.Proofs.YtfhcniifennfbaaGreatDoor
namespace Go.Proofs.YtfhcniifennfbaaGreatDoor
open Go.RowKit M
set_option linter.unusedVariables false

set_option maxRecDepth 100000 in
set_option maxHeartbeats 4000000 in
theorem markPropS_gen (l : List Pp) (k0 : Nat) (v : Value) (S : Nat → Prop) (w : World) (h : Own w v (.l (l.map dPp)) S) (hk1 : 1 ≤ k0) (hk : k0 + cntRs (l.map dPp) ≤ 90000000) :
    Calls Tryz.prog 76 #[v, .int .i64 k0] w fun e w' => e = .returned (.int .i64 ((k0 + cntRs (l.map dPp) : Nat) : Int)) ∧ Own w' v (mkF k0 (.l (l.map dPp))) S ∧ Turn S w w' := by
  obtain ⟨a, cap, rfl, hl, hm, hst⟩ := h.rows 3 (fun _ => rfl)
  have HST := hide (hst.mid0 (k0 := k0))
  have HLM := hide (And.intro hl hm)
  have HKB := hide hk
  have hn : l.length ≤ 90000000 := by have := cnt_lenF dPp (fun x => by simp [dPp, cntR, cntF]; try omega) l; omega
  have hka := kAtF_all dPp k0 l
  have HKA := hide hka
  have hk00 := kAtF_zero dPp k0 l
  clear h hst hl hm hk hka
  go_enter Tryz.func76, Tryz.ntmps76
  go_wp2
  go_loopw [1, 5] (fun kv i wr => ∃ j K : Nat, j ≤ l.length ∧ i = .int .i64 j ∧ kv = .int .i64 K ∧ Hid (K = kAtF dPp k0 l j) ∧ Hid (OwnSt wr a l.length cap 3 (midF dPp k0 l j) S) ∧ Turn S w wr) (fun _ i _ => l.length - (intOf i).toNat)
  case atStart => exact ⟨0, k0, Nat.zero_le _, rfl, rfl, hk00.symm, HST, Turn.refl _ _⟩
  case round =>
    obtain ⟨j, K, hj, rfl, rfl, hK, hR, ht⟩ := hrel
    by_cases hlt : j < l.length
    · obtain ⟨b, o, C, Sf, rfl, hG⟩ := hR.out.at (by omega)
      have hG := hG.start hlt
      have hN := kAtF_next dPp k0 l j hlt
      have hle := (kAtF_le dPp k0 l (j + 1)).2
      have hle0 := (kAtF_le dPp k0 l j).1
      obtain ⟨x, hx⟩ : ∃ x, l[j] = x := ⟨_, rfl⟩
      rw [hx] at hG hN
      rw [hN] at hle
      rw [← hK.out] at hN hle hle0
      have HX := hide hx
      clear hx
      have hsum : cntR (dPp x) = 1 + 1 + 1 := by simp [dPp, cntR, cntF]
      rw [hsum] at hN hle
      have hle2 := Nat.le_trans hle HKB.out
      have HNX := hide hN
      have hK1 : 1 ≤ K := Nat.le_trans hk1 hle0
      clear hle hle0 hsum hN
      obtain ⟨c0, z0⟩ := hG.hc j 0 hlt (by decide)
      simp only [Nat.add_zero] at c0 z0
      have HQ0 := hide (show ∀ W, _ from fun W => markText_any (K) (by omega) (by omega) W)
      have hGk := hide hG
      have htk := hide ht
      clear hG ht
      go_wp2_with fail
      refine (HQ0.out _).mono ?_
      rintro e w1 ⟨rfl, b1⟩
      have hGw1 := hGk.out.below b1
      have tw1 := htk.out.trans (Turn.of_below b1)
      clear hGk htk HQ0 b1 c0 z0
      obtain ⟨c0, z0⟩ := hGw1.hc j 0 hlt (by decide)
      simp only [Nat.add_zero] at c0 z0
      obtain ⟨c1, z1⟩ := hGw1.hc j 1 hlt (by decide)
      obtain ⟨C1, hG1, e1⟩ := hGw1.set hlt (i := 0) (by decide) (.string (mt (K)))
      have t1 := tw1.trans (Turn.set (S := S) w1 ⟨b, o + j * 3 + 0, none⟩ (.string (mt (K))) hG1.hS)
      clear hGw1 tw1
      have HQ1 := hide (show ∀ W, _ from fun W => markText_any (K + 1) (by omega) (by omega) W)
      rw [show ((K + 1 : Nat) : Int) = (K : Int) + 1 from by omega] at HQ1
      have hGk := hide hG1
      have htk := hide t1
      clear hG1 t1
      go_wp2_with fail
      refine (HQ1.out _).mono ?_
      rintro e w2 ⟨rfl, b2⟩
      have hGw2 := hGk.out.below b2
      have tw2 := htk.out.trans (Turn.of_below b2)
      clear hGk htk HQ1 b2 c0 z0 c1 z1
      obtain ⟨c1, z1⟩ := hGw2.hc j 1 hlt (by decide)
      obtain ⟨c2, z2⟩ := hGw2.hc j 2 hlt (by decide)
      obtain ⟨C2, hG2, e2⟩ := hGw2.set hlt (i := 1) (by decide) (.string (mt (K + 1)))
      have t2 := tw2.trans (Turn.set (S := S) w2 ⟨b, o + j * 3 + 1, none⟩ (.string (mt (K + 1))) hG2.hS)
      clear hGw2 tw2
      have HQ2 := hide (show ∀ W, _ from fun W => markText_any (K + 2) (by omega) (by omega) W)
      rw [show ((K + 2 : Nat) : Int) = (K : Int) + 1 + 1 from by omega] at HQ2
      have hGk := hide hG2
      have htk := hide t2
      clear hG2 t2
      go_wp2_with fail
      refine (HQ2.out _).mono ?_
      rintro e w3 ⟨rfl, b3⟩
      have hGw3 := hGk.out.below b3
      have tw3 := htk.out.trans (Turn.of_below b3)
      clear hGk htk HQ2 b3 c1 z1 c2 z2
      obtain ⟨c2, z2⟩ := hGw3.hc j 2 hlt (by decide)
      obtain ⟨C3, hG3, e3⟩ := hGw3.set hlt (i := 2) (by decide) (.string (mt (K + 2)))
      have t3 := tw3.trans (Turn.set (S := S) w3 ⟨b, o + j * 3 + 2, none⟩ (.string (mt (K + 2))) hG3.hS)
      clear hGw3 tw3
      have HG := hide hG3
      have HT := hide t3
      clear hG3 t3
      go_wp2
      go_roundw
      case rel =>
        refine ⟨j + 1, K + 3, by omega, by go_num, by first | go_num | (congr 1; omega), ?_, .inr ⟨b, o, _, _, rfl, RowG.close HG.out hlt ?_⟩, HT.out⟩
        · have := HNX.out; show _ = _; omega
        · rw [HX.out, ← hK.out]
          simp [dPp, mkR, mkF, mkV, cntF]
          try omega
      case measure => simp [intOf]; omega
    · have hjn : j = l.length := by omega
      subst hjn
      have hKK := hK.out
      rw [HKA.out] at hKK
      subst hKK
      go_wp2
      go_ret
      exact ⟨rfl, hR.out.marked HLM.out.1 HLM.out.2, ht⟩
end Go.Proofs.YtfhcniifennfbaaGreatDoor
namespace Go.Proofs.YtfhcniifennfbaaGreatDoor
open Go.RowKit M
set_option linter.unusedVariables false

set_option maxRecDepth 100000 in
set_option maxHeartbeats 4000000 in
theorem markResS_gen (l : List Rs) (k0 : Nat) (v : Value) (S : Nat → Prop) (w : World) (h : Own w v (.l (l.map dRs)) S) (hk1 : 1 ≤ k0) (hk : k0 + cntRs (l.map dRs) ≤ 90000000) :
    Calls Tryz.prog 37 #[v, .int .i64 k0] w fun e w' => e = .returned (.int .i64 ((k0 + cntRs (l.map dRs) : Nat) : Int)) ∧ Own w' v (mkF k0 (.l (l.map dRs))) S ∧ Turn S w w' := by
  obtain ⟨a, cap, rfl, hl, hm, hst⟩ := h.rows 5 (fun _ => rfl)
  have HST := hide (hst.mid0 (k0 := k0))
  have HLM := hide (And.intro hl hm)
  have HKB := hide hk
  have hn : l.length ≤ 90000000 := by have := cnt_lenF dRs (fun x => by simp [dRs, cntR, cntF]; try omega) l; omega
  have hka := kAtF_all dRs k0 l
  have HKA := hide hka
  have hk00 := kAtF_zero dRs k0 l
  clear h hst hl hm hk hka
  go_enter Tryz.func37, Tryz.ntmps37
  go_wp2
  go_loopw [1, 5] (fun kv i wr => ∃ j K : Nat, j ≤ l.length ∧ i = .int .i64 j ∧ kv = .int .i64 K ∧ Hid (K = kAtF dRs k0 l j) ∧ Hid (OwnSt wr a l.length cap 5 (midF dRs k0 l j) S) ∧ Turn S w wr) (fun _ i _ => l.length - (intOf i).toNat)
  case atStart => exact ⟨0, k0, Nat.zero_le _, rfl, rfl, hk00.symm, HST, Turn.refl _ _⟩
  case round =>
    obtain ⟨j, K, hj, rfl, rfl, hK, hR, ht⟩ := hrel
    by_cases hlt : j < l.length
    · obtain ⟨b, o, C, Sf, rfl, hG⟩ := hR.out.at (by omega)
      have hG := hG.start hlt
      have hN := kAtF_next dRs k0 l j hlt
      have hle := (kAtF_le dRs k0 l (j + 1)).2
      have hle0 := (kAtF_le dRs k0 l j).1
      obtain ⟨x, hx⟩ : ∃ x, l[j] = x := ⟨_, rfl⟩
      rw [hx] at hG hN
      rw [hN] at hle
      rw [← hK.out] at hN hle hle0
      have HX := hide hx
      clear hx
      have hsum : cntR (dRs x) = cntRs (x.pa.map dS) + 1 + 1 + 1 + cntRs (x.ps.map dPp) := by simp [dRs, cntR, cntF]; omega
      rw [hsum] at hN hle
      have hle2 := Nat.le_trans hle HKB.out
      have HNX := hide hN
      have hK1 : 1 ≤ K := Nat.le_trans hk1 hle0
      clear hle hle0 hsum hN
      obtain ⟨c0, z0⟩ := hG.hc j 0 hlt (by decide)
      simp only [Nat.add_zero] at c0 z0
      have hO := hG.leaf hlt 0 (.l (x.pa.map dS)) rfl
      have HQ0 := hide (markStringS_gen (x.pa) (K) _ _ _ hO (by omega) (by omega))
      obtain ⟨M0, hM0⟩ : ∃ M, K + cntRs (x.pa.map dS) = M := ⟨_, rfl⟩
      rw [hM0] at HQ0
      have hGk := hide hG
      have htk := hide ht
      have HM0 := hide hM0
      have hbM0 : M0 ≤ 90000000 ∧ 1 ≤ M0 := by omega
      clear hO hG ht hM0
      go_wp2_with fail
      refine HQ0.out.mono ?_
      rintro e w1 ⟨rfl, o1, tt1⟩
      have hGw1 := hGk.out.turn hlt (i := 0) (by decide) tt1 o1
      have tw1 := htk.out.trans (tt1.wide (fun y hy => (hGk.out.hs j 0 y hy).1))
      clear hGk htk HQ0 tt1 o1 c0 z0
      obtain ⟨c1, z1⟩ := hGw1.hc j 1 hlt (by decide)
      obtain ⟨c2, z2⟩ := hGw1.hc j 2 hlt (by decide)
      obtain ⟨C1, hG1, e1⟩ := hGw1.set hlt (i := 1) (by decide) (.bool (((M0 : Int)) % 3 == 0))
      have t1 := tw1.trans (Turn.set (S := S) w1 ⟨b, o + j * 5 + 1, none⟩ (.bool (((M0 : Int)) % 3 == 0)) hG1.hS)
      clear hGw1 tw1
      have HQ2 := hide (show ∀ W, _ from fun W => markText_any (M0 + 1) (by omega) (by omega) W)
      rw [show ((M0 + 1 : Nat) : Int) = (M0 : Int) + 1 from by omega] at HQ2
      have hGk := hide hG1
      have htk := hide t1
      clear hG1 t1
      go_wp2_with fail
      refine (HQ2.out _).mono ?_
      rintro e w2 ⟨rfl, b2⟩
      have hGw2 := hGk.out.below b2
      have tw2 := htk.out.trans (Turn.of_below b2)
      clear hGk htk HQ2 b2 c1 z1 c2 z2
      clear e1
      obtain ⟨c2, z2⟩ := hGw2.hc j 2 hlt (by decide)
      obtain ⟨c3, z3⟩ := hGw2.hc j 3 hlt (by decide)
      obtain ⟨c4, z4⟩ := hGw2.hc j 4 hlt (by decide)
      obtain ⟨C2, hG2, e2⟩ := hGw2.set hlt (i := 2) (by decide) (.string (mt (M0 + 1)))
      have t2 := tw2.trans (Turn.set (S := S) w2 ⟨b, o + j * 5 + 2, none⟩ (.string (mt (M0 + 1))) hG2.hS)
      clear hGw2 tw2
      obtain ⟨C3, hG3, e3⟩ := hG2.set hlt (i := 3) (by decide) (.int .i64 ((M0 : Int) + 1 + 1))
      have t3 := t2.trans (Turn.set (S := S) (w2.setCell ⟨b, o + j * 5 + 2, none⟩ (.string (mt (M0 + 1)))) ⟨b, o + j * 5 + 3, none⟩ (.int .i64 ((M0 : Int) + 1 + 1)) hG3.hS)
      clear hG2 t2
      have hO := hG3.leaf hlt 4 (.l (x.ps.map dPp)) rfl
      have hce := (e3 j 4 (by omega)).trans (e2 j 4 (by omega))
      rw [hce] at hO
      have HCE := hide hce
      clear hce
      have HQ4 := hide (markPropS_gen (x.ps) (M0 + 3) _ _ _ hO (by have := HM0.out; omega) (by have := HM0.out; omega))
      rw [show ((M0 + 3 : Nat) : Int) = (M0 : Int) + 1 + 1 + 1 from by omega] at HQ4
      obtain ⟨M4, hM4⟩ : ∃ M, M0 + 3 + cntRs (x.ps.map dPp) = M := ⟨_, rfl⟩
      rw [hM4] at HQ4
      have hGk := hide hG3
      have htk := hide t3
      have HM4 := hide hM4
      have hbM4 : M4 ≤ 90000000 ∧ 1 ≤ M4 := by have := HM0.out; omega
      clear hO hG3 t3 hM4
      go_wp2_with fail
      refine HQ4.out.mono ?_
      rintro e w3 ⟨rfl, o3, tt3⟩
      rw [← HCE.out] at o3
      clear HCE
      have hGw3 := hGk.out.turn hlt (i := 4) (by decide) tt3 o3
      have tw3 := htk.out.trans (tt3.wide (fun y hy => (hGk.out.hs j 4 y hy).1))
      clear hGk htk HQ4 tt3 o3 c2 z2 c3 z3 c4 z4
      have HG := hide hGw3
      have HT := hide tw3
      clear hGw3 tw3
      go_wp2
      go_roundw
      case rel =>
        refine ⟨j + 1, M4, by omega, by go_num, by first | go_num | (congr 1; omega), ?_, .inr ⟨b, o, _, _, rfl, RowG.close HG.out hlt ?_⟩, HT.out⟩
        · have := HNX.out; have := HM0.out; have := HM4.out; show _ = _; omega
        · rw [HX.out, ← hK.out]
          simp [dRs, mkR, mkF, mkV, mkI, cntF, ← HM0.out]
          try omega
      case measure => simp [intOf]; omega
    · have hjn : j = l.length := by omega
      subst hjn
      have hKK := hK.out
      rw [HKA.out] at hKK
      subst hKK
      go_wp2
      go_ret
      exact ⟨rfl, hR.out.marked HLM.out.1 HLM.out.2, ht⟩
end Go.Proofs.YtfhcniifennfbaaGreatDoor
namespace Go.Proofs.YtfhcniifennfbaaGreatDoor
open Go.RowKit M
set_option linter.unusedVariables false

set_option maxRecDepth 100000 in
set_option maxHeartbeats 4000000 in
theorem markLockS_gen (l : List Lk) (k0 : Nat) (v : Value) (S : Nat → Prop) (w : World) (h : Own w v (.l (l.map dLk)) S) (hk1 : 1 ≤ k0) (hk : k0 + cntRs (l.map dLk) ≤ 90000000) :
    Calls Tryz.prog 38 #[v, .int .i64 k0] w fun e w' => e = .returned (.int .i64 ((k0 + cntRs (l.map dLk) : Nat) : Int)) ∧ Own w' v (mkF k0 (.l (l.map dLk))) S ∧ Turn S w w' := by
  obtain ⟨a, cap, rfl, hl, hm, hst⟩ := h.rows 5 (fun _ => rfl)
  have HST := hide (hst.mid0 (k0 := k0))
  have HLM := hide (And.intro hl hm)
  have HKB := hide hk
  have hn : l.length ≤ 90000000 := by have := cnt_lenF dLk (fun x => by simp [dLk, cntR, cntF]; try omega) l; omega
  have hka := kAtF_all dLk k0 l
  have HKA := hide hka
  have hk00 := kAtF_zero dLk k0 l
  clear h hst hl hm hk hka
  go_enter Tryz.func38, Tryz.ntmps38
  go_wp2
  go_loopw [1, 5] (fun kv i wr => ∃ j K : Nat, j ≤ l.length ∧ i = .int .i64 j ∧ kv = .int .i64 K ∧ Hid (K = kAtF dLk k0 l j) ∧ Hid (OwnSt wr a l.length cap 5 (midF dLk k0 l j) S) ∧ Turn S w wr) (fun _ i _ => l.length - (intOf i).toNat)
  case atStart => exact ⟨0, k0, Nat.zero_le _, rfl, rfl, hk00.symm, HST, Turn.refl _ _⟩
  case round =>
    obtain ⟨j, K, hj, rfl, rfl, hK, hR, ht⟩ := hrel
    by_cases hlt : j < l.length
    · obtain ⟨b, o, C, Sf, rfl, hG⟩ := hR.out.at (by omega)
      have hG := hG.start hlt
      have hN := kAtF_next dLk k0 l j hlt
      have hle := (kAtF_le dLk k0 l (j + 1)).2
      have hle0 := (kAtF_le dLk k0 l j).1
      obtain ⟨x, hx⟩ : ∃ x, l[j] = x := ⟨_, rfl⟩
      rw [hx] at hG hN
      rw [hN] at hle
      rw [← hK.out] at hN hle hle0
      have HX := hide hx
      clear hx
      have hsum : cntR (dLk x) = 1 + cntRs (x.pa.map dS) + 1 + 1 + 1 := by simp [dLk, cntR, cntF]; omega
      rw [hsum] at hN hle
      have hle2 := Nat.le_trans hle HKB.out
      have HNX := hide hN
      have hK1 : 1 ≤ K := Nat.le_trans hk1 hle0
      clear hle hle0 hsum hN
      obtain ⟨c0, z0⟩ := hG.hc j 0 hlt (by decide)
      simp only [Nat.add_zero] at c0 z0
      obtain ⟨c1, z1⟩ := hG.hc j 1 hlt (by decide)
      obtain ⟨C1, hG1, e1⟩ := hG.set hlt (i := 0) (by decide) (.int .i64 ((K : Int)))
      have t1 := ht.trans (Turn.set (S := S) wr ⟨b, o + j * 5 + 0, none⟩ (.int .i64 ((K : Int))) hG1.hS)
      clear hG ht
      have hO := hG1.leaf hlt 1 (.l (x.pa.map dS)) rfl
      have hce := e1 j 1 (by omega)
      rw [hce] at hO
      have HCE := hide hce
      clear hce
      have HQ1 := hide (markStringS_gen (x.pa) (K + 1) _ _ _ hO (by omega) (by omega))
      rw [show ((K + 1 : Nat) : Int) = (K : Int) + 1 from by omega] at HQ1
      obtain ⟨M1, hM1⟩ : ∃ M, K + 1 + cntRs (x.pa.map dS) = M := ⟨_, rfl⟩
      rw [hM1] at HQ1
      have hGk := hide hG1
      have htk := hide t1
      have HM1 := hide hM1
      have hbM1 : M1 ≤ 90000000 ∧ 1 ≤ M1 := by omega
      clear hO hG1 t1 hM1
      go_wp2_with fail
      refine HQ1.out.mono ?_
      rintro e w1 ⟨rfl, o1, tt1⟩
      rw [← HCE.out] at o1
      clear HCE
      have hGw1 := hGk.out.turn hlt (i := 1) (by decide) tt1 o1
      have tw1 := htk.out.trans (tt1.wide (fun y hy => (hGk.out.hs j 1 y hy).1))
      clear hGk htk HQ1 tt1 o1 c0 z0 c1 z1
      obtain ⟨c2, z2⟩ := hGw1.hc j 2 hlt (by decide)
      obtain ⟨c3, z3⟩ := hGw1.hc j 3 hlt (by decide)
      obtain ⟨c4, z4⟩ := hGw1.hc j 4 hlt (by decide)
      obtain ⟨C2, hG2, e2⟩ := hGw1.set hlt (i := 2) (by decide) (.bool (((M1 : Int)) % 3 == 0))
      have t2 := tw1.trans (Turn.set (S := S) w1 ⟨b, o + j * 5 + 2, none⟩ (.bool (((M1 : Int)) % 3 == 0)) hG2.hS)
      clear hGw1 tw1
      obtain ⟨C3, hG3, e3⟩ := hG2.set hlt (i := 3) (by decide) (.bool (((M1 : Int) + 1) % 3 == 0))
      have t3 := t2.trans (Turn.set (S := S) (w1.setCell ⟨b, o + j * 5 + 2, none⟩ (.bool (((M1 : Int)) % 3 == 0))) ⟨b, o + j * 5 + 3, none⟩ (.bool (((M1 : Int) + 1) % 3 == 0)) hG3.hS)
      clear hG2 t2
      obtain ⟨C4, hG4, e4⟩ := hG3.set hlt (i := 4) (by decide) (.int .i64 ((M1 : Int) + 1 + 1))
      have t4 := t3.trans (Turn.set (S := S) ((w1.setCell ⟨b, o + j * 5 + 2, none⟩ (.bool (((M1 : Int)) % 3 == 0))).setCell ⟨b, o + j * 5 + 3, none⟩ (.bool (((M1 : Int) + 1) % 3 == 0))) ⟨b, o + j * 5 + 4, none⟩ (.int .i64 ((M1 : Int) + 1 + 1)) hG4.hS)
      clear hG3 t3
      have HG := hide hG4
      have HT := hide t4
      clear hG4 t4
      go_wp2
      go_roundw
      case rel =>
        refine ⟨j + 1, M1 + 3, by omega, by go_num, by first | go_num | (congr 1; omega), ?_, .inr ⟨b, o, _, _, rfl, RowG.close HG.out hlt ?_⟩, HT.out⟩
        · have := HNX.out; have := HM1.out; show _ = _; omega
        · rw [HX.out, ← hK.out]
          simp [dLk, mkR, mkF, mkV, mkI, cntF, ← HM1.out]
          try omega
      case measure => simp [intOf]; omega
    · have hjn : j = l.length := by omega
      subst hjn
      have hKK := hK.out
      rw [HKA.out] at hKK
      subst hKK
      go_wp2
      go_ret
      exact ⟨rfl, hR.out.marked HLM.out.1 HLM.out.2, ht⟩
end Go.Proofs.YtfhcniifennfbaaGreatDoor
namespace Go.Proofs.YtfhcniifennfbaaGreatDoor
open Go.RowKit M
set_option linter.unusedVariables false

set_option maxRecDepth 100000 in
set_option maxHeartbeats 4000000 in
theorem markIntS_gen (l : List Int) (k0 : Nat) (v : Value) (S : Nat → Prop) (w : World) (h : Own w v (.l (l.map dI)) S) (hk1 : 1 ≤ k0) (hk : k0 + cntRs (l.map dI) ≤ 90000000) :
    Calls Tryz.prog 39 #[v, .int .i64 k0] w fun e w' => e = .returned (.int .i64 ((k0 + cntRs (l.map dI) : Nat) : Int)) ∧ Own w' v (mkF k0 (.l (l.map dI))) S ∧ Turn S w w' := by
  obtain ⟨a, cap, rfl, hl, hm, hst⟩ := h.rows 1 (fun _ => rfl)
  have HST := hide (hst.mid0 (k0 := k0))
  have HLM := hide (And.intro hl hm)
  have HKB := hide hk
  have hn : l.length ≤ 90000000 := by have := cnt_lenF dI (fun x => by simp [dI, cntR, cntF]; try omega) l; omega
  have hka := kAtF_all dI k0 l
  have HKA := hide hka
  have hk00 := kAtF_zero dI k0 l
  clear h hst hl hm hk hka
  go_enter Tryz.func39, Tryz.ntmps39
  go_wp2
  go_loopw [1, 5] (fun kv i wr => ∃ j K : Nat, j ≤ l.length ∧ i = .int .i64 j ∧ kv = .int .i64 K ∧ Hid (K = kAtF dI k0 l j) ∧ Hid (OwnSt wr a l.length cap 1 (midF dI k0 l j) S) ∧ Turn S w wr) (fun _ i _ => l.length - (intOf i).toNat)
  case atStart => exact ⟨0, k0, Nat.zero_le _, rfl, rfl, hk00.symm, HST, Turn.refl _ _⟩
  case round =>
    obtain ⟨j, K, hj, rfl, rfl, hK, hR, ht⟩ := hrel
    by_cases hlt : j < l.length
    · obtain ⟨b, o, C, Sf, rfl, hG⟩ := hR.out.at (by omega)
      have hG := hG.start hlt
      have hN := kAtF_next dI k0 l j hlt
      have hle := (kAtF_le dI k0 l (j + 1)).2
      have hle0 := (kAtF_le dI k0 l j).1
      obtain ⟨x, hx⟩ : ∃ x, l[j] = x := ⟨_, rfl⟩
      rw [hx] at hG hN
      rw [hN] at hle
      rw [← hK.out] at hN hle hle0
      have HX := hide hx
      clear hx
      have hsum : cntR (dI x) = 1 := by simp [dI, cntR, cntF]
      rw [hsum] at hN hle
      have hle2 := Nat.le_trans hle HKB.out
      have HNX := hide hN
      have hK1 : 1 ≤ K := Nat.le_trans hk1 hle0
      clear hle hle0 hsum hN
      obtain ⟨c0, z0⟩ := hG.hc j 0 hlt (by decide)
      simp only [Nat.mul_one, Nat.add_zero] at c0 z0
      obtain ⟨C1, hG1, e1⟩ := hG.set hlt (i := 0) (by decide) (.int .i64 ((K : Int)))
      simp only [Nat.mul_one, Nat.add_zero] at hG1
      have t1 := ht.trans (Turn.set (S := S) wr ⟨b, o + j, none⟩ (.int .i64 ((K : Int))) hG1.hS)
      clear hG ht
      have HG := hide hG1
      have HT := hide t1
      clear hG1 t1
      go_wp2
      go_roundw
      case rel =>
        refine ⟨j + 1, K + 1, by omega, by go_num, by first | go_num | (congr 1; omega), ?_, .inr ⟨b, o, _, _, rfl, RowG.close HG.out hlt ?_⟩, HT.out⟩
        · have := HNX.out; show _ = _; omega
        · rw [HX.out, ← hK.out]
          simp [dI, mkR, mkF, mkV, mkI]
      case measure => simp [intOf]; omega
    · have hjn : j = l.length := by omega
      subst hjn
      have hKK := hK.out
      rw [HKA.out] at hKK
      subst hKK
      go_wp2
      go_ret
      exact ⟨rfl, hR.out.marked HLM.out.1 HLM.out.2, ht⟩
end Go.Proofs.YtfhcniifennfbaaGreatDoor
namespace Go.Proofs.YtfhcniifennfbaaGreatDoor
open Go.RowKit M
set_option linter.unusedVariables false

set_option maxRecDepth 100000 in
set_option maxHeartbeats 4000000 in
theorem markSrv_gen (x : Sv) (u0 u1 u4 u5 : Value) (S0 S1 S4 S5 : Nat → Prop) (k0 : Nat) (w : World) (o0 : Own w u0 (.l (x.t.map dRs)) S0) (o1 : Own w u1 (.l (x.l.map dLk)) S1) (o4 : Own w u4 (.l (x.dr.map dI)) S4) (o5 : Own w u5 (.l (x.us.map dI)) S5) (z0 : ∀ y, S0 y → y < w.heap.size) (z1 : ∀ y, S1 y → y < w.heap.size) (z4 : ∀ y, S4 y → y < w.heap.size) (z5 : ∀ y, S5 y → y < w.heap.size) (d01 : ∀ y, S0 y → ¬ S1 y) (d04 : ∀ y, S0 y → ¬ S4 y) (d05 : ∀ y, S0 y → ¬ S5 y) (d14 : ∀ y, S1 y → ¬ S4 y) (d15 : ∀ y, S1 y → ¬ S5 y) (d45 : ∀ y, S4 y → ¬ S5 y) (hk1 : 1 ≤ k0) (hk : k0 + cntRs (x.t.map dRs) + cntRs (x.l.map dLk) + cntRs (x.dr.map dI) + cntRs (x.us.map dI) ≤ 90000000) :
    Calls Tryz.prog 13 #[.agg #[u0, u1, .int .i64 x.now, .int .i64 x.ver, u4, u5], .int .i64 k0] w fun e w' => e = .returned (.int .i64 ((k0 + cntRs (x.t.map dRs) + cntRs (x.l.map dLk) + cntRs (x.dr.map dI) + cntRs (x.us.map dI) : Nat) : Int)) ∧ Own w' u0 (mkF (k0) (.l (x.t.map dRs))) S0 ∧ Own w' u1 (mkF (k0 + cntRs (x.t.map dRs)) (.l (x.l.map dLk))) S1 ∧ Own w' u4 (mkF (k0 + cntRs (x.t.map dRs) + cntRs (x.l.map dLk)) (.l (x.dr.map dI))) S4 ∧ Own w' u5 (mkF (k0 + cntRs (x.t.map dRs) + cntRs (x.l.map dLk) + cntRs (x.dr.map dI)) (.l (x.us.map dI))) S5 ∧ Turn (fun y => S0 y ∨ S1 y ∨ S4 y ∨ S5 y) w w' := by
  have b0 := (Below.refl w.heap.size w).alloc (Nat.le_refl _) (Obj.cells #[u0, u1, .int .i64 x.now, .int .i64 x.ver, u4, u5] 39)
  have X0 := hide (BoxV.made w [u0, u1, .int .i64 x.now, .int .i64 x.ver, u4, u5] 39)
  have o0_0 := hide (o0.next b0)
  have o1_0 := hide (o1.next b0)
  have o4_0 := hide (o4.next b0)
  have o5_0 := hide (o5.next b0)
  have T0 := hide (show Turn (fun y => S0 y ∨ S1 y ∨ S4 y ∨ S5 y) w (w.alloc (Obj.cells #[u0, u1, .int .i64 x.now, .int .i64 x.ver, u4, u5] 39)) from Turn.of_below b0)
  clear b0 o0 o1 o4 o5
  have n0 : ¬ S0 w.heap.size := fun e => absurd (z0 _ e) (Nat.lt_irrefl _)
  have n1 : ¬ S1 w.heap.size := fun e => absurd (z1 _ e) (Nat.lt_irrefl _)
  have n4 : ¬ S4 w.heap.size := fun e => absurd (z4 _ e) (Nat.lt_irrefl _)
  have n5 : ¬ S5 w.heap.size := fun e => absurd (z5 _ e) (Nat.lt_irrefl _)
  obtain ⟨M1, hM1⟩ : ∃ M, k0 + cntRs (x.t.map dRs) = M := ⟨_, rfl⟩
  obtain ⟨M2, hM2⟩ : ∃ M, M1 + cntRs (x.l.map dLk) = M := ⟨_, rfl⟩
  obtain ⟨M3, hM3⟩ : ∃ M, M2 + cntRs (x.dr.map dI) = M := ⟨_, rfl⟩
  obtain ⟨M4, hM4⟩ : ∃ M, M3 + cntRs (x.us.map dI) = M := ⟨_, rfl⟩
  rw [hM1, hM2, hM3, hM4] at hk
  have hb : M1 ≤ 90000000 ∧ 1 ≤ M1 ∧ M2 ≤ 90000000 ∧ 1 ≤ M2 ∧ M3 ≤ 90000000 ∧ 1 ≤ M3 ∧ M4 ≤ 90000000 ∧ 1 ≤ M4 := by omega
  rw [hM1, hM2, hM3, hM4]
  have HM1 := hide hM1
  clear hM1
  have HM2 := hide hM2
  clear hM2
  have HM3 := hide hM3
  clear hM3
  have HM4 := hide hM4
  clear hM4
  go_enter Tryz.func13, Tryz.ntmps13
  have HQ := hide (markResS_gen (x.t) (k0) u0 S0 _ o0_0.out (by omega) (by have := HM1.out; omega))
  rw [HM1.out] at HQ
  go_wp2_with fail
  refine HQ.out.mono ?_
  rintro e w1 ⟨rfl, o, tt⟩
  have o0_1 := hide o
  have o1_1 := hide (o1_0.out.turn tt (fun y h1 h2 => d01 y h2 h1))
  have o4_1 := hide (o4_0.out.turn tt (fun y h1 h2 => d04 y h2 h1))
  have o5_1 := hide (o5_0.out.turn tt (fun y h1 h2 => d05 y h2 h1))
  have T1 := hide (T0.out.trans (tt.wide (fun y hy => .inl hy)))
  have X1 := hide (X0.out.turn tt n0)
  clear HQ tt o T0 X0 o0_0 o1_0 o4_0 o5_0
  have c1 := (X1.out.2 1 _ rfl).1
  have HQ := hide (markLockS_gen (x.l) (M1) u1 S1 _ o1_1.out (by omega) (by have := HM2.out; omega))
  rw [HM2.out] at HQ
  go_wp2_with fail
  refine HQ.out.mono ?_
  rintro e w2 ⟨rfl, o, tt⟩
  have o1_2 := hide o
  have o0_2 := hide (o0_1.out.turn tt (fun y h1 h2 => d01 y h1 h2))
  have o4_2 := hide (o4_1.out.turn tt (fun y h1 h2 => d14 y h2 h1))
  have o5_2 := hide (o5_1.out.turn tt (fun y h1 h2 => d15 y h2 h1))
  have T2 := hide (T1.out.trans (tt.wide (fun y hy => .inr (.inl hy))))
  have X2 := hide (X1.out.turn tt n1)
  clear HQ tt o T1 X1 o0_1 o1_1 o4_1 o5_1 c1
  have c4 := (X2.out.2 4 _ rfl).1
  have HQ := hide (markIntS_gen (x.dr) (M2) u4 S4 _ o4_2.out (by omega) (by have := HM3.out; omega))
  rw [HM3.out] at HQ
  go_wp2_with fail
  refine HQ.out.mono ?_
  rintro e w3 ⟨rfl, o, tt⟩
  have o4_3 := hide o
  have o0_3 := hide (o0_2.out.turn tt (fun y h1 h2 => d04 y h1 h2))
  have o1_3 := hide (o1_2.out.turn tt (fun y h1 h2 => d14 y h1 h2))
  have o5_3 := hide (o5_2.out.turn tt (fun y h1 h2 => d45 y h2 h1))
  have T3 := hide (T2.out.trans (tt.wide (fun y hy => .inr (.inr (.inl hy)))))
  have X3 := hide (X2.out.turn tt n4)
  clear HQ tt o T2 X2 o0_2 o1_2 o4_2 o5_2 c4
  have c5 := (X3.out.2 5 _ rfl).1
  have HQ := hide (markIntS_gen (x.us) (M3) u5 S5 _ o5_3.out (by omega) (by have := HM4.out; omega))
  rw [HM4.out] at HQ
  go_wp2_with fail
  refine HQ.out.mono ?_
  rintro e w4 ⟨rfl, o, tt⟩
  have o5_4 := hide o
  have o0_4 := hide (o0_3.out.turn tt (fun y h1 h2 => d05 y h1 h2))
  have o1_4 := hide (o1_3.out.turn tt (fun y h1 h2 => d15 y h1 h2))
  have o4_4 := hide (o4_3.out.turn tt (fun y h1 h2 => d45 y h1 h2))
  have T4 := hide (T3.out.trans (tt.wide (fun y hy => .inr (.inr (.inr (hy))))))
  have X4 := hide (X3.out.turn tt n5)
  clear HQ tt o T3 X3 o0_3 o1_3 o4_3 o5_3 c5
  go_wp2
  go_ret
  exact ⟨rfl, o0_4.out, o1_4.out, o4_4.out, o5_4.out, T4.out⟩
end Go.Proofs.YtfhcniifennfbaaGreatDoor
namespace Go.Proofs.YtfhcniifennfbaaGreatDoor
open Go.RowKit M
set_option linter.unusedVariables false

set_option maxRecDepth 100000 in
set_option maxHeartbeats 4000000 in
theorem markHeadS_gen (l : List Hd) (k0 : Nat) (v : Value) (S : Nat → Prop) (w : World) (h : Own w v (.l (l.map dHd)) S) (hk1 : 1 ≤ k0) (hk : k0 + cntRs (l.map dHd) ≤ 90000000) :
    Calls Tryz.prog 40 #[v, .int .i64 k0] w fun e w' => e = .returned (.int .i64 ((k0 + cntRs (l.map dHd) : Nat) : Int)) ∧ Own w' v (mkF k0 (.l (l.map dHd))) S ∧ Turn S w w' := by
  obtain ⟨a, cap, rfl, hl, hm, hst⟩ := h.rows 2 (fun _ => rfl)
  have HST := hide (hst.mid0 (k0 := k0))
  have HLM := hide (And.intro hl hm)
  have HKB := hide hk
  have hn : l.length ≤ 90000000 := by have := cnt_lenF dHd (fun x => by simp [dHd, cntR, cntF]; try omega) l; omega
  have hka := kAtF_all dHd k0 l
  have HKA := hide hka
  have hk00 := kAtF_zero dHd k0 l
  clear h hst hl hm hk hka
  go_enter Tryz.func40, Tryz.ntmps40
  go_wp2
  go_loopw [1, 5] (fun kv i wr => ∃ j K : Nat, j ≤ l.length ∧ i = .int .i64 j ∧ kv = .int .i64 K ∧ Hid (K = kAtF dHd k0 l j) ∧ Hid (OwnSt wr a l.length cap 2 (midF dHd k0 l j) S) ∧ Turn S w wr) (fun _ i _ => l.length - (intOf i).toNat)
  case atStart => exact ⟨0, k0, Nat.zero_le _, rfl, rfl, hk00.symm, HST, Turn.refl _ _⟩
  case round =>
    obtain ⟨j, K, hj, rfl, rfl, hK, hR, ht⟩ := hrel
    by_cases hlt : j < l.length
    · obtain ⟨b, o, C, Sf, rfl, hG⟩ := hR.out.at (by omega)
      have hG := hG.start hlt
      have hN := kAtF_next dHd k0 l j hlt
      have hle := (kAtF_le dHd k0 l (j + 1)).2
      have hle0 := (kAtF_le dHd k0 l j).1
      obtain ⟨x, hx⟩ : ∃ x, l[j] = x := ⟨_, rfl⟩
      rw [hx] at hG hN
      rw [hN] at hle
      rw [← hK.out] at hN hle hle0
      have HX := hide hx
      clear hx
      have hsum : cntR (dHd x) = 1 + 1 := by simp [dHd, cntR, cntF]
      rw [hsum] at hN hle
      have hle2 := Nat.le_trans hle HKB.out
      have HNX := hide hN
      have hK1 : 1 ≤ K := Nat.le_trans hk1 hle0
      clear hle hle0 hsum hN
      obtain ⟨c0, z0⟩ := hG.hc j 0 hlt (by decide)
      simp only [Nat.add_zero] at c0 z0
      have HQ0 := hide (show ∀ W, _ from fun W => markText_any (K) (by omega) (by omega) W)
      have hGk := hide hG
      have htk := hide ht
      clear hG ht
      go_wp2_with fail
      refine (HQ0.out _).mono ?_
      rintro e w1 ⟨rfl, b1⟩
      have hGw1 := hGk.out.below b1
      have tw1 := htk.out.trans (Turn.of_below b1)
      clear hGk htk HQ0 b1 c0 z0
      obtain ⟨c0, z0⟩ := hGw1.hc j 0 hlt (by decide)
      simp only [Nat.add_zero] at c0 z0
      obtain ⟨c1, z1⟩ := hGw1.hc j 1 hlt (by decide)
      obtain ⟨C1, hG1, e1⟩ := hGw1.set hlt (i := 0) (by decide) (.string (mt (K)))
      have t1 := tw1.trans (Turn.set (S := S) w1 ⟨b, o + j * 2 + 0, none⟩ (.string (mt (K))) hG1.hS)
      clear hGw1 tw1
      have HQ1 := hide (show ∀ W, _ from fun W => markText_any (K + 1) (by omega) (by omega) W)
      rw [show ((K + 1 : Nat) : Int) = (K : Int) + 1 from by omega] at HQ1
      have hGk := hide hG1
      have htk := hide t1
      clear hG1 t1
      go_wp2_with fail
      refine (HQ1.out _).mono ?_
      rintro e w2 ⟨rfl, b2⟩
      have hGw2 := hGk.out.below b2
      have tw2 := htk.out.trans (Turn.of_below b2)
      clear hGk htk HQ1 b2 c0 z0 c1 z1
      clear e1
      obtain ⟨c1, z1⟩ := hGw2.hc j 1 hlt (by decide)
      obtain ⟨C2, hG2, e2⟩ := hGw2.set hlt (i := 1) (by decide) (.string (mt (K + 1)))
      have t2 := tw2.trans (Turn.set (S := S) w2 ⟨b, o + j * 2 + 1, none⟩ (.string (mt (K + 1))) hG2.hS)
      clear hGw2 tw2
      have HG := hide hG2
      have HT := hide t2
      clear hG2 t2
      go_wp2
      go_roundw
      case rel =>
        refine ⟨j + 1, K + 2, by omega, by go_num, by first | go_num | (congr 1; omega), ?_, .inr ⟨b, o, _, _, rfl, RowG.close HG.out hlt ?_⟩, HT.out⟩
        · have := HNX.out; show _ = _; omega
        · rw [HX.out, ← hK.out]
          simp [dHd, mkR, mkF, mkV, cntF]
          try omega
      case measure => simp [intOf]; omega
    · have hjn : j = l.length := by omega
      subst hjn
      have hKK := hK.out
      rw [HKA.out] at hKK
      subst hKK
      go_wp2
      go_ret
      exact ⟨rfl, hR.out.marked HLM.out.1 HLM.out.2, ht⟩
end Go.Proofs.YtfhcniifennfbaaGreatDoor
namespace Go.Proofs.YtfhcniifennfbaaGreatDoor
open Go.RowKit M
set_option linter.unusedVariables false

set_option maxRecDepth 100000 in
set_option maxHeartbeats 4000000 in
theorem markReq_gen (x : Rq) (u2 : Value) (S2 : Nat → Prop) (k0 : Nat) (w : World) (o2 : Own w u2 (.l (x.hs.map dHd)) S2) (z2 : ∀ y, S2 y → y < w.heap.size) (hk1 : 1 ≤ k0) (hk : k0 + cntRs (x.hs.map dHd) ≤ 90000000) :
    Calls Tryz.prog 14 #[.agg #[.string x.m, .string x.p, u2, .string x.b], .int .i64 k0] w fun e w' => e = .returned (.int .i64 ((k0 + cntRs (x.hs.map dHd) : Nat) : Int)) ∧ Own w' u2 (mkF (k0) (.l (x.hs.map dHd))) S2 ∧ Turn (fun y => S2 y) w w' := by
  have b0 := (Below.refl w.heap.size w).alloc (Nat.le_refl _) (Obj.cells #[.string x.m, .string x.p, u2, .string x.b] 43)
  have X0 := hide (BoxV.made w [.string x.m, .string x.p, u2, .string x.b] 43)
  have o2_0 := hide (o2.next b0)
  have T0 := hide (show Turn (fun y => S2 y) w (w.alloc (Obj.cells #[.string x.m, .string x.p, u2, .string x.b] 43)) from Turn.of_below b0)
  clear b0 o2
  have n2 : ¬ S2 w.heap.size := fun e => absurd (z2 _ e) (Nat.lt_irrefl _)
  obtain ⟨M1, hM1⟩ : ∃ M, k0 + cntRs (x.hs.map dHd) = M := ⟨_, rfl⟩
  rw [hM1] at hk
  have hb : M1 ≤ 90000000 ∧ 1 ≤ M1 := by omega
  rw [hM1]
  have HM1 := hide hM1
  clear hM1
  go_enter Tryz.func14, Tryz.ntmps14
  have HQ := hide (markHeadS_gen (x.hs) (k0) u2 S2 _ o2_0.out (by omega) (by have := HM1.out; omega))
  rw [HM1.out] at HQ
  go_wp2_with fail
  refine HQ.out.mono ?_
  rintro e w1 ⟨rfl, o, tt⟩
  have o2_1 := hide o
  have T1 := hide (T0.out.trans (tt.wide (fun y hy => hy)))
  have X1 := hide (X0.out.turn tt n2)
  clear HQ tt o T0 X0 o2_0
  go_wp2
  go_ret
  exact ⟨rfl, o2_1.out, T1.out⟩
end Go.Proofs.YtfhcniifennfbaaGreatDoor
namespace Go.Proofs.YtfhcniifennfbaaGreatDoor
open Go.RowKit M
set_option linter.unusedVariables false

set_option maxRecDepth 100000 in
set_option maxHeartbeats 4000000 in
theorem markAsk_gen (x : Ak) (u0 u1 u4 : Value) (S0 S1 S4 : Nat → Prop) (k0 : Nat) (w : World) (o0 : Own w u0 (.l (x.pa.map dS)) S0) (o1 : Own w u1 (.l (x.to.map dS)) S1) (o4 : Own w u4 (.l (x.tk.map dI)) S4) (z0 : ∀ y, S0 y → y < w.heap.size) (z1 : ∀ y, S1 y → y < w.heap.size) (z4 : ∀ y, S4 y → y < w.heap.size) (d01 : ∀ y, S0 y → ¬ S1 y) (d04 : ∀ y, S0 y → ¬ S4 y) (d14 : ∀ y, S1 y → ¬ S4 y) (hk1 : 1 ≤ k0) (hk : k0 + cntRs (x.pa.map dS) + cntRs (x.to.map dS) + cntRs (x.tk.map dI) ≤ 90000000) :
    Calls Tryz.prog 15 #[.agg #[u0, u1, .bool x.de, .bool x.ov, u4, .int .i64 x.co], .int .i64 k0] w fun e w' => e = .returned (.int .i64 ((k0 + cntRs (x.pa.map dS) + cntRs (x.to.map dS) + cntRs (x.tk.map dI) : Nat) : Int)) ∧ Own w' u0 (mkF (k0) (.l (x.pa.map dS))) S0 ∧ Own w' u1 (mkF (k0 + cntRs (x.pa.map dS)) (.l (x.to.map dS))) S1 ∧ Own w' u4 (mkF (k0 + cntRs (x.pa.map dS) + cntRs (x.to.map dS)) (.l (x.tk.map dI))) S4 ∧ Turn (fun y => S0 y ∨ S1 y ∨ S4 y) w w' := by
  have b0 := (Below.refl w.heap.size w).alloc (Nat.le_refl _) (Obj.cells #[u0, u1, .bool x.de, .bool x.ov, u4, .int .i64 x.co] 34)
  have X0 := hide (BoxV.made w [u0, u1, .bool x.de, .bool x.ov, u4, .int .i64 x.co] 34)
  have o0_0 := hide (o0.next b0)
  have o1_0 := hide (o1.next b0)
  have o4_0 := hide (o4.next b0)
  have T0 := hide (show Turn (fun y => S0 y ∨ S1 y ∨ S4 y) w (w.alloc (Obj.cells #[u0, u1, .bool x.de, .bool x.ov, u4, .int .i64 x.co] 34)) from Turn.of_below b0)
  clear b0 o0 o1 o4
  have n0 : ¬ S0 w.heap.size := fun e => absurd (z0 _ e) (Nat.lt_irrefl _)
  have n1 : ¬ S1 w.heap.size := fun e => absurd (z1 _ e) (Nat.lt_irrefl _)
  have n4 : ¬ S4 w.heap.size := fun e => absurd (z4 _ e) (Nat.lt_irrefl _)
  obtain ⟨M1, hM1⟩ : ∃ M, k0 + cntRs (x.pa.map dS) = M := ⟨_, rfl⟩
  obtain ⟨M2, hM2⟩ : ∃ M, M1 + cntRs (x.to.map dS) = M := ⟨_, rfl⟩
  obtain ⟨M3, hM3⟩ : ∃ M, M2 + cntRs (x.tk.map dI) = M := ⟨_, rfl⟩
  rw [hM1, hM2, hM3] at hk
  have hb : M1 ≤ 90000000 ∧ 1 ≤ M1 ∧ M2 ≤ 90000000 ∧ 1 ≤ M2 ∧ M3 ≤ 90000000 ∧ 1 ≤ M3 := by omega
  rw [hM1, hM2, hM3]
  have HM1 := hide hM1
  clear hM1
  have HM2 := hide hM2
  clear hM2
  have HM3 := hide hM3
  clear hM3
  go_enter Tryz.func15, Tryz.ntmps15
  have HQ := hide (markStringS_gen (x.pa) (k0) u0 S0 _ o0_0.out (by omega) (by have := HM1.out; omega))
  rw [HM1.out] at HQ
  go_wp2_with fail
  refine HQ.out.mono ?_
  rintro e w1 ⟨rfl, o, tt⟩
  have o0_1 := hide o
  have o1_1 := hide (o1_0.out.turn tt (fun y h1 h2 => d01 y h2 h1))
  have o4_1 := hide (o4_0.out.turn tt (fun y h1 h2 => d04 y h2 h1))
  have T1 := hide (T0.out.trans (tt.wide (fun y hy => .inl hy)))
  have X1 := hide (X0.out.turn tt n0)
  clear HQ tt o T0 X0 o0_0 o1_0 o4_0
  have c1 := (X1.out.2 1 _ rfl).1
  have HQ := hide (markStringS_gen (x.to) (M1) u1 S1 _ o1_1.out (by omega) (by have := HM2.out; omega))
  rw [HM2.out] at HQ
  go_wp2_with fail
  refine HQ.out.mono ?_
  rintro e w2 ⟨rfl, o, tt⟩
  have o1_2 := hide o
  have o0_2 := hide (o0_1.out.turn tt (fun y h1 h2 => d01 y h1 h2))
  have o4_2 := hide (o4_1.out.turn tt (fun y h1 h2 => d14 y h2 h1))
  have T2 := hide (T1.out.trans (tt.wide (fun y hy => .inr (.inl hy))))
  have X2 := hide (X1.out.turn tt n1)
  clear HQ tt o T1 X1 o0_1 o1_1 o4_1 c1
  have c4 := (X2.out.2 4 _ rfl).1
  have HQ := hide (markIntS_gen (x.tk) (M2) u4 S4 _ o4_2.out (by omega) (by have := HM3.out; omega))
  rw [HM3.out] at HQ
  go_wp2_with fail
  refine HQ.out.mono ?_
  rintro e w3 ⟨rfl, o, tt⟩
  have o4_3 := hide o
  have o0_3 := hide (o0_2.out.turn tt (fun y h1 h2 => d04 y h1 h2))
  have o1_3 := hide (o1_2.out.turn tt (fun y h1 h2 => d14 y h1 h2))
  have T3 := hide (T2.out.trans (tt.wide (fun y hy => .inr (.inr (hy)))))
  have X3 := hide (X2.out.turn tt n4)
  clear HQ tt o T2 X2 o0_2 o1_2 o4_2 c4
  go_wp2
  go_ret
  exact ⟨rfl, o0_3.out, o1_3.out, o4_3.out, T3.out⟩
end Go.Proofs.YtfhcniifennfbaaGreatDoor
namespace Go.Proofs.YtfhcniifennfbaaGreatDoor
open Go.RowKit M
set_option linter.unusedVariables false

set_option maxRecDepth 100000 in
set_option maxHeartbeats 4000000 in
theorem heldStringS_gen (l : List ByteArray) (k0 : Nat) (v : Value) (B : Nat) (w : World) (h : View w B v (mkF k0 (.l (l.map dS)))) (hB : B ≤ w.heap.size) (hk1 : 1 ≤ k0) (hk : k0 + cntRs (l.map dS) ≤ 90000000) :
    Calls Tryz.prog 42 #[v, .int .i64 k0] w fun e w' => e = .returned (.int .i64 ((k0 + cntRs (l.map dS) : Nat) : Int)) ∧ Below w.heap.size w w' := by
  obtain ⟨a, cap, rfl, hl, hm, hat⟩ := h.marked 1 (fun _ => rfl)
  have HAT := hide hat
  have HKB := hide hk
  have hn : l.length ≤ 90000000 := by have := cnt_lenF dS (fun x => by simp [dS, cntR, cntF]; try omega) l; omega
  have hka := kAtF_all dS k0 l
  have HKA := hide hka
  have hk00 := kAtF_zero dS k0 l
  clear h hat hl hm hk hka
  go_enter Tryz.func42, Tryz.ntmps42
  go_wp2
  go_loopw [1, 5] (fun kv i wr => ∃ j K : Nat, j ≤ l.length ∧ i = .int .i64 j ∧ kv = .int .i64 K ∧ Hid (K = kAtF dS k0 l j) ∧ Below w.heap.size w wr) (fun _ i _ => l.length - (intOf i).toNat)
  case atStart => exact ⟨0, k0, Nat.zero_le _, rfl, rfl, hk00.symm, Below.refl _ _⟩
  case round =>
    obtain ⟨j, K, hj, rfl, rfl, hK, hbe⟩ := hrel
    by_cases hlt : j < l.length
    · obtain ⟨b, o, C, rfl, hb, hc⟩ := HAT.out (by omega)
      have hcj := hc j hlt
      have hN := kAtF_next dS k0 l j hlt
      have hle := (kAtF_le dS k0 l (j + 1)).2
      have hle0 := (kAtF_le dS k0 l j).1
      have hbw : b < w.heap.size := Nat.lt_of_lt_of_le hb hB
      have hi0 : (0 : Int) ≤ (j : Int) := by omega
      have hi1 : (j : Int) < (l.length : Int) := by omega
      obtain ⟨x, hx⟩ : ∃ x, l[j] = x := ⟨_, rfl⟩
      rw [hx] at hcj hN
      rw [hN] at hle
      rw [← hK.out] at hcj hN hle hle0
      clear hx hc
      have hsum : cntR (dS x) = 1 := by simp [dS, cntR, cntF]
      rw [hsum] at hN hle
      have hle2 := Nat.le_trans hle HKB.out
      have HNX := hide hN
      have hK1 : 1 ≤ K := Nat.le_trans hk1 hle0
      clear hle hle0 hsum hN
      have q0 := hcj 0 (.c (.string (mt (K)))) rfl
      have u0 : w.cell? ⟨b, o + j, none⟩ = some (.string (mt (K))) := by
        have e := q0.2.inv
        have c := q0.1
        simp only [Nat.mul_one, Nat.add_zero] at c
        rw [c, e]
      clear q0
      clear hcj
      have c0 := (hbe.cell (p := ⟨b, o + j, none⟩) hbw).trans u0
      have HQ0 := hide (show ∀ W, _ from fun W => markText_any (K) (by omega) (by omega) W)
      have hz0 : b < wr.heap.size := Nat.lt_of_lt_of_le hbw hbe.size
      go_wp2
      go_region_held3 (fun w' => w'.cell? ⟨b, o + j, none⟩ = some (.string (mt (K)))) (first | go_keep | (exact (b1.cell (p := ⟨b, o + j, none⟩) (by first | omega | (simp; omega))).trans (by assumption))) ((go_at_call 75; refine (HQ0.out _).mono ?_; rintro e w1 ⟨rfl, b1⟩))
      all_goals
        have bb1 : Below wr.heap.size wr w1 := ((Below.refl wr.heap.size wr).drew).trans b1
        have kk1 := hbe.trans (bb1.mono hbe.size)
        clear b1 bb1 HQ0 hz0 c0
        have HT := hide kk1
        clear kk1
        go_wp2
        go_roundw
        case rel => exact ⟨j + 1, K + 1, by omega, by go_num, by first | go_num | (congr 1; omega), (by have := HNX.out; show _ = _; omega), HT.out⟩
        case measure => simp [intOf]; omega
    · have hjn : j = l.length := by omega
      subst hjn
      have hKK := hK.out
      rw [HKA.out] at hKK
      subst hKK
      go_wp2
      go_ret
      exact ⟨rfl, hbe⟩
end Go.Proofs.YtfhcniifennfbaaGreatDoor
