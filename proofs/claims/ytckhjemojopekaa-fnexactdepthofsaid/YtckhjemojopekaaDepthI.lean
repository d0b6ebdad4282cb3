/-
  DepthOf on both sides.
-/
import Derived.Test.YtckhjemojopekaaMathMay
import Derived.Test.YtckhjemojopekaaTurn
import Derived.Test.YtckhjemojopekaaHeadsV
import Derived.Test.YtckhjemojopekaaGenBox
namespace Go.Proofs.Ytckhjemojopekaa
open Go.RowKit M
set_option linter.unusedVariables false


set_option maxRecDepth 100000 in
set_option maxHeartbeats 4000000 in
theorem specDepth_any (r : Rq) (ha : Option Addr) (hc B : Nat) (most : Int) (w : World) (h : Hds w B ha r.hs) (hB : B ≤ w.heap.size) (hl : r.hs.length ≤ maxLen) (hz : ∀ x ∈ r.hs, x.2.size ≤ 1048576) :
    Calls Try.prog 6 #[.agg #[.string r.m, .string r.p, .slice ha r.hs.length hc, .string r.b], .int .i64 most] w fun e w' => e = .returned (.int .i64 (depI r.hs most)) ∧ Below w.heap.size w w' := by
  have K0 := hide (show Below w.heap.size w (w.alloc (Obj.cells #[.string r.m, .string r.p, .slice ha r.hs.length hc, .string r.b] 29)) from (Below.refl _ _).alloc (Nat.le_refl _) _)
  have X0 := hide (BoxV.made w [.string r.m, .string r.p, .slice ha r.hs.length hc, .string r.b] 29)
  have HH := hide (fun W (hb : Below w.heap.size w W) => (specHeadOf_any ha r.hs hc B depN W (h.below hb hB) hl).mono (fun e w2 q => (⟨q.1, by rw [q.2]; exact Below.refl _ _⟩ : _ ∧ Below W.heap.size W w2)))
  have hv : (hdOf r.hs depN).1.size ≤ 1048576 := by
    clear K0 X0 HH h hB hl
    generalize r.hs = l at *
    induction l with
    | nil => exact Nat.zero_le _
    | cons a l ih =>
      rw [hdOf]
      split
      · exact hz a (List.mem_cons_self ..)
      · exact ih (fun x hx => hz x (List.mem_cons_of_mem _ hx))
  have hd0 : (depN : ByteArray) = ⟨#[100, 101, 112, 116, 104]⟩ := rfl
  have HQ := hide (HH.out _ K0.out)
  unfold depI
  obtain ⟨v, hve⟩ : ∃ v, (hdOf r.hs depN).1 = v := ⟨_, rfl⟩
  obtain ⟨b, hbe⟩ : ∃ b, (hdOf r.hs depN).2 = b := ⟨_, rfl⟩
  rw [hve] at hv
  rw [hve, hbe] at HQ ⊢
  have HV := hide (fun W => (specLower_any v W (Nat.le_trans hv (by decide))))
  clear hve hbe h hB hl hz HH
  have x2 := (X0.out.2 2 _ rfl).1
  unfold depN at HQ
  cases b
  · simp only [Bool.false_eq_true, if_false]
    go_enter Try.func6, Try.ntmps6
    go_wp2_with fail
    refine HQ.out.mono ?_
    rintro e w1 ⟨rfl, b1⟩
    have K1 := hide (K0.out.trans (b1.mono K0.out.size))
    clear b1 x2
    go_wp2
    go_ret
    exact ⟨rfl, K1.out⟩
  simp only [if_true]
  have g0 := eq_t0 (lowA v)
  have g1 := eq_t1 (lowA v)
  have g2 := eq_tInf (lowA v)
  have k0 := eq_t0 v
  have k1 := eq_t1 v
  have l0 := low_t0 v
  have l1 := low_t1 v
  have HV := hide (show ∀ W, Calls Try.prog 20 #[.string v] W fun e w' => e = .returned (.string (lowA v)) ∧ Below W.heap.size W w' from HV.out)
  unfold depV
  generalize lowA v = u at *
  by_cases e0 : v = t0
  · rw [if_pos e0]
    rw [decide_eq_true e0] at k0
    rw [decide_eq_true (l0.2 e0)] at g0
    clear l0 l1 e0 g1 g2 k1
    go_enter Try.func6, Try.ntmps6
    go_wp2_with fail
    refine HQ.out.mono ?_
    rintro e w1 ⟨rfl, b1⟩
    have K1 := hide (K0.out.trans (b1.mono K0.out.size))
    clear b1 x2
    go_wp2_with fail
    refine (HV.out _).mono ?_
    rintro e w2 ⟨rfl, b2⟩
    have K2 := hide (K1.out.trans (b2.mono K1.out.size))
    clear b2
    go_wp2
    go_ret
    exact ⟨rfl, K2.out⟩
  rw [if_neg e0]
  rw [decide_eq_false e0] at k0
  rw [decide_eq_false (fun e => e0 (l0.1 e))] at g0
  by_cases e1 : v = t1
  · rw [if_pos e1]
    rw [decide_eq_true e1] at k1
    rw [decide_eq_true (l1.2 e1)] at g1
    clear l0 l1 e0 e1 g2
    go_enter Try.func6, Try.ntmps6
    go_wp2_with fail
    refine HQ.out.mono ?_
    rintro e w1 ⟨rfl, b1⟩
    have K1 := hide (K0.out.trans (b1.mono K0.out.size))
    clear b1 x2
    go_wp2_with fail
    refine (HV.out _).mono ?_
    rintro e w2 ⟨rfl, b2⟩
    have K2 := hide (K1.out.trans (b2.mono K1.out.size))
    clear b2
    go_wp2
    go_ret
    exact ⟨rfl, K2.out⟩
  rw [if_neg e1]
  rw [decide_eq_false e1] at k1
  rw [decide_eq_false (fun e => e1 (l1.1 e))] at g1
  clear l0 l1 e0 e1
  by_cases e2 : u = tInf
  · rw [if_pos e2]
    rw [decide_eq_true e2] at g2
    clear e2
    go_enter Try.func6, Try.ntmps6
    go_wp2_with fail
    refine HQ.out.mono ?_
    rintro e w1 ⟨rfl, b1⟩
    have K1 := hide (K0.out.trans (b1.mono K0.out.size))
    clear b1 x2
    go_wp2_with fail
    refine (HV.out _).mono ?_
    rintro e w2 ⟨rfl, b2⟩
    have K2 := hide (K1.out.trans (b2.mono K1.out.size))
    clear b2
    go_wp2
    go_ret
    exact ⟨rfl, K2.out⟩
  rw [if_neg e2]
  rw [decide_eq_false e2] at g2
  clear e2
  go_enter Try.func6, Try.ntmps6
  go_wp2_with fail
  refine HQ.out.mono ?_
  rintro e w1 ⟨rfl, b1⟩
  have K1 := hide (K0.out.trans (b1.mono K0.out.size))
  clear b1 x2
  go_wp2_with fail
  refine (HV.out _).mono ?_
  rintro e w2 ⟨rfl, b2⟩
  have K2 := hide (K1.out.trans (b2.mono K1.out.size))
  clear b2
  go_wp2
  go_ret
  exact ⟨rfl, K2.out⟩

set_option maxRecDepth 100000 in
set_option maxHeartbeats 4000000 in
theorem depth_any (r : Rq) (ha : Option Addr) (hc B : Nat) (most : Int) (w : World) (h : Hds w B ha r.hs) (hB : B ≤ w.heap.size) (hl : r.hs.length ≤ maxLen) (hz : ∀ x ∈ r.hs, x.2.size ≤ 1048576) :
    Calls Try.prog 8 #[.agg #[.string r.m, .string r.p, .slice ha r.hs.length hc, .string r.b], .int .i64 most] w fun e w' => e = .returned (.int .i64 (depI r.hs most)) ∧ Below w.heap.size w w' := by
  have K0 := hide (show Below w.heap.size w (w.alloc (Obj.cells #[.string r.m, .string r.p, .slice ha r.hs.length hc, .string r.b] 29)) from (Below.refl _ _).alloc (Nat.le_refl _) _)
  have X0 := hide (BoxV.made w [.string r.m, .string r.p, .slice ha r.hs.length hc, .string r.b] 29)
  have HH := hide (fun W (hb : Below w.heap.size w W) => headOf_any ha r.hs hc B depN W (h.below hb hB) (Nat.le_trans hB hb.size) hl (fun x hx => Nat.le_trans (hz x hx) (by decide)))
  have hv : (hdOf r.hs depN).1.size ≤ 1048576 := by
    clear K0 X0 HH h hB hl
    generalize r.hs = l at *
    induction l with
    | nil => exact Nat.zero_le _
    | cons a l ih =>
      rw [hdOf]
      split
      · exact hz a (List.mem_cons_self ..)
      · exact ih (fun x hx => hz x (List.mem_cons_of_mem _ hx))
  have hd0 : (depN : ByteArray) = ⟨#[100, 101, 112, 116, 104]⟩ := rfl
  have HQ := hide (HH.out _ K0.out)
  unfold depI
  obtain ⟨v, hve⟩ : ∃ v, (hdOf r.hs depN).1 = v := ⟨_, rfl⟩
  obtain ⟨b, hbe⟩ : ∃ b, (hdOf r.hs depN).2 = b := ⟨_, rfl⟩
  rw [hve] at hv
  rw [hve, hbe] at HQ ⊢
  have HV := hide (fun W => (lower_any v W (Nat.le_trans hv (by decide))))
  clear hve hbe h hB hl hz HH
  have x2 := (X0.out.2 2 _ rfl).1
  unfold depN at HQ
  cases b
  · simp only [Bool.false_eq_true, if_false]
    go_enter Try.func8, Try.ntmps8
    go_wp2_with fail
    refine HQ.out.mono ?_
    rintro e w1 ⟨rfl, b1⟩
    have K1 := hide (K0.out.trans (b1.mono K0.out.size))
    clear b1 x2
    go_wp2
    go_ret
    exact ⟨rfl, K1.out⟩
  simp only [if_true]
  have g0 := eq_t0 (lowA v)
  have g1 := eq_t1 (lowA v)
  have g2 := eq_tInf (lowA v)
  have k0 := eq_t0 v
  have k1 := eq_t1 v
  have l0 := low_t0 v
  have l1 := low_t1 v
  have HV := hide (show ∀ W, Calls Try.prog 23 #[.string v] W fun e w' => e = .returned (.string (lowA v)) ∧ Below W.heap.size W w' from HV.out)
  unfold depV
  generalize lowA v = u at *
  by_cases e0 : v = t0
  · rw [if_pos e0]
    rw [decide_eq_true e0] at k0
    rw [decide_eq_true (l0.2 e0)] at g0
    clear l0 l1 e0 g1 g2 k1
    go_enter Try.func8, Try.ntmps8
    go_wp2_with fail
    refine HQ.out.mono ?_
    rintro e w1 ⟨rfl, b1⟩
    have K1 := hide (K0.out.trans (b1.mono K0.out.size))
    clear b1 x2
    go_wp2
    go_ret
    exact ⟨rfl, K1.out⟩
  rw [if_neg e0]
  rw [decide_eq_false e0] at k0
  rw [decide_eq_false (fun e => e0 (l0.1 e))] at g0
  by_cases e1 : v = t1
  · rw [if_pos e1]
    rw [decide_eq_true e1] at k1
    rw [decide_eq_true (l1.2 e1)] at g1
    clear l0 l1 e0 e1 g2
    go_enter Try.func8, Try.ntmps8
    go_wp2_with fail
    refine HQ.out.mono ?_
    rintro e w1 ⟨rfl, b1⟩
    have K1 := hide (K0.out.trans (b1.mono K0.out.size))
    clear b1 x2
    go_wp2
    go_ret
    exact ⟨rfl, K1.out⟩
  rw [if_neg e1]
  rw [decide_eq_false e1] at k1
  rw [decide_eq_false (fun e => e1 (l1.1 e))] at g1
  clear l0 l1 e0 e1
  by_cases e2 : u = tInf
  · rw [if_pos e2]
    rw [decide_eq_true e2] at g2
    clear e2
    go_enter Try.func8, Try.ntmps8
    go_wp2_with fail
    refine HQ.out.mono ?_
    rintro e w1 ⟨rfl, b1⟩
    have K1 := hide (K0.out.trans (b1.mono K0.out.size))
    clear b1 x2
    go_wp2_with fail
    refine (HV.out _).mono ?_
    rintro e w2 ⟨rfl, b2⟩
    have K2 := hide (K1.out.trans (b2.mono K1.out.size))
    clear b2
    go_wp2
    go_ret
    exact ⟨rfl, K2.out⟩
  rw [if_neg e2]
  rw [decide_eq_false e2] at g2
  clear e2
  go_enter Try.func8, Try.ntmps8
  go_wp2_with fail
  refine HQ.out.mono ?_
  rintro e w1 ⟨rfl, b1⟩
  have K1 := hide (K0.out.trans (b1.mono K0.out.size))
  clear b1 x2
  go_wp2_with fail
  refine (HV.out _).mono ?_
  rintro e w2 ⟨rfl, b2⟩
  have K2 := hide (K1.out.trans (b2.mono K1.out.size))
  clear b2
  go_wp2
  go_ret
  exact ⟨rfl, K2.out⟩

theorem hds_szv {l : List Hd} {m : Nat} (h : szRs (l.map dHd) ≤ m) : ∀ x ∈ l, x.2.size ≤ m := fun x hx => by have := hds_size h x hx; omega
theorem req_sz {r : Rq} (h : szR (dRq r) ≤ 1048576) : szRs (r.hs.map dHd) ≤ 1048576 := by
  have e : szR (dRq r) = r.m.size + r.p.size + szRs (r.hs.map dHd) + r.b.size := by
    simp [dRq, szR, szF, szV]; try omega
  omega
theorem specDepth_gen (r : Rq) (most : Int) (u : Value) (W : World) (h : View W W.heap.size u (.l (r.hs.map dHd))) (hsz : szR (dRq r) ≤ 1048576) :
    Calls Try.prog 6 #[.agg #[.string r.m, .string r.p, u, .string r.b], .int .i64 most] W fun e w' => e = .returned (.int .i64 (depI r.hs most)) ∧ Below W.heap.size W w' := by
  obtain ⟨a, cap, rfl, k1, k2, k3, k4⟩ := hds_of_view h
  exact specDepth_any r a cap W.heap.size most W k4 (Nat.le_refl _) (Nat.le_trans k1 k2) (hds_szv (req_sz hsz))
theorem depth_gen (r : Rq) (most : Int) (u : Value) (W : World) (h : View W W.heap.size u (.l (r.hs.map dHd))) (hsz : szR (dRq r) ≤ 1048576) :
    Calls Try.prog 8 #[.agg #[.string r.m, .string r.p, u, .string r.b], .int .i64 most] W fun e w' => e = .returned (.int .i64 (depI r.hs most)) ∧ Below W.heap.size W w' := by
  obtain ⟨a, cap, rfl, k1, k2, k3, k4⟩ := hds_of_view h
  exact depth_any r a cap W.heap.size most W k4 (Nat.le_refl _) (Nat.le_trans k1 k2) (hds_szv (req_sz hsz))
end Go.Proofs.Ytckhjemojopekaa
