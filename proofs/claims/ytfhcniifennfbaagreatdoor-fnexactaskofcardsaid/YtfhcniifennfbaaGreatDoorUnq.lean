/-
  The leafs of a head.
  The leafs of a request.
  Views of heads, as what a slice of heads holds.
  DepthOf on both sides.
  What the specification's l2Split does: a text, cut at slashes.
  What the specification's l1HexOf does.
  Appending some bytes to a row of bytes that the call owns, at a step of a statement whose order is drawn.
  What the specification's Unquote does.
  What writing one byte into a strings.Builder does that the call made itself.
  What the library's ParseUint and ParseInt do at base 16, of one to four digits; what the program's ParseHex does.
  What the library's ParseInt does at base 16, of one to four digits; what the program's ParseHex does.
  What the program's Unquote does.
-/
import Derived.Test.YtfhcniifennfbaaGreatDoorMathMark2
import Derived.Test.YtfhcniifennfbaaGreatDoorMathLock
import Derived.Test.YtfhcniifennfbaaGreatDoorSpecLower
import Derived.Test.YtfhcniifennfbaaGreatDoorMathHex
import Derived.Test.YtfhcniifennfbaaGreatDoorHas9
import Derived.Test.YtfhcniifennfbaaGreatDoorKinds
import Derived.Deep.RegionHeld3
import Derived.Deep.AppendLies
import Derived.Lib.Builder
import Derived.Test.YtfhcniifennfbaaGreatDoorTokenOk
import Derived.Test.YtfhcniifennfbaaGreatDoorShelf
import Derived.Laws.Closers25b
import Derived.BigCall
import Derived.BigGuard
namespace Go.Proofs.YtfhcniifennfbaaGreatDoor
open Go.RowKit M

def dHd (x : Hd) : List Lf := [.c (.string x.1), .c (.string x.2)]
end Go.Proofs.YtfhcniifennfbaaGreatDoor
namespace Go.Proofs.YtfhcniifennfbaaGreatDoor
open Go.RowKit M

def dRq (x : Rq) : List Lf := [.c (.string x.m), .c (.string x.p), .l (x.hs.map dHd), .c (.string x.b)]
end Go.Proofs.YtfhcniifennfbaaGreatDoor
namespace Go.Proofs.YtfhcniifennfbaaGreatDoor
open Go.RowKit M
set_option linter.unusedVariables false

theorem hds_of_view {w : World} {B : Nat} {v : Value} {l : List Hd} (h : View w B v (.l (l.map dHd))) : ∃ a cap, v = .slice a l.length cap ∧ l.length ≤ cap ∧ cap ≤ maxLen ∧ (a = none → cap = 0) ∧ Hds w B a l := by
  obtain ⟨a, cap, h1, h2, h3, h4, h5⟩ := h.rows 2 (fun _ => rfl)
  refine ⟨a, cap, h1, h2, h3, h4, fun h0 => ?_⟩
  obtain ⟨b, o, C, e, hb, hc⟩ := h5 h0
  refine ⟨b, o, e, hb, fun j hj => ?_⟩
  obtain ⟨c0, v0⟩ := hc j hj 0 (.c (.string l[j].1)) rfl
  obtain ⟨c1, v1⟩ := hc j hj 1 (.c (.string l[j].2)) rfl
  rw [v0.inv] at c0
  rw [v1.inv] at c1
  exact ⟨c0, c1⟩
/-- The sizes of heads. -/
theorem hds_size {l : List Hd} {m : Nat} (h : szRs (l.map dHd) ≤ m) : ∀ x ∈ l, x.1.size + x.2.size ≤ m := by
  induction l with
  | nil => intro x hx; cases hx
  | cons a r ih =>
    intro x hx
    have e : szRs ((a :: r).map dHd) = 1 + (a.1.size + a.2.size) + szRs (r.map dHd) := by
      simp [szRs, szR, szF, szV, dHd]; try omega
    rw [e] at h
    rcases List.mem_cons.1 hx with rfl | hx
    · omega
    · exact Nat.le_trans (ih (by omega) x hx) (Nat.le_refl _)
theorem hdOf_size {l : List Hd} {m : Nat} (h : ∀ x ∈ l, x.1.size + x.2.size ≤ m) (n : ByteArray) : (hdOf l n).1.size ≤ m := by
  induction l with
  | nil => exact Nat.zero_le _
  | cons a r ih =>
    rw [hdOf]
    split
    · have := h a (List.mem_cons_self ..); simp only; omega
    · exact ih (fun x hx => h x (List.mem_cons_of_mem _ hx))
end Go.Proofs.YtfhcniifennfbaaGreatDoor
namespace Go.Proofs.YtfhcniifennfbaaGreatDoor
open Go.RowKit M
set_option linter.unusedVariables false


set_option maxRecDepth 100000 in
set_option maxHeartbeats 4000000 in
theorem specDepth_any (r : Rq) (ha : Option Addr) (hc B : Nat) (most : Int) (w : World) (h : Hds w B ha r.hs) (hB : B ≤ w.heap.size) (hl : r.hs.length ≤ maxLen) (hz : ∀ x ∈ r.hs, x.2.size ≤ 1048576) :
    Calls Tryz.prog 22 #[.agg #[.string r.m, .string r.p, .slice ha r.hs.length hc, .string r.b], .int .i64 most] w fun e w' => e = .returned (.int .i64 (depI r.hs most)) ∧ Below w.heap.size w w' := by
  have K0 := hide (show Below w.heap.size w (w.alloc (Obj.cells #[.string r.m, .string r.p, .slice ha r.hs.length hc, .string r.b] 43)) from (Below.refl _ _).alloc (Nat.le_refl _) _)
  have X0 := hide (BoxV.made w [.string r.m, .string r.p, .slice ha r.hs.length hc, .string r.b] 43)
  have HH := hide (fun W (hb : Below w.heap.size w W) => (specHeadOf_any ha r.hs hc B depN W (h.below hb hB) hl).mono (fun e w2 q => (⟨q.1, by rw [q.2]; exact Below.refl _ _⟩ : _ ∧ Below W.heap.size W w2)))
  have hv : (hdOf r.hs depN).1.size ≤ 1048576 := by
    clear K0 X0 HH h hB hl
    generalize r.hs = l at *
    induction l with
    | nil => exact Nat.zero_le _
    | cons a l ih =>
      rw [hdOf]
      split
      · exact hz a (List.mem_cons_self ..)
      · exact ih (fun x hx => hz x (List.mem_cons_of_mem _ hx))
  have hd0 : (depN : ByteArray) = ⟨#[100, 101, 112, 116, 104]⟩ := rfl
  have HQ := hide (HH.out _ K0.out)
  unfold depI
  obtain ⟨v, hve⟩ : ∃ v, (hdOf r.hs depN).1 = v := ⟨_, rfl⟩
  obtain ⟨b, hbe⟩ : ∃ b, (hdOf r.hs depN).2 = b := ⟨_, rfl⟩
  rw [hve] at hv
  rw [hve, hbe] at HQ ⊢
  have HV := hide (fun W => (specLower_any v W (Nat.le_trans hv (by decide))))
  clear hve hbe h hB hl hz HH
  have x2 := (X0.out.2 2 _ rfl).1
  unfold depN at HQ
  cases b
  · simp only [Bool.false_eq_true, if_false]
    go_enter Tryz.func22, Tryz.ntmps22
    go_wp2_with fail
    refine HQ.out.mono ?_
    rintro e w1 ⟨rfl, b1⟩
    have K1 := hide (K0.out.trans (b1.mono K0.out.size))
    clear b1 x2
    go_wp2
    go_ret
    exact ⟨rfl, K1.out⟩
  simp only [if_true]
  have g0 := eq_t0 (lowA v)
  have g1 := eq_t1 (lowA v)
  have g2 := eq_tInf (lowA v)
  have k0 := eq_t0 v
  have k1 := eq_t1 v
  have l0 := low_t0 v
  have l1 := low_t1 v
  have HV := hide (show ∀ W, Calls Tryz.prog 47 #[.string v] W fun e w' => e = .returned (.string (lowA v)) ∧ Below W.heap.size W w' from HV.out)
  unfold depV
  generalize lowA v = u at *
  by_cases e0 : v = t0
  · rw [if_pos e0]
    rw [decide_eq_true e0] at k0
    rw [decide_eq_true (l0.2 e0)] at g0
    clear l0 l1 e0 g1 g2 k1
    go_enter Tryz.func22, Tryz.ntmps22
    go_wp2_with fail
    refine HQ.out.mono ?_
    rintro e w1 ⟨rfl, b1⟩
    have K1 := hide (K0.out.trans (b1.mono K0.out.size))
    clear b1 x2
    go_wp2_with fail
    refine (HV.out _).mono ?_
    rintro e w2 ⟨rfl, b2⟩
    have K2 := hide (K1.out.trans (b2.mono K1.out.size))
    clear b2
    go_wp2
    go_ret
    exact ⟨rfl, K2.out⟩
  rw [if_neg e0]
  rw [decide_eq_false e0] at k0
  rw [decide_eq_false (fun e => e0 (l0.1 e))] at g0
  by_cases e1 : v = t1
  · rw [if_pos e1]
    rw [decide_eq_true e1] at k1
    rw [decide_eq_true (l1.2 e1)] at g1
    clear l0 l1 e0 e1 g2
    go_enter Tryz.func22, Tryz.ntmps22
    go_wp2_with fail
    refine HQ.out.mono ?_
    rintro e w1 ⟨rfl, b1⟩
    have K1 := hide (K0.out.trans (b1.mono K0.out.size))
    clear b1 x2
    go_wp2_with fail
    refine (HV.out _).mono ?_
    rintro e w2 ⟨rfl, b2⟩
    have K2 := hide (K1.out.trans (b2.mono K1.out.size))
    clear b2
    go_wp2
    go_ret
    exact ⟨rfl, K2.out⟩
  rw [if_neg e1]
  rw [decide_eq_false e1] at k1
  rw [decide_eq_false (fun e => e1 (l1.1 e))] at g1
  clear l0 l1 e0 e1
  by_cases e2 : u = tInf
  · rw [if_pos e2]
    rw [decide_eq_true e2] at g2
    clear e2
    go_enter Tryz.func22, Tryz.ntmps22
    go_wp2_with fail
    refine HQ.out.mono ?_
    rintro e w1 ⟨rfl, b1⟩
    have K1 := hide (K0.out.trans (b1.mono K0.out.size))
    clear b1 x2
    go_wp2_with fail
    refine (HV.out _).mono ?_
    rintro e w2 ⟨rfl, b2⟩
    have K2 := hide (K1.out.trans (b2.mono K1.out.size))
    clear b2
    go_wp2
    go_ret
    exact ⟨rfl, K2.out⟩
  rw [if_neg e2]
  rw [decide_eq_false e2] at g2
  clear e2
  go_enter Tryz.func22, Tryz.ntmps22
  go_wp2_with fail
  refine HQ.out.mono ?_
  rintro e w1 ⟨rfl, b1⟩
  have K1 := hide (K0.out.trans (b1.mono K0.out.size))
  clear b1 x2
  go_wp2_with fail
  refine (HV.out _).mono ?_
  rintro e w2 ⟨rfl, b2⟩
  have K2 := hide (K1.out.trans (b2.mono K1.out.size))
  clear b2
  go_wp2
  go_ret
  exact ⟨rfl, K2.out⟩

set_option maxRecDepth 100000 in
set_option maxHeartbeats 4000000 in
theorem depth_any (r : Rq) (ha : Option Addr) (hc B : Nat) (most : Int) (w : World) (h : Hds w B ha r.hs) (hB : B ≤ w.heap.size) (hl : r.hs.length ≤ maxLen) (hz : ∀ x ∈ r.hs, x.2.size ≤ 1048576) :
    Calls Tryz.prog 66 #[.agg #[.string r.m, .string r.p, .slice ha r.hs.length hc, .string r.b], .int .i64 most] w fun e w' => e = .returned (.int .i64 (depI r.hs most)) ∧ Below w.heap.size w w' := by
  have K0 := hide (show Below w.heap.size w (w.alloc (Obj.cells #[.string r.m, .string r.p, .slice ha r.hs.length hc, .string r.b] 43)) from (Below.refl _ _).alloc (Nat.le_refl _) _)
  have X0 := hide (BoxV.made w [.string r.m, .string r.p, .slice ha r.hs.length hc, .string r.b] 43)
  have HH := hide (fun W (hb : Below w.heap.size w W) => headOf_any ha r.hs hc B depN W (h.below hb hB) (Nat.le_trans hB hb.size) hl (fun x hx => Nat.le_trans (hz x hx) (by decide)))
  have hv : (hdOf r.hs depN).1.size ≤ 1048576 := by
    clear K0 X0 HH h hB hl
    generalize r.hs = l at *
    induction l with
    | nil => exact Nat.zero_le _
    | cons a l ih =>
      rw [hdOf]
      split
      · exact hz a (List.mem_cons_self ..)
      · exact ih (fun x hx => hz x (List.mem_cons_of_mem _ hx))
  have hd0 : (depN : ByteArray) = ⟨#[100, 101, 112, 116, 104]⟩ := rfl
  have HQ := hide (HH.out _ K0.out)
  unfold depI
  obtain ⟨v, hve⟩ : ∃ v, (hdOf r.hs depN).1 = v := ⟨_, rfl⟩
  obtain ⟨b, hbe⟩ : ∃ b, (hdOf r.hs depN).2 = b := ⟨_, rfl⟩
  rw [hve] at hv
  rw [hve, hbe] at HQ ⊢
  have HV := hide (fun W => (lower_any v W (Nat.le_trans hv (by decide))))
  clear hve hbe h hB hl hz HH
  have x2 := (X0.out.2 2 _ rfl).1
  unfold depN at HQ
  cases b
  · simp only [Bool.false_eq_true, if_false]
    go_enter Tryz.func66, Tryz.ntmps66
    go_wp2_with fail
    refine HQ.out.mono ?_
    rintro e w1 ⟨rfl, b1⟩
    have K1 := hide (K0.out.trans (b1.mono K0.out.size))
    clear b1 x2
    go_wp2
    go_ret
    exact ⟨rfl, K1.out⟩
  simp only [if_true]
  have g0 := eq_t0 (lowA v)
  have g1 := eq_t1 (lowA v)
  have g2 := eq_tInf (lowA v)
  have k0 := eq_t0 v
  have k1 := eq_t1 v
  have l0 := low_t0 v
  have l1 := low_t1 v
  have HV := hide (show ∀ W, Calls Tryz.prog 96 #[.string v] W fun e w' => e = .returned (.string (lowA v)) ∧ Below W.heap.size W w' from HV.out)
  unfold depV
  generalize lowA v = u at *
  by_cases e0 : v = t0
  · rw [if_pos e0]
    rw [decide_eq_true e0] at k0
    rw [decide_eq_true (l0.2 e0)] at g0
    clear l0 l1 e0 g1 g2 k1
    go_enter Tryz.func66, Tryz.ntmps66
    go_wp2_with fail
    refine HQ.out.mono ?_
    rintro e w1 ⟨rfl, b1⟩
    have K1 := hide (K0.out.trans (b1.mono K0.out.size))
    clear b1 x2
    go_wp2
    go_ret
    exact ⟨rfl, K1.out⟩
  rw [if_neg e0]
  rw [decide_eq_false e0] at k0
  rw [decide_eq_false (fun e => e0 (l0.1 e))] at g0
  by_cases e1 : v = t1
  · rw [if_pos e1]
    rw [decide_eq_true e1] at k1
    rw [decide_eq_true (l1.2 e1)] at g1
    clear l0 l1 e0 e1 g2
    go_enter Tryz.func66, Tryz.ntmps66
    go_wp2_with fail
    refine HQ.out.mono ?_
    rintro e w1 ⟨rfl, b1⟩
    have K1 := hide (K0.out.trans (b1.mono K0.out.size))
    clear b1 x2
    go_wp2
    go_ret
    exact ⟨rfl, K1.out⟩
  rw [if_neg e1]
  rw [decide_eq_false e1] at k1
  rw [decide_eq_false (fun e => e1 (l1.1 e))] at g1
  clear l0 l1 e0 e1
  by_cases e2 : u = tInf
  · rw [if_pos e2]
    rw [decide_eq_true e2] at g2
    clear e2
    go_enter Tryz.func66, Tryz.ntmps66
    go_wp2_with fail
    refine HQ.out.mono ?_
    rintro e w1 ⟨rfl, b1⟩
    have K1 := hide (K0.out.trans (b1.mono K0.out.size))
    clear b1 x2
    go_wp2_with fail
    refine (HV.out _).mono ?_
    rintro e w2 ⟨rfl, b2⟩
    have K2 := hide (K1.out.trans (b2.mono K1.out.size))
    clear b2
    go_wp2
    go_ret
    exact ⟨rfl, K2.out⟩
  rw [if_neg e2]
  rw [decide_eq_false e2] at g2
  clear e2
  go_enter Tryz.func66, Tryz.ntmps66
  go_wp2_with fail
  refine HQ.out.mono ?_
  rintro e w1 ⟨rfl, b1⟩
  have K1 := hide (K0.out.trans (b1.mono K0.out.size))
  clear b1 x2
  go_wp2_with fail
  refine (HV.out _).mono ?_
  rintro e w2 ⟨rfl, b2⟩
  have K2 := hide (K1.out.trans (b2.mono K1.out.size))
  clear b2
  go_wp2
  go_ret
  exact ⟨rfl, K2.out⟩

theorem hds_szv {l : List Hd} {m : Nat} (h : szRs (l.map dHd) ≤ m) : ∀ x ∈ l, x.2.size ≤ m := fun x hx => by have := hds_size h x hx; omega
theorem req_sz {r : Rq} (h : szR (dRq r) ≤ 1048576) : szRs (r.hs.map dHd) ≤ 1048576 := by
  have e : szR (dRq r) = r.m.size + r.p.size + szRs (r.hs.map dHd) + r.b.size := by
    simp [dRq, szR, szF, szV]; try omega
  omega
theorem specDepth_gen (r : Rq) (most : Int) (u : Value) (W : World) (h : View W W.heap.size u (.l (r.hs.map dHd))) (hsz : szR (dRq r) ≤ 1048576) :
    Calls Tryz.prog 22 #[.agg #[.string r.m, .string r.p, u, .string r.b], .int .i64 most] W fun e w' => e = .returned (.int .i64 (depI r.hs most)) ∧ Below W.heap.size W w' := by
  obtain ⟨a, cap, rfl, k1, k2, k3, k4⟩ := hds_of_view h
  exact specDepth_any r a cap W.heap.size most W k4 (Nat.le_refl _) (Nat.le_trans k1 k2) (hds_szv (req_sz hsz))
theorem depth_gen (r : Rq) (most : Int) (u : Value) (W : World) (h : View W W.heap.size u (.l (r.hs.map dHd))) (hsz : szR (dRq r) ≤ 1048576) :
    Calls Tryz.prog 66 #[.agg #[.string r.m, .string r.p, u, .string r.b], .int .i64 most] W fun e w' => e = .returned (.int .i64 (depI r.hs most)) ∧ Below W.heap.size W w' := by
  obtain ⟨a, cap, rfl, k1, k2, k3, k4⟩ := hds_of_view h
  exact depth_any r a cap W.heap.size most W k4 (Nat.le_refl _) (Nat.le_trans k1 k2) (hds_szv (req_sz hsz))
end Go.Proofs.YtfhcniifennfbaaGreatDoor
namespace Go.Proofs.YtfhcniifennfbaaGreatDoor
open Go.RowKit M
set_option linter.unusedVariables false

/-- How far a text is cut. -/
def CutAt (l : List UInt8) (k fr : Nat) (done : List (List UInt8)) : Prop :=
  done.length ≤ k ∧ fr ≤ k ∧ ((k ≤ l.length ∧ cuts l = done ++ cuts (l.drop fr) ∧ 47 ∉ (l.drop fr).take (k - fr)) ∨ (k = l.length + 1 ∧ done = cuts l))

theorem CutAt.start (l : List UInt8) : CutAt l 0 0 [] := ⟨Nat.le_refl _, Nat.le_refl _, .inl ⟨Nat.zero_le _, by simp, by simp⟩⟩

theorem take_next (l : List UInt8) (fr k : Nat) (hf : fr ≤ k) (hk : k < l.length) : (l.drop fr).take (k + 1 - fr) = (l.drop fr).take (k - fr) ++ [l[k]] := by
  have h1 : k - fr < (l.drop fr).length := by rw [List.length_drop]; omega
  rw [show k + 1 - fr = (k - fr) + 1 by omega, List.take_succ_eq_append_getElem h1, List.getElem_drop]
  congr 3
  omega

theorem CutAt.skip {l : List UInt8} {k fr : Nat} {done : List (List UInt8)} (h : CutAt l k fr done) (hk : k < l.length) (hc : ¬ l[k] = 47) : CutAt l (k + 1) fr done := by
  obtain ⟨h1, h2, h3 | h3⟩ := h
  · refine ⟨by omega, by omega, .inl ⟨by omega, h3.2.1, ?_⟩⟩
    rw [take_next l fr k h2 hk]
    intro hm
    rcases List.mem_append.1 hm with hm | hm
    · exact h3.2.2 hm
    · simp at hm; exact hc hm.symm
  · exact absurd hk (by omega)

theorem drop_parts (l : List UInt8) (fr k : Nat) (hf : fr ≤ k) (hk : k < l.length) : l.drop fr = (l.drop fr).take (k - fr) ++ l[k] :: l.drop (k + 1) := by
  conv => lhs; rw [← List.take_append_drop (k - fr) (l.drop fr)]
  rw [List.drop_drop, show fr + (k - fr) = k by omega, List.drop_eq_getElem_cons hk]

theorem CutAt.cut {l : List UInt8} {k fr : Nat} {done : List (List UInt8)} (h : CutAt l k fr done) (hk : k < l.length) (hc : l[k] = 47) : CutAt l (k + 1) (k + 1) (done ++ [(l.drop fr).take (k - fr)]) := by
  obtain ⟨h1, h2, h3 | h3⟩ := h
  · refine ⟨by simp; omega, Nat.le_refl _, .inl ⟨by omega, ?_, by simp⟩⟩
    rw [h3.2.1, List.append_assoc]
    congr 1
    conv => lhs; rw [drop_parts l fr k h2 hk, hc]
    rw [cuts_app _ _ h3.2.2]
    rfl
  · exact absurd hk (by omega)

theorem CutAt.last {l : List UInt8} {k fr : Nat} {done : List (List UInt8)} (h : CutAt l k fr done) (hk : k = l.length) : CutAt l (k + 1) (k + 1) (done ++ [(l.drop fr).take (k - fr)]) := by
  obtain ⟨h1, h2, h3 | h3⟩ := h
  · refine ⟨by simp; omega, Nat.le_refl _, .inr ⟨by omega, ?_⟩⟩
    have e : (l.drop fr).take (k - fr) = l.drop fr := List.take_of_length_le (by rw [List.length_drop]; omega)
    rw [e] at h3 ⊢
    rw [h3.2.1, cuts_none _ h3.2.2]
  · exact absurd hk (by omega)

theorem extract_piece (s : ByteArray) (fr k : Nat) : s.extract fr k = bytesOf ((s.data.toList.drop fr).take (k - fr)) := by
  apply ByteArray.ext
  have h1 : (s.extract fr k).data = s.data.extract fr k := by simp
  rw [h1]
  apply Array.ext'
  rw [Array.toList_extract]
  rfl

set_option maxHeartbeats 2000000 in
theorem l2Split_any (s : ByteArray) (w : World) (hs : s.size ≤ 1048576) :
    Calls Tryz.prog 80 #[.string s, .int .u8 47] w fun e w' => (∃ g cap, e = .returned (.slice (some ⟨g, 0, none⟩) (piecesL s.data.toList).length cap) ∧ w'.ownsRow w.heap.size 9 1 (.slice (some ⟨g, 0, none⟩) (piecesL s.data.toList).length cap) (piecesL s.data.toList).length (strCells (piecesL s.data.toList))) ∧ Below w.heap.size w w' := by
  have el : s.data.toList.length = s.size := Array.length_toList
  have EL : Hid (s.data.toList.length = s.size) := el
  clear el
  go_enter Tryz.func80, Tryz.ntmps80
  go_wp2
  go_loopw [5, 6, 7] (fun v f i wr => ∃ (k fr : Nat) (done : List (List UInt8)) (g cap : Nat), i = .int .i64 k ∧ f = .int .i64 fr ∧ v = .slice (some ⟨g, 0, none⟩) done.length cap ∧ k ≤ s.size + 1 ∧ CutAt s.data.toList k fr done ∧ wr.ownsRow w.heap.size 9 1 (.slice (some ⟨g, 0, none⟩) done.length cap) done.length (strCells (done.map bytesOf)) ∧ Below w.heap.size w wr) (fun _ _ i _ => s.size + 1 - (intOf i).toNat)
  case atStart => exact ⟨0, 0, [], w.heap.size, 0, rfl, rfl, rfl, Nat.zero_le _, CutAt.start _, World.ownsRow_made w #[] 0 (Nat.le_refl _) (by decide) rfl, (Below.refl _ _).alloc (Nat.le_refl _) _⟩
  case round =>
    obtain ⟨k, fr, done, g, cap, rfl, rfl, rfl, hk1, hC, hown, hbe⟩ := hrel
    have HC : Hid (CutAt s.data.toList k fr done) := hC
    have hdl : done.length ≤ k := hC.1
    have hfk : fr ≤ k := hC.2.1
    clear hC
    by_cases hout : k ≤ s.size
    · have HE : Hid (s.extract fr k = bytesOf ((s.data.toList.drop fr).take (k - fr))) := extract_piece s fr k
      by_cases hlt : k < s.size
      · have hne : ((k : Int) == s.size) = false := by
          apply beq_eq_false_iff_ne.2; omega
        by_cases hc : s[k] = 47
        · have hb47 : ((s[k].toNat : Int) == 47) = true := by rw [hc]; rfl
          have HN : Hid (CutAt s.data.toList (k + 1) (k + 1) (done ++ [(s.data.toList.drop fr).take (k - fr)])) := HC.out.cut (by rw [EL.out]; exact hlt) hc
          clear hc
          go_wp2_with (at_builtin; refine wp_append_str rfl _ _ rfl w.heap.size _ done.length _ rfl (hown.alloc _) _ (s.extract fr k) rfl ?c1 ?c2 ?c3 ?_)
          case c1 => simp
          case c2 => omega
          case c3 => have := hbe.size; simp; omega
          intro g1 cap1 w1 ho1 hb1
          rw [HE.out] at ho1
          go_wp2
          go_roundw
          case rel => exact ⟨k + 1, k + 1, done ++ [(s.data.toList.drop fr).take (k - fr)], g1, cap1, by go_num, by go_num, by rw [List.length_append]; rfl, by omega, HN.out, by rw [List.length_append, List.map_append]; exact ho1, (hbe.alloc hbe.size _).trans hb1⟩
          case measure => simp [intOf]; omega
        · have hb47 : ((s[k].toNat : Int) == 47) = false := by
            cases h : ((s[k].toNat : Int) == 47)
            · rfl
            · exact absurd (u8_47 h) hc
          have HN : Hid (CutAt s.data.toList (k + 1) fr done) := HC.out.skip (by rw [EL.out]; exact hlt) hc
          clear hc
          go_wp2
          go_roundw
          case rel => exact ⟨k + 1, fr, done, g, cap, by go_num, rfl, rfl, by omega, HN.out, hown, hbe⟩
          case measure => simp [intOf]; omega
      · have hks : k = s.size := by omega
        have hne : ((k : Int) == s.size) = true := by rw [hks]; simp
        have HN : Hid (CutAt s.data.toList (k + 1) (k + 1) (done ++ [(s.data.toList.drop fr).take (k - fr)])) := HC.out.last (by rw [EL.out]; exact hks)
        clear hks
        go_wp2_with (at_builtin; refine wp_append_str rfl _ _ rfl w.heap.size _ done.length _ rfl (hown.alloc _) _ (s.extract fr k) rfl ?c1 ?c2 ?c3 ?_)
        case c1 => simp
        case c2 => omega
        case c3 => have := hbe.size; simp; omega
        intro g1 cap1 w1 ho1 hb1
        rw [HE.out] at ho1
        go_wp2
        go_roundw
        case rel => exact ⟨k + 1, k + 1, done ++ [(s.data.toList.drop fr).take (k - fr)], g1, cap1, by go_num, by go_num, by rw [List.length_append]; rfl, by omega, HN.out, by rw [List.length_append, List.map_append]; exact ho1, (hbe.alloc hbe.size _).trans hb1⟩
        case measure => simp [intOf]; omega
    · have hd : done = cuts s.data.toList := by
        obtain ⟨_, _, h3 | h3⟩ := HC.out
        · have := h3.1; rw [EL.out] at this; exact absurd this hout
        · exact h3.2
      have HD : Hid (done = cuts s.data.toList) := hd
      clear hd
      go_wp2
      go_ret
      have e : piecesL s.data.toList = done.map bytesOf := by rw [HD.out]; rfl
      rw [e, List.length_map]
      exact ⟨⟨g, cap, rfl, hown⟩, hbe⟩
end Go.Proofs.YtfhcniifennfbaaGreatDoor
namespace Go.Proofs.YtfhcniifennfbaaGreatDoor
open Go.RowKit M

set_option maxHeartbeats 400000 in
theorem l1HexOf_any (c : UInt8) (w : World) :
    Calls Tryz.prog 114 #[.int .u8 c.toNat] w fun e w' => e = .returned (.int .i64 (hexOf c)) ∧ w' = w := by
  cases h4 : isB (c.toNat : Int) 4
  · cases h5 : isB (c.toNat : Int) 5
    · cases h6 : isB (c.toNat : Int) 6
      · have HO : Hid (hexOf c = -1) := hexOf_no (by simp [isHex, anyB, h4, h5, h6])
        go_enter Tryz.func114, Tryz.ntmps114
        go_wp2_with (first | (go_at_call 141; refine (l1Digit_any _ _).mono ?_; rintro e w' ⟨rfl, rfl⟩; rw [h4]) | (go_at_call 113; refine (l1In_any _ _ _ _).mono ?_; rintro e w' ⟨rfl, rfl⟩; (try rw [wrap64_u8]); first | rw [inB_hexs, h5] | rw [inB_hexl, h6]))
        go_ret
        exact ⟨ret_int HO.out.symm, rfl⟩
      · have hh : isHex c = true := by simp [isHex, anyB, h4, h5, h6]
        have HO : Hid (hexOf c = (c.toNat : Int) - 65 + 10) := by
          show _ = _
          rw [hexOf_yes hh, hexW_6 h4 h5]
          have := isB6 h6
          omega
        have hb := isB6 h6
        go_enter Tryz.func114, Tryz.ntmps114
        go_wp2_with (first | (go_at_call 141; refine (l1Digit_any _ _).mono ?_; rintro e w' ⟨rfl, rfl⟩; rw [h4]) | (go_at_call 113; refine (l1In_any _ _ _ _).mono ?_; rintro e w' ⟨rfl, rfl⟩; (try rw [wrap64_u8]); first | rw [inB_hexs, h5] | rw [inB_hexl, h6]))
        go_ret
        exact ⟨ret_int HO.out.symm, rfl⟩
    · have hh : isHex c = true := by simp [isHex, anyB, h4, h5]
      have HO : Hid (hexOf c = (c.toNat : Int) - 97 + 10) := by
        show _ = _
        rw [hexOf_yes hh, hexW_5 h4 h5]
        have := isB5 h5
        omega
      have hb := isB5 h5
      go_enter Tryz.func114, Tryz.ntmps114
      go_wp2_with (first | (go_at_call 141; refine (l1Digit_any _ _).mono ?_; rintro e w' ⟨rfl, rfl⟩; rw [h4]) | (go_at_call 113; refine (l1In_any _ _ _ _).mono ?_; rintro e w' ⟨rfl, rfl⟩; (try rw [wrap64_u8]); rw [inB_hexs, h5]))
      go_ret
      exact ⟨ret_int HO.out.symm, rfl⟩
  · have hh : isHex c = true := by simp [isHex, anyB, h4]
    have HO : Hid (hexOf c = (c.toNat : Int) - 48) := by
      show _ = _
      rw [hexOf_yes hh, hexW_4 h4]
      have := isB4 h4
      omega
    have hb := isB4 h4
    go_enter Tryz.func114, Tryz.ntmps114
    go_wp2_with (go_at_call 141; refine (l1Digit_any _ _).mono ?_; rintro e w' ⟨rfl, rfl⟩; rw [h4])
    go_ret
    exact ⟨ret_int HO.out.symm, rfl⟩

end Go.Proofs.YtfhcniifennfbaaGreatDoor
namespace Go.Proofs.YtfhcniifennfbaaGreatDoor
open Go.RowKit

theorem step_append_bytes {w : World} {ops : Array Oper} {o : Oper} {a : Act} {K : Act → World → Prop} {Q : Exit → Act → World → Prop} {E : Prop} (hgd : o.guard = none) (s x : Operand)
    (ho : o.op = .call { callee := .builtin .append, args := #[s, x], argTypes := #[124, 124] })
    (B : Nat) (v : Value) (n m : Nat) (l news : List UInt8) (hs : a.eval s = v) (hn : news.length = m) (hm : 0 < m) (ad : Addr) (hx : a.eval x = .slice (some ad) m m) (hlen : n + m ≤ 140737488355328)
    (hown : w.ownsRow B 5 1 v n (Lib.byteCells l)) (hcell : ∀ j (hj : j < news.length), w.cell? (ad.add j) = some (.int .u8 news[j].toNat)) (hB : B ≤ w.heap.size)
    (h : ∀ g cap w', w'.ownsRow B 5 1 (.slice (some ⟨g, 0, none⟩) (n + m) cap) (n + m) (Lib.byteCells (l ++ news)) → Below B w w' → K (a.put o.dst (.slice (some ⟨g, 0, none⟩) (n + m) cap)) w') :
    if Region.wanted o (yielded ops a.tmps) = true then Oper.wp Tryz.prog o a w K Q else E := by
  obtain ⟨i0, hi, hz0, hz1, hz2⟩ := info_parts info_byte
  refine step_append_lies w hgd s x 124 ho B 5 i0 (.int .u8 0) 1 1 Tryz.underlying124 hi hz0 hz1 hz2 rfl (by decide) v n _ hs hown ad m m (Lib.byteCells news) hx ?_ ?_ ?_ hm ?_ ?_ hB w.heap.size rfl ?_
  · rw [Lib.byteCells_length, hn, Nat.mul_one]
  · intro j u hj
    have hjl : j < news.length := by
      have := (List.getElem?_eq_some_iff.1 hj).1
      rwa [Lib.byteCells_length] at this
    rw [hcell j hjl]
    simp only [Lib.byteCells, List.getElem?_map, List.getElem?_eq_getElem hjl, Option.map_some] at hj
    exact hj
  · intro u hu
    simp only [Lib.byteCells, List.mem_map] at hu
    obtain ⟨c, _, rfl⟩ := hu
    rfl
  · unfold maxLen; omega
  · omega
  · intro g cap w' ho' hg _ _
    refine h g cap w' ?_ (below_grown hown hB hg)
    rw [Lib.byteCells_append]
    exact ho'
end Go.Proofs.YtfhcniifennfbaaGreatDoor
namespace Go.Proofs.YtfhcniifennfbaaGreatDoor
open Go.RowKit M
set_option linter.unusedVariables false

theorem ret_unq {l : List UInt8} {b : Bool} {r : List UInt8 × Bool} (h : r = (l, b)) : Ending.returned (.tuple #[.string ⟨l.toArray⟩, .bool b]) = .returned (.tuple #[.string (bytesOf r.1), .bool r.2]) := by subst h; rfl

theorem q_hx {a b : UInt8} (ha : isHex a = true) (hb : isHex b = true) : IntKind.u8.wrap (IntKind.i64.wrap (IntKind.i64.wrap ((hexW a : Int) * 16) + hexW b)) = ((hx a b).toNat : Int) := by
  have h1 := hexW_lt ha
  have h2 := hexW_lt hb
  rw [hx_nat ha hb, IntKind.wrap_i64, IntKind.wrap_i64, IntKind.wrap_u8]
  omega

set_option maxRecDepth 100000 in
set_option maxHeartbeats 4000000 in
theorem specUnquote_any (s : ByteArray) (w : World) (hs : s.size ≤ 1099511627776) :
    Calls Tryz.prog 81 #[.string s] w fun e w' => e = .returned (.tuple #[.string (bytesOf (unqR s.data.toList).1), .bool (unqR s.data.toList).2]) ∧ Below w.heap.size w w' := by
  go_enter Tryz.func81, Tryz.ntmps81
  go_wp2
  go_loopw [4, 5] (fun v i wr => ∃ (k : Nat) (acc : List UInt8), UnqAt s k acc ∧ i = .int .i64 k ∧ wr.ownsRow w.heap.size 5 1 v acc.length (Lib.byteCells acc) ∧ Below w.heap.size w wr) (fun _ i _ => s.size - (intOf i).toNat)
  case atStart => exact ⟨0, [], UnqAt.start s, rfl, World.ownsRow_made w #[] 0 (Nat.le_refl _) (by decide) rfl, (Below.refl _ _).alloc (Nat.le_refl _) _⟩
  case round =>
    obtain ⟨k, acc, hU, rfl, hown, hbe⟩ := hrel
    have HU : Hid (UnqAt s k acc) := hU
    have hks : k ≤ s.size := hU.1
    have hak : acc.length ≤ k := hU.2.1
    clear hU
    by_cases hlt : k < s.size
    · by_cases h37 : s[k] = 37
      · have hb37 : ((s[k].toNat : Int) == 37) = true := by rw [h37]; rfl
        have H37 : Hid (s[k] = 37) := h37
        clear h37
        by_cases hsh : s.size ≤ k + 2
        · have hsh' : (s.size : Int) ≤ (k : Int) + 2 := by omega
          go_wp2
          go_ret2
          exact ⟨ret_unq (HU.out.short hlt H37.out hsh), hbe⟩
        · have h2 : k + 2 < s.size := by omega
          have h2' : (k : Int) + 2 < s.size := by omega
          have h1' : (k : Int) + 1 < s.size := by omega
          have h1 : k + 1 < s.size := by omega
          have hk0 : (0 : Int) ≤ (k : Int) + 1 := by omega
          have hk1 : (0 : Int) ≤ (k : Int) + 2 := by omega
          cases ha : isHex s[k + 1]
          · have hO := hexOf_no ha
            go_wp2_with (go_at_call 114; refine (l1HexOf_any _ _).mono ?_; rintro e w1 ⟨rfl, hw⟩; obtain rfl := hw.symm; rw [hO])
            go_ret2
            exact ⟨ret_unq (HU.out.bad h2 H37.out (by rw [ha]; rfl)), hbe⟩
          · have hO := hexOf_yes ha
            cases hb : isHex s[k + 2]
            · have hP := hexOf_no hb
              go_wp2_with (go_at_call 114; refine (l1HexOf_any _ _).mono ?_; rintro e w1 ⟨rfl, hw⟩; obtain rfl := hw.symm; first | rw [hO] | rw [hP])
              go_ret2
              exact ⟨ret_unq (HU.out.bad h2 H37.out (by rw [ha, hb]; rfl)), hbe⟩
            · have hP := hexOf_yes hb
              have hw1 := hexW_lt ha
              have hw2 := hexW_lt hb
              have HX : Hid (((hx s[k + 1] s[k + 2]).toNat : Int) = (hexW s[k + 1] : Int) * 16 + hexW s[k + 2]) := hx_nat ha hb
              have HN : Hid (UnqAt s (k + 3) (acc ++ [hx s[k + 1] s[k + 2]])) := HU.out.hex h2 H37.out ha hb
              have H1 : Hid (hexOf s[k + 1] = (hexW s[k + 1] : Int)) := hO
              have H2 : Hid (hexOf s[k + 2] = (hexW s[k + 2] : Int)) := hP
              have H3 : Hid (∀ h, hexOf (s[((k : Int) + 1).toNat]'h) = (hexW s[k + 1] : Int)) := by
                have e : ((k : Int) + 1).toNat = k + 1 := by omega
                show ∀ h, hexOf (s[((k : Int) + 1).toNat]'h) = (hexW s[k + 1] : Int)
                intro h; rw [show s[((k : Int) + 1).toNat]'h = s[k + 1] from getElem_congr_idx e]; exact hO
              have H4 : Hid (∀ h, hexOf (s[((k : Int) + 2).toNat]'h) = (hexW s[k + 2] : Int)) := by
                have e : ((k : Int) + 2).toNat = k + 2 := by omega
                show ∀ h, hexOf (s[((k : Int) + 2).toNat]'h) = (hexW s[k + 2] : Int)
                intro h; rw [show s[((k : Int) + 2).toNat]'h = s[k + 2] from getElem_congr_idx e]; exact hP
              clear hO hP
              go_wp2_with (go_at_call 114; refine (l1HexOf_any _ _).mono ?_; rintro e w1 ⟨rfl, hw⟩; obtain rfl := hw.symm; first | rw [H1.out] | rw [H2.out])
              have hi1 : IntKind.i64.wrap ((k : Int) + 1) = (k : Int) + 1 := by rw [IntKind.wrap_i64]; omega
              have hi2 : IntKind.i64.wrap ((k : Int) + 2) = (k : Int) + 2 := by rw [IntKind.wrap_i64]; omega
              go_region_held3 (fun _ => True) (trivial) ((first
                | (go_at_call 114; refine (l1HexOf_any _ _).mono ?_; rintro e w1 ⟨rfl, rfl⟩; first | rw [H1.out] | rw [H2.out] | rw [H3.out] | rw [H4.out])
                | (refine step_append_bytes (by rfl) _ _ (by rfl) w.heap.size _ acc.length 1 acc [hx s[k + 1] s[k + 2]] (by rfl) (by rfl) (by decide) ⟨wr.heap.size, 0, none⟩ (by rfl) (by omega) ?_ ?_ ?_ ?_
                   (exact (hown.alloc _).drew)
                   (intro j hj; match j, hj with | 0, _ => simp [Addr.add]; exact q_hx ha hb)
                   (have := hbe.size; simp; omega)
                   intro gg cap w1 hown1 hb2)))
              all_goals
                clear hi1 hi2
                go_wp2
                go_roundw
                case rel => exact ⟨k + 3, acc ++ [hx s[k + 1] s[k + 2]], HN.out, by go_num, by rw [List.length_append]; exact hown1, ((hbe.alloc hbe.size _).drew).trans hb2⟩
                case measure => simp [intOf]; omega
      · have hb37 : ((s[k].toNat : Int) == 37) = false := by
          cases h : ((s[k].toNat : Int) == 37)
          · rfl
          · exact absurd (u8_37 h) h37
        have HN : Hid (UnqAt s (k + 1) (acc ++ [s[k]])) := HU.out.plain hlt h37
        clear h37
        go_wp2_with (at_builtin; refine wp_append_byte rfl _ _ rfl w.heap.size _ acc.length _ rfl (hown.alloc _) _ s[k] rfl ?c1 ?c2 ?c3 ?_)
        case c1 => simp
        case c2 => omega
        case c3 => have := hbe.size; simp; omega
        intro v1 w1 ho1 hb1
        go_wp2
        go_roundw
        case rel => exact ⟨k + 1, acc ++ [s[k]], HN.out, by go_num, by rw [List.length_append]; exact ho1, (hbe.alloc hbe.size _).trans hb1⟩
        case measure => simp [intOf]; omega
    · have hcv := conv_own hown
      go_wp2
      go_ret2
      exact ⟨ret_unq (HU.out.done hlt), hbe⟩
end Go.Proofs.YtfhcniifennfbaaGreatDoor
namespace Go.Proofs.YtfhcniifennfbaaGreatDoor
open Go.RowKit

theorem bld_size : (Tryz.prog.info? 185).map (·.size) = some 2 := by kernel_rfl
theorem bld_lies : liesAt Tryz.prog Tryz.prog.depth 185 (2 / Tryz.prog.cellsOf 185) 0 185 1 = true := by kernel_rfl

set_option maxHeartbeats 1000000 in
set_option maxRecDepth 100000 in
theorem copyCheck_fresh (b : Nat) (w : World) (h0 : w.cell? ⟨b, 0, none⟩ = some (.pointer none)) (hsh : w.shape? b = some (185, 2)) (hfz : w.frozen? ⟨b, 0, none⟩ = false) :
    Calls Tryz.prog 181 #[.pointer (some ⟨b, 0, none⟩)] w fun e w' => e = .returned (.tuple #[]) ∧ w' = w.setCell ⟨b, 0, none⟩ (.pointer (some ⟨b, 0, none⟩)) := by
  obtain ⟨j, hj, hjs⟩ := Option.map_eq_some_iff.1 bld_size
  have q1 := Lib.run_to_unsafe w ⟨b, 0, none⟩ Tryz.underlying183 Tryz.underlying237 hj (by rw [hjs]; decide) hsh (Nat.zero_lt_succ 1)
  have q2 := Lib.run_from_unsafe w ⟨b, 0, none⟩ Tryz.underlying237 Tryz.underlying183 hj hsh bld_lies
  have q3 : ∀ x : Value, (callFunc 217 #[x]).run Tryz.prog w = .ok (.value x) w := fun x => by
    rw [run_callFunc_extern Tryz.func217 (by kernel_rfl) (by kernel_rfl) (by kernel_rfl) (e := Extern.AbiNoEscape.same) (by kernel_rfl), Lib.run_noEscape]
    rfl
  go_enter Tryz.func181, Tryz.ntmps181
  go_wp2
  go_end0
  exact ⟨rfl, rfl⟩

set_option maxHeartbeats 1000000 in
theorem copyCheck_used (b : Nat) (w : World) (h0 : w.cell? ⟨b, 0, none⟩ = some (.pointer (some ⟨b, 0, none⟩))) :
    Calls Tryz.prog 181 #[.pointer (some ⟨b, 0, none⟩)] w fun e w' => e = .returned (.tuple #[]) ∧ w' = w := by
  obtain ⟨j, hj, _⟩ := Option.map_eq_some_iff.1 bld_size
  have q := Lib.run_neq_ptr_same w ⟨b, 0, none⟩ Tryz.underlying183 hj
  go_enter Tryz.func181, Tryz.ntmps181
  go_wp2
  go_end0
  exact ⟨rfl, rfl⟩

theorem copyCheck_any (B b : Nat) (bs : List Value) (w : World) (h : Lib.IsBuilder 185 5 B b bs w) :
    Calls Tryz.prog 181 #[.pointer (some ⟨b, 0, none⟩)] w fun e w' => e = .returned (.tuple #[]) ∧ Lib.BuilderAt 185 5 B b (.pointer (some ⟨b, 0, none⟩)) bs w' ∧ Below B w w' := by
  rcases h with h | h
  · refine (copyCheck_fresh b w h.cell0 h.shape h.frozen0).mono ?_
    rintro e w' ⟨rfl, rfl⟩
    exact ⟨rfl, h.used _, (Below.refl B w).setCell (p := ⟨b, 0, none⟩) h.1 _⟩
  · refine (copyCheck_used b w h.cell0).mono ?_
    rintro e w' ⟨rfl, rfl⟩
    exact ⟨rfl, h, Below.refl B _⟩

/-- A builder stays what it is where only new memory is laid. -/
theorem bld_below {T e : TypeId} {B b : Nat} {bs : List Value} {w w' : World} (h : Lib.IsBuilder T e B b bs w) (hb : Below w.heap.size w w') : Lib.IsBuilder T e B b bs w' := by
  have go : ∀ p, Lib.BuilderAt T e B b p bs w → Lib.BuilderAt T e B b p bs w' := fun p hp => by
    have hlt := hp.lt
    obtain ⟨hB, v, hv, hown, hne⟩ := hp
    exact ⟨hB, v, (hb.block b hlt).trans hv, hown.kept (row := none) ⟨hb.os, hb.tape, hb.output, hb.size, fun k hk _ => hb.block k hk⟩ (Classical.em _), hne⟩
  exact h.elim (fun x => .inl (go _ x)) (fun x => .inr (go _ x))

set_option maxHeartbeats 2000000 in
set_option maxRecDepth 100000 in
theorem writeByte_any (B b : Nat) (l : List UInt8) (c : UInt8) (w : World) (h : Lib.IsBuilder 185 5 B b (Lib.byteCells l) w) (hlen : l.length + 1 ≤ 140737488355328) (hBw : B ≤ w.heap.size) :
    Calls Tryz.prog 156 #[.pointer (some ⟨b, 0, none⟩), .int .u8 c.toNat] w fun e w' => e = .returned .nilIface ∧ Lib.IsBuilder 185 5 B b (Lib.byteCells (l ++ [c])) w' ∧ Below B w w' := by
  obtain ⟨i0, hi, hz0, hz1, hz2⟩ := info_parts info_byte
  go_enter Tryz.func156, Tryz.ntmps156
  go_wp2_with fail
  refine (copyCheck_any B b _ w h).mono ?_
  rintro e w1 ⟨rfl, h1, hb1⟩
  have hlt := h1.lt
  obtain ⟨hB, v, hbk, hown, hne⟩ := h1
  rw [Lib.byteCells_length] at hown
  have c0 : w1.cell? ⟨b, 0, none⟩ = some (.pointer (some ⟨b, 0, none⟩)) := by rw [Lib.cell_of_heap hbk]; rfl
  have c1 : w1.cell? ⟨b, 1, none⟩ = some v := by rw [Lib.cell_of_heap hbk]; rfl
  go_wp2_with (at_builtin; refine wpList_append_own _ rfl _ _ 124 rfl B 5 i0 (.int .u8 0) 1 1 Tryz.underlying124 hi hz0 hz1 hz2 rfl (by decide) v l.length _ rfl (hown.alloc _) ⟨w1.heap.size, 0, none⟩ 1 1 [.int .u8 c.toNat] rfl rfl ?c1 ?c2 ?c3 ?c4 ?c5 ?_)
  case c1 =>
    intro j u hj
    match j, hj with
    | 0, hj => simp at hj; subst hj; simp [Addr.add]
  case c2 => intro u hu; simp at hu; subst hu; rfl
  case c3 => unfold maxLen; omega
  case c4 => omega
  case c5 => have := hb1.size; simp; omega
  intro v' w2 hown' hgrow _
  have hb2 : w2.heap[b]? = some (.cells #[.pointer (some ⟨b, 0, none⟩), v] 185 (0, 0)) := by
    rw [hgrow.block b (by simp; omega) (fun e => hne e.symm), Lib.alloc_old w1 _ b hlt]
    exact hbk
  have d0 : w2.cell? ⟨b, 0, none⟩ = some (.pointer (some ⟨b, 0, none⟩)) := by rw [Lib.cell_of_heap hb2]; rfl
  have d1 : w2.cell? ⟨b, 1, none⟩ = some v := by rw [Lib.cell_of_heap hb2]; rfl
  have f1 : w2.frozen? ⟨b, 1, none⟩ = false := Lib.frozen_of_heap hb2 1
  obtain ⟨g, cap, rfl⟩ : ∃ g cap, v' = .slice (some ⟨g, 0, none⟩) (l.length + 1) cap := by
    rcases hown'.2 with ⟨_, h0⟩ | ⟨g, cap, cur, hv, _⟩
    · omega
    · exact ⟨g, cap, hv⟩
  go_wp2
  go_ret
  refine ⟨rfl, .inr ?_, ?_⟩
  · refine Lib.BuilderAt.put (T := 185) (e := 5) hB hb2 (bs' := Lib.byteCells (l ++ [c])) ?_ (by decide)
    rw [Lib.byteCells_length, List.length_append, Lib.byteCells_append]
    exact hown'
  · exact ((hb1.alloc (by have := hb1.size; omega) _).grown hgrow (by have := hb1.size; simp; omega) (fun k hk => (hown.lt k hk).1)).setCell (p := ⟨b, 1, none⟩) hB _
end Go.Proofs.YtfhcniifennfbaaGreatDoor
namespace Go.Proofs.YtfhcniifennfbaaGreatDoor
open Go.RowKit M

theorem low_small : ∀ d : Fin 256, 97 ≤ d.val → d.val ≤ 102 → bits .or .u8 (d.val : Int) 32 = (d.val : Int) := by decide +kernel
theorem low_large : ∀ d : Fin 256, 65 ≤ d.val → d.val ≤ 70 → bits .or .u8 (d.val : Int) 32 = (d.val : Int) + 32 := by decide +kernel

set_option maxHeartbeats 4000000 in
set_option maxRecDepth 100000 in
theorem parseUint_16 (t : ByteArray) (w : World) (h0 : 0 < t.size) (h4 : t.size ≤ 4) (hh : hexs t.data.toList = true) :
    Calls Tryz.prog 240 #[.string t, .int .i64 16, .int .i64 64] w fun e w' => e = .returned (.tuple #[.int .u64 (hexVal t.data.toList), .nilIface]) ∧ Below w.heap.size w w' := by
  have hemp : t.toList.isEmpty = false := by
    rw [← decide_eq_emptyBytes]
    exact decide_eq_false (fun h => by rw [h] at h0; exact absurd h0 (by decide))
  have hcv := Lib.run_convert_string_bytes (P := Tryz.prog) w 9 124 5 t Tryz.underlying9 Tryz.underlying124 Tryz.underlying5
  have hB : ∀ j (hj : j < t.size), (Lib.bytesWorld w 5 t).cell? ⟨w.heap.size, j, none⟩ = some (.int .u8 (t[j]).toNat) := fun j hj => by
    rw [Lib.bytesWorld_cell w 5 t j hj]
    have e := len_list t
    have : t.data.toList.getD j 0 = t[j] := by
      simp only [List.getD, List.getElem?_eq_getElem (show j < t.data.toList.length by omega), Option.getD_some]; rfl
    rw [this]
  have hbel := below_bytes w 5 t
  obtain ⟨W1, hW1⟩ : ∃ W1, W1 = Lib.bytesWorld w 5 t := ⟨_, rfl⟩
  rw [← hW1] at hcv hB hbel
  clear hW1
  have HB : Hid (∀ j (hj : j < t.size), W1.cell? ⟨w.heap.size, j, none⟩ = some (.int .u8 (t[j]).toNat)) := hB
  have HBE : Hid (Below w.heap.size w W1) := hbel
  have HH : Hid (hexs t.data.toList = true) := hh
  clear hB hbel hh
  have hmv : IntKind.u64.wrap (IntKind.u64.wrap 18446744073709551616 - 1) = 18446744073709551615 := by
    rw [IntKind.wrap_u64, IntKind.wrap_u64]
    decide
  go_enter Tryz.func240, Tryz.ntmps240
  go_wp2
  go_loop [12, 13, 101] (fun vu vn vi => ∃ (k : Nat) (a : Int), vu = .bool false ∧ vn = .int .u64 a ∧ vi = .int .i64 k ∧ k ≤ t.size ∧ Hid (a = (hexVal (t.data.toList.take k) : Int) ∧ hexs (t.data.toList.take k) = true))
    (fun _ _ vi => t.size - (intOf vi).toNat)
  case atStart => exact ⟨0, 0, rfl, rfl, rfl, by omega, rfl, rfl⟩
  case round =>
    obtain ⟨k, a, rfl, rfl, rfl, hk, hx⟩ := hrel
    obtain ⟨ha, hhx⟩ := hx.out
    clear hx
    have hlt16 := hexVal_lt t k hk hhx
    have hp16 := pow16_le (show k ≤ 5 by omega)
    have a0 : 0 ≤ a := by omega
    have a1 : a < 1048576 := by omega
    have HA : Hid (a = (hexVal (t.data.toList.take k) : Int)) := ha
    have HX : Hid (hexs (t.data.toList.take k) = true) := hhx
    clear ha hhx hlt16 hp16
    by_cases hkn : k < t.size
    · have hc := HB.out k hkn
      have hhex := hexs_get t HH.out k hkn
      have HS : Hid (hexVal (t.data.toList.take (k + 1)) = hexVal (t.data.toList.take k) * 16 + hexW t[k]) := hexVal_step t k hkn
      have HX2 : Hid (hexs (t.data.toList.take (k + 1)) = true) := hexs_snoc t k hkn HX.out hhex
      generalize t[k] = c at hc hhex HS
      have hc256 : c.toNat < 256 := c.toNat_lt
      have hfin : ∀ d : Int, d = (hexW c : Int) → Hid (a * 16 + d = (hexVal (t.data.toList.take (k + 1)) : Int) ∧ hexs (t.data.toList.take (k + 1)) = true) := by
        intro d hd
        refine ⟨?_, HX2.out⟩
        rw [hd, HA.out, HS.out]
        simp
      have HFIN : Hid (∀ d : Int, d = (hexW c : Int) → Hid (a * 16 + d = (hexVal (t.data.toList.take (k + 1)) : Int) ∧ hexs (t.data.toList.take (k + 1)) = true)) := hfin
      clear hfin HS HX2
      have HC : Hid (isHex c = true) := hhex
      clear hhex
      rcases isHex_cases HC.out with e4 | ⟨e4, e5⟩ | ⟨e4, e5, e6⟩
      · have hd := isB4 e4
        have HD : Hid ((c.toNat : Int) - 48 = (hexW c : Int)) := by
          show _ = _
          rw [hexW_4 e4]; omega
        clear e4
        go_wp2
        refine ⟨⟨k + 1, a * 16 + ((c.toNat : Int) - 48), rfl, rfl, by go_num, by omega, HFIN.out _ HD.out⟩, by simp [intOf]; omega⟩
      · have hd := isB5 e5
        have hlow := low_small ⟨c.toNat, hc256⟩ (by simp; omega) (by simp; omega)
        have hlow' : bits .or .u8 (c.toNat : Int) 32 = (c.toNat : Int) := hlow
        have HD : Hid ((c.toNat : Int) - 97 + 10 = (hexW c : Int)) := by
          show _ = _
          rw [hexW_5 e4 e5]; omega
        clear e4 e5 hlow
        go_wp2_with (go_at_call 250; refine (Tryz.internal_strconv_lower _ _).mono ?_; rintro e w' ⟨rfl, rfl⟩; rw [hlow'])
        refine ⟨⟨k + 1, a * 16 + ((c.toNat : Int) - 97 + 10), rfl, rfl, by go_num, by omega, HFIN.out _ HD.out⟩, by simp [intOf]; omega⟩
      · have hd := isB6 e6
        have hlow := low_large ⟨c.toNat, hc256⟩ (by simp; omega) (by simp; omega)
        have hlow' : bits .or .u8 (c.toNat : Int) 32 = (c.toNat : Int) + 32 := hlow
        have HD : Hid ((c.toNat : Int) + 32 - 97 + 10 = (hexW c : Int)) := by
          show _ = _
          rw [hexW_6 e4 e5]; omega
        clear e4 e5 e6 hlow
        go_wp2_with (go_at_call 250; refine (Tryz.internal_strconv_lower _ _).mono ?_; rintro e w' ⟨rfl, rfl⟩; rw [hlow'])
        refine ⟨⟨k + 1, a * 16 + ((c.toNat : Int) + 32 - 97 + 10), rfl, rfl, by go_num, by omega, HFIN.out _ HD.out⟩, by simp [intOf]; omega⟩
    · go_wp2
      go_ret2
      refine ⟨?_, HBE.out⟩
      rw [HA.out, take_all t k hkn]; rfl
end Go.Proofs.YtfhcniifennfbaaGreatDoor
namespace Go.Proofs.YtfhcniifennfbaaGreatDoor
open Go.RowKit M

set_option maxHeartbeats 2000000 in
set_option maxRecDepth 100000 in
theorem parseIntIn_16 (t : ByteArray) (w : World) (h0 : 0 < t.size) (h4 : t.size ≤ 4) (hh : hexs t.data.toList = true) :
    Calls Tryz.prog 218 #[.string t, .int .i64 16, .int .i64 64] w fun e w' => e = .returned (.tuple #[.int .i64 (hexVal t.data.toList), .nilIface]) ∧ Below w.heap.size w w' := by
  have hemp : t.toList.isEmpty = false := by
    rw [← decide_eq_emptyBytes]
    exact decide_eq_false (fun h => by rw [h] at h0; exact absurd h0 (by decide))
  have HP : Hid (∀ W, Calls Tryz.prog 240 #[.string t, .int .i64 16, .int .i64 64] W fun e w' => e = .returned (.tuple #[.int .u64 (hexVal t.data.toList), .nilIface]) ∧ Below W.heap.size W w') := fun W => parseUint_16 t W h0 h4 hh
  have hg := hexs_get t hh 0 h0
  have hne : (((t[0]).toNat : Int) == 43) = false ∧ (((t[0]).toNat : Int) == 45) = false := by
    rw [beq_eq_false_iff_ne, beq_eq_false_iff_ne]
    rcases isHex_cases hg with e4 | ⟨_, e5⟩ | ⟨_, _, e6⟩
    · have := isB4 e4; omega
    · have := isB5 e5; omega
    · have := isB6 e6; omega
  obtain ⟨hn1, hn2⟩ := hne
  have hv : hexVal t.data.toList < 1048576 := by
    have h1 := hexVal_lt t t.size (Nat.le_refl _) (by rw [take_all t t.size (by omega)]; exact hh)
    rw [take_all t t.size (by omega)] at h1
    have := pow16_le (show t.size ≤ 5 by omega)
    omega
  clear hg hh
  obtain ⟨a, ha⟩ : ∃ a : Int, a = (hexVal t.data.toList : Int) := ⟨_, rfl⟩
  rw [← ha] at HP ⊢
  have a0 : 0 ≤ a := by omega
  have a1 : a < 1048576 := by omega
  clear ha hv
  go_enter Tryz.func218, Tryz.ntmps218
  go_wp2_with (go_at_call 240; refine (HP.out _).mono ?_; rintro e w1 ⟨rfl, hb1⟩)
  go_ret2
  exact ⟨rfl, hb1⟩

set_option maxHeartbeats 1000000 in
theorem parseInt_16 (t : ByteArray) (w : World) (h0 : 0 < t.size) (h4 : t.size ≤ 4) (hh : hexs t.data.toList = true) :
    Calls Tryz.prog 183 #[.string t, .int .i64 16, .int .i64 64] w fun e w' => e = .returned (.tuple #[.int .i64 (hexVal t.data.toList), .nilIface]) ∧ Below w.heap.size w w' := by
  have HP : Hid (∀ W, Calls Tryz.prog 218 #[.string t, .int .i64 16, .int .i64 64] W fun e w' => e = .returned (.tuple #[.int .i64 (hexVal t.data.toList), .nilIface]) ∧ Below W.heap.size W w') := fun W => parseIntIn_16 t W h0 h4 hh
  clear hh
  generalize (hexVal t.data.toList : Int) = a at *
  go_enter Tryz.func183, Tryz.ntmps183
  go_wp2_with (go_at_call 218; refine (HP.out _).mono ?_; rintro e w1 ⟨rfl, hb1⟩)
  go_ret2
  exact ⟨rfl, hb1⟩

set_option maxHeartbeats 1000000 in
theorem parseHex_any (s : ByteArray) (w : World) (hs : s.size ≤ maxLen) :
    Calls Tryz.prog 157 #[.string s] w fun e w' => e = .returned (.tuple #[.int .i64 (parseHex s.data.toList).1, .bool (parseHex s.data.toList).2]) ∧ Below w.heap.size w w' := by
  have hs' := hs
  unfold maxLen at hs'
  cases hin : inB (s.size : Int) 1 4
  · have HQ : Hid (parseHex s.data.toList = (0, false)) := parseHex_size hin
    have h : s.size < 1 ∨ 4 < s.size := by simp [inB] at hin; omega
    clear hin
    rcases h with h | h
    · go_enter Tryz.func157, Tryz.ntmps157
      go_wp2
      go_ret2
      exact ⟨ret_two (by rw [HQ.out]), Below.refl _ _⟩
    · have h' : ¬ s.size < 1 := by omega
      go_enter Tryz.func157, Tryz.ntmps157
      go_wp2
      go_ret2
      exact ⟨ret_two (by rw [HQ.out]), Below.refl _ _⟩
  · have h0 : 0 < s.size := by simp [inB] at hin; omega
    have h4 : ¬ 4 < s.size := by simp [inB] at hin; omega
    have h1n : ¬ s.size < 1 := by omega
    have HIN : Hid (inB (s.size : Int) 1 4 = true) := hin
    clear hin
    cases hd : allB s.data.toList [4, 5, 6]
    · have HQ : Hid (parseHex s.data.toList = (0, false)) := parseHex_no hd
      go_enter Tryz.func157, Tryz.ntmps157
      go_wp2_with (go_at_call 182; refine (allOf_any s [4, 5, 6] 3 _ 0 3 _ rfl hs (by decide) (cells3 w _ 4 5 6 161 rfl)).mono ?_; rintro e w' ⟨rfl, rfl⟩; rw [hd])
      go_ret2
      exact ⟨ret_two (by rw [HQ.out]), (Below.refl _ _).alloc (Nat.le_refl _) _⟩
    · have HP : Hid (∀ W, Calls Tryz.prog 183 #[.string s, .int .i64 16, .int .i64 64] W fun e w' => e = .returned (.tuple #[.int .i64 (hexVal s.data.toList), .nilIface]) ∧ Below W.heap.size W w') := fun W => parseInt_16 s W h0 (by omega) hd
      have HQ : Hid (parseHex s.data.toList = ((hexVal s.data.toList : Int), true)) := parseHex_yes HIN.out hd
      have hv : hexVal s.data.toList < 1048576 := by
        have h1 := hexVal_lt s s.size (Nat.le_refl _) (by rw [take_all s s.size (by omega)]; exact hd)
        rw [take_all s s.size (by omega)] at h1
        have := pow16_le (show s.size ≤ 5 by omega)
        omega
      go_enter Tryz.func157, Tryz.ntmps157
      go_wp2_with (first | (go_at_call 182; refine (allOf_any s [4, 5, 6] 3 _ 0 3 _ rfl hs (by decide) (cells3 w _ 4 5 6 161 rfl)).mono ?_; rintro e w' ⟨rfl, rfl⟩; rw [hd]) | (go_at_call 183; refine (HP.out _).mono ?_; rintro e w1 ⟨rfl, hb1⟩))
      go_ret2
      exact ⟨ret_two (by rw [HQ.out]), ((Below.refl _ _).alloc (Nat.le_refl _) _).trans (hb1.mono (by simp))⟩
end Go.Proofs.YtfhcniifennfbaaGreatDoor
namespace Go.Proofs.YtfhcniifennfbaaGreatDoor
open Go.RowKit M
set_option linter.unusedVariables false

theorem ret_unq2 {t : ByteArray} {l : List UInt8} {b : Bool} {r : List UInt8 × Bool} (ht : t = bytesOf l) (h : r = (l, b)) : Ending.returned (.tuple #[.string t, .bool b]) = .returned (.tuple #[.string (bytesOf r.1), .bool r.2]) := by subst h ht; rfl

set_option maxRecDepth 100000 in
set_option maxHeartbeats 4000000 in
theorem unquote_any (s : ByteArray) (w : World) (hs : s.size ≤ 1099511627776) :
    Calls Tryz.prog 130 #[.string s] w fun e w' => e = .returned (.tuple #[.string (bytesOf (unqR s.data.toList).1), .bool (unqR s.data.toList).2]) ∧ Below w.heap.size w w' := by
  go_enter Tryz.func130, Tryz.ntmps130
  go_wp2
  go_loopw [5] (fun i wr => ∃ (k : Nat) (acc : List UInt8), UnqAt s k acc ∧ i = .int .i64 k ∧ Lib.IsBuilder 185 5 w.heap.size w.heap.size (Lib.byteCells acc) wr ∧ Below w.heap.size w wr) (fun i _ => s.size - (intOf i).toNat)
  case atStart => exact ⟨0, [], UnqAt.start s, rfl, Lib.fresh_isBuilder _ _ w, (Below.refl _ _).alloc (Nat.le_refl _) _⟩
  case round =>
    obtain ⟨k, acc, hU, rfl, hI, hbe⟩ := hrel
    have HU : Hid (UnqAt s k acc) := hU
    have hks : k ≤ s.size := hU.1
    have hak : acc.length ≤ k := hU.2.1
    clear hU
    by_cases hlt : k < s.size
    · by_cases h37 : s[k] = 37
      · have hb37 : ((s[k].toNat : Int) == 37) = true := by rw [h37]; rfl
        have H37 : Hid (s[k] = 37) := h37
        clear h37
        by_cases hsh : s.size ≤ k + 2
        · have hsh' : (s.size : Int) - (k : Int) < 3 := by omega
          go_wp2
          go_ret2
          exact ⟨ret_unq2 rfl (HU.out.short hlt H37.out hsh), hbe⟩
        · have h2 : k + 2 < s.size := by omega
          have hsh' : ¬ (s.size : Int) - (k : Int) < 3 := by omega
          have HP : Hid (parseHex (s.extract (k + 1) (k + 3)).data.toList = if (isHex s[k + 1] && isHex s[k + 2]) then ((hexW s[k + 1] : Int) * 16 + hexW s[k + 2], true) else (0, false)) := by
            show parseHex (s.extract (k + 1) (k + 3)).data.toList = _
            rw [extract_two s k h2]; exact parseHex_two _ _
          have hsz : (s.extract (k + 1) (k + 3)).size ≤ maxLen := by rw [ByteArray.size_extract]; unfold maxLen; omega
          cases hx2 : (isHex s[k + 1] && isHex s[k + 2])
          · rw [hx2] at HP
            go_wp2_with fail
            refine (parseHex_any _ wr hsz).mono ?_
            rintro e w1 ⟨rfl, b1⟩
            rw [HP.out]
            go_wp2
            go_ret2
            exact ⟨ret_unq2 rfl (HU.out.bad h2 H37.out hx2), hbe.trans (b1.mono hbe.size)⟩
          · rw [hx2] at HP
            have hx2' := hx2
            rw [Bool.and_eq_true] at hx2'
            obtain ⟨ha, hb⟩ := hx2'
            have hw1 := hexW_lt ha
            have hw2 := hexW_lt hb
            have HX : Hid (((hx s[k + 1] s[k + 2]).toNat : Int) = (hexW s[k + 1] : Int) * 16 + hexW s[k + 2]) := hx_nat ha hb
            have HN : Hid (UnqAt s (k + 3) (acc ++ [hx s[k + 1] s[k + 2]])) := HU.out.hex h2 H37.out ha hb
            go_wp2_with fail
            refine (parseHex_any _ wr hsz).mono ?_
            rintro e w1 ⟨rfl, b1⟩
            rw [HP.out]
            have c1 := hbe.trans (b1.mono hbe.size)
            go_wp2_with fail
            rw [← HX.out]
            refine (writeByte_any w.heap.size w.heap.size acc (hx s[k + 1] s[k + 2]) w1 (bld_below hI b1) (by omega) c1.size).mono ?_
            rintro e w2 ⟨rfl, I2, b2⟩
            go_wp2
            go_roundw
            case rel => exact ⟨k + 3, acc ++ [hx s[k + 1] s[k + 2]], HN.out, by go_num, I2, c1.trans b2⟩
            case measure => simp [intOf]; omega
      · have hb37 : ((s[k].toNat : Int) == 37) = false := by
          cases h : ((s[k].toNat : Int) == 37)
          · rfl
          · exact absurd (u8_37 h) h37
        have HN : Hid (UnqAt s (k + 1) (acc ++ [s[k]])) := HU.out.plain hlt h37
        clear h37
        go_wp2_with fail
        refine (writeByte_any w.heap.size w.heap.size acc s[k] wr hI (by omega) hbe.size).mono ?_
        rintro e w1 ⟨rfl, I1, b1⟩
        go_wp2
        go_roundw
        case rel => exact ⟨k + 1, acc ++ [s[k]], HN.out, by go_num, I1, hbe.trans b1⟩
        case measure => simp [intOf]; omega
    · go_wp2_with fail
      refine (Tryz.Builder_String_any w.heap.size w.heap.size acc wr hI hbe.size).mono ?_
      rintro e w1 ⟨rfl, b1⟩
      go_wp2
      go_ret2
      exact ⟨ret_unq2 rfl (HU.out.done hlt), hbe.trans b1⟩
end Go.Proofs.YtfhcniifennfbaaGreatDoor
