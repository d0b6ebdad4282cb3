/-
  A help of the laws, by program (tools/gen_help.py): Eq1 of Cond.
  A help of the laws, by program (tools/gen_help.py): Eqq of Cond.
  A help of the laws, by program (tools/gen_help.py): Eqq of CondS.
  The walk of the law FnExactIfText: for every input it returns true, and turns nothing that was there.
  A help of the laws, by program (tools/gen_help.py): Opn of Cond.
  A help of the laws, by program (tools/gen_help.py): Opn of CondS.
-/
import Derived.Test.YtmgikfeknmbpbaaDoorRows
import Derived.Test.YtmgikfeknmbpbaaDoorMathSmall
import Derived.WalkKit
import Derived.WalkSpells
import Derived.WalkLawsBesides
import Derived.Deep.Light
import Derived.Deep.QuietTactic
import Derived.Deep.RegionHeld3
import Derived.Test.YtmgikfeknmbpbaaDoorGenTooCondSS
import Derived.Lib.SmallJoins
import Derived.Deep.Slices
import Derived.OpenShut
import Derived.SliceStrings
namespace Go.Proofs.YtmgikfeknmbpbaaDoor
open Go.RowKit M
set_option linter.unusedVariables false

set_option maxRecDepth 100000 in
set_option maxHeartbeats 4000000 in
theorem eqCond_gen (x : Cn) (B C : Nat) (w : World) (hB : B ≤ w.heap.size) (hC : C ≤ w.heap.size) :
    Calls Tryd.prog 36 #[.agg #[.bool x.no, .int .i64 x.tk, .string x.tg], .agg #[.bool x.no, .int .i64 x.tk, .string x.tg]] w fun e w' => e = .returned (.bool true) ∧ Below w.heap.size w w' := by
  have K0 := hide (show Below w.heap.size w ((w.alloc (Obj.cells #[.bool x.no, .int .i64 x.tk, .string x.tg] 48)).alloc (Obj.cells #[.bool x.no, .int .i64 x.tk, .string x.tg] 48)) from ((Below.refl _ _).alloc (Nat.le_refl _) _).alloc (by simp) _)
  have X0 := hide (show BoxV ((w.alloc (Obj.cells #[.bool x.no, .int .i64 x.tk, .string x.tg] 48)).alloc (Obj.cells #[.bool x.no, .int .i64 x.tk, .string x.tg] 48)) w.heap.size [.bool x.no, .int .i64 x.tk, .string x.tg] from (BoxV.made w [.bool x.no, .int .i64 x.tk, .string x.tg] 48).alloc _)
  have Y0 := hide (show BoxV ((w.alloc (Obj.cells #[.bool x.no, .int .i64 x.tk, .string x.tg] 48)).alloc (Obj.cells #[.bool x.no, .int .i64 x.tk, .string x.tg] 48)) (w.heap.size + 1) [.bool x.no, .int .i64 x.tk, .string x.tg] by have h := BoxV.made (w.alloc (Obj.cells #[.bool x.no, .int .i64 x.tk, .string x.tg] 48)) [.bool x.no, .int .i64 x.tk, .string x.tg] 48; simpa using h)
  have e1 : (x.tk == x.tk) = true := beq_self_eq_true _
  go_enter Tryd.func36, Tryd.ntmps36
  go_wp2
  go_ret
  exact ⟨rfl, K0.out⟩
end Go.Proofs.YtmgikfeknmbpbaaDoor
namespace Go.Proofs.YtmgikfeknmbpbaaDoor
open Go.RowKit M
set_option linter.unusedVariables false

set_option maxRecDepth 100000 in
set_option maxHeartbeats 4000000 in
theorem eqCondS_gen (l : List Cn) (v v' : Value) (B B' : Nat) (w : World) (h : View w B v (.l (l.map dCn))) (h' : View w B' v' (.l (l.map dCn))) (hB : B ≤ w.heap.size) (hB' : B' ≤ w.heap.size) :
    Calls Tryd.prog 18 #[v, v'] w fun e w' => e = .returned (.bool true) ∧ Below w.heap.size w w' := by
  obtain ⟨a, cap, rfl, hl, hm, _, hat⟩ := h.rows 3 (fun _ => rfl)
  obtain ⟨a', cap', rfl, hl', hm', _, hat'⟩ := h'.rows 3 (fun _ => rfl)
  have hn : l.length ≤ maxLen := Nat.le_trans hl hm
  unfold maxLen at hn
  have HAT := hide hat
  have HAT' := hide hat'
  clear h h' hat hat' hl hl' hm hm'
  go_enter Tryd.func18, Tryd.ntmps18
  go_wp2
  go_loopw [5] (fun i wr => ∃ k : Nat, k ≤ l.length ∧ i = .int .i64 k ∧ Below w.heap.size w wr) (fun i _ => l.length - (intOf i).toNat)
  case atStart => exact ⟨0, Nat.zero_le _, rfl, Below.refl _ _⟩
  case round =>
    obtain ⟨k, hk, rfl, hbe⟩ := hrel
    by_cases hlt : k < l.length
    · obtain ⟨b, o, C, rfl, hb, hc⟩ := HAT.out (by omega)
      obtain ⟨b', o', C', rfl, hb', hc'⟩ := HAT'.out (by omega)
      have hck := hc k hlt
      have hck' := hc' k hlt
      have hbw : b < w.heap.size := Nat.lt_of_lt_of_le hb hB
      have hbw' : b' < w.heap.size := Nat.lt_of_lt_of_le hb' hB'
      have hi0 : (0 : Int) ≤ (k : Int) := by omega
      have hi1 : (k : Int) < (l.length : Int) := by omega
      obtain ⟨x, hx⟩ : ∃ x, l[k] = x := ⟨_, rfl⟩
      rw [hx] at hck hck'
      clear hx hc hc'
      have c0 : wr.cell? ⟨b, o + k * 3, none⟩ = some (.bool x.no) := by
        obtain ⟨c, v⟩ := hck 0 (.c (.bool x.no)) rfl
        rw [v.inv] at c
        simp only [Nat.add_zero] at c
        exact (hbe.cell (p := ⟨b, o + k * 3, none⟩) hbw).trans c
      have c1 : wr.cell? ⟨b, o + k * 3 + 1, none⟩ = some (.int .i64 x.tk) := by
        obtain ⟨c, v⟩ := hck 1 (.c (.int .i64 x.tk)) rfl
        rw [v.inv] at c
        exact (hbe.cell (p := ⟨b, o + k * 3 + 1, none⟩) hbw).trans c
      have c2 : wr.cell? ⟨b, o + k * 3 + 2, none⟩ = some (.string x.tg) := by
        obtain ⟨c, v⟩ := hck 2 (.c (.string x.tg)) rfl
        rw [v.inv] at c
        exact (hbe.cell (p := ⟨b, o + k * 3 + 2, none⟩) hbw).trans c
      have c0' : wr.cell? ⟨b', o' + k * 3, none⟩ = some (.bool x.no) := by
        obtain ⟨c, v⟩ := hck' 0 (.c (.bool x.no)) rfl
        rw [v.inv] at c
        simp only [Nat.add_zero] at c
        exact (hbe.cell (p := ⟨b', o' + k * 3, none⟩) hbw').trans c
      have c1' : wr.cell? ⟨b', o' + k * 3 + 1, none⟩ = some (.int .i64 x.tk) := by
        obtain ⟨c, v⟩ := hck' 1 (.c (.int .i64 x.tk)) rfl
        rw [v.inv] at c
        exact (hbe.cell (p := ⟨b', o' + k * 3 + 1, none⟩) hbw').trans c
      have c2' : wr.cell? ⟨b', o' + k * 3 + 2, none⟩ = some (.string x.tg) := by
        obtain ⟨c, v⟩ := hck' 2 (.c (.string x.tg)) rfl
        rw [v.inv] at c
        exact (hbe.cell (p := ⟨b', o' + k * 3 + 2, none⟩) hbw').trans c
      clear hck hck'
      have hbd : Below w.heap.size w wr.drew := below_drewG hbe
      have hq := hide (eqCond_gen x B B' wr.drew (Nat.le_trans hB hbd.size) (Nat.le_trans hB' hbd.size))
      have HX := hide (show wr.drew.cell? ⟨b, o + k * 3, none⟩ = some (.bool x.no) ∧ wr.drew.cell? ⟨b, o + k * 3 + 1, none⟩ = some (.int .i64 x.tk) ∧ wr.drew.cell? ⟨b, o + k * 3 + 2, none⟩ = some (.string x.tg) ∧ wr.drew.cell? ⟨b', o' + k * 3, none⟩ = some (.bool x.no) ∧ wr.drew.cell? ⟨b', o' + k * 3 + 1, none⟩ = some (.int .i64 x.tk) ∧ wr.drew.cell? ⟨b', o' + k * 3 + 2, none⟩ = some (.string x.tg) from ⟨c0, c1, c2, c0', c1', c2'⟩)
      have hz1 : b < wr.heap.size := Nat.lt_of_lt_of_le hbw hbe.size
      have hz2 : b' < wr.heap.size := Nat.lt_of_lt_of_le hbw' hbe.size
      go_wp2
      go_region_held3 (fun W => W.cell? ⟨b, o + k * 3, none⟩ = some (.bool x.no) ∧ W.cell? ⟨b, o + k * 3 + 1, none⟩ = some (.int .i64 x.tk) ∧ W.cell? ⟨b, o + k * 3 + 2, none⟩ = some (.string x.tg) ∧ W.cell? ⟨b', o' + k * 3, none⟩ = some (.bool x.no) ∧ W.cell? ⟨b', o' + k * 3 + 1, none⟩ = some (.int .i64 x.tk) ∧ W.cell? ⟨b', o' + k * 3 + 2, none⟩ = some (.string x.tg)) (first | exact HX.out | exact HX2.out) ((go_at_call 36; refine hq.out.mono ?_; rintro e w1 ⟨rfl, hb3⟩; have HX2 := hide (show w1.cell? ⟨b, o + k * 3, none⟩ = some (.bool x.no) ∧ w1.cell? ⟨b, o + k * 3 + 1, none⟩ = some (.int .i64 x.tk) ∧ w1.cell? ⟨b, o + k * 3 + 2, none⟩ = some (.string x.tg) ∧ w1.cell? ⟨b', o' + k * 3, none⟩ = some (.bool x.no) ∧ w1.cell? ⟨b', o' + k * 3 + 1, none⟩ = some (.int .i64 x.tk) ∧ w1.cell? ⟨b', o' + k * 3 + 2, none⟩ = some (.string x.tg) from ⟨(hb3.cell (p := ⟨b, o + k * 3, none⟩) hz1).trans c0, (hb3.cell (p := ⟨b, o + k * 3 + 1, none⟩) hz1).trans c1, (hb3.cell (p := ⟨b, o + k * 3 + 2, none⟩) hz1).trans c2, (hb3.cell (p := ⟨b', o' + k * 3, none⟩) hz2).trans c0', (hb3.cell (p := ⟨b', o' + k * 3 + 1, none⟩) hz2).trans c1', (hb3.cell (p := ⟨b', o' + k * 3 + 2, none⟩) hz2).trans c2'⟩)))
      all_goals
        have c9 := hbd.trans (hb3.mono hbd.size)
        clear hq hb3 HX HX2
        go_wp2
        go_roundw
        case rel => exact ⟨k + 1, by omega, by go_num, c9⟩
        case measure => simp [intOf]; omega
    · go_wp2
      go_ret
      exact ⟨rfl, hbe⟩
end Go.Proofs.YtmgikfeknmbpbaaDoor
namespace Go.Proofs.YtmgikfeknmbpbaaDoor
open Go.RowKit M
set_option linter.unusedVariables false

set_option maxRecDepth 100000 in
set_option maxHeartbeats 4000000 in
theorem eqCondSS_gen (l : List (List Cn)) (v v' : Value) (B B' : Nat) (w : World) (h : View w B v (.l (l.map dCs))) (h' : View w B' v' (.l (l.map dCs))) (hB : B ≤ w.heap.size) (hB' : B' ≤ w.heap.size) :
    Calls Tryd.prog 7 #[v, v'] w fun e w' => e = .returned (.bool true) ∧ Below w.heap.size w w' := by
  obtain ⟨a, cap, rfl, hl, hm, _, hat⟩ := h.rows 1 (fun _ => rfl)
  obtain ⟨a', cap', rfl, hl', hm', _, hat'⟩ := h'.rows 1 (fun _ => rfl)
  have hn : l.length ≤ maxLen := Nat.le_trans hl hm
  unfold maxLen at hn
  have HAT := hide hat
  have HAT' := hide hat'
  clear h h' hat hat' hl hl' hm hm'
  go_enter Tryd.func7, Tryd.ntmps7
  go_wp2
  go_loopw [5] (fun i wr => ∃ k : Nat, k ≤ l.length ∧ i = .int .i64 k ∧ Below w.heap.size w wr) (fun i _ => l.length - (intOf i).toNat)
  case atStart => exact ⟨0, Nat.zero_le _, rfl, Below.refl _ _⟩
  case round =>
    obtain ⟨k, hk, rfl, hbe⟩ := hrel
    by_cases hlt : k < l.length
    · obtain ⟨b, o, C, rfl, hb, hc⟩ := HAT.out (by omega)
      obtain ⟨b', o', C', rfl, hb', hc'⟩ := HAT'.out (by omega)
      have hck := hc k hlt
      have hck' := hc' k hlt
      have hbw : b < w.heap.size := Nat.lt_of_lt_of_le hb hB
      have hbw' : b' < w.heap.size := Nat.lt_of_lt_of_le hb' hB'
      have hi0 : (0 : Int) ≤ (k : Int) := by omega
      have hi1 : (k : Int) < (l.length : Int) := by omega
      obtain ⟨x, hx⟩ : ∃ x, l[k] = x := ⟨_, rfl⟩
      rw [hx] at hck hck'
      clear hx hc hc'
      obtain ⟨c0, v0⟩ := hck 0 (.l (x.map dCn)) rfl
      simp only [Nat.mul_one, Nat.add_zero] at c0
      have c0 := (hbe.cell (p := ⟨b, o + k, none⟩) hbw).trans c0
      obtain ⟨c0', v0'⟩ := hck' 0 (.l (x.map dCn)) rfl
      simp only [Nat.mul_one, Nat.add_zero] at c0'
      have c0' := (hbe.cell (p := ⟨b', o' + k, none⟩) hbw').trans c0'
      clear hck hck'
      have hbd : Below w.heap.size w wr.drew := below_drewG hbe
      have hq := hide (eqCondS_gen x (C k 0) (C' k 0) B B' wr.drew (v0.stays hbd hB) (v0'.stays hbd hB') (Nat.le_trans hB hbd.size) (Nat.le_trans hB' hbd.size))
      clear v0 v0'
      have HX := hide (show wr.drew.cell? ⟨b, o + k, none⟩ = some (C k 0) ∧ wr.drew.cell? ⟨b', o' + k, none⟩ = some (C' k 0) from ⟨c0, c0'⟩)
      have hz1 : b < wr.heap.size := Nat.lt_of_lt_of_le hbw hbe.size
      have hz2 : b' < wr.heap.size := Nat.lt_of_lt_of_le hbw' hbe.size
      go_wp2
      go_region_held3 (fun W => W.cell? ⟨b, o + k, none⟩ = some (C k 0) ∧ W.cell? ⟨b', o' + k, none⟩ = some (C' k 0)) (first | exact HX.out | exact HX2.out) ((go_at_call 18; refine hq.out.mono ?_; rintro e w1 ⟨rfl, hb3⟩; have HX2 := hide (show w1.cell? ⟨b, o + k, none⟩ = some (C k 0) ∧ w1.cell? ⟨b', o' + k, none⟩ = some (C' k 0) from ⟨(hb3.cell (p := ⟨b, o + k, none⟩) hz1).trans c0, (hb3.cell (p := ⟨b', o' + k, none⟩) hz2).trans c0'⟩)))
      all_goals
        have c9 := hbd.trans (hb3.mono hbd.size)
        clear hq hb3 HX HX2
        go_wp2
        go_roundw
        case rel => exact ⟨k + 1, by omega, by go_num, c9⟩
        case measure => simp [intOf]; omega
    · go_wp2
      go_ret
      exact ⟨rfl, hbe⟩
end Go.Proofs.YtmgikfeknmbpbaaDoor
namespace Go.Proofs.YtmgikfeknmbpbaaDoor
open Go.RowKit M
set_option linter.unusedVariables false

set_option maxRecDepth 100000 in
set_option maxHeartbeats 16000000 in
theorem FnExactIfText_walk (v0 : Value) (l0 : List (List Cn)) (ok0 : okF (.l (l0.map dCs))) (w : World) (hh0 : View w w.heap.size v0 (.l (l0.map dCs))) (hL : laidMet Tryd.prog Rows.fnExactIfTextRow.laid w) :
    Calls Tryd.prog 4 #[v0] w fun e w' => e = .returned (.bool true) ∧ Below w.heap.size w w' := by
  have HWF := hide (wf_of ok0)
  have HPT := hide (fun W (hb : Below w.heap.size w W) => (powTab_of hL.tail.tail : PowTab w).below hb)
  clear hL
  have K0 := hide (Below.refl w.heap.size w)
  go_enter Tryd.func4, Tryd.ntmps4
  have HQ := hide (szCondSS_gen l0 v0 1048576 w.heap.size _ (hh0.stays K0.out (Nat.le_refl _)) K0.out.size ok0 (Nat.le_refl _))
  go_wp2_with fail
  refine HQ.out.mono ?_
  rintro e w1 ⟨⟨z, rfl, hz⟩, b1⟩
  have K1 := hide (K0.out.trans (b1.mono K0.out.size))
  have y1 := b1.size
  clear K0
  clear HQ b1
  rcases hz with hz | ⟨m0, rfl, hm0⟩
  · go_wp2
    go_ret
    exact ⟨rfl, K1.out⟩
  have hn0 : m0 ≤ 1048576 := by omega
  have Z0 := hide hm0
  clear hm0
  have hs0 : szRs (l0.map dCs) ≤ 1048576 := by have := Z0.out; omega
  have hc0 : cntRs (l0.map dCs) ≤ 12582912 := by have := cnt_leRs _ ok0.1; omega
  obtain ⟨tt, htt⟩ := txt_is l0
  have HSP := hide (fun (u0 : Value) (W : World) (x0 : View W W.heap.size u0 (.l (l0.map dCs))) => specIfText_gen l0 tt htt u0 W x0 hs0 HWF.out)
  have HIP := hide (fun (u0 : Value) (W : World) (x0 : View W W.heap.size u0 (.l (l0.map dCs))) (hp : PowTab W) => ifText_gen l0 tt htt u0 W x0 hs0 HWF.out hp)
  clear htt
  have hbb : (tt.toList == tt.toList) = true := beq_self_eq_true _
  have HQ := hide (toCondSS_gen l0 v0 w.heap.size _ (hh0.stays K1.out (Nat.le_refl _)) K1.out.size hs0)
  go_wp2_with fail
  refine HQ.out.mono ?_
  rintro e w2 ⟨⟨p2, rfl, X⟩, b2⟩
  have K2 := hide (K1.out.trans (b2.mono K1.out.size))
  have y2 := b2.size
  clear K1
  have C1_2 := hide (X.up (l' := w1.heap.size) (u' := w2.heap.size) (by first | (simp; done) | (simp; omega) | omega) (Nat.le_refl _))
  clear X HQ b2
  have HQ := hide (HSP.out (.slice (some ⟨p2, 0, none⟩) l0.length l0.length) w2 (C1_2.out.vw (by omega)))
  clear C1_2
  go_wp2_with fail
  refine HQ.out.mono ?_
  rintro e w3 ⟨rfl, b3⟩
  have K3 := hide (K2.out.trans (b3.mono K2.out.size))
  have y3 := b3.size
  clear K2
  clear HQ b3
  have HQ := hide (toCondSS_gen l0 v0 w.heap.size _ (hh0.stays K3.out (Nat.le_refl _)) K3.out.size hs0)
  go_wp2_with fail
  refine HQ.out.mono ?_
  rintro e w4 ⟨⟨p4, rfl, X⟩, b4⟩
  have K4 := hide (K3.out.trans (b4.mono K3.out.size))
  have y4 := b4.size
  clear K3
  have C3_4 := hide (X.up (l' := w3.heap.size) (u' := w4.heap.size) (by first | (simp; done) | (simp; omega) | omega) (Nat.le_refl _))
  clear X HQ b4
  have HQ := hide (HIP.out (.slice (some ⟨p4, 0, none⟩) l0.length l0.length) w4 (C3_4.out.vw (by omega)) (HPT.out _ K4.out))
  go_wp2_with fail
  refine HQ.out.mono ?_
  rintro e w5 ⟨rfl, b5⟩
  have K5 := hide (K4.out.trans (b5.mono K4.out.size))
  have y5 := b5.size
  clear K4
  have C3_5 := hide (C3_4.out.next b5)
  clear C3_4
  clear HQ b5
  have HQ := hide (toCondSS_gen l0 v0 w.heap.size _ (hh0.stays K5.out (Nat.le_refl _)) K5.out.size hs0)
  go_wp2_with fail
  refine HQ.out.mono ?_
  rintro e w6 ⟨⟨p6, rfl, X⟩, b6⟩
  have K6 := hide (K5.out.trans (b6.mono K5.out.size))
  have y6 := b6.size
  clear K5
  have C3_6 := hide (C3_5.out.next b6)
  clear C3_5
  have C5_6 := hide (X.up (l' := w5.heap.size) (u' := w6.heap.size) (by first | (simp; done) | (simp; omega) | omega) (Nat.le_refl _))
  clear X HQ b6
  have HQ := hide (eqCondSS_gen l0 (.slice (some ⟨p4, 0, none⟩) l0.length l0.length) (.slice (some ⟨p6, 0, none⟩) l0.length l0.length) (w4.heap.size) (w6.heap.size) _ (C3_6.out.vw (Nat.le_refl _)) (C5_6.out.vw (Nat.le_refl _)) (by omega) (by omega))
  go_wp2_with fail
  refine HQ.out.mono ?_
  rintro e w7 ⟨rfl, b7⟩
  have K7 := hide (K6.out.trans (b7.mono K6.out.size))
  have y7 := b7.size
  clear K6
  have C3_7 := hide (C3_6.out.next b7)
  clear C3_6
  have C5_7 := hide (C5_6.out.next b7)
  clear C5_6
  clear HQ b7
  clear C5_7
  go_wp2
  go_ret
  exact ⟨rfl, K7.out⟩
end Go.Proofs.YtmgikfeknmbpbaaDoor
namespace Go.Proofs.YtmgikfeknmbpbaaDoor
open Go.RowKit Go.ChangeShapes Go.WideShapes Go.Deep M
set_option linter.unusedVariables false

section
variable {H : Type} {enc : TypeId × Value → H} {w : World} {spare : Nat → Bool} {held : Bool}
set_option maxRecDepth 100000 in
theorem openCondS_gen {fuel : Nat} {v : Value} {x : DataW H × List MemPlace} (h : DataW.trod enc Tryd.prog w 0 spare held fuel 45 [v] = some x) :
    ∃ l : List Cn, View w w.heap.size v (.l (l.map dCn)) ∧ okF (.l (l.map dCn)) := by
  rcases DataW.trod_slice Tryd.underlying45 h with ⟨hcs, _⟩ | ⟨x, len, cap, elems, rest, n, hfuel, hcs, _, _, hl, hm, hlen, hel, _, _⟩
  · simp at hcs
    subst hcs
    exact ⟨[], .nil _ _ (fun _ => rfl) (Nat.zero_le _), by simp [okF, okRs]⟩
  · simp at hcs
    subst hcs
    have ce : (Tryd.prog.cellsOf 70) = 3 := by kernel_rfl
    rw [ce] at hel
    have each : ∀ i, i < len → ∃ q : Cn × (Nat → Value), (∀ i' y, (dCn q.1)[i']? = some y → w.cell? (x.add (i * 3 + i')) = some (q.2 i') ∧ View w w.heap.size (q.2 i') y) ∧ okR (dCn q.1) := by
      intro i hi
      have h1 := hel i hi
      obtain ⟨y, hy⟩ : ∃ y, elems[i]? = some y := ⟨elems[i]'(by omega), List.getElem?_eq_getElem (by omega)⟩
      rw [hy] at h1
      obtain ⟨cs', h2, h3⟩ := Option.bind_eq_some_iff.1 h1
      obtain ⟨_, hlen4, hcell⟩ := World.cells?_some h2
      obtain ⟨xs, k, hk, hxy, _, hxl, hf⟩ := DataW.trod_struct Tryd.underlying70 h3
      match xs, hxl, cs', hlen4 with
      | [y0, y1, y2], _, [v0, v1, v2], _ =>
        have g0 := hf 0 _ rfl
        have g1 := hf 1 _ rfl
        have g2 := hf 2 _ rfl
        have k0 : Tryd.prog.cellsOf 4 = 1 := by kernel_rfl
        have k1 : Tryd.prog.cellsOf 3 = 1 := by kernel_rfl
        have k2 : Tryd.prog.cellsOf 9 = 1 := by kernel_rfl
        simp [k0, k1, k2] at g0 g1 g2
        obtain ⟨z0, e0, _⟩ := DataW.trod_bool Tryd.underlying4 g0
        obtain ⟨z1, e1, _, w1⟩ := DataW.trod_int Tryd.underlying3 g1
        obtain ⟨z2, e2, _, s2⟩ := DataW.trod_string Tryd.underlying9 g2
        simp only [List.cons.injEq, and_true] at e0 e1 e2
        subst e0 e1 e2
        refine ⟨(⟨z0, z1, z2⟩, fun i => ([.bool z0, .int .i64 z1, .string z2][i]?).getD (.bool false)), fun i' y' hy' => ?_, ?_⟩
        · match i' with
          | 0 =>
            cases hy'
            have c := hcell 0 (by omega)
            rw [Go.Deep.add_add] at c
            exact ⟨by simpa using c, .c _⟩
          | 1 =>
            cases hy'
            have c := hcell 1 (by omega)
            rw [Go.Deep.add_add] at c
            exact ⟨by simpa using c, .c _⟩
          | 2 =>
            cases hy'
            have c := hcell 2 (by omega)
            rw [Go.Deep.add_add] at c
            exact ⟨by simpa using c, .c _⟩
          | i' + 3 => cases hy'
        · show okR [.c (.bool z0), .c (.int .i64 z1), .c (.string z2)]
          simp only [okR]
          exact ⟨trivial, w1, s2, trivial⟩
    obtain ⟨qs, hql, hq⟩ := pick_gen each
    have hmap : ∀ j (hj : j < qs.length), cellAt ((qs.map (·.1)).map dCn) j = fun i => (dCn qs[j].1)[i]? := fun j hj => by
      funext i
      unfold cellAt
      rw [List.map_map, List.getElem?_map, List.getElem?_eq_getElem hj]
      rfl
    refine ⟨qs.map (·.1), ?_, ?_, ?_⟩
    · by_cases h0 : 0 < qs.length
      · obtain ⟨b, off, spot⟩ := x
        have hw0 : ∃ y0, (dCn (qs[0]).1)[0]? = some y0 := ⟨_, rfl⟩
        obtain ⟨y0, hy0⟩ := hw0
        have hc := ((hq 0 h0).1 0 y0 hy0).1
        have hspot : spot = none := by simpa [Addr.add] using World.cell?_spot hc
        subst hspot
        have hb : b < w.heap.size := by
          have := World.block_lt_of_cell? w _ hc
          simpa [Addr.add] using this
        have hlen5 : len = ((qs.map (·.1)).map dCn).length := by simp [hql]
        rw [hlen5]
        refine .row b off cap 3 _ (fun j i => match qs[j]? with | some q => q.2 i | none => .bool false) hb (by rw [← hlen5]; exact hl) hm (fun r hr => by obtain ⟨q, _, rfl⟩ := List.mem_map.1 hr; rfl) (fun j i y hy => ?_) (fun j i y hy => ?_)
        · by_cases hj : j < qs.length
          · rw [hmap j hj] at hy
            have h1 := ((hq j hj).1 i y hy).1
            rw [List.getElem?_eq_getElem hj]
            have ea : (⟨b, off, none⟩ : Addr).add (j * 3 + i) = ⟨b, off + j * 3 + i, none⟩ := by rw [add_pick, Nat.add_assoc]
            rw [ea] at h1
            exact h1
          · unfold cellAt at hy
            rw [List.getElem?_eq_none (by simp; omega)] at hy
            cases hy
        · by_cases hj : j < qs.length
          · rw [hmap j hj] at hy
            rw [List.getElem?_eq_getElem hj]
            exact ((hq j hj).1 i y hy).2
          · unfold cellAt at hy
            rw [List.getElem?_eq_none (by simp; omega)] at hy
            cases hy
      · have h00 : qs = [] := List.eq_nil_of_length_eq_zero (by omega)
        subst h00
        simp at hql
        subst hql
        exact .nil _ _ (fun e => by cases e) hm
    · exact okRs_of _ (fun r hr => by
        obtain ⟨q, hq1, rfl⟩ := List.mem_map.1 hr
        obtain ⟨q', hq2, rfl⟩ := List.mem_map.1 hq1
        obtain ⟨j, hj, rfl⟩ := List.mem_iff_getElem.1 hq2
        exact ⟨(hq j hj).2, by show 3 ≤ 12; omega⟩)
    · simp [hql]; omega
end
end Go.Proofs.YtmgikfeknmbpbaaDoor
namespace Go.Proofs.YtmgikfeknmbpbaaDoor
open Go.RowKit Go.ChangeShapes Go.WideShapes Go.Deep M
set_option linter.unusedVariables false

section
variable {H : Type} {enc : TypeId × Value → H} {w : World} {spare : Nat → Bool} {held : Bool}
set_option maxRecDepth 100000 in
theorem openCondSS_gen {fuel : Nat} {v : Value} {x : DataW H × List MemPlace} (h : DataW.trod enc Tryd.prog w 0 spare held fuel 28 [v] = some x) :
    ∃ l : List (List Cn), View w w.heap.size v (.l (l.map dCs)) ∧ okF (.l (l.map dCs)) := by
  rcases DataW.trod_slice Tryd.underlying28 h with ⟨hcs, _⟩ | ⟨x, len, cap, elems, rest, n, hfuel, hcs, _, _, hl, hm, hlen, hel, _, _⟩
  · simp at hcs
    subst hcs
    exact ⟨[], .nil _ _ (fun _ => rfl) (Nat.zero_le _), by simp [okF, okRs]⟩
  · simp at hcs
    subst hcs
    have ce : (Tryd.prog.cellsOf 45) = 1 := by kernel_rfl
    rw [ce] at hel
    have each : ∀ i, i < len → ∃ q : (List Cn) × (Nat → Value), (∀ i' y, (dCs q.1)[i']? = some y → w.cell? (x.add (i * 1 + i')) = some (q.2 i') ∧ View w w.heap.size (q.2 i') y) ∧ okR (dCs q.1) := by
      intro i hi
      have h1 := hel i hi
      obtain ⟨y, hy⟩ : ∃ y, elems[i]? = some y := ⟨elems[i]'(by omega), List.getElem?_eq_getElem (by omega)⟩
      rw [hy] at h1
      obtain ⟨cs', h2, h3⟩ := Option.bind_eq_some_iff.1 h1
      obtain ⟨_, hlen4, hcell⟩ := World.cells?_some h2
      match cs', hlen4 with
      | [v0], _ =>
        have g0 := h3
        obtain ⟨z0, V0, O0⟩ := openCondS_gen g0
        refine ⟨(z0, fun i => ([v0][i]?).getD (.bool false)), fun i' y' hy' => ?_, ?_⟩
        · match i' with
          | 0 =>
            cases hy'
            have c := hcell 0 (by omega)
            rw [Go.Deep.add_add] at c
            exact ⟨by simpa using c, V0⟩
          | i' + 1 => cases hy'
        · show okR [.l (z0.map dCn)]
          simp only [okR]
          exact ⟨O0, trivial⟩
    obtain ⟨qs, hql, hq⟩ := pick_gen each
    have hmap : ∀ j (hj : j < qs.length), cellAt ((qs.map (·.1)).map dCs) j = fun i => (dCs qs[j].1)[i]? := fun j hj => by
      funext i
      unfold cellAt
      rw [List.map_map, List.getElem?_map, List.getElem?_eq_getElem hj]
      rfl
    refine ⟨qs.map (·.1), ?_, ?_, ?_⟩
    · by_cases h0 : 0 < qs.length
      · obtain ⟨b, off, spot⟩ := x
        have hw0 : ∃ y0, (dCs (qs[0]).1)[0]? = some y0 := ⟨_, rfl⟩
        obtain ⟨y0, hy0⟩ := hw0
        have hc := ((hq 0 h0).1 0 y0 hy0).1
        have hspot : spot = none := by simpa [Addr.add] using World.cell?_spot hc
        subst hspot
        have hb : b < w.heap.size := by
          have := World.block_lt_of_cell? w _ hc
          simpa [Addr.add] using this
        have hlen5 : len = ((qs.map (·.1)).map dCs).length := by simp [hql]
        rw [hlen5]
        refine .row b off cap 1 _ (fun j i => match qs[j]? with | some q => q.2 i | none => .bool false) hb (by rw [← hlen5]; exact hl) hm (fun r hr => by obtain ⟨q, _, rfl⟩ := List.mem_map.1 hr; rfl) (fun j i y hy => ?_) (fun j i y hy => ?_)
        · by_cases hj : j < qs.length
          · rw [hmap j hj] at hy
            have h1 := ((hq j hj).1 i y hy).1
            rw [List.getElem?_eq_getElem hj]
            have ea : (⟨b, off, none⟩ : Addr).add (j * 1 + i) = ⟨b, off + j * 1 + i, none⟩ := by rw [add_pick, Nat.add_assoc]
            rw [ea] at h1
            exact h1
          · unfold cellAt at hy
            rw [List.getElem?_eq_none (by simp; omega)] at hy
            cases hy
        · by_cases hj : j < qs.length
          · rw [hmap j hj] at hy
            rw [List.getElem?_eq_getElem hj]
            exact ((hq j hj).1 i y hy).2
          · unfold cellAt at hy
            rw [List.getElem?_eq_none (by simp; omega)] at hy
            cases hy
      · have h00 : qs = [] := List.eq_nil_of_length_eq_zero (by omega)
        subst h00
        simp at hql
        subst hql
        exact .nil _ _ (fun e => by cases e) hm
    · exact okRs_of _ (fun r hr => by
        obtain ⟨q, hq1, rfl⟩ := List.mem_map.1 hr
        obtain ⟨q', hq2, rfl⟩ := List.mem_map.1 hq1
        obtain ⟨j, hj, rfl⟩ := List.mem_iff_getElem.1 hq2
        exact ⟨(hq j hj).2, by show 1 ≤ 12; omega⟩)
    · simp [hql]; omega
end
end Go.Proofs.YtmgikfeknmbpbaaDoor
