/-
  A help of the laws, by program (tools/gen_help.py): Eq1 of Lock.
  A help of the laws, by program (tools/gen_help.py): Eqq of Lock.
  A help of the laws, by program (tools/gen_help.py): Eqq of Int.
  A help of the laws, by program (tools/gen_help.py): Eq1 of Srv.
  The walk of the law FnExactSrvOk: for every input it returns true, and turns nothing that was there.
  A help of the laws, by program (tools/gen_help.py): Opn of String.
  A help of the laws, by program (tools/gen_help.py): Opn of Prop.
  A help of the laws, by program (tools/gen_help.py): Opn of Res.
  A help of the laws, by program (tools/gen_help.py): Opn of Lock.
  A help of the laws, by program (tools/gen_help.py): Opn of Int.
  A help of the laws, by program (tools/gen_help.py): Op1 of Srv.
-/
import Derived.Test.YtcgljeagjchobaaGreatRows
import Derived.Test.YtcgljeagjchobaaGreatGenSrv
import Derived.Test.YtcgljeagjchobaaGreatGenBox
import Derived.Test.YtcgljeagjchobaaGreatGenEqqResS
import Derived.WalkKit
import Derived.WalkSpells
import Derived.WalkLawsBesides
import Derived.Deep.Light
import Derived.Deep.QuietTactic
import Derived.Deep.RegionHeld3
import Derived.Test.YtcgljeagjchobaaGreatGenTo1Prop
import Derived.Test.YtcgljeagjchobaaGreatLockRows
import Derived.Lib.SmallJoins
import Derived.Deep.Slices
import Derived.OpenShut
import Derived.SliceStrings
namespace Go.Proofs.YtcgljeagjchobaaGreat
open Go.RowKit M
set_option linter.unusedVariables false

set_option maxRecDepth 100000 in
set_option maxHeartbeats 4000000 in
theorem eqLock_gen (x : Lk) (u1 t1 : Value) (B C : Nat) (w : World) (h1 : View w B u1 (.l (x.pa.map dS))) (j1 : View w C t1 (.l (x.pa.map dS))) (hB : B ≤ w.heap.size) (hC : C ≤ w.heap.size) :
    Calls Tryz.prog 79 #[.agg #[.int .i64 x.tk, u1, .bool x.de, .bool x.sh, .int .i64 x.un], .agg #[.int .i64 x.tk, t1, .bool x.de, .bool x.sh, .int .i64 x.un]] w fun e w' => e = .returned (.bool true) ∧ Below w.heap.size w w' := by
  have K0 := hide (show Below w.heap.size w ((w.alloc (Obj.cells #[.int .i64 x.tk, u1, .bool x.de, .bool x.sh, .int .i64 x.un] 48)).alloc (Obj.cells #[.int .i64 x.tk, t1, .bool x.de, .bool x.sh, .int .i64 x.un] 48)) from ((Below.refl _ _).alloc (Nat.le_refl _) _).alloc (by simp) _)
  have X0 := hide (show BoxV ((w.alloc (Obj.cells #[.int .i64 x.tk, u1, .bool x.de, .bool x.sh, .int .i64 x.un] 48)).alloc (Obj.cells #[.int .i64 x.tk, t1, .bool x.de, .bool x.sh, .int .i64 x.un] 48)) w.heap.size [.int .i64 x.tk, u1, .bool x.de, .bool x.sh, .int .i64 x.un] from (BoxV.made w [.int .i64 x.tk, u1, .bool x.de, .bool x.sh, .int .i64 x.un] 48).alloc _)
  have Y0 := hide (show BoxV ((w.alloc (Obj.cells #[.int .i64 x.tk, u1, .bool x.de, .bool x.sh, .int .i64 x.un] 48)).alloc (Obj.cells #[.int .i64 x.tk, t1, .bool x.de, .bool x.sh, .int .i64 x.un] 48)) (w.heap.size + 1) [.int .i64 x.tk, t1, .bool x.de, .bool x.sh, .int .i64 x.un] by have h := BoxV.made (w.alloc (Obj.cells #[.int .i64 x.tk, u1, .bool x.de, .bool x.sh, .int .i64 x.un] 48)) [.int .i64 x.tk, t1, .bool x.de, .bool x.sh, .int .i64 x.un] 48; simpa using h)
  have e0 : (x.tk == x.tk) = true := beq_self_eq_true _
  have e4 : (x.un == x.un) = true := beq_self_eq_true _
  go_enter Tryz.func79, Tryz.ntmps79
  have HQ := hide (eqStringS_gen (x.pa) u1 t1 B C _ (h1.stays K0.out hB) (j1.stays K0.out hC) (Nat.le_trans hB K0.out.size) (Nat.le_trans hC K0.out.size))
  go_wp2_with fail
  refine HQ.out.mono ?_
  rintro e w1 ⟨rfl, b1⟩
  have K1 := hide (K0.out.trans (b1.mono K0.out.size))
  have X1 := hide (X0.out.next b1)
  have Y1 := hide (Y0.out.next b1)
  clear HQ b1 K0 X0 Y0
  have c2 := (X1.out.2 2 _ rfl).1
  have d2 := (Y1.out.2 2 _ rfl).1
  have c3 := (X1.out.2 3 _ rfl).1
  have d3 := (Y1.out.2 3 _ rfl).1
  have c4 := (X1.out.2 4 _ rfl).1
  have d4 := (Y1.out.2 4 _ rfl).1
  go_wp2
  go_ret
  exact ⟨rfl, K1.out⟩
end Go.Proofs.YtcgljeagjchobaaGreat
namespace Go.Proofs.YtcgljeagjchobaaGreat
open Go.RowKit M
set_option linter.unusedVariables false

set_option maxRecDepth 100000 in
set_option maxHeartbeats 4000000 in
theorem eqLockS_gen (l : List Lk) (v v' : Value) (B B' : Nat) (w : World) (h : View w B v (.l (l.map dLk))) (h' : View w B' v' (.l (l.map dLk))) (hB : B ≤ w.heap.size) (hB' : B' ≤ w.heap.size) :
    Calls Tryz.prog 35 #[v, v'] w fun e w' => e = .returned (.bool true) ∧ Below w.heap.size w w' := by
  obtain ⟨a, cap, rfl, hl, hm, _, hat⟩ := h.rows 5 (fun _ => rfl)
  obtain ⟨a', cap', rfl, hl', hm', _, hat'⟩ := h'.rows 5 (fun _ => rfl)
  have hn : l.length ≤ maxLen := Nat.le_trans hl hm
  unfold maxLen at hn
  have HAT := hide hat
  have HAT' := hide hat'
  clear h h' hat hat' hl hl' hm hm'
  go_enter Tryz.func35, Tryz.ntmps35
  go_wp2
  go_loopw [5] (fun i wr => ∃ k : Nat, k ≤ l.length ∧ i = .int .i64 k ∧ Below w.heap.size w wr) (fun i _ => l.length - (intOf i).toNat)
  case atStart => exact ⟨0, Nat.zero_le _, rfl, Below.refl _ _⟩
  case round =>
    obtain ⟨k, hk, rfl, hbe⟩ := hrel
    by_cases hlt : k < l.length
    · obtain ⟨b, o, C, rfl, hb, hc⟩ := HAT.out (by omega)
      obtain ⟨b', o', C', rfl, hb', hc'⟩ := HAT'.out (by omega)
      have hck := hc k hlt
      have hck' := hc' k hlt
      have hbw : b < w.heap.size := Nat.lt_of_lt_of_le hb hB
      have hbw' : b' < w.heap.size := Nat.lt_of_lt_of_le hb' hB'
      have hi0 : (0 : Int) ≤ (k : Int) := by omega
      have hi1 : (k : Int) < (l.length : Int) := by omega
      obtain ⟨x, hx⟩ : ∃ x, l[k] = x := ⟨_, rfl⟩
      rw [hx] at hck hck'
      clear hx hc hc'
      have c0 : wr.cell? ⟨b, o + k * 5, none⟩ = some (.int .i64 x.tk) := by
        obtain ⟨c, v⟩ := hck 0 (.c (.int .i64 x.tk)) rfl
        rw [v.inv] at c
        simp only [Nat.add_zero] at c
        exact (hbe.cell (p := ⟨b, o + k * 5, none⟩) hbw).trans c
      obtain ⟨c1, v1⟩ := hck 1 (.l (x.pa.map dS)) rfl
      have c1 := (hbe.cell (p := ⟨b, o + k * 5 + 1, none⟩) hbw).trans c1
      have c2 : wr.cell? ⟨b, o + k * 5 + 2, none⟩ = some (.bool x.de) := by
        obtain ⟨c, v⟩ := hck 2 (.c (.bool x.de)) rfl
        rw [v.inv] at c
        exact (hbe.cell (p := ⟨b, o + k * 5 + 2, none⟩) hbw).trans c
      have c3 : wr.cell? ⟨b, o + k * 5 + 3, none⟩ = some (.bool x.sh) := by
        obtain ⟨c, v⟩ := hck 3 (.c (.bool x.sh)) rfl
        rw [v.inv] at c
        exact (hbe.cell (p := ⟨b, o + k * 5 + 3, none⟩) hbw).trans c
      have c4 : wr.cell? ⟨b, o + k * 5 + 4, none⟩ = some (.int .i64 x.un) := by
        obtain ⟨c, v⟩ := hck 4 (.c (.int .i64 x.un)) rfl
        rw [v.inv] at c
        exact (hbe.cell (p := ⟨b, o + k * 5 + 4, none⟩) hbw).trans c
      have c0' : wr.cell? ⟨b', o' + k * 5, none⟩ = some (.int .i64 x.tk) := by
        obtain ⟨c, v⟩ := hck' 0 (.c (.int .i64 x.tk)) rfl
        rw [v.inv] at c
        simp only [Nat.add_zero] at c
        exact (hbe.cell (p := ⟨b', o' + k * 5, none⟩) hbw').trans c
      obtain ⟨c1', v1'⟩ := hck' 1 (.l (x.pa.map dS)) rfl
      have c1' := (hbe.cell (p := ⟨b', o' + k * 5 + 1, none⟩) hbw').trans c1'
      have c2' : wr.cell? ⟨b', o' + k * 5 + 2, none⟩ = some (.bool x.de) := by
        obtain ⟨c, v⟩ := hck' 2 (.c (.bool x.de)) rfl
        rw [v.inv] at c
        exact (hbe.cell (p := ⟨b', o' + k * 5 + 2, none⟩) hbw').trans c
      have c3' : wr.cell? ⟨b', o' + k * 5 + 3, none⟩ = some (.bool x.sh) := by
        obtain ⟨c, v⟩ := hck' 3 (.c (.bool x.sh)) rfl
        rw [v.inv] at c
        exact (hbe.cell (p := ⟨b', o' + k * 5 + 3, none⟩) hbw').trans c
      have c4' : wr.cell? ⟨b', o' + k * 5 + 4, none⟩ = some (.int .i64 x.un) := by
        obtain ⟨c, v⟩ := hck' 4 (.c (.int .i64 x.un)) rfl
        rw [v.inv] at c
        exact (hbe.cell (p := ⟨b', o' + k * 5 + 4, none⟩) hbw').trans c
      clear hck hck'
      have hbd : Below w.heap.size w wr.drew := below_drewG hbe
      have hq := hide (eqLock_gen x (C k 1) (C' k 1) B B' wr.drew (v1.stays hbd hB) (v1'.stays hbd hB') (Nat.le_trans hB hbd.size) (Nat.le_trans hB' hbd.size))
      clear v1 v1'
      have HX := hide (show wr.drew.cell? ⟨b, o + k * 5, none⟩ = some (.int .i64 x.tk) ∧ wr.drew.cell? ⟨b, o + k * 5 + 1, none⟩ = some (C k 1) ∧ wr.drew.cell? ⟨b, o + k * 5 + 2, none⟩ = some (.bool x.de) ∧ wr.drew.cell? ⟨b, o + k * 5 + 3, none⟩ = some (.bool x.sh) ∧ wr.drew.cell? ⟨b, o + k * 5 + 4, none⟩ = some (.int .i64 x.un) ∧ wr.drew.cell? ⟨b', o' + k * 5, none⟩ = some (.int .i64 x.tk) ∧ wr.drew.cell? ⟨b', o' + k * 5 + 1, none⟩ = some (C' k 1) ∧ wr.drew.cell? ⟨b', o' + k * 5 + 2, none⟩ = some (.bool x.de) ∧ wr.drew.cell? ⟨b', o' + k * 5 + 3, none⟩ = some (.bool x.sh) ∧ wr.drew.cell? ⟨b', o' + k * 5 + 4, none⟩ = some (.int .i64 x.un) from ⟨c0, c1, c2, c3, c4, c0', c1', c2', c3', c4'⟩)
      have hz1 : b < wr.heap.size := Nat.lt_of_lt_of_le hbw hbe.size
      have hz2 : b' < wr.heap.size := Nat.lt_of_lt_of_le hbw' hbe.size
      go_wp2
      go_region_held3 (fun W => W.cell? ⟨b, o + k * 5, none⟩ = some (.int .i64 x.tk) ∧ W.cell? ⟨b, o + k * 5 + 1, none⟩ = some (C k 1) ∧ W.cell? ⟨b, o + k * 5 + 2, none⟩ = some (.bool x.de) ∧ W.cell? ⟨b, o + k * 5 + 3, none⟩ = some (.bool x.sh) ∧ W.cell? ⟨b, o + k * 5 + 4, none⟩ = some (.int .i64 x.un) ∧ W.cell? ⟨b', o' + k * 5, none⟩ = some (.int .i64 x.tk) ∧ W.cell? ⟨b', o' + k * 5 + 1, none⟩ = some (C' k 1) ∧ W.cell? ⟨b', o' + k * 5 + 2, none⟩ = some (.bool x.de) ∧ W.cell? ⟨b', o' + k * 5 + 3, none⟩ = some (.bool x.sh) ∧ W.cell? ⟨b', o' + k * 5 + 4, none⟩ = some (.int .i64 x.un)) (first | exact HX.out | exact HX2.out) ((go_at_call 79; refine hq.out.mono ?_; rintro e w1 ⟨rfl, hb3⟩; have HX2 := hide (show w1.cell? ⟨b, o + k * 5, none⟩ = some (.int .i64 x.tk) ∧ w1.cell? ⟨b, o + k * 5 + 1, none⟩ = some (C k 1) ∧ w1.cell? ⟨b, o + k * 5 + 2, none⟩ = some (.bool x.de) ∧ w1.cell? ⟨b, o + k * 5 + 3, none⟩ = some (.bool x.sh) ∧ w1.cell? ⟨b, o + k * 5 + 4, none⟩ = some (.int .i64 x.un) ∧ w1.cell? ⟨b', o' + k * 5, none⟩ = some (.int .i64 x.tk) ∧ w1.cell? ⟨b', o' + k * 5 + 1, none⟩ = some (C' k 1) ∧ w1.cell? ⟨b', o' + k * 5 + 2, none⟩ = some (.bool x.de) ∧ w1.cell? ⟨b', o' + k * 5 + 3, none⟩ = some (.bool x.sh) ∧ w1.cell? ⟨b', o' + k * 5 + 4, none⟩ = some (.int .i64 x.un) from ⟨(hb3.cell (p := ⟨b, o + k * 5, none⟩) hz1).trans c0, (hb3.cell (p := ⟨b, o + k * 5 + 1, none⟩) hz1).trans c1, (hb3.cell (p := ⟨b, o + k * 5 + 2, none⟩) hz1).trans c2, (hb3.cell (p := ⟨b, o + k * 5 + 3, none⟩) hz1).trans c3, (hb3.cell (p := ⟨b, o + k * 5 + 4, none⟩) hz1).trans c4, (hb3.cell (p := ⟨b', o' + k * 5, none⟩) hz2).trans c0', (hb3.cell (p := ⟨b', o' + k * 5 + 1, none⟩) hz2).trans c1', (hb3.cell (p := ⟨b', o' + k * 5 + 2, none⟩) hz2).trans c2', (hb3.cell (p := ⟨b', o' + k * 5 + 3, none⟩) hz2).trans c3', (hb3.cell (p := ⟨b', o' + k * 5 + 4, none⟩) hz2).trans c4'⟩)))
      all_goals
        have c9 := hbd.trans (hb3.mono hbd.size)
        clear hq hb3 HX HX2
        go_wp2
        go_roundw
        case rel => exact ⟨k + 1, by omega, by go_num, c9⟩
        case measure => simp [intOf]; omega
    · go_wp2
      go_ret
      exact ⟨rfl, hbe⟩
end Go.Proofs.YtcgljeagjchobaaGreat
namespace Go.Proofs.YtcgljeagjchobaaGreat
open Go.RowKit M
set_option linter.unusedVariables false

set_option maxRecDepth 100000 in
set_option maxHeartbeats 4000000 in
theorem eqIntS_gen (l : List Int) (v v' : Value) (B B' : Nat) (w : World) (h : View w B v (.l (l.map dI))) (h' : View w B' v' (.l (l.map dI))) (hB : B ≤ w.heap.size) (hB' : B' ≤ w.heap.size) :
    Calls Tryz.prog 36 #[v, v'] w fun e w' => e = .returned (.bool true) ∧ Below w.heap.size w w' := by
  obtain ⟨a, cap, rfl, hl, hm, _, hat⟩ := h.rows 1 (fun _ => rfl)
  obtain ⟨a', cap', rfl, hl', hm', _, hat'⟩ := h'.rows 1 (fun _ => rfl)
  have hn : l.length ≤ maxLen := Nat.le_trans hl hm
  unfold maxLen at hn
  have HAT := hide hat
  have HAT' := hide hat'
  clear h h' hat hat' hl hl' hm hm'
  go_enter Tryz.func36, Tryz.ntmps36
  go_wp2
  go_loopw [5] (fun i wr => ∃ k : Nat, k ≤ l.length ∧ i = .int .i64 k ∧ Below w.heap.size w wr) (fun i _ => l.length - (intOf i).toNat)
  case atStart => exact ⟨0, Nat.zero_le _, rfl, Below.refl _ _⟩
  case round =>
    obtain ⟨k, hk, rfl, hbe⟩ := hrel
    by_cases hlt : k < l.length
    · obtain ⟨b, o, C, rfl, hb, hc⟩ := HAT.out (by omega)
      obtain ⟨b', o', C', rfl, hb', hc'⟩ := HAT'.out (by omega)
      have hck := hc k hlt
      have hck' := hc' k hlt
      have hbw : b < w.heap.size := Nat.lt_of_lt_of_le hb hB
      have hbw' : b' < w.heap.size := Nat.lt_of_lt_of_le hb' hB'
      have hi0 : (0 : Int) ≤ (k : Int) := by omega
      have hi1 : (k : Int) < (l.length : Int) := by omega
      obtain ⟨x, hx⟩ : ∃ x, l[k] = x := ⟨_, rfl⟩
      rw [hx] at hck hck'
      clear hx hc hc'
      have c0 : wr.cell? ⟨b, o + k, none⟩ = some (.int .i64 x) := by
        obtain ⟨c, v⟩ := hck 0 (.c (.int .i64 x)) rfl
        rw [v.inv] at c
        simp only [Nat.mul_one, Nat.add_zero] at c
        exact (hbe.cell (p := ⟨b, o + k, none⟩) hbw).trans c
      have c0' : wr.cell? ⟨b', o' + k, none⟩ = some (.int .i64 x) := by
        obtain ⟨c, v⟩ := hck' 0 (.c (.int .i64 x)) rfl
        rw [v.inv] at c
        simp only [Nat.mul_one, Nat.add_zero] at c
        exact (hbe.cell (p := ⟨b', o' + k, none⟩) hbw').trans c
      clear hck hck'
      have e0 : (x == x) = true := beq_self_eq_true _
      go_wp2
      go_quiet (fail)
      go_wp2
      go_roundw
      case rel => exact ⟨k + 1, by omega, by go_num, below_drewN hbe _⟩
      case measure => simp [intOf]; omega
    · go_wp2
      go_ret
      exact ⟨rfl, hbe⟩
end Go.Proofs.YtcgljeagjchobaaGreat
namespace Go.Proofs.YtcgljeagjchobaaGreat
open Go.RowKit M
set_option linter.unusedVariables false

set_option maxRecDepth 100000 in
set_option maxHeartbeats 4000000 in
theorem eqSrv_gen (x : Sv) (u0 t0 u1 t1 u4 t4 u5 t5 : Value) (B C : Nat) (w : World) (h0 : View w B u0 (.l (x.t.map dRs))) (j0 : View w C t0 (.l (x.t.map dRs))) (h1 : View w B u1 (.l (x.l.map dLk))) (j1 : View w C t1 (.l (x.l.map dLk))) (h4 : View w B u4 (.l (x.dr.map dI))) (j4 : View w C t4 (.l (x.dr.map dI))) (h5 : View w B u5 (.l (x.us.map dI))) (j5 : View w C t5 (.l (x.us.map dI))) (hB : B ≤ w.heap.size) (hC : C ≤ w.heap.size) :
    Calls Tryz.prog 10 #[.agg #[u0, u1, .int .i64 x.now, .int .i64 x.ver, u4, u5], .agg #[t0, t1, .int .i64 x.now, .int .i64 x.ver, t4, t5]] w fun e w' => e = .returned (.bool true) ∧ Below w.heap.size w w' := by
  have K0 := hide (show Below w.heap.size w ((w.alloc (Obj.cells #[u0, u1, .int .i64 x.now, .int .i64 x.ver, u4, u5] 32)).alloc (Obj.cells #[t0, t1, .int .i64 x.now, .int .i64 x.ver, t4, t5] 32)) from ((Below.refl _ _).alloc (Nat.le_refl _) _).alloc (by simp) _)
  have X0 := hide (show BoxV ((w.alloc (Obj.cells #[u0, u1, .int .i64 x.now, .int .i64 x.ver, u4, u5] 32)).alloc (Obj.cells #[t0, t1, .int .i64 x.now, .int .i64 x.ver, t4, t5] 32)) w.heap.size [u0, u1, .int .i64 x.now, .int .i64 x.ver, u4, u5] from (BoxV.made w [u0, u1, .int .i64 x.now, .int .i64 x.ver, u4, u5] 32).alloc _)
  have Y0 := hide (show BoxV ((w.alloc (Obj.cells #[u0, u1, .int .i64 x.now, .int .i64 x.ver, u4, u5] 32)).alloc (Obj.cells #[t0, t1, .int .i64 x.now, .int .i64 x.ver, t4, t5] 32)) (w.heap.size + 1) [t0, t1, .int .i64 x.now, .int .i64 x.ver, t4, t5] by have h := BoxV.made (w.alloc (Obj.cells #[u0, u1, .int .i64 x.now, .int .i64 x.ver, u4, u5] 32)) [t0, t1, .int .i64 x.now, .int .i64 x.ver, t4, t5] 32; simpa using h)
  have e2 : (x.now == x.now) = true := beq_self_eq_true _
  have e3 : (x.ver == x.ver) = true := beq_self_eq_true _
  go_enter Tryz.func10, Tryz.ntmps10
  have HQ := hide (eqResS_gen (x.t) u0 t0 B C _ (h0.stays K0.out hB) (j0.stays K0.out hC) (Nat.le_trans hB K0.out.size) (Nat.le_trans hC K0.out.size))
  go_wp2_with fail
  refine HQ.out.mono ?_
  rintro e w1 ⟨rfl, b1⟩
  have K1 := hide (K0.out.trans (b1.mono K0.out.size))
  have X1 := hide (X0.out.next b1)
  have Y1 := hide (Y0.out.next b1)
  clear HQ b1 K0 X0 Y0
  have c1 := (X1.out.2 1 _ rfl).1
  have d1 := (Y1.out.2 1 _ rfl).1
  have HQ := hide (eqLockS_gen (x.l) u1 t1 B C _ (h1.stays K1.out hB) (j1.stays K1.out hC) (Nat.le_trans hB K1.out.size) (Nat.le_trans hC K1.out.size))
  go_wp2_with fail
  refine HQ.out.mono ?_
  rintro e w2 ⟨rfl, b2⟩
  have K2 := hide (K1.out.trans (b2.mono K1.out.size))
  have X2 := hide (X1.out.next b2)
  have Y2 := hide (Y1.out.next b2)
  clear HQ b2 K1 X1 Y1 c1 d1
  have c2 := (X2.out.2 2 _ rfl).1
  have d2 := (Y2.out.2 2 _ rfl).1
  have c3 := (X2.out.2 3 _ rfl).1
  have d3 := (Y2.out.2 3 _ rfl).1
  have c4 := (X2.out.2 4 _ rfl).1
  have d4 := (Y2.out.2 4 _ rfl).1
  have HQ := hide (eqIntS_gen (x.dr) u4 t4 B C _ (h4.stays K2.out hB) (j4.stays K2.out hC) (Nat.le_trans hB K2.out.size) (Nat.le_trans hC K2.out.size))
  go_wp2_with fail
  refine HQ.out.mono ?_
  rintro e w3 ⟨rfl, b3⟩
  have K3 := hide (K2.out.trans (b3.mono K2.out.size))
  have X3 := hide (X2.out.next b3)
  have Y3 := hide (Y2.out.next b3)
  clear HQ b3 K2 X2 Y2 c2 d2 c3 d3 c4 d4
  have c5 := (X3.out.2 5 _ rfl).1
  have d5 := (Y3.out.2 5 _ rfl).1
  have HQ := hide (eqIntS_gen (x.us) u5 t5 B C _ (h5.stays K3.out hB) (j5.stays K3.out hC) (Nat.le_trans hB K3.out.size) (Nat.le_trans hC K3.out.size))
  go_wp2_with fail
  refine HQ.out.mono ?_
  rintro e w4 ⟨rfl, b4⟩
  have K4 := hide (K3.out.trans (b4.mono K3.out.size))
  have X4 := hide (X3.out.next b4)
  have Y4 := hide (Y3.out.next b4)
  clear HQ b4 K3 X3 Y3 c5 d5
  go_wp2
  go_ret
  exact ⟨rfl, K4.out⟩
end Go.Proofs.YtcgljeagjchobaaGreat
namespace Go.Proofs.YtcgljeagjchobaaGreat
open Go.RowKit M
set_option linter.unusedVariables false

set_option maxRecDepth 100000 in
set_option maxHeartbeats 16000000 in
theorem FnExactSrvOk_walk (x0 : Sv) (v0_0 v0_1 v0_4 v0_5 : Value) (ok0 : okR (dSv x0)) (w : World) (hh0_0 : View w w.heap.size v0_0 (.l (x0.t.map dRs))) (hh0_1 : View w w.heap.size v0_1 (.l (x0.l.map dLk))) (hh0_4 : View w w.heap.size v0_4 (.l (x0.dr.map dI))) (hh0_5 : View w w.heap.size v0_5 (.l (x0.us.map dI))) :
    Calls Tryz.prog 3 #[.agg #[v0_0, v0_1, .int .i64 x0.now, .int .i64 x0.ver, v0_4, v0_5]] w fun e w' => e = .returned (.bool true) ∧ Below w.heap.size w w' := by
  have K0 := hide (show Below w.heap.size w (w.alloc (Obj.cells #[v0_0, v0_1, .int .i64 x0.now, .int .i64 x0.ver, v0_4, v0_5] 26)) from (Below.refl w.heap.size w).alloc (by simp) (Obj.cells #[v0_0, v0_1, .int .i64 x0.now, .int .i64 x0.ver, v0_4, v0_5] 26))
  have A0_0 := hide (show BoxV (w.alloc (Obj.cells #[v0_0, v0_1, .int .i64 x0.now, .int .i64 x0.ver, v0_4, v0_5] 26)) (w.heap.size) [v0_0, v0_1, .int .i64 x0.now, .int .i64 x0.ver, v0_4, v0_5] by have h := BoxV.made w [v0_0, v0_1, .int .i64 x0.now, .int .i64 x0.ver, v0_4, v0_5] 26; simpa using h)
  have y0 : w.heap.size + 1 = (w.alloc (Obj.cells #[v0_0, v0_1, .int .i64 x0.now, .int .i64 x0.ver, v0_4, v0_5] 26)).heap.size := by simp
  go_enter Tryz.func3, Tryz.ntmps3
  have cA0_0 := (A0_0.out.2 0 _ rfl).1
  have cA0_1 := (A0_0.out.2 1 _ rfl).1
  have cA0_2 := (A0_0.out.2 2 _ rfl).1
  have cA0_3 := (A0_0.out.2 3 _ rfl).1
  have cA0_4 := (A0_0.out.2 4 _ rfl).1
  have cA0_5 := (A0_0.out.2 5 _ rfl).1
  have HQ := hide (szSrv_gen x0 v0_0 v0_1 v0_4 v0_5 1048576 w.heap.size _ (hh0_0.stays K0.out (Nat.le_refl _)) (hh0_1.stays K0.out (Nat.le_refl _)) (hh0_4.stays K0.out (Nat.le_refl _)) (hh0_5.stays K0.out (Nat.le_refl _)) K0.out.size ok0 (Nat.le_refl _))
  go_wp2_with fail
  refine HQ.out.mono ?_
  rintro e w1 ⟨⟨z, rfl, hz⟩, b1⟩
  clear cA0_0 cA0_1 cA0_2 cA0_3 cA0_4 cA0_5
  have K1 := hide (K0.out.trans (b1.mono K0.out.size))
  have y1 := b1.size
  clear K0
  have A0_1 := hide (A0_0.out.next b1)
  clear A0_0
  clear HQ b1
  rcases hz with hz | ⟨m0, rfl, hm0⟩
  · go_wp2
    go_ret
    exact ⟨rfl, K1.out⟩
  have hn0 : m0 ≤ 1048576 := by omega
  have Z0 := hide hm0
  clear hm0
  have hs0 : szR (dSv x0) ≤ 1048576 := by have := Z0.out; omega
  have hc0_0 : cntRs (x0.t.map dRs) ≤ 12582912 := by
    have h1 := okR_mem ok0 (.l (x0.t.map dRs)) (by simp [dSv])
    have h2 := cnt_leRs _ h1.1
    have h3 : szR (dSv x0) = szR (dSv x0) := rfl
    simp only [dSv, szR, szF, szV] at hs0
    omega
  have hc0_1 : cntRs (x0.l.map dLk) ≤ 12582912 := by
    have h1 := okR_mem ok0 (.l (x0.l.map dLk)) (by simp [dSv])
    have h2 := cnt_leRs _ h1.1
    have h3 : szR (dSv x0) = szR (dSv x0) := rfl
    simp only [dSv, szR, szF, szV] at hs0
    omega
  have hc0_4 : cntRs (x0.dr.map dI) ≤ 12582912 := by
    have h1 := okR_mem ok0 (.l (x0.dr.map dI)) (by simp [dSv])
    have h2 := cnt_leRs _ h1.1
    have h3 : szR (dSv x0) = szR (dSv x0) := rfl
    simp only [dSv, szR, szF, szV] at hs0
    omega
  have hc0_5 : cntRs (x0.us.map dI) ≤ 12582912 := by
    have h1 := okR_mem ok0 (.l (x0.us.map dI)) (by simp [dSv])
    have h2 := cnt_leRs _ h1.1
    have h3 : szR (dSv x0) = szR (dSv x0) := rfl
    simp only [dSv, szR, szF, szV] at hs0
    omega
  have HSP := hide (fun (u0 u1 u4 u5 : Value) (W : World) (y0 : View W W.heap.size u0 (.l (x0.t.map dRs))) (y1 : View W W.heap.size u1 (.l (x0.l.map dLk))) (y4 : View W W.heap.size u4 (.l (x0.dr.map dI))) (y5 : View W W.heap.size u5 (.l (x0.us.map dI))) => specSrvOk_gen x0 u0 u1 u4 u5 W y0 y1 y4 y5 hs0)
  have HIP := hide (fun (u0 u1 u4 u5 : Value) (W : World) (y0 : View W W.heap.size u0 (.l (x0.t.map dRs))) (y1 : View W W.heap.size u1 (.l (x0.l.map dLk))) (y4 : View W W.heap.size u4 (.l (x0.dr.map dI))) (y5 : View W W.heap.size u5 (.l (x0.us.map dI))) => srvOk_gen x0 u0 u1 u4 u5 W y0 y1 y4 y5 hs0)
  generalize srvB x0 = bb at *
  have hbb : (bb == bb) = true := beq_self_eq_true _
  have hbn : (bb != bb) = false := by cases bb <;> rfl
  have cA0_0 := (A0_1.out.2 0 _ rfl).1
  have cA0_1 := (A0_1.out.2 1 _ rfl).1
  have cA0_2 := (A0_1.out.2 2 _ rfl).1
  have cA0_3 := (A0_1.out.2 3 _ rfl).1
  have cA0_4 := (A0_1.out.2 4 _ rfl).1
  have cA0_5 := (A0_1.out.2 5 _ rfl).1
  have HQ := hide (toSrv_gen x0 v0_0 v0_1 v0_4 v0_5 w.heap.size _ (hh0_0.stays K1.out (Nat.le_refl _)) (hh0_1.stays K1.out (Nat.le_refl _)) (hh0_4.stays K1.out (Nat.le_refl _)) (hh0_5.stays K1.out (Nat.le_refl _)) K1.out.size hs0)
  go_wp2_with fail
  refine HQ.out.mono ?_
  rintro e w2 ⟨⟨p1_0, p1_1, p1_4, p1_5, n1_0, n1_1, n1_4, n1_5, rfl, X0, s1_0, X1, s1_1, X4, s1_4, X5, s1_5, hlast⟩, b2⟩
  clear cA0_0 cA0_1 cA0_2 cA0_3 cA0_4 cA0_5
  have K2 := hide (K1.out.trans (b2.mono K1.out.size))
  have y2 := b2.size
  clear K1
  have A0_2 := hide (A0_1.out.next b2)
  clear A0_1
  have C1_0_2 := hide (X0.up (l' := w1.heap.size) (u' := n1_0) (by first | (simp; done) | (simp; omega) | omega) (Nat.le_refl _))
  clear X0
  have C1_1_2 := hide (X1.up (l' := n1_0) (u' := n1_1) (by first | (simp; done) | (simp; omega) | omega) (Nat.le_refl _))
  clear X1
  have C1_4_2 := hide (X4.up (l' := n1_1) (u' := n1_4) (by first | (simp; done) | (simp; omega) | omega) (Nat.le_refl _))
  clear X4
  have C1_5_2 := hide (X5.up (l' := n1_4) (u' := n1_5) (by first | (simp; done) | (simp; omega) | omega) (Nat.le_refl _))
  clear X5
  clear HQ b2
  have HQ := hide (HSP.out (.slice (some ⟨p1_0, 0, none⟩) (x0.t).length (x0.t).length) (.slice (some ⟨p1_1, 0, none⟩) (x0.l).length (x0.l).length) (.slice (some ⟨p1_4, 0, none⟩) (x0.dr).length (x0.dr).length) (.slice (some ⟨p1_5, 0, none⟩) (x0.us).length (x0.us).length) w2 (C1_0_2.out.vw (by omega)) (C1_1_2.out.vw (by omega)) (C1_4_2.out.vw (by omega)) (C1_5_2.out.vw (by omega)))
  clear C1_0_2
  clear C1_1_2
  clear C1_4_2
  clear C1_5_2
  go_wp2_with fail
  refine HQ.out.mono ?_
  rintro e w3 ⟨rfl, b3⟩
  have K3 := hide (K2.out.trans (b3.mono K2.out.size))
  have y3 := b3.size
  clear K2
  have A0_3 := hide (A0_2.out.next b3)
  clear A0_2
  clear HQ b3
  have cA0_0 := (A0_3.out.2 0 _ rfl).1
  have cA0_1 := (A0_3.out.2 1 _ rfl).1
  have cA0_2 := (A0_3.out.2 2 _ rfl).1
  have cA0_3 := (A0_3.out.2 3 _ rfl).1
  have cA0_4 := (A0_3.out.2 4 _ rfl).1
  have cA0_5 := (A0_3.out.2 5 _ rfl).1
  have HQ := hide (toSrv_gen x0 v0_0 v0_1 v0_4 v0_5 w.heap.size _ (hh0_0.stays K3.out (Nat.le_refl _)) (hh0_1.stays K3.out (Nat.le_refl _)) (hh0_4.stays K3.out (Nat.le_refl _)) (hh0_5.stays K3.out (Nat.le_refl _)) K3.out.size hs0)
  go_wp2_with fail
  refine HQ.out.mono ?_
  rintro e w4 ⟨⟨p3_0, p3_1, p3_4, p3_5, n3_0, n3_1, n3_4, n3_5, rfl, X0, s3_0, X1, s3_1, X4, s3_4, X5, s3_5, hlast⟩, b4⟩
  clear cA0_0 cA0_1 cA0_2 cA0_3 cA0_4 cA0_5
  have K4 := hide (K3.out.trans (b4.mono K3.out.size))
  have y4 := b4.size
  clear K3
  have A0_4 := hide (A0_3.out.next b4)
  clear A0_3
  have C3_0_4 := hide (X0.up (l' := w3.heap.size) (u' := n3_0) (by first | (simp; done) | (simp; omega) | omega) (Nat.le_refl _))
  clear X0
  have C3_1_4 := hide (X1.up (l' := n3_0) (u' := n3_1) (by first | (simp; done) | (simp; omega) | omega) (Nat.le_refl _))
  clear X1
  have C3_4_4 := hide (X4.up (l' := n3_1) (u' := n3_4) (by first | (simp; done) | (simp; omega) | omega) (Nat.le_refl _))
  clear X4
  have C3_5_4 := hide (X5.up (l' := n3_4) (u' := n3_5) (by first | (simp; done) | (simp; omega) | omega) (Nat.le_refl _))
  clear X5
  clear HQ b4
  have X := BoxV.made w4 [(.slice (some ⟨p3_0, 0, none⟩) (x0.t).length (x0.t).length), (.slice (some ⟨p3_1, 0, none⟩) (x0.l).length (x0.l).length), .int .i64 x0.now, .int .i64 x0.ver, (.slice (some ⟨p3_4, 0, none⟩) (x0.dr).length (x0.dr).length), (.slice (some ⟨p3_5, 0, none⟩) (x0.us).length (x0.us).length)] 32
  have b5 : Below w4.heap.size w4 (w4.alloc (Obj.cells #[(.slice (some ⟨p3_0, 0, none⟩) (x0.t).length (x0.t).length), (.slice (some ⟨p3_1, 0, none⟩) (x0.l).length (x0.l).length), .int .i64 x0.now, .int .i64 x0.ver, (.slice (some ⟨p3_4, 0, none⟩) (x0.dr).length (x0.dr).length), (.slice (some ⟨p3_5, 0, none⟩) (x0.us).length (x0.us).length)] 32)) := (Below.refl _ _).alloc (Nat.le_refl _) _
  have K5 := hide (K4.out.trans (b5.mono K4.out.size))
  obtain ⟨N5, hN5⟩ : ∃ N, (w4.alloc (Obj.cells #[(.slice (some ⟨p3_0, 0, none⟩) (x0.t).length (x0.t).length), (.slice (some ⟨p3_1, 0, none⟩) (x0.l).length (x0.l).length), .int .i64 x0.now, .int .i64 x0.ver, (.slice (some ⟨p3_4, 0, none⟩) (x0.dr).length (x0.dr).length), (.slice (some ⟨p3_5, 0, none⟩) (x0.us).length (x0.us).length)] 32)).heap.size = N := ⟨_, rfl⟩
  have y5 : w4.heap.size + 1 = N5 := by rw [← hN5]; simp
  clear K4
  have A0_5 := hide (A0_4.out.next b5)
  clear A0_4
  have C3_0_5 := hide (C3_0_4.out.next b5)
  clear C3_0_4
  have C3_1_5 := hide (C3_1_4.out.next b5)
  clear C3_1_4
  have C3_4_5 := hide (C3_4_4.out.next b5)
  clear C3_4_4
  have C3_5_5 := hide (C3_5_4.out.next b5)
  clear C3_5_4
  have B4_5 := hide X
  clear X b5
  have cB4_0 := (B4_5.out.2 0 _ rfl).1
  have cB4_1 := (B4_5.out.2 1 _ rfl).1
  have cB4_2 := (B4_5.out.2 2 _ rfl).1
  have cB4_3 := (B4_5.out.2 3 _ rfl).1
  have cB4_4 := (B4_5.out.2 4 _ rfl).1
  have cB4_5 := (B4_5.out.2 5 _ rfl).1
  have HQ := hide (HIP.out (.slice (some ⟨p3_0, 0, none⟩) (x0.t).length (x0.t).length) (.slice (some ⟨p3_1, 0, none⟩) (x0.l).length (x0.l).length) (.slice (some ⟨p3_4, 0, none⟩) (x0.dr).length (x0.dr).length) (.slice (some ⟨p3_5, 0, none⟩) (x0.us).length (x0.us).length) (w4.alloc (Obj.cells #[(.slice (some ⟨p3_0, 0, none⟩) (x0.t).length (x0.t).length), (.slice (some ⟨p3_1, 0, none⟩) (x0.l).length (x0.l).length), .int .i64 x0.now, .int .i64 x0.ver, (.slice (some ⟨p3_4, 0, none⟩) (x0.dr).length (x0.dr).length), (.slice (some ⟨p3_5, 0, none⟩) (x0.us).length (x0.us).length)] 32)) (C3_0_5.out.vw (by omega)) (C3_1_5.out.vw (by omega)) (C3_4_5.out.vw (by omega)) (C3_5_5.out.vw (by omega)))
  go_wp2_with fail
  refine HQ.out.mono ?_
  rintro e w6 ⟨rfl, b6⟩
  clear cB4_0 cB4_1 cB4_2 cB4_3 cB4_4 cB4_5
  have K6 := hide (K5.out.trans (b6.mono K5.out.size))
  have y6 := b6.size
  clear K5
  have A0_6 := hide (A0_5.out.next b6)
  clear A0_5
  have C3_0_6 := hide (C3_0_5.out.next b6)
  clear C3_0_5
  have C3_1_6 := hide (C3_1_5.out.next b6)
  clear C3_1_5
  have C3_4_6 := hide (C3_4_5.out.next b6)
  clear C3_4_5
  have C3_5_6 := hide (C3_5_5.out.next b6)
  clear C3_5_5
  have B4_6 := hide (B4_5.out.next b6)
  clear B4_5
  clear HQ b6
  go_wp2
  have b7 : Below w6.heap.size w6 w6.drew := below_drewG (Below.refl _ _)
  have K7 := hide (K6.out.trans (b7.mono K6.out.size))
  obtain ⟨N7, hN7⟩ : ∃ N, w6.drew.heap.size = N := ⟨_, rfl⟩
  have y7 : w6.heap.size = N7 := by rw [← hN7]; rfl
  clear K6
  have A0_7 := hide (A0_6.out.next b7)
  clear A0_6
  have C3_0_7 := hide (C3_0_6.out.next b7)
  clear C3_0_6
  have C3_1_7 := hide (C3_1_6.out.next b7)
  clear C3_1_6
  have C3_4_7 := hide (C3_4_6.out.next b7)
  clear C3_4_6
  have C3_5_7 := hide (C3_5_6.out.next b7)
  clear C3_5_6
  have B4_7 := hide (B4_6.out.next b7)
  clear B4_6
  clear b7
  refine wp_region_held_drew (S := (fun W => BoxV W (w4.heap.size) [(.slice (some ⟨p3_0, 0, none⟩) (x0.t).length (x0.t).length), (.slice (some ⟨p3_1, 0, none⟩) (x0.l).length (x0.l).length), .int .i64 x0.now, .int .i64 x0.ver, (.slice (some ⟨p3_4, 0, none⟩) (x0.dr).length (x0.dr).length), (.slice (some ⟨p3_5, 0, none⟩) (x0.us).length (x0.us).length)] ∧ BoxV W (w.heap.size) [v0_0, v0_1, .int .i64 x0.now, .int .i64 x0.ver, v0_4, v0_5])) (by kernel_rfl) ⟨B4_7.out, A0_7.out⟩ (fun hHeld => ?_)
  simp only [List.size_toArray, List.length_cons, List.length_nil, Nat.reduceAdd, Array.replicate_succ, Array.replicate_zero, List.push_toArray, List.nil_append, List.cons_append]
  refine wpAnyH_take (i := 0) (v := ?_) rfl (by kernel_rfl) (by kernel_rfl) (by kernel_rfl) (fun _ _ _ h => h) (Or.inl ⟨by rfl, ?_⟩) (by assumption) ?_
  rotate_left
  · intro w hSw; (try dsimp only at hSw); obtain ⟨⟨_, q0⟩, ⟨_, q1⟩⟩ := hSw; have c0_0 := (q0 0 _ rfl).1; have c0_1 := (q0 1 _ rfl).1; have c0_2 := (q0 2 _ rfl).1; have c0_3 := (q0 3 _ rfl).1; have c0_4 := (q0 4 _ rfl).1; have c0_5 := (q0 5 _ rfl).1; have c1_0 := (q1 0 _ rfl).1; have c1_1 := (q1 1 _ rfl).1; have c1_2 := (q1 2 _ rfl).1; have c1_3 := (q1 3 _ rfl).1; have c1_4 := (q1 4 _ rfl).1; have c1_5 := (q1 5 _ rfl).1; go_simp; try with_reducible rfl
  simp only [Act.put, List.getElem_toArray, List.getElem_cons_zero, List.setIfInBounds_toArray, List.set_cons_zero]
  refine wpAnyH_take (i := 1) (v := ?_) rfl (by kernel_rfl) (by kernel_rfl) (by kernel_rfl) (fun _ _ _ h => h) (Or.inl ⟨by rfl, ?_⟩) (by assumption) ?_
  rotate_left
  · intro w hSw; (try dsimp only at hSw); obtain ⟨⟨_, q0⟩, ⟨_, q1⟩⟩ := hSw; have c0_0 := (q0 0 _ rfl).1; have c0_1 := (q0 1 _ rfl).1; have c0_2 := (q0 2 _ rfl).1; have c0_3 := (q0 3 _ rfl).1; have c0_4 := (q0 4 _ rfl).1; have c0_5 := (q0 5 _ rfl).1; have c1_0 := (q1 0 _ rfl).1; have c1_1 := (q1 1 _ rfl).1; have c1_2 := (q1 2 _ rfl).1; have c1_3 := (q1 3 _ rfl).1; have c1_4 := (q1 4 _ rfl).1; have c1_5 := (q1 5 _ rfl).1; go_simp; try with_reducible rfl
  simp only [Act.put, List.getElem_toArray, List.getElem_cons_succ, List.getElem_cons_zero, List.setIfInBounds_toArray, List.set_cons_succ, List.set_cons_zero]
  refine wpAnyH_ready (rs := [2]) (by kernel_rfl) (by simp) ?_
  refine AllReadyH.cons rfl (fun K hK => ?_) AllReadyH.nil
  go_simp
  have HQ := hide (toSrv_gen x0 v0_0 v0_1 v0_4 v0_5 w.heap.size _ (hh0_0.stays K7.out (Nat.le_refl _)) (hh0_1.stays K7.out (Nat.le_refl _)) (hh0_4.stays K7.out (Nat.le_refl _)) (hh0_5.stays K7.out (Nat.le_refl _)) K7.out.size hs0)
  refine HQ.out.mono ?_
  rintro e w8 ⟨⟨p6_0, p6_1, p6_4, p6_5, n6_0, n6_1, n6_4, n6_5, rfl, X0, s6_0, X1, s6_1, X4, s6_4, X5, s6_5, hlast⟩, b8⟩
  have K8 := hide (K7.out.trans (b8.mono K7.out.size))
  have y8 := b8.size
  clear K7
  have A0_8 := hide (A0_7.out.next b8)
  clear A0_7
  have C3_0_8 := hide (C3_0_7.out.next b8)
  clear C3_0_7
  have C3_1_8 := hide (C3_1_7.out.next b8)
  clear C3_1_7
  have C3_4_8 := hide (C3_4_7.out.next b8)
  clear C3_4_7
  have C3_5_8 := hide (C3_5_7.out.next b8)
  clear C3_5_7
  have B4_8 := hide (B4_7.out.next b8)
  clear B4_7
  have yy8 : w6.drew.heap.size = N7 := by first | (simp; done) | (simp; omega)
  have C6_0_8 := hide (X0.up (l' := N7) (u' := n6_0) (by first | (simp; done) | (simp; omega) | omega) (Nat.le_refl _))
  clear X0
  have C6_1_8 := hide (X1.up (l' := n6_0) (u' := n6_1) (by first | (simp; done) | (simp; omega) | omega) (Nat.le_refl _))
  clear X1
  have C6_4_8 := hide (X4.up (l' := n6_1) (u' := n6_4) (by first | (simp; done) | (simp; omega) | omega) (Nat.le_refl _))
  clear X4
  have C6_5_8 := hide (X5.up (l' := n6_4) (u' := n6_5) (by first | (simp; done) | (simp; omega) | omega) (Nat.le_refl _))
  clear X5
  clear HQ b8
  refine hK.out _ _ ⟨B4_8.out, A0_8.out⟩ (fun hHeld2 => ?_)
  clear hK K hHeld
  have hHeld := hHeld2
  clear hHeld2
  simp only [List.setIfInBounds_toArray, List.set_cons_succ, List.set_cons_zero]
  refine wpAnyH_ready (rs := [3]) (by kernel_rfl) (by simp) ?_
  refine AllReadyH.cons rfl (fun K hK => ?_) AllReadyH.nil
  go_simp
  have HQ := hide (eqSrv_gen x0 (.slice (some ⟨p3_0, 0, none⟩) (x0.t).length (x0.t).length) (.slice (some ⟨p6_0, 0, none⟩) (x0.t).length (x0.t).length) (.slice (some ⟨p3_1, 0, none⟩) (x0.l).length (x0.l).length) (.slice (some ⟨p6_1, 0, none⟩) (x0.l).length (x0.l).length) (.slice (some ⟨p3_4, 0, none⟩) (x0.dr).length (x0.dr).length) (.slice (some ⟨p6_4, 0, none⟩) (x0.dr).length (x0.dr).length) (.slice (some ⟨p3_5, 0, none⟩) (x0.us).length (x0.us).length) (.slice (some ⟨p6_5, 0, none⟩) (x0.us).length (x0.us).length) w8.heap.size w8.heap.size _ (C3_0_8.out.vw (by omega)) (C6_0_8.out.vw (by omega)) (C3_1_8.out.vw (by omega)) (C6_1_8.out.vw (by omega)) (C3_4_8.out.vw (by omega)) (C6_4_8.out.vw (by omega)) (C3_5_8.out.vw (by omega)) (C6_5_8.out.vw (by omega)) (Nat.le_refl _) (Nat.le_refl _))
  refine HQ.out.mono ?_
  rintro e w9 ⟨rfl, b9⟩
  have K9 := hide (K8.out.trans (b9.mono K8.out.size))
  have y9 := b9.size
  clear K8
  have A0_9 := hide (A0_8.out.next b9)
  clear A0_8
  have C3_0_9 := hide (C3_0_8.out.next b9)
  clear C3_0_8
  have C3_1_9 := hide (C3_1_8.out.next b9)
  clear C3_1_8
  have C3_4_9 := hide (C3_4_8.out.next b9)
  clear C3_4_8
  have C3_5_9 := hide (C3_5_8.out.next b9)
  clear C3_5_8
  have B4_9 := hide (B4_8.out.next b9)
  clear B4_8
  have C6_0_9 := hide (C6_0_8.out.next b9)
  clear C6_0_8
  have C6_1_9 := hide (C6_1_8.out.next b9)
  clear C6_1_8
  have C6_4_9 := hide (C6_4_8.out.next b9)
  clear C6_4_8
  have C6_5_9 := hide (C6_5_8.out.next b9)
  clear C6_5_8
  clear HQ b9
  clear C6_0_9
  clear C6_1_9
  clear C6_4_9
  clear C6_5_9
  refine hK.out _ _ ⟨B4_9.out, A0_9.out⟩ (fun hHeld2 => ?_)
  clear hK K hHeld
  have hHeld := hHeld2
  clear hHeld2
  simp only [List.setIfInBounds_toArray, List.set_cons_succ, List.set_cons_zero]
  refine wpAnyH_take (i := 4) (v := ?_) rfl (by kernel_rfl) (by kernel_rfl) (by kernel_rfl) (fun _ _ _ h => h) (Or.inl ⟨by rfl, ?_⟩) (by assumption) ?_
  rotate_left
  · intro w hSw; (try dsimp only at hSw); go_simp; try with_reducible rfl
  simp only [Act.put, List.getElem_toArray, List.getElem_cons_succ, List.getElem_cons_zero, List.setIfInBounds_toArray, List.set_cons_succ, List.set_cons_zero]
  refine wpAnyH_done (by kernel_rfl) ?_ _
  clear hHeld
  go_wp2
  go_ret
  exact ⟨rfl, K9.out⟩
end Go.Proofs.YtcgljeagjchobaaGreat
namespace Go.Proofs.YtcgljeagjchobaaGreat
open Go.RowKit Go.ChangeShapes Go.WideShapes Go.Deep M
set_option linter.unusedVariables false

section
variable {H : Type} {enc : TypeId × Value → H} {w : World} {spare : Nat → Bool} {held : Bool}
set_option maxRecDepth 100000 in
theorem openStringS_gen {fuel : Nat} {v : Value} {x : DataW H × List MemPlace} (h : DataW.trod enc Tryz.prog w 0 spare held fuel 42 [v] = some x) :
    ∃ l : List ByteArray, View w w.heap.size v (.l (l.map dS)) ∧ okF (.l (l.map dS)) := by
  rcases DataW.trod_slice Tryz.underlying42 h with ⟨hcs, _⟩ | ⟨x, len, cap, elems, rest, n, hfuel, hcs, _, _, hl, hm, hlen, hel, _, _⟩
  · simp at hcs
    subst hcs
    exact ⟨[], .nil _ _ (fun _ => rfl) (Nat.zero_le _), by simp [okF, okRs]⟩
  · simp at hcs
    subst hcs
    have ce : (Tryz.prog.cellsOf 9) = 1 := by kernel_rfl
    rw [ce] at hel
    have each : ∀ i, i < len → ∃ q : ByteArray × (Nat → Value), (∀ i' y, (dS q.1)[i']? = some y → w.cell? (x.add (i * 1 + i')) = some (q.2 i') ∧ View w w.heap.size (q.2 i') y) ∧ okR (dS q.1) := by
      intro i hi
      have h1 := hel i hi
      obtain ⟨y, hy⟩ : ∃ y, elems[i]? = some y := ⟨elems[i]'(by omega), List.getElem?_eq_getElem (by omega)⟩
      rw [hy] at h1
      obtain ⟨cs', h2, h3⟩ := Option.bind_eq_some_iff.1 h1
      obtain ⟨_, hlen4, hcell⟩ := World.cells?_some h2
      match cs', hlen4 with
      | [v0], _ =>
        have g0 := h3
        obtain ⟨z0, e0, _, s0⟩ := DataW.trod_string Tryz.underlying9 g0
        simp only [List.cons.injEq, and_true] at e0
        subst e0
        refine ⟨(z0, fun i => ([.string z0][i]?).getD (.bool false)), fun i' y' hy' => ?_, ?_⟩
        · match i' with
          | 0 =>
            cases hy'
            have c := hcell 0 (by omega)
            rw [Go.Deep.add_add] at c
            exact ⟨by simpa using c, .c _⟩
          | i' + 1 => cases hy'
        · show okR [.c (.string z0)]
          simp only [okR]
          exact ⟨s0, trivial⟩
    obtain ⟨qs, hql, hq⟩ := pick_gen each
    have hmap : ∀ j (hj : j < qs.length), cellAt ((qs.map (·.1)).map dS) j = fun i => (dS qs[j].1)[i]? := fun j hj => by
      funext i
      unfold cellAt
      rw [List.map_map, List.getElem?_map, List.getElem?_eq_getElem hj]
      rfl
    refine ⟨qs.map (·.1), ?_, ?_, ?_⟩
    · by_cases h0 : 0 < qs.length
      · obtain ⟨b, off, spot⟩ := x
        have hw0 : ∃ y0, (dS (qs[0]).1)[0]? = some y0 := ⟨_, rfl⟩
        obtain ⟨y0, hy0⟩ := hw0
        have hc := ((hq 0 h0).1 0 y0 hy0).1
        have hspot : spot = none := by simpa [Addr.add] using World.cell?_spot hc
        subst hspot
        have hb : b < w.heap.size := by
          have := World.block_lt_of_cell? w _ hc
          simpa [Addr.add] using this
        have hlen5 : len = ((qs.map (·.1)).map dS).length := by simp [hql]
        rw [hlen5]
        refine .row b off cap 1 _ (fun j i => match qs[j]? with | some q => q.2 i | none => .bool false) hb (by rw [← hlen5]; exact hl) hm (fun r hr => by obtain ⟨q, _, rfl⟩ := List.mem_map.1 hr; rfl) (fun j i y hy => ?_) (fun j i y hy => ?_)
        · by_cases hj : j < qs.length
          · rw [hmap j hj] at hy
            have h1 := ((hq j hj).1 i y hy).1
            rw [List.getElem?_eq_getElem hj]
            have ea : (⟨b, off, none⟩ : Addr).add (j * 1 + i) = ⟨b, off + j * 1 + i, none⟩ := by rw [add_pick, Nat.add_assoc]
            rw [ea] at h1
            exact h1
          · unfold cellAt at hy
            rw [List.getElem?_eq_none (by simp; omega)] at hy
            cases hy
        · by_cases hj : j < qs.length
          · rw [hmap j hj] at hy
            rw [List.getElem?_eq_getElem hj]
            exact ((hq j hj).1 i y hy).2
          · unfold cellAt at hy
            rw [List.getElem?_eq_none (by simp; omega)] at hy
            cases hy
      · have h00 : qs = [] := List.eq_nil_of_length_eq_zero (by omega)
        subst h00
        simp at hql
        subst hql
        exact .nil _ _ (fun e => by cases e) hm
    · exact okRs_of _ (fun r hr => by
        obtain ⟨q, hq1, rfl⟩ := List.mem_map.1 hr
        obtain ⟨q', hq2, rfl⟩ := List.mem_map.1 hq1
        obtain ⟨j, hj, rfl⟩ := List.mem_iff_getElem.1 hq2
        exact ⟨(hq j hj).2, by show 1 ≤ 12; omega⟩)
    · simp [hql]; omega
end
end Go.Proofs.YtcgljeagjchobaaGreat
namespace Go.Proofs.YtcgljeagjchobaaGreat
open Go.RowKit Go.ChangeShapes Go.WideShapes Go.Deep M
set_option linter.unusedVariables false

section
variable {H : Type} {enc : TypeId × Value → H} {w : World} {spare : Nat → Bool} {held : Bool}
set_option maxRecDepth 100000 in
theorem openPropS_gen {fuel : Nat} {v : Value} {x : DataW H × List MemPlace} (h : DataW.trod enc Tryz.prog w 0 spare held fuel 71 [v] = some x) :
    ∃ l : List Pp, View w w.heap.size v (.l (l.map dPp)) ∧ okF (.l (l.map dPp)) := by
  rcases DataW.trod_slice Tryz.underlying71 h with ⟨hcs, _⟩ | ⟨x, len, cap, elems, rest, n, hfuel, hcs, _, _, hl, hm, hlen, hel, _, _⟩
  · simp at hcs
    subst hcs
    exact ⟨[], .nil _ _ (fun _ => rfl) (Nat.zero_le _), by simp [okF, okRs]⟩
  · simp at hcs
    subst hcs
    have ce : (Tryz.prog.cellsOf 123) = 3 := by kernel_rfl
    rw [ce] at hel
    have each : ∀ i, i < len → ∃ q : Pp × (Nat → Value), (∀ i' y, (dPp q.1)[i']? = some y → w.cell? (x.add (i * 3 + i')) = some (q.2 i') ∧ View w w.heap.size (q.2 i') y) ∧ okR (dPp q.1) := by
      intro i hi
      have h1 := hel i hi
      obtain ⟨y, hy⟩ : ∃ y, elems[i]? = some y := ⟨elems[i]'(by omega), List.getElem?_eq_getElem (by omega)⟩
      rw [hy] at h1
      obtain ⟨cs', h2, h3⟩ := Option.bind_eq_some_iff.1 h1
      obtain ⟨_, hlen4, hcell⟩ := World.cells?_some h2
      obtain ⟨xs, k, hk, hxy, _, hxl, hf⟩ := DataW.trod_struct Tryz.underlying123 h3
      match xs, hxl, cs', hlen4 with
      | [y0, y1, y2], _, [v0, v1, v2], _ =>
        have g0 := hf 0 _ rfl
        have g1 := hf 1 _ rfl
        have g2 := hf 2 _ rfl
        have k0 : Tryz.prog.cellsOf 9 = 1 := by kernel_rfl
        simp [k0] at g0 g1 g2
        obtain ⟨z0, e0, _, s0⟩ := DataW.trod_string Tryz.underlying9 g0
        obtain ⟨z1, e1, _, s1⟩ := DataW.trod_string Tryz.underlying9 g1
        obtain ⟨z2, e2, _, s2⟩ := DataW.trod_string Tryz.underlying9 g2
        simp only [List.cons.injEq, and_true] at e0 e1 e2
        subst e0 e1 e2
        refine ⟨(⟨z0, z1, z2⟩, fun i => ([.string z0, .string z1, .string z2][i]?).getD (.bool false)), fun i' y' hy' => ?_, ?_⟩
        · match i' with
          | 0 =>
            cases hy'
            have c := hcell 0 (by omega)
            rw [Go.Deep.add_add] at c
            exact ⟨by simpa using c, .c _⟩
          | 1 =>
            cases hy'
            have c := hcell 1 (by omega)
            rw [Go.Deep.add_add] at c
            exact ⟨by simpa using c, .c _⟩
          | 2 =>
            cases hy'
            have c := hcell 2 (by omega)
            rw [Go.Deep.add_add] at c
            exact ⟨by simpa using c, .c _⟩
          | i' + 3 => cases hy'
        · show okR [.c (.string z0), .c (.string z1), .c (.string z2)]
          simp only [okR]
          exact ⟨s0, s1, s2, trivial⟩
    obtain ⟨qs, hql, hq⟩ := pick_gen each
    have hmap : ∀ j (hj : j < qs.length), cellAt ((qs.map (·.1)).map dPp) j = fun i => (dPp qs[j].1)[i]? := fun j hj => by
      funext i
      unfold cellAt
      rw [List.map_map, List.getElem?_map, List.getElem?_eq_getElem hj]
      rfl
    refine ⟨qs.map (·.1), ?_, ?_, ?_⟩
    · by_cases h0 : 0 < qs.length
      · obtain ⟨b, off, spot⟩ := x
        have hw0 : ∃ y0, (dPp (qs[0]).1)[0]? = some y0 := ⟨_, rfl⟩
        obtain ⟨y0, hy0⟩ := hw0
        have hc := ((hq 0 h0).1 0 y0 hy0).1
        have hspot : spot = none := by simpa [Addr.add] using World.cell?_spot hc
        subst hspot
        have hb : b < w.heap.size := by
          have := World.block_lt_of_cell? w _ hc
          simpa [Addr.add] using this
        have hlen5 : len = ((qs.map (·.1)).map dPp).length := by simp [hql]
        rw [hlen5]
        refine .row b off cap 3 _ (fun j i => match qs[j]? with | some q => q.2 i | none => .bool false) hb (by rw [← hlen5]; exact hl) hm (fun r hr => by obtain ⟨q, _, rfl⟩ := List.mem_map.1 hr; rfl) (fun j i y hy => ?_) (fun j i y hy => ?_)
        · by_cases hj : j < qs.length
          · rw [hmap j hj] at hy
            have h1 := ((hq j hj).1 i y hy).1
            rw [List.getElem?_eq_getElem hj]
            have ea : (⟨b, off, none⟩ : Addr).add (j * 3 + i) = ⟨b, off + j * 3 + i, none⟩ := by rw [add_pick, Nat.add_assoc]
            rw [ea] at h1
            exact h1
          · unfold cellAt at hy
            rw [List.getElem?_eq_none (by simp; omega)] at hy
            cases hy
        · by_cases hj : j < qs.length
          · rw [hmap j hj] at hy
            rw [List.getElem?_eq_getElem hj]
            exact ((hq j hj).1 i y hy).2
          · unfold cellAt at hy
            rw [List.getElem?_eq_none (by simp; omega)] at hy
            cases hy
      · have h00 : qs = [] := List.eq_nil_of_length_eq_zero (by omega)
        subst h00
        simp at hql
        subst hql
        exact .nil _ _ (fun e => by cases e) hm
    · exact okRs_of _ (fun r hr => by
        obtain ⟨q, hq1, rfl⟩ := List.mem_map.1 hr
        obtain ⟨q', hq2, rfl⟩ := List.mem_map.1 hq1
        obtain ⟨j, hj, rfl⟩ := List.mem_iff_getElem.1 hq2
        exact ⟨(hq j hj).2, by show 3 ≤ 12; omega⟩)
    · simp [hql]; omega
end
end Go.Proofs.YtcgljeagjchobaaGreat
namespace Go.Proofs.YtcgljeagjchobaaGreat
open Go.RowKit Go.ChangeShapes Go.WideShapes Go.Deep M
set_option linter.unusedVariables false

section
variable {H : Type} {enc : TypeId × Value → H} {w : World} {spare : Nat → Bool} {held : Bool}
set_option maxRecDepth 100000 in
theorem openResS_gen {fuel : Nat} {v : Value} {x : DataW H × List MemPlace} (h : DataW.trod enc Tryz.prog w 0 spare held fuel 22 [v] = some x) :
    ∃ l : List Rs, View w w.heap.size v (.l (l.map dRs)) ∧ okF (.l (l.map dRs)) := by
  rcases DataW.trod_slice Tryz.underlying22 h with ⟨hcs, _⟩ | ⟨x, len, cap, elems, rest, n, hfuel, hcs, _, _, hl, hm, hlen, hel, _, _⟩
  · simp at hcs
    subst hcs
    exact ⟨[], .nil _ _ (fun _ => rfl) (Nat.zero_le _), by simp [okF, okRs]⟩
  · simp at hcs
    subst hcs
    have ce : (Tryz.prog.cellsOf 73) = 5 := by kernel_rfl
    rw [ce] at hel
    have each : ∀ i, i < len → ∃ q : Rs × (Nat → Value), (∀ i' y, (dRs q.1)[i']? = some y → w.cell? (x.add (i * 5 + i')) = some (q.2 i') ∧ View w w.heap.size (q.2 i') y) ∧ okR (dRs q.1) := by
      intro i hi
      have h1 := hel i hi
      obtain ⟨y, hy⟩ : ∃ y, elems[i]? = some y := ⟨elems[i]'(by omega), List.getElem?_eq_getElem (by omega)⟩
      rw [hy] at h1
      obtain ⟨cs', h2, h3⟩ := Option.bind_eq_some_iff.1 h1
      obtain ⟨_, hlen4, hcell⟩ := World.cells?_some h2
      obtain ⟨xs, k, hk, hxy, _, hxl, hf⟩ := DataW.trod_struct Tryz.underlying73 h3
      match xs, hxl, cs', hlen4 with
      | [y0, y1, y2, y3, y4], _, [v0, v1, v2, v3, v4], _ =>
        have g0 := hf 0 _ rfl
        have g1 := hf 1 _ rfl
        have g2 := hf 2 _ rfl
        have g3 := hf 3 _ rfl
        have g4 := hf 4 _ rfl
        have k0 : Tryz.prog.cellsOf 42 = 1 := by kernel_rfl
        have k1 : Tryz.prog.cellsOf 4 = 1 := by kernel_rfl
        have k2 : Tryz.prog.cellsOf 9 = 1 := by kernel_rfl
        have k3 : Tryz.prog.cellsOf 3 = 1 := by kernel_rfl
        have k4 : Tryz.prog.cellsOf 71 = 1 := by kernel_rfl
        simp [k0, k1, k2, k3, k4] at g0 g1 g2 g3 g4
        obtain ⟨z0, V0, O0⟩ := openStringS_gen g0
        obtain ⟨z1, e1, _⟩ := DataW.trod_bool Tryz.underlying4 g1
        obtain ⟨z2, e2, _, s2⟩ := DataW.trod_string Tryz.underlying9 g2
        obtain ⟨z3, e3, _, w3⟩ := DataW.trod_int Tryz.underlying3 g3
        obtain ⟨z4, V4, O4⟩ := openPropS_gen g4
        simp only [List.cons.injEq, and_true] at e1 e2 e3
        subst e1 e2 e3
        refine ⟨(⟨z0, z1, z2, z3, z4⟩, fun i => ([v0, .bool z1, .string z2, .int .i64 z3, v4][i]?).getD (.bool false)), fun i' y' hy' => ?_, ?_⟩
        · match i' with
          | 0 =>
            cases hy'
            have c := hcell 0 (by omega)
            rw [Go.Deep.add_add] at c
            exact ⟨by simpa using c, V0⟩
          | 1 =>
            cases hy'
            have c := hcell 1 (by omega)
            rw [Go.Deep.add_add] at c
            exact ⟨by simpa using c, .c _⟩
          | 2 =>
            cases hy'
            have c := hcell 2 (by omega)
            rw [Go.Deep.add_add] at c
            exact ⟨by simpa using c, .c _⟩
          | 3 =>
            cases hy'
            have c := hcell 3 (by omega)
            rw [Go.Deep.add_add] at c
            exact ⟨by simpa using c, .c _⟩
          | 4 =>
            cases hy'
            have c := hcell 4 (by omega)
            rw [Go.Deep.add_add] at c
            exact ⟨by simpa using c, V4⟩
          | i' + 5 => cases hy'
        · show okR [.l (z0.map dS), .c (.bool z1), .c (.string z2), .c (.int .i64 z3), .l (z4.map dPp)]
          simp only [okR]
          exact ⟨O0, trivial, s2, w3, O4, trivial⟩
    obtain ⟨qs, hql, hq⟩ := pick_gen each
    have hmap : ∀ j (hj : j < qs.length), cellAt ((qs.map (·.1)).map dRs) j = fun i => (dRs qs[j].1)[i]? := fun j hj => by
      funext i
      unfold cellAt
      rw [List.map_map, List.getElem?_map, List.getElem?_eq_getElem hj]
      rfl
    refine ⟨qs.map (·.1), ?_, ?_, ?_⟩
    · by_cases h0 : 0 < qs.length
      · obtain ⟨b, off, spot⟩ := x
        have hw0 : ∃ y0, (dRs (qs[0]).1)[0]? = some y0 := ⟨_, rfl⟩
        obtain ⟨y0, hy0⟩ := hw0
        have hc := ((hq 0 h0).1 0 y0 hy0).1
        have hspot : spot = none := by simpa [Addr.add] using World.cell?_spot hc
        subst hspot
        have hb : b < w.heap.size := by
          have := World.block_lt_of_cell? w _ hc
          simpa [Addr.add] using this
        have hlen5 : len = ((qs.map (·.1)).map dRs).length := by simp [hql]
        rw [hlen5]
        refine .row b off cap 5 _ (fun j i => match qs[j]? with | some q => q.2 i | none => .bool false) hb (by rw [← hlen5]; exact hl) hm (fun r hr => by obtain ⟨q, _, rfl⟩ := List.mem_map.1 hr; rfl) (fun j i y hy => ?_) (fun j i y hy => ?_)
        · by_cases hj : j < qs.length
          · rw [hmap j hj] at hy
            have h1 := ((hq j hj).1 i y hy).1
            rw [List.getElem?_eq_getElem hj]
            have ea : (⟨b, off, none⟩ : Addr).add (j * 5 + i) = ⟨b, off + j * 5 + i, none⟩ := by rw [add_pick, Nat.add_assoc]
            rw [ea] at h1
            exact h1
          · unfold cellAt at hy
            rw [List.getElem?_eq_none (by simp; omega)] at hy
            cases hy
        · by_cases hj : j < qs.length
          · rw [hmap j hj] at hy
            rw [List.getElem?_eq_getElem hj]
            exact ((hq j hj).1 i y hy).2
          · unfold cellAt at hy
            rw [List.getElem?_eq_none (by simp; omega)] at hy
            cases hy
      · have h00 : qs = [] := List.eq_nil_of_length_eq_zero (by omega)
        subst h00
        simp at hql
        subst hql
        exact .nil _ _ (fun e => by cases e) hm
    · exact okRs_of _ (fun r hr => by
        obtain ⟨q, hq1, rfl⟩ := List.mem_map.1 hr
        obtain ⟨q', hq2, rfl⟩ := List.mem_map.1 hq1
        obtain ⟨j, hj, rfl⟩ := List.mem_iff_getElem.1 hq2
        exact ⟨(hq j hj).2, by show 5 ≤ 12; omega⟩)
    · simp [hql]; omega
end
end Go.Proofs.YtcgljeagjchobaaGreat
namespace Go.Proofs.YtcgljeagjchobaaGreat
open Go.RowKit Go.ChangeShapes Go.WideShapes Go.Deep M
set_option linter.unusedVariables false

section
variable {H : Type} {enc : TypeId × Value → H} {w : World} {spare : Nat → Bool} {held : Bool}
set_option maxRecDepth 100000 in
theorem openLockS_gen {fuel : Nat} {v : Value} {x : DataW H × List MemPlace} (h : DataW.trod enc Tryz.prog w 0 spare held fuel 23 [v] = some x) :
    ∃ l : List Lk, View w w.heap.size v (.l (l.map dLk)) ∧ okF (.l (l.map dLk)) := by
  rcases DataW.trod_slice Tryz.underlying23 h with ⟨hcs, _⟩ | ⟨x, len, cap, elems, rest, n, hfuel, hcs, _, _, hl, hm, hlen, hel, _, _⟩
  · simp at hcs
    subst hcs
    exact ⟨[], .nil _ _ (fun _ => rfl) (Nat.zero_le _), by simp [okF, okRs]⟩
  · simp at hcs
    subst hcs
    have ce : (Tryz.prog.cellsOf 75) = 5 := by kernel_rfl
    rw [ce] at hel
    have each : ∀ i, i < len → ∃ q : Lk × (Nat → Value), (∀ i' y, (dLk q.1)[i']? = some y → w.cell? (x.add (i * 5 + i')) = some (q.2 i') ∧ View w w.heap.size (q.2 i') y) ∧ okR (dLk q.1) := by
      intro i hi
      have h1 := hel i hi
      obtain ⟨y, hy⟩ : ∃ y, elems[i]? = some y := ⟨elems[i]'(by omega), List.getElem?_eq_getElem (by omega)⟩
      rw [hy] at h1
      obtain ⟨cs', h2, h3⟩ := Option.bind_eq_some_iff.1 h1
      obtain ⟨_, hlen4, hcell⟩ := World.cells?_some h2
      obtain ⟨xs, k, hk, hxy, _, hxl, hf⟩ := DataW.trod_struct Tryz.underlying75 h3
      match xs, hxl, cs', hlen4 with
      | [y0, y1, y2, y3, y4], _, [v0, v1, v2, v3, v4], _ =>
        have g0 := hf 0 _ rfl
        have g1 := hf 1 _ rfl
        have g2 := hf 2 _ rfl
        have g3 := hf 3 _ rfl
        have g4 := hf 4 _ rfl
        have k0 : Tryz.prog.cellsOf 3 = 1 := by kernel_rfl
        have k1 : Tryz.prog.cellsOf 42 = 1 := by kernel_rfl
        have k2 : Tryz.prog.cellsOf 4 = 1 := by kernel_rfl
        simp [k0, k1, k2] at g0 g1 g2 g3 g4
        obtain ⟨z0, e0, _, w0⟩ := DataW.trod_int Tryz.underlying3 g0
        obtain ⟨z1, V1, O1⟩ := openStringS_gen g1
        obtain ⟨z2, e2, _⟩ := DataW.trod_bool Tryz.underlying4 g2
        obtain ⟨z3, e3, _⟩ := DataW.trod_bool Tryz.underlying4 g3
        obtain ⟨z4, e4, _, w4⟩ := DataW.trod_int Tryz.underlying3 g4
        simp only [List.cons.injEq, and_true] at e0 e2 e3 e4
        subst e0 e2 e3 e4
        refine ⟨(⟨z0, z1, z2, z3, z4⟩, fun i => ([.int .i64 z0, v1, .bool z2, .bool z3, .int .i64 z4][i]?).getD (.bool false)), fun i' y' hy' => ?_, ?_⟩
        · match i' with
          | 0 =>
            cases hy'
            have c := hcell 0 (by omega)
            rw [Go.Deep.add_add] at c
            exact ⟨by simpa using c, .c _⟩
          | 1 =>
            cases hy'
            have c := hcell 1 (by omega)
            rw [Go.Deep.add_add] at c
            exact ⟨by simpa using c, V1⟩
          | 2 =>
            cases hy'
            have c := hcell 2 (by omega)
            rw [Go.Deep.add_add] at c
            exact ⟨by simpa using c, .c _⟩
          | 3 =>
            cases hy'
            have c := hcell 3 (by omega)
            rw [Go.Deep.add_add] at c
            exact ⟨by simpa using c, .c _⟩
          | 4 =>
            cases hy'
            have c := hcell 4 (by omega)
            rw [Go.Deep.add_add] at c
            exact ⟨by simpa using c, .c _⟩
          | i' + 5 => cases hy'
        · show okR [.c (.int .i64 z0), .l (z1.map dS), .c (.bool z2), .c (.bool z3), .c (.int .i64 z4)]
          simp only [okR]
          exact ⟨w0, O1, trivial, trivial, w4, trivial⟩
    obtain ⟨qs, hql, hq⟩ := pick_gen each
    have hmap : ∀ j (hj : j < qs.length), cellAt ((qs.map (·.1)).map dLk) j = fun i => (dLk qs[j].1)[i]? := fun j hj => by
      funext i
      unfold cellAt
      rw [List.map_map, List.getElem?_map, List.getElem?_eq_getElem hj]
      rfl
    refine ⟨qs.map (·.1), ?_, ?_, ?_⟩
    · by_cases h0 : 0 < qs.length
      · obtain ⟨b, off, spot⟩ := x
        have hw0 : ∃ y0, (dLk (qs[0]).1)[0]? = some y0 := ⟨_, rfl⟩
        obtain ⟨y0, hy0⟩ := hw0
        have hc := ((hq 0 h0).1 0 y0 hy0).1
        have hspot : spot = none := by simpa [Addr.add] using World.cell?_spot hc
        subst hspot
        have hb : b < w.heap.size := by
          have := World.block_lt_of_cell? w _ hc
          simpa [Addr.add] using this
        have hlen5 : len = ((qs.map (·.1)).map dLk).length := by simp [hql]
        rw [hlen5]
        refine .row b off cap 5 _ (fun j i => match qs[j]? with | some q => q.2 i | none => .bool false) hb (by rw [← hlen5]; exact hl) hm (fun r hr => by obtain ⟨q, _, rfl⟩ := List.mem_map.1 hr; rfl) (fun j i y hy => ?_) (fun j i y hy => ?_)
        · by_cases hj : j < qs.length
          · rw [hmap j hj] at hy
            have h1 := ((hq j hj).1 i y hy).1
            rw [List.getElem?_eq_getElem hj]
            have ea : (⟨b, off, none⟩ : Addr).add (j * 5 + i) = ⟨b, off + j * 5 + i, none⟩ := by rw [add_pick, Nat.add_assoc]
            rw [ea] at h1
            exact h1
          · unfold cellAt at hy
            rw [List.getElem?_eq_none (by simp; omega)] at hy
            cases hy
        · by_cases hj : j < qs.length
          · rw [hmap j hj] at hy
            rw [List.getElem?_eq_getElem hj]
            exact ((hq j hj).1 i y hy).2
          · unfold cellAt at hy
            rw [List.getElem?_eq_none (by simp; omega)] at hy
            cases hy
      · have h00 : qs = [] := List.eq_nil_of_length_eq_zero (by omega)
        subst h00
        simp at hql
        subst hql
        exact .nil _ _ (fun e => by cases e) hm
    · exact okRs_of _ (fun r hr => by
        obtain ⟨q, hq1, rfl⟩ := List.mem_map.1 hr
        obtain ⟨q', hq2, rfl⟩ := List.mem_map.1 hq1
        obtain ⟨j, hj, rfl⟩ := List.mem_iff_getElem.1 hq2
        exact ⟨(hq j hj).2, by show 5 ≤ 12; omega⟩)
    · simp [hql]; omega
end
end Go.Proofs.YtcgljeagjchobaaGreat
namespace Go.Proofs.YtcgljeagjchobaaGreat
open Go.RowKit Go.ChangeShapes Go.WideShapes Go.Deep M
set_option linter.unusedVariables false

section
variable {H : Type} {enc : TypeId × Value → H} {w : World} {spare : Nat → Bool} {held : Bool}
set_option maxRecDepth 100000 in
theorem openIntS_gen {fuel : Nat} {v : Value} {x : DataW H × List MemPlace} (h : DataW.trod enc Tryz.prog w 0 spare held fuel 24 [v] = some x) :
    ∃ l : List Int, View w w.heap.size v (.l (l.map dI)) ∧ okF (.l (l.map dI)) := by
  rcases DataW.trod_slice Tryz.underlying24 h with ⟨hcs, _⟩ | ⟨x, len, cap, elems, rest, n, hfuel, hcs, _, _, hl, hm, hlen, hel, _, _⟩
  · simp at hcs
    subst hcs
    exact ⟨[], .nil _ _ (fun _ => rfl) (Nat.zero_le _), by simp [okF, okRs]⟩
  · simp at hcs
    subst hcs
    have ce : (Tryz.prog.cellsOf 3) = 1 := by kernel_rfl
    rw [ce] at hel
    have each : ∀ i, i < len → ∃ q : Int × (Nat → Value), (∀ i' y, (dI q.1)[i']? = some y → w.cell? (x.add (i * 1 + i')) = some (q.2 i') ∧ View w w.heap.size (q.2 i') y) ∧ okR (dI q.1) := by
      intro i hi
      have h1 := hel i hi
      obtain ⟨y, hy⟩ : ∃ y, elems[i]? = some y := ⟨elems[i]'(by omega), List.getElem?_eq_getElem (by omega)⟩
      rw [hy] at h1
      obtain ⟨cs', h2, h3⟩ := Option.bind_eq_some_iff.1 h1
      obtain ⟨_, hlen4, hcell⟩ := World.cells?_some h2
      match cs', hlen4 with
      | [v0], _ =>
        have g0 := h3
        obtain ⟨z0, e0, _, w0⟩ := DataW.trod_int Tryz.underlying3 g0
        simp only [List.cons.injEq, and_true] at e0
        subst e0
        refine ⟨(z0, fun i => ([.int .i64 z0][i]?).getD (.bool false)), fun i' y' hy' => ?_, ?_⟩
        · match i' with
          | 0 =>
            cases hy'
            have c := hcell 0 (by omega)
            rw [Go.Deep.add_add] at c
            exact ⟨by simpa using c, .c _⟩
          | i' + 1 => cases hy'
        · show okR [.c (.int .i64 z0)]
          simp only [okR]
          exact ⟨w0, trivial⟩
    obtain ⟨qs, hql, hq⟩ := pick_gen each
    have hmap : ∀ j (hj : j < qs.length), cellAt ((qs.map (·.1)).map dI) j = fun i => (dI qs[j].1)[i]? := fun j hj => by
      funext i
      unfold cellAt
      rw [List.map_map, List.getElem?_map, List.getElem?_eq_getElem hj]
      rfl
    refine ⟨qs.map (·.1), ?_, ?_, ?_⟩
    · by_cases h0 : 0 < qs.length
      · obtain ⟨b, off, spot⟩ := x
        have hw0 : ∃ y0, (dI (qs[0]).1)[0]? = some y0 := ⟨_, rfl⟩
        obtain ⟨y0, hy0⟩ := hw0
        have hc := ((hq 0 h0).1 0 y0 hy0).1
        have hspot : spot = none := by simpa [Addr.add] using World.cell?_spot hc
        subst hspot
        have hb : b < w.heap.size := by
          have := World.block_lt_of_cell? w _ hc
          simpa [Addr.add] using this
        have hlen5 : len = ((qs.map (·.1)).map dI).length := by simp [hql]
        rw [hlen5]
        refine .row b off cap 1 _ (fun j i => match qs[j]? with | some q => q.2 i | none => .bool false) hb (by rw [← hlen5]; exact hl) hm (fun r hr => by obtain ⟨q, _, rfl⟩ := List.mem_map.1 hr; rfl) (fun j i y hy => ?_) (fun j i y hy => ?_)
        · by_cases hj : j < qs.length
          · rw [hmap j hj] at hy
            have h1 := ((hq j hj).1 i y hy).1
            rw [List.getElem?_eq_getElem hj]
            have ea : (⟨b, off, none⟩ : Addr).add (j * 1 + i) = ⟨b, off + j * 1 + i, none⟩ := by rw [add_pick, Nat.add_assoc]
            rw [ea] at h1
            exact h1
          · unfold cellAt at hy
            rw [List.getElem?_eq_none (by simp; omega)] at hy
            cases hy
        · by_cases hj : j < qs.length
          · rw [hmap j hj] at hy
            rw [List.getElem?_eq_getElem hj]
            exact ((hq j hj).1 i y hy).2
          · unfold cellAt at hy
            rw [List.getElem?_eq_none (by simp; omega)] at hy
            cases hy
      · have h00 : qs = [] := List.eq_nil_of_length_eq_zero (by omega)
        subst h00
        simp at hql
        subst hql
        exact .nil _ _ (fun e => by cases e) hm
    · exact okRs_of _ (fun r hr => by
        obtain ⟨q, hq1, rfl⟩ := List.mem_map.1 hr
        obtain ⟨q', hq2, rfl⟩ := List.mem_map.1 hq1
        obtain ⟨j, hj, rfl⟩ := List.mem_iff_getElem.1 hq2
        exact ⟨(hq j hj).2, by show 1 ≤ 12; omega⟩)
    · simp [hql]; omega
end
end Go.Proofs.YtcgljeagjchobaaGreat
namespace Go.Proofs.YtcgljeagjchobaaGreat
open Go.RowKit Go.ChangeShapes Go.WideShapes Go.Deep M
set_option linter.unusedVariables false

section
variable {H : Type} {enc : TypeId × Value → H} {w : World} {spare : Nat → Bool} {held : Bool}
set_option maxRecDepth 100000 in
theorem openSrv_gen {r : Reach} {b0 : Nat} {v : Value} {d : DataW H} {p : List MemPlace} (hv : Value.okWide Tryz.prog w r b0 26 v) (h : DataW.Trod enc Tryz.prog w 0 spare held 26 v d p) :
    ∃ (x : Sv) (u0 u1 u4 u5 : Value), v = .agg #[u0, u1, .int .i64 x.now, .int .i64 x.ver, u4, u5] ∧ View w w.heap.size u0 (.l (x.t.map dRs)) ∧ View w w.heap.size u1 (.l (x.l.map dLk)) ∧ View w w.heap.size u4 (.l (x.dr.map dI)) ∧ View w w.heap.size u5 (.l (x.us.map dI)) ∧ okR (dSv x) := by
  obtain ⟨cs, rfl, hsz⟩ := okWide_struct Tryz.underlying26 hv
  have hsz2 : cs.size = 6 := hsz.trans (by kernel_rfl)
  obtain ⟨l⟩ := cs
  match l, hsz2 with
  | [v0, v1, v2, v3, v4, v5], _ =>
    obtain ⟨fuel, hf0⟩ := h
    obtain ⟨xs, n, _, _, hl, hxl, hf⟩ := DataW.trod_struct Tryz.underlying26 hf0
    match xs, hxl with
    | [y0, y1, y2, y3, y4, y5], _ =>

      have g0 := hf 0 _ rfl
      have g1 := hf 1 _ rfl
      have g2 := hf 2 _ rfl
      have g3 := hf 3 _ rfl
      have g4 := hf 4 _ rfl
      have g5 := hf 5 _ rfl
      have k0 : Tryz.prog.cellsOf 22 = 1 := by kernel_rfl
      have k1 : Tryz.prog.cellsOf 23 = 1 := by kernel_rfl
      have k2 : Tryz.prog.cellsOf 3 = 1 := by kernel_rfl
      have k3 : Tryz.prog.cellsOf 24 = 1 := by kernel_rfl
      simp [Value.cells, k0, k1, k2, k3] at g0 g1 g2 g3 g4 g5
      obtain ⟨z0, V0, O0⟩ := openResS_gen g0
      obtain ⟨z1, V1, O1⟩ := openLockS_gen g1
      obtain ⟨z2, e2, _, w2⟩ := DataW.trod_int Tryz.underlying3 g2
      obtain ⟨z3, e3, _, w3⟩ := DataW.trod_int Tryz.underlying3 g3
      obtain ⟨z4, V4, O4⟩ := openIntS_gen g4
      obtain ⟨z5, V5, O5⟩ := openIntS_gen g5
      simp only [List.cons.injEq, and_true] at e2 e3
      subst e2 e3
      refine ⟨⟨z0, z1, z2, z3, z4, z5⟩, v0, v1, v4, v5, rfl, V0, V1, V4, V5, ?_⟩
      show okR [.l (z0.map dRs), .l (z1.map dLk), .c (.int .i64 z2), .c (.int .i64 z3), .l (z4.map dI), .l (z5.map dI)]
      simp only [okR]
      exact ⟨O0, O1, w2, w3, O4, O5, trivial⟩
end
end Go.Proofs.YtcgljeagjchobaaGreat
