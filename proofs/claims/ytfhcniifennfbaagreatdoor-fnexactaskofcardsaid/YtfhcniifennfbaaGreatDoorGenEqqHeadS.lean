/-
  A help of the laws, by program (tools/gen_help.py): Eq1 of Lock.
  A help of the laws, by program (tools/gen_help.py): Eqq of Lock.
  A help of the laws, by program (tools/gen_help.py): Eqq of Int.
  A help of the laws, by program (tools/gen_help.py): Eq1 of Srv.
  A help of the laws, by program (tools/gen_help.py): Sz1 of Head.
  A help of the laws, by program (tools/gen_help.py): Szz of Head.
  A help of the laws, by program (tools/gen_help.py): Sz1 of Req.
  A help of the laws, by program (tools/gen_help.py): To1 of Head.
  A help of the laws, by program (tools/gen_help.py): Too of Head.
  A help of the laws, by program (tools/gen_help.py): To1 of Req.
  A help of the laws, by program (tools/gen_help.py): Eq1 of Head.
  A help of the laws, by program (tools/gen_help.py): Eqq of Head.
-/
import Derived.Test.YtfhcniifennfbaaGreatDoorRows
import Derived.Test.YtfhcniifennfbaaGreatDoorMathMark2
import Derived.Test.YtfhcniifennfbaaGreatDoorGenLock
import Derived.Test.YtfhcniifennfbaaGreatDoorGenEqqResS
import Derived.WalkKit
import Derived.WalkSpells
import Derived.WalkLawsBesides
import Derived.Deep.Light
import Derived.Deep.QuietTactic
import Derived.Deep.RegionHeld3
import Derived.Test.YtfhcniifennfbaaGreatDoorSvIn
import Derived.Test.YtfhcniifennfbaaGreatDoorUnq
namespace Go.Proofs.YtfhcniifennfbaaGreatDoor
open Go.RowKit M
set_option linter.unusedVariables false

set_option maxRecDepth 100000 in
set_option maxHeartbeats 4000000 in
theorem eqLock_gen (x : Lk) (u1 t1 : Value) (B C : Nat) (w : World) (h1 : View w B u1 (.l (x.pa.map dS))) (j1 : View w C t1 (.l (x.pa.map dS))) (hB : B ≤ w.heap.size) (hC : C ≤ w.heap.size) :
    Calls Tryz.prog 73 #[.agg #[.int .i64 x.tk, u1, .bool x.de, .bool x.sh, .int .i64 x.un], .agg #[.int .i64 x.tk, t1, .bool x.de, .bool x.sh, .int .i64 x.un]] w fun e w' => e = .returned (.bool true) ∧ Below w.heap.size w w' := by
  have K0 := hide (show Below w.heap.size w ((w.alloc (Obj.cells #[.int .i64 x.tk, u1, .bool x.de, .bool x.sh, .int .i64 x.un] 110)).alloc (Obj.cells #[.int .i64 x.tk, t1, .bool x.de, .bool x.sh, .int .i64 x.un] 110)) from ((Below.refl _ _).alloc (Nat.le_refl _) _).alloc (by simp) _)
  have X0 := hide (show BoxV ((w.alloc (Obj.cells #[.int .i64 x.tk, u1, .bool x.de, .bool x.sh, .int .i64 x.un] 110)).alloc (Obj.cells #[.int .i64 x.tk, t1, .bool x.de, .bool x.sh, .int .i64 x.un] 110)) w.heap.size [.int .i64 x.tk, u1, .bool x.de, .bool x.sh, .int .i64 x.un] from (BoxV.made w [.int .i64 x.tk, u1, .bool x.de, .bool x.sh, .int .i64 x.un] 110).alloc _)
  have Y0 := hide (show BoxV ((w.alloc (Obj.cells #[.int .i64 x.tk, u1, .bool x.de, .bool x.sh, .int .i64 x.un] 110)).alloc (Obj.cells #[.int .i64 x.tk, t1, .bool x.de, .bool x.sh, .int .i64 x.un] 110)) (w.heap.size + 1) [.int .i64 x.tk, t1, .bool x.de, .bool x.sh, .int .i64 x.un] by have h := BoxV.made (w.alloc (Obj.cells #[.int .i64 x.tk, u1, .bool x.de, .bool x.sh, .int .i64 x.un] 110)) [.int .i64 x.tk, t1, .bool x.de, .bool x.sh, .int .i64 x.un] 110; simpa using h)
  have e0 : (x.tk == x.tk) = true := beq_self_eq_true _
  have e4 : (x.un == x.un) = true := beq_self_eq_true _
  go_enter Tryz.func73, Tryz.ntmps73
  have HQ := hide (eqStringS_gen (x.pa) u1 t1 B C _ (h1.stays K0.out hB) (j1.stays K0.out hC) (Nat.le_trans hB K0.out.size) (Nat.le_trans hC K0.out.size))
  go_wp2_with fail
  refine HQ.out.mono ?_
  rintro e w1 ⟨rfl, b1⟩
  have K1 := hide (K0.out.trans (b1.mono K0.out.size))
  have X1 := hide (X0.out.next b1)
  have Y1 := hide (Y0.out.next b1)
  clear HQ b1 K0 X0 Y0
  have c2 := (X1.out.2 2 _ rfl).1
  have d2 := (Y1.out.2 2 _ rfl).1
  have c3 := (X1.out.2 3 _ rfl).1
  have d3 := (Y1.out.2 3 _ rfl).1
  have c4 := (X1.out.2 4 _ rfl).1
  have d4 := (Y1.out.2 4 _ rfl).1
  go_wp2
  go_ret
  exact ⟨rfl, K1.out⟩
end Go.Proofs.YtfhcniifennfbaaGreatDoor
namespace Go.Proofs.YtfhcniifennfbaaGreatDoor
open Go.RowKit M
set_option linter.unusedVariables false

set_option maxRecDepth 100000 in
set_option maxHeartbeats 4000000 in
theorem eqLockS_gen (l : List Lk) (v v' : Value) (B B' : Nat) (w : World) (h : View w B v (.l (l.map dLk))) (h' : View w B' v' (.l (l.map dLk))) (hB : B ≤ w.heap.size) (hB' : B' ≤ w.heap.size) :
    Calls Tryz.prog 35 #[v, v'] w fun e w' => e = .returned (.bool true) ∧ Below w.heap.size w w' := by
  obtain ⟨a, cap, rfl, hl, hm, _, hat⟩ := h.rows 5 (fun _ => rfl)
  obtain ⟨a', cap', rfl, hl', hm', _, hat'⟩ := h'.rows 5 (fun _ => rfl)
  have hn : l.length ≤ maxLen := Nat.le_trans hl hm
  unfold maxLen at hn
  have HAT := hide hat
  have HAT' := hide hat'
  clear h h' hat hat' hl hl' hm hm'
  go_enter Tryz.func35, Tryz.ntmps35
  go_wp2
  go_loopw [5] (fun i wr => ∃ k : Nat, k ≤ l.length ∧ i = .int .i64 k ∧ Below w.heap.size w wr) (fun i _ => l.length - (intOf i).toNat)
  case atStart => exact ⟨0, Nat.zero_le _, rfl, Below.refl _ _⟩
  case round =>
    obtain ⟨k, hk, rfl, hbe⟩ := hrel
    by_cases hlt : k < l.length
    · obtain ⟨b, o, C, rfl, hb, hc⟩ := HAT.out (by omega)
      obtain ⟨b', o', C', rfl, hb', hc'⟩ := HAT'.out (by omega)
      have hck := hc k hlt
      have hck' := hc' k hlt
      have hbw : b < w.heap.size := Nat.lt_of_lt_of_le hb hB
      have hbw' : b' < w.heap.size := Nat.lt_of_lt_of_le hb' hB'
      have hi0 : (0 : Int) ≤ (k : Int) := by omega
      have hi1 : (k : Int) < (l.length : Int) := by omega
      obtain ⟨x, hx⟩ : ∃ x, l[k] = x := ⟨_, rfl⟩
      rw [hx] at hck hck'
      clear hx hc hc'
      have c0 : wr.cell? ⟨b, o + k * 5, none⟩ = some (.int .i64 x.tk) := by
        obtain ⟨c, v⟩ := hck 0 (.c (.int .i64 x.tk)) rfl
        rw [v.inv] at c
        simp only [Nat.add_zero] at c
        exact (hbe.cell (p := ⟨b, o + k * 5, none⟩) hbw).trans c
      obtain ⟨c1, v1⟩ := hck 1 (.l (x.pa.map dS)) rfl
      have c1 := (hbe.cell (p := ⟨b, o + k * 5 + 1, none⟩) hbw).trans c1
      have c2 : wr.cell? ⟨b, o + k * 5 + 2, none⟩ = some (.bool x.de) := by
        obtain ⟨c, v⟩ := hck 2 (.c (.bool x.de)) rfl
        rw [v.inv] at c
        exact (hbe.cell (p := ⟨b, o + k * 5 + 2, none⟩) hbw).trans c
      have c3 : wr.cell? ⟨b, o + k * 5 + 3, none⟩ = some (.bool x.sh) := by
        obtain ⟨c, v⟩ := hck 3 (.c (.bool x.sh)) rfl
        rw [v.inv] at c
        exact (hbe.cell (p := ⟨b, o + k * 5 + 3, none⟩) hbw).trans c
      have c4 : wr.cell? ⟨b, o + k * 5 + 4, none⟩ = some (.int .i64 x.un) := by
        obtain ⟨c, v⟩ := hck 4 (.c (.int .i64 x.un)) rfl
        rw [v.inv] at c
        exact (hbe.cell (p := ⟨b, o + k * 5 + 4, none⟩) hbw).trans c
      have c0' : wr.cell? ⟨b', o' + k * 5, none⟩ = some (.int .i64 x.tk) := by
        obtain ⟨c, v⟩ := hck' 0 (.c (.int .i64 x.tk)) rfl
        rw [v.inv] at c
        simp only [Nat.add_zero] at c
        exact (hbe.cell (p := ⟨b', o' + k * 5, none⟩) hbw').trans c
      obtain ⟨c1', v1'⟩ := hck' 1 (.l (x.pa.map dS)) rfl
      have c1' := (hbe.cell (p := ⟨b', o' + k * 5 + 1, none⟩) hbw').trans c1'
      have c2' : wr.cell? ⟨b', o' + k * 5 + 2, none⟩ = some (.bool x.de) := by
        obtain ⟨c, v⟩ := hck' 2 (.c (.bool x.de)) rfl
        rw [v.inv] at c
        exact (hbe.cell (p := ⟨b', o' + k * 5 + 2, none⟩) hbw').trans c
      have c3' : wr.cell? ⟨b', o' + k * 5 + 3, none⟩ = some (.bool x.sh) := by
        obtain ⟨c, v⟩ := hck' 3 (.c (.bool x.sh)) rfl
        rw [v.inv] at c
        exact (hbe.cell (p := ⟨b', o' + k * 5 + 3, none⟩) hbw').trans c
      have c4' : wr.cell? ⟨b', o' + k * 5 + 4, none⟩ = some (.int .i64 x.un) := by
        obtain ⟨c, v⟩ := hck' 4 (.c (.int .i64 x.un)) rfl
        rw [v.inv] at c
        exact (hbe.cell (p := ⟨b', o' + k * 5 + 4, none⟩) hbw').trans c
      clear hck hck'
      have hbd : Below w.heap.size w wr.drew := below_drewG hbe
      have hq := hide (eqLock_gen x (C k 1) (C' k 1) B B' wr.drew (v1.stays hbd hB) (v1'.stays hbd hB') (Nat.le_trans hB hbd.size) (Nat.le_trans hB' hbd.size))
      clear v1 v1'
      have HX := hide (show wr.drew.cell? ⟨b, o + k * 5, none⟩ = some (.int .i64 x.tk) ∧ wr.drew.cell? ⟨b, o + k * 5 + 1, none⟩ = some (C k 1) ∧ wr.drew.cell? ⟨b, o + k * 5 + 2, none⟩ = some (.bool x.de) ∧ wr.drew.cell? ⟨b, o + k * 5 + 3, none⟩ = some (.bool x.sh) ∧ wr.drew.cell? ⟨b, o + k * 5 + 4, none⟩ = some (.int .i64 x.un) ∧ wr.drew.cell? ⟨b', o' + k * 5, none⟩ = some (.int .i64 x.tk) ∧ wr.drew.cell? ⟨b', o' + k * 5 + 1, none⟩ = some (C' k 1) ∧ wr.drew.cell? ⟨b', o' + k * 5 + 2, none⟩ = some (.bool x.de) ∧ wr.drew.cell? ⟨b', o' + k * 5 + 3, none⟩ = some (.bool x.sh) ∧ wr.drew.cell? ⟨b', o' + k * 5 + 4, none⟩ = some (.int .i64 x.un) from ⟨c0, c1, c2, c3, c4, c0', c1', c2', c3', c4'⟩)
      have hz1 : b < wr.heap.size := Nat.lt_of_lt_of_le hbw hbe.size
      have hz2 : b' < wr.heap.size := Nat.lt_of_lt_of_le hbw' hbe.size
      go_wp2
      go_region_held3 (fun W => W.cell? ⟨b, o + k * 5, none⟩ = some (.int .i64 x.tk) ∧ W.cell? ⟨b, o + k * 5 + 1, none⟩ = some (C k 1) ∧ W.cell? ⟨b, o + k * 5 + 2, none⟩ = some (.bool x.de) ∧ W.cell? ⟨b, o + k * 5 + 3, none⟩ = some (.bool x.sh) ∧ W.cell? ⟨b, o + k * 5 + 4, none⟩ = some (.int .i64 x.un) ∧ W.cell? ⟨b', o' + k * 5, none⟩ = some (.int .i64 x.tk) ∧ W.cell? ⟨b', o' + k * 5 + 1, none⟩ = some (C' k 1) ∧ W.cell? ⟨b', o' + k * 5 + 2, none⟩ = some (.bool x.de) ∧ W.cell? ⟨b', o' + k * 5 + 3, none⟩ = some (.bool x.sh) ∧ W.cell? ⟨b', o' + k * 5 + 4, none⟩ = some (.int .i64 x.un)) (first | exact HX.out | exact HX2.out) ((go_at_call 73; refine hq.out.mono ?_; rintro e w1 ⟨rfl, hb3⟩; have HX2 := hide (show w1.cell? ⟨b, o + k * 5, none⟩ = some (.int .i64 x.tk) ∧ w1.cell? ⟨b, o + k * 5 + 1, none⟩ = some (C k 1) ∧ w1.cell? ⟨b, o + k * 5 + 2, none⟩ = some (.bool x.de) ∧ w1.cell? ⟨b, o + k * 5 + 3, none⟩ = some (.bool x.sh) ∧ w1.cell? ⟨b, o + k * 5 + 4, none⟩ = some (.int .i64 x.un) ∧ w1.cell? ⟨b', o' + k * 5, none⟩ = some (.int .i64 x.tk) ∧ w1.cell? ⟨b', o' + k * 5 + 1, none⟩ = some (C' k 1) ∧ w1.cell? ⟨b', o' + k * 5 + 2, none⟩ = some (.bool x.de) ∧ w1.cell? ⟨b', o' + k * 5 + 3, none⟩ = some (.bool x.sh) ∧ w1.cell? ⟨b', o' + k * 5 + 4, none⟩ = some (.int .i64 x.un) from ⟨(hb3.cell (p := ⟨b, o + k * 5, none⟩) hz1).trans c0, (hb3.cell (p := ⟨b, o + k * 5 + 1, none⟩) hz1).trans c1, (hb3.cell (p := ⟨b, o + k * 5 + 2, none⟩) hz1).trans c2, (hb3.cell (p := ⟨b, o + k * 5 + 3, none⟩) hz1).trans c3, (hb3.cell (p := ⟨b, o + k * 5 + 4, none⟩) hz1).trans c4, (hb3.cell (p := ⟨b', o' + k * 5, none⟩) hz2).trans c0', (hb3.cell (p := ⟨b', o' + k * 5 + 1, none⟩) hz2).trans c1', (hb3.cell (p := ⟨b', o' + k * 5 + 2, none⟩) hz2).trans c2', (hb3.cell (p := ⟨b', o' + k * 5 + 3, none⟩) hz2).trans c3', (hb3.cell (p := ⟨b', o' + k * 5 + 4, none⟩) hz2).trans c4'⟩)))
      all_goals
        have c9 := hbd.trans (hb3.mono hbd.size)
        clear hq hb3 HX HX2
        go_wp2
        go_roundw
        case rel => exact ⟨k + 1, by omega, by go_num, c9⟩
        case measure => simp [intOf]; omega
    · go_wp2
      go_ret
      exact ⟨rfl, hbe⟩
end Go.Proofs.YtfhcniifennfbaaGreatDoor
namespace Go.Proofs.YtfhcniifennfbaaGreatDoor
open Go.RowKit M
set_option linter.unusedVariables false

set_option maxRecDepth 100000 in
set_option maxHeartbeats 4000000 in
theorem eqIntS_gen (l : List Int) (v v' : Value) (B B' : Nat) (w : World) (h : View w B v (.l (l.map dI))) (h' : View w B' v' (.l (l.map dI))) (hB : B ≤ w.heap.size) (hB' : B' ≤ w.heap.size) :
    Calls Tryz.prog 33 #[v, v'] w fun e w' => e = .returned (.bool true) ∧ Below w.heap.size w w' := by
  obtain ⟨a, cap, rfl, hl, hm, _, hat⟩ := h.rows 1 (fun _ => rfl)
  obtain ⟨a', cap', rfl, hl', hm', _, hat'⟩ := h'.rows 1 (fun _ => rfl)
  have hn : l.length ≤ maxLen := Nat.le_trans hl hm
  unfold maxLen at hn
  have HAT := hide hat
  have HAT' := hide hat'
  clear h h' hat hat' hl hl' hm hm'
  go_enter Tryz.func33, Tryz.ntmps33
  go_wp2
  go_loopw [5] (fun i wr => ∃ k : Nat, k ≤ l.length ∧ i = .int .i64 k ∧ Below w.heap.size w wr) (fun i _ => l.length - (intOf i).toNat)
  case atStart => exact ⟨0, Nat.zero_le _, rfl, Below.refl _ _⟩
  case round =>
    obtain ⟨k, hk, rfl, hbe⟩ := hrel
    by_cases hlt : k < l.length
    · obtain ⟨b, o, C, rfl, hb, hc⟩ := HAT.out (by omega)
      obtain ⟨b', o', C', rfl, hb', hc'⟩ := HAT'.out (by omega)
      have hck := hc k hlt
      have hck' := hc' k hlt
      have hbw : b < w.heap.size := Nat.lt_of_lt_of_le hb hB
      have hbw' : b' < w.heap.size := Nat.lt_of_lt_of_le hb' hB'
      have hi0 : (0 : Int) ≤ (k : Int) := by omega
      have hi1 : (k : Int) < (l.length : Int) := by omega
      obtain ⟨x, hx⟩ : ∃ x, l[k] = x := ⟨_, rfl⟩
      rw [hx] at hck hck'
      clear hx hc hc'
      have c0 : wr.cell? ⟨b, o + k, none⟩ = some (.int .i64 x) := by
        obtain ⟨c, v⟩ := hck 0 (.c (.int .i64 x)) rfl
        rw [v.inv] at c
        simp only [Nat.mul_one, Nat.add_zero] at c
        exact (hbe.cell (p := ⟨b, o + k, none⟩) hbw).trans c
      have c0' : wr.cell? ⟨b', o' + k, none⟩ = some (.int .i64 x) := by
        obtain ⟨c, v⟩ := hck' 0 (.c (.int .i64 x)) rfl
        rw [v.inv] at c
        simp only [Nat.mul_one, Nat.add_zero] at c
        exact (hbe.cell (p := ⟨b', o' + k, none⟩) hbw').trans c
      clear hck hck'
      have e0 : (x == x) = true := beq_self_eq_true _
      go_wp2
      go_quiet (fail)
      go_wp2
      go_roundw
      case rel => exact ⟨k + 1, by omega, by go_num, below_drewN hbe _⟩
      case measure => simp [intOf]; omega
    · go_wp2
      go_ret
      exact ⟨rfl, hbe⟩
end Go.Proofs.YtfhcniifennfbaaGreatDoor
namespace Go.Proofs.YtfhcniifennfbaaGreatDoor
open Go.RowKit M
set_option linter.unusedVariables false

set_option maxRecDepth 100000 in
set_option maxHeartbeats 4000000 in
theorem eqSrv_gen (x : Sv) (u0 t0 u1 t1 u4 t4 u5 t5 : Value) (B C : Nat) (w : World) (h0 : View w B u0 (.l (x.t.map dRs))) (j0 : View w C t0 (.l (x.t.map dRs))) (h1 : View w B u1 (.l (x.l.map dLk))) (j1 : View w C t1 (.l (x.l.map dLk))) (h4 : View w B u4 (.l (x.dr.map dI))) (j4 : View w C t4 (.l (x.dr.map dI))) (h5 : View w B u5 (.l (x.us.map dI))) (j5 : View w C t5 (.l (x.us.map dI))) (hB : B ≤ w.heap.size) (hC : C ≤ w.heap.size) :
    Calls Tryz.prog 11 #[.agg #[u0, u1, .int .i64 x.now, .int .i64 x.ver, u4, u5], .agg #[t0, t1, .int .i64 x.now, .int .i64 x.ver, t4, t5]] w fun e w' => e = .returned (.bool true) ∧ Below w.heap.size w w' := by
  have K0 := hide (show Below w.heap.size w ((w.alloc (Obj.cells #[u0, u1, .int .i64 x.now, .int .i64 x.ver, u4, u5] 39)).alloc (Obj.cells #[t0, t1, .int .i64 x.now, .int .i64 x.ver, t4, t5] 39)) from ((Below.refl _ _).alloc (Nat.le_refl _) _).alloc (by simp) _)
  have X0 := hide (show BoxV ((w.alloc (Obj.cells #[u0, u1, .int .i64 x.now, .int .i64 x.ver, u4, u5] 39)).alloc (Obj.cells #[t0, t1, .int .i64 x.now, .int .i64 x.ver, t4, t5] 39)) w.heap.size [u0, u1, .int .i64 x.now, .int .i64 x.ver, u4, u5] from (BoxV.made w [u0, u1, .int .i64 x.now, .int .i64 x.ver, u4, u5] 39).alloc _)
  have Y0 := hide (show BoxV ((w.alloc (Obj.cells #[u0, u1, .int .i64 x.now, .int .i64 x.ver, u4, u5] 39)).alloc (Obj.cells #[t0, t1, .int .i64 x.now, .int .i64 x.ver, t4, t5] 39)) (w.heap.size + 1) [t0, t1, .int .i64 x.now, .int .i64 x.ver, t4, t5] by have h := BoxV.made (w.alloc (Obj.cells #[u0, u1, .int .i64 x.now, .int .i64 x.ver, u4, u5] 39)) [t0, t1, .int .i64 x.now, .int .i64 x.ver, t4, t5] 39; simpa using h)
  have e2 : (x.now == x.now) = true := beq_self_eq_true _
  have e3 : (x.ver == x.ver) = true := beq_self_eq_true _
  go_enter Tryz.func11, Tryz.ntmps11
  have HQ := hide (eqResS_gen (x.t) u0 t0 B C _ (h0.stays K0.out hB) (j0.stays K0.out hC) (Nat.le_trans hB K0.out.size) (Nat.le_trans hC K0.out.size))
  go_wp2_with fail
  refine HQ.out.mono ?_
  rintro e w1 ⟨rfl, b1⟩
  have K1 := hide (K0.out.trans (b1.mono K0.out.size))
  have X1 := hide (X0.out.next b1)
  have Y1 := hide (Y0.out.next b1)
  clear HQ b1 K0 X0 Y0
  have c1 := (X1.out.2 1 _ rfl).1
  have d1 := (Y1.out.2 1 _ rfl).1
  have HQ := hide (eqLockS_gen (x.l) u1 t1 B C _ (h1.stays K1.out hB) (j1.stays K1.out hC) (Nat.le_trans hB K1.out.size) (Nat.le_trans hC K1.out.size))
  go_wp2_with fail
  refine HQ.out.mono ?_
  rintro e w2 ⟨rfl, b2⟩
  have K2 := hide (K1.out.trans (b2.mono K1.out.size))
  have X2 := hide (X1.out.next b2)
  have Y2 := hide (Y1.out.next b2)
  clear HQ b2 K1 X1 Y1 c1 d1
  have c2 := (X2.out.2 2 _ rfl).1
  have d2 := (Y2.out.2 2 _ rfl).1
  have c3 := (X2.out.2 3 _ rfl).1
  have d3 := (Y2.out.2 3 _ rfl).1
  have c4 := (X2.out.2 4 _ rfl).1
  have d4 := (Y2.out.2 4 _ rfl).1
  have HQ := hide (eqIntS_gen (x.dr) u4 t4 B C _ (h4.stays K2.out hB) (j4.stays K2.out hC) (Nat.le_trans hB K2.out.size) (Nat.le_trans hC K2.out.size))
  go_wp2_with fail
  refine HQ.out.mono ?_
  rintro e w3 ⟨rfl, b3⟩
  have K3 := hide (K2.out.trans (b3.mono K2.out.size))
  have X3 := hide (X2.out.next b3)
  have Y3 := hide (Y2.out.next b3)
  clear HQ b3 K2 X2 Y2 c2 d2 c3 d3 c4 d4
  have c5 := (X3.out.2 5 _ rfl).1
  have d5 := (Y3.out.2 5 _ rfl).1
  have HQ := hide (eqIntS_gen (x.us) u5 t5 B C _ (h5.stays K3.out hB) (j5.stays K3.out hC) (Nat.le_trans hB K3.out.size) (Nat.le_trans hC K3.out.size))
  go_wp2_with fail
  refine HQ.out.mono ?_
  rintro e w4 ⟨rfl, b4⟩
  have K4 := hide (K3.out.trans (b4.mono K3.out.size))
  have X4 := hide (X3.out.next b4)
  have Y4 := hide (Y3.out.next b4)
  clear HQ b4 K3 X3 Y3 c5 d5
  go_wp2
  go_ret
  exact ⟨rfl, K4.out⟩
end Go.Proofs.YtfhcniifennfbaaGreatDoor
namespace Go.Proofs.YtfhcniifennfbaaGreatDoor
open Go.RowKit M
set_option linter.unusedVariables false

set_option maxRecDepth 100000 in
set_option maxHeartbeats 4000000 in
theorem szHead_gen (x : Hd) (left B : Nat) (w : World) (hB : B ≤ w.heap.size) (hok : okR (dHd x)) (hleft : left ≤ 1048576) :
    Calls Tryz.prog 46 #[.agg #[.string x.1, .string x.2], .int .i64 left] w fun e w' => (∃ z : Int, e = .returned (.int .i64 z) ∧ (z < 0 ∨ ∃ m : Nat, z = m ∧ szR (dHd x) + m = left)) ∧ Below w.heap.size w w' := by
  have K0 := hide (show Below w.heap.size w (w.alloc (Obj.cells #[.string x.1, .string x.2] 88)) from (Below.refl _ _).alloc (Nat.le_refl _) _)
  have X0 := hide (BoxV.made w [.string x.1, .string x.2] 88)
  have hsum : szR (dHd x) = (x.1).size + (x.2).size := by simp [dHd, szR, szF, szV]
  have HS := hide hsum
  clear hsum
  have s0 : (x.1).size ≤ maxLen := okR_mem hok (.c (.string (x.1))) (by simp [dHd])
  have s1 : (x.2).size ≤ maxLen := okR_mem hok (.c (.string (x.2))) (by simp [dHd])
  unfold maxLen at s0 s1
  clear hok
  go_enter Tryz.func46, Tryz.ntmps46
  by_cases q0 : left < (x.1).size
  · go_wp2
    go_ret
    exact ⟨⟨_, rfl, .inl (by omega)⟩, K0.out⟩
  obtain ⟨m0, hm0⟩ : ∃ m : Nat, (x.1).size + m = left := ⟨left - (x.1).size, by omega⟩
  have e0 : (left : Int) - ((x.1).size : Int) = (m0 : Int) := by omega
  have hn0 : m0 ≤ 1048576 := by omega
  have E0 := hide hm0
  clear hm0 q0
  by_cases q1 : m0 < (x.2).size
  · go_wp2
    go_ret
    exact ⟨⟨_, rfl, .inl (by omega)⟩, K0.out⟩
  obtain ⟨m1, hm1⟩ : ∃ m : Nat, (x.2).size + m = m0 := ⟨m0 - (x.2).size, by omega⟩
  have e1 : (m0 : Int) - ((x.2).size : Int) = (m1 : Int) := by omega
  have hn1 : m1 ≤ 1048576 := by omega
  have E1 := hide hm1
  clear hm1 q1
  go_wp2
  go_ret
  exact ⟨⟨_, rfl, .inr ⟨m1, rfl, by rw [HS.out]; have := E0.out; have := E1.out; omega⟩⟩, K0.out⟩
end Go.Proofs.YtfhcniifennfbaaGreatDoor
namespace Go.Proofs.YtfhcniifennfbaaGreatDoor
open Go.RowKit M
set_option linter.unusedVariables false

set_option maxRecDepth 100000 in
set_option maxHeartbeats 4000000 in
theorem szHeadS_gen (l : List Hd) (v : Value) (left B : Nat) (w : World) (h : View w B v (.l (l.map dHd))) (hB : B ≤ w.heap.size) (hok : okF (.l (l.map dHd))) (hleft : left ≤ 1048576) :
    Calls Tryz.prog 20 #[v, .int .i64 left] w fun e w' => (∃ z : Int, e = .returned (.int .i64 z) ∧ (z < 0 ∨ ∃ m : Nat, z = m ∧ szRs (l.map dHd) + m = left)) ∧ Below w.heap.size w w' := by
  obtain ⟨a, cap, rfl, hl, hm, _, hat⟩ := h.rows 2 (fun _ => rfl)
  have hl2 : l.length ≤ maxLen := Nat.le_trans hl hm
  unfold maxLen at hl2
  by_cases hlt0 : left < l.length
  · go_enter Tryz.func20, Tryz.ntmps20
    go_wp2
    go_ret
    exact ⟨⟨_, rfl, .inl (by omega)⟩, Below.refl _ _⟩
  · have HAT := hide hat
    have HOK := hide hok.1
    clear h hat hok
    go_enter Tryz.func20, Tryz.ntmps20
    go_wp2
    go_loopw [1, 5] (fun lv i wr => ∃ k m : Nat, k ≤ l.length ∧ i = .int .i64 k ∧ lv = .int .i64 m ∧ Hid (szRs ((l.take k).map dHd) + (l.length - k) + m = left) ∧ Below w.heap.size w wr) (fun _ i _ => l.length - (intOf i).toNat)
    case atStart => exact ⟨0, left - l.length, Nat.zero_le _, rfl, by congr 1; omega, (by show _ = _; simp [szRs]; omega), Below.refl _ _⟩
    case round =>
      obtain ⟨k, m, hk, rfl, rfl, HM, hbe⟩ := hrel
      by_cases hlt : k < l.length
      · obtain ⟨b, o, C, rfl, hb, hc⟩ := HAT.out (by omega)
        have hck := hc k hlt
        have HS2 := hide (szAtF_next dHd l k hlt)
        have hbw : b < w.heap.size := Nat.lt_of_lt_of_le hb hB
        have hm1 : m ≤ 1048576 := by have := HM.out; omega
        have hokx := (okRs_mem _ HOK.out _ (List.mem_map_of_mem (f := dHd) (List.getElem_mem hlt))).1
        obtain ⟨x, hx⟩ : ∃ x, l[k] = x := ⟨_, rfl⟩
        rw [hx] at hck HS2 hokx
        clear hx hc
        have c0 : wr.cell? ⟨b, o + k * 2, none⟩ = some (.string x.1) := by
          obtain ⟨c, v⟩ := hck 0 (.c (.string x.1)) rfl
          rw [v.inv] at c
          simp only [Nat.add_zero] at c
          exact (hbe.cell (p := ⟨b, o + k * 2, none⟩) hbw).trans c
        have c1 : wr.cell? ⟨b, o + k * 2 + 1, none⟩ = some (.string x.2) := by
          obtain ⟨c, v⟩ := hck 1 (.c (.string x.2)) rfl
          rw [v.inv] at c
          exact (hbe.cell (p := ⟨b, o + k * 2 + 1, none⟩) hbw).trans c
        clear hck
        have HC := hide (szHead_gen x m B wr (Nat.le_trans hB hbe.size) hokx hm1)
        clear hokx
        go_wp2_with fail
        refine HC.out.mono ?_
        rintro e w1 ⟨⟨z, rfl, hz⟩, hb1⟩
        have c9 := hbe.trans (hb1.mono hbe.size)
        rcases hz with hz | ⟨m', rfl, hm'⟩
        · go_wp2
          go_ret
          exact ⟨⟨_, rfl, .inl (by omega)⟩, c9⟩
        · have HM' := hide hm'
          clear hm'
          go_wp2
          go_roundw
          case rel => exact ⟨k + 1, m', by omega, by go_num, rfl, (by show _ = _; rw [HS2.out]; have := HM.out; have := HM'.out; omega), c9⟩
          case measure => simp [intOf]; omega
      · have HM2 := HM.out
        rw [List.take_of_length_le (by omega)] at HM2
        have HM3 := hide HM2
        clear HM2
        go_wp2
        go_ret
        exact ⟨⟨m, rfl, .inr ⟨m, rfl, by have := HM3.out; omega⟩⟩, hbe⟩
end Go.Proofs.YtfhcniifennfbaaGreatDoor
namespace Go.Proofs.YtfhcniifennfbaaGreatDoor
open Go.RowKit M
set_option linter.unusedVariables false

set_option maxRecDepth 100000 in
set_option maxHeartbeats 4000000 in
theorem szReq_gen (x : Rq) (u2 : Value) (left B : Nat) (w : World) (h2 : View w B u2 (.l (x.hs.map dHd))) (hB : B ≤ w.heap.size) (hok : okR (dRq x)) (hleft : left ≤ 1048576) :
    Calls Tryz.prog 5 #[.agg #[.string x.m, .string x.p, u2, .string x.b], .int .i64 left] w fun e w' => (∃ z : Int, e = .returned (.int .i64 z) ∧ (z < 0 ∨ ∃ m : Nat, z = m ∧ szR (dRq x) + m = left)) ∧ Below w.heap.size w w' := by
  have K0 := hide (show Below w.heap.size w (w.alloc (Obj.cells #[.string x.m, .string x.p, u2, .string x.b] 29)) from (Below.refl _ _).alloc (Nat.le_refl _) _)
  have X0 := hide (BoxV.made w [.string x.m, .string x.p, u2, .string x.b] 29)
  have hsum : szR (dRq x) = (x.m).size + (x.p).size + szRs (x.hs.map dHd) + (x.b).size := by simp [dRq, szR, szF, szV]; try omega
  have HS := hide hsum
  clear hsum
  have s0 : (x.m).size ≤ maxLen := okR_mem hok (.c (.string (x.m))) (by simp [dRq])
  have s1 : (x.p).size ≤ maxLen := okR_mem hok (.c (.string (x.p))) (by simp [dRq])
  have s2 : okF (.l (x.hs.map dHd)) := okR_mem hok _ (by simp [dRq])
  have s3 : (x.b).size ≤ maxLen := okR_mem hok (.c (.string (x.b))) (by simp [dRq])
  unfold maxLen at s0 s1 s3
  have S2 := hide s2
  clear s2
  clear hok
  go_enter Tryz.func5, Tryz.ntmps5
  by_cases q0 : left < (x.m).size
  · go_wp2
    go_ret
    exact ⟨⟨_, rfl, .inl (by omega)⟩, K0.out⟩
  obtain ⟨m0, hm0⟩ : ∃ m : Nat, (x.m).size + m = left := ⟨left - (x.m).size, by omega⟩
  have e0 : (left : Int) - ((x.m).size : Int) = (m0 : Int) := by omega
  have hn0 : m0 ≤ 1048576 := by omega
  have E0 := hide hm0
  clear hm0 q0
  by_cases q1 : m0 < (x.p).size
  · go_wp2
    go_ret
    exact ⟨⟨_, rfl, .inl (by omega)⟩, K0.out⟩
  obtain ⟨m1, hm1⟩ : ∃ m : Nat, (x.p).size + m = m0 := ⟨m0 - (x.p).size, by omega⟩
  have e1 : (m0 : Int) - ((x.p).size : Int) = (m1 : Int) := by omega
  have hn1 : m1 ≤ 1048576 := by omega
  have E1 := hide hm1
  clear hm1 q1
  have HQ := hide (szHeadS_gen (x.hs) u2 m1 B _ (h2.stays K0.out hB) (Nat.le_trans hB K0.out.size) S2.out hn1)
  go_wp2_with fail
  refine HQ.out.mono ?_
  rintro e w1 ⟨⟨z, rfl, hz⟩, b1⟩
  have K1 := hide (K0.out.trans (b1.mono K0.out.size))
  have X1 := hide (X0.out.next b1)
  clear HQ b1 K0 X0
  rcases hz with hz | ⟨m2, rfl, hm2⟩
  · go_wp2
    go_ret
    exact ⟨⟨_, rfl, .inl (by omega)⟩, K1.out⟩
  have hn2 : m2 ≤ 1048576 := by omega
  have E2 := hide hm2
  clear hm2
  have c3 := (X1.out.2 3 _ rfl).1
  by_cases q3 : m2 < (x.b).size
  · go_wp2
    go_ret
    exact ⟨⟨_, rfl, .inl (by omega)⟩, K1.out⟩
  obtain ⟨m3, hm3⟩ : ∃ m : Nat, (x.b).size + m = m2 := ⟨m2 - (x.b).size, by omega⟩
  have e3 : (m2 : Int) - ((x.b).size : Int) = (m3 : Int) := by omega
  have hn3 : m3 ≤ 1048576 := by omega
  have E3 := hide hm3
  clear hm3 q3
  go_wp2
  go_ret
  exact ⟨⟨_, rfl, .inr ⟨m3, rfl, by rw [HS.out]; have := E0.out; have := E1.out; have := E2.out; have := E3.out; omega⟩⟩, K1.out⟩
end Go.Proofs.YtfhcniifennfbaaGreatDoor
namespace Go.Proofs.YtfhcniifennfbaaGreatDoor
open Go.RowKit M
set_option linter.unusedVariables false

set_option maxRecDepth 100000 in
set_option maxHeartbeats 4000000 in
theorem toHead_gen (x : Hd) (B : Nat) (w : World) (hB : B ≤ w.heap.size) (hsz : szR (dHd x) ≤ 1048576) :
    Calls Tryz.prog 63 #[.agg #[.string x.1, .string x.2]] w fun e w' => e = .returned (.agg #[.string x.1, .string x.2]) ∧ Below w.heap.size w w' := by
  go_enter Tryz.func63, Tryz.ntmps63
  go_wp2
  refine bodyPost_ret (v := .agg #[.string x.1, .string x.2]) (by simp [results, Tryz.results63, go_sem]) rfl ⟨rfl, ?_⟩
  repeat' refine Below.setCell ?_ (by simp; try omega) _
  exact (((Below.refl _ _).alloc (Nat.le_refl _) _).alloc (by simp) _).alloc (by simp; omega) _
end Go.Proofs.YtfhcniifennfbaaGreatDoor
namespace Go.Proofs.YtfhcniifennfbaaGreatDoor
open Go.RowKit M
set_option linter.unusedVariables false

theorem infoHead_gen : (Tryz.prog.info? 89).map (fun i => (i.zero, i.size, i.bytes)) = some (some (.agg #[.string ByteArray.empty, .string ByteArray.empty]), 2, 32) := by kernel_rfl
theorem makeHeadS_gen (n : Nat) (hn : n ≤ 1048577) (w : World) :
    (Instr.makeSlice 41 (.int .i64 (n : Int)) (.int .i64 (n : Int))).run Tryz.prog w = .ok (.slice (some ⟨w.heap.size, 0, none⟩) n n) (w.alloc (.cells (madeCells #[.string ByteArray.empty, .string ByteArray.empty] (n * 2)) 89)) := by
  obtain ⟨i, hi, hz, hs, hb⟩ := info_parts infoHead_gen
  have hr := run_make (P := Tryz.prog) w 41 89 i _ Tryz.underlying41 hi hz .i64 .i64 n n (by omega) (Int.le_refl _) (by rw [hb]; omega) (by omega)
  simp only [Int.toNat_natCast, hs] at hr
  exact hr

set_option maxRecDepth 100000 in
set_option maxHeartbeats 4000000 in
theorem toHeadS_gen (l : List Hd) (v : Value) (B : Nat) (w : World) (h : View w B v (.l (l.map dHd))) (hB : B ≤ w.heap.size) (hsz : szRs (l.map dHd) ≤ 1048576) :
    Calls Tryz.prog 29 #[v] w fun e w' => (∃ p : Nat, e = .returned (.slice (some ⟨p, 0, none⟩) l.length l.length) ∧ Own w' (.slice (some ⟨p, 0, none⟩) l.length l.length) (.l (l.map dHd)) (IvG w.heap.size w'.heap.size)) ∧ Below w.heap.size w w' := by
  obtain ⟨a, cap, rfl, hl, hm, _, hat⟩ := h.rows 2 (fun _ => rfl)
  have hn : l.length ≤ 1048576 := by have := szRs_len (l.map dHd); rw [List.length_map] at this; omega
  have HAT := hide hat
  have HSZ := hide hsz
  have hmk := makeHeadS_gen l.length (by omega) w
  have hm0 := MadeG.start w #[.string ByteArray.empty, .string ByteArray.empty] l.length 2 89 (rowsF dHd l)
  have HM0 := hide hm0
  clear hm0
  clear h hat hsz
  go_enter Tryz.func29, Tryz.ntmps29
  go_wp2
  clear hmk
  go_loopw [4] (fun i wr => ∃ k : Nat, k ≤ l.length ∧ i = .int .i64 k ∧ Hid (MadeG wr w.heap.size 2 l.length (rowsF dHd l) k) ∧ Below w.heap.size w wr) (fun i _ => l.length - (intOf i).toNat)
  case atStart => exact ⟨0, Nat.zero_le _, rfl, HM0, (Below.refl _ _).alloc (Nat.le_refl _) _⟩
  case round =>
    obtain ⟨k, hk, rfl, HR, hbe⟩ := hrel
    by_cases hlt : k < l.length
    · obtain ⟨b, o, C, rfl, hb, hc⟩ := HAT.out (by omega)
      have hck := hc k hlt
      have hbw : b < w.heap.size := Nat.lt_of_lt_of_le hb hB
      have hsx := szRs_mem _ _ (List.mem_map_of_mem (f := dHd) (List.getElem_mem hlt))
      have hrk := rowsF_at (f := dHd) l k hlt
      obtain ⟨x, hx⟩ : ∃ x, l[k] = x := ⟨_, rfl⟩
      rw [hx] at hck hsx hrk
      clear hx hc
      have c0 : wr.cell? ⟨b, o + k * 2, none⟩ = some (.string x.1) := by
        obtain ⟨c, v⟩ := hck 0 (.c (.string x.1)) rfl
        rw [v.inv] at c
        simp only [Nat.add_zero] at c
        exact (hbe.cell (p := ⟨b, o + k * 2, none⟩) hbw).trans c
      have c1 : wr.cell? ⟨b, o + k * 2 + 1, none⟩ = some (.string x.2) := by
        obtain ⟨c, v⟩ := hck 1 (.c (.string x.2)) rfl
        rw [v.inv] at c
        exact (hbe.cell (p := ⟨b, o + k * 2 + 1, none⟩) hbw).trans c
      clear hck
      have HC := hide (toHead_gen x B wr (Nat.le_trans hB hbe.size) (by have := HSZ.out; omega))
      go_wp2_with fail
      refine HC.out.mono ?_
      rintro e w1 ⟨rfl, b1⟩
      have HR2 := HR.out.next b1 hlt [.string x.1, .string x.2] rfl (fun i y => False) (fun i y hy => by
        rw [hrk] at hy
        match i with
        | 0 => cases hy; exact ⟨_, rfl, .c _ _⟩
        | 1 => cases hy; exact ⟨_, rfl, .c _ _⟩
        | i + 2 => cases hy) (fun i y hy => by exact hy.elim) (fun i i' y hne hy hy' => by exact hy.elim)
      have hm1 := HR.out.next0 b1
      obtain ⟨e0, d0, f0⟩ := hm1.cell hlt 0 (by decide)
      simp only [Nat.add_zero] at d0 f0
      obtain ⟨e1, d1, f1⟩ := hm1.cell hlt 1 (by decide)
      have HR3 := hide HR2
      have c9 := hbe.trans (b1.mono hbe.size)
      clear HR2 HR hm1 HC
      go_wp2
      go_roundw
      case rel => exact ⟨k + 1, by omega, by go_num, HR3, ((c9.setCell (Nat.le_refl _) _).setCell (Nat.le_refl _) _)⟩
      case measure => simp [intOf]; omega
    · have hk2 : k = l.length := by omega
      subst hk2
      have HO := hide (HR.out.done (rows := l.map dHd) (by rw [List.length_map]) (by unfold maxLen; omega) (fun r hr => by obtain ⟨x, _, rfl⟩ := List.mem_map.1 hr; rfl) (fun j hj => by rw [rowsF_at l j (by simpa using hj)]; simp))
      go_wp2
      go_ret
      exact ⟨⟨_, rfl, HO.out⟩, hbe⟩
end Go.Proofs.YtfhcniifennfbaaGreatDoor
namespace Go.Proofs.YtfhcniifennfbaaGreatDoor
open Go.RowKit M
set_option linter.unusedVariables false

set_option maxRecDepth 100000 in
set_option maxHeartbeats 4000000 in
theorem toReq_gen (x : Rq) (u2 : Value) (B : Nat) (w : World) (h2 : View w B u2 (.l (x.hs.map dHd))) (hB : B ≤ w.heap.size) (hsz : szR (dRq x) ≤ 1048576) :
    Calls Tryz.prog 8 #[.agg #[.string x.m, .string x.p, u2, .string x.b]] w fun e w' => (∃ (p2 n2 : Nat), e = .returned (.agg #[.string x.m, .string x.p, .slice (some ⟨p2, 0, none⟩) (x.hs).length (x.hs).length, .string x.b]) ∧ Own w' (.slice (some ⟨p2, 0, none⟩) (x.hs).length (x.hs).length) (.l (x.hs.map dHd)) (IvG w.heap.size n2) ∧ w.heap.size ≤ n2 ∧ n2 ≤ w'.heap.size) ∧ Below w.heap.size w w' := by
  have hsum : szR (dRq x) = (x.m).size + (x.p).size + szRs (x.hs.map dHd) + (x.b).size := by simp [dRq, szR, szF, szV]; try omega
  rw [hsum] at hsz
  clear hsum
  have K0 := hide (show Below w.heap.size w (((w.alloc (Obj.cells #[.string x.m, .string x.p, u2, .string x.b] 29)).alloc (Obj.cells #[.string { data := #[] }, .string { data := #[] }, .slice none 0 0, .string { data := #[] }] 43)).alloc (Obj.cells #[.string x.m, .string x.p, .slice none 0 0, .string { data := #[] }] 43)) from (((Below.refl _ _).alloc (Nat.le_refl _) _).alloc (by simp) _).alloc (by simp; omega) _)
  have X0 := hide (show BoxV (((w.alloc (Obj.cells #[.string x.m, .string x.p, u2, .string x.b] 29)).alloc (Obj.cells #[.string { data := #[] }, .string { data := #[] }, .slice none 0 0, .string { data := #[] }] 43)).alloc (Obj.cells #[.string x.m, .string x.p, .slice none 0 0, .string { data := #[] }] 43)) w.heap.size [.string x.m, .string x.p, u2, .string x.b] from ((BoxV.made w [.string x.m, .string x.p, u2, .string x.b] 29).alloc _).alloc _)
  have Y0 := hide (show BoxV (((w.alloc (Obj.cells #[.string x.m, .string x.p, u2, .string x.b] 29)).alloc (Obj.cells #[.string { data := #[] }, .string { data := #[] }, .slice none 0 0, .string { data := #[] }] 43)).alloc (Obj.cells #[.string x.m, .string x.p, .slice none 0 0, .string { data := #[] }] 43)) (w.heap.size + 1) [.string { data := #[] }, .string { data := #[] }, .slice none 0 0, .string { data := #[] }] by have h := (BoxV.made (w.alloc (Obj.cells #[.string x.m, .string x.p, u2, .string x.b] 29)) [.string { data := #[] }, .string { data := #[] }, .slice none 0 0, .string { data := #[] }] 43).alloc (Obj.cells #[.string x.m, .string x.p, .slice none 0 0, .string { data := #[] }] 43); simpa using h)
  have Z0 := hide (show BoxV (((w.alloc (Obj.cells #[.string x.m, .string x.p, u2, .string x.b] 29)).alloc (Obj.cells #[.string { data := #[] }, .string { data := #[] }, .slice none 0 0, .string { data := #[] }] 43)).alloc (Obj.cells #[.string x.m, .string x.p, .slice none 0 0, .string { data := #[] }] 43)) (w.heap.size + 1 + 1) [.string x.m, .string x.p, .slice none 0 0, .string { data := #[] }] by have h := BoxV.made ((w.alloc (Obj.cells #[.string x.m, .string x.p, u2, .string x.b] 29)).alloc (Obj.cells #[.string { data := #[] }, .string { data := #[] }, .slice none 0 0, .string { data := #[] }] 43)) [.string x.m, .string x.p, .slice none 0 0, .string { data := #[] }] 43; simpa using h)
  go_enter Tryz.func8, Tryz.ntmps8
  have HQ := hide (toHeadS_gen (x.hs) u2 B _ (h2.stays K0.out hB) (Nat.le_trans hB K0.out.size) (by omega))
  go_wp2_with fail
  refine HQ.out.mono ?_
  rintro e w1 ⟨⟨p2, rfl, o2⟩, b1⟩
  have k1 := K0.out.trans (b1.mono K0.out.size)
  have x1 := X0.out.next b1
  have y1 := Y0.out.next b1
  have z1 := Z0.out.next b1
  have P2 := hide (o2.up (l' := w.heap.size + 1 + 1 + 1) (u' := w1.heap.size) (by simp) (Nat.le_refl _))
  have zs1 : w.heap.size + 1 + 1 < w1.heap.size := z1.1
  have zl1 : w.heap.size + 1 + 1 + 1 ≤ w1.heap.size := by omega
  have n2 := hide (show w.heap.size ≤ w1.heap.size by have := b1.size; simp at this; omega)
  obtain ⟨d2, f2⟩ := z1.2 2 _ rfl
  obtain ⟨d3, f3⟩ := z1.2 3 _ rfl
  have c3 := (x1.2 3 _ rfl).1
  obtain ⟨r0, g0⟩ := y1.2 0 _ rfl
  obtain ⟨r1, g1⟩ := y1.2 1 _ rfl
  obtain ⟨r2, g2⟩ := y1.2 2 _ rfl
  obtain ⟨r3, g3⟩ := y1.2 3 _ rfl
  obtain ⟨d0, f0⟩ := z1.2 0 _ rfl
  obtain ⟨d1, f1⟩ := z1.2 1 _ rfl
  have KE := hide k1
  clear k1 x1 y1 z1 o2 b1 HQ K0 X0 Y0 Z0
  go_wp2
  refine bodyPost_ret (v := .agg #[.string x.m, .string x.p, .slice (some ⟨p2, 0, none⟩) (x.hs).length (x.hs).length, .string x.b]) (by simp [results, Tryz.results8, go_sem, r0, r1, r2, r3]) rfl ⟨⟨p2, w1.heap.size, rfl, ?_, n2.out, ?_⟩, ?_⟩
  · refine Own.up (l := w.heap.size + 1 + 1 + 1) ?_ (by omega) (Nat.le_refl _)
    repeat' refine Own.setCell ?_ _ _ (fun e => by have h1 := e.1; dsimp only at h1; omega)
    exact P2.out
  · simp
  · repeat' refine Below.setCell ?_ (by simp; try omega) _
    exact KE.out
end Go.Proofs.YtfhcniifennfbaaGreatDoor
namespace Go.Proofs.YtfhcniifennfbaaGreatDoor
open Go.RowKit M
set_option linter.unusedVariables false

set_option maxRecDepth 100000 in
set_option maxHeartbeats 4000000 in
theorem eqHead_gen (x : Hd) (B C : Nat) (w : World) (hB : B ≤ w.heap.size) (hC : C ≤ w.heap.size) :
    Calls Tryz.prog 74 #[.agg #[.string x.1, .string x.2], .agg #[.string x.1, .string x.2]] w fun e w' => e = .returned (.bool true) ∧ Below w.heap.size w w' := by
  have K0 := hide (show Below w.heap.size w ((w.alloc (Obj.cells #[.string x.1, .string x.2] 89)).alloc (Obj.cells #[.string x.1, .string x.2] 89)) from ((Below.refl _ _).alloc (Nat.le_refl _) _).alloc (by simp) _)
  have X0 := hide (show BoxV ((w.alloc (Obj.cells #[.string x.1, .string x.2] 89)).alloc (Obj.cells #[.string x.1, .string x.2] 89)) w.heap.size [.string x.1, .string x.2] from (BoxV.made w [.string x.1, .string x.2] 89).alloc _)
  have Y0 := hide (show BoxV ((w.alloc (Obj.cells #[.string x.1, .string x.2] 89)).alloc (Obj.cells #[.string x.1, .string x.2] 89)) (w.heap.size + 1) [.string x.1, .string x.2] by have h := BoxV.made (w.alloc (Obj.cells #[.string x.1, .string x.2] 89)) [.string x.1, .string x.2] 89; simpa using h)
  go_enter Tryz.func74, Tryz.ntmps74
  go_wp2
  go_ret
  exact ⟨rfl, K0.out⟩
end Go.Proofs.YtfhcniifennfbaaGreatDoor
namespace Go.Proofs.YtfhcniifennfbaaGreatDoor
open Go.RowKit M
set_option linter.unusedVariables false

set_option maxRecDepth 100000 in
set_option maxHeartbeats 4000000 in
theorem eqHeadS_gen (l : List Hd) (v v' : Value) (B B' : Nat) (w : World) (h : View w B v (.l (l.map dHd))) (h' : View w B' v' (.l (l.map dHd))) (hB : B ≤ w.heap.size) (hB' : B' ≤ w.heap.size) :
    Calls Tryz.prog 36 #[v, v'] w fun e w' => e = .returned (.bool true) ∧ Below w.heap.size w w' := by
  obtain ⟨a, cap, rfl, hl, hm, _, hat⟩ := h.rows 2 (fun _ => rfl)
  obtain ⟨a', cap', rfl, hl', hm', _, hat'⟩ := h'.rows 2 (fun _ => rfl)
  have hn : l.length ≤ maxLen := Nat.le_trans hl hm
  unfold maxLen at hn
  have HAT := hide hat
  have HAT' := hide hat'
  clear h h' hat hat' hl hl' hm hm'
  go_enter Tryz.func36, Tryz.ntmps36
  go_wp2
  go_loopw [5] (fun i wr => ∃ k : Nat, k ≤ l.length ∧ i = .int .i64 k ∧ Below w.heap.size w wr) (fun i _ => l.length - (intOf i).toNat)
  case atStart => exact ⟨0, Nat.zero_le _, rfl, Below.refl _ _⟩
  case round =>
    obtain ⟨k, hk, rfl, hbe⟩ := hrel
    by_cases hlt : k < l.length
    · obtain ⟨b, o, C, rfl, hb, hc⟩ := HAT.out (by omega)
      obtain ⟨b', o', C', rfl, hb', hc'⟩ := HAT'.out (by omega)
      have hck := hc k hlt
      have hck' := hc' k hlt
      have hbw : b < w.heap.size := Nat.lt_of_lt_of_le hb hB
      have hbw' : b' < w.heap.size := Nat.lt_of_lt_of_le hb' hB'
      have hi0 : (0 : Int) ≤ (k : Int) := by omega
      have hi1 : (k : Int) < (l.length : Int) := by omega
      obtain ⟨x, hx⟩ : ∃ x, l[k] = x := ⟨_, rfl⟩
      rw [hx] at hck hck'
      clear hx hc hc'
      have c0 : wr.cell? ⟨b, o + k * 2, none⟩ = some (.string x.1) := by
        obtain ⟨c, v⟩ := hck 0 (.c (.string x.1)) rfl
        rw [v.inv] at c
        simp only [Nat.add_zero] at c
        exact (hbe.cell (p := ⟨b, o + k * 2, none⟩) hbw).trans c
      have c1 : wr.cell? ⟨b, o + k * 2 + 1, none⟩ = some (.string x.2) := by
        obtain ⟨c, v⟩ := hck 1 (.c (.string x.2)) rfl
        rw [v.inv] at c
        exact (hbe.cell (p := ⟨b, o + k * 2 + 1, none⟩) hbw).trans c
      have c0' : wr.cell? ⟨b', o' + k * 2, none⟩ = some (.string x.1) := by
        obtain ⟨c, v⟩ := hck' 0 (.c (.string x.1)) rfl
        rw [v.inv] at c
        simp only [Nat.add_zero] at c
        exact (hbe.cell (p := ⟨b', o' + k * 2, none⟩) hbw').trans c
      have c1' : wr.cell? ⟨b', o' + k * 2 + 1, none⟩ = some (.string x.2) := by
        obtain ⟨c, v⟩ := hck' 1 (.c (.string x.2)) rfl
        rw [v.inv] at c
        exact (hbe.cell (p := ⟨b', o' + k * 2 + 1, none⟩) hbw').trans c
      clear hck hck'
      have hbd : Below w.heap.size w wr.drew := below_drewG hbe
      have hq := hide (eqHead_gen x B B' wr.drew (Nat.le_trans hB hbd.size) (Nat.le_trans hB' hbd.size))
      have HX := hide (show wr.drew.cell? ⟨b, o + k * 2, none⟩ = some (.string x.1) ∧ wr.drew.cell? ⟨b, o + k * 2 + 1, none⟩ = some (.string x.2) ∧ wr.drew.cell? ⟨b', o' + k * 2, none⟩ = some (.string x.1) ∧ wr.drew.cell? ⟨b', o' + k * 2 + 1, none⟩ = some (.string x.2) from ⟨c0, c1, c0', c1'⟩)
      have hz1 : b < wr.heap.size := Nat.lt_of_lt_of_le hbw hbe.size
      have hz2 : b' < wr.heap.size := Nat.lt_of_lt_of_le hbw' hbe.size
      go_wp2
      go_region_held3 (fun W => W.cell? ⟨b, o + k * 2, none⟩ = some (.string x.1) ∧ W.cell? ⟨b, o + k * 2 + 1, none⟩ = some (.string x.2) ∧ W.cell? ⟨b', o' + k * 2, none⟩ = some (.string x.1) ∧ W.cell? ⟨b', o' + k * 2 + 1, none⟩ = some (.string x.2)) (first | exact HX.out | exact HX2.out) ((go_at_call 74; refine hq.out.mono ?_; rintro e w1 ⟨rfl, hb3⟩; have HX2 := hide (show w1.cell? ⟨b, o + k * 2, none⟩ = some (.string x.1) ∧ w1.cell? ⟨b, o + k * 2 + 1, none⟩ = some (.string x.2) ∧ w1.cell? ⟨b', o' + k * 2, none⟩ = some (.string x.1) ∧ w1.cell? ⟨b', o' + k * 2 + 1, none⟩ = some (.string x.2) from ⟨(hb3.cell (p := ⟨b, o + k * 2, none⟩) hz1).trans c0, (hb3.cell (p := ⟨b, o + k * 2 + 1, none⟩) hz1).trans c1, (hb3.cell (p := ⟨b', o' + k * 2, none⟩) hz2).trans c0', (hb3.cell (p := ⟨b', o' + k * 2 + 1, none⟩) hz2).trans c1'⟩)))
      all_goals
        have c9 := hbd.trans (hb3.mono hbd.size)
        clear hq hb3 HX HX2
        go_wp2
        go_roundw
        case rel => exact ⟨k + 1, by omega, by go_num, c9⟩
        case measure => simp [intOf]; omega
    · go_wp2
      go_ret
      exact ⟨rfl, hbe⟩
end Go.Proofs.YtfhcniifennfbaaGreatDoor
