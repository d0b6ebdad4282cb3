/-
  A help of the laws, by program (tools/gen_help.py): Eq1 of Lock.
  A help of the laws, by program (tools/gen_help.py): Eqq of Lock.
  A help of the laws, by program (tools/gen_help.py): Eqq of Int.
  A help of the laws, by program (tools/gen_help.py): Eq1 of Srv.
  A help of the laws, by program (tools/gen_help.py): Sz1 of Ask.
  A help of the laws, by program (tools/gen_help.py): To1 of Ask.
  A help of the laws, by program (tools/gen_help.py): Eq1 of Ask.
-/
import Derived.Test.YtckhjemojopekaaRows
import Derived.Test.YtckhjemojopekaaMathSmall
import Derived.Test.YtckhjemojopekaaGenEqqStringS
import Derived.WalkKit
import Derived.WalkSpells
import Derived.WalkLawsBesides
import Derived.Deep.Light
import Derived.Deep.QuietTactic
import Derived.Deep.RegionHeld3
import Derived.Test.YtckhjemojopekaaGenAsk
import Derived.Test.YtckhjemojopekaaGenEqqResS
import Derived.Test.YtckhjemojopekaaGenTo1Prop
import Derived.Test.YtckhjemojopekaaGenTooIntS
namespace Go.Proofs.Ytckhjemojopekaa
open Go.RowKit M
set_option linter.unusedVariables false

set_option maxRecDepth 100000 in
set_option maxHeartbeats 4000000 in
theorem eqLock_gen (x : Lk) (u1 t1 : Value) (B C : Nat) (w : World) (h1 : View w B u1 (.l (x.pa.map dS))) (j1 : View w C t1 (.l (x.pa.map dS))) (hB : B ≤ w.heap.size) (hC : C ≤ w.heap.size) :
    Calls Try.prog 70 #[.agg #[.int .i64 x.tk, u1, .bool x.de, .bool x.sh, .int .i64 x.un], .agg #[.int .i64 x.tk, t1, .bool x.de, .bool x.sh, .int .i64 x.un]] w fun e w' => e = .returned (.bool true) ∧ Below w.heap.size w w' := by
  have K0 := hide (show Below w.heap.size w ((w.alloc (Obj.cells #[.int .i64 x.tk, u1, .bool x.de, .bool x.sh, .int .i64 x.un] 102)).alloc (Obj.cells #[.int .i64 x.tk, t1, .bool x.de, .bool x.sh, .int .i64 x.un] 102)) from ((Below.refl _ _).alloc (Nat.le_refl _) _).alloc (by simp) _)
  have X0 := hide (show BoxV ((w.alloc (Obj.cells #[.int .i64 x.tk, u1, .bool x.de, .bool x.sh, .int .i64 x.un] 102)).alloc (Obj.cells #[.int .i64 x.tk, t1, .bool x.de, .bool x.sh, .int .i64 x.un] 102)) w.heap.size [.int .i64 x.tk, u1, .bool x.de, .bool x.sh, .int .i64 x.un] from (BoxV.made w [.int .i64 x.tk, u1, .bool x.de, .bool x.sh, .int .i64 x.un] 102).alloc _)
  have Y0 := hide (show BoxV ((w.alloc (Obj.cells #[.int .i64 x.tk, u1, .bool x.de, .bool x.sh, .int .i64 x.un] 102)).alloc (Obj.cells #[.int .i64 x.tk, t1, .bool x.de, .bool x.sh, .int .i64 x.un] 102)) (w.heap.size + 1) [.int .i64 x.tk, t1, .bool x.de, .bool x.sh, .int .i64 x.un] by have h := BoxV.made (w.alloc (Obj.cells #[.int .i64 x.tk, u1, .bool x.de, .bool x.sh, .int .i64 x.un] 102)) [.int .i64 x.tk, t1, .bool x.de, .bool x.sh, .int .i64 x.un] 102; simpa using h)
  have e0 : (x.tk == x.tk) = true := beq_self_eq_true _
  have e4 : (x.un == x.un) = true := beq_self_eq_true _
  go_enter Try.func70, Try.ntmps70
  have HQ := hide (eqStringS_gen (x.pa) u1 t1 B C _ (h1.stays K0.out hB) (j1.stays K0.out hC) (Nat.le_trans hB K0.out.size) (Nat.le_trans hC K0.out.size))
  go_wp2_with fail
  refine HQ.out.mono ?_
  rintro e w1 ⟨rfl, b1⟩
  have K1 := hide (K0.out.trans (b1.mono K0.out.size))
  have X1 := hide (X0.out.next b1)
  have Y1 := hide (Y0.out.next b1)
  clear HQ b1 K0 X0 Y0
  have c2 := (X1.out.2 2 _ rfl).1
  have d2 := (Y1.out.2 2 _ rfl).1
  have c3 := (X1.out.2 3 _ rfl).1
  have d3 := (Y1.out.2 3 _ rfl).1
  have c4 := (X1.out.2 4 _ rfl).1
  have d4 := (Y1.out.2 4 _ rfl).1
  go_wp2
  go_ret
  exact ⟨rfl, K1.out⟩
end Go.Proofs.Ytckhjemojopekaa
namespace Go.Proofs.Ytckhjemojopekaa
open Go.RowKit M
set_option linter.unusedVariables false

set_option maxRecDepth 100000 in
set_option maxHeartbeats 4000000 in
theorem eqLockS_gen (l : List Lk) (v v' : Value) (B B' : Nat) (w : World) (h : View w B v (.l (l.map dLk))) (h' : View w B' v' (.l (l.map dLk))) (hB : B ≤ w.heap.size) (hB' : B' ≤ w.heap.size) :
    Calls Try.prog 39 #[v, v'] w fun e w' => e = .returned (.bool true) ∧ Below w.heap.size w w' := by
  obtain ⟨a, cap, rfl, hl, hm, _, hat⟩ := h.rows 5 (fun _ => rfl)
  obtain ⟨a', cap', rfl, hl', hm', _, hat'⟩ := h'.rows 5 (fun _ => rfl)
  have hn : l.length ≤ maxLen := Nat.le_trans hl hm
  unfold maxLen at hn
  have HAT := hide hat
  have HAT' := hide hat'
  clear h h' hat hat' hl hl' hm hm'
  go_enter Try.func39, Try.ntmps39
  go_wp2
  go_loopw [5] (fun i wr => ∃ k : Nat, k ≤ l.length ∧ i = .int .i64 k ∧ Below w.heap.size w wr) (fun i _ => l.length - (intOf i).toNat)
  case atStart => exact ⟨0, Nat.zero_le _, rfl, Below.refl _ _⟩
  case round =>
    obtain ⟨k, hk, rfl, hbe⟩ := hrel
    by_cases hlt : k < l.length
    · obtain ⟨b, o, C, rfl, hb, hc⟩ := HAT.out (by omega)
      obtain ⟨b', o', C', rfl, hb', hc'⟩ := HAT'.out (by omega)
      have hck := hc k hlt
      have hck' := hc' k hlt
      have hbw : b < w.heap.size := Nat.lt_of_lt_of_le hb hB
      have hbw' : b' < w.heap.size := Nat.lt_of_lt_of_le hb' hB'
      have hi0 : (0 : Int) ≤ (k : Int) := by omega
      have hi1 : (k : Int) < (l.length : Int) := by omega
      obtain ⟨x, hx⟩ : ∃ x, l[k] = x := ⟨_, rfl⟩
      rw [hx] at hck hck'
      clear hx hc hc'
      have c0 : wr.cell? ⟨b, o + k * 5, none⟩ = some (.int .i64 x.tk) := by
        obtain ⟨c, v⟩ := hck 0 (.c (.int .i64 x.tk)) rfl
        rw [v.inv] at c
        simp only [Nat.add_zero] at c
        exact (hbe.cell (p := ⟨b, o + k * 5, none⟩) hbw).trans c
      obtain ⟨c1, v1⟩ := hck 1 (.l (x.pa.map dS)) rfl
      have c1 := (hbe.cell (p := ⟨b, o + k * 5 + 1, none⟩) hbw).trans c1
      have c2 : wr.cell? ⟨b, o + k * 5 + 2, none⟩ = some (.bool x.de) := by
        obtain ⟨c, v⟩ := hck 2 (.c (.bool x.de)) rfl
        rw [v.inv] at c
        exact (hbe.cell (p := ⟨b, o + k * 5 + 2, none⟩) hbw).trans c
      have c3 : wr.cell? ⟨b, o + k * 5 + 3, none⟩ = some (.bool x.sh) := by
        obtain ⟨c, v⟩ := hck 3 (.c (.bool x.sh)) rfl
        rw [v.inv] at c
        exact (hbe.cell (p := ⟨b, o + k * 5 + 3, none⟩) hbw).trans c
      have c4 : wr.cell? ⟨b, o + k * 5 + 4, none⟩ = some (.int .i64 x.un) := by
        obtain ⟨c, v⟩ := hck 4 (.c (.int .i64 x.un)) rfl
        rw [v.inv] at c
        exact (hbe.cell (p := ⟨b, o + k * 5 + 4, none⟩) hbw).trans c
      have c0' : wr.cell? ⟨b', o' + k * 5, none⟩ = some (.int .i64 x.tk) := by
        obtain ⟨c, v⟩ := hck' 0 (.c (.int .i64 x.tk)) rfl
        rw [v.inv] at c
        simp only [Nat.add_zero] at c
        exact (hbe.cell (p := ⟨b', o' + k * 5, none⟩) hbw').trans c
      obtain ⟨c1', v1'⟩ := hck' 1 (.l (x.pa.map dS)) rfl
      have c1' := (hbe.cell (p := ⟨b', o' + k * 5 + 1, none⟩) hbw').trans c1'
      have c2' : wr.cell? ⟨b', o' + k * 5 + 2, none⟩ = some (.bool x.de) := by
        obtain ⟨c, v⟩ := hck' 2 (.c (.bool x.de)) rfl
        rw [v.inv] at c
        exact (hbe.cell (p := ⟨b', o' + k * 5 + 2, none⟩) hbw').trans c
      have c3' : wr.cell? ⟨b', o' + k * 5 + 3, none⟩ = some (.bool x.sh) := by
        obtain ⟨c, v⟩ := hck' 3 (.c (.bool x.sh)) rfl
        rw [v.inv] at c
        exact (hbe.cell (p := ⟨b', o' + k * 5 + 3, none⟩) hbw').trans c
      have c4' : wr.cell? ⟨b', o' + k * 5 + 4, none⟩ = some (.int .i64 x.un) := by
        obtain ⟨c, v⟩ := hck' 4 (.c (.int .i64 x.un)) rfl
        rw [v.inv] at c
        exact (hbe.cell (p := ⟨b', o' + k * 5 + 4, none⟩) hbw').trans c
      clear hck hck'
      have hbd : Below w.heap.size w wr.drew := below_drewG hbe
      have hq := hide (eqLock_gen x (C k 1) (C' k 1) B B' wr.drew (v1.stays hbd hB) (v1'.stays hbd hB') (Nat.le_trans hB hbd.size) (Nat.le_trans hB' hbd.size))
      clear v1 v1'
      have HX := hide (show wr.drew.cell? ⟨b, o + k * 5, none⟩ = some (.int .i64 x.tk) ∧ wr.drew.cell? ⟨b, o + k * 5 + 1, none⟩ = some (C k 1) ∧ wr.drew.cell? ⟨b, o + k * 5 + 2, none⟩ = some (.bool x.de) ∧ wr.drew.cell? ⟨b, o + k * 5 + 3, none⟩ = some (.bool x.sh) ∧ wr.drew.cell? ⟨b, o + k * 5 + 4, none⟩ = some (.int .i64 x.un) ∧ wr.drew.cell? ⟨b', o' + k * 5, none⟩ = some (.int .i64 x.tk) ∧ wr.drew.cell? ⟨b', o' + k * 5 + 1, none⟩ = some (C' k 1) ∧ wr.drew.cell? ⟨b', o' + k * 5 + 2, none⟩ = some (.bool x.de) ∧ wr.drew.cell? ⟨b', o' + k * 5 + 3, none⟩ = some (.bool x.sh) ∧ wr.drew.cell? ⟨b', o' + k * 5 + 4, none⟩ = some (.int .i64 x.un) from ⟨c0, c1, c2, c3, c4, c0', c1', c2', c3', c4'⟩)
      have hz1 : b < wr.heap.size := Nat.lt_of_lt_of_le hbw hbe.size
      have hz2 : b' < wr.heap.size := Nat.lt_of_lt_of_le hbw' hbe.size
      go_wp2
      go_region_held3 (fun W => W.cell? ⟨b, o + k * 5, none⟩ = some (.int .i64 x.tk) ∧ W.cell? ⟨b, o + k * 5 + 1, none⟩ = some (C k 1) ∧ W.cell? ⟨b, o + k * 5 + 2, none⟩ = some (.bool x.de) ∧ W.cell? ⟨b, o + k * 5 + 3, none⟩ = some (.bool x.sh) ∧ W.cell? ⟨b, o + k * 5 + 4, none⟩ = some (.int .i64 x.un) ∧ W.cell? ⟨b', o' + k * 5, none⟩ = some (.int .i64 x.tk) ∧ W.cell? ⟨b', o' + k * 5 + 1, none⟩ = some (C' k 1) ∧ W.cell? ⟨b', o' + k * 5 + 2, none⟩ = some (.bool x.de) ∧ W.cell? ⟨b', o' + k * 5 + 3, none⟩ = some (.bool x.sh) ∧ W.cell? ⟨b', o' + k * 5 + 4, none⟩ = some (.int .i64 x.un)) (first | exact HX.out | exact HX2.out) ((go_at_call 70; refine hq.out.mono ?_; rintro e w1 ⟨rfl, hb3⟩; have HX2 := hide (show w1.cell? ⟨b, o + k * 5, none⟩ = some (.int .i64 x.tk) ∧ w1.cell? ⟨b, o + k * 5 + 1, none⟩ = some (C k 1) ∧ w1.cell? ⟨b, o + k * 5 + 2, none⟩ = some (.bool x.de) ∧ w1.cell? ⟨b, o + k * 5 + 3, none⟩ = some (.bool x.sh) ∧ w1.cell? ⟨b, o + k * 5 + 4, none⟩ = some (.int .i64 x.un) ∧ w1.cell? ⟨b', o' + k * 5, none⟩ = some (.int .i64 x.tk) ∧ w1.cell? ⟨b', o' + k * 5 + 1, none⟩ = some (C' k 1) ∧ w1.cell? ⟨b', o' + k * 5 + 2, none⟩ = some (.bool x.de) ∧ w1.cell? ⟨b', o' + k * 5 + 3, none⟩ = some (.bool x.sh) ∧ w1.cell? ⟨b', o' + k * 5 + 4, none⟩ = some (.int .i64 x.un) from ⟨(hb3.cell (p := ⟨b, o + k * 5, none⟩) hz1).trans c0, (hb3.cell (p := ⟨b, o + k * 5 + 1, none⟩) hz1).trans c1, (hb3.cell (p := ⟨b, o + k * 5 + 2, none⟩) hz1).trans c2, (hb3.cell (p := ⟨b, o + k * 5 + 3, none⟩) hz1).trans c3, (hb3.cell (p := ⟨b, o + k * 5 + 4, none⟩) hz1).trans c4, (hb3.cell (p := ⟨b', o' + k * 5, none⟩) hz2).trans c0', (hb3.cell (p := ⟨b', o' + k * 5 + 1, none⟩) hz2).trans c1', (hb3.cell (p := ⟨b', o' + k * 5 + 2, none⟩) hz2).trans c2', (hb3.cell (p := ⟨b', o' + k * 5 + 3, none⟩) hz2).trans c3', (hb3.cell (p := ⟨b', o' + k * 5 + 4, none⟩) hz2).trans c4'⟩)))
      all_goals
        have c9 := hbd.trans (hb3.mono hbd.size)
        clear hq hb3 HX HX2
        go_wp2
        go_roundw
        case rel => exact ⟨k + 1, by omega, by go_num, c9⟩
        case measure => simp [intOf]; omega
    · go_wp2
      go_ret
      exact ⟨rfl, hbe⟩
end Go.Proofs.Ytckhjemojopekaa
namespace Go.Proofs.Ytckhjemojopekaa
open Go.RowKit M
set_option linter.unusedVariables false

set_option maxRecDepth 100000 in
set_option maxHeartbeats 4000000 in
theorem eqIntS_gen (l : List Int) (v v' : Value) (B B' : Nat) (w : World) (h : View w B v (.l (l.map dI))) (h' : View w B' v' (.l (l.map dI))) (hB : B ≤ w.heap.size) (hB' : B' ≤ w.heap.size) :
    Calls Try.prog 40 #[v, v'] w fun e w' => e = .returned (.bool true) ∧ Below w.heap.size w w' := by
  obtain ⟨a, cap, rfl, hl, hm, _, hat⟩ := h.rows 1 (fun _ => rfl)
  obtain ⟨a', cap', rfl, hl', hm', _, hat'⟩ := h'.rows 1 (fun _ => rfl)
  have hn : l.length ≤ maxLen := Nat.le_trans hl hm
  unfold maxLen at hn
  have HAT := hide hat
  have HAT' := hide hat'
  clear h h' hat hat' hl hl' hm hm'
  go_enter Try.func40, Try.ntmps40
  go_wp2
  go_loopw [5] (fun i wr => ∃ k : Nat, k ≤ l.length ∧ i = .int .i64 k ∧ Below w.heap.size w wr) (fun i _ => l.length - (intOf i).toNat)
  case atStart => exact ⟨0, Nat.zero_le _, rfl, Below.refl _ _⟩
  case round =>
    obtain ⟨k, hk, rfl, hbe⟩ := hrel
    by_cases hlt : k < l.length
    · obtain ⟨b, o, C, rfl, hb, hc⟩ := HAT.out (by omega)
      obtain ⟨b', o', C', rfl, hb', hc'⟩ := HAT'.out (by omega)
      have hck := hc k hlt
      have hck' := hc' k hlt
      have hbw : b < w.heap.size := Nat.lt_of_lt_of_le hb hB
      have hbw' : b' < w.heap.size := Nat.lt_of_lt_of_le hb' hB'
      have hi0 : (0 : Int) ≤ (k : Int) := by omega
      have hi1 : (k : Int) < (l.length : Int) := by omega
      obtain ⟨x, hx⟩ : ∃ x, l[k] = x := ⟨_, rfl⟩
      rw [hx] at hck hck'
      clear hx hc hc'
      have c0 : wr.cell? ⟨b, o + k, none⟩ = some (.int .i64 x) := by
        obtain ⟨c, v⟩ := hck 0 (.c (.int .i64 x)) rfl
        rw [v.inv] at c
        simp only [Nat.mul_one, Nat.add_zero] at c
        exact (hbe.cell (p := ⟨b, o + k, none⟩) hbw).trans c
      have c0' : wr.cell? ⟨b', o' + k, none⟩ = some (.int .i64 x) := by
        obtain ⟨c, v⟩ := hck' 0 (.c (.int .i64 x)) rfl
        rw [v.inv] at c
        simp only [Nat.mul_one, Nat.add_zero] at c
        exact (hbe.cell (p := ⟨b', o' + k, none⟩) hbw').trans c
      clear hck hck'
      have e0 : (x == x) = true := beq_self_eq_true _
      go_wp2
      go_quiet (fail)
      go_wp2
      go_roundw
      case rel => exact ⟨k + 1, by omega, by go_num, below_drewN hbe _⟩
      case measure => simp [intOf]; omega
    · go_wp2
      go_ret
      exact ⟨rfl, hbe⟩
end Go.Proofs.Ytckhjemojopekaa
namespace Go.Proofs.Ytckhjemojopekaa
open Go.RowKit M
set_option linter.unusedVariables false

set_option maxRecDepth 100000 in
set_option maxHeartbeats 4000000 in
theorem eqSrv_gen (x : Sv) (u0 t0 u1 t1 u4 t4 u5 t5 : Value) (B C : Nat) (w : World) (h0 : View w B u0 (.l (x.t.map dRs))) (j0 : View w C t0 (.l (x.t.map dRs))) (h1 : View w B u1 (.l (x.l.map dLk))) (j1 : View w C t1 (.l (x.l.map dLk))) (h4 : View w B u4 (.l (x.dr.map dI))) (j4 : View w C t4 (.l (x.dr.map dI))) (h5 : View w B u5 (.l (x.us.map dI))) (j5 : View w C t5 (.l (x.us.map dI))) (hB : B ≤ w.heap.size) (hC : C ≤ w.heap.size) :
    Calls Try.prog 16 #[.agg #[u0, u1, .int .i64 x.now, .int .i64 x.ver, u4, u5], .agg #[t0, t1, .int .i64 x.now, .int .i64 x.ver, t4, t5]] w fun e w' => e = .returned (.bool true) ∧ Below w.heap.size w w' := by
  have K0 := hide (show Below w.heap.size w ((w.alloc (Obj.cells #[u0, u1, .int .i64 x.now, .int .i64 x.ver, u4, u5] 47)).alloc (Obj.cells #[t0, t1, .int .i64 x.now, .int .i64 x.ver, t4, t5] 47)) from ((Below.refl _ _).alloc (Nat.le_refl _) _).alloc (by simp) _)
  have X0 := hide (show BoxV ((w.alloc (Obj.cells #[u0, u1, .int .i64 x.now, .int .i64 x.ver, u4, u5] 47)).alloc (Obj.cells #[t0, t1, .int .i64 x.now, .int .i64 x.ver, t4, t5] 47)) w.heap.size [u0, u1, .int .i64 x.now, .int .i64 x.ver, u4, u5] from (BoxV.made w [u0, u1, .int .i64 x.now, .int .i64 x.ver, u4, u5] 47).alloc _)
  have Y0 := hide (show BoxV ((w.alloc (Obj.cells #[u0, u1, .int .i64 x.now, .int .i64 x.ver, u4, u5] 47)).alloc (Obj.cells #[t0, t1, .int .i64 x.now, .int .i64 x.ver, t4, t5] 47)) (w.heap.size + 1) [t0, t1, .int .i64 x.now, .int .i64 x.ver, t4, t5] by have h := BoxV.made (w.alloc (Obj.cells #[u0, u1, .int .i64 x.now, .int .i64 x.ver, u4, u5] 47)) [t0, t1, .int .i64 x.now, .int .i64 x.ver, t4, t5] 47; simpa using h)
  have e2 : (x.now == x.now) = true := beq_self_eq_true _
  have e3 : (x.ver == x.ver) = true := beq_self_eq_true _
  go_enter Try.func16, Try.ntmps16
  have HQ := hide (eqResS_gen (x.t) u0 t0 B C _ (h0.stays K0.out hB) (j0.stays K0.out hC) (Nat.le_trans hB K0.out.size) (Nat.le_trans hC K0.out.size))
  go_wp2_with fail
  refine HQ.out.mono ?_
  rintro e w1 ⟨rfl, b1⟩
  have K1 := hide (K0.out.trans (b1.mono K0.out.size))
  have X1 := hide (X0.out.next b1)
  have Y1 := hide (Y0.out.next b1)
  clear HQ b1 K0 X0 Y0
  have c1 := (X1.out.2 1 _ rfl).1
  have d1 := (Y1.out.2 1 _ rfl).1
  have HQ := hide (eqLockS_gen (x.l) u1 t1 B C _ (h1.stays K1.out hB) (j1.stays K1.out hC) (Nat.le_trans hB K1.out.size) (Nat.le_trans hC K1.out.size))
  go_wp2_with fail
  refine HQ.out.mono ?_
  rintro e w2 ⟨rfl, b2⟩
  have K2 := hide (K1.out.trans (b2.mono K1.out.size))
  have X2 := hide (X1.out.next b2)
  have Y2 := hide (Y1.out.next b2)
  clear HQ b2 K1 X1 Y1 c1 d1
  have c2 := (X2.out.2 2 _ rfl).1
  have d2 := (Y2.out.2 2 _ rfl).1
  have c3 := (X2.out.2 3 _ rfl).1
  have d3 := (Y2.out.2 3 _ rfl).1
  have c4 := (X2.out.2 4 _ rfl).1
  have d4 := (Y2.out.2 4 _ rfl).1
  have HQ := hide (eqIntS_gen (x.dr) u4 t4 B C _ (h4.stays K2.out hB) (j4.stays K2.out hC) (Nat.le_trans hB K2.out.size) (Nat.le_trans hC K2.out.size))
  go_wp2_with fail
  refine HQ.out.mono ?_
  rintro e w3 ⟨rfl, b3⟩
  have K3 := hide (K2.out.trans (b3.mono K2.out.size))
  have X3 := hide (X2.out.next b3)
  have Y3 := hide (Y2.out.next b3)
  clear HQ b3 K2 X2 Y2 c2 d2 c3 d3 c4 d4
  have c5 := (X3.out.2 5 _ rfl).1
  have d5 := (Y3.out.2 5 _ rfl).1
  have HQ := hide (eqIntS_gen (x.us) u5 t5 B C _ (h5.stays K3.out hB) (j5.stays K3.out hC) (Nat.le_trans hB K3.out.size) (Nat.le_trans hC K3.out.size))
  go_wp2_with fail
  refine HQ.out.mono ?_
  rintro e w4 ⟨rfl, b4⟩
  have K4 := hide (K3.out.trans (b4.mono K3.out.size))
  have X4 := hide (X3.out.next b4)
  have Y4 := hide (Y3.out.next b4)
  clear HQ b4 K3 X3 Y3 c5 d5
  go_wp2
  go_ret
  exact ⟨rfl, K4.out⟩
end Go.Proofs.Ytckhjemojopekaa
namespace Go.Proofs.Ytckhjemojopekaa
open Go.RowKit M
set_option linter.unusedVariables false

set_option maxRecDepth 100000 in
set_option maxHeartbeats 4000000 in
theorem szAsk_gen (x : Ak) (u0 u1 u4 : Value) (left B : Nat) (w : World) (h0 : View w B u0 (.l (x.pa.map dS))) (h1 : View w B u1 (.l (x.to.map dS))) (h4 : View w B u4 (.l (x.tk.map dI))) (hB : B ≤ w.heap.size) (hok : okR (dAk x)) (hleft : left ≤ 1048576) :
    Calls Try.prog 11 #[.agg #[u0, u1, .bool x.de, .bool x.ov, u4, .int .i64 x.co], .int .i64 left] w fun e w' => (∃ z : Int, e = .returned (.int .i64 z) ∧ (z < 0 ∨ ∃ m : Nat, z = m ∧ szR (dAk x) + m = left)) ∧ Below w.heap.size w w' := by
  have K0 := hide (show Below w.heap.size w (w.alloc (Obj.cells #[u0, u1, .bool x.de, .bool x.ov, u4, .int .i64 x.co] 40)) from (Below.refl _ _).alloc (Nat.le_refl _) _)
  have X0 := hide (BoxV.made w [u0, u1, .bool x.de, .bool x.ov, u4, .int .i64 x.co] 40)
  have hsum : szR (dAk x) = szRs (x.pa.map dS) + szRs (x.to.map dS) + szRs (x.tk.map dI) := by simp [dAk, szR, szF, szV]; try omega
  have HS := hide hsum
  clear hsum
  have s0 : okF (.l (x.pa.map dS)) := okR_mem hok _ (by simp [dAk])
  have s1 : okF (.l (x.to.map dS)) := okR_mem hok _ (by simp [dAk])
  have s4 : okF (.l (x.tk.map dI)) := okR_mem hok _ (by simp [dAk])
  have S0 := hide s0
  clear s0
  have S1 := hide s1
  clear s1
  have S4 := hide s4
  clear s4
  clear hok
  go_enter Try.func11, Try.ntmps11
  have HQ := hide (szStringS_gen (x.pa) u0 left B _ (h0.stays K0.out hB) (Nat.le_trans hB K0.out.size) S0.out hleft)
  go_wp2_with fail
  refine HQ.out.mono ?_
  rintro e w1 ⟨⟨z, rfl, hz⟩, b1⟩
  have K1 := hide (K0.out.trans (b1.mono K0.out.size))
  have X1 := hide (X0.out.next b1)
  clear HQ b1 K0 X0
  rcases hz with hz | ⟨m0, rfl, hm0⟩
  · go_wp2
    go_ret
    exact ⟨⟨_, rfl, .inl (by omega)⟩, K1.out⟩
  have hn0 : m0 ≤ 1048576 := by omega
  have E0 := hide hm0
  clear hm0
  have c1 := (X1.out.2 1 _ rfl).1
  have HQ := hide (szStringS_gen (x.to) u1 m0 B _ (h1.stays K1.out hB) (Nat.le_trans hB K1.out.size) S1.out hn0)
  go_wp2_with fail
  refine HQ.out.mono ?_
  rintro e w2 ⟨⟨z, rfl, hz⟩, b2⟩
  have K2 := hide (K1.out.trans (b2.mono K1.out.size))
  have X2 := hide (X1.out.next b2)
  clear HQ b2 K1 X1 c1
  rcases hz with hz | ⟨m1, rfl, hm1⟩
  · go_wp2
    go_ret
    exact ⟨⟨_, rfl, .inl (by omega)⟩, K2.out⟩
  have hn1 : m1 ≤ 1048576 := by omega
  have E1 := hide hm1
  clear hm1
  have c4 := (X2.out.2 4 _ rfl).1
  have HQ := hide (szIntS_gen (x.tk) u4 m1 B _ (h4.stays K2.out hB) (Nat.le_trans hB K2.out.size) S4.out hn1)
  go_wp2_with fail
  refine HQ.out.mono ?_
  rintro e w3 ⟨⟨z, rfl, hz⟩, b3⟩
  have K3 := hide (K2.out.trans (b3.mono K2.out.size))
  have X3 := hide (X2.out.next b3)
  clear HQ b3 K2 X2 c4
  rcases hz with hz | ⟨m4, rfl, hm4⟩
  · go_wp2
    go_ret
    exact ⟨⟨_, rfl, .inl (by omega)⟩, K3.out⟩
  have hn4 : m4 ≤ 1048576 := by omega
  have E4 := hide hm4
  clear hm4
  go_wp2
  go_ret
  exact ⟨⟨_, rfl, .inr ⟨m4, rfl, by rw [HS.out]; have := E0.out; have := E1.out; have := E4.out; omega⟩⟩, K3.out⟩
end Go.Proofs.Ytckhjemojopekaa
namespace Go.Proofs.Ytckhjemojopekaa
open Go.RowKit M
set_option linter.unusedVariables false

set_option maxRecDepth 100000 in
set_option maxHeartbeats 4000000 in
theorem toAsk_gen (x : Ak) (u0 u1 u4 : Value) (B : Nat) (w : World) (h0 : View w B u0 (.l (x.pa.map dS))) (h1 : View w B u1 (.l (x.to.map dS))) (h4 : View w B u4 (.l (x.tk.map dI))) (hB : B ≤ w.heap.size) (hsz : szR (dAk x) ≤ 1048576) :
    Calls Try.prog 14 #[.agg #[u0, u1, .bool x.de, .bool x.ov, u4, .int .i64 x.co]] w fun e w' => (∃ (p0 p1 p4 n0 n1 n4 : Nat), e = .returned (.agg #[.slice (some ⟨p0, 0, none⟩) (x.pa).length (x.pa).length, .slice (some ⟨p1, 0, none⟩) (x.to).length (x.to).length, .bool x.de, .bool x.ov, .slice (some ⟨p4, 0, none⟩) (x.tk).length (x.tk).length, .int .i64 x.co]) ∧ Own w' (.slice (some ⟨p0, 0, none⟩) (x.pa).length (x.pa).length) (.l (x.pa.map dS)) (IvG w.heap.size n0) ∧ w.heap.size ≤ n0 ∧ Own w' (.slice (some ⟨p1, 0, none⟩) (x.to).length (x.to).length) (.l (x.to.map dS)) (IvG n0 n1) ∧ n0 ≤ n1 ∧ Own w' (.slice (some ⟨p4, 0, none⟩) (x.tk).length (x.tk).length) (.l (x.tk.map dI)) (IvG n1 n4) ∧ n1 ≤ n4 ∧ n4 ≤ w'.heap.size) ∧ Below w.heap.size w w' := by
  have hsum : szR (dAk x) = szRs (x.pa.map dS) + szRs (x.to.map dS) + szRs (x.tk.map dI) := by simp [dAk, szR, szF, szV]; try omega
  rw [hsum] at hsz
  clear hsum
  have K0 := hide (show Below w.heap.size w (((w.alloc (Obj.cells #[u0, u1, .bool x.de, .bool x.ov, u4, .int .i64 x.co] 40)).alloc (Obj.cells #[.slice none 0 0, .slice none 0 0, .bool false, .bool false, .slice none 0 0, .int .i64 0] 49)).alloc (Obj.cells #[.slice none 0 0, .slice none 0 0, .bool false, .bool false, .slice none 0 0, .int .i64 0] 49)) from (((Below.refl _ _).alloc (Nat.le_refl _) _).alloc (by simp) _).alloc (by simp; omega) _)
  have X0 := hide (show BoxV (((w.alloc (Obj.cells #[u0, u1, .bool x.de, .bool x.ov, u4, .int .i64 x.co] 40)).alloc (Obj.cells #[.slice none 0 0, .slice none 0 0, .bool false, .bool false, .slice none 0 0, .int .i64 0] 49)).alloc (Obj.cells #[.slice none 0 0, .slice none 0 0, .bool false, .bool false, .slice none 0 0, .int .i64 0] 49)) w.heap.size [u0, u1, .bool x.de, .bool x.ov, u4, .int .i64 x.co] from ((BoxV.made w [u0, u1, .bool x.de, .bool x.ov, u4, .int .i64 x.co] 40).alloc _).alloc _)
  have Y0 := hide (show BoxV (((w.alloc (Obj.cells #[u0, u1, .bool x.de, .bool x.ov, u4, .int .i64 x.co] 40)).alloc (Obj.cells #[.slice none 0 0, .slice none 0 0, .bool false, .bool false, .slice none 0 0, .int .i64 0] 49)).alloc (Obj.cells #[.slice none 0 0, .slice none 0 0, .bool false, .bool false, .slice none 0 0, .int .i64 0] 49)) (w.heap.size + 1) [.slice none 0 0, .slice none 0 0, .bool false, .bool false, .slice none 0 0, .int .i64 0] by have h := (BoxV.made (w.alloc (Obj.cells #[u0, u1, .bool x.de, .bool x.ov, u4, .int .i64 x.co] 40)) [.slice none 0 0, .slice none 0 0, .bool false, .bool false, .slice none 0 0, .int .i64 0] 49).alloc (Obj.cells #[.slice none 0 0, .slice none 0 0, .bool false, .bool false, .slice none 0 0, .int .i64 0] 49); simpa using h)
  have Z0 := hide (show BoxV (((w.alloc (Obj.cells #[u0, u1, .bool x.de, .bool x.ov, u4, .int .i64 x.co] 40)).alloc (Obj.cells #[.slice none 0 0, .slice none 0 0, .bool false, .bool false, .slice none 0 0, .int .i64 0] 49)).alloc (Obj.cells #[.slice none 0 0, .slice none 0 0, .bool false, .bool false, .slice none 0 0, .int .i64 0] 49)) (w.heap.size + 1 + 1) [.slice none 0 0, .slice none 0 0, .bool false, .bool false, .slice none 0 0, .int .i64 0] by have h := BoxV.made ((w.alloc (Obj.cells #[u0, u1, .bool x.de, .bool x.ov, u4, .int .i64 x.co] 40)).alloc (Obj.cells #[.slice none 0 0, .slice none 0 0, .bool false, .bool false, .slice none 0 0, .int .i64 0] 49)) [.slice none 0 0, .slice none 0 0, .bool false, .bool false, .slice none 0 0, .int .i64 0] 49; simpa using h)
  go_enter Try.func14, Try.ntmps14
  have HQ := hide (toStringS_gen (x.pa) u0 B _ (h0.stays K0.out hB) (Nat.le_trans hB K0.out.size) (by omega))
  go_wp2_with fail
  refine HQ.out.mono ?_
  rintro e w1 ⟨⟨p0, rfl, o0⟩, b1⟩
  have k1 := K0.out.trans (b1.mono K0.out.size)
  have x1 := X0.out.next b1
  have y1 := Y0.out.next b1
  have z1 := Z0.out.next b1
  have P0 := hide (o0.up (l' := w.heap.size + 1 + 1 + 1) (u' := w1.heap.size) (by simp) (Nat.le_refl _))
  have zs1 : w.heap.size + 1 + 1 < w1.heap.size := z1.1
  have zl1 : w.heap.size + 1 + 1 + 1 ≤ w1.heap.size := by omega
  have n0 := hide (show w.heap.size ≤ w1.heap.size by have := b1.size; simp at this; omega)
  obtain ⟨d0, f0⟩ := z1.2 0 _ rfl
  have K1 := hide (k1.setCell (p := ⟨w.heap.size + 1 + 1, 0, none⟩) (by show w.heap.size ≤ w.heap.size + 1 + 1; omega) (.slice (some ⟨p0, 0, none⟩) (x.pa).length (x.pa).length))
  have X1 := hide (x1.other ⟨w.heap.size + 1 + 1, 0, none⟩ (.slice (some ⟨p0, 0, none⟩) (x.pa).length (x.pa).length) (by show w.heap.size + 1 + 1 ≠ w.heap.size; omega))
  have Y1 := hide (y1.other ⟨w.heap.size + 1 + 1, 0, none⟩ (.slice (some ⟨p0, 0, none⟩) (x.pa).length (x.pa).length) (by show w.heap.size + 1 + 1 ≠ w.heap.size + 1; omega))
  have Z1 := hide (show BoxV (w1.setCell ⟨w.heap.size + 1 + 1, 0, none⟩ (.slice (some ⟨p0, 0, none⟩) (x.pa).length (x.pa).length)) (w.heap.size + 1 + 1) [.slice (some ⟨p0, 0, none⟩) (x.pa).length (x.pa).length, .slice none 0 0, .bool false, .bool false, .slice none 0 0, .int .i64 0] from (z1.set 0 (by simp) (.slice (some ⟨p0, 0, none⟩) (x.pa).length (x.pa).length)))
  have P0 := hide (P0.out.setCell ⟨w.heap.size + 1 + 1, 0, none⟩ (.slice (some ⟨p0, 0, none⟩) (x.pa).length (x.pa).length) (fun e => by have h1 := e.1; dsimp only at h1; omega))
  clear k1 x1 y1 z1 o0 b1 HQ K0 X0 Y0 Z0
  have c1 := (X1.out.2 1 _ rfl).1
  have HQ := hide (toStringS_gen (x.to) u1 B _ (h1.stays K1.out hB) (Nat.le_trans hB K1.out.size) (by omega))
  go_wp2_with fail
  refine HQ.out.mono ?_
  rintro e w2 ⟨⟨p1, rfl, o1⟩, b2⟩
  have k2 := K1.out.trans (b2.mono K1.out.size)
  have x2 := X1.out.next b2
  have y2 := Y1.out.next b2
  have z2 := Z1.out.next b2
  have P1 := hide (o1.up (l' := w1.heap.size) (u' := w2.heap.size) (by simp) (Nat.le_refl _))
  have P0 := hide (P0.out.next b2)
  have zs2 : w.heap.size + 1 + 1 < w2.heap.size := z2.1
  have n1 := hide (show w1.heap.size ≤ w2.heap.size by have := b2.size; simp at this; omega)
  obtain ⟨d1, f1⟩ := z2.2 1 _ rfl
  obtain ⟨d2, f2⟩ := z2.2 2 _ rfl
  have c2 := (x2.2 2 _ rfl).1
  obtain ⟨d3, f3⟩ := z2.2 3 _ rfl
  have c3 := (x2.2 3 _ rfl).1
  have K2 := hide (((k2.setCell (p := ⟨w.heap.size + 1 + 1, 1, none⟩) (by show w.heap.size ≤ w.heap.size + 1 + 1; omega) (.slice (some ⟨p1, 0, none⟩) (x.to).length (x.to).length)).setCell (p := ⟨w.heap.size + 1 + 1, 2, none⟩) (by show w.heap.size ≤ w.heap.size + 1 + 1; omega) (.bool x.de)).setCell (p := ⟨w.heap.size + 1 + 1, 3, none⟩) (by show w.heap.size ≤ w.heap.size + 1 + 1; omega) (.bool x.ov))
  have X2 := hide (((x2.other ⟨w.heap.size + 1 + 1, 1, none⟩ (.slice (some ⟨p1, 0, none⟩) (x.to).length (x.to).length) (by show w.heap.size + 1 + 1 ≠ w.heap.size; omega)).other ⟨w.heap.size + 1 + 1, 2, none⟩ (.bool x.de) (by show w.heap.size + 1 + 1 ≠ w.heap.size; omega)).other ⟨w.heap.size + 1 + 1, 3, none⟩ (.bool x.ov) (by show w.heap.size + 1 + 1 ≠ w.heap.size; omega))
  have Y2 := hide (((y2.other ⟨w.heap.size + 1 + 1, 1, none⟩ (.slice (some ⟨p1, 0, none⟩) (x.to).length (x.to).length) (by show w.heap.size + 1 + 1 ≠ w.heap.size + 1; omega)).other ⟨w.heap.size + 1 + 1, 2, none⟩ (.bool x.de) (by show w.heap.size + 1 + 1 ≠ w.heap.size + 1; omega)).other ⟨w.heap.size + 1 + 1, 3, none⟩ (.bool x.ov) (by show w.heap.size + 1 + 1 ≠ w.heap.size + 1; omega))
  have Z2 := hide (show BoxV (((w2.setCell ⟨w.heap.size + 1 + 1, 1, none⟩ (.slice (some ⟨p1, 0, none⟩) (x.to).length (x.to).length)).setCell ⟨w.heap.size + 1 + 1, 2, none⟩ (.bool x.de)).setCell ⟨w.heap.size + 1 + 1, 3, none⟩ (.bool x.ov)) (w.heap.size + 1 + 1) [.slice (some ⟨p0, 0, none⟩) (x.pa).length (x.pa).length, .slice (some ⟨p1, 0, none⟩) (x.to).length (x.to).length, .bool x.de, .bool x.ov, .slice none 0 0, .int .i64 0] from (((z2.set 1 (by simp) (.slice (some ⟨p1, 0, none⟩) (x.to).length (x.to).length)).set 2 (by simp) (.bool x.de)).set 3 (by simp) (.bool x.ov)))
  have P0 := hide (((P0.out.setCell ⟨w.heap.size + 1 + 1, 1, none⟩ (.slice (some ⟨p1, 0, none⟩) (x.to).length (x.to).length) (fun e => by have h1 := e.1; dsimp only at h1; omega)).setCell ⟨w.heap.size + 1 + 1, 2, none⟩ (.bool x.de) (fun e => by have h1 := e.1; dsimp only at h1; omega)).setCell ⟨w.heap.size + 1 + 1, 3, none⟩ (.bool x.ov) (fun e => by have h1 := e.1; dsimp only at h1; omega))
  have P1 := hide (((P1.out.setCell ⟨w.heap.size + 1 + 1, 1, none⟩ (.slice (some ⟨p1, 0, none⟩) (x.to).length (x.to).length) (fun e => by have h1 := e.1; dsimp only at h1; omega)).setCell ⟨w.heap.size + 1 + 1, 2, none⟩ (.bool x.de) (fun e => by have h1 := e.1; dsimp only at h1; omega)).setCell ⟨w.heap.size + 1 + 1, 3, none⟩ (.bool x.ov) (fun e => by have h1 := e.1; dsimp only at h1; omega))
  clear k2 x2 y2 z2 o1 b2 HQ K1 X1 Y1 Z1
  have c4 := (X2.out.2 4 _ rfl).1
  have HQ := hide (toIntS_gen (x.tk) u4 B _ (h4.stays K2.out hB) (Nat.le_trans hB K2.out.size) (by omega))
  go_wp2_with fail
  refine HQ.out.mono ?_
  rintro e w3 ⟨⟨p4, rfl, o4⟩, b3⟩
  have k3 := K2.out.trans (b3.mono K2.out.size)
  have x3 := X2.out.next b3
  have y3 := Y2.out.next b3
  have z3 := Z2.out.next b3
  have P4 := hide (o4.up (l' := w2.heap.size) (u' := w3.heap.size) (by simp) (Nat.le_refl _))
  have P0 := hide (P0.out.next b3)
  have P1 := hide (P1.out.next b3)
  have zs3 : w.heap.size + 1 + 1 < w3.heap.size := z3.1
  have n4 := hide (show w2.heap.size ≤ w3.heap.size by have := b3.size; simp at this; omega)
  obtain ⟨d4, f4⟩ := z3.2 4 _ rfl
  obtain ⟨d5, f5⟩ := z3.2 5 _ rfl
  have c5 := (x3.2 5 _ rfl).1
  obtain ⟨r0, g0⟩ := y3.2 0 _ rfl
  obtain ⟨r1, g1⟩ := y3.2 1 _ rfl
  obtain ⟨r2, g2⟩ := y3.2 2 _ rfl
  obtain ⟨r3, g3⟩ := y3.2 3 _ rfl
  obtain ⟨r4, g4⟩ := y3.2 4 _ rfl
  obtain ⟨r5, g5⟩ := y3.2 5 _ rfl
  obtain ⟨d0, f0⟩ := z3.2 0 _ rfl
  obtain ⟨d1, f1⟩ := z3.2 1 _ rfl
  obtain ⟨d2, f2⟩ := z3.2 2 _ rfl
  obtain ⟨d3, f3⟩ := z3.2 3 _ rfl
  have KE := hide k3
  clear k3 x3 y3 z3 o4 b3 HQ K2 X2 Y2 Z2
  go_wp2
  refine bodyPost_ret (v := .agg #[.slice (some ⟨p0, 0, none⟩) (x.pa).length (x.pa).length, .slice (some ⟨p1, 0, none⟩) (x.to).length (x.to).length, .bool x.de, .bool x.ov, .slice (some ⟨p4, 0, none⟩) (x.tk).length (x.tk).length, .int .i64 x.co]) (by simp [results, Try.results14, go_sem, r0, r1, r2, r3, r4, r5]) rfl ⟨⟨p0, p1, p4, w1.heap.size, w2.heap.size, w3.heap.size, rfl, ?_, n0.out, ?_, n1.out, ?_, n4.out, ?_⟩, ?_⟩
  · refine Own.up (l := w.heap.size + 1 + 1 + 1) ?_ (by omega) (Nat.le_refl _)
    repeat' refine Own.setCell ?_ _ _ (fun e => by have h1 := e.1; dsimp only at h1; omega)
    exact P0.out
  · repeat' refine Own.setCell ?_ _ _ (fun e => by have h1 := e.1; dsimp only at h1; omega)
    exact P1.out
  · repeat' refine Own.setCell ?_ _ _ (fun e => by have h1 := e.1; dsimp only at h1; omega)
    exact P4.out
  · simp
  · repeat' refine Below.setCell ?_ (by simp; try omega) _
    exact KE.out
end Go.Proofs.Ytckhjemojopekaa
namespace Go.Proofs.Ytckhjemojopekaa
open Go.RowKit M
set_option linter.unusedVariables false

set_option maxRecDepth 100000 in
set_option maxHeartbeats 4000000 in
theorem eqAsk_gen (x : Ak) (u0 t0 u1 t1 u4 t4 : Value) (B C : Nat) (w : World) (h0 : View w B u0 (.l (x.pa.map dS))) (j0 : View w C t0 (.l (x.pa.map dS))) (h1 : View w B u1 (.l (x.to.map dS))) (j1 : View w C t1 (.l (x.to.map dS))) (h4 : View w B u4 (.l (x.tk.map dI))) (j4 : View w C t4 (.l (x.tk.map dI))) (hB : B ≤ w.heap.size) (hC : C ≤ w.heap.size) :
    Calls Try.prog 17 #[.agg #[u0, u1, .bool x.de, .bool x.ov, u4, .int .i64 x.co], .agg #[t0, t1, .bool x.de, .bool x.ov, t4, .int .i64 x.co]] w fun e w' => e = .returned (.bool true) ∧ Below w.heap.size w w' := by
  have K0 := hide (show Below w.heap.size w ((w.alloc (Obj.cells #[u0, u1, .bool x.de, .bool x.ov, u4, .int .i64 x.co] 49)).alloc (Obj.cells #[t0, t1, .bool x.de, .bool x.ov, t4, .int .i64 x.co] 49)) from ((Below.refl _ _).alloc (Nat.le_refl _) _).alloc (by simp) _)
  have X0 := hide (show BoxV ((w.alloc (Obj.cells #[u0, u1, .bool x.de, .bool x.ov, u4, .int .i64 x.co] 49)).alloc (Obj.cells #[t0, t1, .bool x.de, .bool x.ov, t4, .int .i64 x.co] 49)) w.heap.size [u0, u1, .bool x.de, .bool x.ov, u4, .int .i64 x.co] from (BoxV.made w [u0, u1, .bool x.de, .bool x.ov, u4, .int .i64 x.co] 49).alloc _)
  have Y0 := hide (show BoxV ((w.alloc (Obj.cells #[u0, u1, .bool x.de, .bool x.ov, u4, .int .i64 x.co] 49)).alloc (Obj.cells #[t0, t1, .bool x.de, .bool x.ov, t4, .int .i64 x.co] 49)) (w.heap.size + 1) [t0, t1, .bool x.de, .bool x.ov, t4, .int .i64 x.co] by have h := BoxV.made (w.alloc (Obj.cells #[u0, u1, .bool x.de, .bool x.ov, u4, .int .i64 x.co] 49)) [t0, t1, .bool x.de, .bool x.ov, t4, .int .i64 x.co] 49; simpa using h)
  have e5 : (x.co == x.co) = true := beq_self_eq_true _
  go_enter Try.func17, Try.ntmps17
  have HQ := hide (eqStringS_gen (x.pa) u0 t0 B C _ (h0.stays K0.out hB) (j0.stays K0.out hC) (Nat.le_trans hB K0.out.size) (Nat.le_trans hC K0.out.size))
  go_wp2_with fail
  refine HQ.out.mono ?_
  rintro e w1 ⟨rfl, b1⟩
  have K1 := hide (K0.out.trans (b1.mono K0.out.size))
  have X1 := hide (X0.out.next b1)
  have Y1 := hide (Y0.out.next b1)
  clear HQ b1 K0 X0 Y0
  have c1 := (X1.out.2 1 _ rfl).1
  have d1 := (Y1.out.2 1 _ rfl).1
  have HQ := hide (eqStringS_gen (x.to) u1 t1 B C _ (h1.stays K1.out hB) (j1.stays K1.out hC) (Nat.le_trans hB K1.out.size) (Nat.le_trans hC K1.out.size))
  go_wp2_with fail
  refine HQ.out.mono ?_
  rintro e w2 ⟨rfl, b2⟩
  have K2 := hide (K1.out.trans (b2.mono K1.out.size))
  have X2 := hide (X1.out.next b2)
  have Y2 := hide (Y1.out.next b2)
  clear HQ b2 K1 X1 Y1 c1 d1
  have c2 := (X2.out.2 2 _ rfl).1
  have d2 := (Y2.out.2 2 _ rfl).1
  have c3 := (X2.out.2 3 _ rfl).1
  have d3 := (Y2.out.2 3 _ rfl).1
  have c4 := (X2.out.2 4 _ rfl).1
  have d4 := (Y2.out.2 4 _ rfl).1
  have HQ := hide (eqIntS_gen (x.tk) u4 t4 B C _ (h4.stays K2.out hB) (j4.stays K2.out hC) (Nat.le_trans hB K2.out.size) (Nat.le_trans hC K2.out.size))
  go_wp2_with fail
  refine HQ.out.mono ?_
  rintro e w3 ⟨rfl, b3⟩
  have K3 := hide (K2.out.trans (b3.mono K2.out.size))
  have X3 := hide (X2.out.next b3)
  have Y3 := hide (Y2.out.next b3)
  clear HQ b3 K2 X2 Y2 c2 d2 c3 d3 c4 d4
  have c5 := (X3.out.2 5 _ rfl).1
  have d5 := (Y3.out.2 5 _ rfl).1
  go_wp2
  go_ret
  exact ⟨rfl, K3.out⟩
end Go.Proofs.Ytckhjemojopekaa
