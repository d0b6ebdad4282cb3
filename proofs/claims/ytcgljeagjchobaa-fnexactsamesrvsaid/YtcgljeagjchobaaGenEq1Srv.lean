/-
  A help of the laws, by program (tools/gen_help.py): Eqq of Lock.
  A help of the laws, by program (tools/gen_help.py): Eqq of Int.
  A help of the laws, by program (tools/gen_help.py): Eq1 of Srv.
-/
import Derived.Test.YtcgljeagjchobaaRows
import Derived.Test.YtcgljeagjchobaaGenSrv
import Derived.Test.YtcgljeagjchobaaGenBox
import Derived.Test.YtcgljeagjchobaaGenEq1Lock
import Derived.WalkKit
import Derived.WalkSpells
import Derived.WalkLawsBesides
import Derived.Deep.Light
import Derived.Deep.QuietTactic
import Derived.Deep.RegionHeld3
import Derived.Test.YtcgljeagjchobaaGenEqqResS
namespace Go.Proofs.Ytcgljeagjchobaa
open Go.RowKit M
set_option linter.unusedVariables false

set_option maxRecDepth 100000 in
set_option maxHeartbeats 4000000 in
theorem eqLockS_gen (l : List Lk) (v v' : Value) (B B' : Nat) (w : World) (h : View w B v (.l (l.map dLk))) (h' : View w B' v' (.l (l.map dLk))) (hB : B ≤ w.heap.size) (hB' : B' ≤ w.heap.size) :
    Calls Try.prog 15 #[v, v'] w fun e w' => e = .returned (.bool true) ∧ Below w.heap.size w w' := by
  obtain ⟨a, cap, rfl, hl, hm, _, hat⟩ := h.rows 5 (fun _ => rfl)
  obtain ⟨a', cap', rfl, hl', hm', _, hat'⟩ := h'.rows 5 (fun _ => rfl)
  have hn : l.length ≤ maxLen := Nat.le_trans hl hm
  unfold maxLen at hn
  have HAT := hide hat
  have HAT' := hide hat'
  clear h h' hat hat' hl hl' hm hm'
  go_enter Try.func15, Try.ntmps15
  go_wp2
  go_loopw [5] (fun i wr => ∃ k : Nat, k ≤ l.length ∧ i = .int .i64 k ∧ Below w.heap.size w wr) (fun i _ => l.length - (intOf i).toNat)
  case atStart => exact ⟨0, Nat.zero_le _, rfl, Below.refl _ _⟩
  case round =>
    obtain ⟨k, hk, rfl, hbe⟩ := hrel
    by_cases hlt : k < l.length
    · obtain ⟨b, o, C, rfl, hb, hc⟩ := HAT.out (by omega)
      obtain ⟨b', o', C', rfl, hb', hc'⟩ := HAT'.out (by omega)
      have hck := hc k hlt
      have hck' := hc' k hlt
      have hbw : b < w.heap.size := Nat.lt_of_lt_of_le hb hB
      have hbw' : b' < w.heap.size := Nat.lt_of_lt_of_le hb' hB'
      have hi0 : (0 : Int) ≤ (k : Int) := by omega
      have hi1 : (k : Int) < (l.length : Int) := by omega
      obtain ⟨x, hx⟩ : ∃ x, l[k] = x := ⟨_, rfl⟩
      rw [hx] at hck hck'
      clear hx hc hc'
      have c0 : wr.cell? ⟨b, o + k * 5, none⟩ = some (.int .i64 x.tk) := by
        obtain ⟨c, v⟩ := hck 0 (.c (.int .i64 x.tk)) rfl
        rw [v.inv] at c
        simp only [Nat.add_zero] at c
        exact (hbe.cell (p := ⟨b, o + k * 5, none⟩) hbw).trans c
      obtain ⟨c1, v1⟩ := hck 1 (.l (x.pa.map dS)) rfl
      have c1 := (hbe.cell (p := ⟨b, o + k * 5 + 1, none⟩) hbw).trans c1
      have c2 : wr.cell? ⟨b, o + k * 5 + 2, none⟩ = some (.bool x.de) := by
        obtain ⟨c, v⟩ := hck 2 (.c (.bool x.de)) rfl
        rw [v.inv] at c
        exact (hbe.cell (p := ⟨b, o + k * 5 + 2, none⟩) hbw).trans c
      have c3 : wr.cell? ⟨b, o + k * 5 + 3, none⟩ = some (.bool x.sh) := by
        obtain ⟨c, v⟩ := hck 3 (.c (.bool x.sh)) rfl
        rw [v.inv] at c
        exact (hbe.cell (p := ⟨b, o + k * 5 + 3, none⟩) hbw).trans c
      have c4 : wr.cell? ⟨b, o + k * 5 + 4, none⟩ = some (.int .i64 x.un) := by
        obtain ⟨c, v⟩ := hck 4 (.c (.int .i64 x.un)) rfl
        rw [v.inv] at c
        exact (hbe.cell (p := ⟨b, o + k * 5 + 4, none⟩) hbw).trans c
      have c0' : wr.cell? ⟨b', o' + k * 5, none⟩ = some (.int .i64 x.tk) := by
        obtain ⟨c, v⟩ := hck' 0 (.c (.int .i64 x.tk)) rfl
        rw [v.inv] at c
        simp only [Nat.add_zero] at c
        exact (hbe.cell (p := ⟨b', o' + k * 5, none⟩) hbw').trans c
      obtain ⟨c1', v1'⟩ := hck' 1 (.l (x.pa.map dS)) rfl
      have c1' := (hbe.cell (p := ⟨b', o' + k * 5 + 1, none⟩) hbw').trans c1'
      have c2' : wr.cell? ⟨b', o' + k * 5 + 2, none⟩ = some (.bool x.de) := by
        obtain ⟨c, v⟩ := hck' 2 (.c (.bool x.de)) rfl
        rw [v.inv] at c
        exact (hbe.cell (p := ⟨b', o' + k * 5 + 2, none⟩) hbw').trans c
      have c3' : wr.cell? ⟨b', o' + k * 5 + 3, none⟩ = some (.bool x.sh) := by
        obtain ⟨c, v⟩ := hck' 3 (.c (.bool x.sh)) rfl
        rw [v.inv] at c
        exact (hbe.cell (p := ⟨b', o' + k * 5 + 3, none⟩) hbw').trans c
      have c4' : wr.cell? ⟨b', o' + k * 5 + 4, none⟩ = some (.int .i64 x.un) := by
        obtain ⟨c, v⟩ := hck' 4 (.c (.int .i64 x.un)) rfl
        rw [v.inv] at c
        exact (hbe.cell (p := ⟨b', o' + k * 5 + 4, none⟩) hbw').trans c
      clear hck hck'
      have hbd : Below w.heap.size w wr.drew := below_drewG hbe
      have hq := hide (eqLock_gen x (C k 1) (C' k 1) B B' wr.drew (v1.stays hbd hB) (v1'.stays hbd hB') (Nat.le_trans hB hbd.size) (Nat.le_trans hB' hbd.size))
      clear v1 v1'
      have HX := hide (show wr.drew.cell? ⟨b, o + k * 5, none⟩ = some (.int .i64 x.tk) ∧ wr.drew.cell? ⟨b, o + k * 5 + 1, none⟩ = some (C k 1) ∧ wr.drew.cell? ⟨b, o + k * 5 + 2, none⟩ = some (.bool x.de) ∧ wr.drew.cell? ⟨b, o + k * 5 + 3, none⟩ = some (.bool x.sh) ∧ wr.drew.cell? ⟨b, o + k * 5 + 4, none⟩ = some (.int .i64 x.un) ∧ wr.drew.cell? ⟨b', o' + k * 5, none⟩ = some (.int .i64 x.tk) ∧ wr.drew.cell? ⟨b', o' + k * 5 + 1, none⟩ = some (C' k 1) ∧ wr.drew.cell? ⟨b', o' + k * 5 + 2, none⟩ = some (.bool x.de) ∧ wr.drew.cell? ⟨b', o' + k * 5 + 3, none⟩ = some (.bool x.sh) ∧ wr.drew.cell? ⟨b', o' + k * 5 + 4, none⟩ = some (.int .i64 x.un) from ⟨c0, c1, c2, c3, c4, c0', c1', c2', c3', c4'⟩)
      have hz1 : b < wr.heap.size := Nat.lt_of_lt_of_le hbw hbe.size
      have hz2 : b' < wr.heap.size := Nat.lt_of_lt_of_le hbw' hbe.size
      go_wp2
      go_region_held3 (fun W => W.cell? ⟨b, o + k * 5, none⟩ = some (.int .i64 x.tk) ∧ W.cell? ⟨b, o + k * 5 + 1, none⟩ = some (C k 1) ∧ W.cell? ⟨b, o + k * 5 + 2, none⟩ = some (.bool x.de) ∧ W.cell? ⟨b, o + k * 5 + 3, none⟩ = some (.bool x.sh) ∧ W.cell? ⟨b, o + k * 5 + 4, none⟩ = some (.int .i64 x.un) ∧ W.cell? ⟨b', o' + k * 5, none⟩ = some (.int .i64 x.tk) ∧ W.cell? ⟨b', o' + k * 5 + 1, none⟩ = some (C' k 1) ∧ W.cell? ⟨b', o' + k * 5 + 2, none⟩ = some (.bool x.de) ∧ W.cell? ⟨b', o' + k * 5 + 3, none⟩ = some (.bool x.sh) ∧ W.cell? ⟨b', o' + k * 5 + 4, none⟩ = some (.int .i64 x.un)) (first | exact HX.out | exact HX2.out) ((go_at_call 38; refine hq.out.mono ?_; rintro e w1 ⟨rfl, hb3⟩; have HX2 := hide (show w1.cell? ⟨b, o + k * 5, none⟩ = some (.int .i64 x.tk) ∧ w1.cell? ⟨b, o + k * 5 + 1, none⟩ = some (C k 1) ∧ w1.cell? ⟨b, o + k * 5 + 2, none⟩ = some (.bool x.de) ∧ w1.cell? ⟨b, o + k * 5 + 3, none⟩ = some (.bool x.sh) ∧ w1.cell? ⟨b, o + k * 5 + 4, none⟩ = some (.int .i64 x.un) ∧ w1.cell? ⟨b', o' + k * 5, none⟩ = some (.int .i64 x.tk) ∧ w1.cell? ⟨b', o' + k * 5 + 1, none⟩ = some (C' k 1) ∧ w1.cell? ⟨b', o' + k * 5 + 2, none⟩ = some (.bool x.de) ∧ w1.cell? ⟨b', o' + k * 5 + 3, none⟩ = some (.bool x.sh) ∧ w1.cell? ⟨b', o' + k * 5 + 4, none⟩ = some (.int .i64 x.un) from ⟨(hb3.cell (p := ⟨b, o + k * 5, none⟩) hz1).trans c0, (hb3.cell (p := ⟨b, o + k * 5 + 1, none⟩) hz1).trans c1, (hb3.cell (p := ⟨b, o + k * 5 + 2, none⟩) hz1).trans c2, (hb3.cell (p := ⟨b, o + k * 5 + 3, none⟩) hz1).trans c3, (hb3.cell (p := ⟨b, o + k * 5 + 4, none⟩) hz1).trans c4, (hb3.cell (p := ⟨b', o' + k * 5, none⟩) hz2).trans c0', (hb3.cell (p := ⟨b', o' + k * 5 + 1, none⟩) hz2).trans c1', (hb3.cell (p := ⟨b', o' + k * 5 + 2, none⟩) hz2).trans c2', (hb3.cell (p := ⟨b', o' + k * 5 + 3, none⟩) hz2).trans c3', (hb3.cell (p := ⟨b', o' + k * 5 + 4, none⟩) hz2).trans c4'⟩)))
      all_goals
        have c9 := hbd.trans (hb3.mono hbd.size)
        clear hq hb3 HX HX2
        go_wp2
        go_roundw
        case rel => exact ⟨k + 1, by omega, by go_num, c9⟩
        case measure => simp [intOf]; omega
    · go_wp2
      go_ret
      exact ⟨rfl, hbe⟩
end Go.Proofs.Ytcgljeagjchobaa
namespace Go.Proofs.Ytcgljeagjchobaa
open Go.RowKit M
set_option linter.unusedVariables false

set_option maxRecDepth 100000 in
set_option maxHeartbeats 4000000 in
theorem eqIntS_gen (l : List Int) (v v' : Value) (B B' : Nat) (w : World) (h : View w B v (.l (l.map dI))) (h' : View w B' v' (.l (l.map dI))) (hB : B ≤ w.heap.size) (hB' : B' ≤ w.heap.size) :
    Calls Try.prog 16 #[v, v'] w fun e w' => e = .returned (.bool true) ∧ Below w.heap.size w w' := by
  obtain ⟨a, cap, rfl, hl, hm, _, hat⟩ := h.rows 1 (fun _ => rfl)
  obtain ⟨a', cap', rfl, hl', hm', _, hat'⟩ := h'.rows 1 (fun _ => rfl)
  have hn : l.length ≤ maxLen := Nat.le_trans hl hm
  unfold maxLen at hn
  have HAT := hide hat
  have HAT' := hide hat'
  clear h h' hat hat' hl hl' hm hm'
  go_enter Try.func16, Try.ntmps16
  go_wp2
  go_loopw [5] (fun i wr => ∃ k : Nat, k ≤ l.length ∧ i = .int .i64 k ∧ Below w.heap.size w wr) (fun i _ => l.length - (intOf i).toNat)
  case atStart => exact ⟨0, Nat.zero_le _, rfl, Below.refl _ _⟩
  case round =>
    obtain ⟨k, hk, rfl, hbe⟩ := hrel
    by_cases hlt : k < l.length
    · obtain ⟨b, o, C, rfl, hb, hc⟩ := HAT.out (by omega)
      obtain ⟨b', o', C', rfl, hb', hc'⟩ := HAT'.out (by omega)
      have hck := hc k hlt
      have hck' := hc' k hlt
      have hbw : b < w.heap.size := Nat.lt_of_lt_of_le hb hB
      have hbw' : b' < w.heap.size := Nat.lt_of_lt_of_le hb' hB'
      have hi0 : (0 : Int) ≤ (k : Int) := by omega
      have hi1 : (k : Int) < (l.length : Int) := by omega
      obtain ⟨x, hx⟩ : ∃ x, l[k] = x := ⟨_, rfl⟩
      rw [hx] at hck hck'
      clear hx hc hc'
      have c0 : wr.cell? ⟨b, o + k, none⟩ = some (.int .i64 x) := by
        obtain ⟨c, v⟩ := hck 0 (.c (.int .i64 x)) rfl
        rw [v.inv] at c
        simp only [Nat.mul_one, Nat.add_zero] at c
        exact (hbe.cell (p := ⟨b, o + k, none⟩) hbw).trans c
      have c0' : wr.cell? ⟨b', o' + k, none⟩ = some (.int .i64 x) := by
        obtain ⟨c, v⟩ := hck' 0 (.c (.int .i64 x)) rfl
        rw [v.inv] at c
        simp only [Nat.mul_one, Nat.add_zero] at c
        exact (hbe.cell (p := ⟨b', o' + k, none⟩) hbw').trans c
      clear hck hck'
      have e0 : (x == x) = true := beq_self_eq_true _
      go_wp2
      go_quiet (fail)
      go_wp2
      go_roundw
      case rel => exact ⟨k + 1, by omega, by go_num, below_drewN hbe _⟩
      case measure => simp [intOf]; omega
    · go_wp2
      go_ret
      exact ⟨rfl, hbe⟩
end Go.Proofs.Ytcgljeagjchobaa
namespace Go.Proofs.Ytcgljeagjchobaa
open Go.RowKit M
set_option linter.unusedVariables false

set_option maxRecDepth 100000 in
set_option maxHeartbeats 4000000 in
theorem eqSrv_gen (x : Sv) (u0 t0 u1 t1 u4 t4 u5 t5 : Value) (B C : Nat) (w : World) (h0 : View w B u0 (.l (x.t.map dRs))) (j0 : View w C t0 (.l (x.t.map dRs))) (h1 : View w B u1 (.l (x.l.map dLk))) (j1 : View w C t1 (.l (x.l.map dLk))) (h4 : View w B u4 (.l (x.dr.map dI))) (j4 : View w C t4 (.l (x.dr.map dI))) (h5 : View w B u5 (.l (x.us.map dI))) (j5 : View w C t5 (.l (x.us.map dI))) (hB : B ≤ w.heap.size) (hC : C ≤ w.heap.size) :
    Calls Try.prog 7 #[.agg #[u0, u1, .int .i64 x.now, .int .i64 x.ver, u4, u5], .agg #[t0, t1, .int .i64 x.now, .int .i64 x.ver, t4, t5]] w fun e w' => e = .returned (.bool true) ∧ Below w.heap.size w w' := by
  have K0 := hide (show Below w.heap.size w ((w.alloc (Obj.cells #[u0, u1, .int .i64 x.now, .int .i64 x.ver, u4, u5] 26)).alloc (Obj.cells #[t0, t1, .int .i64 x.now, .int .i64 x.ver, t4, t5] 26)) from ((Below.refl _ _).alloc (Nat.le_refl _) _).alloc (by simp) _)
  have X0 := hide (show BoxV ((w.alloc (Obj.cells #[u0, u1, .int .i64 x.now, .int .i64 x.ver, u4, u5] 26)).alloc (Obj.cells #[t0, t1, .int .i64 x.now, .int .i64 x.ver, t4, t5] 26)) w.heap.size [u0, u1, .int .i64 x.now, .int .i64 x.ver, u4, u5] from (BoxV.made w [u0, u1, .int .i64 x.now, .int .i64 x.ver, u4, u5] 26).alloc _)
  have Y0 := hide (show BoxV ((w.alloc (Obj.cells #[u0, u1, .int .i64 x.now, .int .i64 x.ver, u4, u5] 26)).alloc (Obj.cells #[t0, t1, .int .i64 x.now, .int .i64 x.ver, t4, t5] 26)) (w.heap.size + 1) [t0, t1, .int .i64 x.now, .int .i64 x.ver, t4, t5] by have h := BoxV.made (w.alloc (Obj.cells #[u0, u1, .int .i64 x.now, .int .i64 x.ver, u4, u5] 26)) [t0, t1, .int .i64 x.now, .int .i64 x.ver, t4, t5] 26; simpa using h)
  have e2 : (x.now == x.now) = true := beq_self_eq_true _
  have e3 : (x.ver == x.ver) = true := beq_self_eq_true _
  go_enter Try.func7, Try.ntmps7
  have HQ := hide (eqResS_gen (x.t) u0 t0 B C _ (h0.stays K0.out hB) (j0.stays K0.out hC) (Nat.le_trans hB K0.out.size) (Nat.le_trans hC K0.out.size))
  go_wp2_with fail
  refine HQ.out.mono ?_
  rintro e w1 ⟨rfl, b1⟩
  have K1 := hide (K0.out.trans (b1.mono K0.out.size))
  have X1 := hide (X0.out.next b1)
  have Y1 := hide (Y0.out.next b1)
  clear HQ b1 K0 X0 Y0
  have c1 := (X1.out.2 1 _ rfl).1
  have d1 := (Y1.out.2 1 _ rfl).1
  have HQ := hide (eqLockS_gen (x.l) u1 t1 B C _ (h1.stays K1.out hB) (j1.stays K1.out hC) (Nat.le_trans hB K1.out.size) (Nat.le_trans hC K1.out.size))
  go_wp2_with fail
  refine HQ.out.mono ?_
  rintro e w2 ⟨rfl, b2⟩
  have K2 := hide (K1.out.trans (b2.mono K1.out.size))
  have X2 := hide (X1.out.next b2)
  have Y2 := hide (Y1.out.next b2)
  clear HQ b2 K1 X1 Y1 c1 d1
  have c2 := (X2.out.2 2 _ rfl).1
  have d2 := (Y2.out.2 2 _ rfl).1
  have c3 := (X2.out.2 3 _ rfl).1
  have d3 := (Y2.out.2 3 _ rfl).1
  have c4 := (X2.out.2 4 _ rfl).1
  have d4 := (Y2.out.2 4 _ rfl).1
  have HQ := hide (eqIntS_gen (x.dr) u4 t4 B C _ (h4.stays K2.out hB) (j4.stays K2.out hC) (Nat.le_trans hB K2.out.size) (Nat.le_trans hC K2.out.size))
  go_wp2_with fail
  refine HQ.out.mono ?_
  rintro e w3 ⟨rfl, b3⟩
  have K3 := hide (K2.out.trans (b3.mono K2.out.size))
  have X3 := hide (X2.out.next b3)
  have Y3 := hide (Y2.out.next b3)
  clear HQ b3 K2 X2 Y2 c2 d2 c3 d3 c4 d4
  have c5 := (X3.out.2 5 _ rfl).1
  have d5 := (Y3.out.2 5 _ rfl).1
  have HQ := hide (eqIntS_gen (x.us) u5 t5 B C _ (h5.stays K3.out hB) (j5.stays K3.out hC) (Nat.le_trans hB K3.out.size) (Nat.le_trans hC K3.out.size))
  go_wp2_with fail
  refine HQ.out.mono ?_
  rintro e w4 ⟨rfl, b4⟩
  have K4 := hide (K3.out.trans (b4.mono K3.out.size))
  have X4 := hide (X3.out.next b4)
  have Y4 := hide (Y3.out.next b4)
  clear HQ b4 K3 X3 Y3 c5 d5
  go_wp2
  go_ret
  exact ⟨rfl, K4.out⟩
end Go.Proofs.Ytcgljeagjchobaa
