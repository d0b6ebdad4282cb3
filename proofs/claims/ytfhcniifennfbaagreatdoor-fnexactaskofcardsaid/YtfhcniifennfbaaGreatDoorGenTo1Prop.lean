/-
  What is asked is small.
  A help of the laws, by program (tools/gen_help.py): Szz of String.
  A help of the laws, by program (tools/gen_help.py): Sz1 of Prop.
  A help of the laws, by program (tools/gen_help.py): Szz of Prop.
  A help of the laws, by program (tools/gen_help.py): Sz1 of Res.
  A help of the laws, by program (tools/gen_help.py): Szz of Res.
  A help of the laws, by program (tools/gen_help.py): Sz1 of Lock.
  A help of the laws, by program (tools/gen_help.py): Szz of Lock.
  A help of the laws, by program (tools/gen_help.py): Szz of Int.
  A help of the laws, by program (tools/gen_help.py): Sz1 of Srv.
  A help of the laws, by program (tools/gen_help.py): Too of String.
  A help of the laws, by program (tools/gen_help.py): To1 of Prop.
-/
import Derived.Test.YtfhcniifennfbaaGreatDoorSpecAskT
import Derived.Test.YtfhcniifennfbaaGreatDoorRows
import Derived.Test.YtfhcniifennfbaaGreatDoorMathMark2
import Derived.WalkKit
import Derived.WalkSpells
import Derived.WalkLawsBesides
import Derived.Deep.Light
import Derived.Deep.QuietTactic
import Derived.Deep.RegionHeld3
import Derived.Test.YtfhcniifennfbaaGreatDoorSvIn
import Derived.Test.YtfhcniifennfbaaGreatDoorGenLock
namespace Go.Proofs.YtfhcniifennfbaaGreatDoor
open Go.RowKit M
set_option linter.unusedVariables false

theorem cnt_flatA {α : Type} (d : α → List Lf) (hd : ∀ x, cntR (d x) = 1) (l : List α) : cntRs (l.map d) = l.length := by
  induction l with
  | nil => rfl
  | cons x r ih => rw [List.map_cons, cntRs, ih, hd, List.length_cons]; omega
theorem ask_cnt (x : Sv) (r : Rq) : cntRs ((askL x r).pa.map dS) ≤ 12582912 ∧ cntRs ((askL x r).to.map dS) ≤ 12582912 ∧ cntRs ((askL x r).tk.map dI) ≤ 12582912 := by
  rw [cnt_flatA dS (fun _ => rfl), cnt_flatA dS (fun _ => rfl), cnt_flatA dI (fun _ => rfl)]
  refine ⟨?_, ?_, ?_⟩
  · have := (pth_path (l := r.p.data.toList)).1
    show (pthV r).1.length ≤ _
    unfold pthV
    omega
  · have := (toL_small r).1
    show (toL r).length ≤ _
    omega
  · have := tk_few r
    show (if formI r = 0 then tkL r else []).length ≤ _
    split
    · omega
    · exact Nat.zero_le _
end Go.Proofs.YtfhcniifennfbaaGreatDoor
namespace Go.Proofs.YtfhcniifennfbaaGreatDoor
open Go.RowKit M
set_option linter.unusedVariables false

set_option maxRecDepth 100000 in
set_option maxHeartbeats 4000000 in
theorem szStringS_gen (l : List ByteArray) (v : Value) (left B : Nat) (w : World) (h : View w B v (.l (l.map dS))) (hB : B ≤ w.heap.size) (hok : okF (.l (l.map dS))) (hleft : left ≤ 1048576) :
    Calls Tryz.prog 77 #[v, .int .i64 left] w fun e w' => (∃ z : Int, e = .returned (.int .i64 z) ∧ (z < 0 ∨ ∃ m : Nat, z = m ∧ szRs (l.map dS) + m = left)) ∧ Below w.heap.size w w' := by
  obtain ⟨a, cap, rfl, hl, hm, _, hat⟩ := h.rows 1 (fun _ => rfl)
  have hl2 : l.length ≤ maxLen := Nat.le_trans hl hm
  unfold maxLen at hl2
  by_cases hlt0 : left < l.length
  · go_enter Tryz.func77, Tryz.ntmps77
    go_wp2
    go_ret
    exact ⟨⟨_, rfl, .inl (by omega)⟩, Below.refl _ _⟩
  · have HAT := hide hat
    have HOK := hide hok.1
    clear h hat hok
    go_enter Tryz.func77, Tryz.ntmps77
    go_wp2
    go_loopw [1, 5] (fun lv i wr => ∃ k m : Nat, k ≤ l.length ∧ i = .int .i64 k ∧ lv = .int .i64 m ∧ Hid (szRs ((l.take k).map dS) + (l.length - k) + m = left) ∧ Below w.heap.size w wr) (fun _ i _ => l.length - (intOf i).toNat)
    case atStart => exact ⟨0, left - l.length, Nat.zero_le _, rfl, by congr 1; omega, (by show _ = _; simp [szRs]; omega), Below.refl _ _⟩
    case round =>
      obtain ⟨k, m, hk, rfl, rfl, HM, hbe⟩ := hrel
      by_cases hlt : k < l.length
      · obtain ⟨b, o, C, rfl, hb, hc⟩ := HAT.out (by omega)
        have hck := hc k hlt
        have HS2 := hide (szAtF_next dS l k hlt)
        have hbw : b < w.heap.size := Nat.lt_of_lt_of_le hb hB
        have hm1 : m ≤ 1048576 := by have := HM.out; omega
        have hokx := (okRs_mem _ HOK.out _ (List.mem_map_of_mem (f := dS) (List.getElem_mem hlt))).1
        obtain ⟨x, hx⟩ : ∃ x, l[k] = x := ⟨_, rfl⟩
        rw [hx] at hck HS2 hokx
        clear hx hc
        have c0 : wr.cell? ⟨b, o + k, none⟩ = some (.string x) := by
          obtain ⟨c, v⟩ := hck 0 (.c (.string x)) rfl
          rw [v.inv] at c
          simp only [Nat.mul_one, Nat.add_zero] at c
          exact (hbe.cell (p := ⟨b, o + k, none⟩) hbw).trans c
        clear hck
        have s0 : x.size ≤ maxLen := okR_mem hokx (.c (.string x)) (by simp [dS])
        unfold maxLen at s0
        by_cases q : m < x.size
        · go_wp2
          go_ret
          exact ⟨⟨_, rfl, .inl (by omega)⟩, hbe⟩
        · go_wp2
          go_roundw
          case rel => exact ⟨k + 1, m - x.size, by omega, by go_num, by first | go_num | (congr 1; omega), (by show _ = _; rw [HS2.out]; have := HM.out; simp only [dS, szR, szF, szV]; omega), hbe⟩
          case measure => simp [intOf]; omega
      · have HM2 := HM.out
        rw [List.take_of_length_le (by omega)] at HM2
        have HM3 := hide HM2
        clear HM2
        go_wp2
        go_ret
        exact ⟨⟨m, rfl, .inr ⟨m, rfl, by have := HM3.out; omega⟩⟩, hbe⟩
end Go.Proofs.YtfhcniifennfbaaGreatDoor
namespace Go.Proofs.YtfhcniifennfbaaGreatDoor
open Go.RowKit M
set_option linter.unusedVariables false

set_option maxRecDepth 100000 in
set_option maxHeartbeats 4000000 in
theorem szProp_gen (x : Pp) (left B : Nat) (w : World) (hB : B ≤ w.heap.size) (hok : okR (dPp x)) (hleft : left ≤ 1048576) :
    Calls Tryz.prog 112 #[.agg #[.string x.1, .string x.2.1, .string x.2.2], .int .i64 left] w fun e w' => (∃ z : Int, e = .returned (.int .i64 z) ∧ (z < 0 ∨ ∃ m : Nat, z = m ∧ szR (dPp x) + m = left)) ∧ Below w.heap.size w w' := by
  have K0 := hide (show Below w.heap.size w (w.alloc (Obj.cells #[.string x.1, .string x.2.1, .string x.2.2] 149)) from (Below.refl _ _).alloc (Nat.le_refl _) _)
  have X0 := hide (BoxV.made w [.string x.1, .string x.2.1, .string x.2.2] 149)
  have hsum : szR (dPp x) = (x.1).size + (x.2.1).size + (x.2.2).size := by simp [dPp, szR, szF, szV]; try omega
  have HS := hide hsum
  clear hsum
  have s0 : (x.1).size ≤ maxLen := okR_mem hok (.c (.string (x.1))) (by simp [dPp])
  have s1 : (x.2.1).size ≤ maxLen := okR_mem hok (.c (.string (x.2.1))) (by simp [dPp])
  have s2 : (x.2.2).size ≤ maxLen := okR_mem hok (.c (.string (x.2.2))) (by simp [dPp])
  unfold maxLen at s0 s1 s2
  clear hok
  go_enter Tryz.func112, Tryz.ntmps112
  by_cases q0 : left < (x.1).size
  · go_wp2
    go_ret
    exact ⟨⟨_, rfl, .inl (by omega)⟩, K0.out⟩
  obtain ⟨m0, hm0⟩ : ∃ m : Nat, (x.1).size + m = left := ⟨left - (x.1).size, by omega⟩
  have e0 : (left : Int) - ((x.1).size : Int) = (m0 : Int) := by omega
  have hn0 : m0 ≤ 1048576 := by omega
  have E0 := hide hm0
  clear hm0 q0
  by_cases q1 : m0 < (x.2.1).size
  · go_wp2
    go_ret
    exact ⟨⟨_, rfl, .inl (by omega)⟩, K0.out⟩
  obtain ⟨m1, hm1⟩ : ∃ m : Nat, (x.2.1).size + m = m0 := ⟨m0 - (x.2.1).size, by omega⟩
  have e1 : (m0 : Int) - ((x.2.1).size : Int) = (m1 : Int) := by omega
  have hn1 : m1 ≤ 1048576 := by omega
  have E1 := hide hm1
  clear hm1 q1
  by_cases q2 : m1 < (x.2.2).size
  · go_wp2
    go_ret
    exact ⟨⟨_, rfl, .inl (by omega)⟩, K0.out⟩
  obtain ⟨m2, hm2⟩ : ∃ m : Nat, (x.2.2).size + m = m1 := ⟨m1 - (x.2.2).size, by omega⟩
  have e2 : (m1 : Int) - ((x.2.2).size : Int) = (m2 : Int) := by omega
  have hn2 : m2 ≤ 1048576 := by omega
  have E2 := hide hm2
  clear hm2 q2
  go_wp2
  go_ret
  exact ⟨⟨_, rfl, .inr ⟨m2, rfl, by rw [HS.out]; have := E0.out; have := E1.out; have := E2.out; omega⟩⟩, K0.out⟩
end Go.Proofs.YtfhcniifennfbaaGreatDoor
namespace Go.Proofs.YtfhcniifennfbaaGreatDoor
open Go.RowKit M
set_option linter.unusedVariables false

set_option maxRecDepth 100000 in
set_option maxHeartbeats 4000000 in
theorem szPropS_gen (l : List Pp) (v : Value) (left B : Nat) (w : World) (h : View w B v (.l (l.map dPp))) (hB : B ≤ w.heap.size) (hok : okF (.l (l.map dPp))) (hleft : left ≤ 1048576) :
    Calls Tryz.prog 78 #[v, .int .i64 left] w fun e w' => (∃ z : Int, e = .returned (.int .i64 z) ∧ (z < 0 ∨ ∃ m : Nat, z = m ∧ szRs (l.map dPp) + m = left)) ∧ Below w.heap.size w w' := by
  obtain ⟨a, cap, rfl, hl, hm, _, hat⟩ := h.rows 3 (fun _ => rfl)
  have hl2 : l.length ≤ maxLen := Nat.le_trans hl hm
  unfold maxLen at hl2
  by_cases hlt0 : left < l.length
  · go_enter Tryz.func78, Tryz.ntmps78
    go_wp2
    go_ret
    exact ⟨⟨_, rfl, .inl (by omega)⟩, Below.refl _ _⟩
  · have HAT := hide hat
    have HOK := hide hok.1
    clear h hat hok
    go_enter Tryz.func78, Tryz.ntmps78
    go_wp2
    go_loopw [1, 5] (fun lv i wr => ∃ k m : Nat, k ≤ l.length ∧ i = .int .i64 k ∧ lv = .int .i64 m ∧ Hid (szRs ((l.take k).map dPp) + (l.length - k) + m = left) ∧ Below w.heap.size w wr) (fun _ i _ => l.length - (intOf i).toNat)
    case atStart => exact ⟨0, left - l.length, Nat.zero_le _, rfl, by congr 1; omega, (by show _ = _; simp [szRs]; omega), Below.refl _ _⟩
    case round =>
      obtain ⟨k, m, hk, rfl, rfl, HM, hbe⟩ := hrel
      by_cases hlt : k < l.length
      · obtain ⟨b, o, C, rfl, hb, hc⟩ := HAT.out (by omega)
        have hck := hc k hlt
        have HS2 := hide (szAtF_next dPp l k hlt)
        have hbw : b < w.heap.size := Nat.lt_of_lt_of_le hb hB
        have hm1 : m ≤ 1048576 := by have := HM.out; omega
        have hokx := (okRs_mem _ HOK.out _ (List.mem_map_of_mem (f := dPp) (List.getElem_mem hlt))).1
        obtain ⟨x, hx⟩ : ∃ x, l[k] = x := ⟨_, rfl⟩
        rw [hx] at hck HS2 hokx
        clear hx hc
        have c0 : wr.cell? ⟨b, o + k * 3, none⟩ = some (.string x.1) := by
          obtain ⟨c, v⟩ := hck 0 (.c (.string x.1)) rfl
          rw [v.inv] at c
          simp only [Nat.add_zero] at c
          exact (hbe.cell (p := ⟨b, o + k * 3, none⟩) hbw).trans c
        have c1 : wr.cell? ⟨b, o + k * 3 + 1, none⟩ = some (.string x.2.1) := by
          obtain ⟨c, v⟩ := hck 1 (.c (.string x.2.1)) rfl
          rw [v.inv] at c
          exact (hbe.cell (p := ⟨b, o + k * 3 + 1, none⟩) hbw).trans c
        have c2 : wr.cell? ⟨b, o + k * 3 + 2, none⟩ = some (.string x.2.2) := by
          obtain ⟨c, v⟩ := hck 2 (.c (.string x.2.2)) rfl
          rw [v.inv] at c
          exact (hbe.cell (p := ⟨b, o + k * 3 + 2, none⟩) hbw).trans c
        clear hck
        have HC := hide (szProp_gen x m B wr (Nat.le_trans hB hbe.size) hokx hm1)
        clear hokx
        go_wp2_with fail
        refine HC.out.mono ?_
        rintro e w1 ⟨⟨z, rfl, hz⟩, hb1⟩
        have c9 := hbe.trans (hb1.mono hbe.size)
        rcases hz with hz | ⟨m', rfl, hm'⟩
        · go_wp2
          go_ret
          exact ⟨⟨_, rfl, .inl (by omega)⟩, c9⟩
        · have HM' := hide hm'
          clear hm'
          go_wp2
          go_roundw
          case rel => exact ⟨k + 1, m', by omega, by go_num, rfl, (by show _ = _; rw [HS2.out]; have := HM.out; have := HM'.out; omega), c9⟩
          case measure => simp [intOf]; omega
      · have HM2 := HM.out
        rw [List.take_of_length_le (by omega)] at HM2
        have HM3 := hide HM2
        clear HM2
        go_wp2
        go_ret
        exact ⟨⟨m, rfl, .inr ⟨m, rfl, by have := HM3.out; omega⟩⟩, hbe⟩
end Go.Proofs.YtfhcniifennfbaaGreatDoor
namespace Go.Proofs.YtfhcniifennfbaaGreatDoor
open Go.RowKit M
set_option linter.unusedVariables false

set_option maxRecDepth 100000 in
set_option maxHeartbeats 4000000 in
theorem szRes_gen (x : Rs) (u0 u4 : Value) (left B : Nat) (w : World) (h0 : View w B u0 (.l (x.pa.map dS))) (h4 : View w B u4 (.l (x.ps.map dPp))) (hB : B ≤ w.heap.size) (hok : okR (dRs x)) (hleft : left ≤ 1048576) :
    Calls Tryz.prog 44 #[.agg #[u0, .bool x.co, .string x.bo, .int .i64 x.ve, u4], .int .i64 left] w fun e w' => (∃ z : Int, e = .returned (.int .i64 z) ∧ (z < 0 ∨ ∃ m : Nat, z = m ∧ szR (dRs x) + m = left)) ∧ Below w.heap.size w w' := by
  have K0 := hide (show Below w.heap.size w (w.alloc (Obj.cells #[u0, .bool x.co, .string x.bo, .int .i64 x.ve, u4] 82)) from (Below.refl _ _).alloc (Nat.le_refl _) _)
  have X0 := hide (BoxV.made w [u0, .bool x.co, .string x.bo, .int .i64 x.ve, u4] 82)
  have hsum : szR (dRs x) = szRs (x.pa.map dS) + (x.bo).size + szRs (x.ps.map dPp) := by simp [dRs, szR, szF, szV]; try omega
  have HS := hide hsum
  clear hsum
  have s0 : okF (.l (x.pa.map dS)) := okR_mem hok _ (by simp [dRs])
  have s2 : (x.bo).size ≤ maxLen := okR_mem hok (.c (.string (x.bo))) (by simp [dRs])
  have s4 : okF (.l (x.ps.map dPp)) := okR_mem hok _ (by simp [dRs])
  unfold maxLen at s2
  have S0 := hide s0
  clear s0
  have S4 := hide s4
  clear s4
  clear hok
  go_enter Tryz.func44, Tryz.ntmps44
  have HQ := hide (szStringS_gen (x.pa) u0 left B _ (h0.stays K0.out hB) (Nat.le_trans hB K0.out.size) S0.out hleft)
  go_wp2_with fail
  refine HQ.out.mono ?_
  rintro e w1 ⟨⟨z, rfl, hz⟩, b1⟩
  have K1 := hide (K0.out.trans (b1.mono K0.out.size))
  have X1 := hide (X0.out.next b1)
  clear HQ b1 K0 X0
  rcases hz with hz | ⟨m0, rfl, hm0⟩
  · go_wp2
    go_ret
    exact ⟨⟨_, rfl, .inl (by omega)⟩, K1.out⟩
  have hn0 : m0 ≤ 1048576 := by omega
  have E0 := hide hm0
  clear hm0
  have c2 := (X1.out.2 2 _ rfl).1
  by_cases q2 : m0 < (x.bo).size
  · go_wp2
    go_ret
    exact ⟨⟨_, rfl, .inl (by omega)⟩, K1.out⟩
  obtain ⟨m2, hm2⟩ : ∃ m : Nat, (x.bo).size + m = m0 := ⟨m0 - (x.bo).size, by omega⟩
  have e2 : (m0 : Int) - ((x.bo).size : Int) = (m2 : Int) := by omega
  have hn2 : m2 ≤ 1048576 := by omega
  have E2 := hide hm2
  clear hm2 q2
  have c4 := (X1.out.2 4 _ rfl).1
  have HQ := hide (szPropS_gen (x.ps) u4 m2 B _ (h4.stays K1.out hB) (Nat.le_trans hB K1.out.size) S4.out hn2)
  go_wp2_with fail
  refine HQ.out.mono ?_
  rintro e w2 ⟨⟨z, rfl, hz⟩, b2⟩
  have K2 := hide (K1.out.trans (b2.mono K1.out.size))
  have X2 := hide (X1.out.next b2)
  clear HQ b2 K1 X1 c4
  rcases hz with hz | ⟨m4, rfl, hm4⟩
  · go_wp2
    go_ret
    exact ⟨⟨_, rfl, .inl (by omega)⟩, K2.out⟩
  have hn4 : m4 ≤ 1048576 := by omega
  have E4 := hide hm4
  clear hm4
  go_wp2
  go_ret
  exact ⟨⟨_, rfl, .inr ⟨m4, rfl, by rw [HS.out]; have := E0.out; have := E2.out; have := E4.out; omega⟩⟩, K2.out⟩
end Go.Proofs.YtfhcniifennfbaaGreatDoor
namespace Go.Proofs.YtfhcniifennfbaaGreatDoor
open Go.RowKit M
set_option linter.unusedVariables false

set_option maxRecDepth 100000 in
set_option maxHeartbeats 4000000 in
theorem szResS_gen (l : List Rs) (v : Value) (left B : Nat) (w : World) (h : View w B v (.l (l.map dRs))) (hB : B ≤ w.heap.size) (hok : okF (.l (l.map dRs))) (hleft : left ≤ 1048576) :
    Calls Tryz.prog 17 #[v, .int .i64 left] w fun e w' => (∃ z : Int, e = .returned (.int .i64 z) ∧ (z < 0 ∨ ∃ m : Nat, z = m ∧ szRs (l.map dRs) + m = left)) ∧ Below w.heap.size w w' := by
  obtain ⟨a, cap, rfl, hl, hm, _, hat⟩ := h.rows 5 (fun _ => rfl)
  have hl2 : l.length ≤ maxLen := Nat.le_trans hl hm
  unfold maxLen at hl2
  by_cases hlt0 : left < l.length
  · go_enter Tryz.func17, Tryz.ntmps17
    go_wp2
    go_ret
    exact ⟨⟨_, rfl, .inl (by omega)⟩, Below.refl _ _⟩
  · have HAT := hide hat
    have HOK := hide hok.1
    clear h hat hok
    go_enter Tryz.func17, Tryz.ntmps17
    go_wp2
    go_loopw [1, 5] (fun lv i wr => ∃ k m : Nat, k ≤ l.length ∧ i = .int .i64 k ∧ lv = .int .i64 m ∧ Hid (szRs ((l.take k).map dRs) + (l.length - k) + m = left) ∧ Below w.heap.size w wr) (fun _ i _ => l.length - (intOf i).toNat)
    case atStart => exact ⟨0, left - l.length, Nat.zero_le _, rfl, by congr 1; omega, (by show _ = _; simp [szRs]; omega), Below.refl _ _⟩
    case round =>
      obtain ⟨k, m, hk, rfl, rfl, HM, hbe⟩ := hrel
      by_cases hlt : k < l.length
      · obtain ⟨b, o, C, rfl, hb, hc⟩ := HAT.out (by omega)
        have hck := hc k hlt
        have HS2 := hide (szAtF_next dRs l k hlt)
        have hbw : b < w.heap.size := Nat.lt_of_lt_of_le hb hB
        have hm1 : m ≤ 1048576 := by have := HM.out; omega
        have hokx := (okRs_mem _ HOK.out _ (List.mem_map_of_mem (f := dRs) (List.getElem_mem hlt))).1
        obtain ⟨x, hx⟩ : ∃ x, l[k] = x := ⟨_, rfl⟩
        rw [hx] at hck HS2 hokx
        clear hx hc
        obtain ⟨c0, v0⟩ := hck 0 (.l (x.pa.map dS)) rfl
        simp only [Nat.add_zero] at c0
        have c0 := (hbe.cell (p := ⟨b, o + k * 5, none⟩) hbw).trans c0
        have c1 : wr.cell? ⟨b, o + k * 5 + 1, none⟩ = some (.bool x.co) := by
          obtain ⟨c, v⟩ := hck 1 (.c (.bool x.co)) rfl
          rw [v.inv] at c
          exact (hbe.cell (p := ⟨b, o + k * 5 + 1, none⟩) hbw).trans c
        have c2 : wr.cell? ⟨b, o + k * 5 + 2, none⟩ = some (.string x.bo) := by
          obtain ⟨c, v⟩ := hck 2 (.c (.string x.bo)) rfl
          rw [v.inv] at c
          exact (hbe.cell (p := ⟨b, o + k * 5 + 2, none⟩) hbw).trans c
        have c3 : wr.cell? ⟨b, o + k * 5 + 3, none⟩ = some (.int .i64 x.ve) := by
          obtain ⟨c, v⟩ := hck 3 (.c (.int .i64 x.ve)) rfl
          rw [v.inv] at c
          exact (hbe.cell (p := ⟨b, o + k * 5 + 3, none⟩) hbw).trans c
        obtain ⟨c4, v4⟩ := hck 4 (.l (x.ps.map dPp)) rfl
        have c4 := (hbe.cell (p := ⟨b, o + k * 5 + 4, none⟩) hbw).trans c4
        clear hck
        have HC := hide (szRes_gen x (C k 0) (C k 4) m B wr (v0.stays hbe hB) (v4.stays hbe hB) (Nat.le_trans hB hbe.size) hokx hm1)
        clear hokx v0 v4
        go_wp2_with fail
        refine HC.out.mono ?_
        rintro e w1 ⟨⟨z, rfl, hz⟩, hb1⟩
        have c9 := hbe.trans (hb1.mono hbe.size)
        rcases hz with hz | ⟨m', rfl, hm'⟩
        · go_wp2
          go_ret
          exact ⟨⟨_, rfl, .inl (by omega)⟩, c9⟩
        · have HM' := hide hm'
          clear hm'
          go_wp2
          go_roundw
          case rel => exact ⟨k + 1, m', by omega, by go_num, rfl, (by show _ = _; rw [HS2.out]; have := HM.out; have := HM'.out; omega), c9⟩
          case measure => simp [intOf]; omega
      · have HM2 := HM.out
        rw [List.take_of_length_le (by omega)] at HM2
        have HM3 := hide HM2
        clear HM2
        go_wp2
        go_ret
        exact ⟨⟨m, rfl, .inr ⟨m, rfl, by have := HM3.out; omega⟩⟩, hbe⟩
end Go.Proofs.YtfhcniifennfbaaGreatDoor
namespace Go.Proofs.YtfhcniifennfbaaGreatDoor
open Go.RowKit M
set_option linter.unusedVariables false

set_option maxRecDepth 100000 in
set_option maxHeartbeats 4000000 in
theorem szLock_gen (x : Lk) (u1 : Value) (left B : Nat) (w : World) (h1 : View w B u1 (.l (x.pa.map dS))) (hB : B ≤ w.heap.size) (hok : okR (dLk x)) (hleft : left ≤ 1048576) :
    Calls Tryz.prog 45 #[.agg #[.int .i64 x.tk, u1, .bool x.de, .bool x.sh, .int .i64 x.un], .int .i64 left] w fun e w' => (∃ z : Int, e = .returned (.int .i64 z) ∧ (z < 0 ∨ ∃ m : Nat, z = m ∧ szR (dLk x) + m = left)) ∧ Below w.heap.size w w' := by
  have K0 := hide (show Below w.heap.size w (w.alloc (Obj.cells #[.int .i64 x.tk, u1, .bool x.de, .bool x.sh, .int .i64 x.un] 85)) from (Below.refl _ _).alloc (Nat.le_refl _) _)
  have X0 := hide (BoxV.made w [.int .i64 x.tk, u1, .bool x.de, .bool x.sh, .int .i64 x.un] 85)
  have hsum : szR (dLk x) = szRs (x.pa.map dS) := by simp [dLk, szR, szF, szV]
  have HS := hide hsum
  clear hsum
  have s1 : okF (.l (x.pa.map dS)) := okR_mem hok _ (by simp [dLk])
  have S1 := hide s1
  clear s1
  clear hok
  go_enter Tryz.func45, Tryz.ntmps45
  have HQ := hide (szStringS_gen (x.pa) u1 left B _ (h1.stays K0.out hB) (Nat.le_trans hB K0.out.size) S1.out hleft)
  go_wp2_with fail
  refine HQ.out.mono ?_
  rintro e w1 ⟨⟨z, rfl, hz⟩, b1⟩
  have K1 := hide (K0.out.trans (b1.mono K0.out.size))
  have X1 := hide (X0.out.next b1)
  clear HQ b1 K0 X0
  rcases hz with hz | ⟨m1, rfl, hm1⟩
  · go_wp2
    go_ret
    exact ⟨⟨_, rfl, .inl (by omega)⟩, K1.out⟩
  have hn1 : m1 ≤ 1048576 := by omega
  have E1 := hide hm1
  clear hm1
  go_wp2
  go_ret
  exact ⟨⟨_, rfl, .inr ⟨m1, rfl, by rw [HS.out]; have := E1.out; omega⟩⟩, K1.out⟩
end Go.Proofs.YtfhcniifennfbaaGreatDoor
namespace Go.Proofs.YtfhcniifennfbaaGreatDoor
open Go.RowKit M
set_option linter.unusedVariables false

set_option maxRecDepth 100000 in
set_option maxHeartbeats 4000000 in
theorem szLockS_gen (l : List Lk) (v : Value) (left B : Nat) (w : World) (h : View w B v (.l (l.map dLk))) (hB : B ≤ w.heap.size) (hok : okF (.l (l.map dLk))) (hleft : left ≤ 1048576) :
    Calls Tryz.prog 18 #[v, .int .i64 left] w fun e w' => (∃ z : Int, e = .returned (.int .i64 z) ∧ (z < 0 ∨ ∃ m : Nat, z = m ∧ szRs (l.map dLk) + m = left)) ∧ Below w.heap.size w w' := by
  obtain ⟨a, cap, rfl, hl, hm, _, hat⟩ := h.rows 5 (fun _ => rfl)
  have hl2 : l.length ≤ maxLen := Nat.le_trans hl hm
  unfold maxLen at hl2
  by_cases hlt0 : left < l.length
  · go_enter Tryz.func18, Tryz.ntmps18
    go_wp2
    go_ret
    exact ⟨⟨_, rfl, .inl (by omega)⟩, Below.refl _ _⟩
  · have HAT := hide hat
    have HOK := hide hok.1
    clear h hat hok
    go_enter Tryz.func18, Tryz.ntmps18
    go_wp2
    go_loopw [1, 5] (fun lv i wr => ∃ k m : Nat, k ≤ l.length ∧ i = .int .i64 k ∧ lv = .int .i64 m ∧ Hid (szRs ((l.take k).map dLk) + (l.length - k) + m = left) ∧ Below w.heap.size w wr) (fun _ i _ => l.length - (intOf i).toNat)
    case atStart => exact ⟨0, left - l.length, Nat.zero_le _, rfl, by congr 1; omega, (by show _ = _; simp [szRs]; omega), Below.refl _ _⟩
    case round =>
      obtain ⟨k, m, hk, rfl, rfl, HM, hbe⟩ := hrel
      by_cases hlt : k < l.length
      · obtain ⟨b, o, C, rfl, hb, hc⟩ := HAT.out (by omega)
        have hck := hc k hlt
        have HS2 := hide (szAtF_next dLk l k hlt)
        have hbw : b < w.heap.size := Nat.lt_of_lt_of_le hb hB
        have hm1 : m ≤ 1048576 := by have := HM.out; omega
        have hokx := (okRs_mem _ HOK.out _ (List.mem_map_of_mem (f := dLk) (List.getElem_mem hlt))).1
        obtain ⟨x, hx⟩ : ∃ x, l[k] = x := ⟨_, rfl⟩
        rw [hx] at hck HS2 hokx
        clear hx hc
        have c0 : wr.cell? ⟨b, o + k * 5, none⟩ = some (.int .i64 x.tk) := by
          obtain ⟨c, v⟩ := hck 0 (.c (.int .i64 x.tk)) rfl
          rw [v.inv] at c
          simp only [Nat.add_zero] at c
          exact (hbe.cell (p := ⟨b, o + k * 5, none⟩) hbw).trans c
        obtain ⟨c1, v1⟩ := hck 1 (.l (x.pa.map dS)) rfl
        have c1 := (hbe.cell (p := ⟨b, o + k * 5 + 1, none⟩) hbw).trans c1
        have c2 : wr.cell? ⟨b, o + k * 5 + 2, none⟩ = some (.bool x.de) := by
          obtain ⟨c, v⟩ := hck 2 (.c (.bool x.de)) rfl
          rw [v.inv] at c
          exact (hbe.cell (p := ⟨b, o + k * 5 + 2, none⟩) hbw).trans c
        have c3 : wr.cell? ⟨b, o + k * 5 + 3, none⟩ = some (.bool x.sh) := by
          obtain ⟨c, v⟩ := hck 3 (.c (.bool x.sh)) rfl
          rw [v.inv] at c
          exact (hbe.cell (p := ⟨b, o + k * 5 + 3, none⟩) hbw).trans c
        have c4 : wr.cell? ⟨b, o + k * 5 + 4, none⟩ = some (.int .i64 x.un) := by
          obtain ⟨c, v⟩ := hck 4 (.c (.int .i64 x.un)) rfl
          rw [v.inv] at c
          exact (hbe.cell (p := ⟨b, o + k * 5 + 4, none⟩) hbw).trans c
        clear hck
        have HC := hide (szLock_gen x (C k 1) m B wr (v1.stays hbe hB) (Nat.le_trans hB hbe.size) hokx hm1)
        clear hokx v1
        go_wp2_with fail
        refine HC.out.mono ?_
        rintro e w1 ⟨⟨z, rfl, hz⟩, hb1⟩
        have c9 := hbe.trans (hb1.mono hbe.size)
        rcases hz with hz | ⟨m', rfl, hm'⟩
        · go_wp2
          go_ret
          exact ⟨⟨_, rfl, .inl (by omega)⟩, c9⟩
        · have HM' := hide hm'
          clear hm'
          go_wp2
          go_roundw
          case rel => exact ⟨k + 1, m', by omega, by go_num, rfl, (by show _ = _; rw [HS2.out]; have := HM.out; have := HM'.out; omega), c9⟩
          case measure => simp [intOf]; omega
      · have HM2 := HM.out
        rw [List.take_of_length_le (by omega)] at HM2
        have HM3 := hide HM2
        clear HM2
        go_wp2
        go_ret
        exact ⟨⟨m, rfl, .inr ⟨m, rfl, by have := HM3.out; omega⟩⟩, hbe⟩
end Go.Proofs.YtfhcniifennfbaaGreatDoor
namespace Go.Proofs.YtfhcniifennfbaaGreatDoor
open Go.RowKit M
set_option linter.unusedVariables false

set_option maxRecDepth 100000 in
set_option maxHeartbeats 4000000 in
theorem szIntS_gen (l : List Int) (v : Value) (left B : Nat) (w : World) (h : View w B v (.l (l.map dI))) (hB : B ≤ w.heap.size) (hok : okF (.l (l.map dI))) (hleft : left ≤ 1048576) :
    Calls Tryz.prog 19 #[v, .int .i64 left] w fun e w' => (∃ z : Int, e = .returned (.int .i64 z) ∧ (z < 0 ∨ ∃ m : Nat, z = m ∧ szRs (l.map dI) + m = left)) ∧ Below w.heap.size w w' := by
  obtain ⟨a, cap, rfl, hl, hm, _, hat⟩ := h.rows 1 (fun _ => rfl)
  have hl2 : l.length ≤ maxLen := Nat.le_trans hl hm
  unfold maxLen at hl2
  by_cases hlt0 : left < l.length
  · go_enter Tryz.func19, Tryz.ntmps19
    go_wp2
    go_ret
    exact ⟨⟨_, rfl, .inl (by omega)⟩, Below.refl _ _⟩
  · have hs := szRs_flat dI (fun _ => by simp [dI, szR, szF, szV]) l
    go_enter Tryz.func19, Tryz.ntmps19
    go_wp2
    go_ret
    exact ⟨⟨_, rfl, .inr ⟨left - l.length, by omega, by omega⟩⟩, Below.refl _ _⟩
end Go.Proofs.YtfhcniifennfbaaGreatDoor
namespace Go.Proofs.YtfhcniifennfbaaGreatDoor
open Go.RowKit M
set_option linter.unusedVariables false

set_option maxRecDepth 100000 in
set_option maxHeartbeats 4000000 in
theorem szSrv_gen (x : Sv) (u0 u1 u4 u5 : Value) (left B : Nat) (w : World) (h0 : View w B u0 (.l (x.t.map dRs))) (h1 : View w B u1 (.l (x.l.map dLk))) (h4 : View w B u4 (.l (x.dr.map dI))) (h5 : View w B u5 (.l (x.us.map dI))) (hB : B ≤ w.heap.size) (hok : okR (dSv x)) (hleft : left ≤ 1048576) :
    Calls Tryz.prog 4 #[.agg #[u0, u1, .int .i64 x.now, .int .i64 x.ver, u4, u5], .int .i64 left] w fun e w' => (∃ z : Int, e = .returned (.int .i64 z) ∧ (z < 0 ∨ ∃ m : Nat, z = m ∧ szR (dSv x) + m = left)) ∧ Below w.heap.size w w' := by
  have K0 := hide (show Below w.heap.size w (w.alloc (Obj.cells #[u0, u1, .int .i64 x.now, .int .i64 x.ver, u4, u5] 26)) from (Below.refl _ _).alloc (Nat.le_refl _) _)
  have X0 := hide (BoxV.made w [u0, u1, .int .i64 x.now, .int .i64 x.ver, u4, u5] 26)
  have hsum : szR (dSv x) = szRs (x.t.map dRs) + szRs (x.l.map dLk) + szRs (x.dr.map dI) + szRs (x.us.map dI) := by simp [dSv, szR, szF, szV]; try omega
  have HS := hide hsum
  clear hsum
  have s0 : okF (.l (x.t.map dRs)) := okR_mem hok _ (by simp [dSv])
  have s1 : okF (.l (x.l.map dLk)) := okR_mem hok _ (by simp [dSv])
  have s4 : okF (.l (x.dr.map dI)) := okR_mem hok _ (by simp [dSv])
  have s5 : okF (.l (x.us.map dI)) := okR_mem hok _ (by simp [dSv])
  have S0 := hide s0
  clear s0
  have S1 := hide s1
  clear s1
  have S4 := hide s4
  clear s4
  have S5 := hide s5
  clear s5
  clear hok
  go_enter Tryz.func4, Tryz.ntmps4
  have HQ := hide (szResS_gen (x.t) u0 left B _ (h0.stays K0.out hB) (Nat.le_trans hB K0.out.size) S0.out hleft)
  go_wp2_with fail
  refine HQ.out.mono ?_
  rintro e w1 ⟨⟨z, rfl, hz⟩, b1⟩
  have K1 := hide (K0.out.trans (b1.mono K0.out.size))
  have X1 := hide (X0.out.next b1)
  clear HQ b1 K0 X0
  rcases hz with hz | ⟨m0, rfl, hm0⟩
  · go_wp2
    go_ret
    exact ⟨⟨_, rfl, .inl (by omega)⟩, K1.out⟩
  have hn0 : m0 ≤ 1048576 := by omega
  have E0 := hide hm0
  clear hm0
  have c1 := (X1.out.2 1 _ rfl).1
  have HQ := hide (szLockS_gen (x.l) u1 m0 B _ (h1.stays K1.out hB) (Nat.le_trans hB K1.out.size) S1.out hn0)
  go_wp2_with fail
  refine HQ.out.mono ?_
  rintro e w2 ⟨⟨z, rfl, hz⟩, b2⟩
  have K2 := hide (K1.out.trans (b2.mono K1.out.size))
  have X2 := hide (X1.out.next b2)
  clear HQ b2 K1 X1 c1
  rcases hz with hz | ⟨m1, rfl, hm1⟩
  · go_wp2
    go_ret
    exact ⟨⟨_, rfl, .inl (by omega)⟩, K2.out⟩
  have hn1 : m1 ≤ 1048576 := by omega
  have E1 := hide hm1
  clear hm1
  have c4 := (X2.out.2 4 _ rfl).1
  have HQ := hide (szIntS_gen (x.dr) u4 m1 B _ (h4.stays K2.out hB) (Nat.le_trans hB K2.out.size) S4.out hn1)
  go_wp2_with fail
  refine HQ.out.mono ?_
  rintro e w3 ⟨⟨z, rfl, hz⟩, b3⟩
  have K3 := hide (K2.out.trans (b3.mono K2.out.size))
  have X3 := hide (X2.out.next b3)
  clear HQ b3 K2 X2 c4
  rcases hz with hz | ⟨m4, rfl, hm4⟩
  · go_wp2
    go_ret
    exact ⟨⟨_, rfl, .inl (by omega)⟩, K3.out⟩
  have hn4 : m4 ≤ 1048576 := by omega
  have E4 := hide hm4
  clear hm4
  have c5 := (X3.out.2 5 _ rfl).1
  have HQ := hide (szIntS_gen (x.us) u5 m4 B _ (h5.stays K3.out hB) (Nat.le_trans hB K3.out.size) S5.out hn4)
  go_wp2_with fail
  refine HQ.out.mono ?_
  rintro e w4 ⟨⟨z, rfl, hz⟩, b4⟩
  have K4 := hide (K3.out.trans (b4.mono K3.out.size))
  have X4 := hide (X3.out.next b4)
  clear HQ b4 K3 X3 c5
  rcases hz with hz | ⟨m5, rfl, hm5⟩
  · go_wp2
    go_ret
    exact ⟨⟨_, rfl, .inl (by omega)⟩, K4.out⟩
  have hn5 : m5 ≤ 1048576 := by omega
  have E5 := hide hm5
  clear hm5
  go_wp2
  go_ret
  exact ⟨⟨_, rfl, .inr ⟨m5, rfl, by rw [HS.out]; have := E0.out; have := E1.out; have := E4.out; have := E5.out; omega⟩⟩, K4.out⟩
end Go.Proofs.YtfhcniifennfbaaGreatDoor
namespace Go.Proofs.YtfhcniifennfbaaGreatDoor
open Go.RowKit M
set_option linter.unusedVariables false

theorem infoString_gen : (Tryz.prog.info? 9).map (fun i => (i.zero, i.size, i.bytes)) = some (some (.string ByteArray.empty), 1, 16) := by kernel_rfl
theorem makeStringS_gen (n : Nat) (hn : n ≤ 1048577) (w : World) :
    (Instr.makeSlice 32 (.int .i64 (n : Int)) (.int .i64 (n : Int))).run Tryz.prog w = .ok (.slice (some ⟨w.heap.size, 0, none⟩) n n) (w.alloc (.cells (madeCells #[.string ByteArray.empty] (n * 1)) 9)) := by
  obtain ⟨i, hi, hz, hs, hb⟩ := info_parts infoString_gen
  have hr := run_make (P := Tryz.prog) w 32 9 i _ Tryz.underlying32 hi hz .i64 .i64 n n (by omega) (Int.le_refl _) (by rw [hb]; omega) (by omega)
  simp only [Int.toNat_natCast, hs] at hr
  exact hr

set_option maxRecDepth 100000 in
set_option maxHeartbeats 4000000 in
theorem toStringS_gen (l : List ByteArray) (v : Value) (B : Nat) (w : World) (h : View w B v (.l (l.map dS))) (hB : B ≤ w.heap.size) (hsz : szRs (l.map dS) ≤ 1048576) :
    Calls Tryz.prog 92 #[v] w fun e w' => (∃ p : Nat, e = .returned (.slice (some ⟨p, 0, none⟩) l.length l.length) ∧ Own w' (.slice (some ⟨p, 0, none⟩) l.length l.length) (.l (l.map dS)) (IvG w.heap.size w'.heap.size)) ∧ Below w.heap.size w w' := by
  obtain ⟨a, cap, rfl, hl, hm, _, hat⟩ := h.rows 1 (fun _ => rfl)
  have hn : l.length ≤ 1048576 := by have := szRs_len (l.map dS); rw [List.length_map] at this; omega
  have HAT := hide hat
  have HSZ := hide hsz
  have hmk := makeStringS_gen l.length (by omega) w
  have hm0 := MadeG.start w #[.string ByteArray.empty] l.length 1 9 (rowsF dS l)
  simp only [Nat.mul_one] at hm0
  have HM0 := hide hm0
  clear hm0
  clear h hat hsz
  go_enter Tryz.func92, Tryz.ntmps92
  go_wp2
  clear hmk
  go_loopw [4] (fun i wr => ∃ k : Nat, k ≤ l.length ∧ i = .int .i64 k ∧ Hid (MadeG wr w.heap.size 1 l.length (rowsF dS l) k) ∧ Below w.heap.size w wr) (fun i _ => l.length - (intOf i).toNat)
  case atStart => exact ⟨0, Nat.zero_le _, rfl, HM0, (Below.refl _ _).alloc (Nat.le_refl _) _⟩
  case round =>
    obtain ⟨k, hk, rfl, HR, hbe⟩ := hrel
    by_cases hlt : k < l.length
    · obtain ⟨b, o, C, rfl, hb, hc⟩ := HAT.out (by omega)
      have hck := hc k hlt
      have hbw : b < w.heap.size := Nat.lt_of_lt_of_le hb hB
      have hsx := szRs_mem _ _ (List.mem_map_of_mem (f := dS) (List.getElem_mem hlt))
      have hrk := rowsF_at (f := dS) l k hlt
      obtain ⟨x, hx⟩ : ∃ x, l[k] = x := ⟨_, rfl⟩
      rw [hx] at hck hsx hrk
      clear hx hc
      have c0 : wr.cell? ⟨b, o + k, none⟩ = some (.string x) := by
        obtain ⟨c, v⟩ := hck 0 (.c (.string x)) rfl
        rw [v.inv] at c
        simp only [Nat.mul_one, Nat.add_zero] at c
        exact (hbe.cell (p := ⟨b, o + k, none⟩) hbw).trans c
      clear hck
      obtain ⟨u, hu, fu⟩ := HR.out.cell hlt 0 (by decide)
      simp only [Nat.mul_one, Nat.add_zero] at hu fu
      have HR2 := HR.out.next (Below.refl _ wr) hlt [.string x] rfl (fun _ _ => False) (fun i y hy => by
        rw [hrk] at hy
        match i with
        | 0 => cases hy; exact ⟨_, rfl, .c _ _⟩
        | i + 1 => cases hy) (fun _ _ h => h.elim) (fun _ _ _ _ h => h.elim)
      simp only [Nat.mul_one] at HR2
      have HR3 := hide HR2
      clear HR2 HR
      go_wp2
      go_roundw
      case rel => exact ⟨k + 1, by omega, by go_num, HR3, hbe.setCell (Nat.le_refl _) _⟩
      case measure => simp [intOf]; omega
    · have hk2 : k = l.length := by omega
      subst hk2
      have HO := hide (HR.out.done (rows := l.map dS) (by rw [List.length_map]) (by unfold maxLen; omega) (fun r hr => by obtain ⟨x, _, rfl⟩ := List.mem_map.1 hr; rfl) (fun j hj => by rw [rowsF_at l j (by simpa using hj)]; simp))
      go_wp2
      go_ret
      exact ⟨⟨_, rfl, HO.out⟩, hbe⟩
end Go.Proofs.YtfhcniifennfbaaGreatDoor
namespace Go.Proofs.YtfhcniifennfbaaGreatDoor
open Go.RowKit M
set_option linter.unusedVariables false

set_option maxRecDepth 100000 in
set_option maxHeartbeats 4000000 in
theorem toProp_gen (x : Pp) (B : Nat) (w : World) (hB : B ≤ w.heap.size) (hsz : szR (dPp x) ≤ 1048576) :
    Calls Tryz.prog 123 #[.agg #[.string x.1, .string x.2.1, .string x.2.2]] w fun e w' => e = .returned (.agg #[.string x.1, .string x.2.1, .string x.2.2]) ∧ Below w.heap.size w w' := by
  go_enter Tryz.func123, Tryz.ntmps123
  go_wp2
  refine bodyPost_ret (v := .agg #[.string x.1, .string x.2.1, .string x.2.2]) (by simp [results, Tryz.results123, go_sem]) rfl ⟨rfl, ?_⟩
  repeat' refine Below.setCell ?_ (by simp; try omega) _
  exact (((Below.refl _ _).alloc (Nat.le_refl _) _).alloc (by simp) _).alloc (by simp; omega) _
end Go.Proofs.YtfhcniifennfbaaGreatDoor
