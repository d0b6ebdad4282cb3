/-
  A help of the laws, by program (tools/gen_help.py): Too of Prop.
  A help of the laws, by program (tools/gen_help.py): To1 of Res.
  A help of the laws, by program (tools/gen_help.py): Too of Res.
  A help of the laws, by program (tools/gen_help.py): To1 of Lock.
  A help of the laws, by program (tools/gen_help.py): Too of Lock.
  A help of the laws, by program (tools/gen_help.py): Too of Int.
  A help of the laws, by program (tools/gen_help.py): To1 of Srv.
  A help of the laws, by program (tools/gen_help.py): Eqq of String.
  A help of the laws, by program (tools/gen_help.py): Eq1 of Prop.
  A help of the laws, by program (tools/gen_help.py): Eqq of Prop.
  A help of the laws, by program (tools/gen_help.py): Eq1 of Res.
  A help of the laws, by program (tools/gen_help.py): Eqq of Res.
-/
import Derived.Test.YtfhcniifennfbaaGreatDoorRows
import Derived.Test.YtfhcniifennfbaaGreatDoorMathMark2
import Derived.Test.YtfhcniifennfbaaGreatDoorSvIn
import Derived.Test.YtfhcniifennfbaaGreatDoorGenTo1Prop
import Derived.WalkKit
import Derived.WalkSpells
import Derived.WalkLawsBesides
import Derived.Deep.Light
import Derived.Deep.QuietTactic
import Derived.Deep.RegionHeld3
import Derived.Test.YtfhcniifennfbaaGreatDoorGenLock
namespace Go.Proofs.YtfhcniifennfbaaGreatDoor
open Go.RowKit M
set_option linter.unusedVariables false

theorem infoProp_gen : (Tryz.prog.info? 147).map (fun i => (i.zero, i.size, i.bytes)) = some (some (.agg #[.string ByteArray.empty, .string ByteArray.empty, .string ByteArray.empty]), 3, 48) := by kernel_rfl
theorem makePropS_gen (n : Nat) (hn : n ≤ 1048577) (w : World) :
    (Instr.makeSlice 106 (.int .i64 (n : Int)) (.int .i64 (n : Int))).run Tryz.prog w = .ok (.slice (some ⟨w.heap.size, 0, none⟩) n n) (w.alloc (.cells (madeCells #[.string ByteArray.empty, .string ByteArray.empty, .string ByteArray.empty] (n * 3)) 147)) := by
  obtain ⟨i, hi, hz, hs, hb⟩ := info_parts infoProp_gen
  have hr := run_make (P := Tryz.prog) w 106 147 i _ Tryz.underlying106 hi hz .i64 .i64 n n (by omega) (Int.le_refl _) (by rw [hb]; omega) (by omega)
  simp only [Int.toNat_natCast, hs] at hr
  exact hr

set_option maxRecDepth 100000 in
set_option maxHeartbeats 4000000 in
theorem toPropS_gen (l : List Pp) (v : Value) (B : Nat) (w : World) (h : View w B v (.l (l.map dPp))) (hB : B ≤ w.heap.size) (hsz : szRs (l.map dPp) ≤ 1048576) :
    Calls Tryz.prog 93 #[v] w fun e w' => (∃ p : Nat, e = .returned (.slice (some ⟨p, 0, none⟩) l.length l.length) ∧ Own w' (.slice (some ⟨p, 0, none⟩) l.length l.length) (.l (l.map dPp)) (IvG w.heap.size w'.heap.size)) ∧ Below w.heap.size w w' := by
  obtain ⟨a, cap, rfl, hl, hm, _, hat⟩ := h.rows 3 (fun _ => rfl)
  have hn : l.length ≤ 1048576 := by have := szRs_len (l.map dPp); rw [List.length_map] at this; omega
  have HAT := hide hat
  have HSZ := hide hsz
  have hmk := makePropS_gen l.length (by omega) w
  have hm0 := MadeG.start w #[.string ByteArray.empty, .string ByteArray.empty, .string ByteArray.empty] l.length 3 147 (rowsF dPp l)
  have HM0 := hide hm0
  clear hm0
  clear h hat hsz
  go_enter Tryz.func93, Tryz.ntmps93
  go_wp2
  clear hmk
  go_loopw [4] (fun i wr => ∃ k : Nat, k ≤ l.length ∧ i = .int .i64 k ∧ Hid (MadeG wr w.heap.size 3 l.length (rowsF dPp l) k) ∧ Below w.heap.size w wr) (fun i _ => l.length - (intOf i).toNat)
  case atStart => exact ⟨0, Nat.zero_le _, rfl, HM0, (Below.refl _ _).alloc (Nat.le_refl _) _⟩
  case round =>
    obtain ⟨k, hk, rfl, HR, hbe⟩ := hrel
    by_cases hlt : k < l.length
    · obtain ⟨b, o, C, rfl, hb, hc⟩ := HAT.out (by omega)
      have hck := hc k hlt
      have hbw : b < w.heap.size := Nat.lt_of_lt_of_le hb hB
      have hsx := szRs_mem _ _ (List.mem_map_of_mem (f := dPp) (List.getElem_mem hlt))
      have hrk := rowsF_at (f := dPp) l k hlt
      obtain ⟨x, hx⟩ : ∃ x, l[k] = x := ⟨_, rfl⟩
      rw [hx] at hck hsx hrk
      clear hx hc
      have c0 : wr.cell? ⟨b, o + k * 3, none⟩ = some (.string x.1) := by
        obtain ⟨c, v⟩ := hck 0 (.c (.string x.1)) rfl
        rw [v.inv] at c
        simp only [Nat.add_zero] at c
        exact (hbe.cell (p := ⟨b, o + k * 3, none⟩) hbw).trans c
      have c1 : wr.cell? ⟨b, o + k * 3 + 1, none⟩ = some (.string x.2.1) := by
        obtain ⟨c, v⟩ := hck 1 (.c (.string x.2.1)) rfl
        rw [v.inv] at c
        exact (hbe.cell (p := ⟨b, o + k * 3 + 1, none⟩) hbw).trans c
      have c2 : wr.cell? ⟨b, o + k * 3 + 2, none⟩ = some (.string x.2.2) := by
        obtain ⟨c, v⟩ := hck 2 (.c (.string x.2.2)) rfl
        rw [v.inv] at c
        exact (hbe.cell (p := ⟨b, o + k * 3 + 2, none⟩) hbw).trans c
      clear hck
      have HC := hide (toProp_gen x B wr (Nat.le_trans hB hbe.size) (by have := HSZ.out; omega))
      go_wp2_with fail
      refine HC.out.mono ?_
      rintro e w1 ⟨rfl, b1⟩
      have HR2 := HR.out.next b1 hlt [.string x.1, .string x.2.1, .string x.2.2] rfl (fun i y => False) (fun i y hy => by
        rw [hrk] at hy
        match i with
        | 0 => cases hy; exact ⟨_, rfl, .c _ _⟩
        | 1 => cases hy; exact ⟨_, rfl, .c _ _⟩
        | 2 => cases hy; exact ⟨_, rfl, .c _ _⟩
        | i + 3 => cases hy) (fun i y hy => by exact hy.elim) (fun i i' y hne hy hy' => by exact hy.elim)
      have hm1 := HR.out.next0 b1
      obtain ⟨e0, d0, f0⟩ := hm1.cell hlt 0 (by decide)
      simp only [Nat.add_zero] at d0 f0
      obtain ⟨e1, d1, f1⟩ := hm1.cell hlt 1 (by decide)
      obtain ⟨e2, d2, f2⟩ := hm1.cell hlt 2 (by decide)
      have HR3 := hide HR2
      have c9 := hbe.trans (b1.mono hbe.size)
      clear HR2 HR hm1 HC
      go_wp2
      go_roundw
      case rel => exact ⟨k + 1, by omega, by go_num, HR3, (((c9.setCell (Nat.le_refl _) _).setCell (Nat.le_refl _) _).setCell (Nat.le_refl _) _)⟩
      case measure => simp [intOf]; omega
    · have hk2 : k = l.length := by omega
      subst hk2
      have HO := hide (HR.out.done (rows := l.map dPp) (by rw [List.length_map]) (by unfold maxLen; omega) (fun r hr => by obtain ⟨x, _, rfl⟩ := List.mem_map.1 hr; rfl) (fun j hj => by rw [rowsF_at l j (by simpa using hj)]; simp))
      go_wp2
      go_ret
      exact ⟨⟨_, rfl, HO.out⟩, hbe⟩
end Go.Proofs.YtfhcniifennfbaaGreatDoor
namespace Go.Proofs.YtfhcniifennfbaaGreatDoor
open Go.RowKit M
set_option linter.unusedVariables false

set_option maxRecDepth 100000 in
set_option maxHeartbeats 4000000 in
theorem toRes_gen (x : Rs) (u0 u4 : Value) (B : Nat) (w : World) (h0 : View w B u0 (.l (x.pa.map dS))) (h4 : View w B u4 (.l (x.ps.map dPp))) (hB : B ≤ w.heap.size) (hsz : szR (dRs x) ≤ 1048576) :
    Calls Tryz.prog 61 #[.agg #[u0, .bool x.co, .string x.bo, .int .i64 x.ve, u4]] w fun e w' => (∃ (p0 p4 n0 n4 : Nat), e = .returned (.agg #[.slice (some ⟨p0, 0, none⟩) (x.pa).length (x.pa).length, .bool x.co, .string x.bo, .int .i64 x.ve, .slice (some ⟨p4, 0, none⟩) (x.ps).length (x.ps).length]) ∧ Own w' (.slice (some ⟨p0, 0, none⟩) (x.pa).length (x.pa).length) (.l (x.pa.map dS)) (IvG w.heap.size n0) ∧ w.heap.size ≤ n0 ∧ Own w' (.slice (some ⟨p4, 0, none⟩) (x.ps).length (x.ps).length) (.l (x.ps.map dPp)) (IvG n0 n4) ∧ n0 ≤ n4 ∧ n4 ≤ w'.heap.size) ∧ Below w.heap.size w w' := by
  have hsum : szR (dRs x) = szRs (x.pa.map dS) + (x.bo).size + szRs (x.ps.map dPp) := by simp [dRs, szR, szF, szV]; try omega
  rw [hsum] at hsz
  clear hsum
  have K0 := hide (show Below w.heap.size w (((w.alloc (Obj.cells #[u0, .bool x.co, .string x.bo, .int .i64 x.ve, u4] 82)).alloc (Obj.cells #[.slice none 0 0, .bool false, .string { data := #[] }, .int .i64 0, .slice none 0 0] 108)).alloc (Obj.cells #[.slice none 0 0, .bool false, .string { data := #[] }, .int .i64 0, .slice none 0 0] 108)) from (((Below.refl _ _).alloc (Nat.le_refl _) _).alloc (by simp) _).alloc (by simp; omega) _)
  have X0 := hide (show BoxV (((w.alloc (Obj.cells #[u0, .bool x.co, .string x.bo, .int .i64 x.ve, u4] 82)).alloc (Obj.cells #[.slice none 0 0, .bool false, .string { data := #[] }, .int .i64 0, .slice none 0 0] 108)).alloc (Obj.cells #[.slice none 0 0, .bool false, .string { data := #[] }, .int .i64 0, .slice none 0 0] 108)) w.heap.size [u0, .bool x.co, .string x.bo, .int .i64 x.ve, u4] from ((BoxV.made w [u0, .bool x.co, .string x.bo, .int .i64 x.ve, u4] 82).alloc _).alloc _)
  have Y0 := hide (show BoxV (((w.alloc (Obj.cells #[u0, .bool x.co, .string x.bo, .int .i64 x.ve, u4] 82)).alloc (Obj.cells #[.slice none 0 0, .bool false, .string { data := #[] }, .int .i64 0, .slice none 0 0] 108)).alloc (Obj.cells #[.slice none 0 0, .bool false, .string { data := #[] }, .int .i64 0, .slice none 0 0] 108)) (w.heap.size + 1) [.slice none 0 0, .bool false, .string { data := #[] }, .int .i64 0, .slice none 0 0] by have h := (BoxV.made (w.alloc (Obj.cells #[u0, .bool x.co, .string x.bo, .int .i64 x.ve, u4] 82)) [.slice none 0 0, .bool false, .string { data := #[] }, .int .i64 0, .slice none 0 0] 108).alloc (Obj.cells #[.slice none 0 0, .bool false, .string { data := #[] }, .int .i64 0, .slice none 0 0] 108); simpa using h)
  have Z0 := hide (show BoxV (((w.alloc (Obj.cells #[u0, .bool x.co, .string x.bo, .int .i64 x.ve, u4] 82)).alloc (Obj.cells #[.slice none 0 0, .bool false, .string { data := #[] }, .int .i64 0, .slice none 0 0] 108)).alloc (Obj.cells #[.slice none 0 0, .bool false, .string { data := #[] }, .int .i64 0, .slice none 0 0] 108)) (w.heap.size + 1 + 1) [.slice none 0 0, .bool false, .string { data := #[] }, .int .i64 0, .slice none 0 0] by have h := BoxV.made ((w.alloc (Obj.cells #[u0, .bool x.co, .string x.bo, .int .i64 x.ve, u4] 82)).alloc (Obj.cells #[.slice none 0 0, .bool false, .string { data := #[] }, .int .i64 0, .slice none 0 0] 108)) [.slice none 0 0, .bool false, .string { data := #[] }, .int .i64 0, .slice none 0 0] 108; simpa using h)
  go_enter Tryz.func61, Tryz.ntmps61
  have HQ := hide (toStringS_gen (x.pa) u0 B _ (h0.stays K0.out hB) (Nat.le_trans hB K0.out.size) (by omega))
  go_wp2_with fail
  refine HQ.out.mono ?_
  rintro e w1 ⟨⟨p0, rfl, o0⟩, b1⟩
  have k1 := K0.out.trans (b1.mono K0.out.size)
  have x1 := X0.out.next b1
  have y1 := Y0.out.next b1
  have z1 := Z0.out.next b1
  have P0 := hide (o0.up (l' := w.heap.size + 1 + 1 + 1) (u' := w1.heap.size) (by simp) (Nat.le_refl _))
  have zs1 : w.heap.size + 1 + 1 < w1.heap.size := z1.1
  have zl1 : w.heap.size + 1 + 1 + 1 ≤ w1.heap.size := by omega
  have n0 := hide (show w.heap.size ≤ w1.heap.size by have := b1.size; simp at this; omega)
  obtain ⟨d0, f0⟩ := z1.2 0 _ rfl
  obtain ⟨d1, f1⟩ := z1.2 1 _ rfl
  have c1 := (x1.2 1 _ rfl).1
  obtain ⟨d2, f2⟩ := z1.2 2 _ rfl
  have c2 := (x1.2 2 _ rfl).1
  obtain ⟨d3, f3⟩ := z1.2 3 _ rfl
  have c3 := (x1.2 3 _ rfl).1
  have K1 := hide ((((k1.setCell (p := ⟨w.heap.size + 1 + 1, 0, none⟩) (by show w.heap.size ≤ w.heap.size + 1 + 1; omega) (.slice (some ⟨p0, 0, none⟩) (x.pa).length (x.pa).length)).setCell (p := ⟨w.heap.size + 1 + 1, 1, none⟩) (by show w.heap.size ≤ w.heap.size + 1 + 1; omega) (.bool x.co)).setCell (p := ⟨w.heap.size + 1 + 1, 2, none⟩) (by show w.heap.size ≤ w.heap.size + 1 + 1; omega) (.string x.bo)).setCell (p := ⟨w.heap.size + 1 + 1, 3, none⟩) (by show w.heap.size ≤ w.heap.size + 1 + 1; omega) (.int .i64 x.ve))
  have X1 := hide ((((x1.other ⟨w.heap.size + 1 + 1, 0, none⟩ (.slice (some ⟨p0, 0, none⟩) (x.pa).length (x.pa).length) (by show w.heap.size + 1 + 1 ≠ w.heap.size; omega)).other ⟨w.heap.size + 1 + 1, 1, none⟩ (.bool x.co) (by show w.heap.size + 1 + 1 ≠ w.heap.size; omega)).other ⟨w.heap.size + 1 + 1, 2, none⟩ (.string x.bo) (by show w.heap.size + 1 + 1 ≠ w.heap.size; omega)).other ⟨w.heap.size + 1 + 1, 3, none⟩ (.int .i64 x.ve) (by show w.heap.size + 1 + 1 ≠ w.heap.size; omega))
  have Y1 := hide ((((y1.other ⟨w.heap.size + 1 + 1, 0, none⟩ (.slice (some ⟨p0, 0, none⟩) (x.pa).length (x.pa).length) (by show w.heap.size + 1 + 1 ≠ w.heap.size + 1; omega)).other ⟨w.heap.size + 1 + 1, 1, none⟩ (.bool x.co) (by show w.heap.size + 1 + 1 ≠ w.heap.size + 1; omega)).other ⟨w.heap.size + 1 + 1, 2, none⟩ (.string x.bo) (by show w.heap.size + 1 + 1 ≠ w.heap.size + 1; omega)).other ⟨w.heap.size + 1 + 1, 3, none⟩ (.int .i64 x.ve) (by show w.heap.size + 1 + 1 ≠ w.heap.size + 1; omega))
  have Z1 := hide (show BoxV ((((w1.setCell ⟨w.heap.size + 1 + 1, 0, none⟩ (.slice (some ⟨p0, 0, none⟩) (x.pa).length (x.pa).length)).setCell ⟨w.heap.size + 1 + 1, 1, none⟩ (.bool x.co)).setCell ⟨w.heap.size + 1 + 1, 2, none⟩ (.string x.bo)).setCell ⟨w.heap.size + 1 + 1, 3, none⟩ (.int .i64 x.ve)) (w.heap.size + 1 + 1) [.slice (some ⟨p0, 0, none⟩) (x.pa).length (x.pa).length, .bool x.co, .string x.bo, .int .i64 x.ve, .slice none 0 0] from ((((z1.set 0 (by simp) (.slice (some ⟨p0, 0, none⟩) (x.pa).length (x.pa).length)).set 1 (by simp) (.bool x.co)).set 2 (by simp) (.string x.bo)).set 3 (by simp) (.int .i64 x.ve)))
  have P0 := hide ((((P0.out.setCell ⟨w.heap.size + 1 + 1, 0, none⟩ (.slice (some ⟨p0, 0, none⟩) (x.pa).length (x.pa).length) (fun e => by have h1 := e.1; dsimp only at h1; omega)).setCell ⟨w.heap.size + 1 + 1, 1, none⟩ (.bool x.co) (fun e => by have h1 := e.1; dsimp only at h1; omega)).setCell ⟨w.heap.size + 1 + 1, 2, none⟩ (.string x.bo) (fun e => by have h1 := e.1; dsimp only at h1; omega)).setCell ⟨w.heap.size + 1 + 1, 3, none⟩ (.int .i64 x.ve) (fun e => by have h1 := e.1; dsimp only at h1; omega))
  clear k1 x1 y1 z1 o0 b1 HQ K0 X0 Y0 Z0
  have c4 := (X1.out.2 4 _ rfl).1
  have HQ := hide (toPropS_gen (x.ps) u4 B _ (h4.stays K1.out hB) (Nat.le_trans hB K1.out.size) (by omega))
  go_wp2_with fail
  refine HQ.out.mono ?_
  rintro e w2 ⟨⟨p4, rfl, o4⟩, b2⟩
  have k2 := K1.out.trans (b2.mono K1.out.size)
  have x2 := X1.out.next b2
  have y2 := Y1.out.next b2
  have z2 := Z1.out.next b2
  have P4 := hide (o4.up (l' := w1.heap.size) (u' := w2.heap.size) (by simp) (Nat.le_refl _))
  have P0 := hide (P0.out.next b2)
  have zs2 : w.heap.size + 1 + 1 < w2.heap.size := z2.1
  have n4 := hide (show w1.heap.size ≤ w2.heap.size by have := b2.size; simp at this; omega)
  obtain ⟨d4, f4⟩ := z2.2 4 _ rfl
  obtain ⟨r0, g0⟩ := y2.2 0 _ rfl
  obtain ⟨r1, g1⟩ := y2.2 1 _ rfl
  obtain ⟨r2, g2⟩ := y2.2 2 _ rfl
  obtain ⟨r3, g3⟩ := y2.2 3 _ rfl
  obtain ⟨r4, g4⟩ := y2.2 4 _ rfl
  obtain ⟨d0, f0⟩ := z2.2 0 _ rfl
  obtain ⟨d1, f1⟩ := z2.2 1 _ rfl
  obtain ⟨d2, f2⟩ := z2.2 2 _ rfl
  obtain ⟨d3, f3⟩ := z2.2 3 _ rfl
  have KE := hide k2
  clear k2 x2 y2 z2 o4 b2 HQ K1 X1 Y1 Z1
  go_wp2
  refine bodyPost_ret (v := .agg #[.slice (some ⟨p0, 0, none⟩) (x.pa).length (x.pa).length, .bool x.co, .string x.bo, .int .i64 x.ve, .slice (some ⟨p4, 0, none⟩) (x.ps).length (x.ps).length]) (by simp [results, Tryz.results61, go_sem, r0, r1, r2, r3, r4]) rfl ⟨⟨p0, p4, w1.heap.size, w2.heap.size, rfl, ?_, n0.out, ?_, n4.out, ?_⟩, ?_⟩
  · refine Own.up (l := w.heap.size + 1 + 1 + 1) ?_ (by omega) (Nat.le_refl _)
    repeat' refine Own.setCell ?_ _ _ (fun e => by have h1 := e.1; dsimp only at h1; omega)
    exact P0.out
  · repeat' refine Own.setCell ?_ _ _ (fun e => by have h1 := e.1; dsimp only at h1; omega)
    exact P4.out
  · simp
  · repeat' refine Below.setCell ?_ (by simp; try omega) _
    exact KE.out
end Go.Proofs.YtfhcniifennfbaaGreatDoor
namespace Go.Proofs.YtfhcniifennfbaaGreatDoor
open Go.RowKit M
set_option linter.unusedVariables false

theorem infoRes_gen : (Tryz.prog.info? 108).map (fun i => (i.zero, i.size, i.bytes)) = some (some (.agg #[.slice none 0 0, .bool false, .string ByteArray.empty, .int .i64 0, .slice none 0 0]), 5, 80) := by kernel_rfl
theorem makeResS_gen (n : Nat) (hn : n ≤ 1048577) (w : World) :
    (Instr.makeSlice 36 (.int .i64 (n : Int)) (.int .i64 (n : Int))).run Tryz.prog w = .ok (.slice (some ⟨w.heap.size, 0, none⟩) n n) (w.alloc (.cells (madeCells #[.slice none 0 0, .bool false, .string ByteArray.empty, .int .i64 0, .slice none 0 0] (n * 5)) 108)) := by
  obtain ⟨i, hi, hz, hs, hb⟩ := info_parts infoRes_gen
  have hr := run_make (P := Tryz.prog) w 36 108 i _ Tryz.underlying36 hi hz .i64 .i64 n n (by omega) (Int.le_refl _) (by rw [hb]; omega) (by omega)
  simp only [Int.toNat_natCast, hs] at hr
  exact hr

set_option maxRecDepth 100000 in
set_option maxHeartbeats 4000000 in
theorem toResS_gen (l : List Rs) (v : Value) (B : Nat) (w : World) (h : View w B v (.l (l.map dRs))) (hB : B ≤ w.heap.size) (hsz : szRs (l.map dRs) ≤ 1048576) :
    Calls Tryz.prog 26 #[v] w fun e w' => (∃ p : Nat, e = .returned (.slice (some ⟨p, 0, none⟩) l.length l.length) ∧ Own w' (.slice (some ⟨p, 0, none⟩) l.length l.length) (.l (l.map dRs)) (IvG w.heap.size w'.heap.size)) ∧ Below w.heap.size w w' := by
  obtain ⟨a, cap, rfl, hl, hm, _, hat⟩ := h.rows 5 (fun _ => rfl)
  have hn : l.length ≤ 1048576 := by have := szRs_len (l.map dRs); rw [List.length_map] at this; omega
  have HAT := hide hat
  have HSZ := hide hsz
  have hmk := makeResS_gen l.length (by omega) w
  have hm0 := MadeG.start w #[.slice none 0 0, .bool false, .string ByteArray.empty, .int .i64 0, .slice none 0 0] l.length 5 108 (rowsF dRs l)
  have HM0 := hide hm0
  clear hm0
  clear h hat hsz
  go_enter Tryz.func26, Tryz.ntmps26
  go_wp2
  clear hmk
  go_loopw [4] (fun i wr => ∃ k : Nat, k ≤ l.length ∧ i = .int .i64 k ∧ Hid (MadeG wr w.heap.size 5 l.length (rowsF dRs l) k) ∧ Below w.heap.size w wr) (fun i _ => l.length - (intOf i).toNat)
  case atStart => exact ⟨0, Nat.zero_le _, rfl, HM0, (Below.refl _ _).alloc (Nat.le_refl _) _⟩
  case round =>
    obtain ⟨k, hk, rfl, HR, hbe⟩ := hrel
    by_cases hlt : k < l.length
    · obtain ⟨b, o, C, rfl, hb, hc⟩ := HAT.out (by omega)
      have hck := hc k hlt
      have hbw : b < w.heap.size := Nat.lt_of_lt_of_le hb hB
      have hsx := szRs_mem _ _ (List.mem_map_of_mem (f := dRs) (List.getElem_mem hlt))
      have hrk := rowsF_at (f := dRs) l k hlt
      obtain ⟨x, hx⟩ : ∃ x, l[k] = x := ⟨_, rfl⟩
      rw [hx] at hck hsx hrk
      clear hx hc
      obtain ⟨c0, v0⟩ := hck 0 (.l (x.pa.map dS)) rfl
      simp only [Nat.add_zero] at c0
      have c0 := (hbe.cell (p := ⟨b, o + k * 5, none⟩) hbw).trans c0
      have c1 : wr.cell? ⟨b, o + k * 5 + 1, none⟩ = some (.bool x.co) := by
        obtain ⟨c, v⟩ := hck 1 (.c (.bool x.co)) rfl
        rw [v.inv] at c
        exact (hbe.cell (p := ⟨b, o + k * 5 + 1, none⟩) hbw).trans c
      have c2 : wr.cell? ⟨b, o + k * 5 + 2, none⟩ = some (.string x.bo) := by
        obtain ⟨c, v⟩ := hck 2 (.c (.string x.bo)) rfl
        rw [v.inv] at c
        exact (hbe.cell (p := ⟨b, o + k * 5 + 2, none⟩) hbw).trans c
      have c3 : wr.cell? ⟨b, o + k * 5 + 3, none⟩ = some (.int .i64 x.ve) := by
        obtain ⟨c, v⟩ := hck 3 (.c (.int .i64 x.ve)) rfl
        rw [v.inv] at c
        exact (hbe.cell (p := ⟨b, o + k * 5 + 3, none⟩) hbw).trans c
      obtain ⟨c4, v4⟩ := hck 4 (.l (x.ps.map dPp)) rfl
      have c4 := (hbe.cell (p := ⟨b, o + k * 5 + 4, none⟩) hbw).trans c4
      clear hck
      have HC := hide (toRes_gen x (C k 0) (C k 4) B wr (v0.stays hbe hB) (v4.stays hbe hB) (Nat.le_trans hB hbe.size) (by have := HSZ.out; omega))
      clear v0 v4
      go_wp2_with fail
      refine HC.out.mono ?_
      rintro e w1 ⟨⟨p0, p4, n0, n4, rfl, o0, s0, o4, s4, hlast⟩, b1⟩
      have HR2 := HR.out.next b1 hlt [.slice (some ⟨p0, 0, none⟩) (x.pa).length (x.pa).length, .bool x.co, .string x.bo, .int .i64 x.ve, .slice (some ⟨p4, 0, none⟩) (x.ps).length (x.ps).length] rfl (fun i y => (i = 0 ∧ IvG wr.heap.size n0 y) ∨ (i = 4 ∧ IvG n0 n4 y)) (fun i y hy => by
        rw [hrk] at hy
        match i with
        | 0 => cases hy; exact ⟨_, rfl, o0.wide (fun y hy => .inl ⟨rfl, hy⟩)⟩
        | 1 => cases hy; exact ⟨_, rfl, .c _ _⟩
        | 2 => cases hy; exact ⟨_, rfl, .c _ _⟩
        | 3 => cases hy; exact ⟨_, rfl, .c _ _⟩
        | 4 => cases hy; exact ⟨_, rfl, o4.wide (fun y hy => .inr (⟨rfl, hy⟩))⟩
        | i + 5 => cases hy) (fun i y hy => by unfold IvG at hy; omega) (fun i i' y hne hy hy' => by unfold IvG at hy hy'; omega)
      have hm1 := HR.out.next0 b1
      obtain ⟨e0, d0, f0⟩ := hm1.cell hlt 0 (by decide)
      simp only [Nat.add_zero] at d0 f0
      obtain ⟨e1, d1, f1⟩ := hm1.cell hlt 1 (by decide)
      obtain ⟨e2, d2, f2⟩ := hm1.cell hlt 2 (by decide)
      obtain ⟨e3, d3, f3⟩ := hm1.cell hlt 3 (by decide)
      obtain ⟨e4, d4, f4⟩ := hm1.cell hlt 4 (by decide)
      have HR3 := hide HR2
      have c9 := hbe.trans (b1.mono hbe.size)
      clear HR2 HR hm1 HC o0 s0 o4 s4
      go_wp2
      go_roundw
      case rel => exact ⟨k + 1, by omega, by go_num, HR3, (((((c9.setCell (Nat.le_refl _) _).setCell (Nat.le_refl _) _).setCell (Nat.le_refl _) _).setCell (Nat.le_refl _) _).setCell (Nat.le_refl _) _)⟩
      case measure => simp [intOf]; omega
    · have hk2 : k = l.length := by omega
      subst hk2
      have HO := hide (HR.out.done (rows := l.map dRs) (by rw [List.length_map]) (by unfold maxLen; omega) (fun r hr => by obtain ⟨x, _, rfl⟩ := List.mem_map.1 hr; rfl) (fun j hj => by rw [rowsF_at l j (by simpa using hj)]; simp))
      go_wp2
      go_ret
      exact ⟨⟨_, rfl, HO.out⟩, hbe⟩
end Go.Proofs.YtfhcniifennfbaaGreatDoor
namespace Go.Proofs.YtfhcniifennfbaaGreatDoor
open Go.RowKit M
set_option linter.unusedVariables false

set_option maxRecDepth 100000 in
set_option maxHeartbeats 4000000 in
theorem toLock_gen (x : Lk) (u1 : Value) (B : Nat) (w : World) (h1 : View w B u1 (.l (x.pa.map dS))) (hB : B ≤ w.heap.size) (hsz : szR (dLk x) ≤ 1048576) :
    Calls Tryz.prog 62 #[.agg #[.int .i64 x.tk, u1, .bool x.de, .bool x.sh, .int .i64 x.un]] w fun e w' => (∃ (p1 n1 : Nat), e = .returned (.agg #[.int .i64 x.tk, .slice (some ⟨p1, 0, none⟩) (x.pa).length (x.pa).length, .bool x.de, .bool x.sh, .int .i64 x.un]) ∧ Own w' (.slice (some ⟨p1, 0, none⟩) (x.pa).length (x.pa).length) (.l (x.pa.map dS)) (IvG w.heap.size n1) ∧ w.heap.size ≤ n1 ∧ n1 ≤ w'.heap.size) ∧ Below w.heap.size w w' := by
  have hsum : szR (dLk x) = szRs (x.pa.map dS) := by simp [dLk, szR, szF, szV]
  rw [hsum] at hsz
  clear hsum
  have K0 := hide (show Below w.heap.size w (((w.alloc (Obj.cells #[.int .i64 x.tk, u1, .bool x.de, .bool x.sh, .int .i64 x.un] 85)).alloc (Obj.cells #[.int .i64 0, .slice none 0 0, .bool false, .bool false, .int .i64 0] 110)).alloc (Obj.cells #[.int .i64 x.tk, .slice none 0 0, .bool false, .bool false, .int .i64 0] 110)) from (((Below.refl _ _).alloc (Nat.le_refl _) _).alloc (by simp) _).alloc (by simp; omega) _)
  have X0 := hide (show BoxV (((w.alloc (Obj.cells #[.int .i64 x.tk, u1, .bool x.de, .bool x.sh, .int .i64 x.un] 85)).alloc (Obj.cells #[.int .i64 0, .slice none 0 0, .bool false, .bool false, .int .i64 0] 110)).alloc (Obj.cells #[.int .i64 x.tk, .slice none 0 0, .bool false, .bool false, .int .i64 0] 110)) w.heap.size [.int .i64 x.tk, u1, .bool x.de, .bool x.sh, .int .i64 x.un] from ((BoxV.made w [.int .i64 x.tk, u1, .bool x.de, .bool x.sh, .int .i64 x.un] 85).alloc _).alloc _)
  have Y0 := hide (show BoxV (((w.alloc (Obj.cells #[.int .i64 x.tk, u1, .bool x.de, .bool x.sh, .int .i64 x.un] 85)).alloc (Obj.cells #[.int .i64 0, .slice none 0 0, .bool false, .bool false, .int .i64 0] 110)).alloc (Obj.cells #[.int .i64 x.tk, .slice none 0 0, .bool false, .bool false, .int .i64 0] 110)) (w.heap.size + 1) [.int .i64 0, .slice none 0 0, .bool false, .bool false, .int .i64 0] by have h := (BoxV.made (w.alloc (Obj.cells #[.int .i64 x.tk, u1, .bool x.de, .bool x.sh, .int .i64 x.un] 85)) [.int .i64 0, .slice none 0 0, .bool false, .bool false, .int .i64 0] 110).alloc (Obj.cells #[.int .i64 x.tk, .slice none 0 0, .bool false, .bool false, .int .i64 0] 110); simpa using h)
  have Z0 := hide (show BoxV (((w.alloc (Obj.cells #[.int .i64 x.tk, u1, .bool x.de, .bool x.sh, .int .i64 x.un] 85)).alloc (Obj.cells #[.int .i64 0, .slice none 0 0, .bool false, .bool false, .int .i64 0] 110)).alloc (Obj.cells #[.int .i64 x.tk, .slice none 0 0, .bool false, .bool false, .int .i64 0] 110)) (w.heap.size + 1 + 1) [.int .i64 x.tk, .slice none 0 0, .bool false, .bool false, .int .i64 0] by have h := BoxV.made ((w.alloc (Obj.cells #[.int .i64 x.tk, u1, .bool x.de, .bool x.sh, .int .i64 x.un] 85)).alloc (Obj.cells #[.int .i64 0, .slice none 0 0, .bool false, .bool false, .int .i64 0] 110)) [.int .i64 x.tk, .slice none 0 0, .bool false, .bool false, .int .i64 0] 110; simpa using h)
  go_enter Tryz.func62, Tryz.ntmps62
  have HQ := hide (toStringS_gen (x.pa) u1 B _ (h1.stays K0.out hB) (Nat.le_trans hB K0.out.size) (by omega))
  go_wp2_with fail
  refine HQ.out.mono ?_
  rintro e w1 ⟨⟨p1, rfl, o1⟩, b1⟩
  have k1 := K0.out.trans (b1.mono K0.out.size)
  have x1 := X0.out.next b1
  have y1 := Y0.out.next b1
  have z1 := Z0.out.next b1
  have P1 := hide (o1.up (l' := w.heap.size + 1 + 1 + 1) (u' := w1.heap.size) (by simp) (Nat.le_refl _))
  have zs1 : w.heap.size + 1 + 1 < w1.heap.size := z1.1
  have zl1 : w.heap.size + 1 + 1 + 1 ≤ w1.heap.size := by omega
  have n1 := hide (show w.heap.size ≤ w1.heap.size by have := b1.size; simp at this; omega)
  obtain ⟨d1, f1⟩ := z1.2 1 _ rfl
  obtain ⟨d2, f2⟩ := z1.2 2 _ rfl
  have c2 := (x1.2 2 _ rfl).1
  obtain ⟨d3, f3⟩ := z1.2 3 _ rfl
  have c3 := (x1.2 3 _ rfl).1
  obtain ⟨d4, f4⟩ := z1.2 4 _ rfl
  have c4 := (x1.2 4 _ rfl).1
  obtain ⟨r0, g0⟩ := y1.2 0 _ rfl
  obtain ⟨r1, g1⟩ := y1.2 1 _ rfl
  obtain ⟨r2, g2⟩ := y1.2 2 _ rfl
  obtain ⟨r3, g3⟩ := y1.2 3 _ rfl
  obtain ⟨r4, g4⟩ := y1.2 4 _ rfl
  obtain ⟨d0, f0⟩ := z1.2 0 _ rfl
  have KE := hide k1
  clear k1 x1 y1 z1 o1 b1 HQ K0 X0 Y0 Z0
  go_wp2
  refine bodyPost_ret (v := .agg #[.int .i64 x.tk, .slice (some ⟨p1, 0, none⟩) (x.pa).length (x.pa).length, .bool x.de, .bool x.sh, .int .i64 x.un]) (by simp [results, Tryz.results62, go_sem, r0, r1, r2, r3, r4]) rfl ⟨⟨p1, w1.heap.size, rfl, ?_, n1.out, ?_⟩, ?_⟩
  · refine Own.up (l := w.heap.size + 1 + 1 + 1) ?_ (by omega) (Nat.le_refl _)
    repeat' refine Own.setCell ?_ _ _ (fun e => by have h1 := e.1; dsimp only at h1; omega)
    exact P1.out
  · simp
  · repeat' refine Below.setCell ?_ (by simp; try omega) _
    exact KE.out
end Go.Proofs.YtfhcniifennfbaaGreatDoor
namespace Go.Proofs.YtfhcniifennfbaaGreatDoor
open Go.RowKit M
set_option linter.unusedVariables false

theorem infoLock_gen : (Tryz.prog.info? 110).map (fun i => (i.zero, i.size, i.bytes)) = some (some (.agg #[.int .i64 0, .slice none 0 0, .bool false, .bool false, .int .i64 0]), 5, 48) := by kernel_rfl
theorem makeLockS_gen (n : Nat) (hn : n ≤ 1048577) (w : World) :
    (Instr.makeSlice 37 (.int .i64 (n : Int)) (.int .i64 (n : Int))).run Tryz.prog w = .ok (.slice (some ⟨w.heap.size, 0, none⟩) n n) (w.alloc (.cells (madeCells #[.int .i64 0, .slice none 0 0, .bool false, .bool false, .int .i64 0] (n * 5)) 110)) := by
  obtain ⟨i, hi, hz, hs, hb⟩ := info_parts infoLock_gen
  have hr := run_make (P := Tryz.prog) w 37 110 i _ Tryz.underlying37 hi hz .i64 .i64 n n (by omega) (Int.le_refl _) (by rw [hb]; omega) (by omega)
  simp only [Int.toNat_natCast, hs] at hr
  exact hr

set_option maxRecDepth 100000 in
set_option maxHeartbeats 4000000 in
theorem toLockS_gen (l : List Lk) (v : Value) (B : Nat) (w : World) (h : View w B v (.l (l.map dLk))) (hB : B ≤ w.heap.size) (hsz : szRs (l.map dLk) ≤ 1048576) :
    Calls Tryz.prog 27 #[v] w fun e w' => (∃ p : Nat, e = .returned (.slice (some ⟨p, 0, none⟩) l.length l.length) ∧ Own w' (.slice (some ⟨p, 0, none⟩) l.length l.length) (.l (l.map dLk)) (IvG w.heap.size w'.heap.size)) ∧ Below w.heap.size w w' := by
  obtain ⟨a, cap, rfl, hl, hm, _, hat⟩ := h.rows 5 (fun _ => rfl)
  have hn : l.length ≤ 1048576 := by have := szRs_len (l.map dLk); rw [List.length_map] at this; omega
  have HAT := hide hat
  have HSZ := hide hsz
  have hmk := makeLockS_gen l.length (by omega) w
  have hm0 := MadeG.start w #[.int .i64 0, .slice none 0 0, .bool false, .bool false, .int .i64 0] l.length 5 110 (rowsF dLk l)
  have HM0 := hide hm0
  clear hm0
  clear h hat hsz
  go_enter Tryz.func27, Tryz.ntmps27
  go_wp2
  clear hmk
  go_loopw [4] (fun i wr => ∃ k : Nat, k ≤ l.length ∧ i = .int .i64 k ∧ Hid (MadeG wr w.heap.size 5 l.length (rowsF dLk l) k) ∧ Below w.heap.size w wr) (fun i _ => l.length - (intOf i).toNat)
  case atStart => exact ⟨0, Nat.zero_le _, rfl, HM0, (Below.refl _ _).alloc (Nat.le_refl _) _⟩
  case round =>
    obtain ⟨k, hk, rfl, HR, hbe⟩ := hrel
    by_cases hlt : k < l.length
    · obtain ⟨b, o, C, rfl, hb, hc⟩ := HAT.out (by omega)
      have hck := hc k hlt
      have hbw : b < w.heap.size := Nat.lt_of_lt_of_le hb hB
      have hsx := szRs_mem _ _ (List.mem_map_of_mem (f := dLk) (List.getElem_mem hlt))
      have hrk := rowsF_at (f := dLk) l k hlt
      obtain ⟨x, hx⟩ : ∃ x, l[k] = x := ⟨_, rfl⟩
      rw [hx] at hck hsx hrk
      clear hx hc
      have c0 : wr.cell? ⟨b, o + k * 5, none⟩ = some (.int .i64 x.tk) := by
        obtain ⟨c, v⟩ := hck 0 (.c (.int .i64 x.tk)) rfl
        rw [v.inv] at c
        simp only [Nat.add_zero] at c
        exact (hbe.cell (p := ⟨b, o + k * 5, none⟩) hbw).trans c
      obtain ⟨c1, v1⟩ := hck 1 (.l (x.pa.map dS)) rfl
      have c1 := (hbe.cell (p := ⟨b, o + k * 5 + 1, none⟩) hbw).trans c1
      have c2 : wr.cell? ⟨b, o + k * 5 + 2, none⟩ = some (.bool x.de) := by
        obtain ⟨c, v⟩ := hck 2 (.c (.bool x.de)) rfl
        rw [v.inv] at c
        exact (hbe.cell (p := ⟨b, o + k * 5 + 2, none⟩) hbw).trans c
      have c3 : wr.cell? ⟨b, o + k * 5 + 3, none⟩ = some (.bool x.sh) := by
        obtain ⟨c, v⟩ := hck 3 (.c (.bool x.sh)) rfl
        rw [v.inv] at c
        exact (hbe.cell (p := ⟨b, o + k * 5 + 3, none⟩) hbw).trans c
      have c4 : wr.cell? ⟨b, o + k * 5 + 4, none⟩ = some (.int .i64 x.un) := by
        obtain ⟨c, v⟩ := hck 4 (.c (.int .i64 x.un)) rfl
        rw [v.inv] at c
        exact (hbe.cell (p := ⟨b, o + k * 5 + 4, none⟩) hbw).trans c
      clear hck
      have HC := hide (toLock_gen x (C k 1) B wr (v1.stays hbe hB) (Nat.le_trans hB hbe.size) (by have := HSZ.out; omega))
      clear v1
      go_wp2_with fail
      refine HC.out.mono ?_
      rintro e w1 ⟨⟨p1, n1, rfl, o1, s1, hlast⟩, b1⟩
      have HR2 := HR.out.next b1 hlt [.int .i64 x.tk, .slice (some ⟨p1, 0, none⟩) (x.pa).length (x.pa).length, .bool x.de, .bool x.sh, .int .i64 x.un] rfl (fun i y => (i = 1 ∧ IvG wr.heap.size n1 y)) (fun i y hy => by
        rw [hrk] at hy
        match i with
        | 0 => cases hy; exact ⟨_, rfl, .c _ _⟩
        | 1 => cases hy; exact ⟨_, rfl, o1.wide (fun y hy => ⟨rfl, hy⟩)⟩
        | 2 => cases hy; exact ⟨_, rfl, .c _ _⟩
        | 3 => cases hy; exact ⟨_, rfl, .c _ _⟩
        | 4 => cases hy; exact ⟨_, rfl, .c _ _⟩
        | i + 5 => cases hy) (fun i y hy => by unfold IvG at hy; omega) (fun i i' y hne hy hy' => by unfold IvG at hy hy'; omega)
      have hm1 := HR.out.next0 b1
      obtain ⟨e0, d0, f0⟩ := hm1.cell hlt 0 (by decide)
      simp only [Nat.add_zero] at d0 f0
      obtain ⟨e1, d1, f1⟩ := hm1.cell hlt 1 (by decide)
      obtain ⟨e2, d2, f2⟩ := hm1.cell hlt 2 (by decide)
      obtain ⟨e3, d3, f3⟩ := hm1.cell hlt 3 (by decide)
      obtain ⟨e4, d4, f4⟩ := hm1.cell hlt 4 (by decide)
      have HR3 := hide HR2
      have c9 := hbe.trans (b1.mono hbe.size)
      clear HR2 HR hm1 HC o1 s1
      go_wp2
      go_roundw
      case rel => exact ⟨k + 1, by omega, by go_num, HR3, (((((c9.setCell (Nat.le_refl _) _).setCell (Nat.le_refl _) _).setCell (Nat.le_refl _) _).setCell (Nat.le_refl _) _).setCell (Nat.le_refl _) _)⟩
      case measure => simp [intOf]; omega
    · have hk2 : k = l.length := by omega
      subst hk2
      have HO := hide (HR.out.done (rows := l.map dLk) (by rw [List.length_map]) (by unfold maxLen; omega) (fun r hr => by obtain ⟨x, _, rfl⟩ := List.mem_map.1 hr; rfl) (fun j hj => by rw [rowsF_at l j (by simpa using hj)]; simp))
      go_wp2
      go_ret
      exact ⟨⟨_, rfl, HO.out⟩, hbe⟩
end Go.Proofs.YtfhcniifennfbaaGreatDoor
namespace Go.Proofs.YtfhcniifennfbaaGreatDoor
open Go.RowKit M
set_option linter.unusedVariables false

theorem infoInt_gen : (Tryz.prog.info? 3).map (fun i => (i.zero, i.size, i.bytes)) = some (some (.int .i64 0), 1, 8) := by kernel_rfl
theorem makeIntS_gen (n : Nat) (hn : n ≤ 1048577) (w : World) :
    (Instr.makeSlice 24 (.int .i64 (n : Int)) (.int .i64 (n : Int))).run Tryz.prog w = .ok (.slice (some ⟨w.heap.size, 0, none⟩) n n) (w.alloc (.cells (madeCells #[.int .i64 0] (n * 1)) 3)) := by
  obtain ⟨i, hi, hz, hs, hb⟩ := info_parts infoInt_gen
  have hr := run_make (P := Tryz.prog) w 24 3 i _ Tryz.underlying24 hi hz .i64 .i64 n n (by omega) (Int.le_refl _) (by rw [hb]; omega) (by omega)
  simp only [Int.toNat_natCast, hs] at hr
  exact hr

set_option maxRecDepth 100000 in
set_option maxHeartbeats 4000000 in
theorem toIntS_gen (l : List Int) (v : Value) (B : Nat) (w : World) (h : View w B v (.l (l.map dI))) (hB : B ≤ w.heap.size) (hsz : szRs (l.map dI) ≤ 1048576) :
    Calls Tryz.prog 28 #[v] w fun e w' => (∃ p : Nat, e = .returned (.slice (some ⟨p, 0, none⟩) l.length l.length) ∧ Own w' (.slice (some ⟨p, 0, none⟩) l.length l.length) (.l (l.map dI)) (IvG w.heap.size w'.heap.size)) ∧ Below w.heap.size w w' := by
  obtain ⟨a, cap, rfl, hl, hm, _, hat⟩ := h.rows 1 (fun _ => rfl)
  have hn : l.length ≤ 1048576 := by have := szRs_len (l.map dI); rw [List.length_map] at this; omega
  have HAT := hide hat
  have HSZ := hide hsz
  have hmk := makeIntS_gen l.length (by omega) w
  have hm0 := MadeG.start w #[.int .i64 0] l.length 1 3 (rowsF dI l)
  simp only [Nat.mul_one] at hm0
  have HM0 := hide hm0
  clear hm0
  clear h hat hsz
  go_enter Tryz.func28, Tryz.ntmps28
  go_wp2
  clear hmk
  go_loopw [4] (fun i wr => ∃ k : Nat, k ≤ l.length ∧ i = .int .i64 k ∧ Hid (MadeG wr w.heap.size 1 l.length (rowsF dI l) k) ∧ Below w.heap.size w wr) (fun i _ => l.length - (intOf i).toNat)
  case atStart => exact ⟨0, Nat.zero_le _, rfl, HM0, (Below.refl _ _).alloc (Nat.le_refl _) _⟩
  case round =>
    obtain ⟨k, hk, rfl, HR, hbe⟩ := hrel
    by_cases hlt : k < l.length
    · obtain ⟨b, o, C, rfl, hb, hc⟩ := HAT.out (by omega)
      have hck := hc k hlt
      have hbw : b < w.heap.size := Nat.lt_of_lt_of_le hb hB
      have hsx := szRs_mem _ _ (List.mem_map_of_mem (f := dI) (List.getElem_mem hlt))
      have hrk := rowsF_at (f := dI) l k hlt
      obtain ⟨x, hx⟩ : ∃ x, l[k] = x := ⟨_, rfl⟩
      rw [hx] at hck hsx hrk
      clear hx hc
      have c0 : wr.cell? ⟨b, o + k, none⟩ = some (.int .i64 x) := by
        obtain ⟨c, v⟩ := hck 0 (.c (.int .i64 x)) rfl
        rw [v.inv] at c
        simp only [Nat.mul_one, Nat.add_zero] at c
        exact (hbe.cell (p := ⟨b, o + k, none⟩) hbw).trans c
      clear hck
      obtain ⟨u, hu, fu⟩ := HR.out.cell hlt 0 (by decide)
      simp only [Nat.mul_one, Nat.add_zero] at hu fu
      have HR2 := HR.out.next (Below.refl _ wr) hlt [.int .i64 x] rfl (fun _ _ => False) (fun i y hy => by
        rw [hrk] at hy
        match i with
        | 0 => cases hy; exact ⟨_, rfl, .c _ _⟩
        | i + 1 => cases hy) (fun _ _ h => h.elim) (fun _ _ _ _ h => h.elim)
      simp only [Nat.mul_one] at HR2
      have HR3 := hide HR2
      clear HR2 HR
      go_wp2
      go_roundw
      case rel => exact ⟨k + 1, by omega, by go_num, HR3, hbe.setCell (Nat.le_refl _) _⟩
      case measure => simp [intOf]; omega
    · have hk2 : k = l.length := by omega
      subst hk2
      have HO := hide (HR.out.done (rows := l.map dI) (by rw [List.length_map]) (by unfold maxLen; omega) (fun r hr => by obtain ⟨x, _, rfl⟩ := List.mem_map.1 hr; rfl) (fun j hj => by rw [rowsF_at l j (by simpa using hj)]; simp))
      go_wp2
      go_ret
      exact ⟨⟨_, rfl, HO.out⟩, hbe⟩
end Go.Proofs.YtfhcniifennfbaaGreatDoor
namespace Go.Proofs.YtfhcniifennfbaaGreatDoor
open Go.RowKit M
set_option linter.unusedVariables false

set_option maxRecDepth 100000 in
set_option maxHeartbeats 4000000 in
theorem toSrv_gen (x : Sv) (u0 u1 u4 u5 : Value) (B : Nat) (w : World) (h0 : View w B u0 (.l (x.t.map dRs))) (h1 : View w B u1 (.l (x.l.map dLk))) (h4 : View w B u4 (.l (x.dr.map dI))) (h5 : View w B u5 (.l (x.us.map dI))) (hB : B ≤ w.heap.size) (hsz : szR (dSv x) ≤ 1048576) :
    Calls Tryz.prog 7 #[.agg #[u0, u1, .int .i64 x.now, .int .i64 x.ver, u4, u5]] w fun e w' => (∃ (p0 p1 p4 p5 n0 n1 n4 n5 : Nat), e = .returned (.agg #[.slice (some ⟨p0, 0, none⟩) (x.t).length (x.t).length, .slice (some ⟨p1, 0, none⟩) (x.l).length (x.l).length, .int .i64 x.now, .int .i64 x.ver, .slice (some ⟨p4, 0, none⟩) (x.dr).length (x.dr).length, .slice (some ⟨p5, 0, none⟩) (x.us).length (x.us).length]) ∧ Own w' (.slice (some ⟨p0, 0, none⟩) (x.t).length (x.t).length) (.l (x.t.map dRs)) (IvG w.heap.size n0) ∧ w.heap.size ≤ n0 ∧ Own w' (.slice (some ⟨p1, 0, none⟩) (x.l).length (x.l).length) (.l (x.l.map dLk)) (IvG n0 n1) ∧ n0 ≤ n1 ∧ Own w' (.slice (some ⟨p4, 0, none⟩) (x.dr).length (x.dr).length) (.l (x.dr.map dI)) (IvG n1 n4) ∧ n1 ≤ n4 ∧ Own w' (.slice (some ⟨p5, 0, none⟩) (x.us).length (x.us).length) (.l (x.us.map dI)) (IvG n4 n5) ∧ n4 ≤ n5 ∧ n5 ≤ w'.heap.size) ∧ Below w.heap.size w w' := by
  have hsum : szR (dSv x) = szRs (x.t.map dRs) + szRs (x.l.map dLk) + szRs (x.dr.map dI) + szRs (x.us.map dI) := by simp [dSv, szR, szF, szV]; try omega
  rw [hsum] at hsz
  clear hsum
  have K0 := hide (show Below w.heap.size w (((w.alloc (Obj.cells #[u0, u1, .int .i64 x.now, .int .i64 x.ver, u4, u5] 26)).alloc (Obj.cells #[.slice none 0 0, .slice none 0 0, .int .i64 0, .int .i64 0, .slice none 0 0, .slice none 0 0] 39)).alloc (Obj.cells #[.slice none 0 0, .slice none 0 0, .int .i64 0, .int .i64 0, .slice none 0 0, .slice none 0 0] 39)) from (((Below.refl _ _).alloc (Nat.le_refl _) _).alloc (by simp) _).alloc (by simp; omega) _)
  have X0 := hide (show BoxV (((w.alloc (Obj.cells #[u0, u1, .int .i64 x.now, .int .i64 x.ver, u4, u5] 26)).alloc (Obj.cells #[.slice none 0 0, .slice none 0 0, .int .i64 0, .int .i64 0, .slice none 0 0, .slice none 0 0] 39)).alloc (Obj.cells #[.slice none 0 0, .slice none 0 0, .int .i64 0, .int .i64 0, .slice none 0 0, .slice none 0 0] 39)) w.heap.size [u0, u1, .int .i64 x.now, .int .i64 x.ver, u4, u5] from ((BoxV.made w [u0, u1, .int .i64 x.now, .int .i64 x.ver, u4, u5] 26).alloc _).alloc _)
  have Y0 := hide (show BoxV (((w.alloc (Obj.cells #[u0, u1, .int .i64 x.now, .int .i64 x.ver, u4, u5] 26)).alloc (Obj.cells #[.slice none 0 0, .slice none 0 0, .int .i64 0, .int .i64 0, .slice none 0 0, .slice none 0 0] 39)).alloc (Obj.cells #[.slice none 0 0, .slice none 0 0, .int .i64 0, .int .i64 0, .slice none 0 0, .slice none 0 0] 39)) (w.heap.size + 1) [.slice none 0 0, .slice none 0 0, .int .i64 0, .int .i64 0, .slice none 0 0, .slice none 0 0] by have h := (BoxV.made (w.alloc (Obj.cells #[u0, u1, .int .i64 x.now, .int .i64 x.ver, u4, u5] 26)) [.slice none 0 0, .slice none 0 0, .int .i64 0, .int .i64 0, .slice none 0 0, .slice none 0 0] 39).alloc (Obj.cells #[.slice none 0 0, .slice none 0 0, .int .i64 0, .int .i64 0, .slice none 0 0, .slice none 0 0] 39); simpa using h)
  have Z0 := hide (show BoxV (((w.alloc (Obj.cells #[u0, u1, .int .i64 x.now, .int .i64 x.ver, u4, u5] 26)).alloc (Obj.cells #[.slice none 0 0, .slice none 0 0, .int .i64 0, .int .i64 0, .slice none 0 0, .slice none 0 0] 39)).alloc (Obj.cells #[.slice none 0 0, .slice none 0 0, .int .i64 0, .int .i64 0, .slice none 0 0, .slice none 0 0] 39)) (w.heap.size + 1 + 1) [.slice none 0 0, .slice none 0 0, .int .i64 0, .int .i64 0, .slice none 0 0, .slice none 0 0] by have h := BoxV.made ((w.alloc (Obj.cells #[u0, u1, .int .i64 x.now, .int .i64 x.ver, u4, u5] 26)).alloc (Obj.cells #[.slice none 0 0, .slice none 0 0, .int .i64 0, .int .i64 0, .slice none 0 0, .slice none 0 0] 39)) [.slice none 0 0, .slice none 0 0, .int .i64 0, .int .i64 0, .slice none 0 0, .slice none 0 0] 39; simpa using h)
  go_enter Tryz.func7, Tryz.ntmps7
  have HQ := hide (toResS_gen (x.t) u0 B _ (h0.stays K0.out hB) (Nat.le_trans hB K0.out.size) (by omega))
  go_wp2_with fail
  refine HQ.out.mono ?_
  rintro e w1 ⟨⟨p0, rfl, o0⟩, b1⟩
  have k1 := K0.out.trans (b1.mono K0.out.size)
  have x1 := X0.out.next b1
  have y1 := Y0.out.next b1
  have z1 := Z0.out.next b1
  have P0 := hide (o0.up (l' := w.heap.size + 1 + 1 + 1) (u' := w1.heap.size) (by simp) (Nat.le_refl _))
  have zs1 : w.heap.size + 1 + 1 < w1.heap.size := z1.1
  have zl1 : w.heap.size + 1 + 1 + 1 ≤ w1.heap.size := by omega
  have n0 := hide (show w.heap.size ≤ w1.heap.size by have := b1.size; simp at this; omega)
  obtain ⟨d0, f0⟩ := z1.2 0 _ rfl
  have K1 := hide (k1.setCell (p := ⟨w.heap.size + 1 + 1, 0, none⟩) (by show w.heap.size ≤ w.heap.size + 1 + 1; omega) (.slice (some ⟨p0, 0, none⟩) (x.t).length (x.t).length))
  have X1 := hide (x1.other ⟨w.heap.size + 1 + 1, 0, none⟩ (.slice (some ⟨p0, 0, none⟩) (x.t).length (x.t).length) (by show w.heap.size + 1 + 1 ≠ w.heap.size; omega))
  have Y1 := hide (y1.other ⟨w.heap.size + 1 + 1, 0, none⟩ (.slice (some ⟨p0, 0, none⟩) (x.t).length (x.t).length) (by show w.heap.size + 1 + 1 ≠ w.heap.size + 1; omega))
  have Z1 := hide (show BoxV (w1.setCell ⟨w.heap.size + 1 + 1, 0, none⟩ (.slice (some ⟨p0, 0, none⟩) (x.t).length (x.t).length)) (w.heap.size + 1 + 1) [.slice (some ⟨p0, 0, none⟩) (x.t).length (x.t).length, .slice none 0 0, .int .i64 0, .int .i64 0, .slice none 0 0, .slice none 0 0] from (z1.set 0 (by simp) (.slice (some ⟨p0, 0, none⟩) (x.t).length (x.t).length)))
  have P0 := hide (P0.out.setCell ⟨w.heap.size + 1 + 1, 0, none⟩ (.slice (some ⟨p0, 0, none⟩) (x.t).length (x.t).length) (fun e => by have h1 := e.1; dsimp only at h1; omega))
  clear k1 x1 y1 z1 o0 b1 HQ K0 X0 Y0 Z0
  have c1 := (X1.out.2 1 _ rfl).1
  have HQ := hide (toLockS_gen (x.l) u1 B _ (h1.stays K1.out hB) (Nat.le_trans hB K1.out.size) (by omega))
  go_wp2_with fail
  refine HQ.out.mono ?_
  rintro e w2 ⟨⟨p1, rfl, o1⟩, b2⟩
  have k2 := K1.out.trans (b2.mono K1.out.size)
  have x2 := X1.out.next b2
  have y2 := Y1.out.next b2
  have z2 := Z1.out.next b2
  have P1 := hide (o1.up (l' := w1.heap.size) (u' := w2.heap.size) (by simp) (Nat.le_refl _))
  have P0 := hide (P0.out.next b2)
  have zs2 : w.heap.size + 1 + 1 < w2.heap.size := z2.1
  have n1 := hide (show w1.heap.size ≤ w2.heap.size by have := b2.size; simp at this; omega)
  obtain ⟨d1, f1⟩ := z2.2 1 _ rfl
  obtain ⟨d2, f2⟩ := z2.2 2 _ rfl
  have c2 := (x2.2 2 _ rfl).1
  obtain ⟨d3, f3⟩ := z2.2 3 _ rfl
  have c3 := (x2.2 3 _ rfl).1
  have K2 := hide (((k2.setCell (p := ⟨w.heap.size + 1 + 1, 1, none⟩) (by show w.heap.size ≤ w.heap.size + 1 + 1; omega) (.slice (some ⟨p1, 0, none⟩) (x.l).length (x.l).length)).setCell (p := ⟨w.heap.size + 1 + 1, 2, none⟩) (by show w.heap.size ≤ w.heap.size + 1 + 1; omega) (.int .i64 x.now)).setCell (p := ⟨w.heap.size + 1 + 1, 3, none⟩) (by show w.heap.size ≤ w.heap.size + 1 + 1; omega) (.int .i64 x.ver))
  have X2 := hide (((x2.other ⟨w.heap.size + 1 + 1, 1, none⟩ (.slice (some ⟨p1, 0, none⟩) (x.l).length (x.l).length) (by show w.heap.size + 1 + 1 ≠ w.heap.size; omega)).other ⟨w.heap.size + 1 + 1, 2, none⟩ (.int .i64 x.now) (by show w.heap.size + 1 + 1 ≠ w.heap.size; omega)).other ⟨w.heap.size + 1 + 1, 3, none⟩ (.int .i64 x.ver) (by show w.heap.size + 1 + 1 ≠ w.heap.size; omega))
  have Y2 := hide (((y2.other ⟨w.heap.size + 1 + 1, 1, none⟩ (.slice (some ⟨p1, 0, none⟩) (x.l).length (x.l).length) (by show w.heap.size + 1 + 1 ≠ w.heap.size + 1; omega)).other ⟨w.heap.size + 1 + 1, 2, none⟩ (.int .i64 x.now) (by show w.heap.size + 1 + 1 ≠ w.heap.size + 1; omega)).other ⟨w.heap.size + 1 + 1, 3, none⟩ (.int .i64 x.ver) (by show w.heap.size + 1 + 1 ≠ w.heap.size + 1; omega))
  have Z2 := hide (show BoxV (((w2.setCell ⟨w.heap.size + 1 + 1, 1, none⟩ (.slice (some ⟨p1, 0, none⟩) (x.l).length (x.l).length)).setCell ⟨w.heap.size + 1 + 1, 2, none⟩ (.int .i64 x.now)).setCell ⟨w.heap.size + 1 + 1, 3, none⟩ (.int .i64 x.ver)) (w.heap.size + 1 + 1) [.slice (some ⟨p0, 0, none⟩) (x.t).length (x.t).length, .slice (some ⟨p1, 0, none⟩) (x.l).length (x.l).length, .int .i64 x.now, .int .i64 x.ver, .slice none 0 0, .slice none 0 0] from (((z2.set 1 (by simp) (.slice (some ⟨p1, 0, none⟩) (x.l).length (x.l).length)).set 2 (by simp) (.int .i64 x.now)).set 3 (by simp) (.int .i64 x.ver)))
  have P0 := hide (((P0.out.setCell ⟨w.heap.size + 1 + 1, 1, none⟩ (.slice (some ⟨p1, 0, none⟩) (x.l).length (x.l).length) (fun e => by have h1 := e.1; dsimp only at h1; omega)).setCell ⟨w.heap.size + 1 + 1, 2, none⟩ (.int .i64 x.now) (fun e => by have h1 := e.1; dsimp only at h1; omega)).setCell ⟨w.heap.size + 1 + 1, 3, none⟩ (.int .i64 x.ver) (fun e => by have h1 := e.1; dsimp only at h1; omega))
  have P1 := hide (((P1.out.setCell ⟨w.heap.size + 1 + 1, 1, none⟩ (.slice (some ⟨p1, 0, none⟩) (x.l).length (x.l).length) (fun e => by have h1 := e.1; dsimp only at h1; omega)).setCell ⟨w.heap.size + 1 + 1, 2, none⟩ (.int .i64 x.now) (fun e => by have h1 := e.1; dsimp only at h1; omega)).setCell ⟨w.heap.size + 1 + 1, 3, none⟩ (.int .i64 x.ver) (fun e => by have h1 := e.1; dsimp only at h1; omega))
  clear k2 x2 y2 z2 o1 b2 HQ K1 X1 Y1 Z1
  have c4 := (X2.out.2 4 _ rfl).1
  have HQ := hide (toIntS_gen (x.dr) u4 B _ (h4.stays K2.out hB) (Nat.le_trans hB K2.out.size) (by omega))
  go_wp2_with fail
  refine HQ.out.mono ?_
  rintro e w3 ⟨⟨p4, rfl, o4⟩, b3⟩
  have k3 := K2.out.trans (b3.mono K2.out.size)
  have x3 := X2.out.next b3
  have y3 := Y2.out.next b3
  have z3 := Z2.out.next b3
  have P4 := hide (o4.up (l' := w2.heap.size) (u' := w3.heap.size) (by simp) (Nat.le_refl _))
  have P0 := hide (P0.out.next b3)
  have P1 := hide (P1.out.next b3)
  have zs3 : w.heap.size + 1 + 1 < w3.heap.size := z3.1
  have n4 := hide (show w2.heap.size ≤ w3.heap.size by have := b3.size; simp at this; omega)
  obtain ⟨d4, f4⟩ := z3.2 4 _ rfl
  have K3 := hide (k3.setCell (p := ⟨w.heap.size + 1 + 1, 4, none⟩) (by show w.heap.size ≤ w.heap.size + 1 + 1; omega) (.slice (some ⟨p4, 0, none⟩) (x.dr).length (x.dr).length))
  have X3 := hide (x3.other ⟨w.heap.size + 1 + 1, 4, none⟩ (.slice (some ⟨p4, 0, none⟩) (x.dr).length (x.dr).length) (by show w.heap.size + 1 + 1 ≠ w.heap.size; omega))
  have Y3 := hide (y3.other ⟨w.heap.size + 1 + 1, 4, none⟩ (.slice (some ⟨p4, 0, none⟩) (x.dr).length (x.dr).length) (by show w.heap.size + 1 + 1 ≠ w.heap.size + 1; omega))
  have Z3 := hide (show BoxV (w3.setCell ⟨w.heap.size + 1 + 1, 4, none⟩ (.slice (some ⟨p4, 0, none⟩) (x.dr).length (x.dr).length)) (w.heap.size + 1 + 1) [.slice (some ⟨p0, 0, none⟩) (x.t).length (x.t).length, .slice (some ⟨p1, 0, none⟩) (x.l).length (x.l).length, .int .i64 x.now, .int .i64 x.ver, .slice (some ⟨p4, 0, none⟩) (x.dr).length (x.dr).length, .slice none 0 0] from (z3.set 4 (by simp) (.slice (some ⟨p4, 0, none⟩) (x.dr).length (x.dr).length)))
  have P0 := hide (P0.out.setCell ⟨w.heap.size + 1 + 1, 4, none⟩ (.slice (some ⟨p4, 0, none⟩) (x.dr).length (x.dr).length) (fun e => by have h1 := e.1; dsimp only at h1; omega))
  have P1 := hide (P1.out.setCell ⟨w.heap.size + 1 + 1, 4, none⟩ (.slice (some ⟨p4, 0, none⟩) (x.dr).length (x.dr).length) (fun e => by have h1 := e.1; dsimp only at h1; omega))
  have P4 := hide (P4.out.setCell ⟨w.heap.size + 1 + 1, 4, none⟩ (.slice (some ⟨p4, 0, none⟩) (x.dr).length (x.dr).length) (fun e => by have h1 := e.1; dsimp only at h1; omega))
  clear k3 x3 y3 z3 o4 b3 HQ K2 X2 Y2 Z2
  have c5 := (X3.out.2 5 _ rfl).1
  have HQ := hide (toIntS_gen (x.us) u5 B _ (h5.stays K3.out hB) (Nat.le_trans hB K3.out.size) (by omega))
  go_wp2_with fail
  refine HQ.out.mono ?_
  rintro e w4 ⟨⟨p5, rfl, o5⟩, b4⟩
  have k4 := K3.out.trans (b4.mono K3.out.size)
  have x4 := X3.out.next b4
  have y4 := Y3.out.next b4
  have z4 := Z3.out.next b4
  have P5 := hide (o5.up (l' := w3.heap.size) (u' := w4.heap.size) (by simp) (Nat.le_refl _))
  have P0 := hide (P0.out.next b4)
  have P1 := hide (P1.out.next b4)
  have P4 := hide (P4.out.next b4)
  have zs4 : w.heap.size + 1 + 1 < w4.heap.size := z4.1
  have n5 := hide (show w3.heap.size ≤ w4.heap.size by have := b4.size; simp at this; omega)
  obtain ⟨d5, f5⟩ := z4.2 5 _ rfl
  obtain ⟨r0, g0⟩ := y4.2 0 _ rfl
  obtain ⟨r1, g1⟩ := y4.2 1 _ rfl
  obtain ⟨r2, g2⟩ := y4.2 2 _ rfl
  obtain ⟨r3, g3⟩ := y4.2 3 _ rfl
  obtain ⟨r4, g4⟩ := y4.2 4 _ rfl
  obtain ⟨r5, g5⟩ := y4.2 5 _ rfl
  obtain ⟨d0, f0⟩ := z4.2 0 _ rfl
  obtain ⟨d1, f1⟩ := z4.2 1 _ rfl
  obtain ⟨d2, f2⟩ := z4.2 2 _ rfl
  obtain ⟨d3, f3⟩ := z4.2 3 _ rfl
  obtain ⟨d4, f4⟩ := z4.2 4 _ rfl
  have KE := hide k4
  clear k4 x4 y4 z4 o5 b4 HQ K3 X3 Y3 Z3
  go_wp2
  refine bodyPost_ret (v := .agg #[.slice (some ⟨p0, 0, none⟩) (x.t).length (x.t).length, .slice (some ⟨p1, 0, none⟩) (x.l).length (x.l).length, .int .i64 x.now, .int .i64 x.ver, .slice (some ⟨p4, 0, none⟩) (x.dr).length (x.dr).length, .slice (some ⟨p5, 0, none⟩) (x.us).length (x.us).length]) (by simp [results, Tryz.results7, go_sem, r0, r1, r2, r3, r4, r5]) rfl ⟨⟨p0, p1, p4, p5, w1.heap.size, w2.heap.size, w3.heap.size, w4.heap.size, rfl, ?_, n0.out, ?_, n1.out, ?_, n4.out, ?_, n5.out, ?_⟩, ?_⟩
  · refine Own.up (l := w.heap.size + 1 + 1 + 1) ?_ (by omega) (Nat.le_refl _)
    repeat' refine Own.setCell ?_ _ _ (fun e => by have h1 := e.1; dsimp only at h1; omega)
    exact P0.out
  · repeat' refine Own.setCell ?_ _ _ (fun e => by have h1 := e.1; dsimp only at h1; omega)
    exact P1.out
  · repeat' refine Own.setCell ?_ _ _ (fun e => by have h1 := e.1; dsimp only at h1; omega)
    exact P4.out
  · repeat' refine Own.setCell ?_ _ _ (fun e => by have h1 := e.1; dsimp only at h1; omega)
    exact P5.out
  · simp
  · repeat' refine Below.setCell ?_ (by simp; try omega) _
    exact KE.out
end Go.Proofs.YtfhcniifennfbaaGreatDoor
namespace Go.Proofs.YtfhcniifennfbaaGreatDoor
open Go.RowKit M
set_option linter.unusedVariables false

set_option maxRecDepth 100000 in
set_option maxHeartbeats 4000000 in
theorem eqStringS_gen (l : List ByteArray) (v v' : Value) (B B' : Nat) (w : World) (h : View w B v (.l (l.map dS))) (h' : View w B' v' (.l (l.map dS))) (hB : B ≤ w.heap.size) (hB' : B' ≤ w.heap.size) :
    Calls Tryz.prog 32 #[v, v'] w fun e w' => e = .returned (.bool true) ∧ Below w.heap.size w w' := by
  obtain ⟨a, cap, rfl, hl, hm, _, hat⟩ := h.rows 1 (fun _ => rfl)
  obtain ⟨a', cap', rfl, hl', hm', _, hat'⟩ := h'.rows 1 (fun _ => rfl)
  have hn : l.length ≤ maxLen := Nat.le_trans hl hm
  unfold maxLen at hn
  have HAT := hide hat
  have HAT' := hide hat'
  clear h h' hat hat' hl hl' hm hm'
  go_enter Tryz.func32, Tryz.ntmps32
  go_wp2
  go_loopw [5] (fun i wr => ∃ k : Nat, k ≤ l.length ∧ i = .int .i64 k ∧ Below w.heap.size w wr) (fun i _ => l.length - (intOf i).toNat)
  case atStart => exact ⟨0, Nat.zero_le _, rfl, Below.refl _ _⟩
  case round =>
    obtain ⟨k, hk, rfl, hbe⟩ := hrel
    by_cases hlt : k < l.length
    · obtain ⟨b, o, C, rfl, hb, hc⟩ := HAT.out (by omega)
      obtain ⟨b', o', C', rfl, hb', hc'⟩ := HAT'.out (by omega)
      have hck := hc k hlt
      have hck' := hc' k hlt
      have hbw : b < w.heap.size := Nat.lt_of_lt_of_le hb hB
      have hbw' : b' < w.heap.size := Nat.lt_of_lt_of_le hb' hB'
      have hi0 : (0 : Int) ≤ (k : Int) := by omega
      have hi1 : (k : Int) < (l.length : Int) := by omega
      obtain ⟨x, hx⟩ : ∃ x, l[k] = x := ⟨_, rfl⟩
      rw [hx] at hck hck'
      clear hx hc hc'
      have c0 : wr.cell? ⟨b, o + k, none⟩ = some (.string x) := by
        obtain ⟨c, v⟩ := hck 0 (.c (.string x)) rfl
        rw [v.inv] at c
        simp only [Nat.mul_one, Nat.add_zero] at c
        exact (hbe.cell (p := ⟨b, o + k, none⟩) hbw).trans c
      have c0' : wr.cell? ⟨b', o' + k, none⟩ = some (.string x) := by
        obtain ⟨c, v⟩ := hck' 0 (.c (.string x)) rfl
        rw [v.inv] at c
        simp only [Nat.mul_one, Nat.add_zero] at c
        exact (hbe.cell (p := ⟨b', o' + k, none⟩) hbw').trans c
      clear hck hck'
      go_wp2
      go_quiet (fail)
      go_wp2
      go_roundw
      case rel => exact ⟨k + 1, by omega, by go_num, below_drewN hbe _⟩
      case measure => simp [intOf]; omega
    · go_wp2
      go_ret
      exact ⟨rfl, hbe⟩
end Go.Proofs.YtfhcniifennfbaaGreatDoor
namespace Go.Proofs.YtfhcniifennfbaaGreatDoor
open Go.RowKit M
set_option linter.unusedVariables false

set_option maxRecDepth 100000 in
set_option maxHeartbeats 4000000 in
theorem eqProp_gen (x : Pp) (B C : Nat) (w : World) (hB : B ≤ w.heap.size) (hC : C ≤ w.heap.size) :
    Calls Tryz.prog 140 #[.agg #[.string x.1, .string x.2.1, .string x.2.2], .agg #[.string x.1, .string x.2.1, .string x.2.2]] w fun e w' => e = .returned (.bool true) ∧ Below w.heap.size w w' := by
  have K0 := hide (show Below w.heap.size w ((w.alloc (Obj.cells #[.string x.1, .string x.2.1, .string x.2.2] 147)).alloc (Obj.cells #[.string x.1, .string x.2.1, .string x.2.2] 147)) from ((Below.refl _ _).alloc (Nat.le_refl _) _).alloc (by simp) _)
  have X0 := hide (show BoxV ((w.alloc (Obj.cells #[.string x.1, .string x.2.1, .string x.2.2] 147)).alloc (Obj.cells #[.string x.1, .string x.2.1, .string x.2.2] 147)) w.heap.size [.string x.1, .string x.2.1, .string x.2.2] from (BoxV.made w [.string x.1, .string x.2.1, .string x.2.2] 147).alloc _)
  have Y0 := hide (show BoxV ((w.alloc (Obj.cells #[.string x.1, .string x.2.1, .string x.2.2] 147)).alloc (Obj.cells #[.string x.1, .string x.2.1, .string x.2.2] 147)) (w.heap.size + 1) [.string x.1, .string x.2.1, .string x.2.2] by have h := BoxV.made (w.alloc (Obj.cells #[.string x.1, .string x.2.1, .string x.2.2] 147)) [.string x.1, .string x.2.1, .string x.2.2] 147; simpa using h)
  go_enter Tryz.func140, Tryz.ntmps140
  go_wp2
  go_ret
  exact ⟨rfl, K0.out⟩
end Go.Proofs.YtfhcniifennfbaaGreatDoor
namespace Go.Proofs.YtfhcniifennfbaaGreatDoor
open Go.RowKit M
set_option linter.unusedVariables false

set_option maxRecDepth 100000 in
set_option maxHeartbeats 4000000 in
theorem eqPropS_gen (l : List Pp) (v v' : Value) (B B' : Nat) (w : World) (h : View w B v (.l (l.map dPp))) (h' : View w B' v' (.l (l.map dPp))) (hB : B ≤ w.heap.size) (hB' : B' ≤ w.heap.size) :
    Calls Tryz.prog 111 #[v, v'] w fun e w' => e = .returned (.bool true) ∧ Below w.heap.size w w' := by
  obtain ⟨a, cap, rfl, hl, hm, _, hat⟩ := h.rows 3 (fun _ => rfl)
  obtain ⟨a', cap', rfl, hl', hm', _, hat'⟩ := h'.rows 3 (fun _ => rfl)
  have hn : l.length ≤ maxLen := Nat.le_trans hl hm
  unfold maxLen at hn
  have HAT := hide hat
  have HAT' := hide hat'
  clear h h' hat hat' hl hl' hm hm'
  go_enter Tryz.func111, Tryz.ntmps111
  go_wp2
  go_loopw [5] (fun i wr => ∃ k : Nat, k ≤ l.length ∧ i = .int .i64 k ∧ Below w.heap.size w wr) (fun i _ => l.length - (intOf i).toNat)
  case atStart => exact ⟨0, Nat.zero_le _, rfl, Below.refl _ _⟩
  case round =>
    obtain ⟨k, hk, rfl, hbe⟩ := hrel
    by_cases hlt : k < l.length
    · obtain ⟨b, o, C, rfl, hb, hc⟩ := HAT.out (by omega)
      obtain ⟨b', o', C', rfl, hb', hc'⟩ := HAT'.out (by omega)
      have hck := hc k hlt
      have hck' := hc' k hlt
      have hbw : b < w.heap.size := Nat.lt_of_lt_of_le hb hB
      have hbw' : b' < w.heap.size := Nat.lt_of_lt_of_le hb' hB'
      have hi0 : (0 : Int) ≤ (k : Int) := by omega
      have hi1 : (k : Int) < (l.length : Int) := by omega
      obtain ⟨x, hx⟩ : ∃ x, l[k] = x := ⟨_, rfl⟩
      rw [hx] at hck hck'
      clear hx hc hc'
      have c0 : wr.cell? ⟨b, o + k * 3, none⟩ = some (.string x.1) := by
        obtain ⟨c, v⟩ := hck 0 (.c (.string x.1)) rfl
        rw [v.inv] at c
        simp only [Nat.add_zero] at c
        exact (hbe.cell (p := ⟨b, o + k * 3, none⟩) hbw).trans c
      have c1 : wr.cell? ⟨b, o + k * 3 + 1, none⟩ = some (.string x.2.1) := by
        obtain ⟨c, v⟩ := hck 1 (.c (.string x.2.1)) rfl
        rw [v.inv] at c
        exact (hbe.cell (p := ⟨b, o + k * 3 + 1, none⟩) hbw).trans c
      have c2 : wr.cell? ⟨b, o + k * 3 + 2, none⟩ = some (.string x.2.2) := by
        obtain ⟨c, v⟩ := hck 2 (.c (.string x.2.2)) rfl
        rw [v.inv] at c
        exact (hbe.cell (p := ⟨b, o + k * 3 + 2, none⟩) hbw).trans c
      have c0' : wr.cell? ⟨b', o' + k * 3, none⟩ = some (.string x.1) := by
        obtain ⟨c, v⟩ := hck' 0 (.c (.string x.1)) rfl
        rw [v.inv] at c
        simp only [Nat.add_zero] at c
        exact (hbe.cell (p := ⟨b', o' + k * 3, none⟩) hbw').trans c
      have c1' : wr.cell? ⟨b', o' + k * 3 + 1, none⟩ = some (.string x.2.1) := by
        obtain ⟨c, v⟩ := hck' 1 (.c (.string x.2.1)) rfl
        rw [v.inv] at c
        exact (hbe.cell (p := ⟨b', o' + k * 3 + 1, none⟩) hbw').trans c
      have c2' : wr.cell? ⟨b', o' + k * 3 + 2, none⟩ = some (.string x.2.2) := by
        obtain ⟨c, v⟩ := hck' 2 (.c (.string x.2.2)) rfl
        rw [v.inv] at c
        exact (hbe.cell (p := ⟨b', o' + k * 3 + 2, none⟩) hbw').trans c
      clear hck hck'
      have hbd : Below w.heap.size w wr.drew := below_drewG hbe
      have hq := hide (eqProp_gen x B B' wr.drew (Nat.le_trans hB hbd.size) (Nat.le_trans hB' hbd.size))
      have HX := hide (show wr.drew.cell? ⟨b, o + k * 3, none⟩ = some (.string x.1) ∧ wr.drew.cell? ⟨b, o + k * 3 + 1, none⟩ = some (.string x.2.1) ∧ wr.drew.cell? ⟨b, o + k * 3 + 2, none⟩ = some (.string x.2.2) ∧ wr.drew.cell? ⟨b', o' + k * 3, none⟩ = some (.string x.1) ∧ wr.drew.cell? ⟨b', o' + k * 3 + 1, none⟩ = some (.string x.2.1) ∧ wr.drew.cell? ⟨b', o' + k * 3 + 2, none⟩ = some (.string x.2.2) from ⟨c0, c1, c2, c0', c1', c2'⟩)
      have hz1 : b < wr.heap.size := Nat.lt_of_lt_of_le hbw hbe.size
      have hz2 : b' < wr.heap.size := Nat.lt_of_lt_of_le hbw' hbe.size
      go_wp2
      go_region_held3 (fun W => W.cell? ⟨b, o + k * 3, none⟩ = some (.string x.1) ∧ W.cell? ⟨b, o + k * 3 + 1, none⟩ = some (.string x.2.1) ∧ W.cell? ⟨b, o + k * 3 + 2, none⟩ = some (.string x.2.2) ∧ W.cell? ⟨b', o' + k * 3, none⟩ = some (.string x.1) ∧ W.cell? ⟨b', o' + k * 3 + 1, none⟩ = some (.string x.2.1) ∧ W.cell? ⟨b', o' + k * 3 + 2, none⟩ = some (.string x.2.2)) (first | exact HX.out | exact HX2.out) ((go_at_call 140; refine hq.out.mono ?_; rintro e w1 ⟨rfl, hb3⟩; have HX2 := hide (show w1.cell? ⟨b, o + k * 3, none⟩ = some (.string x.1) ∧ w1.cell? ⟨b, o + k * 3 + 1, none⟩ = some (.string x.2.1) ∧ w1.cell? ⟨b, o + k * 3 + 2, none⟩ = some (.string x.2.2) ∧ w1.cell? ⟨b', o' + k * 3, none⟩ = some (.string x.1) ∧ w1.cell? ⟨b', o' + k * 3 + 1, none⟩ = some (.string x.2.1) ∧ w1.cell? ⟨b', o' + k * 3 + 2, none⟩ = some (.string x.2.2) from ⟨(hb3.cell (p := ⟨b, o + k * 3, none⟩) hz1).trans c0, (hb3.cell (p := ⟨b, o + k * 3 + 1, none⟩) hz1).trans c1, (hb3.cell (p := ⟨b, o + k * 3 + 2, none⟩) hz1).trans c2, (hb3.cell (p := ⟨b', o' + k * 3, none⟩) hz2).trans c0', (hb3.cell (p := ⟨b', o' + k * 3 + 1, none⟩) hz2).trans c1', (hb3.cell (p := ⟨b', o' + k * 3 + 2, none⟩) hz2).trans c2'⟩)))
      all_goals
        have c9 := hbd.trans (hb3.mono hbd.size)
        clear hq hb3 HX HX2
        go_wp2
        go_roundw
        case rel => exact ⟨k + 1, by omega, by go_num, c9⟩
        case measure => simp [intOf]; omega
    · go_wp2
      go_ret
      exact ⟨rfl, hbe⟩
end Go.Proofs.YtfhcniifennfbaaGreatDoor
namespace Go.Proofs.YtfhcniifennfbaaGreatDoor
open Go.RowKit M
set_option linter.unusedVariables false

set_option maxRecDepth 100000 in
set_option maxHeartbeats 4000000 in
theorem eqRes_gen (x : Rs) (u0 t0 u4 t4 : Value) (B C : Nat) (w : World) (h0 : View w B u0 (.l (x.pa.map dS))) (j0 : View w C t0 (.l (x.pa.map dS))) (h4 : View w B u4 (.l (x.ps.map dPp))) (j4 : View w C t4 (.l (x.ps.map dPp))) (hB : B ≤ w.heap.size) (hC : C ≤ w.heap.size) :
    Calls Tryz.prog 72 #[.agg #[u0, .bool x.co, .string x.bo, .int .i64 x.ve, u4], .agg #[t0, .bool x.co, .string x.bo, .int .i64 x.ve, t4]] w fun e w' => e = .returned (.bool true) ∧ Below w.heap.size w w' := by
  have K0 := hide (show Below w.heap.size w ((w.alloc (Obj.cells #[u0, .bool x.co, .string x.bo, .int .i64 x.ve, u4] 108)).alloc (Obj.cells #[t0, .bool x.co, .string x.bo, .int .i64 x.ve, t4] 108)) from ((Below.refl _ _).alloc (Nat.le_refl _) _).alloc (by simp) _)
  have X0 := hide (show BoxV ((w.alloc (Obj.cells #[u0, .bool x.co, .string x.bo, .int .i64 x.ve, u4] 108)).alloc (Obj.cells #[t0, .bool x.co, .string x.bo, .int .i64 x.ve, t4] 108)) w.heap.size [u0, .bool x.co, .string x.bo, .int .i64 x.ve, u4] from (BoxV.made w [u0, .bool x.co, .string x.bo, .int .i64 x.ve, u4] 108).alloc _)
  have Y0 := hide (show BoxV ((w.alloc (Obj.cells #[u0, .bool x.co, .string x.bo, .int .i64 x.ve, u4] 108)).alloc (Obj.cells #[t0, .bool x.co, .string x.bo, .int .i64 x.ve, t4] 108)) (w.heap.size + 1) [t0, .bool x.co, .string x.bo, .int .i64 x.ve, t4] by have h := BoxV.made (w.alloc (Obj.cells #[u0, .bool x.co, .string x.bo, .int .i64 x.ve, u4] 108)) [t0, .bool x.co, .string x.bo, .int .i64 x.ve, t4] 108; simpa using h)
  have e3 : (x.ve == x.ve) = true := beq_self_eq_true _
  go_enter Tryz.func72, Tryz.ntmps72
  have HQ := hide (eqStringS_gen (x.pa) u0 t0 B C _ (h0.stays K0.out hB) (j0.stays K0.out hC) (Nat.le_trans hB K0.out.size) (Nat.le_trans hC K0.out.size))
  go_wp2_with fail
  refine HQ.out.mono ?_
  rintro e w1 ⟨rfl, b1⟩
  have K1 := hide (K0.out.trans (b1.mono K0.out.size))
  have X1 := hide (X0.out.next b1)
  have Y1 := hide (Y0.out.next b1)
  clear HQ b1 K0 X0 Y0
  have c1 := (X1.out.2 1 _ rfl).1
  have d1 := (Y1.out.2 1 _ rfl).1
  have c2 := (X1.out.2 2 _ rfl).1
  have d2 := (Y1.out.2 2 _ rfl).1
  have c3 := (X1.out.2 3 _ rfl).1
  have d3 := (Y1.out.2 3 _ rfl).1
  have c4 := (X1.out.2 4 _ rfl).1
  have d4 := (Y1.out.2 4 _ rfl).1
  have HQ := hide (eqPropS_gen (x.ps) u4 t4 B C _ (h4.stays K1.out hB) (j4.stays K1.out hC) (Nat.le_trans hB K1.out.size) (Nat.le_trans hC K1.out.size))
  go_wp2_with fail
  refine HQ.out.mono ?_
  rintro e w2 ⟨rfl, b2⟩
  have K2 := hide (K1.out.trans (b2.mono K1.out.size))
  have X2 := hide (X1.out.next b2)
  have Y2 := hide (Y1.out.next b2)
  clear HQ b2 K1 X1 Y1 c1 d1 c2 d2 c3 d3 c4 d4
  go_wp2
  go_ret
  exact ⟨rfl, K2.out⟩
end Go.Proofs.YtfhcniifennfbaaGreatDoor
namespace Go.Proofs.YtfhcniifennfbaaGreatDoor
open Go.RowKit M
set_option linter.unusedVariables false

set_option maxRecDepth 100000 in
set_option maxHeartbeats 4000000 in
theorem eqResS_gen (l : List Rs) (v v' : Value) (B B' : Nat) (w : World) (h : View w B v (.l (l.map dRs))) (h' : View w B' v' (.l (l.map dRs))) (hB : B ≤ w.heap.size) (hB' : B' ≤ w.heap.size) :
    Calls Tryz.prog 34 #[v, v'] w fun e w' => e = .returned (.bool true) ∧ Below w.heap.size w w' := by
  obtain ⟨a, cap, rfl, hl, hm, _, hat⟩ := h.rows 5 (fun _ => rfl)
  obtain ⟨a', cap', rfl, hl', hm', _, hat'⟩ := h'.rows 5 (fun _ => rfl)
  have hn : l.length ≤ maxLen := Nat.le_trans hl hm
  unfold maxLen at hn
  have HAT := hide hat
  have HAT' := hide hat'
  clear h h' hat hat' hl hl' hm hm'
  go_enter Tryz.func34, Tryz.ntmps34
  go_wp2
  go_loopw [5] (fun i wr => ∃ k : Nat, k ≤ l.length ∧ i = .int .i64 k ∧ Below w.heap.size w wr) (fun i _ => l.length - (intOf i).toNat)
  case atStart => exact ⟨0, Nat.zero_le _, rfl, Below.refl _ _⟩
  case round =>
    obtain ⟨k, hk, rfl, hbe⟩ := hrel
    by_cases hlt : k < l.length
    · obtain ⟨b, o, C, rfl, hb, hc⟩ := HAT.out (by omega)
      obtain ⟨b', o', C', rfl, hb', hc'⟩ := HAT'.out (by omega)
      have hck := hc k hlt
      have hck' := hc' k hlt
      have hbw : b < w.heap.size := Nat.lt_of_lt_of_le hb hB
      have hbw' : b' < w.heap.size := Nat.lt_of_lt_of_le hb' hB'
      have hi0 : (0 : Int) ≤ (k : Int) := by omega
      have hi1 : (k : Int) < (l.length : Int) := by omega
      obtain ⟨x, hx⟩ : ∃ x, l[k] = x := ⟨_, rfl⟩
      rw [hx] at hck hck'
      clear hx hc hc'
      obtain ⟨c0, v0⟩ := hck 0 (.l (x.pa.map dS)) rfl
      simp only [Nat.add_zero] at c0
      have c0 := (hbe.cell (p := ⟨b, o + k * 5, none⟩) hbw).trans c0
      have c1 : wr.cell? ⟨b, o + k * 5 + 1, none⟩ = some (.bool x.co) := by
        obtain ⟨c, v⟩ := hck 1 (.c (.bool x.co)) rfl
        rw [v.inv] at c
        exact (hbe.cell (p := ⟨b, o + k * 5 + 1, none⟩) hbw).trans c
      have c2 : wr.cell? ⟨b, o + k * 5 + 2, none⟩ = some (.string x.bo) := by
        obtain ⟨c, v⟩ := hck 2 (.c (.string x.bo)) rfl
        rw [v.inv] at c
        exact (hbe.cell (p := ⟨b, o + k * 5 + 2, none⟩) hbw).trans c
      have c3 : wr.cell? ⟨b, o + k * 5 + 3, none⟩ = some (.int .i64 x.ve) := by
        obtain ⟨c, v⟩ := hck 3 (.c (.int .i64 x.ve)) rfl
        rw [v.inv] at c
        exact (hbe.cell (p := ⟨b, o + k * 5 + 3, none⟩) hbw).trans c
      obtain ⟨c4, v4⟩ := hck 4 (.l (x.ps.map dPp)) rfl
      have c4 := (hbe.cell (p := ⟨b, o + k * 5 + 4, none⟩) hbw).trans c4
      obtain ⟨c0', v0'⟩ := hck' 0 (.l (x.pa.map dS)) rfl
      simp only [Nat.add_zero] at c0'
      have c0' := (hbe.cell (p := ⟨b', o' + k * 5, none⟩) hbw').trans c0'
      have c1' : wr.cell? ⟨b', o' + k * 5 + 1, none⟩ = some (.bool x.co) := by
        obtain ⟨c, v⟩ := hck' 1 (.c (.bool x.co)) rfl
        rw [v.inv] at c
        exact (hbe.cell (p := ⟨b', o' + k * 5 + 1, none⟩) hbw').trans c
      have c2' : wr.cell? ⟨b', o' + k * 5 + 2, none⟩ = some (.string x.bo) := by
        obtain ⟨c, v⟩ := hck' 2 (.c (.string x.bo)) rfl
        rw [v.inv] at c
        exact (hbe.cell (p := ⟨b', o' + k * 5 + 2, none⟩) hbw').trans c
      have c3' : wr.cell? ⟨b', o' + k * 5 + 3, none⟩ = some (.int .i64 x.ve) := by
        obtain ⟨c, v⟩ := hck' 3 (.c (.int .i64 x.ve)) rfl
        rw [v.inv] at c
        exact (hbe.cell (p := ⟨b', o' + k * 5 + 3, none⟩) hbw').trans c
      obtain ⟨c4', v4'⟩ := hck' 4 (.l (x.ps.map dPp)) rfl
      have c4' := (hbe.cell (p := ⟨b', o' + k * 5 + 4, none⟩) hbw').trans c4'
      clear hck hck'
      have hbd : Below w.heap.size w wr.drew := below_drewG hbe
      have hq := hide (eqRes_gen x (C k 0) (C' k 0) (C k 4) (C' k 4) B B' wr.drew (v0.stays hbd hB) (v0'.stays hbd hB') (v4.stays hbd hB) (v4'.stays hbd hB') (Nat.le_trans hB hbd.size) (Nat.le_trans hB' hbd.size))
      clear v0 v0' v4 v4'
      have HX := hide (show wr.drew.cell? ⟨b, o + k * 5, none⟩ = some (C k 0) ∧ wr.drew.cell? ⟨b, o + k * 5 + 1, none⟩ = some (.bool x.co) ∧ wr.drew.cell? ⟨b, o + k * 5 + 2, none⟩ = some (.string x.bo) ∧ wr.drew.cell? ⟨b, o + k * 5 + 3, none⟩ = some (.int .i64 x.ve) ∧ wr.drew.cell? ⟨b, o + k * 5 + 4, none⟩ = some (C k 4) ∧ wr.drew.cell? ⟨b', o' + k * 5, none⟩ = some (C' k 0) ∧ wr.drew.cell? ⟨b', o' + k * 5 + 1, none⟩ = some (.bool x.co) ∧ wr.drew.cell? ⟨b', o' + k * 5 + 2, none⟩ = some (.string x.bo) ∧ wr.drew.cell? ⟨b', o' + k * 5 + 3, none⟩ = some (.int .i64 x.ve) ∧ wr.drew.cell? ⟨b', o' + k * 5 + 4, none⟩ = some (C' k 4) from ⟨c0, c1, c2, c3, c4, c0', c1', c2', c3', c4'⟩)
      have hz1 : b < wr.heap.size := Nat.lt_of_lt_of_le hbw hbe.size
      have hz2 : b' < wr.heap.size := Nat.lt_of_lt_of_le hbw' hbe.size
      go_wp2
      go_region_held3 (fun W => W.cell? ⟨b, o + k * 5, none⟩ = some (C k 0) ∧ W.cell? ⟨b, o + k * 5 + 1, none⟩ = some (.bool x.co) ∧ W.cell? ⟨b, o + k * 5 + 2, none⟩ = some (.string x.bo) ∧ W.cell? ⟨b, o + k * 5 + 3, none⟩ = some (.int .i64 x.ve) ∧ W.cell? ⟨b, o + k * 5 + 4, none⟩ = some (C k 4) ∧ W.cell? ⟨b', o' + k * 5, none⟩ = some (C' k 0) ∧ W.cell? ⟨b', o' + k * 5 + 1, none⟩ = some (.bool x.co) ∧ W.cell? ⟨b', o' + k * 5 + 2, none⟩ = some (.string x.bo) ∧ W.cell? ⟨b', o' + k * 5 + 3, none⟩ = some (.int .i64 x.ve) ∧ W.cell? ⟨b', o' + k * 5 + 4, none⟩ = some (C' k 4)) (first | exact HX.out | exact HX2.out) ((go_at_call 72; refine hq.out.mono ?_; rintro e w1 ⟨rfl, hb3⟩; have HX2 := hide (show w1.cell? ⟨b, o + k * 5, none⟩ = some (C k 0) ∧ w1.cell? ⟨b, o + k * 5 + 1, none⟩ = some (.bool x.co) ∧ w1.cell? ⟨b, o + k * 5 + 2, none⟩ = some (.string x.bo) ∧ w1.cell? ⟨b, o + k * 5 + 3, none⟩ = some (.int .i64 x.ve) ∧ w1.cell? ⟨b, o + k * 5 + 4, none⟩ = some (C k 4) ∧ w1.cell? ⟨b', o' + k * 5, none⟩ = some (C' k 0) ∧ w1.cell? ⟨b', o' + k * 5 + 1, none⟩ = some (.bool x.co) ∧ w1.cell? ⟨b', o' + k * 5 + 2, none⟩ = some (.string x.bo) ∧ w1.cell? ⟨b', o' + k * 5 + 3, none⟩ = some (.int .i64 x.ve) ∧ w1.cell? ⟨b', o' + k * 5 + 4, none⟩ = some (C' k 4) from ⟨(hb3.cell (p := ⟨b, o + k * 5, none⟩) hz1).trans c0, (hb3.cell (p := ⟨b, o + k * 5 + 1, none⟩) hz1).trans c1, (hb3.cell (p := ⟨b, o + k * 5 + 2, none⟩) hz1).trans c2, (hb3.cell (p := ⟨b, o + k * 5 + 3, none⟩) hz1).trans c3, (hb3.cell (p := ⟨b, o + k * 5 + 4, none⟩) hz1).trans c4, (hb3.cell (p := ⟨b', o' + k * 5, none⟩) hz2).trans c0', (hb3.cell (p := ⟨b', o' + k * 5 + 1, none⟩) hz2).trans c1', (hb3.cell (p := ⟨b', o' + k * 5 + 2, none⟩) hz2).trans c2', (hb3.cell (p := ⟨b', o' + k * 5 + 3, none⟩) hz2).trans c3', (hb3.cell (p := ⟨b', o' + k * 5 + 4, none⟩) hz2).trans c4'⟩)))
      all_goals
        have c9 := hbd.trans (hb3.mono hbd.size)
        clear hq hb3 HX HX2
        go_wp2
        go_roundw
        case rel => exact ⟨k + 1, by omega, by go_num, c9⟩
        case measure => simp [intOf]; omega
    · go_wp2
      go_ret
      exact ⟨rfl, hbe⟩
end Go.Proofs.YtfhcniifennfbaaGreatDoor
