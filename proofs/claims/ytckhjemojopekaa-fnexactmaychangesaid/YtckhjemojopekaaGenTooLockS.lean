/-
  A help of the laws, by program (tools/gen_help.py): Too of Lock.
-/
import Derived.Test.YtckhjemojopekaaRows
import Derived.Test.YtckhjemojopekaaMathSmall
import Derived.Test.YtckhjemojopekaaGenTo1Lock
import Derived.WalkKit
import Derived.WalkSpells
import Derived.WalkLawsBesides
import Derived.Deep.Light
import Derived.Deep.QuietTactic
import Derived.Deep.RegionHeld3
namespace Go.Proofs.Ytckhjemojopekaa
open Go.RowKit M
set_option linter.unusedVariables false

theorem infoLock_gen : (Try.prog.info? 102).map (fun i => (i.zero, i.size, i.bytes)) = some (some (.agg #[.int .i64 0, .slice none 0 0, .bool false, .bool false, .int .i64 0]), 5, 48) := by kernel_rfl
theorem makeLockS_gen (n : Nat) (hn : n ≤ 1048577) (w : World) :
    (Instr.makeSlice 45 (.int .i64 (n : Int)) (.int .i64 (n : Int))).run Try.prog w = .ok (.slice (some ⟨w.heap.size, 0, none⟩) n n) (w.alloc (.cells (madeCells #[.int .i64 0, .slice none 0 0, .bool false, .bool false, .int .i64 0] (n * 5)) 102)) := by
  obtain ⟨i, hi, hz, hs, hb⟩ := info_parts infoLock_gen
  have hr := run_make (P := Try.prog) w 45 102 i _ Try.underlying45 hi hz .i64 .i64 n n (by omega) (Int.le_refl _) (by rw [hb]; omega) (by omega)
  simp only [Int.toNat_natCast, hs] at hr
  exact hr

set_option maxRecDepth 100000 in
set_option maxHeartbeats 4000000 in
theorem toLockS_gen (l : List Lk) (v : Value) (B : Nat) (w : World) (h : View w B v (.l (l.map dLk))) (hB : B ≤ w.heap.size) (hsz : szRs (l.map dLk) ≤ 1048576) :
    Calls Try.prog 33 #[v] w fun e w' => (∃ p : Nat, e = .returned (.slice (some ⟨p, 0, none⟩) l.length l.length) ∧ Own w' (.slice (some ⟨p, 0, none⟩) l.length l.length) (.l (l.map dLk)) (IvG w.heap.size w'.heap.size)) ∧ Below w.heap.size w w' := by
  obtain ⟨a, cap, rfl, hl, hm, _, hat⟩ := h.rows 5 (fun _ => rfl)
  have hn : l.length ≤ 1048576 := by have := szRs_len (l.map dLk); rw [List.length_map] at this; omega
  have HAT := hide hat
  have HSZ := hide hsz
  have hmk := makeLockS_gen l.length (by omega) w
  have hm0 := MadeG.start w #[.int .i64 0, .slice none 0 0, .bool false, .bool false, .int .i64 0] l.length 5 102 (rowsF dLk l)
  have HM0 := hide hm0
  clear hm0
  clear h hat hsz
  go_enter Try.func33, Try.ntmps33
  go_wp2
  clear hmk
  go_loopw [4] (fun i wr => ∃ k : Nat, k ≤ l.length ∧ i = .int .i64 k ∧ Hid (MadeG wr w.heap.size 5 l.length (rowsF dLk l) k) ∧ Below w.heap.size w wr) (fun i _ => l.length - (intOf i).toNat)
  case atStart => exact ⟨0, Nat.zero_le _, rfl, HM0, (Below.refl _ _).alloc (Nat.le_refl _) _⟩
  case round =>
    obtain ⟨k, hk, rfl, HR, hbe⟩ := hrel
    by_cases hlt : k < l.length
    · obtain ⟨b, o, C, rfl, hb, hc⟩ := HAT.out (by omega)
      have hck := hc k hlt
      have hbw : b < w.heap.size := Nat.lt_of_lt_of_le hb hB
      have hsx := szRs_mem _ _ (List.mem_map_of_mem (f := dLk) (List.getElem_mem hlt))
      have hrk := rowsF_at (f := dLk) l k hlt
      obtain ⟨x, hx⟩ : ∃ x, l[k] = x := ⟨_, rfl⟩
      rw [hx] at hck hsx hrk
      clear hx hc
      have c0 : wr.cell? ⟨b, o + k * 5, none⟩ = some (.int .i64 x.tk) := by
        obtain ⟨c, v⟩ := hck 0 (.c (.int .i64 x.tk)) rfl
        rw [v.inv] at c
        simp only [Nat.add_zero] at c
        exact (hbe.cell (p := ⟨b, o + k * 5, none⟩) hbw).trans c
      obtain ⟨c1, v1⟩ := hck 1 (.l (x.pa.map dS)) rfl
      have c1 := (hbe.cell (p := ⟨b, o + k * 5 + 1, none⟩) hbw).trans c1
      have c2 : wr.cell? ⟨b, o + k * 5 + 2, none⟩ = some (.bool x.de) := by
        obtain ⟨c, v⟩ := hck 2 (.c (.bool x.de)) rfl
        rw [v.inv] at c
        exact (hbe.cell (p := ⟨b, o + k * 5 + 2, none⟩) hbw).trans c
      have c3 : wr.cell? ⟨b, o + k * 5 + 3, none⟩ = some (.bool x.sh) := by
        obtain ⟨c, v⟩ := hck 3 (.c (.bool x.sh)) rfl
        rw [v.inv] at c
        exact (hbe.cell (p := ⟨b, o + k * 5 + 3, none⟩) hbw).trans c
      have c4 : wr.cell? ⟨b, o + k * 5 + 4, none⟩ = some (.int .i64 x.un) := by
        obtain ⟨c, v⟩ := hck 4 (.c (.int .i64 x.un)) rfl
        rw [v.inv] at c
        exact (hbe.cell (p := ⟨b, o + k * 5 + 4, none⟩) hbw).trans c
      clear hck
      have HC := hide (toLock_gen x (C k 1) B wr (v1.stays hbe hB) (Nat.le_trans hB hbe.size) (by have := HSZ.out; omega))
      clear v1
      go_wp2_with fail
      refine HC.out.mono ?_
      rintro e w1 ⟨⟨p1, n1, rfl, o1, s1, hlast⟩, b1⟩
      have HR2 := HR.out.next b1 hlt [.int .i64 x.tk, .slice (some ⟨p1, 0, none⟩) (x.pa).length (x.pa).length, .bool x.de, .bool x.sh, .int .i64 x.un] rfl (fun i y => (i = 1 ∧ IvG wr.heap.size n1 y)) (fun i y hy => by
        rw [hrk] at hy
        match i with
        | 0 => cases hy; exact ⟨_, rfl, .c _ _⟩
        | 1 => cases hy; exact ⟨_, rfl, o1.wide (fun y hy => ⟨rfl, hy⟩)⟩
        | 2 => cases hy; exact ⟨_, rfl, .c _ _⟩
        | 3 => cases hy; exact ⟨_, rfl, .c _ _⟩
        | 4 => cases hy; exact ⟨_, rfl, .c _ _⟩
        | i + 5 => cases hy) (fun i y hy => by unfold IvG at hy; omega) (fun i i' y hne hy hy' => by unfold IvG at hy hy'; omega)
      have hm1 := HR.out.next0 b1
      obtain ⟨e0, d0, f0⟩ := hm1.cell hlt 0 (by decide)
      simp only [Nat.add_zero] at d0 f0
      obtain ⟨e1, d1, f1⟩ := hm1.cell hlt 1 (by decide)
      obtain ⟨e2, d2, f2⟩ := hm1.cell hlt 2 (by decide)
      obtain ⟨e3, d3, f3⟩ := hm1.cell hlt 3 (by decide)
      obtain ⟨e4, d4, f4⟩ := hm1.cell hlt 4 (by decide)
      have HR3 := hide HR2
      have c9 := hbe.trans (b1.mono hbe.size)
      clear HR2 HR hm1 HC o1 s1
      go_wp2
      go_roundw
      case rel => exact ⟨k + 1, by omega, by go_num, HR3, (((((c9.setCell (Nat.le_refl _) _).setCell (Nat.le_refl _) _).setCell (Nat.le_refl _) _).setCell (Nat.le_refl _) _).setCell (Nat.le_refl _) _)⟩
      case measure => simp [intOf]; omega
    · have hk2 : k = l.length := by omega
      subst hk2
      have HO := hide (HR.out.done (rows := l.map dLk) (by rw [List.length_map]) (by unfold maxLen; omega) (fun r hr => by obtain ⟨x, _, rfl⟩ := List.mem_map.1 hr; rfl) (fun j hj => by rw [rowsF_at l j (by simpa using hj)]; simp))
      go_wp2
      go_ret
      exact ⟨⟨_, rfl, HO.out⟩, hbe⟩
end Go.Proofs.Ytckhjemojopekaa
