/-
  A help of the laws, by program (tools/gen_help.py): Too of Prop.
-/
import Derived.Test.YtckhjemojopekaaRows
import Derived.Test.YtckhjemojopekaaMathSmall
import Derived.Test.YtckhjemojopekaaGenProp
import Derived.Test.YtckhjemojopekaaGenTo1Prop
import Derived.WalkKit
import Derived.WalkSpells
import Derived.WalkLawsBesides
import Derived.Deep.Light
import Derived.Deep.QuietTactic
import Derived.Deep.RegionHeld3
namespace Go.Proofs.Ytckhjemojopekaa
open Go.RowKit M
set_option linter.unusedVariables false

theorem infoProp_gen : (Try.prog.info? 129).map (fun i => (i.zero, i.size, i.bytes)) = some (some (.agg #[.string ByteArray.empty, .string ByteArray.empty, .string ByteArray.empty]), 3, 48) := by kernel_rfl
theorem makePropS_gen (n : Nat) (hn : n ≤ 1048577) (w : World) :
    (Instr.makeSlice 98 (.int .i64 (n : Int)) (.int .i64 (n : Int))).run Try.prog w = .ok (.slice (some ⟨w.heap.size, 0, none⟩) n n) (w.alloc (.cells (madeCells #[.string ByteArray.empty, .string ByteArray.empty, .string ByteArray.empty] (n * 3)) 129)) := by
  obtain ⟨i, hi, hz, hs, hb⟩ := info_parts infoProp_gen
  have hr := run_make (P := Try.prog) w 98 129 i _ Try.underlying98 hi hz .i64 .i64 n n (by omega) (Int.le_refl _) (by rw [hb]; omega) (by omega)
  simp only [Int.toNat_natCast, hs] at hr
  exact hr

set_option maxRecDepth 100000 in
set_option maxHeartbeats 4000000 in
theorem toPropS_gen (l : List Pp) (v : Value) (B : Nat) (w : World) (h : View w B v (.l (l.map dPp))) (hB : B ≤ w.heap.size) (hsz : szRs (l.map dPp) ≤ 1048576) :
    Calls Try.prog 77 #[v] w fun e w' => (∃ p : Nat, e = .returned (.slice (some ⟨p, 0, none⟩) l.length l.length) ∧ Own w' (.slice (some ⟨p, 0, none⟩) l.length l.length) (.l (l.map dPp)) (IvG w.heap.size w'.heap.size)) ∧ Below w.heap.size w w' := by
  obtain ⟨a, cap, rfl, hl, hm, _, hat⟩ := h.rows 3 (fun _ => rfl)
  have hn : l.length ≤ 1048576 := by have := szRs_len (l.map dPp); rw [List.length_map] at this; omega
  have HAT := hide hat
  have HSZ := hide hsz
  have hmk := makePropS_gen l.length (by omega) w
  have hm0 := MadeG.start w #[.string ByteArray.empty, .string ByteArray.empty, .string ByteArray.empty] l.length 3 129 (rowsF dPp l)
  have HM0 := hide hm0
  clear hm0
  clear h hat hsz
  go_enter Try.func77, Try.ntmps77
  go_wp2
  clear hmk
  go_loopw [4] (fun i wr => ∃ k : Nat, k ≤ l.length ∧ i = .int .i64 k ∧ Hid (MadeG wr w.heap.size 3 l.length (rowsF dPp l) k) ∧ Below w.heap.size w wr) (fun i _ => l.length - (intOf i).toNat)
  case atStart => exact ⟨0, Nat.zero_le _, rfl, HM0, (Below.refl _ _).alloc (Nat.le_refl _) _⟩
  case round =>
    obtain ⟨k, hk, rfl, HR, hbe⟩ := hrel
    by_cases hlt : k < l.length
    · obtain ⟨b, o, C, rfl, hb, hc⟩ := HAT.out (by omega)
      have hck := hc k hlt
      have hbw : b < w.heap.size := Nat.lt_of_lt_of_le hb hB
      have hsx := szRs_mem _ _ (List.mem_map_of_mem (f := dPp) (List.getElem_mem hlt))
      have hrk := rowsF_at (f := dPp) l k hlt
      obtain ⟨x, hx⟩ : ∃ x, l[k] = x := ⟨_, rfl⟩
      rw [hx] at hck hsx hrk
      clear hx hc
      have c0 : wr.cell? ⟨b, o + k * 3, none⟩ = some (.string x.1) := by
        obtain ⟨c, v⟩ := hck 0 (.c (.string x.1)) rfl
        rw [v.inv] at c
        simp only [Nat.add_zero] at c
        exact (hbe.cell (p := ⟨b, o + k * 3, none⟩) hbw).trans c
      have c1 : wr.cell? ⟨b, o + k * 3 + 1, none⟩ = some (.string x.2.1) := by
        obtain ⟨c, v⟩ := hck 1 (.c (.string x.2.1)) rfl
        rw [v.inv] at c
        exact (hbe.cell (p := ⟨b, o + k * 3 + 1, none⟩) hbw).trans c
      have c2 : wr.cell? ⟨b, o + k * 3 + 2, none⟩ = some (.string x.2.2) := by
        obtain ⟨c, v⟩ := hck 2 (.c (.string x.2.2)) rfl
        rw [v.inv] at c
        exact (hbe.cell (p := ⟨b, o + k * 3 + 2, none⟩) hbw).trans c
      clear hck
      have HC := hide (toProp_gen x B wr (Nat.le_trans hB hbe.size) (by have := HSZ.out; omega))
      go_wp2_with fail
      refine HC.out.mono ?_
      rintro e w1 ⟨rfl, b1⟩
      have HR2 := HR.out.next b1 hlt [.string x.1, .string x.2.1, .string x.2.2] rfl (fun i y => False) (fun i y hy => by
        rw [hrk] at hy
        match i with
        | 0 => cases hy; exact ⟨_, rfl, .c _ _⟩
        | 1 => cases hy; exact ⟨_, rfl, .c _ _⟩
        | 2 => cases hy; exact ⟨_, rfl, .c _ _⟩
        | i + 3 => cases hy) (fun i y hy => by exact hy.elim) (fun i i' y hne hy hy' => by exact hy.elim)
      have hm1 := HR.out.next0 b1
      obtain ⟨e0, d0, f0⟩ := hm1.cell hlt 0 (by decide)
      simp only [Nat.add_zero] at d0 f0
      obtain ⟨e1, d1, f1⟩ := hm1.cell hlt 1 (by decide)
      obtain ⟨e2, d2, f2⟩ := hm1.cell hlt 2 (by decide)
      have HR3 := hide HR2
      have c9 := hbe.trans (b1.mono hbe.size)
      clear HR2 HR hm1 HC
      go_wp2
      go_roundw
      case rel => exact ⟨k + 1, by omega, by go_num, HR3, (((c9.setCell (Nat.le_refl _) _).setCell (Nat.le_refl _) _).setCell (Nat.le_refl _) _)⟩
      case measure => simp [intOf]; omega
    · have hk2 : k = l.length := by omega
      subst hk2
      have HO := hide (HR.out.done (rows := l.map dPp) (by rw [List.length_map]) (by unfold maxLen; omega) (fun r hr => by obtain ⟨x, _, rfl⟩ := List.mem_map.1 hr; rfl) (fun j hj => by rw [rowsF_at l j (by simpa using hj)]; simp))
      go_wp2
      go_ret
      exact ⟨⟨_, rfl, HO.out⟩, hbe⟩
end Go.Proofs.Ytckhjemojopekaa
