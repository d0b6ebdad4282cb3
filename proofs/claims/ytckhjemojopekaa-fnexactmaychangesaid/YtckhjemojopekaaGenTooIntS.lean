/-
  A help of the laws, by program (tools/gen_help.py): Too of Int.
-/
import Derived.Test.YtckhjemojopekaaRows
import Derived.Test.YtckhjemojopekaaMathSmall
import Derived.WalkKit
import Derived.WalkSpells
import Derived.WalkLawsBesides
import Derived.Deep.Light
import Derived.Deep.QuietTactic
import Derived.Deep.RegionHeld3
namespace Go.Proofs.Ytckhjemojopekaa
open Go.RowKit M
set_option linter.unusedVariables false

theorem infoInt_gen : (Try.prog.info? 3).map (fun i => (i.zero, i.size, i.bytes)) = some (some (.int .i64 0), 1, 8) := by kernel_rfl
theorem makeIntS_gen (n : Nat) (hn : n ≤ 1048577) (w : World) :
    (Instr.makeSlice 35 (.int .i64 (n : Int)) (.int .i64 (n : Int))).run Try.prog w = .ok (.slice (some ⟨w.heap.size, 0, none⟩) n n) (w.alloc (.cells (madeCells #[.int .i64 0] (n * 1)) 3)) := by
  obtain ⟨i, hi, hz, hs, hb⟩ := info_parts infoInt_gen
  have hr := run_make (P := Try.prog) w 35 3 i _ Try.underlying35 hi hz .i64 .i64 n n (by omega) (Int.le_refl _) (by rw [hb]; omega) (by omega)
  simp only [Int.toNat_natCast, hs] at hr
  exact hr

set_option maxRecDepth 100000 in
set_option maxHeartbeats 4000000 in
theorem toIntS_gen (l : List Int) (v : Value) (B : Nat) (w : World) (h : View w B v (.l (l.map dI))) (hB : B ≤ w.heap.size) (hsz : szRs (l.map dI) ≤ 1048576) :
    Calls Try.prog 34 #[v] w fun e w' => (∃ p : Nat, e = .returned (.slice (some ⟨p, 0, none⟩) l.length l.length) ∧ Own w' (.slice (some ⟨p, 0, none⟩) l.length l.length) (.l (l.map dI)) (IvG w.heap.size w'.heap.size)) ∧ Below w.heap.size w w' := by
  obtain ⟨a, cap, rfl, hl, hm, _, hat⟩ := h.rows 1 (fun _ => rfl)
  have hn : l.length ≤ 1048576 := by have := szRs_len (l.map dI); rw [List.length_map] at this; omega
  have HAT := hide hat
  have HSZ := hide hsz
  have hmk := makeIntS_gen l.length (by omega) w
  have hm0 := MadeG.start w #[.int .i64 0] l.length 1 3 (rowsF dI l)
  simp only [Nat.mul_one] at hm0
  have HM0 := hide hm0
  clear hm0
  clear h hat hsz
  go_enter Try.func34, Try.ntmps34
  go_wp2
  clear hmk
  go_loopw [4] (fun i wr => ∃ k : Nat, k ≤ l.length ∧ i = .int .i64 k ∧ Hid (MadeG wr w.heap.size 1 l.length (rowsF dI l) k) ∧ Below w.heap.size w wr) (fun i _ => l.length - (intOf i).toNat)
  case atStart => exact ⟨0, Nat.zero_le _, rfl, HM0, (Below.refl _ _).alloc (Nat.le_refl _) _⟩
  case round =>
    obtain ⟨k, hk, rfl, HR, hbe⟩ := hrel
    by_cases hlt : k < l.length
    · obtain ⟨b, o, C, rfl, hb, hc⟩ := HAT.out (by omega)
      have hck := hc k hlt
      have hbw : b < w.heap.size := Nat.lt_of_lt_of_le hb hB
      have hsx := szRs_mem _ _ (List.mem_map_of_mem (f := dI) (List.getElem_mem hlt))
      have hrk := rowsF_at (f := dI) l k hlt
      obtain ⟨x, hx⟩ : ∃ x, l[k] = x := ⟨_, rfl⟩
      rw [hx] at hck hsx hrk
      clear hx hc
      have c0 : wr.cell? ⟨b, o + k, none⟩ = some (.int .i64 x) := by
        obtain ⟨c, v⟩ := hck 0 (.c (.int .i64 x)) rfl
        rw [v.inv] at c
        simp only [Nat.mul_one, Nat.add_zero] at c
        exact (hbe.cell (p := ⟨b, o + k, none⟩) hbw).trans c
      clear hck
      obtain ⟨u, hu, fu⟩ := HR.out.cell hlt 0 (by decide)
      simp only [Nat.mul_one, Nat.add_zero] at hu fu
      have HR2 := HR.out.next (Below.refl _ wr) hlt [.int .i64 x] rfl (fun _ _ => False) (fun i y hy => by
        rw [hrk] at hy
        match i with
        | 0 => cases hy; exact ⟨_, rfl, .c _ _⟩
        | i + 1 => cases hy) (fun _ _ h => h.elim) (fun _ _ _ _ h => h.elim)
      simp only [Nat.mul_one] at HR2
      have HR3 := hide HR2
      clear HR2 HR
      go_wp2
      go_roundw
      case rel => exact ⟨k + 1, by omega, by go_num, HR3, hbe.setCell (Nat.le_refl _) _⟩
      case measure => simp [intOf]; omega
    · have hk2 : k = l.length := by omega
      subst hk2
      have HO := hide (HR.out.done (rows := l.map dI) (by rw [List.length_map]) (by unfold maxLen; omega) (fun r hr => by obtain ⟨x, _, rfl⟩ := List.mem_map.1 hr; rfl) (fun j hj => by rw [rowsF_at l j (by simpa using hj)]; simp))
      go_wp2
      go_ret
      exact ⟨⟨_, rfl, HO.out⟩, hbe⟩
end Go.Proofs.Ytckhjemojopekaa
