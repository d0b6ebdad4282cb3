/-
  A help of the laws, by program (tools/gen_help.py): Too of CondS.
-/
import Derived.Test.YtmgikfeknmbpbabRows
import Derived.Test.YtmgikfeknmbpbabGenLeaf
import Derived.Test.YtmgikfeknmbpbabGenBox
import Derived.Test.YtmgikfeknmbpbabGenCond
import Derived.Test.YtmgikfeknmbpbabGenTooCondS
import Derived.WalkKit
import Derived.WalkSpells
import Derived.WalkLawsBesides
import Derived.Deep.Light
import Derived.Deep.QuietTactic
import Derived.Deep.RegionHeld3
namespace Go.Proofs.Ytmgikfeknmbpbab
open Go.RowKit M
set_option linter.unusedVariables false

theorem infoCondS_gen : (Try.prog.info? 38).map (fun i => (i.zero, i.size, i.bytes)) = some (some (.slice none 0 0), 1, 24) := by kernel_rfl
theorem makeCondSS_gen (n : Nat) (hn : n ≤ 1048577) (w : World) :
    (Instr.makeSlice 26 (.int .i64 (n : Int)) (.int .i64 (n : Int))).run Try.prog w = .ok (.slice (some ⟨w.heap.size, 0, none⟩) n n) (w.alloc (.cells (madeCells #[.slice none 0 0] (n * 1)) 38)) := by
  obtain ⟨i, hi, hz, hs, hb⟩ := info_parts infoCondS_gen
  have hr := run_make (P := Try.prog) w 26 38 i _ Try.underlying26 hi hz .i64 .i64 n n (by omega) (Int.le_refl _) (by rw [hb]; omega) (by omega)
  simp only [Int.toNat_natCast, hs] at hr
  exact hr

set_option maxRecDepth 100000 in
set_option maxHeartbeats 4000000 in
theorem toCondSS_gen (l : List (List Cn)) (v : Value) (B : Nat) (w : World) (h : View w B v (.l (l.map dCs))) (hB : B ≤ w.heap.size) (hsz : szRs (l.map dCs) ≤ 1048576) :
    Calls Try.prog 7 #[v] w fun e w' => (∃ p : Nat, e = .returned (.slice (some ⟨p, 0, none⟩) l.length l.length) ∧ Own w' (.slice (some ⟨p, 0, none⟩) l.length l.length) (.l (l.map dCs)) (IvG w.heap.size w'.heap.size)) ∧ Below w.heap.size w w' := by
  obtain ⟨a, cap, rfl, hl, hm, _, hat⟩ := h.rows 1 (fun _ => rfl)
  have hn : l.length ≤ 1048576 := by have := szRs_len (l.map dCs); rw [List.length_map] at this; omega
  have HAT := hide hat
  have HSZ := hide hsz
  have hmk := makeCondSS_gen l.length (by omega) w
  have hm0 := MadeG.start w #[.slice none 0 0] l.length 1 38 (rowsF dCs l)
  simp only [Nat.mul_one] at hm0
  have HM0 := hide hm0
  clear hm0
  clear h hat hsz
  go_enter Try.func7, Try.ntmps7
  go_wp2
  clear hmk
  go_loopw [4] (fun i wr => ∃ k : Nat, k ≤ l.length ∧ i = .int .i64 k ∧ Hid (MadeG wr w.heap.size 1 l.length (rowsF dCs l) k) ∧ Below w.heap.size w wr) (fun i _ => l.length - (intOf i).toNat)
  case atStart => exact ⟨0, Nat.zero_le _, rfl, HM0, (Below.refl _ _).alloc (Nat.le_refl _) _⟩
  case round =>
    obtain ⟨k, hk, rfl, HR, hbe⟩ := hrel
    by_cases hlt : k < l.length
    · obtain ⟨b, o, C, rfl, hb, hc⟩ := HAT.out (by omega)
      have hck := hc k hlt
      have hbw : b < w.heap.size := Nat.lt_of_lt_of_le hb hB
      have hsx := szRs_mem _ _ (List.mem_map_of_mem (f := dCs) (List.getElem_mem hlt))
      have hrk := rowsF_at (f := dCs) l k hlt
      obtain ⟨x, hx⟩ : ∃ x, l[k] = x := ⟨_, rfl⟩
      rw [hx] at hck hsx hrk
      clear hx hc
      obtain ⟨c0, v0⟩ := hck 0 (.l (x.map dCn)) rfl
      simp only [Nat.mul_one, Nat.add_zero] at c0
      have c0 := (hbe.cell (p := ⟨b, o + k, none⟩) hbw).trans c0
      clear hck
      rw [show szR (dCs x) = szR [.l (x.map dCn)] from rfl, show szR [.l (x.map dCn)] = szRs (x.map dCn) from by simp [szR, szF]] at hsx
      have HC := hide (toCondS_gen x (C k 0) B wr (v0.stays hbe hB) (Nat.le_trans hB hbe.size) (by have := HSZ.out; omega))
      clear v0
      go_wp2_with fail
      refine HC.out.mono ?_
      rintro e w1 ⟨⟨p0, rfl, o0⟩, b1⟩
      have HR2 := HR.out.next b1 hlt [.slice (some ⟨p0, 0, none⟩) (x).length (x).length] rfl (fun i y => (i = 0 ∧ IvG wr.heap.size w1.heap.size y)) (fun i y hy => by
        rw [hrk] at hy
        match i with
        | 0 => cases hy; exact ⟨_, rfl, o0.wide (fun y hy => ⟨rfl, hy⟩)⟩
        | i + 1 => cases hy) (fun i y hy => by unfold IvG at hy; omega) (fun i i' y hne hy hy' => by unfold IvG at hy hy'; omega)
      have hm1 := HR.out.next0 b1
      obtain ⟨e0, d0, f0⟩ := hm1.cell hlt 0 (by decide)
      simp only [Nat.mul_one, Nat.add_zero] at d0 f0
      simp only [Nat.mul_one] at HR2
      have HR3 := hide HR2
      have c9 := hbe.trans (b1.mono hbe.size)
      clear HR2 HR hm1 HC o0
      go_wp2
      go_roundw
      case rel => exact ⟨k + 1, by omega, by go_num, HR3, (c9.setCell (Nat.le_refl _) _)⟩
      case measure => simp [intOf]; omega
    · have hk2 : k = l.length := by omega
      subst hk2
      have HO := hide (HR.out.done (rows := l.map dCs) (by rw [List.length_map]) (by unfold maxLen; omega) (fun r hr => by obtain ⟨x, _, rfl⟩ := List.mem_map.1 hr; rfl) (fun j hj => by rw [rowsF_at l j (by simpa using hj)]; simp))
      go_wp2
      go_ret
      exact ⟨⟨_, rfl, HO.out⟩, hbe⟩
end Go.Proofs.Ytmgikfeknmbpbab
