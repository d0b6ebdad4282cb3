/-
  A help of the laws, by program (tools/gen_help.py): Szz of Head.
-/
import Derived.Test.YtckhjemojopekaaRows
import Derived.Test.YtckhjemojopekaaGenLeaf
import Derived.Test.YtckhjemojopekaaGenBox
import Derived.Test.YtckhjemojopekaaGenHead
import Derived.Test.YtckhjemojopekaaGenSz1Head
import Derived.WalkKit
import Derived.WalkSpells
import Derived.WalkLawsBesides
import Derived.Deep.Light
import Derived.Deep.QuietTactic
import Derived.Deep.RegionHeld3
namespace Go.Proofs.Ytckhjemojopekaa
open Go.RowKit M
set_option linter.unusedVariables false

set_option maxRecDepth 100000 in
set_option maxHeartbeats 4000000 in
theorem szHeadS_gen (l : List Hd) (v : Value) (left B : Nat) (w : World) (h : View w B v (.l (l.map dHd))) (hB : B ≤ w.heap.size) (hok : okF (.l (l.map dHd))) (hleft : left ≤ 1048576) :
    Calls Try.prog 18 #[v, .int .i64 left] w fun e w' => (∃ z : Int, e = .returned (.int .i64 z) ∧ (z < 0 ∨ ∃ m : Nat, z = m ∧ szRs (l.map dHd) + m = left)) ∧ Below w.heap.size w w' := by
  obtain ⟨a, cap, rfl, hl, hm, _, hat⟩ := h.rows 2 (fun _ => rfl)
  have hl2 : l.length ≤ maxLen := Nat.le_trans hl hm
  unfold maxLen at hl2
  by_cases hlt0 : left < l.length
  · go_enter Try.func18, Try.ntmps18
    go_wp2
    go_ret
    exact ⟨⟨_, rfl, .inl (by omega)⟩, Below.refl _ _⟩
  · have HAT := hide hat
    have HOK := hide hok.1
    clear h hat hok
    go_enter Try.func18, Try.ntmps18
    go_wp2
    go_loopw [1, 5] (fun lv i wr => ∃ k m : Nat, k ≤ l.length ∧ i = .int .i64 k ∧ lv = .int .i64 m ∧ Hid (szRs ((l.take k).map dHd) + (l.length - k) + m = left) ∧ Below w.heap.size w wr) (fun _ i _ => l.length - (intOf i).toNat)
    case atStart => exact ⟨0, left - l.length, Nat.zero_le _, rfl, by congr 1; omega, (by show _ = _; simp [szRs]; omega), Below.refl _ _⟩
    case round =>
      obtain ⟨k, m, hk, rfl, rfl, HM, hbe⟩ := hrel
      by_cases hlt : k < l.length
      · obtain ⟨b, o, C, rfl, hb, hc⟩ := HAT.out (by omega)
        have hck := hc k hlt
        have HS2 := hide (szAtF_next dHd l k hlt)
        have hbw : b < w.heap.size := Nat.lt_of_lt_of_le hb hB
        have hm1 : m ≤ 1048576 := by have := HM.out; omega
        have hokx := (okRs_mem _ HOK.out _ (List.mem_map_of_mem (f := dHd) (List.getElem_mem hlt))).1
        obtain ⟨x, hx⟩ : ∃ x, l[k] = x := ⟨_, rfl⟩
        rw [hx] at hck HS2 hokx
        clear hx hc
        have c0 : wr.cell? ⟨b, o + k * 2, none⟩ = some (.string x.1) := by
          obtain ⟨c, v⟩ := hck 0 (.c (.string x.1)) rfl
          rw [v.inv] at c
          simp only [Nat.add_zero] at c
          exact (hbe.cell (p := ⟨b, o + k * 2, none⟩) hbw).trans c
        have c1 : wr.cell? ⟨b, o + k * 2 + 1, none⟩ = some (.string x.2) := by
          obtain ⟨c, v⟩ := hck 1 (.c (.string x.2)) rfl
          rw [v.inv] at c
          exact (hbe.cell (p := ⟨b, o + k * 2 + 1, none⟩) hbw).trans c
        clear hck
        have HC := hide (szHead_gen x m B wr (Nat.le_trans hB hbe.size) hokx hm1)
        clear hokx
        go_wp2_with fail
        refine HC.out.mono ?_
        rintro e w1 ⟨⟨z, rfl, hz⟩, hb1⟩
        have c9 := hbe.trans (hb1.mono hbe.size)
        rcases hz with hz | ⟨m', rfl, hm'⟩
        · go_wp2
          go_ret
          exact ⟨⟨_, rfl, .inl (by omega)⟩, c9⟩
        · have HM' := hide hm'
          clear hm'
          go_wp2
          go_roundw
          case rel => exact ⟨k + 1, m', by omega, by go_num, rfl, (by show _ = _; rw [HS2.out]; have := HM.out; have := HM'.out; omega), c9⟩
          case measure => simp [intOf]; omega
      · have HM2 := HM.out
        rw [List.take_of_length_le (by omega)] at HM2
        have HM3 := hide HM2
        clear HM2
        go_wp2
        go_ret
        exact ⟨⟨m, rfl, .inr ⟨m, rfl, by have := HM3.out; omega⟩⟩, hbe⟩
end Go.Proofs.Ytckhjemojopekaa
