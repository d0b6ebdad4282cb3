/-
  A help of the laws, by program (tools/gen_help.py): Szz of String.
-/
import Derived.Test.YtackgogcpdbnlabRows
import Derived.Test.YtackgogcpdbnlabGenLeaf
import Derived.Test.YtackgogcpdbnlabGenBox
import Derived.WalkKit
import Derived.WalkSpells
import Derived.WalkLawsBesides
import Derived.Deep.Light
import Derived.Deep.QuietTactic
import Derived.Deep.RegionHeld3
namespace Go.Proofs.Ytackgogcpdbnlab
open Go.RowKit M
set_option linter.unusedVariables false

set_option maxRecDepth 100000 in
set_option maxHeartbeats 4000000 in
theorem szStringS_gen (l : List ByteArray) (v : Value) (left B : Nat) (w : World) (h : View w B v (.l (l.map dS))) (hB : B ≤ w.heap.size) (hok : okF (.l (l.map dS))) (hleft : left ≤ 1048576) :
    Calls Try.prog 23 #[v, .int .i64 left] w fun e w' => (∃ z : Int, e = .returned (.int .i64 z) ∧ (z < 0 ∨ ∃ m : Nat, z = m ∧ szRs (l.map dS) + m = left)) ∧ Below w.heap.size w w' := by
  obtain ⟨a, cap, rfl, hl, hm, _, hat⟩ := h.rows 1 (fun _ => rfl)
  have hl2 : l.length ≤ maxLen := Nat.le_trans hl hm
  unfold maxLen at hl2
  by_cases hlt0 : left < l.length
  · go_enter Try.func23, Try.ntmps23
    go_wp2
    go_ret
    exact ⟨⟨_, rfl, .inl (by omega)⟩, Below.refl _ _⟩
  · have HAT := hide hat
    have HOK := hide hok.1
    clear h hat hok
    go_enter Try.func23, Try.ntmps23
    go_wp2
    go_loopw [1, 5] (fun lv i wr => ∃ k m : Nat, k ≤ l.length ∧ i = .int .i64 k ∧ lv = .int .i64 m ∧ Hid (szRs ((l.take k).map dS) + (l.length - k) + m = left) ∧ Below w.heap.size w wr) (fun _ i _ => l.length - (intOf i).toNat)
    case atStart => exact ⟨0, left - l.length, Nat.zero_le _, rfl, by congr 1; omega, (by show _ = _; simp [szRs]; omega), Below.refl _ _⟩
    case round =>
      obtain ⟨k, m, hk, rfl, rfl, HM, hbe⟩ := hrel
      by_cases hlt : k < l.length
      · obtain ⟨b, o, C, rfl, hb, hc⟩ := HAT.out (by omega)
        have hck := hc k hlt
        have HS2 := hide (szAtF_next dS l k hlt)
        have hbw : b < w.heap.size := Nat.lt_of_lt_of_le hb hB
        have hm1 : m ≤ 1048576 := by have := HM.out; omega
        have hokx := (okRs_mem _ HOK.out _ (List.mem_map_of_mem (f := dS) (List.getElem_mem hlt))).1
        obtain ⟨x, hx⟩ : ∃ x, l[k] = x := ⟨_, rfl⟩
        rw [hx] at hck HS2 hokx
        clear hx hc
        have c0 : wr.cell? ⟨b, o + k, none⟩ = some (.string x) := by
          obtain ⟨c, v⟩ := hck 0 (.c (.string x)) rfl
          rw [v.inv] at c
          simp only [Nat.mul_one, Nat.add_zero] at c
          exact (hbe.cell (p := ⟨b, o + k, none⟩) hbw).trans c
        clear hck
        have s0 : x.size ≤ maxLen := okR_mem hokx (.c (.string x)) (by simp [dS])
        unfold maxLen at s0
        by_cases q : m < x.size
        · go_wp2
          go_ret
          exact ⟨⟨_, rfl, .inl (by omega)⟩, hbe⟩
        · go_wp2
          go_roundw
          case rel => exact ⟨k + 1, m - x.size, by omega, by go_num, by first | go_num | (congr 1; omega), (by show _ = _; rw [HS2.out]; have := HM.out; simp only [dS, szR, szF, szV]; omega), hbe⟩
          case measure => simp [intOf]; omega
      · have HM2 := HM.out
        rw [List.take_of_length_le (by omega)] at HM2
        have HM3 := hide HM2
        clear HM2
        go_wp2
        go_ret
        exact ⟨⟨m, rfl, .inr ⟨m, rfl, by have := HM3.out; omega⟩⟩, hbe⟩
end Go.Proofs.Ytackgogcpdbnlab
