/-
  What the laws' own helps on slices of texts do: sizes, copies, the same.
-/
import Derived.Test.YtackgogcpdbnlaaStrs
namespace Go.Proofs.Ytackgogcpdbnlaa
open Go.RowKit
set_option linter.unusedVariables false

set_option maxHeartbeats 400000 in
theorem szStringS_any (a : Option Addr) (ss : List ByteArray) (cap B left : Nat) (w : World) (h : Strs w B a ss) (hs : Short ss) (hl : ss.length ≤ maxLen) (hleft : left ≤ 1048576) :
    Calls Try.prog 28 #[.slice a ss.length cap, .int .i64 left] w fun e w' => (∃ z : Int, e = .returned (.int .i64 z) ∧ (z < 0 ∨ ∃ m : Nat, z = m ∧ ss.length + sumS ss + m = left)) ∧ w' = w := by
  unfold maxLen at hl
  by_cases hlt0 : left < ss.length
  · go_enter Try.func28, Try.ntmps28
    go_wp2
    go_ret
    exact ⟨⟨_, rfl, .inl (by omega)⟩, rfl⟩
  · go_enter Try.func28, Try.ntmps28
    go_wp2
    go_loop [1, 5] (fun l i => ∃ k m : Nat, k ≤ ss.length ∧ i = .int .i64 k ∧ l = .int .i64 m ∧ ss.length + sumS (ss.take k) + m = left) (fun _ i => ss.length - (intOf i).toNat)
    case atStart => exact ⟨0, left - ss.length, Nat.zero_le _, rfl, by congr 1; omega, by simp [sumS]; omega⟩
    case round =>
      obtain ⟨k, m, hk, rfl, rfl, hm⟩ := hrel
      by_cases hlt : k < ss.length
      · obtain ⟨b, o, rfl, hb, hc⟩ := h (by omega)
        have hcx := hc k hlt
        have hsz := hs.at k hlt
        unfold maxLen at hsz
        have HS := sumS_snoc ss k hlt
        by_cases hm2 : m < (ss[k]).size
        · go_wp2
          go_ret
          exact ⟨⟨_, rfl, .inl (by omega)⟩, rfl⟩
        · go_wp2
          go_round
          case rel => exact ⟨k + 1, m - (ss[k]).size, by omega, by go_num, by congr 1; omega, by omega⟩
          case measure => simp [intOf]; omega
      · go_wp2
        go_ret
        exact ⟨⟨m, rfl, .inr ⟨m, rfl, by rw [← sumS_all ss k hlt]; simpa [sumS_all ss k hlt] using hm⟩⟩, rfl⟩

set_option maxHeartbeats 400000 in
theorem toStringS_any (a : Option Addr) (ss : List ByteArray) (cap B : Nat) (w : World) (h : Strs w B a ss) (hB : B ≤ w.heap.size) (hl : ss.length ≤ 1048576) :
    Calls Try.prog 30 #[.slice a ss.length cap] w fun e w' => e = .returned (.slice (some ⟨w.heap.size, 0, none⟩) ss.length ss.length) ∧ Strs w' (w.heap.size + 1) (some ⟨w.heap.size, 0, none⟩) ss ∧ Below w.heap.size w w' ∧ w.heap.size < w'.heap.size := by
  have hmk := run_make_row' (P := Try.prog) 25 9 (.string ByteArray.empty) 16 Try.underlying25 info_str rfl .i64 .i64 ss.length (by omega) (by omega) w
  go_enter Try.func30, Try.ntmps30
  go_wp2
  clear hmk
  go_loopw [4] (fun i wr => ∃ k : Nat, k ≤ ss.length ∧ i = .int .i64 k ∧ wr.rowIs w.heap.size 9 ss.length (fun j => if j < k then .string (ss.getD j ByteArray.empty) else .string ByteArray.empty) ∧ Below w.heap.size w wr) (fun i _ => ss.length - (intOf i).toNat)
  case atStart => exact ⟨0, Nat.zero_le _, rfl, (World.rowIs_made w _ _ _).congr (fun i _ => by simp), (Below.refl _ _).alloc (Nat.le_refl _) _⟩
  case round =>
    obtain ⟨k, hk, rfl, hrow, hbe⟩ := hrel
    by_cases hlt : k < ss.length
    · obtain ⟨b, o, rfl, hb, hc⟩ := h (by omega)
      have hcx := (hbe.cell (p := ⟨b, o + k, none⟩) (Nat.lt_of_lt_of_le hb hB)).trans (hc k hlt)
      have hcn := hrow.cell hlt
      have hfn := hrow.frozen k
      have hrow2 := (hrow.set k (.string ss[k])).congr (g := fun j => if j < k + 1 then .string (ss.getD j ByteArray.empty) else .string ByteArray.empty) (fun j hj => by
        by_cases e : j = k
        · subst e; simp [List.getD, List.getElem?_eq_getElem hlt]
        · simp only [e, if_false]
          by_cases e2 : j < k
          · rw [if_pos e2, if_pos (by omega)]
          · rw [if_neg e2, if_neg (by omega)])
      have HR : Hid _ := hrow2
      clear hrow2
      go_wp2
      go_roundw
      case rel => exact ⟨k + 1, by omega, by go_num, HR.out, hbe.setCell (Nat.le_refl _) _⟩
      case measure => simp [intOf]; omega
    · go_wp2
      go_ret
      exact ⟨rfl, Strs.row hrow (Nat.le_refl _) (fun j hj => by rw [if_pos (by omega)]; simp [List.getD, List.getElem?_eq_getElem hj]) (Nat.lt_succ_self _), hbe, hrow.lt⟩

end Go.Proofs.Ytackgogcpdbnlaa
