/-
  What the laws' own helps on lists of locks do: sizes, copies.
-/
import Derived.Test.YtackgogcpdbnlaaLawLock
import Derived.Test.YtackgogcpdbnlaaRowsLM
namespace Go.Proofs.Ytackgogcpdbnlaa
open Go.RowKit M
set_option linter.unusedVariables false

theorem maxK {rs : List Lk} (h : rs.length + sumK rs ≤ 1048577) : ∀ r ∈ rs, r.pa.length ≤ maxLen := fun r hr => by
  have h1 := sumK_mem rs r hr
  unfold szK at h1
  unfold maxLen
  omega

set_option maxHeartbeats 1000000 in
theorem szLockS_any (a : Option Addr) (rs : List Lk) (cap B left : Nat) (w : World) (h : Lks w B a rs) (hB : B ≤ w.heap.size) (hsh : ShortK rs) (hl : rs.length ≤ maxLen) (hleft : left ≤ 1048576) :
    Calls Try.prog 33 #[.slice a rs.length cap, .int .i64 left] w fun e w' => (∃ z : Int, e = .returned (.int .i64 z) ∧ (z < 0 ∨ ∃ m : Nat, z = m ∧ rs.length + sumK rs + m = left)) ∧ Below w.heap.size w w' := by
  unfold maxLen at hl
  by_cases hlt0 : left < rs.length
  · go_enter Try.func33, Try.ntmps33
    go_wp2
    go_ret
    exact ⟨⟨_, rfl, .inl (by omega)⟩, Below.refl _ _⟩
  · go_enter Try.func33, Try.ntmps33
    go_wp2
    go_loopw [1, 5] (fun l i wr => ∃ k m : Nat, k ≤ rs.length ∧ i = .int .i64 k ∧ l = .int .i64 m ∧ rs.length + sumK (rs.take k) + m = left ∧ Below w.heap.size w wr) (fun _ i _ => rs.length - (intOf i).toNat)
    case atStart => exact ⟨0, left - rs.length, Nat.zero_le _, rfl, by congr 1; omega, by simp [sumK]; omega, Below.refl _ _⟩
    case round =>
      obtain ⟨k, m, hk, rfl, rfl, hm, hbe⟩ := hrel
      by_cases hlt : k < rs.length
      · obtain ⟨b, o, rfl, hb, hc⟩ := (h.below hbe hB) (by omega)
        obtain ⟨pa, pc, ⟨hc0, hc1, hc2, hc3, hc4⟩, hin⟩ := hc k hlt
        have hsz := hsh.at k hlt
        have HS2 := hide (sumK_snoc rs k hlt)
        have HM : Hid (rs.length + sumK (rs.take k) + m = left) := hm
        clear hm hc
        have hm1 : m ≤ 1048576 := by have := HM.out; omega
        have HC := hide (szLock_any rs[k] pa pc B m wr hin (Nat.le_trans hB hbe.size) hsz hm1)
        clear hin hsz
        go_wp2_with fail
        refine HC.out.mono ?_
        rintro e w1 ⟨⟨z, rfl, hz⟩, hb1⟩
        have c1 := hbe.trans (hb1.mono hbe.size)
        rcases hz with hz | ⟨m', rfl, hm'⟩
        · go_wp2
          go_ret
          exact ⟨⟨_, rfl, .inl (by omega)⟩, c1⟩
        · have HM' := hide hm'
          clear hm'
          go_wp2
          go_roundw
          case rel => exact ⟨k + 1, m', by omega, by go_num, rfl, by rw [HS2.out]; have := HM.out; have := HM'.out; omega, c1⟩
          case measure => simp [intOf]; omega
      · go_wp2
        go_ret
        exact ⟨⟨m, rfl, .inr ⟨m, rfl, by rw [List.take_of_length_le (by omega)] at hm; exact hm⟩⟩, hbe⟩

set_option maxHeartbeats 1000000 in
theorem toLockS_any (a : Option Addr) (rs : List Lk) (cap B : Nat) (w : World) (h : Lks w B a rs) (hB : B ≤ w.heap.size) (hl : rs.length + sumK rs ≤ 1048576) :
    Calls Try.prog 34 #[.slice a rs.length cap] w fun e w' => e = .returned (.slice (some ⟨w.heap.size, 0, none⟩) rs.length rs.length) ∧ (∃ pb, OwnL w' w.heap.size w'.heap.size w.heap.size rs pb) ∧ Below w.heap.size w w' := by
  have hl1 : rs.length ≤ 1048576 := by omega
  have HMX := hide (maxK (rs := rs) (by omega))
  have HL := hide hl
  clear hl
  have hmk := run_make_locks rs.length (by omega) w
  go_enter Try.func34, Try.ntmps34
  go_wp2
  clear hmk
  go_loopw [4] (fun i wr => ∃ k : Nat, k ≤ rs.length ∧ i = .int .i64 k ∧ MadeL wr w.heap.size rs k ∧ Below w.heap.size w wr) (fun i _ => rs.length - (intOf i).toNat)
  case atStart => exact ⟨0, Nat.zero_le _, rfl, MadeL.start w rs, (Below.refl _ _).alloc (Nat.le_refl _) _⟩
  case round =>
    obtain ⟨k, hk, rfl, hrow, hbe⟩ := hrel
    by_cases hlt : k < rs.length
    · obtain ⟨b, o, rfl, hb, hc⟩ := (h.below hbe hB) (by omega)
      obtain ⟨pa, pc, ⟨hc0, hc1, hc2, hc3, hc4⟩, hin⟩ := hc k hlt
      clear hc
      have hm := sumK_mem rs _ (List.getElem_mem hlt)
      have hsz : szK rs[k] = (rs[k]).pa.length + sumS (rs[k]).pa := rfl
      have HC := hide (toLock_any rs[k] pa pc B wr hin (Nat.le_trans hB hbe.size) (by have := HL.out; omega))
      clear hm hsz hin
      go_wp2_with fail
      refine HC.out.mono ?_
      rintro e w1 ⟨⟨p, rfl, hp, rp⟩, hb1⟩
      have c1 := hbe.trans (hb1.mono hbe.size)
      obtain ⟨v0, v1, v2, v3, v4, hd0, hd1, hd2, hd3, hd4, hf0, hf1, hf2, hf3, hf4⟩ := (hrow.below hb1).cells hlt
      have HR := hide (hrow.next hb1 hlt p hp rp)
      clear hrow rp hp
      go_wp2
      go_roundw
      case rel => exact ⟨k + 1, by omega, by go_num, HR.out, ((((c1.setCell (Nat.le_refl _) _).setCell (Nat.le_refl _) _).setCell (Nat.le_refl _) _).setCell (Nat.le_refl _) _).setCell (Nat.le_refl _) _⟩
      case measure => simp [intOf]; omega
    · go_wp2
      go_ret
      exact ⟨rfl, hrow.done hlt HMX.out, hbe⟩
end Go.Proofs.Ytackgogcpdbnlaa
