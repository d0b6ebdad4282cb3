/-
  What the laws' own helps on things do: sizes, copies.
-/
import Derived.Test.YtepdfppbnepamabRess
import Derived.Test.YtepdfppbnepamabLawProps
import Derived.Test.YtepdfppbnepamabLawStrs
import Derived.Test.YtepdfppbnepamabToRow
namespace Go.Proofs.Ytepdfppbnepamab
open Go.RowKit M
set_option linter.unusedVariables false

theorem sumL_is (ss : List ByteArray) : sumL ss = sumS ss := rfl

set_option maxHeartbeats 1000000 in
theorem szRes_any (r : Rs) (pa : Option Addr) (pc : Nat) (qa : Option Addr) (qc B left : Nat) (w : World) (h : RsIn w B r pa pc qa qc) (hB : B ≤ w.heap.size) (hs : ShortRs r) (hleft : left ≤ 1048576) :
    Calls Try.prog 18 #[.agg #[.slice pa r.pa.length pc, .bool r.co, .string r.bo, .int .i64 r.ve, .slice qa r.ps.length qc], .int .i64 left] w fun e w' => (∃ z : Int, e = .returned (.int .i64 z) ∧ (z < 0 ∨ ∃ m : Nat, z = m ∧ szR r + m = left)) ∧ Below w.heap.size w w' := by
  have hbo := hs.bo
  unfold maxLen at hbo
  have h1 := h.ph
  have h2 := h.qh
  have s1 := hs.ps
  have s2 := hs.qs
  have l1 := hs.pl
  have l2 := hs.ql
  have HZ : Hid (szR r = r.pa.length + sumS r.pa + r.bo.size + (r.ps.length + sumP r.ps)) := rfl
  clear h hs
  obtain ⟨ss, co, bo, ve, ps⟩ := r
  simp only at *
  generalize szR ⟨ss, co, bo, ve, ps⟩ = Z at *
  have hb0 : Below w.heap.size w (w.alloc (.cells #[.slice pa ss.length pc, .bool co, .string bo, .int .i64 ve, .slice qa ps.length qc] 40)) := (Below.refl _ _).alloc (Nat.le_refl _) _
  have k1 := h1.below hb0 hB
  have k2 := h2.below hb0 hB
  have hB0 : B ≤ (w.alloc (.cells #[.slice pa ss.length pc, .bool co, .string bo, .int .i64 ve, .slice qa ps.length qc] 40)).heap.size := Nat.le_trans hB hb0.size
  have HS := hide (fun left hl => szStringS_any pa ss pc B left _ k1 s1 l1 hl)
  have HP := hide (fun left hl => szPropS_any qa ps qc B left _ k2 hB0 s2 l2 hl)
  have HB := hide hb0
  clear hb0 k1 k2 h1 h2
  go_enter Try.func18, Try.ntmps18
  go_wp2_with fail
  refine (HS.out left hleft).mono ?_
  rintro e w1 ⟨⟨z, rfl, hz⟩, hw⟩
  obtain rfl := hw
  rcases hz with hz | ⟨m, rfl, hm⟩
  · go_wp2
    go_ret
    exact ⟨⟨_, rfl, .inl (by omega)⟩, HB.out⟩
  by_cases hb : m < bo.size
  · have hm1 : m ≤ 1048576 := by omega
    go_wp2
    go_ret
    exact ⟨⟨_, rfl, .inl (by omega)⟩, HB.out⟩
  have hm1 : m ≤ 1048576 := by omega
  have HM := hide hm
  clear hm
  have hq : (((m - bo.size : Nat)) : Int) = (m : Int) - bo.size := by omega
  have hP := HP.out (m - bo.size) (by omega)
  rw [hq] at hP
  have HP2 := hide hP
  clear hP hq
  go_wp2_with fail
  refine HP2.out.mono ?_
  rintro e w1 ⟨⟨z, rfl, hz⟩, hb1⟩
  have c1 := HB.out.trans (hb1.mono (by simp))
  rcases hz with hz | ⟨m', rfl, hm'⟩
  · go_wp2
    go_ret
    exact ⟨⟨_, rfl, .inl (by omega)⟩, c1⟩
  · have hm1' : m' ≤ 1048576 := by omega
    have HM' := hide hm'
    clear hm'
    go_wp2
    go_ret
    exact ⟨⟨_, rfl, .inr ⟨m', rfl, by rw [HZ.out]; have := HM'.out; have := HM.out; omega⟩⟩, c1⟩

set_option maxHeartbeats 1000000 in
theorem szResS_any (a : Option Addr) (rs : List Rs) (cap B left : Nat) (w : World) (h : Rss w B a rs) (hB : B ≤ w.heap.size) (hsh : ShortT rs) (hl : rs.length ≤ maxLen) (hleft : left ≤ 1048576) :
    Calls Try.prog 5 #[.slice a rs.length cap, .int .i64 left] w fun e w' => (∃ z : Int, e = .returned (.int .i64 z) ∧ (z < 0 ∨ ∃ m : Nat, z = m ∧ rs.length + sumR rs + m = left)) ∧ Below w.heap.size w w' := by
  unfold maxLen at hl
  by_cases hlt0 : left < rs.length
  · go_enter Try.func5, Try.ntmps5
    go_wp2
    go_ret
    exact ⟨⟨_, rfl, .inl (by omega)⟩, Below.refl _ _⟩
  · go_enter Try.func5, Try.ntmps5
    go_wp2
    go_loopw [1, 5] (fun l i wr => ∃ k m : Nat, k ≤ rs.length ∧ i = .int .i64 k ∧ l = .int .i64 m ∧ rs.length + sumR (rs.take k) + m = left ∧ Below w.heap.size w wr) (fun _ i _ => rs.length - (intOf i).toNat)
    case atStart => exact ⟨0, left - rs.length, Nat.zero_le _, rfl, by congr 1; omega, by simp [sumR]; omega, Below.refl _ _⟩
    case round =>
      obtain ⟨k, m, hk, rfl, rfl, hm, hbe⟩ := hrel
      by_cases hlt : k < rs.length
      · obtain ⟨b, o, rfl, hb, hc⟩ := (h.below hbe hB) (by omega)
        obtain ⟨pa, pc, qa, qc, ⟨hc0, hc1, hc2, hc3, hc4⟩, hin⟩ := hc k hlt
        have hsz := hsh.at k hlt
        have HS2 := hide (sumR_snoc rs k hlt)
        have HM : Hid (rs.length + sumR (rs.take k) + m = left) := hm
        clear hm hc
        have hm1 : m ≤ 1048576 := by have := HM.out; omega
        have HC := hide (szRes_any rs[k] pa pc qa qc B m wr hin (Nat.le_trans hB hbe.size) hsz hm1)
        clear hin hsz
        go_wp2_with fail
        refine HC.out.mono ?_
        rintro e w1 ⟨⟨z, rfl, hz⟩, hb1⟩
        have c1 := hbe.trans (hb1.mono hbe.size)
        rcases hz with hz | ⟨m', rfl, hm'⟩
        · go_wp2
          go_ret
          exact ⟨⟨_, rfl, .inl (by omega)⟩, c1⟩
        · have HM' := hide hm'
          clear hm'
          go_wp2
          go_roundw
          case rel => exact ⟨k + 1, m', by omega, by go_num, rfl, by rw [HS2.out]; have := HM.out; have := HM'.out; omega, c1⟩
          case measure => simp [intOf]; omega
      · go_wp2
        go_ret
        exact ⟨⟨m, rfl, .inr ⟨m, rfl, by rw [List.take_of_length_le (by omega)] at hm; exact hm⟩⟩, hbe⟩
end Go.Proofs.Ytepdfppbnepamab
