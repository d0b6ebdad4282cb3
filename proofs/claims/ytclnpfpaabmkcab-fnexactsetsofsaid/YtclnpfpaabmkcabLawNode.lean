/-
  What the laws' own helps on nodes do: sizes, copies.
-/
import Derived.Test.YtclnpfpaabmkcabOwnNode
namespace Go.Proofs.Ytclnpfpaabmkcab
open Go.RowKit M
set_option linter.unusedVariables false

def SzS (K : Nat) : Prop := ∀ (ks : List Nd) (a : Option Addr) (cap B left : Nat) (w : World), cntL ks < K → Nds w B a ks → B ≤ w.heap.size → shortK ks → ks.length ≤ maxLen → left ≤ 1048576 →
    Calls Try.prog 73 #[.slice a ks.length cap, .int .i64 left] w fun e w' => (∃ z : Int, e = .returned (.int .i64 z) ∧ (z < 0 ∨ ∃ m : Nat, z = m ∧ ks.length + szL ks + m = left)) ∧ Below w.heap.size w w'

set_option maxHeartbeats 1000000 in
theorem szNode_of (K : Nat) (ih : SzS K) (n : Nd) (a : Option Addr) (cap B left : Nat) (w : World) (hn : cntL n.ks < K) (h : Nds w B a n.ks) (hB : B ≤ w.heap.size) (hs : n.short) (hleft : left ≤ 1048576) :
    Calls Try.prog 29 #[.agg #[.string n.ns, .string n.nm, .string n.tx, .slice a n.ks.length cap], .int .i64 left] w fun e w' => (∃ z : Int, e = .returned (.int .i64 z) ∧ (z < 0 ∨ ∃ m : Nat, z = m ∧ n.szN + m = left)) ∧ Below w.heap.size w w' := by
  rw [short_ks] at hs
  obtain ⟨h1, h2, h3, h4, h5⟩ := hs
  rw [szN_ks]
  obtain ⟨ra, rb, rc, ks⟩ := n
  simp only [Nd.ns, Nd.nm, Nd.tx, Nd.ks] at *
  unfold maxLen at h1 h2 h3
  by_cases hx : left < ra.size
  · go_enter Try.func29, Try.ntmps29
    go_wp2
    go_ret
    exact ⟨⟨_, rfl, .inl (by omega)⟩, (Below.refl _ _).alloc (Nat.le_refl _) _⟩
  · by_cases hy : left < ra.size + rb.size
    · go_enter Try.func29, Try.ntmps29
      go_wp2
      go_ret
      exact ⟨⟨_, rfl, .inl (by omega)⟩, (Below.refl _ _).alloc (Nat.le_refl _) _⟩
    · by_cases hv : left < ra.size + rb.size + rc.size
      · go_enter Try.func29, Try.ntmps29
        go_wp2
        go_ret
        exact ⟨⟨_, rfl, .inl (by omega)⟩, (Below.refl _ _).alloc (Nat.le_refl _) _⟩
      · have hb0 : Below w.heap.size w (w.alloc (.cells #[.string ra, .string rb, .string rc, .slice a ks.length cap] 52)) := (Below.refl _ _).alloc (Nat.le_refl _) _
        have hS := ih ks a cap B (left - ra.size - rb.size - rc.size) (w.alloc (.cells #[.string ra, .string rb, .string rc, .slice a ks.length cap] 52)) hn (h.stays hb0 hB) (by simp; omega) h5 h4 (by omega)
        have hq : (((left - ra.size - rb.size - rc.size : Nat)) : Int) = (left : Int) - ra.size - rb.size - rc.size := by omega
        rw [hq] at hS
        clear hq
        have HB0 : Hid _ := hb0
        clear hb0
        go_enter Try.func29, Try.ntmps29
        go_wp2_with fail
        refine hS.mono ?_
        rintro e w1 ⟨⟨z, rfl, hz⟩, hb1⟩
        clear hS
        have c1 := HB0.out.trans (hb1.mono (by simp))
        rcases hz with hz | ⟨m', rfl, hm'⟩
        · go_wp2
          go_ret
          exact ⟨⟨_, rfl, .inl (by omega)⟩, c1⟩
        · have hm1 : m' ≤ 1048576 := by omega
          have HM' : Hid (ks.length + szL ks + m' = left - ra.size - rb.size - rc.size) := hm'
          clear hm'
          go_wp2
          go_ret
          exact ⟨⟨_, rfl, .inr ⟨m', rfl, by have := HM'.out; omega⟩⟩, c1⟩

set_option maxHeartbeats 1000000 in
theorem szNodeS_all : ∀ K, SzS K := by
  intro K
  induction K with
  | zero => intro ks a cap B left w hn; exact absurd hn (Nat.not_lt_zero _)
  | succ K ih =>
    intro ks a cap B left w hn h hB hsh hl hleft
    unfold maxLen at hl
    have HI : Hid (SzS K) := ih
    clear ih
    by_cases hlt0 : left < ks.length
    · go_enter Try.func73, Try.ntmps73
      go_wp2
      go_ret
      exact ⟨⟨_, rfl, .inl (by omega)⟩, Below.refl _ _⟩
    · go_enter Try.func73, Try.ntmps73
      go_wp2
      go_loopw [1, 5] (fun l i wr => ∃ k m : Nat, k ≤ ks.length ∧ i = .int .i64 k ∧ l = .int .i64 m ∧ ks.length + szL (ks.take k) + m = left ∧ Below w.heap.size w wr) (fun _ i _ => ks.length - (intOf i).toNat)
      case atStart => exact ⟨0, left - ks.length, Nat.zero_le _, rfl, by congr 1; omega, by simp [szL]; omega, Below.refl _ _⟩
      case round =>
        obtain ⟨k, m, hk, rfl, rfl, hm, hbe⟩ := hrel
        by_cases hlt : k < ks.length
        · obtain ⟨b, o, rfl, hb, hc⟩ := (h.stays hbe hB).at (by omega)
          obtain ⟨ak, ck, hc0, hc1, hc2, hc3, hkk⟩ := hc k hlt
          have hsz := shortK_at ks hsh k hlt
          have HS2 := hide (szL_snoc ks k hlt)
          have HM : Hid (ks.length + szL (ks.take k) + m = left) := hm
          clear hm hc
          have hm1 : m ≤ 1048576 := by have := HM.out; omega
          have hcn : cntL (ks[k]).ks < K := by have := cntL_at ks k hlt; omega
          go_wp2_with fail
          refine (szNode_of K HI.out ks[k] ak ck B m wr hcn hkk (Nat.le_trans hB hbe.size) hsz hm1).mono ?_
          rintro e w1 ⟨⟨z, rfl, hz⟩, hb1⟩
          have c1 := hbe.trans (hb1.mono hbe.size)
          rcases hz with hz | ⟨m', rfl, hm'⟩
          · go_wp2
            go_ret
            exact ⟨⟨_, rfl, .inl (by omega)⟩, c1⟩
          · have HM' : Hid ((ks[k]).szN + m' = m) := hm'
            clear hm'
            go_wp2
            go_roundw
            case rel => exact ⟨k + 1, m', by omega, by go_num, rfl, by rw [HS2.out]; have := HM.out; have := HM'.out; omega, c1⟩
            case measure => simp [intOf]; omega
        · go_wp2
          go_ret
          exact ⟨⟨m, rfl, .inr ⟨m, rfl, by rw [List.take_of_length_le (by omega)] at hm; exact hm⟩⟩, hbe⟩

theorem szNode_any (n : Nd) (a : Option Addr) (cap B left : Nat) (w : World) (h : Nds w B a n.ks) (hB : B ≤ w.heap.size) (hs : n.short) (hleft : left ≤ 1048576) :
    Calls Try.prog 29 #[.agg #[.string n.ns, .string n.nm, .string n.tx, .slice a n.ks.length cap], .int .i64 left] w fun e w' => (∃ z : Int, e = .returned (.int .i64 z) ∧ (z < 0 ∨ ∃ m : Nat, z = m ∧ n.szN + m = left)) ∧ Below w.heap.size w w' :=
  szNode_of (cntL n.ks + 1) (szNodeS_all _) n a cap B left w (Nat.lt_succ_self _) h hB hs hleft
end Go.Proofs.Ytclnpfpaabmkcab
