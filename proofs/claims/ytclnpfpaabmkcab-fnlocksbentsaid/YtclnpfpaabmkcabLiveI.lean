/-
  What impl.LiveLocks does.
-/
import Derived.Test.YtclnpfpaabmkcabLockOps
import Derived.Test.YtclnpfpaabmkcabSpecPl
import Derived.Test.YtclnpfpaabmkcabRowC
namespace Go.Proofs.Ytclnpfpaabmkcab
open Go.RowKit M
set_option linter.unusedVariables false

set_option maxHeartbeats 1000000 in
theorem liveFn_any (r : Lk) (pa : Option Addr) (pc N : Nat) (now : Int) (w : World) (h : w.cell? ⟨N, 0, none⟩ = some (.int .i64 now)) :
    Calls Try.prog 63 #[.agg #[.int .i64 r.tk, .slice pa r.pa.length pc, .bool r.de, .bool r.sh, .int .i64 r.un], .pointer (some ⟨N, 0, none⟩)] w fun e w' => e = .returned (.bool (liveB now r)) ∧ Below w.heap.size w w' := by
  have hb := (Below.refl w.heap.size w).alloc (Nat.le_refl _) (Obj.cells #[.int .i64 r.tk, .slice pa r.pa.length pc, .bool r.de, .bool r.sh, .int .i64 r.un] 26)
  have hN : N < w.heap.size := World.block_lt_of_cell? w _ h
  have h1 := (hb.cell (p := ⟨N, 0, none⟩) hN).trans h
  have HB := hide hb
  clear hb
  go_enter Try.func63, Try.ntmps63
  go_wp2
  go_ret
  exact ⟨rfl, HB.out⟩

set_option maxHeartbeats 2000000 in
theorem liveLocks_any (a : Option Addr) (l : List Lk) (cap B : Nat) (now : Int) (w : World) (h : Lks w B a l) (hB : B ≤ w.heap.size) (hl : l.length ≤ 1048576) (hs : ∀ r ∈ l, r.pa.length ≤ 1048576 ∧ ∀ s ∈ r.pa, s.size ≤ 281474976710656) :
    Calls Try.prog 22 #[.slice a l.length cap, .int .i64 now] w fun e w' => (∃ g : Nat, e = .returned (.slice (some ⟨g, 0, none⟩) (l.filter (liveB now)).length (l.filter (liveB now)).length) ∧ w.heap.size ≤ g ∧ ∃ pb, OwnL w' g w'.heap.size g (l.filter (liveB now)) pb) ∧ Below w.heap.size w w' := by
  have hmf : ∀ (fn : Fn) (first cap : Array Value) (w : World), (Instr.makeFunc fn first cap).run Try.prog w = .ok (.func fn first cap) w := fun _ _ _ _ => rfl
  have hb0 := (Below.refl w.heap.size w).alloc (Nat.le_refl _) (Obj.cells #[.int .i64 now] 3)
  have hcell : (w.alloc (Obj.cells #[.int .i64 now] 3)).cell? ⟨w.heap.size, 0, none⟩ = some (.int .i64 now) := by simp
  have HT := hide (those_any 63 (fun args w => enter_fn Try.func63 (by kernel_rfl) rfl args w) #[.pointer (some ⟨w.heap.size, 0, none⟩)] (liveB now) a l cap B _ (h.below hb0 hB) (Nat.le_trans hB hb0.size) (by omega) (fun k hk pa pc W hW _ => liveFn_any l[k] pa pc w.heap.size now W ((hW.cell (p := ⟨w.heap.size, 0, none⟩) (by simp)).trans hcell)))
  have HB0 := hide hb0
  have HS := hide (fun r (hr : r ∈ l.filter (liveB now)) => hs r ((List.mem_filter.1 hr).1))
  have hle := List.length_filter_le (liveB now) l
  clear hb0 hcell h hs
  go_enter Try.func22, Try.ntmps22
  go_wp2_with fail
  refine HT.out.mono ?_
  rintro e w1 ⟨⟨g, n, c, ts, rfl, hn, hc1, hc2, hg, hgl, hts, hrow, hin⟩, b1⟩
  have hln : n = (l.filter (liveB now)).length := by rw [hn, ← hts, List.length_map]
  have HC1 := hide (HB0.out.trans (b1.mono HB0.out.size))
  have HQ := hide (copyLocks_any (some ⟨g, 0, none⟩) (l.filter (liveB now)) c w1.heap.size w1 (lks_of_rowV hts hrow hin (Nat.le_trans hB HC1.out.size)) (Nat.le_refl _) (by omega) HS.out)
  rw [← hln] at HQ
  have HL := hide hln
  clear hts hrow hin hn hln b1
  go_wp2_with fail
  refine HQ.out.mono ?_
  rintro e w2 ⟨⟨g2, rfl, hg2, hO⟩, b2⟩
  have HC2 := hide (HC1.out.trans (b2.mono HC1.out.size))
  have HO := hide hO
  have hg3 := Nat.le_trans HC1.out.size hg2
  clear hO b2
  go_wp2
  go_ret
  have hl2 := HL.out
  subst hl2
  exact ⟨⟨g2, rfl, hg3, HO.out⟩, HC2.out⟩
end Go.Proofs.Ytclnpfpaabmkcab
