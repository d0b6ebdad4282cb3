/-
  What the laws' own helps on a lock do: sizes, copies, the same.
-/
import Derived.Test.YtackgogcpdbnlaaLocks
import Derived.Test.YtackgogcpdbnlaaLawStrs
import Derived.Test.YtackgogcpdbnlaaEqStrs
import Derived.Test.YtackgogcpdbnlaaToRow
namespace Go.Proofs.Ytackgogcpdbnlaa
open Go.RowKit M
set_option linter.unusedVariables false

set_option maxHeartbeats 1000000 in
theorem szLock_any (r : Lk) (pa : Option Addr) (pc B left : Nat) (w : World) (h : LkIn w B r pa pc) (hB : B ≤ w.heap.size) (hs : ShortLk r) (hleft : left ≤ 1048576) :
    Calls Try.prog 23 #[.agg #[.int .i64 r.tk, .slice pa r.pa.length pc, .bool r.de, .bool r.sh, .int .i64 r.un], .int .i64 left] w fun e w' => (∃ z : Int, e = .returned (.int .i64 z) ∧ (z < 0 ∨ ∃ m : Nat, z = m ∧ szK r + m = left)) ∧ Below w.heap.size w w' := by
  have h1 := h.ph
  have s1 := hs.ps
  have l1 := hs.pl
  have HZ : Hid (szK r = r.pa.length + sumS r.pa) := rfl
  clear h hs
  obtain ⟨tk, ss, de, sh, un⟩ := r
  simp only at *
  generalize szK ⟨tk, ss, de, sh, un⟩ = Z at *
  have hb0 : Below w.heap.size w (w.alloc (.cells #[.int .i64 tk, .slice pa ss.length pc, .bool de, .bool sh, .int .i64 un] 43)) := (Below.refl _ _).alloc (Nat.le_refl _) _
  have k1 := h1.below hb0 hB
  have HS := hide (szStringS_any pa ss pc B left _ k1 s1 l1 hleft)
  have HB := hide hb0
  clear hb0 k1 h1
  go_enter Try.func23, Try.ntmps23
  go_wp2_with fail
  refine HS.out.mono ?_
  rintro e w1 ⟨⟨z, rfl, hz⟩, hw⟩
  obtain rfl := hw
  rcases hz with hz | ⟨m, rfl, hm⟩
  · go_wp2
    go_ret
    exact ⟨⟨_, rfl, .inl (by omega)⟩, HB.out⟩
  have hm1 : m ≤ 1048576 := by omega
  have HM := hide hm
  clear hm
  go_wp2
  go_ret
  exact ⟨⟨_, rfl, .inr ⟨m, rfl, by rw [HZ.out]; exact HM.out⟩⟩, HB.out⟩

set_option maxHeartbeats 1000000 in
theorem toLock_any (r : Lk) (pa : Option Addr) (pc B : Nat) (w : World) (h : LkIn w B r pa pc) (hB : B ≤ w.heap.size) (hp : r.pa.length ≤ 1048576) :
    Calls Try.prog 25 #[.agg #[.int .i64 r.tk, .slice pa r.pa.length pc, .bool r.de, .bool r.sh, .int .i64 r.un]] w fun e w' => (∃ p : Nat, e = .returned (.agg #[.int .i64 r.tk, .slice (some ⟨p, 0, none⟩) r.pa.length r.pa.length, .bool r.de, .bool r.sh, .int .i64 r.un]) ∧ w.heap.size ≤ p ∧ RowS w' p r.pa) ∧ Below w.heap.size w w' := by
  have h1 := h.ph
  clear h
  obtain ⟨tk, ss, de, sh, un⟩ := r
  simp only at *
  have H1 := hide h1
  clear h1
  go_enter Try.func25, Try.ntmps25
  go_wp2_with fail
  have hb0 : Below w.heap.size w (((w.alloc (Obj.cells #[.int .i64 tk, .slice pa ss.length pc, .bool de, .bool sh, .int .i64 un] 43)).alloc (Obj.cells #[.int .i64 0, .slice none 0 0, .bool false, .bool false, .int .i64 0] 27)).alloc (Obj.cells #[.int .i64 tk, .slice none 0 0, .bool false, .bool false, .int .i64 0] 27)) := (((Below.refl _ _).alloc (Nat.le_refl _) _).alloc (by simp) _).alloc (by simp; omega) _
  refine (toStringS_row pa ss pc B _ (H1.out.below hb0 hB) (by simp; omega) hp).mono ?_
  rintro e w1 ⟨rfl, r1, b1⟩
  have hc1 := hb0.trans (b1.mono hb0.size)
  obtain ⟨hc, hf⟩ := bcellL b1
  have HR1 := hide (show RowS w1 (w.heap.size + 1 + 1 + 1) ss by simpa using r1)
  have HC1 := hide hc1
  clear hc1 b1 r1 hb0
  go_wp2
  refine bodyPost_ret (v := .agg #[.int .i64 tk, .slice (some ⟨w.heap.size + 1 + 1 + 1, 0, none⟩) ss.length ss.length, .bool de, .bool sh, .int .i64 un]) (by simp [results, Try.results25, go_sem, hc]) rfl ⟨⟨_, rfl, by omega, ?_⟩, ?_⟩
  · repeat' refine RowS.setCellL ?_ _ _ (by simp)
    exact HR1.out
  · repeat' refine Below.setCell ?_ (by simp; try omega) _
    exact HC1.out
end Go.Proofs.Ytackgogcpdbnlaa
