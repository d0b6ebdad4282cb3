/-
  What impl.FindRes does.
-/
import Derived.Test.YtckhjemojopekaaSliceEq
import Derived.Test.YtckhjemojopekaaSamePathI
namespace Go.Proofs.Ytckhjemojopekaa
open Go.RowKit M
set_option linter.unusedVariables false

theorem ret_int10 {a b : Int} (h : a = b) : Ending.returned (.int .i64 a) = .returned (.int .i64 b) := by rw [h]

set_option maxHeartbeats 1000000 in
theorem findRes1_any (r : Rs) (pa : Option Addr) (pc : Nat) (qa : Option Addr) (qc B : Nat) (a' : Option Addr) (p : List ByteArray) (cap' C c : Nat) (w : World) (h : RsIn w B r pa pc qa qc) (h' : Strs w C a' p) (hl' : p.length ≤ maxLen) (hc : w.cell? ⟨c, 0, none⟩ = some (.slice a' p.length cap')) (hB : B ≤ w.heap.size) (hC : C ≤ w.heap.size) (hcl : c < w.heap.size) :
    Calls Try.prog 90 #[.agg #[.slice pa r.pa.length pc, .bool r.co, .string r.bo, .int .i64 r.ve, .slice qa r.ps.length qc], .pointer (some ⟨c, 0, none⟩)] w fun e w' => e = .returned (.bool (sameL r.pa p)) ∧ Below w.heap.size w w' := by
  have l1 : r.pa.length ≤ maxLen := Nat.le_trans h.pl h.pm
  have p1 := h.ph
  clear h
  obtain ⟨ss, co, bo, ve, ps⟩ := r
  simp only at *
  have hb0 : Below w.heap.size w (w.alloc (Obj.cells #[.slice pa ss.length pc, .bool co, .string bo, .int .i64 ve, .slice qa ps.length qc] 100)) := (Below.refl _ _).alloc (Nat.le_refl _) _
  have HE := hide (samePath_any pa a' ss p pc cap' B C _ (p1.below hb0 hB) (h'.below hb0 hC) l1 hl')
  have HB0 := hide hb0
  have hc0 := (hb0.cell (p := ⟨c, 0, none⟩) hcl).trans hc
  clear p1 h' hb0 hc
  go_enter Try.func90, Try.ntmps90
  go_wp2_with fail
  refine HE.out.mono ?_
  rintro e w1 ⟨rfl, hb1⟩
  have HC1 := hide (HB0.out.trans (hb1 _))
  clear hb1
  go_wp2
  go_ret
  exact ⟨rfl, HC1.out⟩

set_option maxHeartbeats 1000000 in
theorem indexFunc_any (a : Option Addr) (rs : List Rs) (cap B : Nat) (a' : Option Addr) (p : List ByteArray) (cap' C c : Nat) (w : World) (h : Rss w B a rs) (h' : Strs w C a' p) (hl : rs.length ≤ maxLen) (hl' : p.length ≤ maxLen) (hc : w.cell? ⟨c, 0, none⟩ = some (.slice a' p.length cap')) (hB : B ≤ w.heap.size) (hC : C ≤ w.heap.size) (hcl : c < w.heap.size) :
    Calls Try.prog 89 #[.slice a rs.length cap, .func (.func 90) #[] #[.pointer (some ⟨c, 0, none⟩)]] w fun e w' => e = .returned (.int .i64 (findI rs p)) ∧ Below w.heap.size w w' := by
  unfold maxLen at hl
  go_enter Try.func89, Try.ntmps89
  go_wp2
  go_loopw [8] (fun i wr => ∃ k : Nat, k ≤ rs.length ∧ i = .int .i64 k ∧ (∀ j (hj : j < rs.length), j < k → sameL rs[j].pa p = false) ∧ Below w.heap.size w wr) (fun i _ => rs.length - (intOf i).toNat)
  case atStart => exact ⟨0, Nat.zero_le _, rfl, fun j _ hj => absurd hj (Nat.not_lt_zero _), Below.refl _ _⟩
  case round =>
    obtain ⟨k, hk, rfl, ht, hbe⟩ := hrel
    have HT := hide ht
    clear ht
    by_cases hlt : k < rs.length
    · obtain ⟨b, o, rfl, hb, hcc⟩ := (h.below hbe hB) (by omega)
      obtain ⟨pa, pc, qa, qc, ⟨hc0, hc1, hc2, hc3, hc4⟩, hin⟩ := hcc k hlt
      clear hcc
      have HC := hide (findRes1_any rs[k] pa pc qa qc B a' p cap' C c wr hin (h'.below hbe hC) hl' ((hbe.cell (p := ⟨c, 0, none⟩) hcl).trans hc) (Nat.le_trans hB hbe.size) (Nat.le_trans hC hbe.size) (Nat.lt_of_lt_of_le hcl hbe.size))
      obtain ⟨z, hz⟩ : ∃ z, sameL rs[k].pa p = z := ⟨_, rfl⟩
      rw [hz] at HC
      have HZ := hide hz
      clear hz hin
      go_wp2_with fail
      refine HC.out.mono ?_
      rintro e w1 ⟨rfl, hb1⟩
      have c1 := hbe.trans (hb1.mono hbe.size)
      clear HC
      cases z
      · go_wp2
        go_roundw
        case rel => exact ⟨k + 1, by omega, by go_num, fun j hj hjk => by
                      by_cases e : j = k
                      · subst e; exact HZ.out
                      · exact HT.out j hj (by omega), c1⟩
        case measure => simp [intOf]; omega
      · go_wp2
        go_ret
        exact ⟨ret_int10 (findI_at k hlt HT.out HZ.out).symm, c1⟩
    · have HE := hide (findI_none (rs := rs) (p := p) (fun j hj => HT.out j hj (by omega)))
      go_wp2
      go_ret
      exact ⟨ret_int10 HE.out.symm, hbe⟩

set_option maxHeartbeats 1000000 in
theorem findRes_any (a : Option Addr) (rs : List Rs) (cap B : Nat) (a' : Option Addr) (p : List ByteArray) (cap' C : Nat) (w : World) (h : Rss w B a rs) (h' : Strs w C a' p) (hl : rs.length ≤ maxLen) (hl' : p.length ≤ maxLen) (hB : B ≤ w.heap.size) (hC : C ≤ w.heap.size) :
    Calls Try.prog 79 #[.slice a rs.length cap, .slice a' p.length cap'] w fun e w' => e = .returned (.int .i64 (findI rs p)) ∧ Below w.heap.size w w' := by
  have hb0 : Below w.heap.size w (w.alloc (Obj.cells #[.slice a' p.length cap'] 38)) := (Below.refl _ _).alloc (Nat.le_refl _) _
  have HE := hide (indexFunc_any a rs cap B a' p cap' C w.heap.size _ (h.below hb0 hB) (h'.below hb0 hC) hl hl' (by simp) (Nat.le_trans hB hb0.size) (Nat.le_trans hC hb0.size) (by simp))
  have HB0 := hide hb0
  clear h h' hb0
  go_enter Try.func79, Try.ntmps79
  go_wp2_with fail
  refine HE.out.mono ?_
  rintro e w1 ⟨rfl, hb1⟩
  have c1 := HB0.out.trans (hb1.mono HB0.out.size)
  go_wp2
  go_ret
  exact ⟨rfl, c1⟩
end Go.Proofs.Ytckhjemojopekaa
