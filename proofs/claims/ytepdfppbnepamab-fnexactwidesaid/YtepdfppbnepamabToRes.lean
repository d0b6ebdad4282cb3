/-
  What the laws' own helps on things do: copies.
-/
import Derived.Test.YtepdfppbnepamabLawRes
import Derived.Test.YtepdfppbnepamabRowsM
namespace Go.Proofs.Ytepdfppbnepamab
open Go.RowKit M
set_option linter.unusedVariables false

set_option maxHeartbeats 1000000 in
theorem toRes_any (r : Rs) (pa : Option Addr) (pc : Nat) (qa : Option Addr) (qc B : Nat) (w : World) (h : RsIn w B r pa pc qa qc) (hB : B ≤ w.heap.size) (hp : r.pa.length ≤ 1048576) (hq : r.ps.length ≤ 1048576) :
    Calls Try.prog 23 #[.agg #[.slice pa r.pa.length pc, .bool r.co, .string r.bo, .int .i64 r.ve, .slice qa r.ps.length qc]] w fun e w' => (∃ p q : Nat, e = .returned (.agg #[.slice (some ⟨p, 0, none⟩) r.pa.length r.pa.length, .bool r.co, .string r.bo, .int .i64 r.ve, .slice (some ⟨q, 0, none⟩) r.ps.length r.ps.length]) ∧ w.heap.size ≤ p ∧ p < q ∧ RowS w' p r.pa ∧ RowP w' q r.ps) ∧ Below w.heap.size w w' := by
  have h1 := h.ph
  have h2 := h.qh
  clear h
  obtain ⟨ss, co, bo, ve, ps⟩ := r
  simp only at *
  have H1 := hide h1
  have H2 := hide h2
  clear h1 h2
  go_enter Try.func23, Try.ntmps23
  go_wp2_with fail
  have hb0 : Below w.heap.size w (((w.alloc (Obj.cells #[Value.slice pa ss.length pc, Value.bool co, Value.string bo, Value.int .i64 ve, Value.slice qa ps.length qc] 40)).alloc (Obj.cells #[Value.slice none 0 0, Value.bool false, Value.string { data := #[] }, Value.int .i64 0, Value.slice none 0 0] 47)).alloc (Obj.cells #[Value.slice none 0 0, Value.bool false, Value.string { data := #[] }, Value.int .i64 0, Value.slice none 0 0] 47)) := (((Below.refl _ _).alloc (Nat.le_refl _) _).alloc (by simp) _).alloc (by simp; omega) _
  refine (toStringS_row pa ss pc B _ (H1.out.below hb0 hB) (by simp; omega) hp).mono ?_
  rintro e w1 ⟨rfl, r1, b1⟩
  have hc1 := hb0.trans (b1.mono hb0.size)
  obtain ⟨hc, hf⟩ := bcellP b1
  have HR1 := hide (show RowS w1 (w.heap.size + 1 + 1 + 1) ss by simpa using r1)
  have HB1 := hide b1
  have HC1 := hide hc1
  have hz1 : w.heap.size + 1 + 1 + 1 < w1.heap.size := by have := r1.1; simp at this; omega
  clear hc1 b1 r1 hb0
  go_wp2_with fail
  have hb2 : Below w.heap.size w ((((w1.setCell ⟨w.heap.size + 1 + 1, 0, none⟩ (Value.slice (some ⟨w.heap.size + 1 + 1 + 1, 0, none⟩) ss.length ss.length)).setCell ⟨w.heap.size + 1 + 1, 1, none⟩ (Value.bool co)).setCell ⟨w.heap.size + 1 + 1, 2, none⟩ (Value.string bo)).setCell ⟨w.heap.size + 1 + 1, 3, none⟩ (Value.int IntKind.i64 ve)) := (((HC1.out.setCell (by simp; omega) _).setCell (by simp; omega) _).setCell (by simp; omega) _).setCell (by simp; omega) _
  refine (toPropS_any qa ps qc B _ (H2.out.below hb2 hB) (by simp; omega) hq).mono ?_
  rintro e w3 ⟨rfl, r3, b3⟩
  have HB3 := hide (hb2.trans (b3.mono hb2.size))
  have r2 := (((HR1.out.setCell ⟨w.heap.size + 1 + 1, 0, none⟩ (Value.slice (some ⟨w.heap.size + 1 + 1 + 1, 0, none⟩) ss.length ss.length) (by simp)).setCell ⟨w.heap.size + 1 + 1, 1, none⟩ (Value.bool co) (by simp)).setCell ⟨w.heap.size + 1 + 1, 2, none⟩ (Value.string bo) (by simp)).setCell ⟨w.heap.size + 1 + 1, 3, none⟩ (Value.int IntKind.i64 ve) (by simp)
  have HR2 := hide (r2.below b3)
  have HR3 := hide (show RowP w3 w1.heap.size ps by simpa using r3)
  have hz2 : w.heap.size + 1 + 1 < w1.heap.size := by omega
  have hz3 : w.heap.size + 1 < w1.heap.size := by omega
  have hz4 : w.heap.size < w1.heap.size := by omega
  obtain ⟨hc3, hf3⟩ := bcellP b3
  clear r2 r3 b3 hb2 HR1 HB1 HC1
  go_wp2
  refine bodyPost_ret (v := .agg #[.slice (some ⟨w.heap.size + 1 + 1 + 1, 0, none⟩) ss.length ss.length, .bool co, .string bo, .int .i64 ve, .slice (some ⟨w1.heap.size, 0, none⟩) ps.length ps.length]) (by simp [results, Try.results23, go_sem, hc3, hc, hz3]) rfl ⟨⟨_, _, rfl, by omega, hz1, ?_, ?_⟩, ?_⟩
  · exact ((((((HR2.out.setCell ⟨w.heap.size + 1 + 1, 4, none⟩ (Value.slice (some ⟨w1.heap.size, 0, none⟩) ps.length ps.length) (by simp)).setCell ⟨w.heap.size + 1, 0, none⟩ (Value.slice (some ⟨w.heap.size + 1 + 1 + 1, 0, none⟩) ss.length ss.length) (by simp)).setCell ⟨w.heap.size + 1, 1, none⟩ (Value.bool co) (by simp)).setCell ⟨w.heap.size + 1, 2, none⟩ (Value.string bo) (by simp)).setCell ⟨w.heap.size + 1, 3, none⟩ (Value.int IntKind.i64 ve) (by simp)).setCell ⟨w.heap.size + 1, 4, none⟩ (Value.slice (some ⟨w1.heap.size, 0, none⟩) ps.length ps.length) (by simp))
  · exact ((((((HR3.out.setCell ⟨w.heap.size + 1 + 1, 4, none⟩ (Value.slice (some ⟨w1.heap.size, 0, none⟩) ps.length ps.length) (by simp; omega)).setCell ⟨w.heap.size + 1, 0, none⟩ (Value.slice (some ⟨w.heap.size + 1 + 1 + 1, 0, none⟩) ss.length ss.length) (by simp; omega)).setCell ⟨w.heap.size + 1, 1, none⟩ (Value.bool co) (by simp; omega)).setCell ⟨w.heap.size + 1, 2, none⟩ (Value.string bo) (by simp; omega)).setCell ⟨w.heap.size + 1, 3, none⟩ (Value.int IntKind.i64 ve) (by simp; omega)).setCell ⟨w.heap.size + 1, 4, none⟩ (Value.slice (some ⟨w1.heap.size, 0, none⟩) ps.length ps.length) (by simp; omega))
  · exact (((((HB3.out.setCell (by simp; omega) _).setCell (by simp) _).setCell (by simp) _).setCell (by simp) _).setCell (by simp) _).setCell (by simp) _

set_option maxHeartbeats 1000000 in
theorem toResS_any (a : Option Addr) (rs : List Rs) (cap B : Nat) (w : World) (h : Rss w B a rs) (hB : B ≤ w.heap.size) (hl : rs.length + sumR rs ≤ 1048576) :
    Calls Try.prog 8 #[.slice a rs.length cap] w fun e w' => e = .returned (.slice (some ⟨w.heap.size, 0, none⟩) rs.length rs.length) ∧ (∃ pb qb, OwnR w' w.heap.size w'.heap.size w.heap.size rs pb qb) ∧ Below w.heap.size w w' := by
  have hl1 : rs.length ≤ 1048576 := by omega
  have HL := hide hl
  clear hl
  have hmk := run_make_ress rs.length hl1 w
  go_enter Try.func8, Try.ntmps8
  go_wp2
  clear hmk
  go_loopw [4] (fun i wr => ∃ k : Nat, k ≤ rs.length ∧ i = .int .i64 k ∧ MadeR wr w.heap.size rs k ∧ Below w.heap.size w wr) (fun i _ => rs.length - (intOf i).toNat)
  case atStart => exact ⟨0, Nat.zero_le _, rfl, MadeR.start w rs, (Below.refl _ _).alloc (Nat.le_refl _) _⟩
  case round =>
    obtain ⟨k, hk, rfl, hrow, hbe⟩ := hrel
    by_cases hlt : k < rs.length
    · obtain ⟨b, o, rfl, hb, hc⟩ := (h.below hbe hB) (by omega)
      obtain ⟨pa, pc, qa, qc, ⟨hc0, hc1, hc2, hc3, hc4⟩, hin⟩ := hc k hlt
      clear hc
      have hm := sumR_mem rs _ (List.getElem_mem hlt)
      have hsz : szR rs[k] = (rs[k]).pa.length + sumL (rs[k]).pa + (rs[k]).bo.size + ((rs[k]).ps.length + sumP (rs[k]).ps) := rfl
      have HC := hide (toRes_any rs[k] pa pc qa qc B wr hin (Nat.le_trans hB hbe.size) (by have := HL.out; omega) (by have := HL.out; omega))
      clear hm hsz hin
      go_wp2_with fail
      refine HC.out.mono ?_
      rintro e w1 ⟨⟨p, q, rfl, hp, hpq, rp, rq⟩, hb1⟩
      have c1 := hbe.trans (hb1.mono hbe.size)
      obtain ⟨v0, v1, v2, v3, v4, hd0, hd1, hd2, hd3, hd4, hf0, hf1, hf2, hf3, hf4⟩ := (hrow.below hb1).cells hlt
      have HR := hide (hrow.next hb1 hlt p q hp hpq rp rq)
      clear hrow rp rq hp hpq
      go_wp2
      go_roundw
      case rel => exact ⟨k + 1, by omega, by go_num, HR.out, ((((c1.setCell (Nat.le_refl _) _).setCell (Nat.le_refl _) _).setCell (Nat.le_refl _) _).setCell (Nat.le_refl _) _).setCell (Nat.le_refl _) _⟩
      case measure => simp [intOf]; omega
    · go_wp2
      go_ret
      exact ⟨rfl, hrow.done hlt, hbe⟩
end Go.Proofs.Ytepdfppbnepamab
