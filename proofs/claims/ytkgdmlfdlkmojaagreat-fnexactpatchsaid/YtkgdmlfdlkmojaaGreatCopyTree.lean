/-
  What impl.copyTree does.
-/
import Derived.Test.YtkgdmlfdlkmojaaGreatCopyRes
import Derived.Test.YtkgdmlfdlkmojaaGreatRowsM
namespace Go.Proofs.YtkgdmlfdlkmojaaGreat
open Go.RowKit M
set_option linter.unusedVariables false

/-- How long what a thing has may be. -/
abbrev SzT (rs : List Rs) : Prop := ∀ r ∈ rs, r.pa.length ≤ 1048576 ∧ r.ps.length ≤ 1048576 ∧ (∀ s ∈ r.pa, s.size ≤ 281474976710656) ∧ r.bo.size ≤ 281474976710656 ∧ ∀ p ∈ r.ps, p.1.size ≤ 281474976710656 ∧ p.2.1.size ≤ 281474976710656 ∧ p.2.2.size ≤ 281474976710656

set_option maxRecDepth 100000 in
set_option maxHeartbeats 2000000 in
theorem copyTree_any (a : Option Addr) (rs : List Rs) (cap B : Nat) (w : World) (h : Rss w B a rs) (hB : B ≤ w.heap.size) (hl : rs.length ≤ 1048576) (hs : SzT rs) :
    Calls Tryz.prog 27 #[.slice a rs.length cap] w fun e w' => e = .returned (.slice (some ⟨w.heap.size, 0, none⟩) rs.length rs.length) ∧ (∃ pb qb, OwnR w' w.heap.size w'.heap.size w.heap.size rs pb qb) ∧ Below w.heap.size w w' := by
  have HS := hide hs
  clear hs
  have hmk := run_make_ress rs.length hl w
  go_enter Tryz.func27, Tryz.ntmps27
  go_wp2
  clear hmk
  go_loopw [11] (fun i wr => ∃ k : Nat, k ≤ rs.length ∧ i = .int .i64 k ∧ MadeR wr w.heap.size rs k ∧ Below w.heap.size w wr) (fun i _ => rs.length - (intOf i).toNat)
  case atStart => exact ⟨0, Nat.zero_le _, rfl, MadeR.start w rs, (Below.refl _ _).alloc (Nat.le_refl _) _⟩
  case round =>
    obtain ⟨k, hk, rfl, hrow, hbe⟩ := hrel
    by_cases hlt : k < rs.length
    · obtain ⟨b, o, rfl, hb, hc⟩ := (h.below hbe hB) (by omega)
      obtain ⟨pa, pc, qa, qc, ⟨hc0, hc1, hc2, hc3, hc4⟩, hin⟩ := hc k hlt
      clear hc
      have HSK := hide (HS.out _ (List.getElem_mem hlt))
      have hBA := (Below.refl wr.heap.size wr).alloc (Nat.le_refl _) (Obj.cells #[.slice pa (rs[k]).pa.length pc, .bool (rs[k]).co, .string (rs[k]).bo, .int .i64 (rs[k]).ve, .slice qa (rs[k]).ps.length qc] 57)
      have HC := hide (copyRes_any rs[k] pa pc qa qc B (wr.alloc (Obj.cells #[.slice pa (rs[k]).pa.length pc, .bool (rs[k]).co, .string (rs[k]).bo, .int .i64 (rs[k]).ve, .slice qa (rs[k]).ps.length qc] 57)) (hin.below hBA (Nat.le_trans hB hbe.size)) (by have := hbe.size; simp; omega) HSK.out.1 HSK.out.2.1 HSK.out.2.2.1 HSK.out.2.2.2.1 HSK.out.2.2.2.2)
      have HBA := hide hBA
      have hr0 := hrow.below hBA
      have HR0 := hide hr0
      clear hin hBA hr0 hrow
      go_wp2_with fail
      refine HC.out.mono ?_
      rintro e w1 ⟨⟨p, q, rfl, hp, hpq, rp, rq⟩, hb1⟩
      have c1 := (hbe.trans (HBA.out.mono hbe.size)).trans (hb1.mono (by have := hbe.size; simp; omega))
      obtain ⟨v0, v1, v2, v3, v4, hd0, hd1, hd2, hd3, hd4, hf0, hf1, hf2, hf3, hf4⟩ := (HR0.out.below hb1).cells hlt
      have HR := hide (HR0.out.next hb1 hlt p q hp hpq rp rq)
      clear rp rq hp hpq HC HBA HR0
      go_wp2
      go_roundw
      case rel => exact ⟨k + 1, by omega, by go_num, HR.out, ((((c1.setCell (Nat.le_refl _) _).setCell (Nat.le_refl _) _).setCell (Nat.le_refl _) _).setCell (Nat.le_refl _) _).setCell (Nat.le_refl _) _⟩
      case measure => simp [intOf]; omega
    · go_wp2
      go_ret
      exact ⟨rfl, hrow.done hlt, hbe⟩
end Go.Proofs.YtkgdmlfdlkmojaaGreat
