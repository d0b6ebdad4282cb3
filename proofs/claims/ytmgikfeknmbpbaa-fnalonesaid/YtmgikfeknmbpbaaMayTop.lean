/-
  What impl.MayTurn does.
-/
import Derived.Test.YtmgikfeknmbpbaaMayI
import Derived.Test.YtmgikfeknmbpbaaRowVLks
namespace Go.Proofs.Ytmgikfeknmbpbaa
open Go.RowKit M
set_option linter.unusedVariables false

theorem dec_lk {P : Lk → Bool} (m : List Lk) : decide ((m.filter P).length = 0) = !(m.any P) := by
  cases h : m.any P with
  | false => rw [decide_eq_true ((any_lk m).2 h)]; rfl
  | true => rw [decide_eq_false (fun e => by rw [(any_lk m).1 e] at h; cases h)]; rfl
theorem all_lk (toks : List Int) (m : List Lk) : m.all (fun x => x.sh || hasB toks x) = !(m.any fun x => !x.sh && !hasB toks x) := by
  induction m with
  | nil => rfl
  | cons x r ih => simp only [List.all_cons, List.any_cons, ih, Bool.not_or, Bool.not_and, Bool.not_not]
theorem may_eq (l : List Lk) (q : List ByteArray) (deep : Bool) (toks : List Int) : mayB l q deep toks = (decide (((l.filter (touchB q deep)).filter fun x => !x.sh && !hasB toks x).length = 0) && (decide (((l.filter (touchB q deep)).filter fun x => x.sh).length = 0) || ((l.filter (touchB q deep)).filter fun x => x.sh).any (hasB toks))) := by
  unfold mayB
  generalize l.filter (touchB q deep) = m
  rw [dec_lk, dec_lk, all_lk, List.any_filter]

set_option maxRecDepth 100000 in
set_option maxHeartbeats 4000000 in
theorem mayTurn_any (a : Option Addr) (l : List Lk) (cap B : Nat) (qa : Option Addr) (q : List ByteArray) (qc C : Nat) (deep : Bool) (ta : Option Addr) (toks : List Int) (tc D : Nat) (w : World) (h : Lks w B a l) (hB : B ≤ w.heap.size) (hq : Strs w C qa q) (hC : C ≤ w.heap.size) (ht : Ints w D ta toks) (hD : D ≤ w.heap.size) (h1 : q.length ≤ qc) (h2 : qc ≤ maxLen) (hl : l.length ≤ 1048576) (htl : toks.length ≤ 1048576) :
    Calls Try.prog 15 #[.slice a l.length cap, .slice qa q.length qc, .bool deep, .slice ta toks.length tc] w fun e w' => e = .returned (.bool (mayB l q deep toks)) ∧ Below w.heap.size w w' := by
  have hmf : ∀ (fn : Fn) (first cap : Array Value) (w : World), (Instr.makeFunc fn first cap).run Try.prog w = .ok (.func fn first cap) w := fun _ _ _ _ => rfl
  obtain ⟨W2, hW2⟩ : ∃ W, ((w.alloc (Obj.cells #[.slice ta toks.length tc] 35)).alloc (Obj.cells #[.nilFunc] 52)).setCell ⟨w.heap.size + 1, 0, none⟩ (.func (.func 51) #[] #[.pointer (some ⟨w.heap.size, 0, none⟩)]) = W := ⟨_, rfl⟩
  have hst : (store ⟨w.heap.size + 1, 0, none⟩ (.func (.func 51) #[] #[.pointer (some ⟨w.heap.size, 0, none⟩)])).run Try.prog ((w.alloc (Obj.cells #[.slice ta toks.length tc] 35)).alloc (Obj.cells #[.nilFunc] 52)) = .ok () W2 := by
    rw [run_store _ _ _ _ _ rfl, ← hW2]
    simp
  have hb0 : Below w.heap.size w W2 := by rw [← hW2]; refine Below.setCell (Below.alloc (Below.alloc (Below.refl w.heap.size w) (Nat.le_refl _) _) ?_ _) ?_ _ <;> simp
  have hc1 : W2.cell? ⟨w.heap.size, 0, none⟩ = some (.slice ta toks.length tc) := by rw [← hW2]; simp [go_sem]
  have hc2 : W2.cell? ⟨w.heap.size + 1, 0, none⟩ = some (.func (.func 51) #[] #[.pointer (some ⟨w.heap.size, 0, none⟩)]) := by rw [← hW2]; simp [go_sem]
  have hz2 : W2.heap.size = w.heap.size + 2 := by rw [← hW2]; simp
  clear hW2
  have HM := hide (may_eq l q deep toks)
  have HQ := hide (touching_any a l cap B qa q qc C deep W2 (h.below hb0 hB) (Nat.le_trans hB hb0.size) (hq.below hb0 hC) (Nat.le_trans hC hb0.size) h1 h2 hl)
  have HC := hide (And.intro hc1 (And.intro hc2 (And.intro hz2 hb0)))
  have HT := hide ht
  clear hb0 hc1 hc2 hz2 h hq h1 h2 ht
  go_enter Try.func15, Try.ntmps15
  go_wp2_with fail
  clear hst
  refine HQ.out.mono ?_
  rintro e w1 ⟨⟨g, n, c, ts, rfl, hn, hc1, hc2, hgl, hts, hrow, hin⟩, b1⟩
  have HC1 := hide (HC.out.2.2.2.trans (b1.mono HC.out.2.2.2.size))
  have e1 := (b1.cell (p := ⟨w.heap.size, 0, none⟩) (by have := HC.out.2.2.1; simp; omega)).trans HC.out.1
  have e2 := (b1.cell (p := ⟨w.heap.size + 1, 0, none⟩) (by have := HC.out.2.2.1; simp; omega)).trans HC.out.2.1
  have HE1 := hide (And.intro e1 e2)
  have hz1 : w.heap.size + 2 ≤ w1.heap.size := by have := HC.out.2.2.1; have := b1.size; omega
  have hln : n = (l.filter (touchB q deep)).length := by rw [hn, ← hts, List.length_map]
  have hle := List.length_filter_le (touchB q deep) l
  have HLN := hide hln
  have HLK := hide (lks_of_rowV hts hrow hin (Nat.le_trans (Nat.le_trans hB HC.out.2.2.2.size) b1.size))
  have hnl : n ≤ 1048576 := by omega
  clear hln e1 e2 hn hc1 hc2 hgl hts hrow hin b1 HQ HC
  obtain ⟨m, hm⟩ : ∃ m, l.filter (touchB q deep) = m := ⟨_, rfl⟩
  rw [hm] at HLK HLN HM hle
  clear hm
  clear hle
  have HQS := those_any 54 (fun args w => enter_fn Try.func54 (by kernel_rfl) rfl args w) #[] (fun x => x.sh) (some ⟨g, 0, none⟩) m c w1.heap.size w1 HLK.out (Nat.le_refl _) (by have := HLN.out; omega) (fun k hk pa pc W hW hin => by simpa using sharedFn_any m[k] pa pc W)
  rw [← HLN.out] at HQS
  replace HQS := hide HQS
  go_wp2_with fail
  refine HQS.out.mono ?_
  rintro e w2 ⟨⟨g2, n2, c2, ts2, rfl, hn2, hc21, hc22, hg2, hgl2, hts2, hrow2, hin2⟩, b2⟩
  have HC2 := hide (HC1.out.trans (b2.mono HC1.out.size))
  have HE2 := hide (And.intro ((b2.cell (p := ⟨w.heap.size, 0, none⟩) (by show w.heap.size < _; omega)).trans HE1.out.1) ((b2.cell (p := ⟨w.heap.size + 1, 0, none⟩) (by show w.heap.size + 1 < _; omega)).trans HE1.out.2))
  have hln2 : n2 = (m.filter (fun x => x.sh)).length := by rw [hn2, ← hts2, List.length_map]
  have hle2 := List.length_filter_le (fun x : Lk => x.sh) m
  have hml : m.length ≤ 1048576 := by have := HLN.out; omega
  have HLN2 := hide hln2
  have HLK2 := hide (lks_of_rowV hts2 hrow2 hin2 b2.size)
  have HLKm := hide (HLK.out.below b2 (Nat.le_refl _))
  have hz2 := b2.size
  have hn2l : n2 ≤ 1048576 := by omega
  clear hml hle2 hln2 hn2 hc21 hc22 hg2 hgl2 hts2 hrow2 hin2 b2 HQS HE1 HC1 HLK
  have HQM := those_any 55 (fun args w => enter_fn Try.func55 (by kernel_rfl) rfl args w) #[.pointer (some ⟨w.heap.size + 1, 0, none⟩)] (fun x => !x.sh && !hasB toks x) (some ⟨g, 0, none⟩) m c w1.heap.size w2 HLKm.out hz2 (by have := HLN.out; omega) (fun k hk pa pc W hW hin => missFn_any m[k] pa pc w.heap.size (w.heap.size + 1) D ta toks tc W ((hW.cell (p := ⟨w.heap.size + 1, 0, none⟩) (by show w.heap.size + 1 < _; omega)).trans HE2.out.2) ((hW.cell (p := ⟨w.heap.size, 0, none⟩) (by show w.heap.size < _; omega)).trans HE2.out.1) ((HT.out.below HC2.out hD).below hW (by omega)) (by have := hW.size; omega) htl)
  rw [← HLN.out] at HQM
  replace HQM := hide HQM
  go_wp2_with fail
  refine HQM.out.mono ?_
  rintro e w3 ⟨⟨g3, n3, c3, ts3, rfl, hn3, hc31, hc32, hg3, hgl3, hts3, hrow3, hin3⟩, b3⟩
  have HC3 := hide (HC2.out.trans (b3.mono HC2.out.size))
  have e1 := (b3.cell (p := ⟨w.heap.size, 0, none⟩) (by show w.heap.size < _; omega)).trans HE2.out.1
  have e2 := (b3.cell (p := ⟨w.heap.size + 1, 0, none⟩) (by show w.heap.size + 1 < _; omega)).trans HE2.out.2
  have hln3 : n3 = (m.filter (fun x => !x.sh && !hasB toks x)).length := by rw [hn3, ← hts3, List.length_map]
  have HE1 := hide e1
  have HLK3 := hide (HLK2.out.below b3 (Nat.le_refl _))
  have hz3 := b3.size
  obtain ⟨M2, hM2⟩ : ∃ M, m.filter (fun x => x.sh) = M := ⟨_, rfl⟩
  rw [hM2] at HLK3 HLN2 HM
  clear hM2
  have HQH := containsO_any 51 (fun args w => enter_fn Try.func51 (by kernel_rfl) rfl args w) #[.pointer (some ⟨w.heap.size, 0, none⟩)] (hasB toks) (some ⟨g2, 0, none⟩) M2 c2 w2.heap.size w3 HLK3.out hz3 (by have := HLN2.out; omega) (fun k hk pa pc W hW hin => heldFn_any _ pa pc w.heap.size D ta toks tc W ((hW.cell (p := ⟨w.heap.size, 0, none⟩) (by show w.heap.size < _; omega)).trans HE1.out) ((HT.out.below HC3.out hD).below hW (by omega)) (by have := hW.size; omega) htl)
  rw [← HLN2.out] at HQH
  replace HQH := hide HQH
  rw [← hln3, ← HLN2.out] at HM
  obtain ⟨z, hz⟩ : ∃ z, M2.any (hasB toks) = z := ⟨_, rfl⟩
  rw [hz] at HM HQH
  clear hn3 hc31 hc32 hg3 hgl3 hts3 hrow3 hin3 b3 HQM HE1 HE2 HLK2 HLK3 HLKm HC2 hz e1 hln3 HLN HLN2
  by_cases h3 : n3 = 0
  · by_cases h2 : n2 = 0
    · rw [decide_eq_true h3, decide_eq_true h2] at HM
      have i3 : (n3 : Int) = 0 := by omega
      have i2 : (n2 : Int) = 0 := by omega
      clear HQH h3 h2
      go_wp2
      go_ret
      exact ⟨by rw [HM.out]; rfl, HC3.out⟩
    · rw [decide_eq_true h3, decide_eq_false h2] at HM
      have i3 : (n3 : Int) = 0 := by omega
      have i2 : ¬ (n2 : Int) = 0 := by omega
      have HB2 := hide (show ((n2 : Int) == 0) = false by simpa using h2)
      clear h3 h2
      go_wp2_with fail
      refine HQH.out.mono ?_
      rintro e w4 ⟨rfl, b4⟩
      have HC4 := hide (HC3.out.trans (b4.mono HC3.out.size))
      clear b4 HQH e2
      go_wp2
      go_ret
      exact ⟨by first | (rw [HM.out]; rfl) | (rw [HM.out, ← HB2.out]; rfl), HC4.out⟩
  · rw [decide_eq_false h3] at HM
    have i3 : ¬ (n3 : Int) = 0 := by omega
    clear HQH h3
    go_wp2
    go_ret
    exact ⟨by rw [HM.out]; rfl, HC3.out⟩
end Go.Proofs.Ytmgikfeknmbpbaa
