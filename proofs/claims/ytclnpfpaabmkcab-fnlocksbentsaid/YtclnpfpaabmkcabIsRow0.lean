/-
  What impl.MayTurn does.
  What spec.l13Has does.
  What spec.MayTurn does.
  Two lists held against one another, element by element.
  Two locks are the same where their parts are.
  Ten cells stay where their blocks lie below.
  Whether two slices of texts hold the same: what laws.sameTexts does.
  Locks held against one another by the laws: laws.sameLock, laws.sameLocks.
  Beginnings of two lists: no program in sight.
  What laws.sameInts does.
  A view of numbers.
  A slice of integers as the row hands it in.
-/
import Derived.Test.YtclnpfpaabmkcabMayI
import Derived.Test.YtclnpfpaabmkcabSpecPl
import Derived.Test.YtclnpfpaabmkcabAnyI
import Derived.Test.YtclnpfpaabmkcabInts
import Derived.Test.YtclnpfpaabmkcabTurn
import Derived.Test.YtclnpfpaabmkcabRowC
import Derived.Test.YtclnpfpaabmkcabGenPick
import Derived.Test.YtclnpfpaabmkcabDrawNI
import Derived.Deep.RegionHeld3
import Derived.WalkSpells
import Derived.WalkLawsBesides
import Derived.Test.YtclnpfpaabmkcabRows
import Derived.Deep.Light
import Derived.Deep.QuietTactic
import Derived.Test.YtclnpfpaabmkcabCoversI
import Derived.OpenShut
import Derived.WalkKit
namespace Go.Proofs.Ytclnpfpaabmkcab
open Go.RowKit M
set_option linter.unusedVariables false

theorem dec_lk {P : Lk → Bool} (m : List Lk) : decide ((m.filter P).length = 0) = !(m.any P) := by
  cases h : m.any P with
  | false => rw [decide_eq_true ((any_lk m).2 h)]; rfl
  | true => rw [decide_eq_false (fun e => by rw [(any_lk m).1 e] at h; cases h)]; rfl
theorem all_lk (toks : List Int) (m : List Lk) : m.all (fun x => x.sh || hasB toks x) = !(m.any fun x => !x.sh && !hasB toks x) := by
  induction m with
  | nil => rfl
  | cons x r ih => simp only [List.all_cons, List.any_cons, ih, Bool.not_or, Bool.not_and, Bool.not_not]
theorem may_eq (l : List Lk) (q : List ByteArray) (deep : Bool) (toks : List Int) : mayB l q deep toks = (decide (((l.filter (touchB q deep)).filter fun x => !x.sh && !hasB toks x).length = 0) && (decide (((l.filter (touchB q deep)).filter fun x => x.sh).length = 0) || ((l.filter (touchB q deep)).filter fun x => x.sh).any (hasB toks))) := by
  unfold mayB
  generalize l.filter (touchB q deep) = m
  rw [dec_lk, dec_lk, all_lk, List.any_filter]

set_option maxRecDepth 100000 in
set_option maxHeartbeats 4000000 in
theorem mayTurn_any (a : Option Addr) (l : List Lk) (cap B : Nat) (qa : Option Addr) (q : List ByteArray) (qc C : Nat) (deep : Bool) (ta : Option Addr) (toks : List Int) (tc D : Nat) (w : World) (h : Lks w B a l) (hB : B ≤ w.heap.size) (hq : Strs w C qa q) (hC : C ≤ w.heap.size) (ht : Ints w D ta toks) (hD : D ≤ w.heap.size) (h1 : q.length ≤ qc) (h2 : qc ≤ maxLen) (hl : l.length ≤ 1048576) (htl : toks.length ≤ 1048576) :
    Calls Try.prog 27 #[.slice a l.length cap, .slice qa q.length qc, .bool deep, .slice ta toks.length tc] w fun e w' => e = .returned (.bool (mayB l q deep toks)) ∧ Below w.heap.size w w' := by
  have hmf : ∀ (fn : Fn) (first cap : Array Value) (w : World), (Instr.makeFunc fn first cap).run Try.prog w = .ok (.func fn first cap) w := fun _ _ _ _ => rfl
  obtain ⟨W2, hW2⟩ : ∃ W, ((w.alloc (Obj.cells #[.slice ta toks.length tc] 39)).alloc (Obj.cells #[.nilFunc] 42)).setCell ⟨w.heap.size + 1, 0, none⟩ (.func (.func 66) #[] #[.pointer (some ⟨w.heap.size, 0, none⟩)]) = W := ⟨_, rfl⟩
  have hst : (store ⟨w.heap.size + 1, 0, none⟩ (.func (.func 66) #[] #[.pointer (some ⟨w.heap.size, 0, none⟩)])).run Try.prog ((w.alloc (Obj.cells #[.slice ta toks.length tc] 39)).alloc (Obj.cells #[.nilFunc] 42)) = .ok () W2 := by
    rw [run_store _ _ _ _ _ rfl, ← hW2]
    simp
  have hb0 : Below w.heap.size w W2 := by rw [← hW2]; refine Below.setCell (Below.alloc (Below.alloc (Below.refl w.heap.size w) (Nat.le_refl _) _) ?_ _) ?_ _ <;> simp
  have hc1 : W2.cell? ⟨w.heap.size, 0, none⟩ = some (.slice ta toks.length tc) := by rw [← hW2]; simp [go_sem]
  have hc2 : W2.cell? ⟨w.heap.size + 1, 0, none⟩ = some (.func (.func 66) #[] #[.pointer (some ⟨w.heap.size, 0, none⟩)]) := by rw [← hW2]; simp [go_sem]
  have hz2 : W2.heap.size = w.heap.size + 2 := by rw [← hW2]; simp
  clear hW2
  have HM := hide (may_eq l q deep toks)
  have HQ := hide (touching_any a l cap B qa q qc C deep W2 (h.below hb0 hB) (Nat.le_trans hB hb0.size) (hq.below hb0 hC) (Nat.le_trans hC hb0.size) h1 h2 hl)
  have HC := hide (And.intro hc1 (And.intro hc2 (And.intro hz2 hb0)))
  have HT := hide ht
  clear hb0 hc1 hc2 hz2 h hq h1 h2 ht
  go_enter Try.func27, Try.ntmps27
  go_wp2_with fail
  clear hst
  refine HQ.out.mono ?_
  rintro e w1 ⟨⟨g, n, c, ts, rfl, hn, hc1, hc2, hgl, hts, hrow, hin⟩, b1⟩
  have HC1 := hide (HC.out.2.2.2.trans (b1.mono HC.out.2.2.2.size))
  have e1 := (b1.cell (p := ⟨w.heap.size, 0, none⟩) (by have := HC.out.2.2.1; simp; omega)).trans HC.out.1
  have e2 := (b1.cell (p := ⟨w.heap.size + 1, 0, none⟩) (by have := HC.out.2.2.1; simp; omega)).trans HC.out.2.1
  have HE1 := hide (And.intro e1 e2)
  have hz1 : w.heap.size + 2 ≤ w1.heap.size := by have := HC.out.2.2.1; have := b1.size; omega
  have hln : n = (l.filter (touchB q deep)).length := by rw [hn, ← hts, List.length_map]
  have hle := List.length_filter_le (touchB q deep) l
  have HLN := hide hln
  have HLK := hide (lks_of_rowV hts hrow hin (Nat.le_trans (Nat.le_trans hB HC.out.2.2.2.size) b1.size))
  have hnl : n ≤ 1048576 := by omega
  clear hln e1 e2 hn hc1 hc2 hgl hts hrow hin b1 HQ HC
  obtain ⟨m, hm⟩ : ∃ m, l.filter (touchB q deep) = m := ⟨_, rfl⟩
  rw [hm] at HLK HLN HM hle
  clear hm
  clear hle
  have HQS := those_any 69 (fun args w => enter_fn Try.func69 (by kernel_rfl) rfl args w) #[] (fun x => x.sh) (some ⟨g, 0, none⟩) m c w1.heap.size w1 HLK.out (Nat.le_refl _) (by have := HLN.out; omega) (fun k hk pa pc W hW hin => by simpa using sharedFn_any m[k] pa pc W)
  rw [← HLN.out] at HQS
  replace HQS := hide HQS
  go_wp2_with fail
  refine HQS.out.mono ?_
  rintro e w2 ⟨⟨g2, n2, c2, ts2, rfl, hn2, hc21, hc22, hg2, hgl2, hts2, hrow2, hin2⟩, b2⟩
  have HC2 := hide (HC1.out.trans (b2.mono HC1.out.size))
  have HE2 := hide (And.intro ((b2.cell (p := ⟨w.heap.size, 0, none⟩) (by show w.heap.size < _; omega)).trans HE1.out.1) ((b2.cell (p := ⟨w.heap.size + 1, 0, none⟩) (by show w.heap.size + 1 < _; omega)).trans HE1.out.2))
  have hln2 : n2 = (m.filter (fun x => x.sh)).length := by rw [hn2, ← hts2, List.length_map]
  have hle2 := List.length_filter_le (fun x : Lk => x.sh) m
  have hml : m.length ≤ 1048576 := by have := HLN.out; omega
  have HLN2 := hide hln2
  have HLK2 := hide (lks_of_rowV hts2 hrow2 hin2 b2.size)
  have HLKm := hide (HLK.out.below b2 (Nat.le_refl _))
  have hz2 := b2.size
  have hn2l : n2 ≤ 1048576 := by omega
  clear hml hle2 hln2 hn2 hc21 hc22 hg2 hgl2 hts2 hrow2 hin2 b2 HQS HE1 HC1 HLK
  have HQM := those_any 70 (fun args w => enter_fn Try.func70 (by kernel_rfl) rfl args w) #[.pointer (some ⟨w.heap.size + 1, 0, none⟩)] (fun x => !x.sh && !hasB toks x) (some ⟨g, 0, none⟩) m c w1.heap.size w2 HLKm.out hz2 (by have := HLN.out; omega) (fun k hk pa pc W hW hin => missFn_any m[k] pa pc w.heap.size (w.heap.size + 1) D ta toks tc W ((hW.cell (p := ⟨w.heap.size + 1, 0, none⟩) (by show w.heap.size + 1 < _; omega)).trans HE2.out.2) ((hW.cell (p := ⟨w.heap.size, 0, none⟩) (by show w.heap.size < _; omega)).trans HE2.out.1) ((HT.out.below HC2.out hD).below hW (by omega)) (by have := hW.size; omega) htl)
  rw [← HLN.out] at HQM
  replace HQM := hide HQM
  go_wp2_with fail
  refine HQM.out.mono ?_
  rintro e w3 ⟨⟨g3, n3, c3, ts3, rfl, hn3, hc31, hc32, hg3, hgl3, hts3, hrow3, hin3⟩, b3⟩
  have HC3 := hide (HC2.out.trans (b3.mono HC2.out.size))
  have e1 := (b3.cell (p := ⟨w.heap.size, 0, none⟩) (by show w.heap.size < _; omega)).trans HE2.out.1
  have e2 := (b3.cell (p := ⟨w.heap.size + 1, 0, none⟩) (by show w.heap.size + 1 < _; omega)).trans HE2.out.2
  have hln3 : n3 = (m.filter (fun x => !x.sh && !hasB toks x)).length := by rw [hn3, ← hts3, List.length_map]
  have HE1 := hide e1
  have HLK3 := hide (HLK2.out.below b3 (Nat.le_refl _))
  have hz3 := b3.size
  obtain ⟨M2, hM2⟩ : ∃ M, m.filter (fun x => x.sh) = M := ⟨_, rfl⟩
  rw [hM2] at HLK3 HLN2 HM
  clear hM2
  have HQH := containsO_any 66 (fun args w => enter_fn Try.func66 (by kernel_rfl) rfl args w) #[.pointer (some ⟨w.heap.size, 0, none⟩)] (hasB toks) (some ⟨g2, 0, none⟩) M2 c2 w2.heap.size w3 HLK3.out hz3 (by have := HLN2.out; omega) (fun k hk pa pc W hW hin => heldFn_any _ pa pc w.heap.size D ta toks tc W ((hW.cell (p := ⟨w.heap.size, 0, none⟩) (by show w.heap.size < _; omega)).trans HE1.out) ((HT.out.below HC3.out hD).below hW (by omega)) (by have := hW.size; omega) htl)
  rw [← HLN2.out] at HQH
  replace HQH := hide HQH
  rw [← hln3, ← HLN2.out] at HM
  obtain ⟨z, hz⟩ : ∃ z, M2.any (hasB toks) = z := ⟨_, rfl⟩
  rw [hz] at HM HQH
  clear hn3 hc31 hc32 hg3 hgl3 hts3 hrow3 hin3 b3 HQM HE1 HE2 HLK2 HLK3 HLKm HC2 hz e1 hln3 HLN HLN2
  by_cases h3 : n3 = 0
  · by_cases h2 : n2 = 0
    · rw [decide_eq_true h3, decide_eq_true h2] at HM
      have i3 : (n3 : Int) = 0 := by omega
      have i2 : (n2 : Int) = 0 := by omega
      clear HQH h3 h2
      go_wp2
      go_ret
      exact ⟨by rw [HM.out]; rfl, HC3.out⟩
    · rw [decide_eq_true h3, decide_eq_false h2] at HM
      have i3 : (n3 : Int) = 0 := by omega
      have i2 : ¬ (n2 : Int) = 0 := by omega
      have HB2 := hide (show ((n2 : Int) == 0) = false by simpa using h2)
      clear h3 h2
      go_wp2_with fail
      refine HQH.out.mono ?_
      rintro e w4 ⟨rfl, b4⟩
      have HC4 := hide (HC3.out.trans (b4.mono HC3.out.size))
      clear b4 HQH e2
      go_wp2
      go_ret
      exact ⟨by first | (rw [HM.out]; rfl) | (rw [HM.out, ← HB2.out]; rfl), HC4.out⟩
  · rw [decide_eq_false h3] at HM
    have i3 : ¬ (n3 : Int) = 0 := by omega
    clear HQH h3
    go_wp2
    go_ret
    exact ⟨by rw [HM.out]; rfl, HC3.out⟩
end Go.Proofs.Ytclnpfpaabmkcab
namespace Go.Proofs.Ytclnpfpaabmkcab
open Go.RowKit M
set_option linter.unusedVariables false

set_option maxHeartbeats 1000000 in
theorem specHas_any (a : Option Addr) (l : List Int) (cap B : Nat) (t : Int) (w : World) (h : Ints w B a l) (hl : l.length ≤ 1048576) :
    Calls Try.prog 72 #[.slice a l.length cap, .int .i64 t] w fun e w' => e = .returned (.bool (l.any (· == t))) ∧ w' = w := by
  have HH := hide h
  clear h
  go_enter Try.func72, Try.ntmps72
  go_wp2
  go_loopw [5] (fun i wr => ∃ k : Nat, k ≤ l.length ∧ i = .int .i64 k ∧ Hid (∀ j (hj : j < l.length), j < k → l[j] ≠ t) ∧ wr = w) (fun i _ => l.length - (intOf i).toNat)
  case atStart => exact ⟨0, Nat.zero_le _, rfl, fun j _ hj => absurd hj (Nat.not_lt_zero _), rfl⟩
  case round =>
    obtain ⟨k, hk, rfl, HN, hw⟩ := hrel
    obtain rfl := hw.symm
    by_cases hlt : k < l.length
    · obtain ⟨b, o, rfl, hb, hc⟩ := HH.out (by omega)
      have hck := hc k hlt
      clear hc
      by_cases hz : l[k] = t
      · have HA := hide (anyI_some hlt hz)
        go_wp2
        go_ret
        exact ⟨by rw [HA.out]; rfl, rfl⟩
      · have HZ := hide hz
        go_wp2
        go_roundw
        case rel => exact ⟨k + 1, by omega, by go_num, fun j hj hjk => if e : j = k then by subst e; exact HZ.out else HN.out j hj (by omega), by trivial⟩
        case measure => simp [intOf]; omega
    · have HA := hide (anyI_none (fun j hj => HN.out j hj (by omega)))
      go_wp2
      go_ret
      exact ⟨by rw [HA.out]; rfl, rfl⟩
end Go.Proofs.Ytclnpfpaabmkcab
namespace Go.Proofs.Ytclnpfpaabmkcab
open Go.RowKit M
set_option linter.unusedVariables false

/-- What the looks at a beginning have told: one Shared, one Shared whose Token is there, none that is missing. -/
def mayS (p : List ByteArray) (deep : Bool) (toks : List Int) (m : List Lk) (s d : Bool) : Prop :=
  (m.filter (touchB p deep)).any (·.sh) = s ∧ (m.filter (touchB p deep)).any (fun x => x.sh && hasB toks x) = d ∧ (m.filter (touchB p deep)).all (fun x => x.sh || hasB toks x) = true
theorem mayS_not {p : List ByteArray} {deep : Bool} {toks : List Int} {m : List Lk} {s d : Bool} {x : Lk} (h : mayS p deep toks m s d) (hx : touchB p deep x = false) : mayS p deep toks (m ++ [x]) s d := by
  unfold mayS at *
  rw [List.filter_append, List.filter_cons, hx]
  simpa using h
theorem mayS_yes {p : List ByteArray} {deep : Bool} {toks : List Int} {m : List Lk} {s d : Bool} {x : Lk} (h : mayS p deep toks m s d) (hx : touchB p deep x = true) (hy : (x.sh || hasB toks x) = true) : mayS p deep toks (m ++ [x]) (s || x.sh) (d || (x.sh && hasB toks x)) := by
  obtain ⟨h1, h2, h3⟩ := h
  refine ⟨?_, ?_, ?_⟩
  · rw [List.filter_append, List.filter_cons, hx, List.any_append, h1]; simp
  · rw [List.filter_append, List.filter_cons, hx, List.any_append, h2]; simp
  · rw [List.filter_append, List.filter_cons, hx, List.all_append, h3]; simpa using hy
theorem may_no {l : List Lk} {p : List ByteArray} {deep : Bool} {toks : List Int} {k : Nat} (hk : k < l.length) (hx : touchB p deep l[k] = true) (hy : (l[k].sh || hasB toks l[k]) = false) : mayB l p deep toks = false := by
  unfold mayB
  rw [Bool.and_eq_false_iff]
  left
  rw [List.all_eq_false]
  exact ⟨l[k], List.mem_filter.2 ⟨List.getElem_mem hk, hx⟩, by rw [hy]; simp⟩
theorem may_end {l : List Lk} {p : List ByteArray} {deep : Bool} {toks : List Int} {s d : Bool} (h : mayS p deep toks l s d) : mayB l p deep toks = (!s || d) := by
  unfold mayB
  rw [h.1, h.2.1, h.2.2, Bool.true_and]

set_option maxRecDepth 100000 in
set_option maxHeartbeats 8000000 in
theorem specMay_any (a : Option Addr) (l : List Lk) (cap B : Nat) (pp : Option Addr) (p : List ByteArray) (pc C : Nat) (deep : Bool) (ta : Option Addr) (toks : List Int) (tc D : Nat) (w : World) (h : Lks w B a l) (hB : B ≤ w.heap.size) (h' : Strs w C pp p) (hC : C ≤ w.heap.size) (ht : Ints w D ta toks) (hD : D ≤ w.heap.size) (hl : l.length ≤ 1048576) (hpl : p.length ≤ pc) (hpm : pc ≤ maxLen) (htl : toks.length ≤ 1048576) :
    Calls Try.prog 28 #[.slice a l.length cap, .slice pp p.length pc, .bool deep, .slice ta toks.length tc] w fun e w' => e = .returned (.bool (mayB l p deep toks)) ∧ Below w.heap.size w w' := by
  have HH := hide h
  have HP := hide h'
  have HT := hide ht
  have HPL := hide (And.intro hpl hpm)
  have HTL := hide htl
  clear h h' ht hpl hpm htl
  go_enter Try.func28, Try.ntmps28
  go_wp2
  go_loopw [9, 10, 11] (fun sv dv i wr => ∃ (k : Nat) (s d : Bool), k ≤ l.length ∧ i = .int .i64 k ∧ sv = .bool s ∧ dv = .bool d ∧ Hid (mayS p deep toks (l.take k) s d) ∧ Below w.heap.size w wr) (fun _ _ i _ => l.length - (intOf i).toNat)
  case atStart => exact ⟨0, false, false, Nat.zero_le _, rfl, rfl, rfl, (by show mayS _ _ _ _ _ _; refine ⟨?_, ?_, ?_⟩ <;> simp), Below.refl _ _⟩
  case round =>
    obtain ⟨k, s, d, hk, rfl, rfl, rfl, HS, hbe⟩ := hrel
    by_cases hlt : k < l.length
    · obtain ⟨b, o, rfl, hb, hc⟩ := (HH.out.below hbe hB) (by omega)
      obtain ⟨pa, pc1, ⟨hc0, hc1, hc2, hc3, hc4⟩, hin⟩ := hc k hlt
      have hBr := Nat.le_trans hB hbe.size
      have hpy := HP.out.below hbe hC
      have HQ := hide (specCovers_any l[k] pa pc1 pp p pc B C wr hin hBr hpy (Nat.le_trans hC hbe.size) HPL.out.1 HPL.out.2)
      have HU := hide (fun w1 (hb1 : Below wr.heap.size wr w1) => specUnder_any pa pp l[k].pa p pc1 pc B C w1 (hin.ph.below hb1 hBr) (hpy.below hb1 (Nat.le_trans hC hbe.size)) hin.len (Nat.le_trans HPL.out.1 HPL.out.2) hin.pl hin.pm)
      have HI := hide (fun w1 (hb1 : Below w.heap.size w w1) => specHas_any ta toks tc D l[k].tk w1 (HT.out.below hb1 hD) HTL.out)
      have HTK := hide (List.take_succ_eq_append_getElem hlt)
      have HNO := hide (fun (e1 : touchB p deep l[k] = true) e2 => may_no (toks := toks) hlt e1 e2)
      have HY := hide (fun (e1 : touchB p deep l[k] = true) e2 => mayS_yes HS.out e1 e2)
      have HN := hide (fun (e1 : touchB p deep l[k] = false) => mayS_not HS.out e1)
      have HTB := hide (show touchB p deep l[k] = (covB l[k] p || (deep && underB l[k].pa p)) from rfl)
      have HHB := hide (show hasB toks l[k] = toks.any (· == l[k].tk) from rfl)
      rw [← HTK.out] at HY HN
      have hbw : b < wr.heap.size := by omega
      clear hc hin HTK hpy hBr
      generalize hx : l[k] = x at *
      obtain ⟨tk, tt, de, sh, un⟩ := x
      simp only at hc0 hc1 hc2 hc3 hc4 HQ HU HI HHB HTB
      clear hx
      generalize touchB p deep ⟨tk, tt, de, sh, un⟩ = tb at *
      generalize hasB toks ⟨tk, tt, de, sh, un⟩ = hs at *
      generalize toks.any (· == tk) = hs2 at *
      generalize covB ⟨tk, tt, de, sh, un⟩ p = cv at *
      generalize underB tt p = un2 at *
      have hHB := HHB.out
      subst hHB
      have hTB := HTB.out
      clear HTB HHB
      go_wp2_with fail
      refine HQ.out.mono ?_
      rintro e w1 ⟨rfl, b1⟩
      have HC1 := hide (hbe.trans (b1.mono hbe.size))
      have HB1 := hide b1
      have d0 := (b1.cell (p := ⟨b, o + k * 5, none⟩) hbw).trans hc0
      have d1 := (b1.cell (p := ⟨b, o + k * 5 + 1, none⟩) hbw).trans hc1
      have d3 := (b1.cell (p := ⟨b, o + k * 5 + 3, none⟩) hbw).trans hc3
      have hbw1 : b < w1.heap.size := by have := b1.size; omega
      clear b1 HQ hc0 hc1 hc2 hc3 hc4 hbw
      cases cv
      · cases deep
        · simp only [Bool.false_and, Bool.or_self] at hTB
          subst hTB
          have HF := hide (HN.out (by trivial))
          clear HNO HY HN HI
          go_wp2
          go_roundw
          case rel => exact ⟨k + 1, s, d, by omega, by go_num, rfl, rfl, HF, HC1.out⟩
          case measure => simp [intOf]; omega
        · have HU1 := hide (HU.out w1 HB1.out)
          clear HU
          go_wp2_with fail
          refine HU1.out.mono ?_
          rintro e w2 ⟨rfl, b2⟩
          have b2 := b2 w1.heap.size
          have HC2 := hide (HC1.out.trans (b2.mono HC1.out.size))
          have e0 := (b2.cell (p := ⟨b, o + k * 5, none⟩) hbw1).trans d0
          have e3 := (b2.cell (p := ⟨b, o + k * 5 + 3, none⟩) hbw1).trans d3
          clear b2 HU1 d0 d1 d3
          simp only [Bool.true_and, Bool.false_or] at hTB
          subst hTB
          cases tb
          · have HF := hide (HN.out (by trivial))
            clear HNO HY HN HI
            go_wp2
            go_roundw
            case rel => exact ⟨k + 1, s, d, by omega, by go_num, rfl, rfl, HF, HC2.out⟩
            case measure => simp [intOf]; omega
          · have HI1 := hide (HI.out w2 HC2.out)
            go_wp2_with fail
            refine HI1.out.mono ?_
            rintro e w9 ⟨rfl, hw⟩
            obtain rfl := hw.symm
            clear HI1 HI hw
            cases hs
            · cases sh
              · have HA := hide (HNO.out (by trivial) (by trivial))
                clear HNO HY HN
                go_wp2
                go_ret
                exact ⟨by first | (rw [HA.out]; done) | (rw [HA.out]; rfl), HC2.out⟩
              · have HF := hide (HY.out (by trivial) (by trivial))
                clear HNO HY HN
                cases s
                · cases d
                  · go_wp2
                    go_roundw
                    case rel => exact ⟨k + 1, true, false, by omega, by go_num, rfl, rfl, hide (by have h := HF.out; simpa using h), HC2.out⟩
                    case measure => simp [intOf]; omega
                  · go_wp2
                    go_roundw
                    case rel => exact ⟨k + 1, true, true, by omega, by go_num, rfl, rfl, hide (by have h := HF.out; simpa using h), HC2.out⟩
                    case measure => simp [intOf]; omega
                · cases d
                  · go_wp2
                    go_roundw
                    case rel => exact ⟨k + 1, true, false, by omega, by go_num, rfl, rfl, hide (by have h := HF.out; simpa using h), HC2.out⟩
                    case measure => simp [intOf]; omega
                  · go_wp2
                    go_roundw
                    case rel => exact ⟨k + 1, true, true, by omega, by go_num, rfl, rfl, hide (by have h := HF.out; simpa using h), HC2.out⟩
                    case measure => simp [intOf]; omega
            · cases sh
              · have HF := hide (HY.out (by trivial) (by trivial))
                clear HNO HY HN
                cases s
                · cases d
                  · go_wp2
                    go_roundw
                    case rel => exact ⟨k + 1, false, false, by omega, by go_num, rfl, rfl, hide (by have h := HF.out; simpa using h), HC2.out⟩
                    case measure => simp [intOf]; omega
                  · go_wp2
                    go_roundw
                    case rel => exact ⟨k + 1, false, true, by omega, by go_num, rfl, rfl, hide (by have h := HF.out; simpa using h), HC2.out⟩
                    case measure => simp [intOf]; omega
                · cases d
                  · go_wp2
                    go_roundw
                    case rel => exact ⟨k + 1, true, false, by omega, by go_num, rfl, rfl, hide (by have h := HF.out; simpa using h), HC2.out⟩
                    case measure => simp [intOf]; omega
                  · go_wp2
                    go_roundw
                    case rel => exact ⟨k + 1, true, true, by omega, by go_num, rfl, rfl, hide (by have h := HF.out; simpa using h), HC2.out⟩
                    case measure => simp [intOf]; omega
              · have HF := hide (HY.out (by trivial) (by trivial))
                clear HNO HY HN
                cases s
                · cases d
                  · go_wp2
                    go_roundw
                    case rel => exact ⟨k + 1, true, true, by omega, by go_num, rfl, rfl, hide (by have h := HF.out; simpa using h), HC2.out⟩
                    case measure => simp [intOf]; omega
                  · go_wp2
                    go_roundw
                    case rel => exact ⟨k + 1, true, true, by omega, by go_num, rfl, rfl, hide (by have h := HF.out; simpa using h), HC2.out⟩
                    case measure => simp [intOf]; omega
                · cases d
                  · go_wp2
                    go_roundw
                    case rel => exact ⟨k + 1, true, true, by omega, by go_num, rfl, rfl, hide (by have h := HF.out; simpa using h), HC2.out⟩
                    case measure => simp [intOf]; omega
                  · go_wp2
                    go_roundw
                    case rel => exact ⟨k + 1, true, true, by omega, by go_num, rfl, rfl, hide (by have h := HF.out; simpa using h), HC2.out⟩
                    case measure => simp [intOf]; omega
      · simp only [Bool.true_or] at hTB
        subst hTB
        clear HU
        have HI1 := hide (HI.out w1 HC1.out)
        go_wp2_with fail
        refine HI1.out.mono ?_
        rintro e w9 ⟨rfl, hw⟩
        obtain rfl := hw.symm
        clear HI1 HI hw
        cases hs
        · cases sh
          · have HA := hide (HNO.out (by trivial) (by trivial))
            clear HNO HY HN
            go_wp2
            go_ret
            exact ⟨by first | (rw [HA.out]; done) | (rw [HA.out]; rfl), HC1.out⟩
          · have HF := hide (HY.out (by trivial) (by trivial))
            clear HNO HY HN
            cases s
            · cases d
              · go_wp2
                go_roundw
                case rel => exact ⟨k + 1, true, false, by omega, by go_num, rfl, rfl, hide (by have h := HF.out; simpa using h), HC1.out⟩
                case measure => simp [intOf]; omega
              · go_wp2
                go_roundw
                case rel => exact ⟨k + 1, true, true, by omega, by go_num, rfl, rfl, hide (by have h := HF.out; simpa using h), HC1.out⟩
                case measure => simp [intOf]; omega
            · cases d
              · go_wp2
                go_roundw
                case rel => exact ⟨k + 1, true, false, by omega, by go_num, rfl, rfl, hide (by have h := HF.out; simpa using h), HC1.out⟩
                case measure => simp [intOf]; omega
              · go_wp2
                go_roundw
                case rel => exact ⟨k + 1, true, true, by omega, by go_num, rfl, rfl, hide (by have h := HF.out; simpa using h), HC1.out⟩
                case measure => simp [intOf]; omega
        · cases sh
          · have HF := hide (HY.out (by trivial) (by trivial))
            clear HNO HY HN
            cases s
            · cases d
              · go_wp2
                go_roundw
                case rel => exact ⟨k + 1, false, false, by omega, by go_num, rfl, rfl, hide (by have h := HF.out; simpa using h), HC1.out⟩
                case measure => simp [intOf]; omega
              · go_wp2
                go_roundw
                case rel => exact ⟨k + 1, false, true, by omega, by go_num, rfl, rfl, hide (by have h := HF.out; simpa using h), HC1.out⟩
                case measure => simp [intOf]; omega
            · cases d
              · go_wp2
                go_roundw
                case rel => exact ⟨k + 1, true, false, by omega, by go_num, rfl, rfl, hide (by have h := HF.out; simpa using h), HC1.out⟩
                case measure => simp [intOf]; omega
              · go_wp2
                go_roundw
                case rel => exact ⟨k + 1, true, true, by omega, by go_num, rfl, rfl, hide (by have h := HF.out; simpa using h), HC1.out⟩
                case measure => simp [intOf]; omega
          · have HF := hide (HY.out (by trivial) (by trivial))
            clear HNO HY HN
            cases s
            · cases d
              · go_wp2
                go_roundw
                case rel => exact ⟨k + 1, true, true, by omega, by go_num, rfl, rfl, hide (by have h := HF.out; simpa using h), HC1.out⟩
                case measure => simp [intOf]; omega
              · go_wp2
                go_roundw
                case rel => exact ⟨k + 1, true, true, by omega, by go_num, rfl, rfl, hide (by have h := HF.out; simpa using h), HC1.out⟩
                case measure => simp [intOf]; omega
            · cases d
              · go_wp2
                go_roundw
                case rel => exact ⟨k + 1, true, true, by omega, by go_num, rfl, rfl, hide (by have h := HF.out; simpa using h), HC1.out⟩
                case measure => simp [intOf]; omega
              · go_wp2
                go_roundw
                case rel => exact ⟨k + 1, true, true, by omega, by go_num, rfl, rfl, hide (by have h := HF.out; simpa using h), HC1.out⟩
                case measure => simp [intOf]; omega
    · have HF := hide (show l.take k = l from List.take_of_length_le (by omega))
      rw [HF.out] at HS
      have HA := hide (may_end HS.out)
      clear HS
      cases s
      · cases d
        · go_wp2
          go_ret
          exact ⟨by first | (rw [HA.out]; done) | (rw [HA.out]; rfl), hbe⟩
        · go_wp2
          go_ret
          exact ⟨by first | (rw [HA.out]; done) | (rw [HA.out]; rfl), hbe⟩
      · cases d
        · go_wp2
          go_ret
          exact ⟨by first | (rw [HA.out]; done) | (rw [HA.out]; rfl), hbe⟩
        · go_wp2
          go_ret
          exact ⟨by first | (rw [HA.out]; done) | (rw [HA.out]; rfl), hbe⟩
end Go.Proofs.Ytclnpfpaabmkcab
namespace Go.Proofs.Ytclnpfpaabmkcab
open Go.RowKit
set_option linter.unusedVariables false

theorem deq_not {α : Type} [DecidableEq α] {l m : List α} (k : Nat) (h1 : k < l.length) (h2 : k < m.length) (h : ¬ l[k] = m[k]) : decide (l = m) = false := decide_eq_false (fun e => by subst e; exact h rfl)
theorem deq_len {α : Type} [DecidableEq α] {l m : List α} (h : ¬ l.length = m.length) : decide (l = m) = false := decide_eq_false (fun e => by subst e; exact h rfl)
theorem deq_all {α : Type} [DecidableEq α] {l m : List α} (hl : l.length = m.length) (k : Nat) (hk : ¬ k < l.length) (h : l.take k = m.take k) : decide (l = m) = true := by
  rw [List.take_of_length_le (by omega), List.take_of_length_le (by omega)] at h
  exact decide_eq_true h
theorem deq_step {α : Type} {l m : List α} (k : Nat) (h1 : k < l.length) (h2 : k < m.length) (h : l.take k = m.take k) (e : l[k] = m[k]) : l.take (k + 1) = m.take (k + 1) := by
  rw [List.take_succ_eq_append_getElem h1, List.take_succ_eq_append_getElem h2, h, e]
end Go.Proofs.Ytclnpfpaabmkcab
namespace Go.Proofs.Ytclnpfpaabmkcab
open Go.RowKit M
set_option linter.unusedVariables false

theorem lk_eq (r s : Lk) : decide (r = s) = ((r.tk == s.tk) && sameL r.pa s.pa && (r.de == s.de) && (r.sh == s.sh) && (r.un == s.un)) := by
  obtain ⟨a, b, c, d, e⟩ := r
  obtain ⟨a', b', c', d', e'⟩ := s
  simp only [Lk.mk.injEq, sameL, Bool.decide_and, Bool.and_assoc, ← Bool.beq_eq_decide_eq]
  try rw [show (a == a') = decide (a = a') from by by_cases h : a = a' <;> simp [h], show (c == c') = decide (c = c') from by by_cases h : c = c' <;> simp [h], show (d == d') = decide (d = d') from by by_cases h : d = d' <;> simp [h], show (e == e') = decide (e = e') from by by_cases h : e = e' <;> simp [h]]
end Go.Proofs.Ytclnpfpaabmkcab
namespace Go.Proofs.Ytclnpfpaabmkcab
open Go.RowKit
set_option linter.unusedVariables false

theorem keep10 {W w1 : World} {b1 b2 : Nat} {o0 p0 o1 p1 o2 p2 o3 p3 o4 p4 : Nat} {v0 u0 v1 u1 v2 u2 v3 u3 v4 u4 : Value} (hb : Below W.heap.size W w1) (h1 : b1 < W.heap.size) (h2 : b2 < W.heap.size) (h : W.cell? ⟨b1, o0, none⟩ = some v0 ∧ W.cell? ⟨b1, o1, none⟩ = some v1 ∧ W.cell? ⟨b1, o2, none⟩ = some v2 ∧ W.cell? ⟨b1, o3, none⟩ = some v3 ∧ W.cell? ⟨b1, o4, none⟩ = some v4 ∧ W.cell? ⟨b2, p0, none⟩ = some u0 ∧ W.cell? ⟨b2, p1, none⟩ = some u1 ∧ W.cell? ⟨b2, p2, none⟩ = some u2 ∧ W.cell? ⟨b2, p3, none⟩ = some u3 ∧ W.cell? ⟨b2, p4, none⟩ = some u4) :
    w1.cell? ⟨b1, o0, none⟩ = some v0 ∧ w1.cell? ⟨b1, o1, none⟩ = some v1 ∧ w1.cell? ⟨b1, o2, none⟩ = some v2 ∧ w1.cell? ⟨b1, o3, none⟩ = some v3 ∧ w1.cell? ⟨b1, o4, none⟩ = some v4 ∧ w1.cell? ⟨b2, p0, none⟩ = some u0 ∧ w1.cell? ⟨b2, p1, none⟩ = some u1 ∧ w1.cell? ⟨b2, p2, none⟩ = some u2 ∧ w1.cell? ⟨b2, p3, none⟩ = some u3 ∧ w1.cell? ⟨b2, p4, none⟩ = some u4 := by
  obtain ⟨e0, e1, e2, e3, e4, e5, e6, e7, e8, e9⟩ := h
  exact ⟨(hb.cell (p := ⟨b1, _, none⟩) h1).trans e0, (hb.cell (p := ⟨b1, _, none⟩) h1).trans e1, (hb.cell (p := ⟨b1, _, none⟩) h1).trans e2, (hb.cell (p := ⟨b1, _, none⟩) h1).trans e3, (hb.cell (p := ⟨b1, _, none⟩) h1).trans e4, (hb.cell (p := ⟨b2, _, none⟩) h2).trans e5, (hb.cell (p := ⟨b2, _, none⟩) h2).trans e6, (hb.cell (p := ⟨b2, _, none⟩) h2).trans e7, (hb.cell (p := ⟨b2, _, none⟩) h2).trans e8, (hb.cell (p := ⟨b2, _, none⟩) h2).trans e9⟩
end Go.Proofs.Ytclnpfpaabmkcab
namespace Go.Proofs.Ytclnpfpaabmkcab
open Go.RowKit
set_option linter.unusedVariables false

set_option maxHeartbeats 400000 in
theorem sameTexts_any (a b : Option Addr) (ss tt : List ByteArray) (cap cap' B C : Nat) (w : World) (h : Strs w B a ss) (h' : Strs w C b tt) (hl : ss.length ≤ maxLen) (hl' : tt.length ≤ maxLen) :
    Calls Try.prog 92 #[.slice a ss.length cap, .slice b tt.length cap'] w fun e w' => e = .returned (.bool (sameL ss tt)) ∧ ∀ D, Below D w w' := by
  unfold maxLen at hl hl'
  by_cases hlen : ss.length = tt.length
  · have HL : Hid (ss.length = tt.length) := hlen
    go_enter Try.func92, Try.ntmps92
    rw [← hlen]
    clear hlen
    go_wp2
    go_loopw [5] (fun i wr => ∃ k n : Nat, k ≤ ss.length ∧ i = .int .i64 k ∧ ss.take k = tt.take k ∧ wr = w.drewN n) (fun i _ => ss.length - (intOf i).toNat)
    case atStart => exact ⟨0, 0, Nat.zero_le _, rfl, rfl, rfl⟩
    case round =>
      obtain ⟨k, n, hk, rfl, ht, rfl⟩ := hrel
      have HT : Hid (ss.take k = tt.take k) := ht
      clear ht
      by_cases hlt : k < ss.length
      · have hlt' : k < tt.length := by have := HL.out; omega
        obtain ⟨b1, o1, rfl, hb1, hc1⟩ := h (by omega)
        obtain ⟨b2, o2, rfl, hb2, hc2⟩ := h' (by have := HL.out; omega)
        have hcx := hc1 k hlt
        have hcy := hc2 k hlt'
        go_wp2
        go_quiet (fail)
        go_wp2
        · rename_i hne
          have hne' : ¬ ss[k] = tt[k] := fun e => by rw [e] at hne; simp at hne
          go_ret
          exact ⟨ret_bool (sameL_not k hlt hlt' hne').symm, fun D => below_drewN (below_drewN (Below.refl _ _) _) _⟩
        · rename_i he
          have he' : ss[k] = tt[k] := str_inj (by simpa using he)
          go_roundw
          case rel => exact ⟨k + 1, n + nq, by omega, by go_num, take_same k hlt hlt' HT.out he', by simp⟩
          case measure => simp [intOf]; omega
      · go_wp2
        go_ret
        exact ⟨ret_bool (sameL_all HL.out k hlt HT.out).symm, fun D => below_drewN (Below.refl _ _) _⟩
  · have HS := sameL_len hlen
    go_enter Try.func92, Try.ntmps92
    go_wp2
    go_ret
    exact ⟨ret_bool HS.symm, fun D => Below.refl _ _⟩
end Go.Proofs.Ytclnpfpaabmkcab
namespace Go.Proofs.Ytclnpfpaabmkcab
open Go.RowKit M
set_option linter.unusedVariables false

set_option maxRecDepth 100000 in
set_option maxHeartbeats 4000000 in
theorem sameLockL_any (r s : Lk) (pa pb : Option Addr) (pc pd B C : Nat) (w : World) (h : Strs w B pa r.pa) (h' : Strs w C pb s.pa) (hl : r.pa.length ≤ maxLen) (hl' : s.pa.length ≤ maxLen) (hB : B ≤ w.heap.size) (hC : C ≤ w.heap.size) :
    Calls Try.prog 61 #[.agg #[.int .i64 r.tk, .slice pa r.pa.length pc, .bool r.de, .bool r.sh, .int .i64 r.un], .agg #[.int .i64 s.tk, .slice pb s.pa.length pd, .bool s.de, .bool s.sh, .int .i64 s.un]] w fun e w' => e = .returned (.bool (decide (r = s))) ∧ Below w.heap.size w w' := by
  rw [lk_eq]
  have K0 := hide (show Below w.heap.size w ((w.alloc (Obj.cells #[.int .i64 r.tk, .slice pa r.pa.length pc, .bool r.de, .bool r.sh, .int .i64 r.un] 26)).alloc (Obj.cells #[.int .i64 s.tk, .slice pb s.pa.length pd, .bool s.de, .bool s.sh, .int .i64 s.un] 26)) from ((Below.refl _ _).alloc (Nat.le_refl _) _).alloc (by simp) _)
  have A0 := hide (show BoxV ((w.alloc (Obj.cells #[.int .i64 r.tk, .slice pa r.pa.length pc, .bool r.de, .bool r.sh, .int .i64 r.un] 26)).alloc (Obj.cells #[.int .i64 s.tk, .slice pb s.pa.length pd, .bool s.de, .bool s.sh, .int .i64 s.un] 26)) w.heap.size [.int .i64 r.tk, .slice pa r.pa.length pc, .bool r.de, .bool r.sh, .int .i64 r.un] from (BoxV.made w [.int .i64 r.tk, .slice pa r.pa.length pc, .bool r.de, .bool r.sh, .int .i64 r.un] 26).alloc _)
  have B0 := hide (show BoxV ((w.alloc (Obj.cells #[.int .i64 r.tk, .slice pa r.pa.length pc, .bool r.de, .bool r.sh, .int .i64 r.un] 26)).alloc (Obj.cells #[.int .i64 s.tk, .slice pb s.pa.length pd, .bool s.de, .bool s.sh, .int .i64 s.un] 26)) (w.heap.size + 1) [.int .i64 s.tk, .slice pb s.pa.length pd, .bool s.de, .bool s.sh, .int .i64 s.un] by have h := BoxV.made (w.alloc (Obj.cells #[.int .i64 r.tk, .slice pa r.pa.length pc, .bool r.de, .bool r.sh, .int .i64 r.un] 26)) [.int .i64 s.tk, .slice pb s.pa.length pd, .bool s.de, .bool s.sh, .int .i64 s.un] 26; simpa using h)
  have HS := hide (fun W (hb : Below w.heap.size w W) => (sameTexts_any pa pb r.pa s.pa pc pd B C W (h.below hb hB) (h'.below hb hC) hl hl').mono (fun e w2 (q : _ ∧ _) => (⟨q.1, q.2 W.heap.size⟩ : _ ∧ Below W.heap.size W w2)))
  clear h h'
  obtain ⟨z0, hz0⟩ : ∃ z : Bool, (r.tk == s.tk) = z := ⟨_, rfl⟩
  obtain ⟨z1, hz1⟩ : ∃ z : Bool, sameL r.pa s.pa = z := ⟨_, rfl⟩
  rw [hz1] at HS
  obtain ⟨z2, hz2⟩ : ∃ z : Bool, (r.de == s.de) = z := ⟨_, rfl⟩
  obtain ⟨z3, hz3⟩ : ∃ z : Bool, (r.sh == s.sh) = z := ⟨_, rfl⟩
  obtain ⟨z4, hz4⟩ : ∃ z : Bool, (r.un == s.un) = z := ⟨_, rfl⟩
  rw [hz0, hz1, hz2, hz3, hz4]
  cases z0
  · clear hz1 hz2 hz3 hz4 HS
    go_enter Try.func61, Try.ntmps61
    have c0 := (A0.out.2 0 _ rfl).1
    have d0 := (B0.out.2 0 _ rfl).1
    have c1 := (A0.out.2 1 _ rfl).1
    have d1 := (B0.out.2 1 _ rfl).1
    have c2 := (A0.out.2 2 _ rfl).1
    have d2 := (B0.out.2 2 _ rfl).1
    have c3 := (A0.out.2 3 _ rfl).1
    have d3 := (B0.out.2 3 _ rfl).1
    have c4 := (A0.out.2 4 _ rfl).1
    have d4 := (B0.out.2 4 _ rfl).1
    go_wp2
    go_ret
    exact ⟨ret_bool (by simp), K0.out⟩
  cases z1
  · clear hz1 hz2 hz3 hz4
    go_enter Try.func61, Try.ntmps61
    have c0 := (A0.out.2 0 _ rfl).1
    have d0 := (B0.out.2 0 _ rfl).1
    have c1 := (A0.out.2 1 _ rfl).1
    have d1 := (B0.out.2 1 _ rfl).1
    have c2 := (A0.out.2 2 _ rfl).1
    have d2 := (B0.out.2 2 _ rfl).1
    have c3 := (A0.out.2 3 _ rfl).1
    have d3 := (B0.out.2 3 _ rfl).1
    have c4 := (A0.out.2 4 _ rfl).1
    have d4 := (B0.out.2 4 _ rfl).1
    go_wp2_with fail
    refine (HS.out _ K0.out).mono ?_
    rintro e w1 ⟨rfl, b1⟩
    clear c0 d0 c1 d1 c2 d2 c3 d3 c4 d4
    have K1 := hide (K0.out.trans (b1.mono K0.out.size))
    have A1 := hide (A0.out.next b1)
    have B1 := hide (B0.out.next b1)
    clear b1 K0 A0 B0
    have c0 := (A1.out.2 0 _ rfl).1
    have d0 := (B1.out.2 0 _ rfl).1
    have c1 := (A1.out.2 1 _ rfl).1
    have d1 := (B1.out.2 1 _ rfl).1
    have c2 := (A1.out.2 2 _ rfl).1
    have d2 := (B1.out.2 2 _ rfl).1
    have c3 := (A1.out.2 3 _ rfl).1
    have d3 := (B1.out.2 3 _ rfl).1
    have c4 := (A1.out.2 4 _ rfl).1
    have d4 := (B1.out.2 4 _ rfl).1
    go_wp2
    go_ret
    exact ⟨ret_bool (by simp), K1.out⟩
  cases z2
  · clear hz1 hz3 hz4
    go_enter Try.func61, Try.ntmps61
    have c0 := (A0.out.2 0 _ rfl).1
    have d0 := (B0.out.2 0 _ rfl).1
    have c1 := (A0.out.2 1 _ rfl).1
    have d1 := (B0.out.2 1 _ rfl).1
    have c2 := (A0.out.2 2 _ rfl).1
    have d2 := (B0.out.2 2 _ rfl).1
    have c3 := (A0.out.2 3 _ rfl).1
    have d3 := (B0.out.2 3 _ rfl).1
    have c4 := (A0.out.2 4 _ rfl).1
    have d4 := (B0.out.2 4 _ rfl).1
    go_wp2_with fail
    refine (HS.out _ K0.out).mono ?_
    rintro e w1 ⟨rfl, b1⟩
    clear c0 d0 c1 d1 c2 d2 c3 d3 c4 d4
    have K1 := hide (K0.out.trans (b1.mono K0.out.size))
    have A1 := hide (A0.out.next b1)
    have B1 := hide (B0.out.next b1)
    clear b1 K0 A0 B0
    have c0 := (A1.out.2 0 _ rfl).1
    have d0 := (B1.out.2 0 _ rfl).1
    have c1 := (A1.out.2 1 _ rfl).1
    have d1 := (B1.out.2 1 _ rfl).1
    have c2 := (A1.out.2 2 _ rfl).1
    have d2 := (B1.out.2 2 _ rfl).1
    have c3 := (A1.out.2 3 _ rfl).1
    have d3 := (B1.out.2 3 _ rfl).1
    have c4 := (A1.out.2 4 _ rfl).1
    have d4 := (B1.out.2 4 _ rfl).1
    go_wp2
    go_ret
    exact ⟨ret_bool (by simp), K1.out⟩
  cases z3
  · clear hz1 hz4
    go_enter Try.func61, Try.ntmps61
    have c0 := (A0.out.2 0 _ rfl).1
    have d0 := (B0.out.2 0 _ rfl).1
    have c1 := (A0.out.2 1 _ rfl).1
    have d1 := (B0.out.2 1 _ rfl).1
    have c2 := (A0.out.2 2 _ rfl).1
    have d2 := (B0.out.2 2 _ rfl).1
    have c3 := (A0.out.2 3 _ rfl).1
    have d3 := (B0.out.2 3 _ rfl).1
    have c4 := (A0.out.2 4 _ rfl).1
    have d4 := (B0.out.2 4 _ rfl).1
    go_wp2_with fail
    refine (HS.out _ K0.out).mono ?_
    rintro e w1 ⟨rfl, b1⟩
    clear c0 d0 c1 d1 c2 d2 c3 d3 c4 d4
    have K1 := hide (K0.out.trans (b1.mono K0.out.size))
    have A1 := hide (A0.out.next b1)
    have B1 := hide (B0.out.next b1)
    clear b1 K0 A0 B0
    have c0 := (A1.out.2 0 _ rfl).1
    have d0 := (B1.out.2 0 _ rfl).1
    have c1 := (A1.out.2 1 _ rfl).1
    have d1 := (B1.out.2 1 _ rfl).1
    have c2 := (A1.out.2 2 _ rfl).1
    have d2 := (B1.out.2 2 _ rfl).1
    have c3 := (A1.out.2 3 _ rfl).1
    have d3 := (B1.out.2 3 _ rfl).1
    have c4 := (A1.out.2 4 _ rfl).1
    have d4 := (B1.out.2 4 _ rfl).1
    go_wp2
    go_ret
    exact ⟨ret_bool (by simp), K1.out⟩
  cases z4
  · clear hz1
    go_enter Try.func61, Try.ntmps61
    have c0 := (A0.out.2 0 _ rfl).1
    have d0 := (B0.out.2 0 _ rfl).1
    have c1 := (A0.out.2 1 _ rfl).1
    have d1 := (B0.out.2 1 _ rfl).1
    have c2 := (A0.out.2 2 _ rfl).1
    have d2 := (B0.out.2 2 _ rfl).1
    have c3 := (A0.out.2 3 _ rfl).1
    have d3 := (B0.out.2 3 _ rfl).1
    have c4 := (A0.out.2 4 _ rfl).1
    have d4 := (B0.out.2 4 _ rfl).1
    go_wp2_with fail
    refine (HS.out _ K0.out).mono ?_
    rintro e w1 ⟨rfl, b1⟩
    clear c0 d0 c1 d1 c2 d2 c3 d3 c4 d4
    have K1 := hide (K0.out.trans (b1.mono K0.out.size))
    have A1 := hide (A0.out.next b1)
    have B1 := hide (B0.out.next b1)
    clear b1 K0 A0 B0
    have c0 := (A1.out.2 0 _ rfl).1
    have d0 := (B1.out.2 0 _ rfl).1
    have c1 := (A1.out.2 1 _ rfl).1
    have d1 := (B1.out.2 1 _ rfl).1
    have c2 := (A1.out.2 2 _ rfl).1
    have d2 := (B1.out.2 2 _ rfl).1
    have c3 := (A1.out.2 3 _ rfl).1
    have d3 := (B1.out.2 3 _ rfl).1
    have c4 := (A1.out.2 4 _ rfl).1
    have d4 := (B1.out.2 4 _ rfl).1
    go_wp2
    go_ret
    exact ⟨ret_bool (by simp), K1.out⟩
  clear hz1
  go_enter Try.func61, Try.ntmps61
  have c0 := (A0.out.2 0 _ rfl).1
  have d0 := (B0.out.2 0 _ rfl).1
  have c1 := (A0.out.2 1 _ rfl).1
  have d1 := (B0.out.2 1 _ rfl).1
  have c2 := (A0.out.2 2 _ rfl).1
  have d2 := (B0.out.2 2 _ rfl).1
  have c3 := (A0.out.2 3 _ rfl).1
  have d3 := (B0.out.2 3 _ rfl).1
  have c4 := (A0.out.2 4 _ rfl).1
  have d4 := (B0.out.2 4 _ rfl).1
  go_wp2_with fail
  refine (HS.out _ K0.out).mono ?_
  rintro e w1 ⟨rfl, b1⟩
  clear c0 d0 c1 d1 c2 d2 c3 d3 c4 d4
  have K1 := hide (K0.out.trans (b1.mono K0.out.size))
  have A1 := hide (A0.out.next b1)
  have B1 := hide (B0.out.next b1)
  clear b1 K0 A0 B0
  have c0 := (A1.out.2 0 _ rfl).1
  have d0 := (B1.out.2 0 _ rfl).1
  have c1 := (A1.out.2 1 _ rfl).1
  have d1 := (B1.out.2 1 _ rfl).1
  have c2 := (A1.out.2 2 _ rfl).1
  have d2 := (B1.out.2 2 _ rfl).1
  have c3 := (A1.out.2 3 _ rfl).1
  have d3 := (B1.out.2 3 _ rfl).1
  have c4 := (A1.out.2 4 _ rfl).1
  have d4 := (B1.out.2 4 _ rfl).1
  go_wp2
  go_ret
  exact ⟨ret_bool (by simp), K1.out⟩

set_option maxRecDepth 100000 in
set_option maxHeartbeats 8000000 in
theorem sameLocks_any (a b : Option Addr) (ks ls : List Lk) (cap cap' B C : Nat) (w : World) (h : Lks w B a ks) (h' : Lks w C b ls) (hB : B ≤ w.heap.size) (hC : C ≤ w.heap.size) (hl : ks.length ≤ maxLen) (hl' : ls.length ≤ maxLen) :
    Calls Try.prog 21 #[.slice a ks.length cap, .slice b ls.length cap'] w fun e w' => e = .returned (.bool (decide (ks = ls))) ∧ Below w.heap.size w w' := by
  unfold maxLen at hl hl'
  by_cases hlen : ks.length = ls.length
  · have HL : Hid (ks.length = ls.length) := hlen
    go_enter Try.func21, Try.ntmps21
    rw [← hlen]
    clear hlen
    go_wp2
    go_loopw [5] (fun i wr => ∃ k : Nat, k ≤ ks.length ∧ i = .int .i64 k ∧ ks.take k = ls.take k ∧ Below w.heap.size w wr) (fun i _ => ks.length - (intOf i).toNat)
    case atStart => exact ⟨0, Nat.zero_le _, rfl, rfl, Below.refl _ _⟩
    case round =>
      obtain ⟨k, hk, rfl, ht, hbe⟩ := hrel
      have HT := hide ht
      clear ht
      by_cases hlt : k < ks.length
      · have hlt' : k < ls.length := by have := HL.out; omega
        obtain ⟨b1, o1, rfl, hb1, hc1⟩ := (h.below hbe hB) (by omega)
        obtain ⟨b2, o2, rfl, hb2, hc2⟩ := (h'.below hbe hC) (by have := HL.out; omega)
        obtain ⟨pa, pc, ⟨hx0, hx1, hx2, hx3, hx4⟩, hkx⟩ := hc1 k hlt
        obtain ⟨pb, pd, ⟨hy0, hy1, hy2, hy3, hy4⟩, hky⟩ := hc2 k hlt'
        clear hc1 hc2
        have hq1 : b1 < wr.drew.heap.size := by have := hbe.size; show b1 < wr.heap.size; omega
        have hq2 : b2 < wr.drew.heap.size := by have := hbe.size; show b2 < wr.heap.size; omega
        have KD := hide (show Below w.heap.size w wr.drew from ⟨hbe.os, hbe.tape, hbe.output, hbe.size, hbe.block⟩)
        have bd : Below wr.heap.size wr wr.drew := below_drewG (Below.refl _ _)
        have hq := sameLockL_any ks[k] ls[k] pa pb pc pd B C wr.drew (hkx.ph.below bd (Nat.le_trans hB hbe.size)) (hky.ph.below bd (Nat.le_trans hC hbe.size)) (Nat.le_trans hkx.pl hkx.pm) (Nat.le_trans hky.pl hky.pm) (Nat.le_trans hB KD.out.size) (Nat.le_trans hC KD.out.size)
        have HX := hide (And.intro hx0 (And.intro hx1 (And.intro hx2 (And.intro hx3 (And.intro hx4 (And.intro hy0 (And.intro hy1 (And.intro hy2 (And.intro hy3 hy4)))))))))
        have HN := hide (deq_not k hlt hlt')
        have HY := hide (deq_step k hlt hlt' HT.out)
        clear hkx hky bd
        by_cases hz : ks[k] = ls[k]
        · rw [decide_eq_true hz] at hq
          have HQ := hide hq
          have HZ := hide hz
          clear hz hq
          go_wp2
          go_region_held3 (fun W => W.cell? ⟨b1, o1 + k * 5, none⟩ = some (.int .i64 ks[k].tk) ∧ W.cell? ⟨b1, o1 + k * 5 + 1, none⟩ = some (.slice pa ks[k].pa.length pc) ∧ W.cell? ⟨b1, o1 + k * 5 + 2, none⟩ = some (.bool ks[k].de) ∧ W.cell? ⟨b1, o1 + k * 5 + 3, none⟩ = some (.bool ks[k].sh) ∧ W.cell? ⟨b1, o1 + k * 5 + 4, none⟩ = some (.int .i64 ks[k].un) ∧ W.cell? ⟨b2, o2 + k * 5, none⟩ = some (.int .i64 ls[k].tk) ∧ W.cell? ⟨b2, o2 + k * 5 + 1, none⟩ = some (.slice pb ls[k].pa.length pd) ∧ W.cell? ⟨b2, o2 + k * 5 + 2, none⟩ = some (.bool ls[k].de) ∧ W.cell? ⟨b2, o2 + k * 5 + 3, none⟩ = some (.bool ls[k].sh) ∧ W.cell? ⟨b2, o2 + k * 5 + 4, none⟩ = some (.int .i64 ls[k].un)) (first | exact HX.out | exact HX2.out) ((go_at_call 61; refine HQ.out.mono ?_; rintro e w1 ⟨rfl, hb3⟩; have HX2 := hide (keep10 hb3 hq1 hq2 HX.out)))
          all_goals
            have c1 := KD.out.trans (hb3.mono KD.out.size)
            clear hb3
            go_wp2
            go_roundw
            case rel => exact ⟨k + 1, by omega, by go_num, HY.out HZ.out, c1⟩
            case measure => simp [intOf]; omega
        · rw [decide_eq_false hz] at hq
          have HQ := hide hq
          have HZ := hide hz
          clear hz hq
          go_wp2
          go_region_held3 (fun W => W.cell? ⟨b1, o1 + k * 5, none⟩ = some (.int .i64 ks[k].tk) ∧ W.cell? ⟨b1, o1 + k * 5 + 1, none⟩ = some (.slice pa ks[k].pa.length pc) ∧ W.cell? ⟨b1, o1 + k * 5 + 2, none⟩ = some (.bool ks[k].de) ∧ W.cell? ⟨b1, o1 + k * 5 + 3, none⟩ = some (.bool ks[k].sh) ∧ W.cell? ⟨b1, o1 + k * 5 + 4, none⟩ = some (.int .i64 ks[k].un) ∧ W.cell? ⟨b2, o2 + k * 5, none⟩ = some (.int .i64 ls[k].tk) ∧ W.cell? ⟨b2, o2 + k * 5 + 1, none⟩ = some (.slice pb ls[k].pa.length pd) ∧ W.cell? ⟨b2, o2 + k * 5 + 2, none⟩ = some (.bool ls[k].de) ∧ W.cell? ⟨b2, o2 + k * 5 + 3, none⟩ = some (.bool ls[k].sh) ∧ W.cell? ⟨b2, o2 + k * 5 + 4, none⟩ = some (.int .i64 ls[k].un)) (first | exact HX.out | exact HX2.out) ((go_at_call 61; refine HQ.out.mono ?_; rintro e w1 ⟨rfl, hb3⟩; have HX2 := hide (keep10 hb3 hq1 hq2 HX.out)))
          all_goals
            have c1 := KD.out.trans (hb3.mono KD.out.size)
            clear hb3
            go_wp2
            go_ret
            exact ⟨ret_bool (HN.out HZ.out).symm, c1⟩
      · go_wp2
        go_ret
        exact ⟨ret_bool (deq_all HL.out k hlt HT.out).symm, hbe⟩
  · have HS := deq_len hlen
    go_enter Try.func21, Try.ntmps21
    go_wp2
    go_ret
    exact ⟨ret_bool HS.symm, Below.refl _ _⟩
end Go.Proofs.Ytclnpfpaabmkcab
namespace Go.Proofs.Ytclnpfpaabmkcab
set_option linter.unusedVariables false

theorem take_sameI {α : Type} {a b : List α} {k : Nat} (ha : k < a.length) (hb : k < b.length) (h : a.take k = b.take k) (e : a[k] = b[k]) : a.take (k + 1) = b.take (k + 1) := by
  rw [List.take_succ_eq_append_getElem ha, List.take_succ_eq_append_getElem hb, h, e]
theorem take_not {α : Type} {a b : List α} {k : Nat} (ha : k < a.length) (hb : k < b.length) (e : a[k] ≠ b[k]) : ¬ a = b := fun h => e (by subst h; rfl)
end Go.Proofs.Ytclnpfpaabmkcab
namespace Go.Proofs.Ytclnpfpaabmkcab
open Go.RowKit M
set_option linter.unusedVariables false

set_option maxRecDepth 100000 in
set_option maxHeartbeats 4000000 in
theorem sameInts_any (p q : Option Addr) (a b : List Int) (ca cb B C : Nat) (w : World) (h : Ints w B p a) (h' : Ints w C q b) (hla : a.length ≤ 4194304) (hlb : b.length ≤ 4194304) :
    Calls Try.prog 24 #[.slice p a.length ca, .slice q b.length cb] w fun e w' => (∃ z : Bool, e = .returned (.bool z) ∧ (z = true ↔ a = b)) ∧ Below w.heap.size w w' := by
  have HH := hide h
  have HH' := hide h'
  clear h h'
  by_cases hl : a.length = b.length
  rotate_left
  · have HN := hide (show ¬ a = b from fun e => hl (by rw [e]))
    have hl1 : ((a.length : Int) == (b.length : Int)) = false := by rw [beq_eq_false_iff_ne]; omega
    have hl2 : ((a.length : Int) != (b.length : Int)) = true := by rw [bne_iff_ne]; omega
    go_enter Try.func24, Try.ntmps24
    go_wp2
    go_ret
    exact ⟨⟨_, rfl, ⟨fun e => (by cases e), fun e => absurd e HN.out⟩⟩, Below.refl _ _⟩
  have hl1 : ((a.length : Int) == (b.length : Int)) = true := by rw [beq_iff_eq]; omega
  have hl2 : ((a.length : Int) != (b.length : Int)) = false := by rw [hl]; simp
  have HL := hide hl
  clear hl
  go_enter Try.func24, Try.ntmps24
  go_wp2
  go_loopw [5] (fun i wr => ∃ k n : Nat, k ≤ a.length ∧ i = .int .i64 k ∧ Hid (a.take k = b.take k) ∧ wr = w.drewN n) (fun i _ => a.length - (intOf i).toNat)
  case atStart => exact ⟨0, 0, Nat.zero_le _, rfl, rfl, rfl⟩
  case round =>
    obtain ⟨k, n, hk, rfl, HT, hw⟩ := hrel
    subst hw
    by_cases hlt : k < a.length
    · have hltb : k < b.length := by have := HL.out; omega
      obtain ⟨b1, o1, rfl, hb1, hc1⟩ := HH.out (by omega)
      obtain ⟨b2, o2, rfl, hb2, hc2⟩ := HH'.out (by omega)
      have x0 := hc1 k hlt
      have y0 := hc2 k hltb
      have HNE := hide (fun e => take_not hlt hltb e)
      have HSM := hide (fun e => take_sameI hlt hltb HT.out e)
      clear hc1 hc2
      have hi0 : (0 : Int) ≤ (k : Int) := by omega
      have hi1 : (k : Int) < (a.length : Int) := by omega
      have hi2 : (k : Int) < (b.length : Int) := by omega
      obtain ⟨x, hx⟩ : ∃ z, a[k] = z := ⟨_, rfl⟩
      obtain ⟨y, hy⟩ : ∃ z, b[k] = z := ⟨_, rfl⟩
      rw [hx] at HNE HSM x0
      rw [hy] at HNE HSM y0
      clear hx hy
      have d0 : (w.drewN n).cell? ⟨b1, o1 + k, none⟩ = some (.int .i64 x) := x0
      have d1 : (w.drewN n).cell? ⟨b2, o2 + k, none⟩ = some (.int .i64 y) := y0
      by_cases q1 : x = y
      · have HN := hide (HSM.out q1)
        go_wp2
        go_quiet (fail)
        go_wp2
        go_roundw
        case rel => exact ⟨k + 1, n + nq, by omega, by go_num, HN, by simp⟩
        case measure => simp [intOf]; omega
      · have HN := hide (HNE.out q1)
        go_wp2
        go_quiet (fail)
        go_wp2
        go_ret
        exact ⟨⟨_, rfl, ⟨fun e => (by cases e), fun e => absurd e HN.out⟩⟩, below_drewN (below_drewN (Below.refl _ _) _) _⟩
    · have HE := hide (show a = b by
        have h1 := HT.out
        rw [List.take_of_length_le (by omega), List.take_of_length_le (by have := HL.out; omega)] at h1
        exact h1)
      go_wp2
      go_ret
      exact ⟨⟨_, rfl, ⟨fun _ => HE.out, fun _ => rfl⟩⟩, below_drewN (Below.refl _ _) _⟩
end Go.Proofs.Ytclnpfpaabmkcab
namespace Go.Proofs.Ytclnpfpaabmkcab
open Go.RowKit M
set_option linter.unusedVariables false

theorem ints_of_view {w : World} {B : Nat} {v : Value} {l : List Int} (h : View w B v (.l (l.map dI))) : ∃ a cap, v = .slice a l.length cap ∧ l.length ≤ cap ∧ cap ≤ maxLen ∧ (a = none → cap = 0) ∧ Ints w B a l := by
  obtain ⟨a, cap, h1, h2, h3, h4, h5⟩ := h.rows 1 (fun _ => rfl)
  refine ⟨a, cap, h1, h2, h3, h4, fun h0 => ?_⟩
  obtain ⟨b, o, C, e, hb, hc⟩ := h5 h0
  refine ⟨b, o, e, hb, fun j hj => ?_⟩
  obtain ⟨c, v⟩ := hc j hj 0 (.c (.int .i64 l[j])) rfl
  rw [v.inv] at c
  simpa using c
end Go.Proofs.Ytclnpfpaabmkcab
namespace Go.Proofs.Ytclnpfpaabmkcab
open Go.RowKit

/-- What the walk is told of a slice of integers that came in: it is nil; or it leads to a row of 'cap' cells, the numbers 'zs' (the first 'len' are its elements), each fitting its kind. -/
def IsRow (k : IntKind) (w : World) (a : Option Addr) (len cap : Nat) (zs : List Int) : Prop :=
  (a = none ∧ len = 0 ∧ cap = 0 ∧ zs = []) ∨
  ∃ x, a = some x ∧ len ≤ cap ∧ cap ≤ maxLen ∧ zs.length = cap ∧ (∀ i, i < zs.length → w.cell? (x.add i) = some (.int k (zs.getD i 0))) ∧ ∀ n ∈ zs, (Lit.int k n).wf = true
end Go.Proofs.Ytclnpfpaabmkcab
