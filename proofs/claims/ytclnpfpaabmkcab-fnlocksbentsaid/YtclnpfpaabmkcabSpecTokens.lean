/-
  What spec.TokensAt does.
-/
import Derived.Test.YtclnpfpaabmkcabCoversI
import Derived.Test.YtclnpfpaabmkcabRowC
import Derived.Test.YtclnpfpaabmkcabSpecPl
import Derived.Test.YtclnpfpaabmkcabGenLockV
import Derived.Test.YtclnpfpaabmkcabGenPick
namespace Go.Proofs.Ytclnpfpaabmkcab
open Go.RowKit M
set_option linter.unusedVariables false

theorem tokL_snoc (l : List Lk) (p : List ByteArray) (k : Nat) (hk : k < l.length) : tokL (l.take (k + 1)) p = tokL (l.take k) p ++ (if covB l[k] p = true then [l[k].tk] else []) := by
  unfold tokL
  rw [List.take_succ_eq_append_getElem hk, List.filter_append, List.map_append, List.filter_cons, List.filter_nil]
  split <;> rfl
set_option maxRecDepth 100000 in
set_option maxHeartbeats 4000000 in
theorem specTokens_any (a : Option Addr) (l : List Lk) (cap B : Nat) (pp : Option Addr) (p : List ByteArray) (pc C : Nat) (w : World) (h : Lks w B a l) (hB : B ≤ w.heap.size) (h' : Strs w C pp p) (hC : C ≤ w.heap.size) (hl : l.length ≤ 1048576) (hpl : p.length ≤ pc) (hpm : pc ≤ maxLen) :
    Calls Try.prog 26 #[.slice a l.length cap, .slice pp p.length pc] w fun e w' => (∃ r : Value, e = .returned r ∧ View w' w'.heap.size r (.l ((tokL l p).map dI))) ∧ Below w.heap.size w w' := by
  have HH := hide h
  have HP := hide h'
  have HPL := hide (And.intro hpl hpm)
  have HO := hide (OwnG.made (tE := 3) (K := 1) (cs := ci) w w.heap.size (Nat.le_refl _))
  clear h h' hpl hpm
  go_enter Try.func26, Try.ntmps26
  go_wp2
  go_loopw [5, 6] (fun v i wr => ∃ (k g n c : Nat) (ts : List Int), k ≤ l.length ∧ i = .int .i64 k ∧ v = .slice (some ⟨g, 0, none⟩) n c ∧ ts.length ≤ k ∧ Hid (OwnG 3 1 ci wr w.heap.size (.slice (some ⟨g, 0, none⟩) n c) ts) ∧ Hid (ts = tokL (l.take k) p) ∧ Below w.heap.size w wr) (fun _ i _ => l.length - (intOf i).toNat)
  case atStart => exact ⟨0, _, _, _, [], Nat.zero_le _, rfl, rfl, Nat.le_refl _, HO, (by show _ = _; simp [tokL]), (Below.refl _ _).alloc (Nat.le_refl _) _⟩
  case round =>
    obtain ⟨k, g, n, c, ts, hk, rfl, rfl, htl, HOW, HTS, hbe⟩ := hrel
    by_cases hlt : k < l.length
    · obtain ⟨b, o, rfl, hb, hc⟩ := (HH.out.below hbe hB) (by omega)
      obtain ⟨pa, pc1, ⟨hc0, hc1, hc2, hc3, hc4⟩, hin⟩ := hc k hlt
      have hBr := Nat.le_trans hB hbe.size
      have HC := hide (specCovers_any l[k] pa pc1 pp p pc B C wr hin hBr (HP.out.below hbe hC) (Nat.le_trans hC hbe.size) HPL.out.1 HPL.out.2)
      have HF := hide (tokL_snoc l p k hlt)
      obtain ⟨z, hz⟩ : ∃ z, covB l[k] p = z := ⟨_, rfl⟩
      rw [hz] at HC HF
      have hbw : b < wr.heap.size := by omega
      clear hz hc hin
      go_wp2_with fail
      refine HC.out.mono ?_
      rintro e w1 ⟨rfl, b1⟩
      have HO1 := hide (HOW.out.next b1)
      have c1 := hbe.trans (b1.mono hbe.size)
      have d0 := (b1.cell (p := ⟨b, o + k * 5, none⟩) hbw).trans hc0
      clear b1 HOW HC hc0 hc1 hc2 hc3 hc4
      cases z
      · go_wp2
        go_roundw
        case rel => exact ⟨k + 1, g, n, c, ts, by omega, by go_num, rfl, by omega, HO1, (by show _ = _; rw [HF.out, HTS.out]; simp), c1⟩
        case measure => simp [intOf]; omega
      · have bA := (Below.refl w1.heap.size w1).alloc (Nat.le_refl _) (Obj.cells #[.int .i64 l[k].tk] 3)
        have HO3 := hide (HO1.out.next bA)
        have HC3 := hide (c1.trans (bA.mono c1.size))
        have hln : ts.length + 1 ≤ 100000000000 := by omega
        have hs3 := HC3.out.size
        clear bA HO1
        go_wp2_with (at_builtin; refine wp_append_gen 39 Try.underlying39 (.int .i64 0) 8 infoI rfl (by decide) (by decide) rfl _ _ rfl w.heap.size _ ts rfl HO3.out ci_len _ l[k].tk rfl (fun i v hv => by match i with | 0 => (cases hv; simp) | i + 1 => cases hv) (fun v hv => by simp [ci] at hv; subst hv; rfl) hln hs3 ?_)
        intro g9 n9 c9 w9 hn9 hO9 hb9 hg9 _
        have HO9 := hide hO9
        have HB9 := hide (HC3.out.trans hb9)
        clear hO9 hb9 hg9 hn9 HO3 HC3
        go_wp2
        go_roundw
        case rel => exact ⟨k + 1, g9, n9, c9, _, by omega, by go_num, rfl, by simp; omega, HO9, (by show _ = _; rw [HF.out, HTS.out]; simp), HB9.out⟩
        case measure => simp [intOf]; omega
    · have HF := hide (show l.take k = l from List.take_of_length_le (by omega))
      have HV := hide (view_of_ints HOW.out)
      go_wp2
      go_ret
      exact ⟨⟨_, rfl, by rw [← HF.out, ← HTS.out]; exact HV.out⟩, hbe⟩
end Go.Proofs.Ytclnpfpaabmkcab
