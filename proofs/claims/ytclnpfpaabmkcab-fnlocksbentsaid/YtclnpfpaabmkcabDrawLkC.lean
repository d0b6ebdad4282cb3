/-
  Right locks that are drawn: spec.l13Draw.
-/
import Derived.Test.YtclnpfpaabmkcabGenPick
import Derived.Test.YtclnpfpaabmkcabSpecAddC
namespace Go.Proofs.Ytclnpfpaabmkcab
open Go.RowKit M
set_option linter.unusedVariables false

/-- Few locks, each small. -/
def FewLs (k : Nat) (l : List Lk) : Prop := l.length ≤ k ∧ ∀ x ∈ l, 1 ≤ x.tk ∧ x.tk ≤ 9 ∧ Few 3 x.pa
theorem FewLs.snoc {k : Nat} {l : List Lk} {x : Lk} (h : FewLs k l) (h1 : 1 ≤ x.tk) (h2 : x.tk ≤ 9) (h3 : Few 3 x.pa) : FewLs (k + 1) (l ++ [x]) :=
  ⟨by have := h.1; simp; omega, fun y hy => by
    rcases List.mem_append.1 hy with e | e
    · exact h.2 y e
    · obtain rfl := List.mem_singleton.1 e; exact ⟨h1, h2, h3⟩⟩
theorem FewLs.add {k : Nat} {l : List Lk} {x : Lk} (h : FewLs k l) (h1 : 1 ≤ x.tk) (h2 : x.tk ≤ 9) (h3 : Few 3 x.pa) : FewLs (k + 1) (addL l x) := by
  unfold addL
  split
  · exact h.snoc h1 h2 h3
  · exact ⟨Nat.le_succ_of_le h.1, h.2⟩
theorem FewLs.pa {k : Nat} {l : List Lk} (h : FewLs k l) : ∀ r ∈ l, r.pa.length ≤ 1048576 := fun r hr => by
  have := (h.2 r hr).2.2.1; omega
theorem FewLs.short {k : Nat} {l : List Lk} (h : FewLs k l) : ShortK l := fun r hr => by
  have := (h.2 r hr).2.2
  exact ⟨by have := this.1; unfold maxLen; omega, this.short⟩

set_option maxRecDepth 100000 in
set_option maxHeartbeats 4000000 in
theorem l13DrawC_any {w : World} {N : Nat} {a : Option Addr} {len cap : Nat} {zs : List Int} (h : DX w N a len cap zs) :
    Calls Try.prog 83 #[.pointer (some ⟨N, 0, none⟩)] w fun e w' => (∃ (l : List Lk) (g n c : Nat), FewLs 5 l ∧ n = l.length ∧ n ≤ c ∧ c ≤ maxLen ∧ e = .returned (.slice (some ⟨g, 0, none⟩) n c) ∧ RowC w' w.heap.size g c l) ∧ DX w' N a len cap zs ∧ w.grownBy w' (some N) := by
  have hNl := h.lt
  have DA := hide (h.alloc (Obj.cells #[] 26))
  have RA := hide (RowC.none w)
  have GA := hide (grown_alloc (grown_refl w (some N)) (Obj.cells #[] 26))
  obtain ⟨wA, hwA⟩ : ∃ wA, w.alloc (Obj.cells #[] 26) = wA := ⟨_, rfl⟩
  rw [hwA] at DA RA GA
  clear h
  go_enter Try.func83, Try.ntmps83
  go_wp2_with fail
  clear hwA
  refine (l1BelowX DA.out 6 (by decide) (by decide)).mono ?_
  rintro e w1 ⟨⟨k1, rfl, hk1⟩, dx1, g1⟩
  have D1 := hide dx1
  have G1 := hide (grown_trans GA.out g1)
  have RP1 := hide (RA.out.grown g1 hNl)
  clear dx1 g1 DA GA RA
  go_wp2
  go_loopw [3, 4] (fun v i wr => ∃ (k : Nat) (l : List Lk) (g n c m : Nat), i = .int .i64 k ∧ v = .slice (some ⟨g, 0, none⟩) n c ∧ m + k ≤ 5 ∧ Hid (n = l.length ∧ n ≤ c ∧ c ≤ maxLen ∧ FewLs m l) ∧ Hid (RowC wr w.heap.size g c l) ∧ Hid (DX wr N a len cap zs) ∧ Hid (w.grownBy wr (some N))) (fun _ i _ => (intOf i).toNat)
  case atStart => exact ⟨k1, [], w.heap.size, 0, 0, 0, rfl, rfl, by omega, hide ⟨rfl, Nat.le_refl _, by unfold maxLen; omega, Nat.le_refl _, fun x hx => by cases hx⟩, RP1, D1, G1⟩
  case round =>
    obtain ⟨k, l, g, n, c, m, rfl, rfl, hmk, HL, HR, HD, HG⟩ := hrel
    by_cases h0 : 0 < k
    · have h0' : (0 : Int) < k := by omega
      go_wp2_with fail
      refine (l13Lock_any HD.out).mono ?_
      rintro e w2 ⟨⟨x, g2, n2, c2, hx1, hx2, hx3, hn2, rfl, ho⟩, dx2, gr2⟩
      have D2 := hide dx2
      have G2 := hide (grown_trans HG.out gr2)
      have R2 := hide (HR.out.grown gr2 hNl)
      have HOS := hide (own_strs ho hn2)
      have HN2 := hide hn2
      have HFA := hide (HL.out.2.2.2.add hx1 hx2 hx3)
      have HFS := hide (HL.out.2.2.2.snoc hx1 hx2 hx3)
      have hml : l.length ≤ 1048576 := by have := HL.out.2.2.2.1; omega
      have HQ := specAddC_any (some ⟨g, 0, none⟩) l c w2.heap.size x (some ⟨g2, 0, none⟩) c2 w2 R2.out.lks ⟨HOS.out.1, by have := HOS.out.2.1; rw [← HN2.out]; exact this, HOS.out.2.2.1, fun e => by cases e⟩ (Nat.le_refl _) hml (fun e => by cases e) HFS.out.pa HFS.out.short
      rw [← HN2.out, ← HL.out.1] at HQ
      replace HQ := hide HQ
      clear dx2 gr2 ho hn2 HR HD HG hml
      go_wp2_with fail
      refine HQ.out.mono ?_
      rintro e w3 ⟨⟨g3, n3, c3, rfl, hn3, hc1, hc2, hp3⟩, b3⟩
      have D3 := hide (D2.out.below b3)
      have G3 := hide (grown_belowQ G2.out b3 G2.out.size)
      have R3 := hide (RowC.mono hp3 G2.out.size)
      have HL3 := hide (show n3 = (addL l x).length ∧ n3 ≤ c3 ∧ c3 ≤ maxLen ∧ FewLs (m + 1) (addL l x) from ⟨hn3, hc1, hc2, HFA.out⟩)
      clear hn3 hc1 hc2 hp3 b3 HQ D2 G2 R2
      go_wp2
      go_roundw
      case rel => exact ⟨k - 1, addL l x, g3, n3, c3, m + 1, by go_num, rfl, by omega, HL3, R3, D3, G3⟩
      case measure => simp [intOf]; omega
    · have h0' : ¬ (0 : Int) < k := by omega
      have HE := hide HL.out.1
      go_wp2
      refine bodyPost_ret (v := .slice (some ⟨g, 0, none⟩) n c) (by simp [results, Try.results83, go_sem]) rfl ⟨⟨l, ⟨Nat.le_trans HL.out.2.2.2.1 (by omega), HL.out.2.2.2.2⟩, g, c, by rw [← HE.out]; exact HL.out.2.1, HL.out.2.2.1, by rw [HE.out], HR.out⟩, HD.out, HG.out⟩
end Go.Proofs.Ytclnpfpaabmkcab
