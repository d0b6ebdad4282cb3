/-
  What FnLocksBent draws: spec.DrawLockOk.
-/
import Derived.Test.YtclnpfpaabmkcabRowCK
namespace Go.Proofs.Ytclnpfpaabmkcab
open Go.RowKit M
set_option linter.unusedVariables false

/-- A small lock, in a row of its own. -/
def OneM (w : World) (x : Lk) (p m k : Nat) : Prop := -1 ≤ x.tk ∧ x.tk ≤ 10000 ∧ Few 6 x.pa ∧ m = x.pa.length ∧ RowS w p x.pa ∧ m ≤ k ∧ k ≤ maxLen
def LokK (e : Ending) (w' : World) : Prop := ∃ (x : Lk) (p m k : Nat), e = .returned (.agg #[.int .i64 x.tk, .slice (some ⟨p, 0, none⟩) m k, .bool x.de, .bool x.sh, .int .i64 x.un]) ∧ OneM w' x p m k

set_option maxRecDepth 100000 in
set_option maxHeartbeats 8000000 in
theorem drawLockOk_any {w : World} {B : Nat} {a : Option Addr} {len : Nat} {zs : List Int} (h : CodeIn w B a len zs) (cap : Nat) :
    Calls Try.prog 6 #[.slice a len cap] w fun e w' => LokK e w' ∧ Below w.heap.size w w' := by
  have b0 := (Below.refl w.heap.size w).alloc (Nat.le_refl _) (Obj.cells #[.int .i64 0, .slice none 0 0, .bool false, .bool false, .int .i64 0] 26)
  have HC := hide (h.below (b0.mono h.hB))
  have K0 := hide b0
  have X0 := hide (BoxV.made w [.int .i64 0, .slice none 0 0, .bool false, .bool false, .int .i64 0] 26)
  clear h b0
  go_enter Try.func6, Try.ntmps6
  go_wp2_with fail
  refine (newDX HC.out cap).mono ?_
  rintro e w1 ⟨rfl, hd1, b1⟩
  obtain ⟨N, hN⟩ : ∃ n, (w.alloc (Obj.cells #[.int .i64 0, .slice none 0 0, .bool false, .bool false, .int .i64 0] 26)).heap.size = n := ⟨_, rfl⟩
  have hNw : w.heap.size < N := by rw [← hN]; simp
  rw [hN] at hd1 ⊢
  have hN1 : N < w1.heap.size := hd1.lt
  have HD1 := hide hd1
  have K1 := hide (K0.out.trans (b1.mono K0.out.size))
  have X1 := hide (X0.out.next b1)
  clear hd1 b1 K0 X0 HC hN
  go_wp2_with fail
  refine (l13Any_any HD1.out).mono ?_
  rintro e w3 ⟨⟨l', g', n', c', rfl, hf, hn, hc1, hc2, hr⟩, hd3, hg3⟩
  have HF' := hide hf
  have HN' := hide hn
  have R3 := hide hr
  have D3 := hide hd3
  have K3 := hide (K1.out.trans (grown_below hg3 (by omega) (by omega) : Below w.heap.size w1 w3))
  have X3 := hide (X1.out.grown hg3 (by omega))
  have hz13 := hg3.size
  clear hf hn hc1 hc2 hr hd3 hg3 HD1 K1 X1
  go_wp2_with fail
  refine (l13Lock_any D3.out).mono ?_
  rintro e w4 ⟨⟨x, p, m, k, x1, x2, x3, hm, rfl, ho⟩, dx4, g4⟩
  obtain ⟨q1, q2, q3, q4⟩ := rowS_of ho hm
  subst hm
  have D4 := hide dx4
  have K4 := hide (K3.out.trans (grown_below g4 (by omega) (by omega) : Below w.heap.size w3 w4))
  have X4 := hide (X3.out.grown g4 (by omega))
  have hz34 := g4.size
  have R4 := hide (R3.out.grown g4 (by omega))
  have q5 : p < w4.heap.size := q1.1
  have hpg : p ≠ g' := by
    obtain ⟨ts, r1, r2, _⟩ := R3.out
    have := r2.1
    omega
  have HFX := hide (HF'.out.snoc (x := x) (by omega) (by omega) ⟨by have := x3.1; omega, x3.2⟩)
  have bA := (Below.refl w4.heap.size w4).alloc (Nat.le_refl _) (Obj.cells #[.int .i64 x.tk, .slice (some ⟨p, 0, none⟩) x.pa.length k, .bool x.de, .bool x.sh, .int .i64 x.un] 26)
  obtain ⟨ts, r1, r2, r3, r4, r5⟩ := R4.out.next bA
  rw [← HN'.out] at r5
  have HO := hide r5
  have HR1 := hide r1
  have HR3 := hide r3
  have HQ := hide (And.intro (q1.below bA) (And.intro q2 q3))
  have KA := hide (K4.out.trans (bA.mono K4.out.size))
  have XA := hide (X4.out.alloc (Obj.cells #[.int .i64 x.tk, .slice (some ⟨p, 0, none⟩) x.pa.length k, .bool x.de, .bool x.sh, .int .i64 x.un] 26))
  have DA := hide (D4.out.below bA)
  have hzB : w1.heap.size ≤ (w4.alloc (Obj.cells #[.int .i64 x.tk, .slice (some ⟨p, 0, none⟩) x.pa.length k, .bool x.de, .bool x.sh, .int .i64 x.un] 26)).heap.size := by simp; omega
  have hln : ts.length + 1 ≤ 1099511627776 := by have e1 := HF'.out.1; have e2 : ts.length = l'.length := (by rw [← HR1.out, List.length_map]); omega
  have HAT := hide (show LkAt (w4.alloc (Obj.cells #[.int .i64 x.tk, .slice (some ⟨p, 0, none⟩) x.pa.length k, .bool x.de, .bool x.sh, .int .i64 x.un] 26)) w4.heap.size 0 x (some ⟨p, 0, none⟩) k by refine ⟨?_, ?_, ?_, ?_, ?_⟩ <;> simp [go_sem])
  clear bA r1 r2 r3 r4 r5 q1 q2 q3 ho dx4 x1 x2 x3 g4 K3 X3 D3 K4 X4 D4
  go_wp2_with (at_builtin; refine wp_append_lkT 32 Try.underlying32 rfl _ _ rfl w1.heap.size _ ts rfl HO.out _ ⟨x, some ⟨p, 0, none⟩, k⟩ rfl HAT.out hln hzB ?_)
  intro g9 n9 c9 w9 hn9 hO9 hb9 hg9 hat
  obtain ⟨s1, s2, s3, s4⟩ := rowC_snoc (x := x) HR1.out HR3.out HQ.out.1 hpg (by omega) HQ.out.2.1 HQ.out.2.2 hO9 hg9 (by
    rcases hat with e | e
    · exact .inl (Option.some.inj e)
    · have e1 : g9 = w4.heap.size + 1 := (by have e1 := Option.some.inj e; simpa using e1)
      right; simp; omega)
  subst s2
  have R9 := hide s1
  have K9 := hide (KA.out.trans (hb9.mono (by omega)))
  have X9 := hide (boxV_keep XA.out hb9.size (hb9.block _ (by omega)))
  have D9 := hide (DA.out.other hb9.size (fun i hi => hb9.block i (by omega)))
  have HL9 := hide (show 0 < (l' ++ [x]).length by simp)
  obtain ⟨L, hL⟩ : ∃ L, l' ++ [x] = L := ⟨_, rfl⟩
  rw [hL] at R9 HFX HL9 ⊢
  clear hn9 hO9 hb9 hg9 hat s1 s3 s4 HO HR1 HR3 HQ KA XA DA HAT hL R4 R3
  go_wp2_with fail
  refine (l1BelowX D9.out 2 (by decide) (by decide)).mono ?_
  rintro e w10 ⟨⟨b, rfl, hb⟩, dx10, g10⟩
  have hL7 : L.length ≤ 7 := HFX.out.1
  have hL0 := HL9.out
  have R10 := hide (R9.out.grown g10 (by omega))
  have K10 := hide (K9.out.trans (grown_below g10 (by omega) (by have := K9.out.size; omega) : Below w.heap.size w9 w10))
  have X10 := hide (X9.out.grown g10 (by omega))
  obtain ⟨i, hi⟩ : ∃ i : Nat, L.length - 1 - b % L.length = i := ⟨_, rfl⟩
  have hm0 : b % L.length < L.length := Nat.mod_lt _ hL0
  have hil : i < L.length := by omega
  obtain ⟨r, hr⟩ : ∃ r : Nat, b % L.length = r := ⟨_, rfl⟩
  have hrm : (b : Int) % (L.length : Int) = (r : Int) := by rw [← hr]; omega
  rw [hr] at hi hm0
  have hw1 : wrap64 ((L.length : Int) - 1) = (L.length : Int) - 1 := by unfold wrap64; omega
  have hw2 : wrap64 ((L.length : Int) - 1 - (r : Int)) = (i : Int) := by unfold wrap64; omega
  have hn0 : ¬ (L.length : Int) = 0 := by omega
  have hi0 : (0 : Int) ≤ (i : Int) := by omega
  have hi1 : (i : Int) < (L.length : Int) := by omega
  have HI := hide hi
  clear hi hm0 hr dx10 g10 D9 R9 K9 X9
  obtain ⟨pp, kk, hat5, hrs, hk1, hk2, hpp⟩ := rowC_at R10.out i hil
  have HS := hide hrs
  have HKK := hide (And.intro hk1 (And.intro hk2 hpp))
  have HY := hide (HFX.out.2 L[i] (List.getElem_mem hil))
  obtain ⟨y, hy⟩ : ∃ y, L[i] = y := ⟨_, rfl⟩
  rw [hy] at hat5 HS HKK HY
  obtain ⟨e0, e1, e2, e3, e4⟩ := hat5
  have d0 := X10.out.2 0 _ rfl
  have d1 := X10.out.2 1 _ rfl
  have d2 := X10.out.2 2 _ rfl
  have d3 := X10.out.2 3 _ rfl
  have d4 := X10.out.2 4 _ rfl
  have XE := hide (((((X10.out.set 0 (by simp) (.int .i64 y.tk)).set 1 (by simp) (.slice (some ⟨pp, 0, none⟩) y.pa.length kk)).set 2 (by simp) (.bool y.de)).set 3 (by simp) (.bool y.sh)).set 4 (by simp) (.int .i64 y.un))
  have KE := hide (((((K10.out.setCell (p := ⟨w.heap.size, 0, none⟩) (Nat.le_refl _) (.int .i64 y.tk)).setCell (p := ⟨w.heap.size, 1, none⟩) (Nat.le_refl _) (.slice (some ⟨pp, 0, none⟩) y.pa.length kk)).setCell (p := ⟨w.heap.size, 2, none⟩) (Nat.le_refl _) (.bool y.de)).setCell (p := ⟨w.heap.size, 3, none⟩) (Nat.le_refl _) (.bool y.sh)).setCell (p := ⟨w.heap.size, 4, none⟩) (Nat.le_refl _) (.int .i64 y.un))
  have SE := hide (RowS.hp (RowS.hp (RowS.hp (RowS.hp (RowS.hp HS.out (by simp) (Below.heap_setCell _ ⟨w.heap.size, 0, none⟩ (.int .i64 y.tk) pp (by show pp ≠ w.heap.size; have := HKK.out.2.2; omega))) (by simp) (Below.heap_setCell _ ⟨w.heap.size, 1, none⟩ (.slice (some ⟨pp, 0, none⟩) y.pa.length kk) pp (by show pp ≠ w.heap.size; have := HKK.out.2.2; omega))) (by simp) (Below.heap_setCell _ ⟨w.heap.size, 2, none⟩ (.bool y.de) pp (by show pp ≠ w.heap.size; have := HKK.out.2.2; omega))) (by simp) (Below.heap_setCell _ ⟨w.heap.size, 3, none⟩ (.bool y.sh) pp (by show pp ≠ w.heap.size; have := HKK.out.2.2; omega))) (by simp) (Below.heap_setCell _ ⟨w.heap.size, 4, none⟩ (.int .i64 y.un) pp (by show pp ≠ w.heap.size; have := HKK.out.2.2; omega)))
  clear hy hrs hk1 hk2 hpp X10 K10 R10 HF' HN' HFX HL9
  go_wp2
  have r0 := (XE.out.2 0 _ rfl).1
  have r1 := (XE.out.2 1 _ rfl).1
  have r2 := (XE.out.2 2 _ rfl).1
  have r3 := (XE.out.2 3 _ rfl).1
  have r4 := (XE.out.2 4 _ rfl).1
  refine bodyPost_ret (v := .agg #[.int .i64 y.tk, .slice (some ⟨pp, 0, none⟩) y.pa.length kk, .bool y.de, .bool y.sh, .int .i64 y.un]) (by simp [results, Try.results6, go_sem, r0, r1, r2, r3, r4]) rfl ⟨⟨y, pp, y.pa.length, kk, rfl, HY.out.1, HY.out.2.1, HY.out.2.2, rfl, SE.out, HKK.out.1, HKK.out.2.1⟩, KE.out⟩
end Go.Proofs.Ytclnpfpaabmkcab
