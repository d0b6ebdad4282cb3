/-
  Locks that are drawn and bent: spec.l13Any.
-/
import Derived.Test.YtclnpfpaabmkcabDrawLkC
import Derived.Test.YtclnpfpaabmkcabDrawPath2
import Derived.Test.YtclnpfpaabmkcabDrawNI
namespace Go.Proofs.Ytclnpfpaabmkcab
open Go.RowKit M
set_option linter.unusedVariables false

theorem rowS_of {w : World} {B g n c : Nat} {ss : List ByteArray} (h : w.ownsRow B 9 1 (.slice (some ⟨g, 0, none⟩) n c) n (strCells ss)) (hn : n = ss.length) : RowS w g ss ∧ ss.length ≤ c ∧ c ≤ maxLen ∧ B ≤ g := by
  have hlt := h.lt g rfl
  have hcell : ∀ j (hj : j < ss.length), w.cell? ⟨g, j, none⟩ = some (.string ss[j]) := fun j hj => by
    have e := h.cellAt j (by omega)
    rw [e]
    unfold strCells
    rw [List.getElem?_map, List.getElem?_eq_getElem hj]
    rfl
  obtain ⟨_, k1, k2, k3⟩ := own_strs h hn
  rcases h.2 with ⟨e, _⟩ | ⟨g', c', cur, e, hB, hh, h1, h2, _⟩
  · cases e
  · cases e
    refine ⟨⟨hlt.2, fun j hj => ⟨hcell j hj, ?_⟩⟩, by omega, k2, k3⟩
    simp only [World.frozen?, hh, Bool.and_eq_false_iff, decide_eq_false_iff_not]
    right; omega
theorem intNewP {w : World} {N : Nat} {a : Option Addr} {len cap : Nat} {zs : List Int} (h : DX w N a len cap zs) (ss : List Int) (C : Array Value) (T : TypeId) (n M : Nat) (hM : M = w.heap.size) (hC : C = (ss.map (Value.int .i64)).toArray) (hn : ss.length = n) (h0 : 0 < n) (h1 : n ≤ 256) (p : Int → Prop) (hpd : ∀ i, i < n → p (ss.getD i 0)) :
    Calls Try.prog 50 #[.pointer (some ⟨N, 0, none⟩), .slice (some ⟨M, 0, none⟩) n n] (w.alloc (.cells C T)) fun e w' => (∃ x : Int, e = .returned (.int .i64 x) ∧ p x) ∧ DX w' N a len cap zs ∧ w.grownBy w' (some N) := by
  obtain ⟨c, h⟩ := h
  refine (intNew h ss C T n M hM hC hn h0 h1).mono ?_
  rintro e w1 ⟨rfl, hd, hg⟩
  exact ⟨⟨_, rfl, hpd _ (pick_lt _ _ _ _ h0)⟩, ⟨_, hd⟩, hg⟩
/-- Few locks, each small, right or not. -/
def FewM (k : Nat) (l : List Lk) : Prop := l.length ≤ k ∧ ∀ x ∈ l, -1 ≤ x.tk ∧ x.tk ≤ 10000 ∧ Few 6 x.pa
theorem FewM.of {k m : Nat} {l : List Lk} (h : FewLs k l) (hk : k ≤ m) : FewM m l := ⟨Nat.le_trans h.1 hk, fun x hx => by
  obtain ⟨h1, h2, h3, h4⟩ := h.2 x hx
  exact ⟨by omega, by omega, by omega, h4⟩⟩
theorem FewM.snoc {k : Nat} {l : List Lk} {x : Lk} (h : FewM k l) (h1 : -1 ≤ x.tk) (h2 : x.tk ≤ 10000) (h3 : Few 6 x.pa) : FewM (k + 1) (l ++ [x]) :=
  ⟨by have := h.1; simp; omega, fun y hy => by
    rcases List.mem_append.1 hy with e | e
    · exact h.2 y e
    · obtain rfl := List.mem_singleton.1 e; exact ⟨h1, h2, h3⟩⟩
def AnyK (B : Nat) (e : Ending) (w' : World) : Prop := ∃ (l : List Lk) (g n c : Nat), e = .returned (.slice (some ⟨g, 0, none⟩) n c) ∧ FewM 6 l ∧ n = l.length ∧ n ≤ c ∧ c ≤ maxLen ∧ RowC w' B g c l

set_option maxRecDepth 100000 in
set_option maxHeartbeats 8000000 in
theorem l13Any_any {w : World} {N : Nat} {a : Option Addr} {len cap : Nat} {zs : List Int} (h : DX w N a len cap zs) :
    Calls Try.prog 39 #[.pointer (some ⟨N, 0, none⟩)] w fun e w' => AnyK w.heap.size e w' ∧ DX w' N a len cap zs ∧ w.grownBy w' (some N) := by
  have hNl := h.lt
  have HD0 := hide (l13DrawC_any h)
  go_enter Try.func39, Try.ntmps39
  go_wp2_with fail
  refine HD0.out.mono ?_
  rintro e w1 ⟨⟨l, g, n, c, hf, hn, hc1, hc2, rfl, hR⟩, dx1, g1⟩
  have HF := hide (FewM.of hf (Nat.le_refl _))
  have HN := hide (And.intro hn (And.intro hc1 hc2))
  have D1 := hide dx1
  have G1 := hide g1
  have R1 := hide hR
  clear h HD0 hf hn hc1 hc2 hR dx1 g1
  go_wp2_with fail
  refine (l1OnceQ D1.out 4 (by decide) (by decide)).mono ?_
  rintro e w2 ⟨⟨b, rfl⟩, dx2, g2⟩
  have D2 := hide dx2
  have G2 := hide (grown_trans G1.out g2)
  have R2 := hide (R1.out.grown g2 hNl)
  clear dx2 g2 D1 G1 R1
  cases b
  · go_wp2
    refine bodyPost_ret (v := .slice (some ⟨g, 0, none⟩) n c) (by simp [results, Try.results39, go_sem]) rfl ⟨⟨l, g, n, c, rfl, ⟨by have := HF.out.1; omega, HF.out.2⟩, HN.out.1, HN.out.2.1, HN.out.2.2, R2.out⟩, D2.out, G2.out⟩
  go_wp2_with fail
  refine (l13Lock_any D2.out).mono ?_
  rintro e w3 ⟨⟨x, p, m, pc, hx1, hx2, hx3, hm, rfl, ho⟩, dx3, g3⟩
  obtain ⟨q1, q2, q3, q4⟩ := rowS_of ho hm
  subst hm
  have HX := hide (And.intro hx1 (And.intro hx2 hx3))
  have hz2 := G2.out.size
  have hz3 := g3.size
  have PS3 := hide (And.intro q1 (And.intro q2 q3))
  have HPB := hide q4
  have HGB := hide (show g < w2.heap.size by obtain ⟨ts, _, hv, _⟩ := R2.out; exact hv.1)
  have R3 := hide (R2.out.grown g3 hNl)
  have G3 := hide (grown_trans G2.out g3)
  have DB := hide (dx3.alloc (Obj.cells #[.int .i64 x.tk, .slice (some ⟨p, 0, none⟩) x.pa.length pc, .bool x.de, .bool x.sh, .int .i64 x.un] 26))
  have XB := hide (BoxV.made w3 [.int .i64 x.tk, .slice (some ⟨p, 0, none⟩) x.pa.length pc, .bool x.de, .bool x.sh, .int .i64 x.un] 26)
  have TB := hide (grown_alloc (grown_refl w3 (some N)) (Obj.cells #[.int .i64 x.tk, .slice (some ⟨p, 0, none⟩) x.pa.length pc, .bool x.de, .bool x.sh, .int .i64 x.un] 26))
  clear hx1 hx2 hx3 ho dx3 g3 q1 q2 q3 q4 D2 G2 R2
  go_wp2_with fail
  refine (l1BelowX DB.out 4 (by decide) (by decide)).mono ?_
  rintro e w4 ⟨⟨k4, rfl, hk4⟩, dx4, g4⟩
  have hNw3 : N < w3.heap.size := by omega
  have D4 := hide dx4
  have X4 := hide (XB.out.grown g4 (by omega))
  have T4 := hide (grown_trans TB.out g4)
  clear dx4 g4 DB XB TB
  obtain ⟨bx, hbx⟩ : ∃ y, w3.heap.size = y := ⟨_, rfl⟩
  rw [hbx] at X4
  obtain ⟨z, hz⟩ : ∃ z : Int, (k4 : Int) = z := ⟨_, rfl⟩
  rw [hz] at hk4 ⊢
  clear hz
  by_cases h0 : z = 0
  · subst h0
    go_wp2_with fail
    refine (intNewP D4.out [0, 10000, -1] _ _ 3 _ rfl rfl rfl (by decide) (by decide) (fun y => -1 ≤ y ∧ y ≤ 10000) (fun i hi => by have hi4 : i = 0 ∨ i = 1 ∨ i = 2 := (by omega); rcases hi4 with rfl | rfl | rfl <;> decide)).mono ?_
    rintro e w5 ⟨⟨y, rfl, hy⟩, dx5, g5⟩
    have HY := hide hy
    have X5 := X4.out.grown g5 (by omega)
    have T5 := grown_trans T4.out g5
    obtain ⟨u1, f1⟩ := X5.2 0 _ rfl
    have X6 := hide (X5.set 0 (by simp) (.int .i64 y))
    have D6 := hide (DX.set (k := 0) dx5 (.int .i64 y) (by omega : N < bx))
    have T6 := hide (grown_setQ (k := 0) (p := bx) T5 (.int .i64 y) (by omega))
    obtain ⟨w6, hw6⟩ : ∃ W, w5.setCell ⟨bx, 0, none⟩ (.int .i64 y) = W := ⟨_, rfl⟩
    rw [hw6] at X6 D6 T6
    have PS6 := hide (show RowS w6 p x.pa ∧ x.pa.length ≤ pc ∧ pc ≤ maxLen from ⟨PS3.out.1.hp T6.out.size (T6.out.block p PS3.out.1.1 (by have := HPB.out; simp; omega)), PS3.out.2⟩)
    clear hy dx5 g5 X5 T5 D4 X4 T4
    have y0 := (X6.out.2 0 _ rfl).1
    have y1 := (X6.out.2 1 _ rfl).1
    have y2 := (X6.out.2 2 _ rfl).1
    have y3 := (X6.out.2 3 _ rfl).1
    have y4 := (X6.out.2 4 _ rfl).1
    have bA := (Below.refl w6.heap.size w6).alloc (Nat.le_refl _) (Obj.cells #[.int .i64 y, .slice (some ⟨p, 0, none⟩) x.pa.length pc, .bool x.de, .bool x.sh, .int .i64 x.un] 26)
    obtain ⟨ts, r1, r2, r3, r4, r5⟩ := (R3.out.grown T6.out hNl).next bA
    rw [← HN.out.1] at r5
    have HO := hide r5
    have HR1 := hide r1
    have HR3 := hide r3
    have HQ := hide (PS6.out.1.below bA)
    have HT := hide (grown_belowQ (grown_trans G3.out T6.out) bA (grown_trans G3.out T6.out).size)
    have HDD := hide (D6.out.below bA)
    have hzB : w.heap.size ≤ (w6.alloc (Obj.cells #[.int .i64 y, .slice (some ⟨p, 0, none⟩) x.pa.length pc, .bool x.de, .bool x.sh, .int .i64 x.un] 26)).heap.size := HT.out.size
    have hln : ts.length + 1 ≤ 1099511627776 := by have e1 := HF.out.1; have e2 : ts.length = l.length := (by rw [← HR1.out, List.length_map]); omega
    have HAT := hide (show LkAt (w6.alloc (Obj.cells #[.int .i64 y, .slice (some ⟨p, 0, none⟩) x.pa.length pc, .bool x.de, .bool x.sh, .int .i64 x.un] 26)) w6.heap.size 0 (⟨y, x.pa, x.de, x.sh, x.un⟩ : Lk) (some ⟨p, 0, none⟩) pc by refine ⟨?_, ?_, ?_, ?_, ?_⟩ <;> simp [go_sem])
    clear bA r1 r2 r3 r4 r5
    go_wp2_with (at_builtin; refine wp_append_lkT 32 Try.underlying32 rfl _ _ rfl w.heap.size _ ts rfl HO.out _ ⟨(⟨y, x.pa, x.de, x.sh, x.un⟩ : Lk), some ⟨p, 0, none⟩, pc⟩ rfl HAT.out hln hzB ?_)
    intro g9 n9 c9 w9 hn9 hO9 hb9 hg9 hat
    have hNW := D6.out.lt
    have HGB2 := HGB.out
    have HPB2 := HPB.out
    obtain ⟨s1, s2, s3, s4⟩ := rowC_snoc (x := (⟨y, x.pa, x.de, x.sh, x.un⟩ : Lk)) HR1.out HR3.out HQ.out (by omega) (by omega) PS6.out.2.1 PS6.out.2.2 hO9 hg9 (by
      rcases hat with e | e
      · exact .inl (Option.some.inj e)
      · have e1 : g9 = w6.heap.size + 1 := (by have e1 := Option.some.inj e; simpa using e1)
        right; simp; omega)
    have HRET := hide (show AnyK w.heap.size (.returned (.slice (some ⟨g9, 0, none⟩) n9 c9)) w9 ∧ DX w9 N a len cap zs ∧ w.grownBy w9 (some N) from ⟨⟨l ++ [(⟨y, x.pa, x.de, x.sh, x.un⟩ : Lk)], g9, n9, c9, rfl, HF.out.snoc HY.out.1 HY.out.2 ⟨by have := HX.out.2.2.1; show x.pa.length ≤ 6; omega, HX.out.2.2.2⟩, s2, s3, s4, s1⟩, HDD.out.other hb9.size (fun i hi => hb9.block i (by omega)), grown_belowQ HT.out hb9 (Nat.le_refl _)⟩)
    clear hn9 hO9 hb9 hg9 hat s1 s2 s3 s4 HO HR3 HQ HT HDD
    go_wp2
    refine bodyPost_ret (v := .slice (some ⟨g9, 0, none⟩) n9 c9) (by simp [results, Try.results39, go_sem]) rfl HRET.out
  by_cases h1 : z = 1
  · subst h1
    go_wp2_with fail
    refine (l2Any_any D4.out).mono ?_
    rintro e w5 ⟨⟨ss, m5, p5, c5, hf5, hm5, rfl, ho5⟩, dx5, g5⟩
    obtain ⟨q1, q2, q3, q4⟩ := rowS_of ho5 hm5
    subst hm5
    have hz4 := T4.out.size
    have hXL := X4.out.1
    have HF5 := hide hf5
    have X5 := X4.out.grown g5 (by omega)
    have T5 := grown_trans T4.out g5
    obtain ⟨u1, f1⟩ := X5.2 1 _ rfl
    have X6 := hide (X5.set 1 (by simp) (.slice (some ⟨p5, 0, none⟩) ss.length c5))
    have D6 := hide (DX.set (k := 1) dx5 (.slice (some ⟨p5, 0, none⟩) ss.length c5) (by omega : N < bx))
    have T6 := hide (grown_setQ (k := 1) (p := bx) T5 (.slice (some ⟨p5, 0, none⟩) ss.length c5) (by omega))
    have PS6 := hide (show RowS (w5.setCell ⟨bx, 1, none⟩ (.slice (some ⟨p5, 0, none⟩) ss.length c5)) p5 ss ∧ ss.length ≤ c5 ∧ c5 ≤ maxLen from ⟨q1.hp (by simp) (Below.heap_setCell _ _ _ _ (by show p5 ≠ bx; omega)), q2, q3⟩)
    obtain ⟨w6, hw6⟩ : ∃ W, w5.setCell ⟨bx, 1, none⟩ (.slice (some ⟨p5, 0, none⟩) ss.length c5) = W := ⟨_, rfl⟩
    rw [hw6] at X6 D6 T6 PS6
    clear hf5 ho5 dx5 g5 q1 q2 q3 X5 T5 D4 X4 T4
    have y0 := (X6.out.2 0 _ rfl).1
    have y1 := (X6.out.2 1 _ rfl).1
    have y2 := (X6.out.2 2 _ rfl).1
    have y3 := (X6.out.2 3 _ rfl).1
    have y4 := (X6.out.2 4 _ rfl).1
    have bA := (Below.refl w6.heap.size w6).alloc (Nat.le_refl _) (Obj.cells #[.int .i64 x.tk, .slice (some ⟨p5, 0, none⟩) ss.length c5, .bool x.de, .bool x.sh, .int .i64 x.un] 26)
    obtain ⟨ts, r1, r2, r3, r4, r5⟩ := (R3.out.grown T6.out hNl).next bA
    rw [← HN.out.1] at r5
    have HO := hide r5
    have HR1 := hide r1
    have HR3 := hide r3
    have HQ := hide (PS6.out.1.below bA)
    have HT := hide (grown_belowQ (grown_trans G3.out T6.out) bA (grown_trans G3.out T6.out).size)
    have HDD := hide (D6.out.below bA)
    have hzB : w.heap.size ≤ (w6.alloc (Obj.cells #[.int .i64 x.tk, .slice (some ⟨p5, 0, none⟩) ss.length c5, .bool x.de, .bool x.sh, .int .i64 x.un] 26)).heap.size := HT.out.size
    have hln : ts.length + 1 ≤ 1099511627776 := by have e1 := HF.out.1; have e2 : ts.length = l.length := (by rw [← HR1.out, List.length_map]); omega
    have HAT := hide (show LkAt (w6.alloc (Obj.cells #[.int .i64 x.tk, .slice (some ⟨p5, 0, none⟩) ss.length c5, .bool x.de, .bool x.sh, .int .i64 x.un] 26)) w6.heap.size 0 (⟨x.tk, ss, x.de, x.sh, x.un⟩ : Lk) (some ⟨p5, 0, none⟩) c5 by refine ⟨?_, ?_, ?_, ?_, ?_⟩ <;> simp [go_sem])
    clear bA r1 r2 r3 r4 r5
    go_wp2_with (at_builtin; refine wp_append_lkT 32 Try.underlying32 rfl _ _ rfl w.heap.size _ ts rfl HO.out _ ⟨(⟨x.tk, ss, x.de, x.sh, x.un⟩ : Lk), some ⟨p5, 0, none⟩, c5⟩ rfl HAT.out hln hzB ?_)
    intro g9 n9 c9 w9 hn9 hO9 hb9 hg9 hat
    have hNW := D6.out.lt
    have HGB2 := HGB.out
    have HPB2 := HPB.out
    obtain ⟨s1, s2, s3, s4⟩ := rowC_snoc (x := (⟨x.tk, ss, x.de, x.sh, x.un⟩ : Lk)) HR1.out HR3.out HQ.out (by omega) (by omega) PS6.out.2.1 PS6.out.2.2 hO9 hg9 (by
      rcases hat with e | e
      · exact .inl (Option.some.inj e)
      · have e1 : g9 = w6.heap.size + 1 := (by have e1 := Option.some.inj e; simpa using e1)
        right; simp; omega)
    have HRET := hide (show AnyK w.heap.size (.returned (.slice (some ⟨g9, 0, none⟩) n9 c9)) w9 ∧ DX w9 N a len cap zs ∧ w.grownBy w9 (some N) from ⟨⟨l ++ [(⟨x.tk, ss, x.de, x.sh, x.un⟩ : Lk)], g9, n9, c9, rfl, HF.out.snoc (by have := HX.out.1; show -1 ≤ x.tk; omega) (by have := HX.out.2.1; show x.tk ≤ 10000; omega) HF5.out, s2, s3, s4, s1⟩, HDD.out.other hb9.size (fun i hi => hb9.block i (by omega)), grown_belowQ HT.out hb9 (Nat.le_refl _)⟩)
    clear hn9 hO9 hb9 hg9 hat s1 s2 s3 s4 HO HR3 HQ HT HDD
    go_wp2
    refine bodyPost_ret (v := .slice (some ⟨g9, 0, none⟩) n9 c9) (by simp [results, Try.results39, go_sem]) rfl HRET.out
  by_cases h2 : z = 2
  · subst h2
    go_wp2_with fail
    refine (intNewP D4.out [-1, 10000000] _ _ 2 _ rfl rfl rfl (by decide) (by decide) (fun y => -1 ≤ y ∧ y ≤ 10000000) (fun i hi => by have hi4 : i = 0 ∨ i = 1 := (by omega); rcases hi4 with rfl | rfl <;> decide)).mono ?_
    rintro e w5 ⟨⟨y, rfl, hy⟩, dx5, g5⟩
    have HY := hide hy
    have X5 := X4.out.grown g5 (by omega)
    have T5 := grown_trans T4.out g5
    obtain ⟨u1, f1⟩ := X5.2 4 _ rfl
    have X6 := hide (X5.set 4 (by simp) (.int .i64 y))
    have D6 := hide (DX.set (k := 4) dx5 (.int .i64 y) (by omega : N < bx))
    have T6 := hide (grown_setQ (k := 4) (p := bx) T5 (.int .i64 y) (by omega))
    obtain ⟨w6, hw6⟩ : ∃ W, w5.setCell ⟨bx, 4, none⟩ (.int .i64 y) = W := ⟨_, rfl⟩
    rw [hw6] at X6 D6 T6
    have PS6 := hide (show RowS w6 p x.pa ∧ x.pa.length ≤ pc ∧ pc ≤ maxLen from ⟨PS3.out.1.hp T6.out.size (T6.out.block p PS3.out.1.1 (by have := HPB.out; simp; omega)), PS3.out.2⟩)
    clear hy dx5 g5 X5 T5 D4 X4 T4
    have y0 := (X6.out.2 0 _ rfl).1
    have y1 := (X6.out.2 1 _ rfl).1
    have y2 := (X6.out.2 2 _ rfl).1
    have y3 := (X6.out.2 3 _ rfl).1
    have y4 := (X6.out.2 4 _ rfl).1
    have bA := (Below.refl w6.heap.size w6).alloc (Nat.le_refl _) (Obj.cells #[.int .i64 x.tk, .slice (some ⟨p, 0, none⟩) x.pa.length pc, .bool x.de, .bool x.sh, .int .i64 y] 26)
    obtain ⟨ts, r1, r2, r3, r4, r5⟩ := (R3.out.grown T6.out hNl).next bA
    rw [← HN.out.1] at r5
    have HO := hide r5
    have HR1 := hide r1
    have HR3 := hide r3
    have HQ := hide (PS6.out.1.below bA)
    have HT := hide (grown_belowQ (grown_trans G3.out T6.out) bA (grown_trans G3.out T6.out).size)
    have HDD := hide (D6.out.below bA)
    have hzB : w.heap.size ≤ (w6.alloc (Obj.cells #[.int .i64 x.tk, .slice (some ⟨p, 0, none⟩) x.pa.length pc, .bool x.de, .bool x.sh, .int .i64 y] 26)).heap.size := HT.out.size
    have hln : ts.length + 1 ≤ 1099511627776 := by have e1 := HF.out.1; have e2 : ts.length = l.length := (by rw [← HR1.out, List.length_map]); omega
    have HAT := hide (show LkAt (w6.alloc (Obj.cells #[.int .i64 x.tk, .slice (some ⟨p, 0, none⟩) x.pa.length pc, .bool x.de, .bool x.sh, .int .i64 y] 26)) w6.heap.size 0 (⟨x.tk, x.pa, x.de, x.sh, y⟩ : Lk) (some ⟨p, 0, none⟩) pc by refine ⟨?_, ?_, ?_, ?_, ?_⟩ <;> simp [go_sem])
    clear bA r1 r2 r3 r4 r5
    go_wp2_with (at_builtin; refine wp_append_lkT 32 Try.underlying32 rfl _ _ rfl w.heap.size _ ts rfl HO.out _ ⟨(⟨x.tk, x.pa, x.de, x.sh, y⟩ : Lk), some ⟨p, 0, none⟩, pc⟩ rfl HAT.out hln hzB ?_)
    intro g9 n9 c9 w9 hn9 hO9 hb9 hg9 hat
    have hNW := D6.out.lt
    have HGB2 := HGB.out
    have HPB2 := HPB.out
    obtain ⟨s1, s2, s3, s4⟩ := rowC_snoc (x := (⟨x.tk, x.pa, x.de, x.sh, y⟩ : Lk)) HR1.out HR3.out HQ.out (by omega) (by omega) PS6.out.2.1 PS6.out.2.2 hO9 hg9 (by
      rcases hat with e | e
      · exact .inl (Option.some.inj e)
      · have e1 : g9 = w6.heap.size + 1 := (by have e1 := Option.some.inj e; simpa using e1)
        right; simp; omega)
    have HRET := hide (show AnyK w.heap.size (.returned (.slice (some ⟨g9, 0, none⟩) n9 c9)) w9 ∧ DX w9 N a len cap zs ∧ w.grownBy w9 (some N) from ⟨⟨l ++ [(⟨x.tk, x.pa, x.de, x.sh, y⟩ : Lk)], g9, n9, c9, rfl, HF.out.snoc (by have := HX.out.1; show -1 ≤ x.tk; omega) (by have := HX.out.2.1; show x.tk ≤ 10000; omega) ⟨by have := HX.out.2.2.1; show x.pa.length ≤ 6; omega, HX.out.2.2.2⟩, s2, s3, s4, s1⟩, HDD.out.other hb9.size (fun i hi => hb9.block i (by omega)), grown_belowQ HT.out hb9 (Nat.le_refl _)⟩)
    clear hn9 hO9 hb9 hg9 hat s1 s2 s3 s4 HO HR3 HQ HT HDD
    go_wp2
    refine bodyPost_ret (v := .slice (some ⟨g9, 0, none⟩) n9 c9) (by simp [results, Try.results39, go_sem]) rfl HRET.out
  · have PS6 := hide (show RowS w4 p x.pa ∧ x.pa.length ≤ pc ∧ pc ≤ maxLen from ⟨PS3.out.1.hp T4.out.size (T4.out.block p PS3.out.1.1 (by have := HPB.out; simp; omega)), PS3.out.2⟩)
    have y0 := (X4.out.2 0 _ rfl).1
    have y1 := (X4.out.2 1 _ rfl).1
    have y2 := (X4.out.2 2 _ rfl).1
    have y3 := (X4.out.2 3 _ rfl).1
    have y4 := (X4.out.2 4 _ rfl).1
    have bA := (Below.refl w4.heap.size w4).alloc (Nat.le_refl _) (Obj.cells #[.int .i64 x.tk, .slice (some ⟨p, 0, none⟩) x.pa.length pc, .bool x.de, .bool x.sh, .int .i64 x.un] 26)
    obtain ⟨ts, r1, r2, r3, r4, r5⟩ := (R3.out.grown T4.out hNl).next bA
    rw [← HN.out.1] at r5
    have HO := hide r5
    have HR1 := hide r1
    have HR3 := hide r3
    have HQ := hide (PS6.out.1.below bA)
    have HT := hide (grown_belowQ (grown_trans G3.out T4.out) bA (grown_trans G3.out T4.out).size)
    have HDD := hide (D4.out.below bA)
    have hzB : w.heap.size ≤ (w4.alloc (Obj.cells #[.int .i64 x.tk, .slice (some ⟨p, 0, none⟩) x.pa.length pc, .bool x.de, .bool x.sh, .int .i64 x.un] 26)).heap.size := HT.out.size
    have hln : ts.length + 1 ≤ 1099511627776 := by have e1 := HF.out.1; have e2 : ts.length = l.length := (by rw [← HR1.out, List.length_map]); omega
    have HAT := hide (show LkAt (w4.alloc (Obj.cells #[.int .i64 x.tk, .slice (some ⟨p, 0, none⟩) x.pa.length pc, .bool x.de, .bool x.sh, .int .i64 x.un] 26)) w4.heap.size 0 (⟨x.tk, x.pa, x.de, x.sh, x.un⟩ : Lk) (some ⟨p, 0, none⟩) pc by refine ⟨?_, ?_, ?_, ?_, ?_⟩ <;> simp [go_sem])
    clear bA r1 r2 r3 r4 r5
    go_wp2_with (at_builtin; refine wp_append_lkT 32 Try.underlying32 rfl _ _ rfl w.heap.size _ ts rfl HO.out _ ⟨(⟨x.tk, x.pa, x.de, x.sh, x.un⟩ : Lk), some ⟨p, 0, none⟩, pc⟩ rfl HAT.out hln hzB ?_)
    intro g9 n9 c9 w9 hn9 hO9 hb9 hg9 hat
    have hNW := D4.out.lt
    have HGB2 := HGB.out
    have HPB2 := HPB.out
    obtain ⟨s1, s2, s3, s4⟩ := rowC_snoc (x := (⟨x.tk, x.pa, x.de, x.sh, x.un⟩ : Lk)) HR1.out HR3.out HQ.out (by omega) (by omega) PS6.out.2.1 PS6.out.2.2 hO9 hg9 (by
      rcases hat with e | e
      · exact .inl (Option.some.inj e)
      · have e1 : g9 = w4.heap.size + 1 := (by have e1 := Option.some.inj e; simpa using e1)
        right; simp; omega)
    have HRET := hide (show AnyK w.heap.size (.returned (.slice (some ⟨g9, 0, none⟩) n9 c9)) w9 ∧ DX w9 N a len cap zs ∧ w.grownBy w9 (some N) from ⟨⟨l ++ [(⟨x.tk, x.pa, x.de, x.sh, x.un⟩ : Lk)], g9, n9, c9, rfl, HF.out.snoc (by have := HX.out.1; show -1 ≤ x.tk; omega) (by have := HX.out.2.1; show x.tk ≤ 10000; omega) ⟨by have := HX.out.2.2.1; show x.pa.length ≤ 6; omega, HX.out.2.2.2⟩, s2, s3, s4, s1⟩, HDD.out.other hb9.size (fun i hi => hb9.block i (by omega)), grown_belowQ HT.out hb9 (Nat.le_refl _)⟩)
    clear hn9 hO9 hb9 hg9 hat s1 s2 s3 s4 HO HR3 HQ HT HDD
    go_wp2
    refine bodyPost_ret (v := .slice (some ⟨g9, 0, none⟩) n9 c9) (by simp [results, Try.results39, go_sem]) rfl HRET.out
end Go.Proofs.Ytclnpfpaabmkcab
