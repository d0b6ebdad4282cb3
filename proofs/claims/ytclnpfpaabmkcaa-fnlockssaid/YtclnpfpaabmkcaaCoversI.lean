/-
  What FnLocks draws: locks, and one more: spec.DrawAddLock.
  What a lock of one alone covers no other lock covers.
  A lock that is added is there, and clashes with none; dropped it is gone.
  Ten cells stay where their blocks lie below.
  Two lists held against one another, element by element.
  Two locks are the same where their parts are.
  Whether two slices of texts hold the same: what laws.sameTexts does.
  Locks held against one another by the laws: laws.sameLock, laws.sameLocks.
  Whether two slices of texts hold the same: what slices.Equal[[]string,string] does.
  What the program's Under does.
  What the program's SamePath does.
  What impl.Covers does.
-/
import Derived.Test.YtclnpfpaabmkcaaAnyLk
import Derived.Test.YtclnpfpaabmkcaaDrawNI
import Derived.Deep.RegionHeld3
import Derived.Test.YtclnpfpaabmkcaaGenPick
import Derived.Test.YtclnpfpaabmkcaaRowC
import Derived.Test.YtclnpfpaabmkcaaRet
import Derived.Test.YtclnpfpaabmkcaaTurn
import Derived.WalkSpells
import Derived.WalkLawsBesides
namespace Go.Proofs.Ytclnpfpaabmkcaa
open Go.RowKit M
set_option linter.unusedVariables false

theorem rowC_keepN {w w' : World} {lo g c N : Nat} {l : List Lk} (h : RowC w lo g c l) (hz : w.heap.size ≤ w'.heap.size) (e : ∀ y, y < w.heap.size → y ≠ N → w'.heap[y]? = w.heap[y]?) (hN : N < lo) : RowC w' lo g c l := by
  obtain ⟨ts, h1, h2, h3, h4, h5⟩ := h
  have hg := e g h2.1 (by omega)
  refine ⟨ts, h1, h2.hp hz hg, fun t ht => ?_, h4, OwnT.keepB h5 hg⟩
  obtain ⟨p, a1, a2, a3, a4, a5⟩ := h3 t ht
  exact ⟨p, a1, a2.hp hz (e p a2.1 (by omega)), a3, a4, a5⟩
theorem boxV_keep {w w' : World} {N : Nat} {vs : List Value} (h : BoxV w N vs) (hz : w.heap.size ≤ w'.heap.size) (e : w'.heap[N]? = w.heap[N]?) : BoxV w' N vs :=
  ⟨Nat.lt_of_lt_of_le h.1 hz, fun i v hv => by
    have := h.2 i v hv
    simp only [World.cell?, World.frozen?, e] at this ⊢
    exact this⟩
/-- A lock that was drawn, in a row of its own. -/
def OneK (w : World) (x : Lk) (p m k : Nat) : Prop := 1 ≤ x.tk ∧ x.tk ≤ 9 ∧ Few 3 x.pa ∧ m = x.pa.length ∧ RowS w p x.pa ∧ m ≤ k ∧ k ≤ maxLen
/-- The last of a row. -/
theorem rowC_last {w : World} {lo g c : Nat} {l : List Lk} {x : Lk} (h : RowC w lo g c (l ++ [x])) : ∃ p k, LkAt w g (l.length * 5) x (some ⟨p, 0, none⟩) k ∧ RowS w p x.pa ∧ x.pa.length ≤ k ∧ k ≤ maxLen ∧ lo ≤ p := by
  obtain ⟨ts, h1, h2, h3, h4, h5⟩ := h
  have hl : ts.length = l.length + 1 := by have := congrArg List.length h1; simpa using this
  have hk : l.length < ts.length := by omega
  have hr : ts[l.length].r = x := by
    have := congrArg (fun q => q[l.length]?) h1
    simpa [List.getElem?_eq_getElem hk] using this
  obtain ⟨p, a1, a2, a3, a4, a5, a6⟩ := h3 ts[l.length] (List.getElem_mem hk)
  have hat := h2.2.1 l.length hk
  rw [hr] at a2 a5
  rw [hr, a1] at hat
  exact ⟨p, _, hat, a2, a5, a6, a4⟩
def AddK (B : Nat) (e : Ending) (w' : World) : Prop := ∃ (l : List Lk) (g n c : Nat) (x : Lk) (p m k : Nat), e = .returned (.tuple #[.slice (some ⟨g, 0, none⟩) n c, .agg #[.int .i64 x.tk, .slice (some ⟨p, 0, none⟩) m k, .bool x.de, .bool x.sh, .int .i64 x.un]]) ∧ FewM 6 l ∧ n = l.length ∧ n ≤ c ∧ c ≤ maxLen ∧ RowC w' B g c l ∧ OneK w' x p m k

set_option maxRecDepth 100000 in
set_option maxHeartbeats 8000000 in
theorem drawAddLock_any {w : World} {a : Option Addr} {len : Nat} {zs : List Int} (h : CodeIn w w.heap.size a len zs) (cap : Nat) :
    Calls Try.prog 5 #[.slice a len cap] w fun e w' => AddK w.heap.size e w' ∧ Below w.heap.size w w' := by
  have b0 := (Below.refl w.heap.size w).alloc (Nat.le_refl _) (Obj.cells #[.int .i64 0, .slice none 0 0, .bool false, .bool false, .int .i64 0] 27)
  have HC := hide (h.below b0)
  have K0 := hide b0
  have X0 := hide (BoxV.made w [.int .i64 0, .slice none 0 0, .bool false, .bool false, .int .i64 0] 27)
  clear h b0
  go_enter Try.func5, Try.ntmps5
  go_wp2_with fail
  refine (newDX HC.out cap).mono ?_
  rintro e w1 ⟨rfl, hd1, b1⟩
  obtain ⟨N, hN⟩ : ∃ n, (w.alloc (Obj.cells #[.int .i64 0, .slice none 0 0, .bool false, .bool false, .int .i64 0] 27)).heap.size = n := ⟨_, rfl⟩
  have hNw : w.heap.size < N := by rw [← hN]; simp
  rw [hN] at hd1 ⊢
  have hN1 : N < w1.heap.size := hd1.lt
  have HD1 := hide hd1
  have K1 := hide (K0.out.trans (b1.mono K0.out.size))
  have X1 := hide (X0.out.next b1)
  clear hd1 b1 K0 X0 HC hN
  go_wp2_with fail
  refine (l13Any_any HD1.out).mono ?_
  rintro e w2 ⟨⟨l, g, n, c, rfl, hf, hn, hc1, hc2, hr⟩, hd2, hg2⟩
  have HK := hide (And.intro hf (And.intro hn (And.intro hc1 hc2)))
  have R2 := hide hr
  have D2 := hide hd2
  have G2 := hide hg2
  have K2 := hide (K1.out.trans (grown_below hg2 (by omega) (by omega) : Below w.heap.size w1 w2))
  have X2 := hide (X1.out.grown hg2 (by omega))
  clear hf hn hc1 hc2 hr hd2 hg2 HD1 K1 X1
  go_wp2_with fail
  refine (l13Any_any D2.out).mono ?_
  rintro e w3 ⟨⟨l', g', n', c', rfl, hf, hn, hc1, hc2, hr⟩, hd3, hg3⟩
  have HF' := hide hf
  have HN' := hide hn
  have R3 := hide hr
  have D3 := hide hd3
  have G3 := hide hg3
  clear hf hn hc1 hc2 hr hd3 hg3 D2
  go_wp2_with fail
  refine (l13Lock_any D3.out).mono ?_
  rintro e w4 ⟨⟨x, p, m, k, x1, x2, x3, hm, rfl, ho⟩, dx4, g4⟩
  obtain ⟨q1, q2, q3, q4⟩ := rowS_of ho hm
  subst hm
  have HX := hide (And.intro x1 (And.intro x2 x3))
  have D4 := hide dx4
  have G4 := hide (grown_trans G3.out g4)
  have hz12 := G2.out.size
  have hz23 := G3.out.size
  have hz34 := g4.size
  have R4 := hide (R3.out.grown g4 (by omega))
  have q5 : p < w4.heap.size := q1.1
  have hpg : p ≠ g' := by
    have hg := R3.out
    obtain ⟨ts, r1, r2, _⟩ := hg
    have := r2.1
    omega
  have bA := (Below.refl w4.heap.size w4).alloc (Nat.le_refl _) (Obj.cells #[.int .i64 x.tk, .slice (some ⟨p, 0, none⟩) x.pa.length k, .bool x.de, .bool x.sh, .int .i64 x.un] 27)
  obtain ⟨ts, r1, r2, r3, r4, r5⟩ := R4.out.next bA
  rw [← HN'.out] at r5
  have HO := hide r5
  have HR1 := hide r1
  have HR3 := hide r3
  have HQ := hide (And.intro (q1.below bA) (And.intro q2 q3))
  have hzB : w2.heap.size ≤ (w4.alloc (Obj.cells #[.int .i64 x.tk, .slice (some ⟨p, 0, none⟩) x.pa.length k, .bool x.de, .bool x.sh, .int .i64 x.un] 27)).heap.size := by simp; omega
  have hln : ts.length + 1 ≤ 1099511627776 := by have e1 := HF'.out.1; have e2 : ts.length = l'.length := (by rw [← HR1.out, List.length_map]); omega
  have HAT := hide (show LkAt (w4.alloc (Obj.cells #[.int .i64 x.tk, .slice (some ⟨p, 0, none⟩) x.pa.length k, .bool x.de, .bool x.sh, .int .i64 x.un] 27)) w4.heap.size 0 x (some ⟨p, 0, none⟩) k by refine ⟨?_, ?_, ?_, ?_, ?_⟩ <;> simp [go_sem])
  have HE := hide (show ∀ y, y < w2.heap.size → y ≠ N → (w4.alloc (Obj.cells #[.int .i64 x.tk, .slice (some ⟨p, 0, none⟩) x.pa.length k, .bool x.de, .bool x.sh, .int .i64 x.un] 27)).heap[y]? = w2.heap[y]? from fun y h1 h2 => (bA.block y (by omega)).trans (G4.out.block y h1 (fun e => h2 (Option.some.inj e))))
  clear bA r1 r2 r3 r4 r5 q1 q2 q3 ho dx4 x1 x2 x3 g4
  go_wp2_with (at_builtin; refine wp_append_lkT 24 Try.underlying24 rfl _ _ rfl w2.heap.size _ ts rfl HO.out _ ⟨x, some ⟨p, 0, none⟩, k⟩ rfl HAT.out hln hzB ?_)
  intro g9 n9 c9 w9 hn9 hO9 hb9 hg9 hat
  obtain ⟨s1, s2, s3, s4⟩ := rowC_snoc (x := x) HR1.out HR3.out HQ.out.1 hpg (by omega) HQ.out.2.1 HQ.out.2.2 hO9 hg9 (by
    rcases hat with e | e
    · exact .inl (Option.some.inj e)
    · have e1 : g9 = w4.heap.size + 1 := (by have e1 := Option.some.inj e; simpa using e1)
      right; simp; omega)
  subst s2
  obtain ⟨pp, kk, hat5, hrs, hk1, hk2, hpp⟩ := rowC_last s1
  have hzz := hb9.size
  have R9 := hide (rowC_keepN R2.out (w' := w9) (N := N) (by simp at hzz; omega) (fun y h1 h2 => (hb9.block y h1).trans (HE.out y h1 h2)) (by omega))
  have K9 := hide (show Below w.heap.size w w9.drew from below_drewG (K2.out.trans ((grown_below G4.out (by omega) (by omega) : Below w.heap.size w2 w4).trans (((Below.refl w4.heap.size w4).alloc (Nat.le_refl _) (Obj.cells #[.int .i64 x.tk, .slice (some ⟨p, 0, none⟩) x.pa.length k, .bool x.de, .bool x.sh, .int .i64 x.un] 27)).mono (by omega) |>.trans (hb9.mono (by omega))))))
  have X9 := hide (show BoxV w9.drew w.heap.size [.int .i64 0, .slice none 0 0, .bool false, .bool false, .int .i64 0] from (boxV_keep ((X2.out.grown G4.out (by omega)).alloc (Obj.cells #[.int .i64 x.tk, .slice (some ⟨p, 0, none⟩) x.pa.length k, .bool x.de, .bool x.sh, .int .i64 x.un] 27)) hb9.size (hb9.block _ (by omega))).drew)
  have R9d := hide (R9.out.drew)
  have S9 := hide (show RowS w9.drew pp x.pa from hrs)
  obtain ⟨e0, e1, e2, e3, e4⟩ := hat5
  have hkk := And.intro hk1 hk2
  have HKK := hide hkk
  have hlen : (l' ++ [x]).length = l'.length + 1 := by simp
  rw [hlen] at *
  have hi1 : ((l'.length + 1 : Nat) : Int) - 1 = (l'.length : Int) := by omega
  have hi2 : (0 : Int) ≤ (l'.length : Int) := by omega
  have hi3 : (l'.length : Int) < ((l'.length + 1 : Nat) : Int) := by omega
  have hi4 : IntKind.i64.wrap (l'.length : Int) = (l'.length : Int) := by have := HF'.out.1; rw [IntKind.wrap_i64]; omega
  have hi5 : IntKind.i64.wrap (((l'.length + 1 : Nat) : Int) - 1) = (l'.length : Int) := by rw [hi1]; exact hi4
  have hi6 : IntKind.i64.wrap ((l'.length : Int) + 1 - 1) = (l'.length : Int) := by rw [show (l'.length : Int) + 1 - 1 = (l'.length : Int) by omega]; exact hi4
  have hi7 : (l'.length : Int) < (l'.length : Int) + 1 := by omega
  have hg9 : g9 ≠ w.heap.size := by obtain ⟨_, _, _, _, q, _⟩ := s1; omega
  have hS0 := (⟨e0, e1, e2, e3, e4⟩ : (fun W : World => W.cell? ⟨g9, l'.length * 5, none⟩ = some (.int .i64 x.tk) ∧ W.cell? ⟨g9, l'.length * 5 + 1, none⟩ = some (.slice (some ⟨pp, 0, none⟩) x.pa.length kk) ∧ W.cell? ⟨g9, l'.length * 5 + 2, none⟩ = some (.bool x.de) ∧ W.cell? ⟨g9, l'.length * 5 + 3, none⟩ = some (.bool x.sh) ∧ W.cell? ⟨g9, l'.length * 5 + 4, none⟩ = some (.int .i64 x.un)) w9.drew)
  have hFl : ∀ (W : World) (o : Nat) (v : Value), (fun W : World => W.cell? ⟨g9, l'.length * 5, none⟩ = some (.int .i64 x.tk) ∧ W.cell? ⟨g9, l'.length * 5 + 1, none⟩ = some (.slice (some ⟨pp, 0, none⟩) x.pa.length kk) ∧ W.cell? ⟨g9, l'.length * 5 + 2, none⟩ = some (.bool x.de) ∧ W.cell? ⟨g9, l'.length * 5 + 3, none⟩ = some (.bool x.sh) ∧ W.cell? ⟨g9, l'.length * 5 + 4, none⟩ = some (.int .i64 x.un)) W → (fun W : World => W.cell? ⟨g9, l'.length * 5, none⟩ = some (.int .i64 x.tk) ∧ W.cell? ⟨g9, l'.length * 5 + 1, none⟩ = some (.slice (some ⟨pp, 0, none⟩) x.pa.length kk) ∧ W.cell? ⟨g9, l'.length * 5 + 2, none⟩ = some (.bool x.de) ∧ W.cell? ⟨g9, l'.length * 5 + 3, none⟩ = some (.bool x.sh) ∧ W.cell? ⟨g9, l'.length * 5 + 4, none⟩ = some (.int .i64 x.un)) (W.setCell ⟨w.heap.size, o, none⟩ v) := fun W o v ⟨a0, a1, a2, a3, a4⟩ => ⟨(World.cell?_setCell_other _ _ _ _ (fun e => hg9 (congrArg Addr.block e).symm)).trans a0, (World.cell?_setCell_other _ _ _ _ (fun e => hg9 (congrArg Addr.block e).symm)).trans a1, (World.cell?_setCell_other _ _ _ _ (fun e => hg9 (congrArg Addr.block e).symm)).trans a2, (World.cell?_setCell_other _ _ _ _ (fun e => hg9 (congrArg Addr.block e).symm)).trans a3, (World.cell?_setCell_other _ _ _ _ (fun e => hg9 (congrArg Addr.block e).symm)).trans a4⟩
  have HP5 := hide (show pp ≠ w.heap.size by omega)
  clear hO9 hb9 hg9 hat hzz s1 s3 s4 hn9 hrs hk1 hk2 hkk R9 X2 K2 G4 HO HR1 HR3 HQ HAT HE
  go_wp2
  refine wp_region_held_drew (S := (fun W => W.cell? ⟨g9, l'.length * 5, none⟩ = some (.int .i64 x.tk) ∧ W.cell? ⟨g9, l'.length * 5 + 1, none⟩ = some (.slice (some ⟨pp, 0, none⟩) x.pa.length kk) ∧ W.cell? ⟨g9, l'.length * 5 + 2, none⟩ = some (.bool x.de) ∧ W.cell? ⟨g9, l'.length * 5 + 3, none⟩ = some (.bool x.sh) ∧ W.cell? ⟨g9, l'.length * 5 + 4, none⟩ = some (.int .i64 x.un))) (by kernel_rfl) hS0 (fun hHeld => ?_)
  clear hHeld e0 e1 e2 e3 e4
  obtain ⟨wd, hwd⟩ : ∃ X, w9.drew = X := ⟨_, rfl⟩
  rw [hwd] at K9 X9 R9d S9 hS0 ⊢
  clear hwd
  have hHeld := hS0
  simp only [List.size_toArray, List.length_cons, List.length_nil, Nat.reduceAdd, Array.replicate_succ, Array.replicate_zero, List.push_toArray, List.nil_append, List.cons_append]
  refine wpAnyH_take (i := 0) (v := ?_) rfl (by kernel_rfl) (by kernel_rfl) (by kernel_rfl) (fun _ _ _ h => h) (Or.inl ⟨by rfl, ?_⟩) (by assumption) ?_
  rotate_left
  · intro w hSw; (try dsimp only at hSw); go_simp; try with_reducible rfl
  simp only [Act.put, List.getElem_toArray, List.getElem_cons_zero, List.setIfInBounds_toArray, List.set_cons_zero]
  refine wpAnyH_take (i := 1) (v := ?_) rfl (by kernel_rfl) (by kernel_rfl) (by kernel_rfl) (fun _ _ _ h => h) (Or.inl ⟨by rfl, ?_⟩) (by assumption) ?_
  rotate_left
  · intro w hSw; (try dsimp only at hSw); go_simp; try with_reducible rfl
  simp only [Act.put, List.getElem_toArray, List.getElem_cons_succ, List.getElem_cons_zero, List.setIfInBounds_toArray, List.set_cons_succ, List.set_cons_zero]
  refine wpAnyH_take (i := 2) (v := ?_) rfl (by kernel_rfl) (by kernel_rfl) (by kernel_rfl) (fun _ _ _ h => h) (Or.inl ⟨by rfl, ?_⟩) (by assumption) ?_
  rotate_left
  · intro w hSw; (try dsimp only at hSw); go_simp; try with_reducible rfl
  simp only [Act.put, List.getElem_toArray, List.getElem_cons_succ, List.getElem_cons_zero, List.setIfInBounds_toArray, List.set_cons_succ, List.set_cons_zero]
  refine wpAnyH_take (i := 3) (v := ?_) rfl (by kernel_rfl) (by kernel_rfl) (by kernel_rfl) (fun _ _ _ h => h) (Or.inl ⟨by rfl, ?_⟩) (by assumption) ?_
  rotate_left
  · intro w hSw; (try dsimp only at hSw); go_simp; try with_reducible rfl
  simp only [Act.put, List.getElem_toArray, List.getElem_cons_succ, List.getElem_cons_zero, List.setIfInBounds_toArray, List.set_cons_succ, List.set_cons_zero]
  refine wpAnyH_take (i := 4) (v := ?_) rfl (by kernel_rfl) (by kernel_rfl) (by kernel_rfl) (fun _ _ _ h => h) (Or.inl ⟨by rfl, ?_⟩) (by assumption) ?_
  rotate_left
  · intro w hSw; (try dsimp only at hSw); go_simp; try with_reducible rfl
  simp only [Act.put, List.getElem_toArray, List.getElem_cons_succ, List.getElem_cons_zero, List.setIfInBounds_toArray, List.set_cons_succ, List.set_cons_zero]
  refine wpAnyH_take (i := 5) (v := ?_) rfl (by kernel_rfl) (by kernel_rfl) (by kernel_rfl) (fun _ _ _ h => h) (Or.inl ⟨by rfl, ?_⟩) (by assumption) ?_
  rotate_left
  · intro w hSw; (try dsimp only at hSw); go_simp; try with_reducible rfl
  simp only [Act.put, List.getElem_toArray, List.getElem_cons_succ, List.getElem_cons_zero, List.setIfInBounds_toArray, List.set_cons_succ, List.set_cons_zero]
  refine wpAnyH_take (i := 6) (v := ?_) rfl (by kernel_rfl) (by kernel_rfl) (by kernel_rfl) (fun _ _ _ h => h) (Or.inl ⟨by rfl, ?_⟩) (by assumption) ?_
  rotate_left
  · intro w hSw; (try dsimp only at hSw); go_simp; try with_reducible rfl
  simp only [Act.put, List.getElem_toArray, List.getElem_cons_succ, List.getElem_cons_zero, List.setIfInBounds_toArray, List.set_cons_succ, List.set_cons_zero]
  refine wpAnyH_take (i := 7) (v := ?_) rfl (by kernel_rfl) (by kernel_rfl) (by kernel_rfl) (fun _ _ _ h => h) (Or.inl ⟨by rfl, ?_⟩) (by assumption) ?_
  rotate_left
  · intro w hSw; (try dsimp only at hSw); go_simp; try with_reducible rfl
  simp only [Act.put, List.getElem_toArray, List.getElem_cons_succ, List.getElem_cons_zero, List.setIfInBounds_toArray, List.set_cons_succ, List.set_cons_zero]
  refine wpAnyH_ready (rs := [8]) (by kernel_rfl) (by simp) ?_
  refine AllReadyH.cons rfl (fun K hK => ?_) AllReadyH.nil
  obtain ⟨d0, f0⟩ := X9.out.2 0 _ rfl
  obtain ⟨d1, f1⟩ := X9.out.2 1 _ rfl
  obtain ⟨d2, f2⟩ := X9.out.2 2 _ rfl
  obtain ⟨d3, f3⟩ := X9.out.2 3 _ rfl
  obtain ⟨d4, f4⟩ := X9.out.2 4 _ rfl
  go_simp
  have XE := hide (((((X9.out.set 0 (by simp) (.int .i64 x.tk)).set 1 (by simp) (.slice (some ⟨pp, 0, none⟩) x.pa.length kk)).set 2 (by simp) (.bool x.de)).set 3 (by simp) (.bool x.sh)).set 4 (by simp) (.int .i64 x.un))
  have KE := hide (((((K9.out.setCell (p := ⟨w.heap.size, 0, none⟩) (Nat.le_refl _) (.int .i64 x.tk)).setCell (p := ⟨w.heap.size, 1, none⟩) (Nat.le_refl _) (.slice (some ⟨pp, 0, none⟩) x.pa.length kk)).setCell (p := ⟨w.heap.size, 2, none⟩) (Nat.le_refl _) (.bool x.de)).setCell (p := ⟨w.heap.size, 3, none⟩) (Nat.le_refl _) (.bool x.sh)).setCell (p := ⟨w.heap.size, 4, none⟩) (Nat.le_refl _) (.int .i64 x.un))
  have RE := hide (rowC_keepN (N := w.heap.size) (rowC_keepN (N := w.heap.size) (rowC_keepN (N := w.heap.size) (rowC_keepN (N := w.heap.size) (rowC_keepN (N := w.heap.size) R9d.out (by simp) (fun y h1 h2 => Below.heap_setCell _ ⟨w.heap.size, 0, none⟩ (.int .i64 x.tk) y h2) (by omega)) (by simp) (fun y h1 h2 => Below.heap_setCell _ ⟨w.heap.size, 1, none⟩ (.slice (some ⟨pp, 0, none⟩) x.pa.length kk) y h2) (by omega)) (by simp) (fun y h1 h2 => Below.heap_setCell _ ⟨w.heap.size, 2, none⟩ (.bool x.de) y h2) (by omega)) (by simp) (fun y h1 h2 => Below.heap_setCell _ ⟨w.heap.size, 3, none⟩ (.bool x.sh) y h2) (by omega)) (by simp) (fun y h1 h2 => Below.heap_setCell _ ⟨w.heap.size, 4, none⟩ (.int .i64 x.un) y h2) (by omega))
  have SE := hide (RowS.hp (RowS.hp (RowS.hp (RowS.hp (RowS.hp S9.out (by simp) (Below.heap_setCell _ ⟨w.heap.size, 0, none⟩ (.int .i64 x.tk) pp HP5.out)) (by simp) (Below.heap_setCell _ ⟨w.heap.size, 1, none⟩ (.slice (some ⟨pp, 0, none⟩) x.pa.length kk) pp HP5.out)) (by simp) (Below.heap_setCell _ ⟨w.heap.size, 2, none⟩ (.bool x.de) pp HP5.out)) (by simp) (Below.heap_setCell _ ⟨w.heap.size, 3, none⟩ (.bool x.sh) pp HP5.out)) (by simp) (Below.heap_setCell _ ⟨w.heap.size, 4, none⟩ (.int .i64 x.un) pp HP5.out))
  clear d0 f0 d1 f1 d2 f2 d3 f3 d4 f4
  refine hK.out _ _ (hFl _ 4 (.int .i64 x.un) (hFl _ 3 (.bool x.sh) (hFl _ 2 (.bool x.de) (hFl _ 1 (.slice (some ⟨pp, 0, none⟩) x.pa.length kk) (hFl _ 0 (.int .i64 x.tk) hS0))))) (fun hHeld2 => ?_)
  clear hK K hHeld
  have hHeld := hHeld2
  clear hHeld2
  simp only [List.setIfInBounds_toArray, List.set_cons_succ, List.set_cons_zero]
  refine wpAnyH_done (by kernel_rfl) ?_ _
  clear hHeld
  go_wp2
  have r0 := (XE.out.2 0 _ rfl).1
  have r1 := (XE.out.2 1 _ rfl).1
  have r2 := (XE.out.2 2 _ rfl).1
  have r3 := (XE.out.2 3 _ rfl).1
  have r4 := (XE.out.2 4 _ rfl).1
  refine bodyPost_ret (v := .tuple #[.slice (some ⟨g, 0, none⟩) n c, .agg #[.int .i64 x.tk, .slice (some ⟨pp, 0, none⟩) x.pa.length kk, .bool x.de, .bool x.sh, .int .i64 x.un]]) (by simp [results, Try.results5, go_sem, r0, r1, r2, r3, r4]) rfl ⟨⟨l, g, n, c, x, pp, x.pa.length, kk, rfl, HK.out.1, HK.out.2.1, HK.out.2.2.1, HK.out.2.2.2, RE.out.mono (by omega), HX.out.1, HX.out.2.1, HX.out.2.2, rfl, SE.out, HKK.out.1, HKK.out.2⟩, KE.out⟩
end Go.Proofs.Ytclnpfpaabmkcaa
namespace Go.Proofs.Ytclnpfpaabmkcaa.M
open Go.RowKit
set_option linter.unusedVariables false

theorem under_of {q p : List ByteArray} (h : underB q p = true) : p.length < q.length ∧ q.take p.length = p := by
  unfold underB sameL at h
  rw [Bool.and_eq_true, decide_eq_true_eq, decide_eq_true_eq] at h
  exact h
theorem under_mk {q p : List ByteArray} (h1 : p.length < q.length) (h2 : q.take p.length = p) : underB q p = true := by
  unfold underB sameL
  rw [Bool.and_eq_true, decide_eq_true_eq, decide_eq_true_eq]
  exact ⟨h1, h2⟩
theorem cov_of {x : Lk} {p : List ByteArray} (h : covB x p = true) : x.pa = p ∨ (x.de = true ∧ x.pa.length < p.length ∧ p.take x.pa.length = x.pa) := by
  unfold covB at h
  rw [Bool.or_eq_true] at h
  rcases h with h | h
  · unfold sameL at h
    exact .inl (of_decide_eq_true h)
  · rw [Bool.and_eq_true] at h
    exact .inr ⟨h.1, under_of h.2⟩
theorem cov_same {x : Lk} {p : List ByteArray} (h : x.pa = p) : covB x p = true := by
  unfold covB sameL
  rw [decide_eq_true h]; rfl
theorem cov_deep {x : Lk} {p : List ByteArray} (h : x.de = true) (h1 : x.pa.length < p.length) (h2 : p.take x.pa.length = x.pa) : covB x p = true := by
  unfold covB
  rw [h, under_mk h1 h2]; simp
theorem cov_two {x y : Lk} {p : List ByteArray} (hx : covB x p = true) (hy : covB y p = true) : covB x y.pa = true ∨ covB y x.pa = true := by
  rcases cov_of hx with e1 | ⟨d1, l1, t1⟩
  · right; rw [e1]; exact hy
  · rcases cov_of hy with e2 | ⟨d2, l2, t2⟩
    · left; rw [e2]; exact hx
    · rcases Nat.lt_trichotomy x.pa.length y.pa.length with h | h | h
      · left
        refine cov_deep d1 h ?_
        rw [← t2, List.take_take, Nat.min_eq_left (by omega), t1]
      · left
        refine cov_same ?_
        rw [← t1, ← t2, h]
      · right
        refine cov_deep d2 h ?_
        rw [← t1, List.take_take, Nat.min_eq_left (by omega), t2]
theorem locks_pair {l : List Lk} (h : locksB l = true) : l.Pairwise (fun a b => barB a b = false) := by
  rw [List.pairwise_iff_getElem]
  intro i j hi hj hij
  rw [Bool.eq_false_iff]
  intro e
  rw [locksB_bar i j hij hj e] at h
  cases h
theorem bar_sh {x y : Lk} {p : List ByteArray} (h : barB x y = false) (hx : covB x p = true) (hy : covB y p = true) : x.sh = true ∧ y.sh = true := by
  unfold barB clashB at h
  rw [Bool.or_eq_false_iff, Bool.and_eq_false_iff] at h
  rcases h.2 with h2 | h2
  · rw [Bool.or_eq_false_iff] at h2
    exact ⟨by simpa using h2.1, by simpa using h2.2⟩
  · rw [Bool.or_eq_false_iff] at h2
    rcases cov_two hx hy with e | e
    · rw [h2.1] at e; cases e
    · rw [h2.2] at e; cases e
/-- Those that cover a path. -/
def covL (l : List Lk) (p : List ByteArray) : List Lk := l.filter fun x => covB x p
theorem covL_cov {l : List Lk} {p : List ByteArray} {x : Lk} (h : x ∈ covL l p) : covB x p = true := (List.mem_filter.1 h).2
theorem alone_one {l : List Lk} {p : List ByteArray} (h : locksB l = true) (ha : (covL l p).any (fun x => !x.sh) = true) : (covL l p).length = 1 := by
  have hp : (covL l p).Pairwise (fun a b => barB a b = false) := (locks_pair h).sublist List.filter_sublist
  have hc : ∀ x ∈ covL l p, covB x p = true := fun x hx => covL_cov hx
  generalize covL l p = f at *
  match f, hp, hc, ha with
  | [], _, _, ha => simp at ha
  | [a], _, _, _ => rfl
  | a :: b :: r, hp, hc, ha =>
    exfalso
    rw [List.pairwise_cons] at hp
    have key : ∀ y ∈ b :: r, a.sh = true ∧ y.sh = true := fun y hy => bar_sh (hp.1 y hy) (hc a (by simp)) (hc y (List.mem_cons_of_mem _ hy))
    rw [List.any_eq_true] at ha
    obtain ⟨x, hx, hs⟩ := ha
    rcases List.mem_cons.1 hx with rfl | hx
    · rw [(key b (by simp)).1] at hs; cases hs
    · rw [(key x hx).2] at hs; cases hs
theorem touch_cov (p : List ByteArray) : touchB p false = fun x => covB x p := by
  funext x
  simp [touchB]
theorem may_none (l : List Lk) (p : List ByteArray) : mayB l p false [] = decide ((covL l p).length = 0) := by
  unfold mayB covL
  rw [touch_cov]
  generalize (l.filter fun x => covB x p) = f
  cases f with
  | nil => rfl
  | cons a r => cases h : a.sh <;> simp [hasB, h]
theorem may_own (l : List Lk) (p : List ByteArray) : mayB l p false (tokL l p) = true := by
  unfold mayB tokL
  rw [touch_cov]
  generalize (l.filter fun x => covB x p) = f
  have hh : ∀ x ∈ f, hasB (f.map (·.tk)) x = true := fun x hx => by
    unfold hasB
    rw [List.any_eq_true]
    exact ⟨x.tk, List.mem_map_of_mem hx, by simp⟩
  rw [Bool.and_eq_true]
  refine ⟨List.all_eq_true.2 (fun x hx => by rw [hh x hx, Bool.or_true]), ?_⟩
  cases e : f.any (·.sh)
  · rfl
  · rw [List.any_eq_true] at e
    obtain ⟨x, hx, hs⟩ := e
    have : f.any (fun x => x.sh && hasB (f.map (·.tk)) x) = true := List.any_eq_true.2 ⟨x, hx, by rw [hs, hh x hx]; rfl⟩
    rw [this]; rfl
theorem tokL_len (l : List Lk) (p : List ByteArray) : (tokL l p).length = (covL l p).length := by unfold tokL covL; rw [List.length_map]
/-- One more of them. -/
theorem covL_next (l : List Lk) (p : List ByteArray) (k : Nat) (hk : k < l.length) : covL (l.take (k + 1)) p = if covB l[k] p = true then covL (l.take k) p ++ [l[k]] else covL (l.take k) p := by
  unfold covL
  rw [List.take_succ_eq_append_getElem hk, List.filter_append]
  by_cases h : covB l[k] p = true
  · rw [if_pos h]; simp [h]
  · rw [if_neg h]; simp [h]
end Go.Proofs.Ytclnpfpaabmkcaa.M
namespace Go.Proofs.Ytclnpfpaabmkcaa.M
open Go.RowKit
set_option linter.unusedVariables false

theorem add_bar {l : List Lk} {x : Lk} (h : locksB (l ++ [x]) = true) : ∀ y ∈ l, barB y x = false := fun y hy => by
  have hp := locks_pair h
  rw [List.pairwise_append] at hp
  exact hp.2.2 y hy x (by simp)
theorem add_clash {l : List Lk} {x : Lk} (h : locksB (l ++ [x]) = true) : ∀ y ∈ l, clashB y x = false ∧ clashB x y = false := fun y hy => by
  have hb := add_bar h y hy
  unfold barB at hb
  rw [Bool.or_eq_false_iff] at hb
  exact ⟨hb.2, by rw [clashB_comm]; exact hb.2⟩
theorem add_other {l : List Lk} {x : Lk} (h : locksB (l ++ [x]) = true) : l.any (isTk x.tk) = false := by
  rw [Bool.eq_false_iff]
  intro e
  obtain ⟨y, hy, hp⟩ := List.any_eq_true.1 e
  have hb := add_bar h y hy
  unfold barB at hb
  rw [Bool.or_eq_false_iff, decide_eq_false_iff_not] at hb
  unfold isTk at hp
  exact hb.1 (by simpa using hp)
theorem isTk_self (x : Lk) : isTk x.tk x = true := by simp [isTk]
theorem add_drop {l : List Lk} {x : Lk} (h : locksB (l ++ [x]) = true) : dropL x.tk (l ++ [x]) = l ∧ (l ++ [x]).any (isTk x.tk) = true := by
  have ho := add_other h
  refine ⟨?_, ?_⟩
  · rw [dropL_snoc, ho, isTk_self]
    simp only [Bool.false_eq_true, if_false, if_true]
    exact dropL_none _ _ ho
  · rw [List.any_append, ho]; simp [isTk]
theorem cov_self (x : Lk) : covB x x.pa = true := cov_same rfl
theorem add_in (l : List Lk) (x : Lk) : x ∈ covL (l ++ [x]) x.pa := List.mem_filter.2 ⟨by simp, cov_self x⟩
theorem add_tok (l : List Lk) (x : Lk) : (tokL (l ++ [x]) x.pa).any (· == x.tk) = true := by
  rw [List.any_eq_true]
  exact ⟨x.tk, List.mem_map_of_mem (add_in l x), by simp⟩
theorem add_none (l : List Lk) (x : Lk) : mayB (l ++ [x]) x.pa false [] = false := by
  rw [may_none, decide_eq_false_iff_not]
  intro e
  have := add_in l x
  rw [List.length_eq_zero_iff.1 e] at this
  cases this
theorem add_own {l : List Lk} {x : Lk} (h : locksB (l ++ [x]) = true) (hs : x.sh = false) : mayB (l ++ [x]) x.pa false [x.tk] = true := by
  have h1 : (covL (l ++ [x]) x.pa).length = 1 := alone_one h (List.any_eq_true.2 ⟨x, add_in l x, by rw [hs]; rfl⟩)
  have h2 : tokL (l ++ [x]) x.pa = [x.tk] := by
    have hm := add_in l x
    unfold tokL
    change (covL (l ++ [x]) x.pa).map (·.tk) = [x.tk]
    match hc : covL (l ++ [x]) x.pa, h1, hm with
    | [y], _, hm =>
      obtain rfl := List.mem_singleton.1 hm
      rfl
  have := may_own (l ++ [x]) x.pa
  rwa [h2] at this
end Go.Proofs.Ytclnpfpaabmkcaa.M
namespace Go.Proofs.Ytclnpfpaabmkcaa
open Go.RowKit
set_option linter.unusedVariables false

theorem keep10 {W w1 : World} {b1 b2 : Nat} {o0 p0 o1 p1 o2 p2 o3 p3 o4 p4 : Nat} {v0 u0 v1 u1 v2 u2 v3 u3 v4 u4 : Value} (hb : Below W.heap.size W w1) (h1 : b1 < W.heap.size) (h2 : b2 < W.heap.size) (h : W.cell? ⟨b1, o0, none⟩ = some v0 ∧ W.cell? ⟨b1, o1, none⟩ = some v1 ∧ W.cell? ⟨b1, o2, none⟩ = some v2 ∧ W.cell? ⟨b1, o3, none⟩ = some v3 ∧ W.cell? ⟨b1, o4, none⟩ = some v4 ∧ W.cell? ⟨b2, p0, none⟩ = some u0 ∧ W.cell? ⟨b2, p1, none⟩ = some u1 ∧ W.cell? ⟨b2, p2, none⟩ = some u2 ∧ W.cell? ⟨b2, p3, none⟩ = some u3 ∧ W.cell? ⟨b2, p4, none⟩ = some u4) :
    w1.cell? ⟨b1, o0, none⟩ = some v0 ∧ w1.cell? ⟨b1, o1, none⟩ = some v1 ∧ w1.cell? ⟨b1, o2, none⟩ = some v2 ∧ w1.cell? ⟨b1, o3, none⟩ = some v3 ∧ w1.cell? ⟨b1, o4, none⟩ = some v4 ∧ w1.cell? ⟨b2, p0, none⟩ = some u0 ∧ w1.cell? ⟨b2, p1, none⟩ = some u1 ∧ w1.cell? ⟨b2, p2, none⟩ = some u2 ∧ w1.cell? ⟨b2, p3, none⟩ = some u3 ∧ w1.cell? ⟨b2, p4, none⟩ = some u4 := by
  obtain ⟨e0, e1, e2, e3, e4, e5, e6, e7, e8, e9⟩ := h
  exact ⟨(hb.cell (p := ⟨b1, _, none⟩) h1).trans e0, (hb.cell (p := ⟨b1, _, none⟩) h1).trans e1, (hb.cell (p := ⟨b1, _, none⟩) h1).trans e2, (hb.cell (p := ⟨b1, _, none⟩) h1).trans e3, (hb.cell (p := ⟨b1, _, none⟩) h1).trans e4, (hb.cell (p := ⟨b2, _, none⟩) h2).trans e5, (hb.cell (p := ⟨b2, _, none⟩) h2).trans e6, (hb.cell (p := ⟨b2, _, none⟩) h2).trans e7, (hb.cell (p := ⟨b2, _, none⟩) h2).trans e8, (hb.cell (p := ⟨b2, _, none⟩) h2).trans e9⟩
end Go.Proofs.Ytclnpfpaabmkcaa
namespace Go.Proofs.Ytclnpfpaabmkcaa
open Go.RowKit
set_option linter.unusedVariables false

theorem deq_not {α : Type} [DecidableEq α] {l m : List α} (k : Nat) (h1 : k < l.length) (h2 : k < m.length) (h : ¬ l[k] = m[k]) : decide (l = m) = false := decide_eq_false (fun e => by subst e; exact h rfl)
theorem deq_len {α : Type} [DecidableEq α] {l m : List α} (h : ¬ l.length = m.length) : decide (l = m) = false := decide_eq_false (fun e => by subst e; exact h rfl)
theorem deq_all {α : Type} [DecidableEq α] {l m : List α} (hl : l.length = m.length) (k : Nat) (hk : ¬ k < l.length) (h : l.take k = m.take k) : decide (l = m) = true := by
  rw [List.take_of_length_le (by omega), List.take_of_length_le (by omega)] at h
  exact decide_eq_true h
theorem deq_step {α : Type} {l m : List α} (k : Nat) (h1 : k < l.length) (h2 : k < m.length) (h : l.take k = m.take k) (e : l[k] = m[k]) : l.take (k + 1) = m.take (k + 1) := by
  rw [List.take_succ_eq_append_getElem h1, List.take_succ_eq_append_getElem h2, h, e]
end Go.Proofs.Ytclnpfpaabmkcaa
namespace Go.Proofs.Ytclnpfpaabmkcaa
open Go.RowKit M
set_option linter.unusedVariables false

theorem lk_eq (r s : Lk) : decide (r = s) = ((r.tk == s.tk) && sameL r.pa s.pa && (r.de == s.de) && (r.sh == s.sh) && (r.un == s.un)) := by
  obtain ⟨a, b, c, d, e⟩ := r
  obtain ⟨a', b', c', d', e'⟩ := s
  simp only [Lk.mk.injEq, sameL, Bool.decide_and, Bool.and_assoc, ← Bool.beq_eq_decide_eq]
  try rw [show (a == a') = decide (a = a') from by by_cases h : a = a' <;> simp [h], show (c == c') = decide (c = c') from by by_cases h : c = c' <;> simp [h], show (d == d') = decide (d = d') from by by_cases h : d = d' <;> simp [h], show (e == e') = decide (e = e') from by by_cases h : e = e' <;> simp [h]]
end Go.Proofs.Ytclnpfpaabmkcaa
namespace Go.Proofs.Ytclnpfpaabmkcaa
open Go.RowKit
set_option linter.unusedVariables false

set_option maxHeartbeats 400000 in
theorem sameTexts_any (a b : Option Addr) (ss tt : List ByteArray) (cap cap' B C : Nat) (w : World) (h : Strs w B a ss) (h' : Strs w C b tt) (hl : ss.length ≤ maxLen) (hl' : tt.length ≤ maxLen) :
    Calls Try.prog 48 #[.slice a ss.length cap, .slice b tt.length cap'] w fun e w' => e = .returned (.bool (sameL ss tt)) ∧ ∀ D, Below D w w' := by
  unfold maxLen at hl hl'
  by_cases hlen : ss.length = tt.length
  · have HL : Hid (ss.length = tt.length) := hlen
    go_enter Try.func48, Try.ntmps48
    rw [← hlen]
    clear hlen
    go_wp2
    go_loopw [5] (fun i wr => ∃ k n : Nat, k ≤ ss.length ∧ i = .int .i64 k ∧ ss.take k = tt.take k ∧ wr = w.drewN n) (fun i _ => ss.length - (intOf i).toNat)
    case atStart => exact ⟨0, 0, Nat.zero_le _, rfl, rfl, rfl⟩
    case round =>
      obtain ⟨k, n, hk, rfl, ht, rfl⟩ := hrel
      have HT : Hid (ss.take k = tt.take k) := ht
      clear ht
      by_cases hlt : k < ss.length
      · have hlt' : k < tt.length := by have := HL.out; omega
        obtain ⟨b1, o1, rfl, hb1, hc1⟩ := h (by omega)
        obtain ⟨b2, o2, rfl, hb2, hc2⟩ := h' (by have := HL.out; omega)
        have hcx := hc1 k hlt
        have hcy := hc2 k hlt'
        go_wp2
        go_quiet (fail)
        go_wp2
        · rename_i hne
          have hne' : ¬ ss[k] = tt[k] := fun e => by rw [e] at hne; simp at hne
          go_ret
          exact ⟨ret_bool (sameL_not k hlt hlt' hne').symm, fun D => below_drewN (below_drewN (Below.refl _ _) _) _⟩
        · rename_i he
          have he' : ss[k] = tt[k] := str_inj (by simpa using he)
          go_roundw
          case rel => exact ⟨k + 1, n + nq, by omega, by go_num, take_same k hlt hlt' HT.out he', by simp⟩
          case measure => simp [intOf]; omega
      · go_wp2
        go_ret
        exact ⟨ret_bool (sameL_all HL.out k hlt HT.out).symm, fun D => below_drewN (Below.refl _ _) _⟩
  · have HS := sameL_len hlen
    go_enter Try.func48, Try.ntmps48
    go_wp2
    go_ret
    exact ⟨ret_bool HS.symm, fun D => Below.refl _ _⟩
end Go.Proofs.Ytclnpfpaabmkcaa
namespace Go.Proofs.Ytclnpfpaabmkcaa
open Go.RowKit M
set_option linter.unusedVariables false

set_option maxRecDepth 100000 in
set_option maxHeartbeats 4000000 in
theorem sameLockL_any (r s : Lk) (pa pb : Option Addr) (pc pd B C : Nat) (w : World) (h : Strs w B pa r.pa) (h' : Strs w C pb s.pa) (hl : r.pa.length ≤ maxLen) (hl' : s.pa.length ≤ maxLen) (hB : B ≤ w.heap.size) (hC : C ≤ w.heap.size) :
    Calls Try.prog 21 #[.agg #[.int .i64 r.tk, .slice pa r.pa.length pc, .bool r.de, .bool r.sh, .int .i64 r.un], .agg #[.int .i64 s.tk, .slice pb s.pa.length pd, .bool s.de, .bool s.sh, .int .i64 s.un]] w fun e w' => e = .returned (.bool (decide (r = s))) ∧ Below w.heap.size w w' := by
  rw [lk_eq]
  have K0 := hide (show Below w.heap.size w ((w.alloc (Obj.cells #[.int .i64 r.tk, .slice pa r.pa.length pc, .bool r.de, .bool r.sh, .int .i64 r.un] 27)).alloc (Obj.cells #[.int .i64 s.tk, .slice pb s.pa.length pd, .bool s.de, .bool s.sh, .int .i64 s.un] 27)) from ((Below.refl _ _).alloc (Nat.le_refl _) _).alloc (by simp) _)
  have A0 := hide (show BoxV ((w.alloc (Obj.cells #[.int .i64 r.tk, .slice pa r.pa.length pc, .bool r.de, .bool r.sh, .int .i64 r.un] 27)).alloc (Obj.cells #[.int .i64 s.tk, .slice pb s.pa.length pd, .bool s.de, .bool s.sh, .int .i64 s.un] 27)) w.heap.size [.int .i64 r.tk, .slice pa r.pa.length pc, .bool r.de, .bool r.sh, .int .i64 r.un] from (BoxV.made w [.int .i64 r.tk, .slice pa r.pa.length pc, .bool r.de, .bool r.sh, .int .i64 r.un] 27).alloc _)
  have B0 := hide (show BoxV ((w.alloc (Obj.cells #[.int .i64 r.tk, .slice pa r.pa.length pc, .bool r.de, .bool r.sh, .int .i64 r.un] 27)).alloc (Obj.cells #[.int .i64 s.tk, .slice pb s.pa.length pd, .bool s.de, .bool s.sh, .int .i64 s.un] 27)) (w.heap.size + 1) [.int .i64 s.tk, .slice pb s.pa.length pd, .bool s.de, .bool s.sh, .int .i64 s.un] by have h := BoxV.made (w.alloc (Obj.cells #[.int .i64 r.tk, .slice pa r.pa.length pc, .bool r.de, .bool r.sh, .int .i64 r.un] 27)) [.int .i64 s.tk, .slice pb s.pa.length pd, .bool s.de, .bool s.sh, .int .i64 s.un] 27; simpa using h)
  have HS := hide (fun W (hb : Below w.heap.size w W) => (sameTexts_any pa pb r.pa s.pa pc pd B C W (h.below hb hB) (h'.below hb hC) hl hl').mono (fun e w2 (q : _ ∧ _) => (⟨q.1, q.2 W.heap.size⟩ : _ ∧ Below W.heap.size W w2)))
  clear h h'
  obtain ⟨z0, hz0⟩ : ∃ z : Bool, (r.tk == s.tk) = z := ⟨_, rfl⟩
  obtain ⟨z1, hz1⟩ : ∃ z : Bool, sameL r.pa s.pa = z := ⟨_, rfl⟩
  rw [hz1] at HS
  obtain ⟨z2, hz2⟩ : ∃ z : Bool, (r.de == s.de) = z := ⟨_, rfl⟩
  obtain ⟨z3, hz3⟩ : ∃ z : Bool, (r.sh == s.sh) = z := ⟨_, rfl⟩
  obtain ⟨z4, hz4⟩ : ∃ z : Bool, (r.un == s.un) = z := ⟨_, rfl⟩
  rw [hz0, hz1, hz2, hz3, hz4]
  cases z0
  · clear hz1 hz2 hz3 hz4 HS
    go_enter Try.func21, Try.ntmps21
    have c0 := (A0.out.2 0 _ rfl).1
    have d0 := (B0.out.2 0 _ rfl).1
    have c1 := (A0.out.2 1 _ rfl).1
    have d1 := (B0.out.2 1 _ rfl).1
    have c2 := (A0.out.2 2 _ rfl).1
    have d2 := (B0.out.2 2 _ rfl).1
    have c3 := (A0.out.2 3 _ rfl).1
    have d3 := (B0.out.2 3 _ rfl).1
    have c4 := (A0.out.2 4 _ rfl).1
    have d4 := (B0.out.2 4 _ rfl).1
    go_wp2
    go_ret
    exact ⟨ret_bool (by simp), K0.out⟩
  cases z1
  · clear hz1 hz2 hz3 hz4
    go_enter Try.func21, Try.ntmps21
    have c0 := (A0.out.2 0 _ rfl).1
    have d0 := (B0.out.2 0 _ rfl).1
    have c1 := (A0.out.2 1 _ rfl).1
    have d1 := (B0.out.2 1 _ rfl).1
    have c2 := (A0.out.2 2 _ rfl).1
    have d2 := (B0.out.2 2 _ rfl).1
    have c3 := (A0.out.2 3 _ rfl).1
    have d3 := (B0.out.2 3 _ rfl).1
    have c4 := (A0.out.2 4 _ rfl).1
    have d4 := (B0.out.2 4 _ rfl).1
    go_wp2_with fail
    refine (HS.out _ K0.out).mono ?_
    rintro e w1 ⟨rfl, b1⟩
    clear c0 d0 c1 d1 c2 d2 c3 d3 c4 d4
    have K1 := hide (K0.out.trans (b1.mono K0.out.size))
    have A1 := hide (A0.out.next b1)
    have B1 := hide (B0.out.next b1)
    clear b1 K0 A0 B0
    have c0 := (A1.out.2 0 _ rfl).1
    have d0 := (B1.out.2 0 _ rfl).1
    have c1 := (A1.out.2 1 _ rfl).1
    have d1 := (B1.out.2 1 _ rfl).1
    have c2 := (A1.out.2 2 _ rfl).1
    have d2 := (B1.out.2 2 _ rfl).1
    have c3 := (A1.out.2 3 _ rfl).1
    have d3 := (B1.out.2 3 _ rfl).1
    have c4 := (A1.out.2 4 _ rfl).1
    have d4 := (B1.out.2 4 _ rfl).1
    go_wp2
    go_ret
    exact ⟨ret_bool (by simp), K1.out⟩
  cases z2
  · clear hz1 hz3 hz4
    go_enter Try.func21, Try.ntmps21
    have c0 := (A0.out.2 0 _ rfl).1
    have d0 := (B0.out.2 0 _ rfl).1
    have c1 := (A0.out.2 1 _ rfl).1
    have d1 := (B0.out.2 1 _ rfl).1
    have c2 := (A0.out.2 2 _ rfl).1
    have d2 := (B0.out.2 2 _ rfl).1
    have c3 := (A0.out.2 3 _ rfl).1
    have d3 := (B0.out.2 3 _ rfl).1
    have c4 := (A0.out.2 4 _ rfl).1
    have d4 := (B0.out.2 4 _ rfl).1
    go_wp2_with fail
    refine (HS.out _ K0.out).mono ?_
    rintro e w1 ⟨rfl, b1⟩
    clear c0 d0 c1 d1 c2 d2 c3 d3 c4 d4
    have K1 := hide (K0.out.trans (b1.mono K0.out.size))
    have A1 := hide (A0.out.next b1)
    have B1 := hide (B0.out.next b1)
    clear b1 K0 A0 B0
    have c0 := (A1.out.2 0 _ rfl).1
    have d0 := (B1.out.2 0 _ rfl).1
    have c1 := (A1.out.2 1 _ rfl).1
    have d1 := (B1.out.2 1 _ rfl).1
    have c2 := (A1.out.2 2 _ rfl).1
    have d2 := (B1.out.2 2 _ rfl).1
    have c3 := (A1.out.2 3 _ rfl).1
    have d3 := (B1.out.2 3 _ rfl).1
    have c4 := (A1.out.2 4 _ rfl).1
    have d4 := (B1.out.2 4 _ rfl).1
    go_wp2
    go_ret
    exact ⟨ret_bool (by simp), K1.out⟩
  cases z3
  · clear hz1 hz4
    go_enter Try.func21, Try.ntmps21
    have c0 := (A0.out.2 0 _ rfl).1
    have d0 := (B0.out.2 0 _ rfl).1
    have c1 := (A0.out.2 1 _ rfl).1
    have d1 := (B0.out.2 1 _ rfl).1
    have c2 := (A0.out.2 2 _ rfl).1
    have d2 := (B0.out.2 2 _ rfl).1
    have c3 := (A0.out.2 3 _ rfl).1
    have d3 := (B0.out.2 3 _ rfl).1
    have c4 := (A0.out.2 4 _ rfl).1
    have d4 := (B0.out.2 4 _ rfl).1
    go_wp2_with fail
    refine (HS.out _ K0.out).mono ?_
    rintro e w1 ⟨rfl, b1⟩
    clear c0 d0 c1 d1 c2 d2 c3 d3 c4 d4
    have K1 := hide (K0.out.trans (b1.mono K0.out.size))
    have A1 := hide (A0.out.next b1)
    have B1 := hide (B0.out.next b1)
    clear b1 K0 A0 B0
    have c0 := (A1.out.2 0 _ rfl).1
    have d0 := (B1.out.2 0 _ rfl).1
    have c1 := (A1.out.2 1 _ rfl).1
    have d1 := (B1.out.2 1 _ rfl).1
    have c2 := (A1.out.2 2 _ rfl).1
    have d2 := (B1.out.2 2 _ rfl).1
    have c3 := (A1.out.2 3 _ rfl).1
    have d3 := (B1.out.2 3 _ rfl).1
    have c4 := (A1.out.2 4 _ rfl).1
    have d4 := (B1.out.2 4 _ rfl).1
    go_wp2
    go_ret
    exact ⟨ret_bool (by simp), K1.out⟩
  cases z4
  · clear hz1
    go_enter Try.func21, Try.ntmps21
    have c0 := (A0.out.2 0 _ rfl).1
    have d0 := (B0.out.2 0 _ rfl).1
    have c1 := (A0.out.2 1 _ rfl).1
    have d1 := (B0.out.2 1 _ rfl).1
    have c2 := (A0.out.2 2 _ rfl).1
    have d2 := (B0.out.2 2 _ rfl).1
    have c3 := (A0.out.2 3 _ rfl).1
    have d3 := (B0.out.2 3 _ rfl).1
    have c4 := (A0.out.2 4 _ rfl).1
    have d4 := (B0.out.2 4 _ rfl).1
    go_wp2_with fail
    refine (HS.out _ K0.out).mono ?_
    rintro e w1 ⟨rfl, b1⟩
    clear c0 d0 c1 d1 c2 d2 c3 d3 c4 d4
    have K1 := hide (K0.out.trans (b1.mono K0.out.size))
    have A1 := hide (A0.out.next b1)
    have B1 := hide (B0.out.next b1)
    clear b1 K0 A0 B0
    have c0 := (A1.out.2 0 _ rfl).1
    have d0 := (B1.out.2 0 _ rfl).1
    have c1 := (A1.out.2 1 _ rfl).1
    have d1 := (B1.out.2 1 _ rfl).1
    have c2 := (A1.out.2 2 _ rfl).1
    have d2 := (B1.out.2 2 _ rfl).1
    have c3 := (A1.out.2 3 _ rfl).1
    have d3 := (B1.out.2 3 _ rfl).1
    have c4 := (A1.out.2 4 _ rfl).1
    have d4 := (B1.out.2 4 _ rfl).1
    go_wp2
    go_ret
    exact ⟨ret_bool (by simp), K1.out⟩
  clear hz1
  go_enter Try.func21, Try.ntmps21
  have c0 := (A0.out.2 0 _ rfl).1
  have d0 := (B0.out.2 0 _ rfl).1
  have c1 := (A0.out.2 1 _ rfl).1
  have d1 := (B0.out.2 1 _ rfl).1
  have c2 := (A0.out.2 2 _ rfl).1
  have d2 := (B0.out.2 2 _ rfl).1
  have c3 := (A0.out.2 3 _ rfl).1
  have d3 := (B0.out.2 3 _ rfl).1
  have c4 := (A0.out.2 4 _ rfl).1
  have d4 := (B0.out.2 4 _ rfl).1
  go_wp2_with fail
  refine (HS.out _ K0.out).mono ?_
  rintro e w1 ⟨rfl, b1⟩
  clear c0 d0 c1 d1 c2 d2 c3 d3 c4 d4
  have K1 := hide (K0.out.trans (b1.mono K0.out.size))
  have A1 := hide (A0.out.next b1)
  have B1 := hide (B0.out.next b1)
  clear b1 K0 A0 B0
  have c0 := (A1.out.2 0 _ rfl).1
  have d0 := (B1.out.2 0 _ rfl).1
  have c1 := (A1.out.2 1 _ rfl).1
  have d1 := (B1.out.2 1 _ rfl).1
  have c2 := (A1.out.2 2 _ rfl).1
  have d2 := (B1.out.2 2 _ rfl).1
  have c3 := (A1.out.2 3 _ rfl).1
  have d3 := (B1.out.2 3 _ rfl).1
  have c4 := (A1.out.2 4 _ rfl).1
  have d4 := (B1.out.2 4 _ rfl).1
  go_wp2
  go_ret
  exact ⟨ret_bool (by simp), K1.out⟩

set_option maxRecDepth 100000 in
set_option maxHeartbeats 8000000 in
theorem sameLocks_any (a b : Option Addr) (ks ls : List Lk) (cap cap' B C : Nat) (w : World) (h : Lks w B a ks) (h' : Lks w C b ls) (hB : B ≤ w.heap.size) (hC : C ≤ w.heap.size) (hl : ks.length ≤ maxLen) (hl' : ls.length ≤ maxLen) :
    Calls Try.prog 8 #[.slice a ks.length cap, .slice b ls.length cap'] w fun e w' => e = .returned (.bool (decide (ks = ls))) ∧ Below w.heap.size w w' := by
  unfold maxLen at hl hl'
  by_cases hlen : ks.length = ls.length
  · have HL : Hid (ks.length = ls.length) := hlen
    go_enter Try.func8, Try.ntmps8
    rw [← hlen]
    clear hlen
    go_wp2
    go_loopw [5] (fun i wr => ∃ k : Nat, k ≤ ks.length ∧ i = .int .i64 k ∧ ks.take k = ls.take k ∧ Below w.heap.size w wr) (fun i _ => ks.length - (intOf i).toNat)
    case atStart => exact ⟨0, Nat.zero_le _, rfl, rfl, Below.refl _ _⟩
    case round =>
      obtain ⟨k, hk, rfl, ht, hbe⟩ := hrel
      have HT := hide ht
      clear ht
      by_cases hlt : k < ks.length
      · have hlt' : k < ls.length := by have := HL.out; omega
        obtain ⟨b1, o1, rfl, hb1, hc1⟩ := (h.below hbe hB) (by omega)
        obtain ⟨b2, o2, rfl, hb2, hc2⟩ := (h'.below hbe hC) (by have := HL.out; omega)
        obtain ⟨pa, pc, ⟨hx0, hx1, hx2, hx3, hx4⟩, hkx⟩ := hc1 k hlt
        obtain ⟨pb, pd, ⟨hy0, hy1, hy2, hy3, hy4⟩, hky⟩ := hc2 k hlt'
        clear hc1 hc2
        have hq1 : b1 < wr.drew.heap.size := by have := hbe.size; show b1 < wr.heap.size; omega
        have hq2 : b2 < wr.drew.heap.size := by have := hbe.size; show b2 < wr.heap.size; omega
        have KD := hide (show Below w.heap.size w wr.drew from ⟨hbe.os, hbe.tape, hbe.output, hbe.size, hbe.block⟩)
        have bd : Below wr.heap.size wr wr.drew := below_drewG (Below.refl _ _)
        have hq := sameLockL_any ks[k] ls[k] pa pb pc pd B C wr.drew (hkx.ph.below bd (Nat.le_trans hB hbe.size)) (hky.ph.below bd (Nat.le_trans hC hbe.size)) (Nat.le_trans hkx.pl hkx.pm) (Nat.le_trans hky.pl hky.pm) (Nat.le_trans hB KD.out.size) (Nat.le_trans hC KD.out.size)
        have HX := hide (And.intro hx0 (And.intro hx1 (And.intro hx2 (And.intro hx3 (And.intro hx4 (And.intro hy0 (And.intro hy1 (And.intro hy2 (And.intro hy3 hy4)))))))))
        have HN := hide (deq_not k hlt hlt')
        have HY := hide (deq_step k hlt hlt' HT.out)
        clear hkx hky bd
        by_cases hz : ks[k] = ls[k]
        · rw [decide_eq_true hz] at hq
          have HQ := hide hq
          have HZ := hide hz
          clear hz hq
          go_wp2
          go_region_held3 (fun W => W.cell? ⟨b1, o1 + k * 5, none⟩ = some (.int .i64 ks[k].tk) ∧ W.cell? ⟨b1, o1 + k * 5 + 1, none⟩ = some (.slice pa ks[k].pa.length pc) ∧ W.cell? ⟨b1, o1 + k * 5 + 2, none⟩ = some (.bool ks[k].de) ∧ W.cell? ⟨b1, o1 + k * 5 + 3, none⟩ = some (.bool ks[k].sh) ∧ W.cell? ⟨b1, o1 + k * 5 + 4, none⟩ = some (.int .i64 ks[k].un) ∧ W.cell? ⟨b2, o2 + k * 5, none⟩ = some (.int .i64 ls[k].tk) ∧ W.cell? ⟨b2, o2 + k * 5 + 1, none⟩ = some (.slice pb ls[k].pa.length pd) ∧ W.cell? ⟨b2, o2 + k * 5 + 2, none⟩ = some (.bool ls[k].de) ∧ W.cell? ⟨b2, o2 + k * 5 + 3, none⟩ = some (.bool ls[k].sh) ∧ W.cell? ⟨b2, o2 + k * 5 + 4, none⟩ = some (.int .i64 ls[k].un)) (first | exact HX.out | exact HX2.out) ((go_at_call 21; refine HQ.out.mono ?_; rintro e w1 ⟨rfl, hb3⟩; have HX2 := hide (keep10 hb3 hq1 hq2 HX.out)))
          all_goals
            have c1 := KD.out.trans (hb3.mono KD.out.size)
            clear hb3
            go_wp2
            go_roundw
            case rel => exact ⟨k + 1, by omega, by go_num, HY.out HZ.out, c1⟩
            case measure => simp [intOf]; omega
        · rw [decide_eq_false hz] at hq
          have HQ := hide hq
          have HZ := hide hz
          clear hz hq
          go_wp2
          go_region_held3 (fun W => W.cell? ⟨b1, o1 + k * 5, none⟩ = some (.int .i64 ks[k].tk) ∧ W.cell? ⟨b1, o1 + k * 5 + 1, none⟩ = some (.slice pa ks[k].pa.length pc) ∧ W.cell? ⟨b1, o1 + k * 5 + 2, none⟩ = some (.bool ks[k].de) ∧ W.cell? ⟨b1, o1 + k * 5 + 3, none⟩ = some (.bool ks[k].sh) ∧ W.cell? ⟨b1, o1 + k * 5 + 4, none⟩ = some (.int .i64 ks[k].un) ∧ W.cell? ⟨b2, o2 + k * 5, none⟩ = some (.int .i64 ls[k].tk) ∧ W.cell? ⟨b2, o2 + k * 5 + 1, none⟩ = some (.slice pb ls[k].pa.length pd) ∧ W.cell? ⟨b2, o2 + k * 5 + 2, none⟩ = some (.bool ls[k].de) ∧ W.cell? ⟨b2, o2 + k * 5 + 3, none⟩ = some (.bool ls[k].sh) ∧ W.cell? ⟨b2, o2 + k * 5 + 4, none⟩ = some (.int .i64 ls[k].un)) (first | exact HX.out | exact HX2.out) ((go_at_call 21; refine HQ.out.mono ?_; rintro e w1 ⟨rfl, hb3⟩; have HX2 := hide (keep10 hb3 hq1 hq2 HX.out)))
          all_goals
            have c1 := KD.out.trans (hb3.mono KD.out.size)
            clear hb3
            go_wp2
            go_ret
            exact ⟨ret_bool (HN.out HZ.out).symm, c1⟩
      · go_wp2
        go_ret
        exact ⟨ret_bool (deq_all HL.out k hlt HT.out).symm, hbe⟩
  · have HS := deq_len hlen
    go_enter Try.func8, Try.ntmps8
    go_wp2
    go_ret
    exact ⟨ret_bool HS.symm, Below.refl _ _⟩
end Go.Proofs.Ytclnpfpaabmkcaa
namespace Go.Proofs.Ytclnpfpaabmkcaa
open Go.RowKit
set_option linter.unusedVariables false

set_option maxHeartbeats 400000 in
theorem slicesEqual_any (a b : Option Addr) (ss tt : List ByteArray) (cap cap' B C : Nat) (w : World) (h : Strs w B a ss) (h' : Strs w C b tt) (hl : ss.length ≤ maxLen) (hl' : tt.length ≤ maxLen) :
    Calls Try.prog 64 #[.slice a ss.length cap, .slice b tt.length cap'] w fun e w' => e = .returned (.bool (sameL ss tt)) ∧ ∀ D, Below D w w' := by
  unfold maxLen at hl hl'
  by_cases hlen : ss.length = tt.length
  · have HL : Hid (ss.length = tt.length) := hlen
    go_enter Try.func64, Try.ntmps64
    rw [← hlen]
    clear hlen
    go_wp2
    go_loopw [13] (fun i wr => ∃ k n : Nat, k ≤ ss.length ∧ i = .int .i64 k ∧ ss.take k = tt.take k ∧ wr = w.drewN n) (fun i _ => ss.length - (intOf i).toNat)
    case atStart => exact ⟨0, 0, Nat.zero_le _, rfl, rfl, rfl⟩
    case round =>
      obtain ⟨k, n, hk, rfl, ht, rfl⟩ := hrel
      have HT : Hid (ss.take k = tt.take k) := ht
      clear ht
      by_cases hlt : k < ss.length
      · have hlt' : k < tt.length := by have := HL.out; omega
        obtain ⟨b1, o1, rfl, hb1, hc1⟩ := h (by omega)
        obtain ⟨b2, o2, rfl, hb2, hc2⟩ := h' (by have := HL.out; omega)
        have hcx := hc1 k hlt
        have hcy := hc2 k hlt'
        go_wp2
        go_quiet (fail)
        go_wp2
        · rename_i hne
          have hne' : ¬ ss[k] = tt[k] := fun e => by rw [e] at hne; simp at hne
          go_ret
          exact ⟨ret_bool (sameL_not k hlt hlt' hne').symm, fun D => below_drewN (below_drewN (Below.refl _ _) _) _⟩
        · rename_i he
          have he' : ss[k] = tt[k] := str_inj (by simpa using he)
          go_roundw
          case rel => exact ⟨k + 1, n + nq, by omega, by go_num, take_same k hlt hlt' HT.out he', by simp⟩
          case measure => simp [intOf]; omega
      · go_wp2
        go_ret
        exact ⟨ret_bool (sameL_all HL.out k hlt HT.out).symm, fun D => below_drewN (Below.refl _ _) _⟩
  · have HS := sameL_len hlen
    go_enter Try.func64, Try.ntmps64
    go_wp2
    go_ret
    exact ⟨ret_bool HS.symm, fun D => Below.refl _ _⟩
end Go.Proofs.Ytclnpfpaabmkcaa
namespace Go.Proofs.Ytclnpfpaabmkcaa
open Go.RowKit
set_option linter.unusedVariables false

set_option maxHeartbeats 400000 in
theorem under_any (a b : Option Addr) (ss tt : List ByteArray) (cap cap' B C : Nat) (w : World) (h : Strs w B a ss) (h' : Strs w C b tt) (hl : ss.length ≤ maxLen) (hl' : tt.length ≤ maxLen) (hc : ss.length ≤ cap) (hc' : cap ≤ maxLen) :
    Calls Try.prog 50 #[.slice a ss.length cap, .slice b tt.length cap'] w fun e w' => e = .returned (.bool (underB ss tt)) ∧ ∀ D, Below D w w' := by
  have hl1 := hl
  have hl2 := hl'
  have hc2 := hc'
  unfold maxLen at hl hl' hc'
  by_cases hlt : tt.length < ss.length
  · have ht : (ss.take tt.length).length = tt.length := by rw [List.length_take]; omega
    have cE := fun w1 cap1 (hh : Strs w1 B a ss) (hh' : Strs w1 C b tt) => slicesEqual_any a b (ss.take tt.length) tt cap1 cap' B C w1 (hh.take _) hh' (by omega) hl2
    rw [ht] at cE
    obtain ⟨b1, o1, rfl, _, _⟩ := h (by omega)
    go_enter Try.func50, Try.ntmps50
    go_wp2_with fail
    refine (cE _ _ h h').mono ?_
    rintro e w1 ⟨rfl, hb⟩
    go_wp2
    go_ret
    exact ⟨ret_bool (by simp [underB, hlt]), hb⟩
  · go_enter Try.func50, Try.ntmps50
    go_wp2
    go_ret
    exact ⟨ret_bool (by simp [underB, hlt]), fun D => Below.refl _ _⟩

end Go.Proofs.Ytclnpfpaabmkcaa
namespace Go.Proofs.Ytclnpfpaabmkcaa
open Go.RowKit
set_option linter.unusedVariables false

set_option maxHeartbeats 400000 in
theorem samePath_any (a b : Option Addr) (ss tt : List ByteArray) (cap cap' B C : Nat) (w : World) (h : Strs w B a ss) (h' : Strs w C b tt) (hl : ss.length ≤ maxLen) (hl' : tt.length ≤ maxLen) :
    Calls Try.prog 49 #[.slice a ss.length cap, .slice b tt.length cap'] w fun e w' => e = .returned (.bool (sameL ss tt)) ∧ ∀ D, Below D w w' := by
  go_enter Try.func49, Try.ntmps49
  go_wp2_with fail
  refine (slicesEqual_any a b ss tt cap cap' B C w h h' hl hl').mono ?_
  rintro e w1 ⟨rfl, hb⟩
  go_wp2
  go_ret
  exact ⟨rfl, hb⟩
end Go.Proofs.Ytclnpfpaabmkcaa
namespace Go.Proofs.Ytclnpfpaabmkcaa
open Go.RowKit M
set_option linter.unusedVariables false

set_option maxHeartbeats 1000000 in
theorem covers_any (r : Lk) (pa : Option Addr) (pc : Nat) (a : Option Addr) (ss : List ByteArray) (cap B C : Nat) (w : World) (h : LkIn w B r pa pc) (hB : B ≤ w.heap.size) (h' : Strs w C a ss) (hC : C ≤ w.heap.size) (hl : ss.length ≤ cap) (hm : cap ≤ maxLen) :
    Calls Try.prog 25 #[.agg #[.int .i64 r.tk, .slice pa r.pa.length pc, .bool r.de, .bool r.sh, .int .i64 r.un], .slice a ss.length cap] w fun e w' => e = .returned (.bool (covB r ss)) ∧ Below w.heap.size w w' := by
  have l1 := h.len
  have p1 := h.ph
  have l2 : ss.length ≤ maxLen := Nat.le_trans hl hm
  have F1 : Hid (sameL r.pa ss = true → covB r ss = true) := fun e => by unfold covB; rw [e]; rfl
  have F2 : Hid (sameL r.pa ss = false → r.de = false → covB r ss = false) := fun e e' => by unfold covB; rw [e, e']; rfl
  have F3 : Hid (sameL r.pa ss = false → r.de = true → covB r ss = underB ss r.pa) := fun e e' => by unfold covB; rw [e, e']; rfl
  generalize covB r ss = dd at *
  clear h
  obtain ⟨tk, tt, de, sh, un⟩ := r
  simp only at *
  have hb0 : Below w.heap.size w (w.alloc (Obj.cells #[.int .i64 tk, .slice pa tt.length pc, .bool de, .bool sh, .int .i64 un] 27)) := (Below.refl _ _).alloc (Nat.le_refl _) _
  have hS := samePath_any pa a tt ss pc cap B C _ (p1.below hb0 hB) (h'.below hb0 hC) l1 l2
  have HU := hide (fun w1 (hb : ∀ D, Below D (w.alloc (Obj.cells #[.int .i64 tk, .slice pa tt.length pc, .bool de, .bool sh, .int .i64 un] 27)) w1) => under_any a pa ss tt cap pc C B w1 ((h'.below hb0 hC).below (hb _) (Nat.le_refl _)) ((p1.below hb0 hB).below (hb _) (Nat.le_refl _)) l2 l1 hl hm)
  have HB0 := hide hb0
  clear hb0 p1 h'
  obtain ⟨z, hz⟩ : ∃ z, sameL tt ss = z := ⟨_, rfl⟩
  rw [hz] at hS
  have HS := hide hS
  clear hS
  cases z
  · cases de
    · rw [F2.out hz rfl]
      clear hz
      go_enter Try.func25, Try.ntmps25
      go_wp2_with fail
      refine HS.out.mono ?_
      rintro e w1 ⟨rfl, hb1⟩
      have hcl : ∀ b o, w1.cell? ⟨b, o, none⟩ = _ := fun b o => (hb1 (b + 1)).cell (p := ⟨b, o, none⟩) (Nat.lt_succ_self _)
      have HC1 := hide (HB0.out.trans (hb1 _))
      clear hb1
      go_wp2
      go_ret
      exact ⟨rfl, HC1.out⟩
    · rw [F3.out hz rfl]
      clear hz
      go_enter Try.func25, Try.ntmps25
      go_wp2_with fail
      refine HS.out.mono ?_
      rintro e w1 ⟨rfl, hb1⟩
      have hcl : ∀ b o, w1.cell? ⟨b, o, none⟩ = _ := fun b o => (hb1 (b + 1)).cell (p := ⟨b, o, none⟩) (Nat.lt_succ_self _)
      have HC1 := hide (HB0.out.trans (hb1 _))
      have HU1 := hide (HU.out w1 hb1)
      clear hb1
      go_wp2_with fail
      refine HU1.out.mono ?_
      rintro e w2 ⟨rfl, hb2⟩
      have c2 := HC1.out.trans (hb2 _)
      go_wp2
      go_ret
      exact ⟨rfl, c2⟩
  · rw [F1.out hz]
    clear hz
    go_enter Try.func25, Try.ntmps25
    go_wp2_with fail
    refine HS.out.mono ?_
    rintro e w1 ⟨rfl, hb1⟩
    have HC1 := hide (HB0.out.trans (hb1 _))
    clear hb1
    go_wp2
    go_ret
    exact ⟨rfl, HC1.out⟩
end Go.Proofs.Ytclnpfpaabmkcaa
