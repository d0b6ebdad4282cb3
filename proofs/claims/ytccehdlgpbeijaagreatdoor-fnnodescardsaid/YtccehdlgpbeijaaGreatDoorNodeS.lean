/-
  What the program's reader of pieces does: one node.
-/
import Derived.Test.YtccehdlgpbeijaaGreatDoorNodeR
namespace Go.Proofs.YtccehdlgpbeijaaGreatDoor
open Go.RowKit M
set_option linter.unusedVariables false

/-- Four cells of a box. -/
structure Bx (w : World) (b : Nat) (v0 v1 v2 v3 : Value) : Prop where
  lt : b < w.heap.size
  c0 : w.cell? ⟨b, 0, none⟩ = some v0
  c1 : w.cell? ⟨b, 1, none⟩ = some v1
  c2 : w.cell? ⟨b, 2, none⟩ = some v2
  c3 : w.cell? ⟨b, 3, none⟩ = some v3
  fz : ∀ k, w.frozen? ⟨b, k, none⟩ = false
theorem Bx.of {w w' : World} {b : Nat} {v0 v1 v2 v3 : Value} (h : Bx w b v0 v1 v2 v3) (hs : w.heap.size ≤ w'.heap.size) (hb : w'.heap[b]? = w.heap[b]?) : Bx w' b v0 v1 v2 v3 :=
  ⟨Nat.lt_of_lt_of_le h.lt hs, (World.cell?_of_block (a := ⟨b, 0, none⟩) hb).trans h.c0, (World.cell?_of_block (a := ⟨b, 1, none⟩) hb).trans h.c1, (World.cell?_of_block (a := ⟨b, 2, none⟩) hb).trans h.c2, (World.cell?_of_block (a := ⟨b, 3, none⟩) hb).trans h.c3, fun k => by have := h.fz k; simp only [World.frozen?, hb] at this ⊢; exact this⟩
theorem Bx.grown {w w' : World} {b N : Nat} {v0 v1 v2 v3 : Value} (h : Bx w b v0 v1 v2 v3) (hg : w.grownBy w' (some N)) (hN : b ≠ N) : Bx w' b v0 v1 v2 v3 :=
  h.of hg.size (hg.block b h.lt (by simpa using hN))
theorem Bx.next {w w' : World} {b L : Nat} {v0 v1 v2 v3 : Value} (h : Bx w b v0 v1 v2 v3) (hg : Below L w w') (hN : b < L) : Bx w' b v0 v1 v2 v3 :=
  h.of hg.size (hg.block b hN)
theorem Bx.other {w : World} {b b' k : Nat} {v0 v1 v2 v3 : Value} (h : Bx w b v0 v1 v2 v3) (v : Value) (hN : b ≠ b') : Bx (w.setCell ⟨b', k, none⟩ v) b v0 v1 v2 v3 :=
  h.of (by simp) (Below.heap_setCell _ _ _ _ hN)
theorem Bx.set2 {w : World} {b : Nat} {v0 v1 v2 v3 : Value} (h : Bx w b v0 v1 v2 v3) (v : Value) : Bx (w.setCell ⟨b, 2, none⟩ v) b v0 v1 v v3 :=
  ⟨by simpa using h.lt, (World.cell?_setCell_other _ _ _ _ (by simp)).trans h.c0, (World.cell?_setCell_other _ _ _ _ (by simp)).trans h.c1, World.cell?_setCell_same _ _ _ h.c2, (World.cell?_setCell_other _ _ _ _ (by simp)).trans h.c3, fun k => by rw [World.frozen?_setCell]; exact h.fz k⟩
theorem Bx.set3 {w : World} {b : Nat} {v0 v1 v2 v3 : Value} (h : Bx w b v0 v1 v2 v3) (v : Value) : Bx (w.setCell ⟨b, 3, none⟩ v) b v0 v1 v2 v :=
  ⟨by simpa using h.lt, (World.cell?_setCell_other _ _ _ _ (by simp)).trans h.c0, (World.cell?_setCell_other _ _ _ _ (by simp)).trans h.c1, (World.cell?_setCell_other _ _ _ _ (by simp)).trans h.c2, World.cell?_setCell_same _ _ _ h.c3, fun k => by rw [World.frozen?_setCell]; exact h.fz k⟩
theorem Bx.made (w : World) (v0 v1 v2 v3 : Value) (T : TypeId) : Bx (w.alloc (Obj.cells #[v0, v1, v2, v3] T)) w.heap.size v0 v1 v2 v3 :=
  ⟨by simp, by simp, by simp, by simp, by simp, fun k => World.frozen?_alloc_new w _ _ k⟩
theorem OwnK.setC {w : World} {a : Option Addr} {ks : List Nd} {S : Nat → Prop} {b k : Nat} (h : OwnK w a ks S) (v : Value) (hb : ∀ x, S x → x ≠ b) : OwnK (w.setCell ⟨b, k, none⟩ v) a ks S :=
  h.keep (fun x o hx => World.cell?_of_block (a := ⟨x, o, none⟩) (Below.heap_setCell _ _ _ _ (hb x hx))) (fun x o hx => by rw [World.frozen?_setCell])
theorem Rd.setC {w : World} {N B b k L : Nat} {ps : List Pce} (h : Rd w N B ps) (v : Value) (hN : N < L) (hb : L ≤ b) : Rd (w.setCell ⟨b, k, none⟩ v) N B ps :=
  h.nextB ((Below.refl L w).setCell (by exact hb) v) hN
theorem grownR_setB {w w1 : World} {N b k : Nat} (h : w.grownBy w1 (some N)) (v : Value) (hb : w.heap.size ≤ b) : w.grownBy (w1.setCell ⟨b, k, none⟩ v) (some N) :=
  grownR_below h ((Below.refl _ _).setCell (by exact hb) v)

set_option maxRecDepth 100000 in
set_option maxHeartbeats 4000000 in
theorem node_step (f : Nat) (ih : ∀ g, g < f → KdR g) : NdR f := by
  intro ps o N B w hf h hz hps
  have hlt := h.lt
  have HI : Hid (∀ g, g < f → KdR g) := ih
  clear ih
  obtain ⟨f', rfl⟩ : ∃ f', f = f' + 1 := ⟨f - 1, by omega⟩
  have bA : Below w.heap.size w (w.alloc (Obj.cells #[Value.string { data := #[] }, Value.string { data := #[] }, Value.string { data := #[] }, Value.slice none 0 0] 26)) := (Below.refl _ _).alloc (Nat.le_refl _) _
  have HA := hide (grownR_of (N := N) bA)
  cases ps with
  | nil =>
    have HQ := hide (next_none N B _ (h.next bA))
    clear h hz bA
    go_enter Tryz.func51, Tryz.ntmps51
    go_wp2_with fail
    refine HQ.out.mono ?_
    rintro e w1 ⟨rfl, b1⟩
    exact ⟨rfl, rfl, grownR_below HA.out (b1.mono HA.out.size)⟩
  | cons p r =>
    obtain ⟨k, nm, ns, has, s⟩ := p
    have HZ : Hid (∀ q ∈ r, q.s.size ≤ 1048576) := fun q hq => hz q (List.mem_cons_of_mem _ hq)
    have HQ := hide (next_some N B _ r _ (h.next bA))
    have hlr : ((⟨k, nm, ns, has, s⟩ : Pce) :: r).length = r.length + 1 := rfl
    rw [hlr] at hf hps
    clear h hz bA hlr
    go_enter Tryz.func51, Tryz.ntmps51
    go_wp2_with fail
    refine HQ.out.mono ?_
    rintro e w1 ⟨rfl, r1, g1⟩
    have hsz := g1.size
    simp at hsz
    have BR1 := hide ((Bx.made w (.string ⟨#[]⟩) (.string ⟨#[]⟩) (.string ⟨#[]⟩) (.slice none 0 0) 26).grown g1 (by omega))
    have R1 := hide r1
    have G1 := hide (grownR_trans HA.out g1)
    clear r1 g1 HQ HA
    unfold pcV
    simp only
    cases has
    · by_cases hk3 : k = 3
      · subst hk3
        have bP : Below w1.heap.size w1 ((w1.alloc (Obj.cells #[.int .i64 3, .string nm, .string ns, .bool false, .string s] 89)).alloc (Obj.cells #[.string o, .string nm, .string ⟨#[]⟩, .slice none 0 0] 26)) := ((Below.refl _ _).alloc (Nat.le_refl _) _).alloc (by simp) _
        have BR2 := hide (BR1.out.next bP (by omega))
        have R2 := hide (R1.out.next bP)
        have G2 := hide (grownR_below G1.out (bP.mono (by omega)))
        have bM : Bx ((w1.alloc (Obj.cells #[.int .i64 3, .string nm, .string ns, .bool false, .string s] 89)).alloc (Obj.cells #[.string o, .string nm, .string ⟨#[]⟩, .slice none 0 0] 26)) (w1.heap.size + 1) (.string o) (.string nm) (.string ⟨#[]⟩) (.slice none 0 0) := by
          have := Bx.made (w1.alloc (Obj.cells #[.int .i64 3, .string nm, .string ns, .bool false, .string s] 89)) (.string o) (.string nm) (.string ⟨#[]⟩) (.slice none 0 0) 26
          simpa using this
        have BM2 := hide bM
        clear bP bM
        obtain ⟨_, d0, d1, d2, d3, dz⟩ := BR2.out
        have HN : Hid (rdN (f' + 1) (⟨3, nm, ns, false, s⟩ :: r) o = some (.mk o nm ⟨#[]⟩ [], r)) := by show rdN _ _ _ = _; rw [rdN]; simp
        go_wp2
        refine bodyPost_ret (v := .agg #[.string o, .string nm, .string ⟨#[]⟩, .slice none 0 0]) (by simp [results, Tryz.results51, go_sem, d0, d1, d2, d3]) rfl ?_
        rw [HN.out]
        refine ⟨⟨⟨none, 0, rfl, .nil _ _⟩, ?_⟩, ?_⟩
        · exact (((R2.out.setC _ hlt (Nat.le_refl _)).setC _ hlt (Nat.le_refl _)).setC _ hlt (Nat.le_refl _)).setC _ hlt (Nat.le_refl _)
        · exact grownR_setB (grownR_setB (grownR_setB (grownR_setB G2.out _ (Nat.le_refl _)) _ (Nat.le_refl _)) _ (Nat.le_refl _)) _ (Nat.le_refl _)
      · by_cases hk1 : k = 1
        · subst hk1
          have bP : Below w1.heap.size w1 ((w1.alloc (Obj.cells #[.int .i64 1, .string nm, .string ns, .bool false, .string s] 89)).alloc (Obj.cells #[.string o, .string nm, .string ⟨#[]⟩, .slice none 0 0] 26)) := ((Below.refl _ _).alloc (Nat.le_refl _) _).alloc (by simp) _
          have BR2 := hide (BR1.out.next bP (by omega))
          have R2 := hide (R1.out.next bP)
          have G2 := hide (grownR_below G1.out (bP.mono (by omega)))
          have bM : Bx ((w1.alloc (Obj.cells #[.int .i64 1, .string nm, .string ns, .bool false, .string s] 89)).alloc (Obj.cells #[.string o, .string nm, .string ⟨#[]⟩, .slice none 0 0] 26)) (w1.heap.size + 1) (.string o) (.string nm) (.string ⟨#[]⟩) (.slice none 0 0) := by
            have := Bx.made (w1.alloc (Obj.cells #[.int .i64 1, .string nm, .string ns, .bool false, .string s] 89)) (.string o) (.string nm) (.string ⟨#[]⟩) (.slice none 0 0) 26
            simpa using this
          have BM2 := hide bM
          clear bP bM
          have HTX := hide (textAlone_any N B r _ R2.out)
          have HX0 : Hid (rdN (f' + 1) (⟨1, nm, ns, false, s⟩ :: r) o = match rdK f' (skipP (aloneP r).2) o with | some (ks, q :: r2) => if q.name = nm then some (.mk o nm (aloneP r).1 ks, r2) else none | _ => none) := by
            show rdN _ _ _ = _
            rw [rdN]
            simp
            rfl
          have hal := aloneP_len r
          have HZA : Hid (∀ q ∈ (aloneP r).2, q.s.size ≤ 1048576) := fun q hq => HZ.out q (aloneP_mem _ _ hq)
          obtain ⟨t, ht⟩ : ∃ t, (aloneP r).1 = t := ⟨_, rfl⟩
          obtain ⟨r', hr'⟩ : ∃ r', (aloneP r).2 = r' := ⟨_, rfl⟩
          rw [ht, hr'] at HTX HX0
          rw [hr'] at HZA hal
          clear ht hr' hk3
          go_wp2_with fail
          refine HTX.out.mono ?_
          rintro e w3 ⟨rfl, r3, g3⟩
          have BR3 := hide ((BR2.out.grown g3 (by omega)).other (b' := w1.heap.size + 1) (k := 2) (.string t) (by omega))
          have bm3 := BM2.out.grown g3 (by omega)
          have BM3 := hide (bm3.set2 (.string t))
          obtain ⟨_, e0, e1, e2, e3, ez⟩ := bm3
          have R3 := hide (r3.setC (b := w1.heap.size + 1) (k := 2) (.string t) hlt (by omega))
          have G3 := hide (grownR_setB (b := w1.heap.size + 1) (k := 2) (grownR_trans G2.out g3) (.string t) (by omega))
          have HKD := hide (HI.out f' (by omega) r' o N B _ (by omega) R3.out HZA.out (by omega))
          obtain ⟨x, hx⟩ : ∃ x, rdK f' (skipP r') o = x := ⟨_, rfl⟩
          have HLF := hide (fun ks q (e : rdK f' (skipP r') o = some (ks, q)) => ((rd_left f').2 _ _ _ _ e).2.2)
          have z3 := g3.size
          simp at z3
          rw [hx] at HKD HX0 HLF
          clear r3 g3 hx BR2 BM2 R2 G2 HTX HI R1 G1 BR1
          cases x with
          | none =>
            have HN : Hid (rdN (f' + 1) (⟨1, nm, ns, false, s⟩ :: r) o = none) := HX0.out
            go_wp2_with fail
            refine HKD.out.mono ?_
            rintro e w4 ⟨hn, g4⟩
            have e4 : e = gaveUp := hn
            subst e4
            refine ⟨rfl, ?_, grownR_trans G3.out g4⟩
            rw [HN.out]
            exact rfl
          | some y =>
            obtain ⟨ks, q⟩ := y
            have hq0 := HLF.out ks q rfl
            cases q with
            | nil => exact absurd rfl hq0
            | cons q0 r2 =>
              clear hq0 HLF
              have HX1 : Hid (rdN (f' + 1) (⟨1, nm, ns, false, s⟩ :: r) o = if q0.name = nm then some (.mk o nm t ks, r2) else none) := HX0.out
              clear HX0
              go_wp2_with fail
              refine HKD.out.mono ?_
              rintro e w4 ⟨⟨⟨a4, c4, rfl, o4⟩, r4⟩, g4⟩
              have BR4 := hide ((BR3.out.grown g4 (by omega)).other (b' := w1.heap.size + 1) (k := 3) (.slice a4 ks.length c4) (by omega))
              have bm4 := BM3.out.grown g4 (by omega)
              have BM4 := hide (bm4.set3 (.slice a4 ks.length c4))
              have R4 := hide (r4.setC (b := w1.heap.size + 1) (k := 3) (.slice a4 ks.length c4) hlt (by omega))
              have G4 := hide (grownR_setB (b := w1.heap.size + 1) (k := 3) (grownR_trans G3.out g4) (.slice a4 ks.length c4) (by omega))
              have O4 := hide (o4.setC (b := w1.heap.size + 1) (k := 3) (.slice a4 ks.length c4) (fun x hx => by have := hx.1; simp at this; omega))
              have HC := hide (close_any N B q0 r2 nm _ R4.out)
              have z4 := g4.size
              simp at z4
              clear e0 e1 e2 e3 ez r4 g4 o4 BR3 BM3 R3 G3 HKD
              obtain ⟨_, e0, e1, e2, e3, ez⟩ := bm4
              by_cases hqn : q0.name = nm
              · rw [if_pos hqn] at HX1 HC
                have HR5 := hide hqn
                clear hqn
                go_wp2_with fail
                refine HC.out.mono ?_
                rintro e w5 ⟨rfl, r5, g5⟩
                have R5 := hide (r5 HR5.out)
                have br5 := BR4.out.grown g5 (by omega)
                have bm5 := BM4.out.grown g5 (by omega)
                have G5 := hide (grownR_trans G4.out g5)
                have O5 := hide (O4.out.grown g5 (fun x hx => by have h1 := hx.1; have h2 := hx.2; simp at h1 h2 ⊢; omega))
                have z5 := g5.size
                simp at z5
                clear e0 e1 e2 e3 ez r5 g5 BR4 BM4 R4 G4 O4 HC
                obtain ⟨_, e0, e1, e2, e3, ez⟩ := bm5
                obtain ⟨_, d0, d1, d2, d3, dz⟩ := br5
                go_wp2
                refine bodyPost_ret (v := .agg #[.string o, .string nm, .string t, .slice a4 ks.length c4]) (by simp [results, Tryz.results51, go_sem, d0, d1, d2, d3]) rfl ?_
                rw [HX1.out]
                refine ⟨⟨⟨a4, c4, rfl, ?_⟩, ?_⟩, ?_⟩
                · refine OwnK.wide ((((O5.out.setC _ ?_).setC _ ?_).setC _ ?_).setC _ ?_) (fun x hx => ?_)
                  all_goals first | (intro x hx; have h1 := hx.1; simp at h1; omega) | (have h1 := hx.1; have h2 := hx.2; simp at h1; unfold Ivl; simp; omega)
                · exact (((R5.out.setC _ hlt (Nat.le_refl _)).setC _ hlt (Nat.le_refl _)).setC _ hlt (Nat.le_refl _)).setC _ hlt (Nat.le_refl _)
                · exact grownR_setB (grownR_setB (grownR_setB (grownR_setB G5.out _ (Nat.le_refl _)) _ (Nat.le_refl _)) _ (Nat.le_refl _)) _ (Nat.le_refl _)
              · rw [if_neg hqn] at HX1 HC
                clear hqn
                go_wp2_with fail
                refine HC.out.mono ?_
                rintro e w5 ⟨rfl, r5, g5⟩
                refine ⟨rfl, ?_, grownR_trans G4.out g5⟩
                rw [HX1.out]
                exact rfl
        · have q3 : (k == 3) = false := by rw [beq_eq_false_iff_ne]; exact hk3
          have q1 : (k == 1) = false := by rw [beq_eq_false_iff_ne]; exact hk1
          have bP : Below w1.heap.size w1 ((w1.alloc (Obj.cells #[.int .i64 k, .string nm, .string ns, .bool false, .string s] 89)).alloc (Obj.cells #[.string o, .string nm, .string ⟨#[]⟩, .slice none 0 0] 26)) := ((Below.refl _ _).alloc (Nat.le_refl _) _).alloc (by simp) _
          have BR2 := hide (BR1.out.next bP (by omega))
          have R2 := hide (R1.out.next bP)
          have G2 := hide (grownR_below G1.out (bP.mono (by omega)))
          have bM : Bx ((w1.alloc (Obj.cells #[.int .i64 k, .string nm, .string ns, .bool false, .string s] 89)).alloc (Obj.cells #[.string o, .string nm, .string ⟨#[]⟩, .slice none 0 0] 26)) (w1.heap.size + 1) (.string o) (.string nm) (.string ⟨#[]⟩) (.slice none 0 0) := by
            have := Bx.made (w1.alloc (Obj.cells #[.int .i64 k, .string nm, .string ns, .bool false, .string s] 89)) (.string o) (.string nm) (.string ⟨#[]⟩) (.slice none 0 0) 26
            simpa using this
          have BM2 := hide bM
          clear bP bM
          have HN : Hid (rdN (f' + 1) (⟨k, nm, ns, false, s⟩ :: r) o = none) := by show rdN _ _ _ = none; rw [rdN]; simp [hk3, hk1]
          clear hk3 hk1
          go_wp2
          rw [HN.out]
          exact ⟨rfl, rfl, G2.out⟩
    · by_cases hk3 : k = 3
      · subst hk3
        have bP : Below w1.heap.size w1 ((w1.alloc (Obj.cells #[.int .i64 3, .string nm, .string ns, .bool true, .string s] 89)).alloc (Obj.cells #[.string ns, .string nm, .string ⟨#[]⟩, .slice none 0 0] 26)) := ((Below.refl _ _).alloc (Nat.le_refl _) _).alloc (by simp) _
        have BR2 := hide (BR1.out.next bP (by omega))
        have R2 := hide (R1.out.next bP)
        have G2 := hide (grownR_below G1.out (bP.mono (by omega)))
        have bM : Bx ((w1.alloc (Obj.cells #[.int .i64 3, .string nm, .string ns, .bool true, .string s] 89)).alloc (Obj.cells #[.string ns, .string nm, .string ⟨#[]⟩, .slice none 0 0] 26)) (w1.heap.size + 1) (.string ns) (.string nm) (.string ⟨#[]⟩) (.slice none 0 0) := by
          have := Bx.made (w1.alloc (Obj.cells #[.int .i64 3, .string nm, .string ns, .bool true, .string s] 89)) (.string ns) (.string nm) (.string ⟨#[]⟩) (.slice none 0 0) 26
          simpa using this
        have BM2 := hide bM
        clear bP bM
        obtain ⟨_, d0, d1, d2, d3, dz⟩ := BR2.out
        have HN : Hid (rdN (f' + 1) (⟨3, nm, ns, true, s⟩ :: r) o = some (.mk ns nm ⟨#[]⟩ [], r)) := by show rdN _ _ _ = _; rw [rdN]; simp
        go_wp2
        refine bodyPost_ret (v := .agg #[.string ns, .string nm, .string ⟨#[]⟩, .slice none 0 0]) (by simp [results, Tryz.results51, go_sem, d0, d1, d2, d3]) rfl ?_
        rw [HN.out]
        refine ⟨⟨⟨none, 0, rfl, .nil _ _⟩, ?_⟩, ?_⟩
        · exact (((R2.out.setC _ hlt (Nat.le_refl _)).setC _ hlt (Nat.le_refl _)).setC _ hlt (Nat.le_refl _)).setC _ hlt (Nat.le_refl _)
        · exact grownR_setB (grownR_setB (grownR_setB (grownR_setB G2.out _ (Nat.le_refl _)) _ (Nat.le_refl _)) _ (Nat.le_refl _)) _ (Nat.le_refl _)
      · by_cases hk1 : k = 1
        · subst hk1
          have bP : Below w1.heap.size w1 ((w1.alloc (Obj.cells #[.int .i64 1, .string nm, .string ns, .bool true, .string s] 89)).alloc (Obj.cells #[.string ns, .string nm, .string ⟨#[]⟩, .slice none 0 0] 26)) := ((Below.refl _ _).alloc (Nat.le_refl _) _).alloc (by simp) _
          have BR2 := hide (BR1.out.next bP (by omega))
          have R2 := hide (R1.out.next bP)
          have G2 := hide (grownR_below G1.out (bP.mono (by omega)))
          have bM : Bx ((w1.alloc (Obj.cells #[.int .i64 1, .string nm, .string ns, .bool true, .string s] 89)).alloc (Obj.cells #[.string ns, .string nm, .string ⟨#[]⟩, .slice none 0 0] 26)) (w1.heap.size + 1) (.string ns) (.string nm) (.string ⟨#[]⟩) (.slice none 0 0) := by
            have := Bx.made (w1.alloc (Obj.cells #[.int .i64 1, .string nm, .string ns, .bool true, .string s] 89)) (.string ns) (.string nm) (.string ⟨#[]⟩) (.slice none 0 0) 26
            simpa using this
          have BM2 := hide bM
          clear bP bM
          have HTX := hide (textAlone_any N B r _ R2.out)
          have HX0 : Hid (rdN (f' + 1) (⟨1, nm, ns, true, s⟩ :: r) o = match rdK f' (skipP (aloneP r).2) ns with | some (ks, q :: r2) => if q.name = nm then some (.mk ns nm (aloneP r).1 ks, r2) else none | _ => none) := by
            show rdN _ _ _ = _
            rw [rdN]
            simp
            rfl
          have hal := aloneP_len r
          have HZA : Hid (∀ q ∈ (aloneP r).2, q.s.size ≤ 1048576) := fun q hq => HZ.out q (aloneP_mem _ _ hq)
          obtain ⟨t, ht⟩ : ∃ t, (aloneP r).1 = t := ⟨_, rfl⟩
          obtain ⟨r', hr'⟩ : ∃ r', (aloneP r).2 = r' := ⟨_, rfl⟩
          rw [ht, hr'] at HTX HX0
          rw [hr'] at HZA hal
          clear ht hr' hk3
          go_wp2_with fail
          refine HTX.out.mono ?_
          rintro e w3 ⟨rfl, r3, g3⟩
          have BR3 := hide ((BR2.out.grown g3 (by omega)).other (b' := w1.heap.size + 1) (k := 2) (.string t) (by omega))
          have bm3 := BM2.out.grown g3 (by omega)
          have BM3 := hide (bm3.set2 (.string t))
          obtain ⟨_, e0, e1, e2, e3, ez⟩ := bm3
          have R3 := hide (r3.setC (b := w1.heap.size + 1) (k := 2) (.string t) hlt (by omega))
          have G3 := hide (grownR_setB (b := w1.heap.size + 1) (k := 2) (grownR_trans G2.out g3) (.string t) (by omega))
          have HKD := hide (HI.out f' (by omega) r' ns N B _ (by omega) R3.out HZA.out (by omega))
          obtain ⟨x, hx⟩ : ∃ x, rdK f' (skipP r') ns = x := ⟨_, rfl⟩
          have HLF := hide (fun ks q (e : rdK f' (skipP r') ns = some (ks, q)) => ((rd_left f').2 _ _ _ _ e).2.2)
          have z3 := g3.size
          simp at z3
          rw [hx] at HKD HX0 HLF
          clear r3 g3 hx BR2 BM2 R2 G2 HTX HI R1 G1 BR1
          cases x with
          | none =>
            have HN : Hid (rdN (f' + 1) (⟨1, nm, ns, true, s⟩ :: r) o = none) := HX0.out
            go_wp2_with fail
            refine HKD.out.mono ?_
            rintro e w4 ⟨hn, g4⟩
            have e4 : e = gaveUp := hn
            subst e4
            refine ⟨rfl, ?_, grownR_trans G3.out g4⟩
            rw [HN.out]
            exact rfl
          | some y =>
            obtain ⟨ks, q⟩ := y
            have hq0 := HLF.out ks q rfl
            cases q with
            | nil => exact absurd rfl hq0
            | cons q0 r2 =>
              clear hq0 HLF
              have HX1 : Hid (rdN (f' + 1) (⟨1, nm, ns, true, s⟩ :: r) o = if q0.name = nm then some (.mk ns nm t ks, r2) else none) := HX0.out
              clear HX0
              go_wp2_with fail
              refine HKD.out.mono ?_
              rintro e w4 ⟨⟨⟨a4, c4, rfl, o4⟩, r4⟩, g4⟩
              have BR4 := hide ((BR3.out.grown g4 (by omega)).other (b' := w1.heap.size + 1) (k := 3) (.slice a4 ks.length c4) (by omega))
              have bm4 := BM3.out.grown g4 (by omega)
              have BM4 := hide (bm4.set3 (.slice a4 ks.length c4))
              have R4 := hide (r4.setC (b := w1.heap.size + 1) (k := 3) (.slice a4 ks.length c4) hlt (by omega))
              have G4 := hide (grownR_setB (b := w1.heap.size + 1) (k := 3) (grownR_trans G3.out g4) (.slice a4 ks.length c4) (by omega))
              have O4 := hide (o4.setC (b := w1.heap.size + 1) (k := 3) (.slice a4 ks.length c4) (fun x hx => by have := hx.1; simp at this; omega))
              have HC := hide (close_any N B q0 r2 nm _ R4.out)
              have z4 := g4.size
              simp at z4
              clear e0 e1 e2 e3 ez r4 g4 o4 BR3 BM3 R3 G3 HKD
              obtain ⟨_, e0, e1, e2, e3, ez⟩ := bm4
              by_cases hqn : q0.name = nm
              · rw [if_pos hqn] at HX1 HC
                have HR5 := hide hqn
                clear hqn
                go_wp2_with fail
                refine HC.out.mono ?_
                rintro e w5 ⟨rfl, r5, g5⟩
                have R5 := hide (r5 HR5.out)
                have br5 := BR4.out.grown g5 (by omega)
                have bm5 := BM4.out.grown g5 (by omega)
                have G5 := hide (grownR_trans G4.out g5)
                have O5 := hide (O4.out.grown g5 (fun x hx => by have h1 := hx.1; have h2 := hx.2; simp at h1 h2 ⊢; omega))
                have z5 := g5.size
                simp at z5
                clear e0 e1 e2 e3 ez r5 g5 BR4 BM4 R4 G4 O4 HC
                obtain ⟨_, e0, e1, e2, e3, ez⟩ := bm5
                obtain ⟨_, d0, d1, d2, d3, dz⟩ := br5
                go_wp2
                refine bodyPost_ret (v := .agg #[.string ns, .string nm, .string t, .slice a4 ks.length c4]) (by simp [results, Tryz.results51, go_sem, d0, d1, d2, d3]) rfl ?_
                rw [HX1.out]
                refine ⟨⟨⟨a4, c4, rfl, ?_⟩, ?_⟩, ?_⟩
                · refine OwnK.wide ((((O5.out.setC _ ?_).setC _ ?_).setC _ ?_).setC _ ?_) (fun x hx => ?_)
                  all_goals first | (intro x hx; have h1 := hx.1; simp at h1; omega) | (have h1 := hx.1; have h2 := hx.2; simp at h1; unfold Ivl; simp; omega)
                · exact (((R5.out.setC _ hlt (Nat.le_refl _)).setC _ hlt (Nat.le_refl _)).setC _ hlt (Nat.le_refl _)).setC _ hlt (Nat.le_refl _)
                · exact grownR_setB (grownR_setB (grownR_setB (grownR_setB G5.out _ (Nat.le_refl _)) _ (Nat.le_refl _)) _ (Nat.le_refl _)) _ (Nat.le_refl _)
              · rw [if_neg hqn] at HX1 HC
                clear hqn
                go_wp2_with fail
                refine HC.out.mono ?_
                rintro e w5 ⟨rfl, r5, g5⟩
                refine ⟨rfl, ?_, grownR_trans G4.out g5⟩
                rw [HX1.out]
                exact rfl
        · have q3 : (k == 3) = false := by rw [beq_eq_false_iff_ne]; exact hk3
          have q1 : (k == 1) = false := by rw [beq_eq_false_iff_ne]; exact hk1
          have bP : Below w1.heap.size w1 ((w1.alloc (Obj.cells #[.int .i64 k, .string nm, .string ns, .bool true, .string s] 89)).alloc (Obj.cells #[.string ns, .string nm, .string ⟨#[]⟩, .slice none 0 0] 26)) := ((Below.refl _ _).alloc (Nat.le_refl _) _).alloc (by simp) _
          have BR2 := hide (BR1.out.next bP (by omega))
          have R2 := hide (R1.out.next bP)
          have G2 := hide (grownR_below G1.out (bP.mono (by omega)))
          have bM : Bx ((w1.alloc (Obj.cells #[.int .i64 k, .string nm, .string ns, .bool true, .string s] 89)).alloc (Obj.cells #[.string ns, .string nm, .string ⟨#[]⟩, .slice none 0 0] 26)) (w1.heap.size + 1) (.string ns) (.string nm) (.string ⟨#[]⟩) (.slice none 0 0) := by
            have := Bx.made (w1.alloc (Obj.cells #[.int .i64 k, .string nm, .string ns, .bool true, .string s] 89)) (.string ns) (.string nm) (.string ⟨#[]⟩) (.slice none 0 0) 26
            simpa using this
          have BM2 := hide bM
          clear bP bM
          have HN : Hid (rdN (f' + 1) (⟨k, nm, ns, true, s⟩ :: r) o = none) := by show rdN _ _ _ = none; rw [rdN]; simp [hk3, hk1]
          clear hk3 hk1
          go_wp2
          rw [HN.out]
          exact ⟨rfl, rfl, G2.out⟩
end Go.Proofs.YtccehdlgpbeijaaGreatDoor
